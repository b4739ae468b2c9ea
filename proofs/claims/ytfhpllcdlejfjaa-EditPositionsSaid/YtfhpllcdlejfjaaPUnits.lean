/- Contracts of the reference's Units, Lines, Borders and Has. Conditions: texts of at most 100000 bytes, lists of at most 100000 integers. -/
import Derived.Test.YtfhpllcdlejfjaaPChar
namespace Go.Proofs.Ytfhpllcdlejfjaa
open Go.RowKit Go.Shelf
set_option linter.unusedVariables false

/-- The offsets behind the line feeds; i is the offset of the head. -/
def lnsF (i : Nat) : List Int → List Int
  | [] => []
  | c :: t => if c = 10 then ((i + 1 : Nat) : Int) :: lnsF (i + 1) t else lnsF (i + 1) t
def lns (Z : List Int) : List Int := 0 :: lnsF 0 Z
def bordI (Z : List Int) : List Int := (bords 0 Z).map (fun n : Nat => (n : Int))
theorem drop_ab {Z : List Int} {i : Nat} (h : i < Z.length) : Z.drop i = ab Z i :: Z.drop (i + 1) := by
  rw [List.drop_eq_getElem_cons h]; simp [ab, h]
theorem lnsF_len (i : Nat) (Z : List Int) : (lnsF i Z).length ≤ Z.length := by
  induction Z generalizing i with
  | nil => simp [lnsF]
  | cons c t ih =>
    have := ih (i + 1)
    unfold lnsF
    split
    · simp; omega
    · simp; omega
theorem bords_len (i : Nat) (Z : List Int) : (bords i Z).length ≤ Z.length + 1 := by
  induction hn : Z.length using Nat.strongRecOn generalizing Z i with
  | _ n ih =>
    by_cases h : Z = []
    · subst h; rw [bords_nil]; simp
    · have h1 := chr_pos Z
      have h2 := List.length_pos_iff.2 h
      have := ih (Z.drop (chr Z).1).length (by rw [List.length_drop]; omega) (i + (chr Z).1) _ rfl
      rw [bords_cons i h]
      rw [List.length_drop] at this
      simp; omega

/-- A row of integers of a call's own, and what lay lies as it lay. -/
def OutZ (P : Nat) (w wr : World) (ov : Value) (zs : List Int) : Prop := wr.ownsRow P 3 1 ov zs.length (zs.map (Value.int .i64)) ∧ Below P w wr
theorem outz_step1 {P k : Nat} {w wr w3 : World} {ov v' : Value} {zs E : List Int} {tmp : Obj} (h : OutZ P w wr ov zs) (hP : P ≤ wr.heap.size) (hown3 : w3.ownsRow P 3 1 v' k (zs.map (Value.int .i64) ++ E.map (Value.int .i64))) (hg : (wr.alloc tmp).grownBy w3 ov.ownBlock) : OutZ P w w3 v' (zs ++ E) := by
  rw [← List.map_append] at hown3
  have hk : k = (zs ++ E).length := by have := hown3.1; rw [List.length_map] at this; omega
  subst hk
  exact ⟨hown3, h.2.trans (((Below.refl _ _).alloc hP _).grown hg (by simp; omega) (fun g eg => (h.1.lt g eg).1))⟩
theorem own_litZ (w : World) (x : Int) : (w.alloc (.cells #[.int .i64 x] 3)).ownsRow w.heap.size 3 1 (.slice (some ⟨w.heap.size, 0, none⟩) 1 1) 1 ([x].map (Value.int .i64)) :=
  ⟨rfl, .inr ⟨w.heap.size, 1, #[.int .i64 x], rfl, Nat.le_refl _, World.alloc_heap_new w _, Nat.le_refl _, by unfold maxLen; omega, rfl, rfl⟩⟩

end Go.Proofs.Ytfhpllcdlejfjaa
