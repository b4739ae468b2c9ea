/- Contracts of the reference's Units, Lines, Borders and Has. Conditions: texts of at most 100000 bytes, lists of at most 100000 integers. -/
import Derived.Test.YtgfhhpodcnohpaaDoorPChar
namespace Go.Proofs.YtgfhhpodcnohpaaDoor
open Go.RowKit Go.Shelf
set_option linter.unusedVariables false

/-- The offsets behind the line feeds; i is the offset of the head. -/
def lnsF (i : Nat) : List Int → List Int
  | [] => []
  | c :: t => if c = 10 then ((i + 1 : Nat) : Int) :: lnsF (i + 1) t else lnsF (i + 1) t
def lns (Z : List Int) : List Int := 0 :: lnsF 0 Z
def bordI (Z : List Int) : List Int := (bords 0 Z).map (fun n : Nat => (n : Int))
theorem drop_ab {Z : List Int} {i : Nat} (h : i < Z.length) : Z.drop i = ab Z i :: Z.drop (i + 1) := by
  rw [List.drop_eq_getElem_cons h]; simp [ab, h]
theorem lnsF_len (i : Nat) (Z : List Int) : (lnsF i Z).length ≤ Z.length := by
  induction Z generalizing i with
  | nil => simp [lnsF]
  | cons c t ih =>
    have := ih (i + 1)
    unfold lnsF
    split
    · simp; omega
    · simp; omega
theorem bords_len (i : Nat) (Z : List Int) : (bords i Z).length ≤ Z.length + 1 := by
  induction hn : Z.length using Nat.strongRecOn generalizing Z i with
  | _ n ih =>
    by_cases h : Z = []
    · subst h; rw [bords_nil]; simp
    · have h1 := chr_pos Z
      have h2 := List.length_pos_iff.2 h
      have := ih (Z.drop (chr Z).1).length (by rw [List.length_drop]; omega) (i + (chr Z).1) _ rfl
      rw [bords_cons i h]
      rw [List.length_drop] at this
      simp; omega

/-- A row of integers of a call's own, and what lay lies as it lay. -/
def OutZ (P : Nat) (w wr : World) (ov : Value) (zs : List Int) : Prop := wr.ownsRow P 3 1 ov zs.length (zs.map (Value.int .i64)) ∧ Below P w wr
theorem outz_step1 {P k : Nat} {w wr w3 : World} {ov v' : Value} {zs E : List Int} {tmp : Obj} (h : OutZ P w wr ov zs) (hP : P ≤ wr.heap.size) (hown3 : w3.ownsRow P 3 1 v' k (zs.map (Value.int .i64) ++ E.map (Value.int .i64))) (hg : (wr.alloc tmp).grownBy w3 ov.ownBlock) : OutZ P w w3 v' (zs ++ E) := by
  rw [← List.map_append] at hown3
  have hk : k = (zs ++ E).length := by have := hown3.1; rw [List.length_map] at this; omega
  subst hk
  exact ⟨hown3, h.2.trans (((Below.refl _ _).alloc hP _).grown hg (by simp; omega) (fun g eg => (h.1.lt g eg).1))⟩
theorem own_litZ (w : World) (x : Int) : (w.alloc (.cells #[.int .i64 x] 3)).ownsRow w.heap.size 3 1 (.slice (some ⟨w.heap.size, 0, none⟩) 1 1) 1 ([x].map (Value.int .i64)) :=
  ⟨rfl, .inr ⟨w.heap.size, 1, #[.int .i64 x], rfl, Nat.le_refl _, World.alloc_heap_new w _, Nat.le_refl _, by unfold maxLen; omega, rfl, rfl⟩⟩

set_option maxRecDepth 100000 in
set_option maxHeartbeats 1000000 in
theorem rlines_any (s : ByteArray) (w : World) (hs : s.size ≤ 100000) :
    Calls Tryd.prog 33 #[.string s] w (NewRow .i64 3 w (lns (sb s))) := by
  obtain ⟨i3, hi3, hy0, hy1, hy2⟩ := info_parts info3
  obtain ⟨P, hP⟩ : ∃ P, w.heap.size = P := ⟨_, rfl⟩
  obtain ⟨Q, hQ⟩ : ∃ Q, lns (sb s) = Q := ⟨_, rfl⟩
  have hQl : Q.length ≤ 100001 := by have := lnsF_len 0 (sb s); rw [sb_len] at this; rw [← hQ]; simp [lns]; omega
  have hq0 : Q = [0] ++ lnsF 0 ((sb s).drop 0) := by rw [← hQ, List.drop_zero]; rfl
  have HP := Lib.hid hP; have HQ := Lib.hid hQ; have HQ0 := Lib.hid hq0
  rw [hQ]
  have H0 : Hid (OutZ P w (w.alloc (.cells #[.int .i64 0] 3)) (.slice (some ⟨P, 0, none⟩) 1 1) [0]) := by
    rw [← hP]; exact ⟨own_litZ w 0, (Below.refl _ _).alloc (Nat.le_refl _) _⟩
  clear hP hQ hq0
  go_enter Tryd.func33, Tryd.ntmps33
  go_wp2
  rw [HP.out]
  go_loopw [3, 4] (fun o q wr => ∃ (i : Nat) (ov : Value) (pre : List Int), i ≤ s.size ∧ q = .int .i64 (i : Int) ∧ o = ov ∧ Hid (Q = pre ++ lnsF i ((sb s).drop i)) ∧ Hid (OutZ P w wr ov pre)) (fun _ q _ => s.size - (intOf q).toNat)
  case atStart => exact ⟨0, _, [0], by omega, rfl, rfl, HQ0, H0⟩
  case round =>
    obtain ⟨i, ov, pre, hi, rfl, rfl, HI, HR⟩ := hrel
    by_cases hlt : i < s.size
    · have hd := drop_ab (Z := sb s) (i := i) (by rw [sb_len]; exact hlt)
      have hg := sb_get s i hlt
      have hI := HI.out
      rw [hd, hg] at hI
      by_cases h10 : ((s[i]'hlt).toNat : Int) = 10
      · have hb10 : (((s[i]'hlt).toNat : Int) == 10) = true := by simp; omega
        have HI2 : Hid (Q = (pre ++ [((i + 1 : Nat) : Int)]) ++ lnsF (i + 1) ((sb s).drop (i + 1))) := Lib.hid (by rw [hI, lnsF, if_pos h10]; simp)
        have hown := HR.out.1
        have hP2 : P ≤ wr.heap.size := by have := HR.out.2.size; have := HP.out; omega
        obtain ⟨N, hN⟩ : ∃ N, pre.length = N := ⟨_, rfl⟩
        rw [hN] at hown
        have hNl : N ≤ 100001 := by have h1 := congrArg List.length HI.out; rw [List.length_append] at h1; omega
        have HO := Lib.hid hown
        clear hd hg hI h10 hown hN
        go_wp2_with (at_builtin; refine wpList_append_own _ rfl _ _ 22 rfl P 3 i3 (.int .i64 0) 1 8 Tryd.underlying22 hi3 hy0 hy1 hy2 rfl (by decide) u3 N (pre.map (Value.int .i64)) rfl (HO.out.alloc _) ⟨wr.heap.size, 0, none⟩ 1 1 [.int .i64 ((i : Int) + 1)] rfl rfl (cell_one_new _ _ _) (fun x hx => by simp at hx; subst hx; rfl) (by unfold maxLen; omega) (by omega) (by simp; omega) ?_; intro v' w3 hown3 hgrow3 _; obtain ⟨A3, k3, rfl⟩ := own_slice hown3)
        have H3 : Hid (OutZ P w w3 (.slice A3 (N + 1) k3) (pre ++ [((i + 1 : Nat) : Int)])) := outz_step1 (E := [((i + 1 : Nat) : Int)]) HR.out hP2 (by push_cast; exact hown3) hgrow3
        clear hown3 hgrow3
        go_wp2
        go_roundw
        case rel => exact ⟨i + 1, _, _, by omega, by go_num, rfl, HI2, H3⟩
        case measure => simp [intOf]; omega
      · have hb10 : (((s[i]'hlt).toNat : Int) == 10) = false := by simp; omega
        have HI2 : Hid (Q = pre ++ lnsF (i + 1) ((sb s).drop (i + 1))) := Lib.hid (by rw [hI, lnsF, if_neg h10])
        clear hd hg hI h10
        go_wp2
        go_roundw
        case rel => exact ⟨i + 1, _, _, by omega, by go_num, rfl, HI2, HR⟩
        case measure => simp [intOf]; omega
    · have hfin : Q = pre := by
        have := HI.out
        rwa [List.drop_eq_nil_of_le (by rw [sb_len]; omega), lnsF, List.append_nil] at this
      subst hfin
      go_wp2
      go_ret
      exact ⟨u3, rfl, by rw [HP.out]; exact HR.out.1, by rw [HP.out]; exact HR.out.2⟩

end Go.Proofs.YtgfhhpodcnohpaaDoor
