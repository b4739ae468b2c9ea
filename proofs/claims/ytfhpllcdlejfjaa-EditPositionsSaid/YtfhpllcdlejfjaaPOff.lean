/- The contract of the reference's Offset. Conditions: texts of at most 100000 bytes. -/
import Derived.Test.YtfhpllcdlejfjaaPLine
namespace Go.Proofs.Ytfhpllcdlejfjaa
open Go.RowKit Go.Shelf
set_option linter.unusedVariables false

theorem lf_bord {Z : List Int} {i : Nat} (hi : i ≤ Z.length) : ∃ U, Bord Z (lf Z i).2 U := by
  induction i with
  | zero => exact ⟨0, Bord.zero _⟩
  | succ i ih =>
    by_cases h10 : ab Z i = 10
    · rw [lf_nl h10]
      obtain ⟨U, hU⟩ := nl_bord (by omega) h10
      have hne : Z.drop i ≠ [] := by intro e; have := congrArg List.length e; rw [List.length_drop] at this; simp at this; omega
      have := hU.snoc hne
      rw [chr_ascii (by rw [drop_zero_ab, h10]; decide)] at this
      exact ⟨_, this⟩
    · rw [lf_no h10]; exact ih (by omega)
/-- Offsets in the line that begins at g and ends at t. -/
theorem pos_in_line {Z : List Int} {g t k j u : Nat} (hg : lf Z g = (k, g)) (ht : lf Z t = (k, g)) (htl : t ≤ Z.length) (hj : g + j ≤ t) (h : Bord (Z.drop g) j u) : Pos Z (g + j) k u := by
  obtain ⟨U, hU⟩ := lf_bord (Z := Z) (i := g) (by omega)
  rw [hg] at hU
  have hl : lf Z (g + j) = lf Z g := by
    refine lf_line j ?_
    have m1 := lf_mono Z g j
    obtain ⟨n, rfl⟩ : ∃ n, t = g + j + n := ⟨t - (g + j), by omega⟩
    have m2 := lf_mono Z (g + j) n
    rw [ht] at m2
    rw [hg] at m1 ⊢
    simp only at m1 m2 ⊢
    omega
  refine ⟨⟨_, hU.add h⟩, by rw [hl, hg], ?_⟩
  rw [hl, hg, Nat.add_sub_cancel_left]
  exact h
theorem bord_in_line {Z : List Int} {g t k o u v : Nat} (ht : lf Z t = (k, g)) (he : Eol Z t k v) (h : Pos Z o k u) : g ≤ o ∧ o ≤ t ∧ Bord ((Z.drop g).take (t - g)) (o - g) u := by
  have hs := h.same he.1
  have hb := h.2.2
  have hle := (lf_le Z o).1
  rw [hs, ht] at hb hle
  obtain ⟨E, v', h1, h2, _⟩ := h.eol
  obtain ⟨rfl, _⟩ := h1.det he
  exact ⟨hle, h2, hb.of_take (by omega)⟩
theorem bordI_at {X : List Int} {i : Nat} (h : i < (bordI X).length) : ∃ b u, (bordI X)[i]?.getD 0 = ((b : Nat) : Int) ∧ Bord X b u := by
  have h2 : i < (bords 0 X).length := by simpa [bordI] using h
  obtain ⟨j, u, hb, he⟩ := mem_bords.1 (List.getElem_mem h2)
  exact ⟨j, u, by simp [bordI, h2, he], hb⟩
theorem bordI_has {X : List Int} {j u : Nat} (h : Bord X j u) : ∃ i, i < (bordI X).length ∧ (bordI X)[i]?.getD 0 = ((j : Nat) : Int) := by
  obtain ⟨i, hi, he⟩ := List.mem_iff_getElem.1 (mem_bordI.2 ⟨u, h⟩)
  exact ⟨i, hi, by simp [hi, he]⟩
theorem bordI_len (X : List Int) : (bordI X).length ≤ X.length + 1 := by have := bords_len 0 X; simp [bordI]; omega
/-- What the line that begins at g and ends at t tells of Offset. -/
theorem line_spec {Z : List Int} {g t k v x : Nat} (hgt : g ≤ t) (htl : t ≤ Z.length) (hg : lf Z g = (k, g)) (ht : lf Z t = (k, g)) (he : Eol Z t k v) :
    (v < x → OffSpec Z (k : Int) (x : Int) 0 5) ∧
    (∀ j u, Bord ((Z.drop g).take (t - g)) j u → g + j ≤ t ∧ unis ((Z.drop g).take j) = u ∧ (u = x → OffSpec Z (k : Int) (x : Int) (g + j) 0)) ∧
    (x ≤ v → (∀ j u, Bord ((Z.drop g).take (t - g)) j u → u ≠ x) → OffSpec Z (k : Int) (x : Int) 0 1) := by
  have hbe : Bord (Z.drop g) (t - g) v := by have := he.1.2.2; rwa [ht] at this
  refine ⟨fun hv => .inr (.inr ⟨rfl, rfl, ?_⟩), fun j u hj => ?_, fun hv hno => .inr (.inl ⟨rfl, rfl, k, x, t, v, rfl, rfl, he, hv, ?_⟩)⟩
  · rintro ⟨l', u', E, v', hl, hu, h1, h2⟩
    obtain rfl : k = l' := by omega
    obtain ⟨_, rfl⟩ := he.det h1
    omega
  · have hjl := hj.le
    rw [List.length_take] at hjl
    have hb := hbe.of_take_back hj
    refine ⟨by omega, hb.unis_take, ?_⟩
    rintro rfl
    exact .inl ⟨rfl, k, u, rfl, rfl, pos_in_line hg ht htl (by omega) hb⟩
  · rintro ⟨o, ho⟩
    obtain ⟨h1, h2, h3⟩ := bord_in_line ht he ho
    exact hno _ _ h3 rfl
/-- A call of Offset returns what it should, and what lay lies as it lay. -/
def OffPost (s : ByteArray) (l u : Int) (w : World) (e : Ending) (w' : World) : Prop :=
  ∃ (o : Nat) (er : Int), e = .returned (.tuple #[.int .i64 (o : Int), .int .i64 er]) ∧ OffSpec (sb s) l u o er ∧ Below w.heap.size w w'

end Go.Proofs.Ytfhpllcdlejfjaa
