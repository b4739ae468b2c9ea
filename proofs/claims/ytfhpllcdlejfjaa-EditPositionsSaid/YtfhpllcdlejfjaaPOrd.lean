/- The mathematics of positions: their order, and borders. It has no conditions. -/
import Derived.Test.YtfhpllcdlejfjaaPLine
import Derived.Test.YtfhpllcdlejfjaaPOff
namespace Go.Proofs.Ytfhpllcdlejfjaa
open Go.RowKit
set_option linter.unusedVariables false

theorem at_border {Z : List Int} {x l u : Nat} {e : Int} {U : Nat} (h : AtSpec Z (x : Int) l u e) (hb : Bord Z x U) : e = 0 ∧ Pos Z x l u := by
  rcases h with ⟨rfl, rfl, rfl, h⟩ | ⟨rfl, rfl, rfl, i, hi, h1, h2⟩ | ⟨rfl, i, hi, h⟩
  · have := hb.le; omega
  · obtain rfl : x = i := by omega
    exact absurd ⟨U, hb⟩ h2
  · obtain rfl : x = i := by omega
    exact ⟨rfl, h⟩
theorem pos_lt {Z : List Int} {x y l u m v : Nat} (h : Pos Z x l u) (k : Pos Z y m v) (hxy : x < y) : l < m ∨ (l = m ∧ u < v) := by
  obtain ⟨n, rfl⟩ : ∃ n, y = x + n := ⟨y - x, by omega⟩
  have hm := lf_mono Z x n
  rw [← h.2.1, ← k.2.1] at hm
  rcases Nat.lt_or_ge l m with h1 | h1
  · exact .inl h1
  · obtain rfl : l = m := by omega
    refine .inr ⟨rfl, ?_⟩
    have e := h.same k
    have a := h.2.2
    have b := k.2.2
    have c := (lf_le Z x).1
    rw [e] at a c
    exact a.lt b (by omega)
/-- How two positions compare. -/
theorem pos_cmp {Z : List Int} {x y l u m v : Nat} (h : Pos Z x l u) (k : Pos Z y m v) :
    (x < y ∧ l < m) ∨ (x < y ∧ l = m ∧ u < v) ∨ (x = y ∧ l = m ∧ u = v) ∨ (y < x ∧ l = m ∧ v < u) ∨ (y < x ∧ m < l) := by
  rcases Nat.lt_trichotomy x y with h1 | rfl | h1
  · rcases pos_lt h k h1 with h2 | ⟨h2, h3⟩
    · exact .inl ⟨h1, h2⟩
    · exact .inr (.inl ⟨h1, h2, h3⟩)
  · exact .inr (.inr (.inl ⟨rfl, h.det k⟩))
  · rcases pos_lt k h h1 with h2 | ⟨h2, h3⟩
    · exact .inr (.inr (.inr (.inr ⟨h1, h2⟩)))
    · exact .inr (.inr (.inr (.inl ⟨h1, h2.symm, h3⟩)))
theorem bordI_pos (Z : List Int) : 1 ≤ (bordI Z).length := by
  obtain ⟨i, hi, _⟩ := bordI_has (Bord.zero Z)
  omega

end Go.Proofs.Ytfhpllcdlejfjaa
