/- The mathematics of Diff: the longest common prefix and suffix determine one edit, which leads from one text to the other. It has no conditions. -/
import Derived.Test.YtfhpllcdlejfjaaEMath
namespace Go.Proofs.Ytfhpllcdlejfjaa
open Go.RowKit
set_option linter.unusedVariables false

/-- p is the length of the longest common prefix. -/
def Pre (a b : List Int) (p : Nat) : Prop := p ≤ a.length ∧ p ≤ b.length ∧ (∀ i, i < p → a[i]? = b[i]?) ∧ (p = a.length ∨ p = b.length ∨ a[p]? ≠ b[p]?)
/-- q is the length of the longest common suffix behind p. -/
def Suf (a b : List Int) (p q : Nat) : Prop := p + q ≤ a.length ∧ p + q ≤ b.length ∧ (∀ i, i < q → a[a.length - 1 - i]? = b[b.length - 1 - i]?) ∧ (p + q = a.length ∨ p + q = b.length ∨ a[a.length - 1 - q]? ≠ b[b.length - 1 - q]?)
theorem Pre.det {a b : List Int} {p p' : Nat} (h : Pre a b p) (k : Pre a b p') : p = p' := by
  obtain ⟨h1, h2, h3, h4⟩ := h
  obtain ⟨k1, k2, k3, k4⟩ := k
  rcases Nat.lt_trichotomy p p' with g | g | g
  · rcases h4 with h | h | h
    · omega
    · omega
    · exact absurd (k3 p g) h
  · exact g
  · rcases k4 with h | h | h
    · omega
    · omega
    · exact absurd (h3 p' g) h
theorem Suf.det {a b : List Int} {p q q' : Nat} (h : Suf a b p q) (k : Suf a b p q') : q = q' := by
  obtain ⟨h1, h2, h3, h4⟩ := h
  obtain ⟨k1, k2, k3, k4⟩ := k
  rcases Nat.lt_trichotomy q q' with g | g | g
  · rcases h4 with h | h | h
    · omega
    · omega
    · exact absurd (k3 q g) h
  · exact g
  · rcases k4 with h | h | h
    · omega
    · omega
    · exact absurd (h3 q' g) h
/-- The edit of Diff. -/
def dif (a b : List Int) (p q : Nat) : Ee := ⟨p, a.length - q, (b.drop p).take (b.length - q - p)⟩
theorem dif_vld {a b : List Int} {p q : Nat} (hp : Pre a b p) (hq : Suf a b p q) : Vld a.length 0 [dif a b p q] := by
  obtain ⟨k1, k2, _, _⟩ := hq
  exact ⟨Nat.zero_le _, by simp only [dif]; omega, by simp only [dif]; omega, by simp only [dif, Vld]; omega⟩
/-- The edit leads to the second text. -/
theorem dif_appl {a b : List Int} {p q : Nat} (hp : Pre a b p) (hq : Suf a b p q) : appl a 0 [dif a b p q] = b := by
  obtain ⟨h1, h2, h3, _⟩ := hp
  obtain ⟨k1, k2, k3, _⟩ := hq
  have e1 : a.take p = b.take p := by
    apply List.ext_getElem?
    intro i
    rw [List.getElem?_take, List.getElem?_take]
    split
    · exact h3 i (by assumption)
    · rfl
  have e2 : a.drop (a.length - q) = b.drop (b.length - q) := by
    apply List.ext_getElem?
    intro i
    rw [List.getElem?_drop, List.getElem?_drop]
    by_cases hi : i < q
    · have := k3 (q - 1 - i) (by omega)
      rw [show a.length - 1 - (q - 1 - i) = a.length - q + i by omega, show b.length - 1 - (q - 1 - i) = b.length - q + i by omega] at this
      exact this
    · rw [List.getElem?_eq_none (by omega), List.getElem?_eq_none (by omega)]
  simp only [appl, dif, List.drop_zero, Nat.sub_zero]
  rw [e1, e2]
  have e3 : b.drop (b.length - q) = (b.drop p).drop (b.length - q - p) := by rw [List.drop_drop]; congr 1; omega
  rw [e3, List.take_append_drop, List.take_append_drop]
/-- What the edit replaces and its text differ, at the first byte and at the last one where both have one. -/
theorem dif_ends {a b : List Int} {p q : Nat} (hp : Pre a b p) (hq : Suf a b p q) (h0 : p + q < a.length) (h1 : p + q < b.length) : a[p]? ≠ b[p]? ∧ a[a.length - 1 - q]? ≠ b[b.length - 1 - q]? := by
  obtain ⟨_, _, _, h⟩ := hp
  obtain ⟨_, _, _, k⟩ := hq
  constructor
  · rcases h with h | h | h
    · omega
    · omega
    · exact h
  · rcases k with k | k | k
    · omega
    · omega
    · exact k
theorem dif_ne {a b : List Int} {p q : Nat} (hp : Pre a b p) (hq : Suf a b p q) (hab : a ≠ b) : ¬ (p + q = a.length ∧ p + q = b.length) := by
  rintro ⟨e1, e2⟩
  have h := dif_appl hp hq
  simp only [appl, dif, List.drop_zero, Nat.sub_zero] at h
  rw [show b.length - q - p = 0 by omega, List.take_zero, List.nil_append, show a.length - q = p by omega, List.take_append_drop] at h
  exact hab h

end Go.Proofs.Ytfhpllcdlejfjaa
