/- The chapter's examples, in the words of the specification. It has no conditions. -/
import Derived.Test.YthjedecfpedjbaaPOff
import Derived.Test.YthjedecfpedjbaaPText
namespace Go.Proofs.Ythjedecfpedjbaa
open Go.RowKit
set_option linter.unusedVariables false

/-- Whole characters, as a test. -/
def bordB : Nat → List Int → Nat → Nat → Bool
  | 0, _, i, u => decide (i = 0 ∧ u = 0)
  | n + 1, Z, i, u => decide (i = 0 ∧ u = 0) || (!Z.isEmpty && decide ((chr Z).1 ≤ i ∧ (chr Z).2 ≤ u) && bordB n (Z.drop (chr Z).1) (i - (chr Z).1) (u - (chr Z).2))
theorem bord_of {n : Nat} : ∀ {Z : List Int} {i u : Nat}, bordB n Z i u = true → Bord Z i u := by
  induction n with
  | zero => intro Z i u h; have : i = 0 ∧ u = 0 := by simpa [bordB] using h
            obtain ⟨rfl, rfl⟩ := this; exact Bord.zero _
  | succ n ih =>
    intro Z i u h
    simp only [bordB, Bool.or_eq_true, Bool.and_eq_true, decide_eq_true_eq, Bool.not_eq_true'] at h
    rcases h with ⟨rfl, rfl⟩ | ⟨⟨h1, h2, h3⟩, h4⟩
    · exact Bord.zero _
    · have := Bord.step (Z := Z) (by rintro rfl; simp at h1) (ih h4)
      rwa [show (chr Z).1 + (i - (chr Z).1) = i by omega, show (chr Z).2 + (u - (chr Z).2) = u by omega] at this
abbrev exB : ByteArray := ⟨#[97, 240, 159, 152, 128, 10, 226, 130, 172, 98]⟩
def exZ : List Int := [97, 240, 159, 152, 128, 10, 226, 130, 172, 98]
theorem ex_sb : sb exB = exZ := by decide +kernel
theorem ex_units : unis (sb exB) = 6 := by
  rw [ex_sb]
  have h : Bord exZ 10 6 := bord_of (n := 12) (by decide +kernel)
  have := h.unis_take
  rwa [show exZ.take 10 = exZ by decide] at this
theorem ex_p5 : Pos exZ 5 0 3 := ⟨⟨3, bord_of (n := 12) (by decide +kernel)⟩, by decide +kernel, by rw [show (lf exZ 5).2 = 0 by decide +kernel]; exact bord_of (n := 12) (by decide +kernel)⟩
theorem ex_at5 : AtSpec (sb exB) 5 0 3 0 := by rw [ex_sb]; exact .inr (.inr ⟨rfl, 5, rfl, ex_p5⟩)
theorem ex_at9 : AtSpec (sb exB) 9 1 1 0 := by
  rw [ex_sb]
  exact .inr (.inr ⟨rfl, 9, rfl, ⟨⟨5, bord_of (n := 12) (by decide +kernel)⟩, by decide +kernel, by rw [show (lf exZ 9).2 = 6 by decide +kernel]; exact bord_of (n := 12) (by decide +kernel)⟩⟩)
theorem ex_b1 : Bord exZ 1 1 := bord_of (n := 12) (by decide +kernel)
theorem ex_c1 : (chr (exZ.drop 1)).1 = 4 := by decide +kernel
theorem ex_at2 : AtSpec (sb exB) 2 0 0 1 := by
  rw [ex_sb]
  refine .inr (.inl ⟨rfl, rfl, rfl, 2, rfl, by decide, ?_⟩)
  rintro ⟨U, hU⟩
  have := ex_b1.next hU (by decide)
  rw [ex_c1] at this; omega
theorem ex_off12 : OffSpec (sb exB) 1 2 10 0 := by
  rw [ex_sb]
  exact .inl ⟨rfl, 1, 2, rfl, rfl, ⟨⟨6, bord_of (n := 12) (by decide +kernel)⟩, by decide +kernel, by rw [show (lf exZ 10).2 = 6 by decide +kernel]; exact bord_of (n := 12) (by decide +kernel)⟩⟩
theorem ex_eol : Eol exZ 5 0 3 := ⟨ex_p5, .inr (by decide +kernel)⟩
theorem ex_off02 : OffSpec (sb exB) 0 2 0 1 := by
  rw [ex_sb]
  refine .inr (.inl ⟨rfl, rfl, 0, 2, 5, 3, rfl, rfl, ex_eol, by decide, ?_⟩)
  rintro ⟨o, ho⟩
  have hs := ho.same ex_p5
  have h0 : lf exZ 5 = (0, 0) := by decide +kernel
  have hb := ho.2.2
  rw [hs, h0] at hb
  simp only [List.drop_zero, Nat.sub_zero] at hb
  rcases Nat.lt_trichotomy o 1 with h | h | h
  · have := hb.lt ex_b1 h; omega
  · subst h; have := hb.det ex_b1; omega
  · have := ex_b1.next hb h
    rw [ex_c1] at this
    have h5 : Bord exZ 5 3 := bord_of (n := 12) (by decide +kernel)
    rcases Nat.lt_or_ge 5 o with h2 | h2
    · have := h5.lt hb h2; omega
    · obtain rfl : o = 5 := by omega
      have := hb.det h5; omega
theorem ex_off04 : OffSpec (sb exB) 0 4 0 5 := by
  rw [ex_sb]
  refine .inr (.inr ⟨rfl, rfl, ?_⟩)
  rintro ⟨l', u', E, v, hl, hu, he, hv⟩
  obtain rfl : l' = 0 := by omega
  obtain ⟨_, rfl⟩ := ex_eol.det he
  omega

end Go.Proofs.Ythjedecfpedjbaa
