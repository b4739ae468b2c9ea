/- The mathematics of characters in texts: bytes and units of a character, where characters begin. It has no conditions. -/
import Derived.Test.YtgfhhpodcnohpaaDoorBase
namespace Go.Proofs.YtgfhhpodcnohpaaDoor
open Go.RowKit
set_option linter.unusedVariables false

/-- Byte j, or 0. -/
abbrev ab (Z : List Int) (j : Nat) : Int := Z[j]?.getD 0
/-- The least and the greatest second byte of a character of three or four bytes. -/
def sec (c : Int) : Int × Int := if c = 224 then (160, 191) else if c = 237 then (128, 159) else if c = 240 then (144, 191) else if c = 244 then (128, 143) else (128, 191)
/-- Byte j is there, and from lo to hi. -/
def bt (Z : List Int) (j : Nat) (lo hi : Int) : Bool := decide (j < Z.length ∧ lo ≤ ab Z j ∧ ab Z j ≤ hi)
/-- Bytes and units of the character at the head. -/
def chr (Z : List Int) : Nat × Nat :=
  if 194 ≤ ab Z 0 ∧ ab Z 0 ≤ 223 ∧ bt Z 1 128 191 = true then (2, 1)
  else if 224 ≤ ab Z 0 ∧ ab Z 0 ≤ 239 ∧ bt Z 1 (sec (ab Z 0)).1 (sec (ab Z 0)).2 = true ∧ bt Z 2 128 191 = true then (3, 1)
  else if 240 ≤ ab Z 0 ∧ ab Z 0 ≤ 244 ∧ bt Z 1 (sec (ab Z 0)).1 (sec (ab Z 0)).2 = true ∧ bt Z 2 128 191 = true ∧ bt Z 3 128 191 = true then (4, 2)
  else (1, 1)
theorem bt_true {Z : List Int} {j : Nat} {lo hi : Int} (h : bt Z j lo hi = true) : j < Z.length ∧ lo ≤ ab Z j ∧ ab Z j ≤ hi := by simpa [bt] using h
theorem bt_drop (Z : List Int) (i j : Nat) (lo hi : Int) : bt (Z.drop i) j lo hi = bt Z (i + j) lo hi := by
  unfold bt
  rw [ab, List.getElem?_drop, List.length_drop]
  congr 1
  apply propext
  constructor <;> rintro ⟨h1, h2⟩ <;> exact ⟨by omega, h2⟩
theorem bt_take {Z : List Int} {m j : Nat} (h : j < m) (lo hi : Int) : bt (Z.take m) j lo hi = bt Z j lo hi := by
  unfold bt
  rw [ab, List.getElem?_take, if_pos h, List.length_take]
  congr 1
  apply propext
  constructor <;> rintro ⟨h1, h2⟩ <;> exact ⟨by omega, h2⟩
theorem bt_take_of {Z : List Int} {m j : Nat} {lo hi : Int} (h : bt (Z.take m) j lo hi = true) : j < m ∧ bt Z j lo hi = true := by
  have h1 := (bt_true h).1
  rw [List.length_take] at h1
  have hj : j < m := by omega
  exact ⟨hj, by rwa [bt_take hj] at h⟩
/-- The ways of a character. -/
theorem chr_ways (Z : List Int) : chr Z = (1, 1) ∨
    (chr Z = (2, 1) ∧ 194 ≤ ab Z 0 ∧ bt Z 1 128 191 = true) ∨
    (chr Z = (3, 1) ∧ 224 ≤ ab Z 0 ∧ bt Z 1 128 191 = true ∧ bt Z 2 128 191 = true) ∨
    (chr Z = (4, 2) ∧ 240 ≤ ab Z 0 ∧ bt Z 1 128 191 = true ∧ bt Z 2 128 191 = true ∧ bt Z 3 128 191 = true) := by
  have hsec : ∀ c, bt Z 1 (sec c).1 (sec c).2 = true → bt Z 1 128 191 = true := by
    intro c h
    have h1 := bt_true h
    have h2 : 128 ≤ (sec c).1 ∧ (sec c).2 ≤ 191 := by unfold sec; split <;> (try split) <;> (try split) <;> (try split) <;> simp
    unfold bt
    simp only [decide_eq_true_eq]
    exact ⟨h1.1, by omega, by omega⟩
  unfold chr
  split
  · rename_i h; exact .inr (.inl ⟨rfl, h.1, h.2.2⟩)
  · split
    · rename_i h; exact .inr (.inr (.inl ⟨rfl, h.1, hsec _ h.2.2.1, h.2.2.2⟩))
    · split
      · rename_i h; exact .inr (.inr (.inr ⟨rfl, h.1, hsec _ h.2.2.1, h.2.2.2.1, h.2.2.2.2⟩))
      · exact .inl rfl
theorem chr_pos (Z : List Int) : 1 ≤ (chr Z).1 ∧ (chr Z).1 ≤ 4 ∧ 1 ≤ (chr Z).2 ∧ (chr Z).2 ≤ 2 := by
  rcases chr_ways Z with h | ⟨h, _⟩ | ⟨h, _⟩ | ⟨h, _⟩ <;> rw [h] <;> decide
theorem chr_le {Z : List Int} (hz : Z ≠ []) : (chr Z).1 ≤ Z.length := by
  have hp := List.length_pos_iff.2 hz
  rcases chr_ways Z with h | ⟨h, _, h1⟩ | ⟨h, _, _, h1⟩ | ⟨h, _, _, _, h1⟩ <;> rw [h]
  · exact hp
  all_goals exact (bt_true h1).1
/-- No byte of a character of several bytes is less than 128. -/
theorem chr_high {Z : List Int} (h : (chr Z).1 ≠ 1) (j : Nat) (hj : j < (chr Z).1) : 128 ≤ ab Z j := by
  rcases chr_ways Z with h0 | ⟨h0, hc, h1⟩ | ⟨h0, hc, h1, h2⟩ | ⟨h0, hc, h1, h2, h3⟩ <;> rw [h0] at h hj <;> simp only at h hj
  · exact absurd rfl h
  · have h1 := bt_true h1
    have : j = 0 ∨ j = 1 := by omega
    rcases this with rfl | rfl <;> omega
  · have h1 := bt_true h1
    have h2 := bt_true h2
    have : j = 0 ∨ j = 1 ∨ j = 2 := by omega
    rcases this with rfl | rfl | rfl <;> omega
  · have h1 := bt_true h1
    have h2 := bt_true h2
    have h3 := bt_true h3
    have : j = 0 ∨ j = 1 ∨ j = 2 ∨ j = 3 := by omega
    rcases this with rfl | rfl | rfl | rfl <;> omega
theorem chr_ascii {Z : List Int} (h : ab Z 0 < 128) : chr Z = (1, 1) := by
  rcases chr_ways Z with h0 | ⟨h0, hc, h1⟩ | ⟨h0, hc, h1, h2⟩ | ⟨h0, hc, h1, h2, h3⟩
  · exact h0
  all_goals omega
/-- A character that fits is that of the first bytes alone. -/
theorem chr_take {Z : List Int} {m : Nat} (hm : (chr Z).1 ≤ m) : chr (Z.take m) = chr Z := by
  have hm1 := (chr_pos Z).1
  have h0 : ab (Z.take m) 0 = ab Z 0 := by rw [ab, List.getElem?_take, if_pos (by omega)]
  have hb : ∀ j lo hi, j < (chr Z).1 → bt (Z.take m) j lo hi = bt Z j lo hi := fun j lo hi hj => bt_take (by omega) lo hi
  have hc : chr Z = chr Z := rfl
  conv at hc => rhs; unfold chr
  conv => lhs; unfold chr
  rw [h0]
  split at hc
  · rename_i h
    rw [hc] at hb
    rw [if_pos ⟨h.1, h.2.1, by rw [hb 1 _ _ (by decide)]; exact h.2.2⟩, hc]
  · rename_i n1
    rw [if_neg (fun h => n1 ⟨h.1, h.2.1, (bt_take_of h.2.2).2⟩)]
    split at hc
    · rename_i h
      rw [hc] at hb
      rw [if_pos ⟨h.1, h.2.1, by rw [hb 1 _ _ (by decide)]; exact h.2.2.1, by rw [hb 2 _ _ (by decide)]; exact h.2.2.2⟩, hc]
    · rename_i n2
      rw [if_neg (fun h => n2 ⟨h.1, h.2.1, (bt_take_of h.2.2.1).2, (bt_take_of h.2.2.2).2⟩)]
      split at hc
      · rename_i h
        rw [hc] at hb
        rw [if_pos ⟨h.1, h.2.1, by rw [hb 1 _ _ (by decide)]; exact h.2.2.1, by rw [hb 2 _ _ (by decide)]; exact h.2.2.2.1, by rw [hb 3 _ _ (by decide)]; exact h.2.2.2.2⟩, hc]
      · rename_i n3
        rw [if_neg (fun h => n3 ⟨h.1, h.2.1, (bt_take_of h.2.2.1).2, (bt_take_of h.2.2.2.1).2, (bt_take_of h.2.2.2.2).2⟩), hc]

/-- The characters begin at these offsets (i is the offset of the head); the end is one of them. -/
def bords (i : Nat) (Z : List Int) : List Nat := if h : Z = [] then [i] else i :: bords (i + (chr Z).1) (Z.drop (chr Z).1)
  termination_by Z.length
  decreasing_by have := (chr_pos Z).1; have := List.length_pos_iff.2 h; rw [List.length_drop]; omega
/-- The units of a text. -/
def unis (Z : List Int) : Nat := if h : Z = [] then 0 else (chr Z).2 + unis (Z.drop (chr Z).1)
  termination_by Z.length
  decreasing_by have := (chr_pos Z).1; have := List.length_pos_iff.2 h; rw [List.length_drop]; omega
theorem bords_nil (i : Nat) : bords i [] = [i] := by rw [bords, dif_pos rfl]
theorem bords_cons {Z : List Int} (i : Nat) (h : Z ≠ []) : bords i Z = i :: bords (i + (chr Z).1) (Z.drop (chr Z).1) := by rw [bords, dif_neg h]
theorem unis_nil : unis [] = 0 := by rw [unis, dif_pos rfl]
theorem unis_cons {Z : List Int} (h : Z ≠ []) : unis Z = (chr Z).2 + unis (Z.drop (chr Z).1) := by rw [unis, dif_neg h]
theorem unis_le (Z : List Int) : unis Z ≤ 2 * Z.length := by
  induction hn : Z.length using Nat.strongRecOn generalizing Z with
  | _ n ih =>
    by_cases h : Z = []
    · subst h; rw [unis_nil]; omega
    · have h1 := chr_pos Z
      have h2 := List.length_pos_iff.2 h
      have := ih (Z.drop (chr Z).1).length (by rw [List.length_drop]; omega) _ rfl
      rw [unis_cons h]
      rw [List.length_drop] at this
      have := chr_le h
      omega

end Go.Proofs.YtgfhhpodcnohpaaDoor
