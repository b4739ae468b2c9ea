/- The model's decoding of a rune is the character of the document. It has no conditions. -/
import Derived.Test.YtgfhhpodcnohpaaDoorPMath
import Derived.Laws.Runes
namespace Go.Proofs.YtgfhhpodcnohpaaDoor
open Go.RowKit
set_option linter.unusedVariables false

theorem sb_at (s : ByteArray) (k : Nat) (h : k < s.size) : ab (sb s) k = ((s.get! k).toNat : Int) := by
  have h2 : k < s.data.size := h
  unfold ab sb
  rw [List.getElem?_map]
  have e : s.get! k = s.data[k] := by show s.data[k]! = s.data[k]; exact getElem!_pos s.data k h2
  rw [e]
  have e2 : s.data.toList[k]? = some s.data[k] := by rw [Array.getElem?_toList]; exact Array.getElem?_eq_getElem h2
  rw [e2]; rfl
theorem sb_drop_at (s : ByteArray) (i k : Nat) (h : i + k < s.size) : ab ((sb s).drop i) k = ((s.get! (i + k)).toNat : Int) := by
  rw [← sb_at s (i + k) h]; unfold ab; rw [List.getElem?_drop]
theorem sb_bt (s : ByteArray) (i k : Nat) (lo hi : Int) : bt ((sb s).drop i) k lo hi = decide (i + k < s.size ∧ lo ≤ ((s.get! (i + k)).toNat : Int) ∧ ((s.get! (i + k)).toNat : Int) ≤ hi) := by
  unfold bt
  congr 1
  apply propext
  rw [List.length_drop, sb_len]
  constructor
  · rintro ⟨h1, h2, h3⟩
    rw [sb_drop_at s i k (by omega)] at h2 h3
    exact ⟨by omega, h2, h3⟩
  · rintro ⟨h1, h2, h3⟩
    rw [sb_drop_at s i k h1]
    exact ⟨by omega, h2, h3⟩
/-- The model's decoding over four bytes, of which the last three may not go on (c1, c2, c3). -/
def decN (a0 a1 a2 a3 : Nat) (c1 c2 c3 : Bool) : Nat × Nat :=
  if a0 < 128 then (a0, 1)
  else if (a0 / 32 == 6 && c1) = true then if a0 % 32 * 64 + a1 % 64 ≥ 128 then (a0 % 32 * 64 + a1 % 64, 2) else (Utf8.runeError, 1)
  else if (a0 / 16 == 14 && c1 && c2) = true then if (decide (a0 % 16 * 4096 + a1 % 64 * 64 + a2 % 64 ≥ 2048) && Utf8.valid ((a0 % 16 * 4096 + a1 % 64 * 64 + a2 % 64 : Nat) : Int)) = true then (a0 % 16 * 4096 + a1 % 64 * 64 + a2 % 64, 3) else (Utf8.runeError, 1)
  else if (a0 / 8 == 30 && c1 && c2 && c3) = true then if (decide (a0 % 8 * 262144 + a1 % 64 * 4096 + a2 % 64 * 64 + a3 % 64 ≥ 65536) && Utf8.valid ((a0 % 8 * 262144 + a1 % 64 * 4096 + a2 % 64 * 64 + a3 % 64 : Nat) : Int)) = true then (a0 % 8 * 262144 + a1 % 64 * 4096 + a2 % 64 * 64 + a3 % 64, 4) else (Utf8.runeError, 1)
  else (Utf8.runeError, 1)
/-- The document's character over the same. -/
def chrN (a0 a1 : Nat) (c1 c2 c3 : Bool) : Nat × Nat :=
  if 194 ≤ a0 ∧ a0 ≤ 223 ∧ c1 = true then (2, 1)
  else if 224 ≤ a0 ∧ a0 ≤ 239 ∧ (c1 = true ∧ (a0 = 224 → 160 ≤ a1) ∧ (a0 = 237 → a1 ≤ 159)) ∧ c2 = true then (3, 1)
  else if 240 ≤ a0 ∧ a0 ≤ 244 ∧ (c1 = true ∧ (a0 = 240 → 144 ≤ a1) ∧ (a0 = 244 → a1 ≤ 143)) ∧ c2 = true ∧ c3 = true then (4, 2)
  else (1, 1)
set_option maxRecDepth 10000 in
set_option maxHeartbeats 2000000 in
theorem dec_core (a0 a1 a2 a3 : Nat) (c1 c2 c3 : Bool) (l0 : a0 < 256) (l1 : a1 < 256) (l2 : a2 < 256) (l3 : a3 < 256) (h1 : c1 = true → a1 / 64 = 2) (h2 : c2 = true → a2 / 64 = 2) (h3 : c3 = true → a3 / 64 = 2)
    (r n m u : Nat) (hd : decN a0 a1 a2 a3 c1 c2 c3 = (r, n)) (hc : chrN a0 a1 c1 c2 c3 = (m, u)) : n = m ∧ (65536 ≤ r ↔ u = 2) ∧ (r = 10 ↔ a0 = 10) ∧ r ≤ 1114111 := by
  simp only [decN, chrN, validRune_eq, validRune, Utf8.runeError, Bool.and_eq_true, beq_iff_eq, decide_eq_true_eq, ge_iff_le] at hd hc
  cases c1 <;> cases c2 <;> cases c3 <;> simp only [Bool.false_eq_true, and_false, and_true, false_and, true_and, if_false, forall_const, false_implies] at hd hc h1 h2 h3
  all_goals repeat' split at hd
  all_goals repeat' split at hc
  all_goals
    simp only [Prod.mk.injEq] at hd hc
    obtain ⟨rfl, rfl⟩ := hd
    obtain ⟨rfl, rfl⟩ := hc
    omega
theorem if_alike {α : Type} {p q : Prop} [Decidable p] [Decidable q] {a b c : α} (h : p ↔ q) (h2 : b = c) : (if p then a else b) = (if q then a else c) := by
  by_cases hp : p
  · rw [if_pos hp, if_pos (h.1 hp)]
  · rw [if_neg hp, if_neg (fun hq => hp (h.2 hq)), h2]
/-- The model's rune and the document's character. -/
theorem decode_chr (s : ByteArray) (i : Nat) (hi : i < s.size) :
    (Utf8.decode s i).2 = (chr ((sb s).drop i)).1 ∧ (65536 ≤ (Utf8.decode s i).1 ↔ (chr ((sb s).drop i)).2 = 2) ∧ ((Utf8.decode s i).1 = 10 ↔ ab ((sb s).drop i) 0 = 10) ∧ (Utf8.decode s i).1 ≤ 1114111 := by
  have h0 := sb_drop_at s i 0 (by omega)
  have h1 := sb_bt s i 1
  have h2 := sb_bt s i 2
  have h3 := sb_bt s i 3
  have hd : Utf8.decode s i = decN (s.get! (i + 0)).toNat (s.get! (i + 1)).toNat (s.get! (i + 2)).toNat (s.get! (i + 3)).toNat (decide (i + 1 < s.size) && (s.get! (i + 1)).toNat / 64 == 2) (decide (i + 2 < s.size) && (s.get! (i + 2)).toNat / 64 == 2) (decide (i + 3 < s.size) && (s.get! (i + 3)).toNat / 64 == 2) := by
    unfold Utf8.decode decN
    rfl
  have l0 := (s.get! (i + 0)).toNat_lt
  have l1 := (s.get! (i + 1)).toNat_lt
  have l2 := (s.get! (i + 2)).toNat_lt
  have l3 := (s.get! (i + 3)).toNat_lt
  generalize (s.get! (i + 0)).toNat = a0 at *
  generalize (s.get! (i + 1)).toNat = a1 at *
  generalize (s.get! (i + 2)).toNat = a2 at *
  generalize (s.get! (i + 3)).toNat = a3 at *
  have hc : chr ((sb s).drop i) = chrN a0 a1 (decide (i + 1 < s.size) && a1 / 64 == 2) (decide (i + 2 < s.size) && a2 / 64 == 2) (decide (i + 3 < s.size) && a3 / 64 == 2) := by
    unfold chr chrN
    simp only [h0, h1, h2, h3]
    simp only [decide_eq_true_eq, Bool.and_eq_true, beq_iff_eq]
    refine if_alike (by omega) (if_alike ?_ (if_alike ?_ rfl))
    · by_cases k1 : a0 = 224
      · subst k1; simp [sec]; omega
      · by_cases k2 : a0 = 237
        · subst k2; simp [sec]; omega
        · by_cases k3 : 224 ≤ a0 ∧ a0 ≤ 239
          · have : sec (a0 : Int) = (128, 191) := by unfold sec; rw [if_neg (by omega), if_neg (by omega), if_neg (by omega), if_neg (by omega)]
            rw [this]; simp only; omega
          · constructor
            · rintro ⟨x1, x2, _⟩; exact absurd ⟨by omega, by omega⟩ k3
            · rintro ⟨x1, x2, _⟩; exact absurd ⟨x1, x2⟩ k3
    · by_cases k1 : a0 = 240
      · subst k1; simp [sec]; omega
      · by_cases k2 : a0 = 244
        · subst k2; simp [sec]; omega
        · by_cases k3 : 240 ≤ a0 ∧ a0 ≤ 244
          · have : sec (a0 : Int) = (128, 191) := by unfold sec; rw [if_neg (by omega), if_neg (by omega), if_neg (by omega), if_neg (by omega)]
            rw [this]; simp only; omega
          · constructor
            · rintro ⟨x1, x2, _⟩; exact absurd ⟨by omega, by omega⟩ k3
            · rintro ⟨x1, x2, _⟩; exact absurd ⟨x1, x2⟩ k3
  obtain ⟨⟨r, n⟩, hr⟩ : ∃ x, Utf8.decode s i = x := ⟨_, rfl⟩
  obtain ⟨⟨m, u⟩, hm⟩ : ∃ x, chr ((sb s).drop i) = x := ⟨_, rfl⟩
  rw [hr] at hd ⊢
  rw [hm] at hc ⊢
  have := dec_core a0 a1 a2 a3 _ _ _ l0 l1 l2 l3 (by simp) (by simp) (by simp) r n m u hd.symm hc.symm
  rw [h0]
  refine ⟨this.1, this.2.1, ?_, this.2.2.2⟩
  simp only
  omega

end Go.Proofs.YtgfhhpodcnohpaaDoor
