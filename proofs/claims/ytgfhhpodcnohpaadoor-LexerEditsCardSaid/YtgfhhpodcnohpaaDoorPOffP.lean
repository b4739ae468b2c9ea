/- POffP, with the texts that only it needs in front of it: PMath, PChar, PUnits, PBord, PAt, PLine, POff, PDec, PUn, PNl, PLib, PAtP. It has no conditions. -/
import Derived.Test.YtgfhhpodcnohpaaDoorBase
import Derived.Test.YtgfhhpodcnohpaaDoorOnly
import Derived.Test.YtgfhhpodcnohpaaDoorRowI
import Derived.Laws.Runes
import Derived.Lib.OthersKept
import Derived.Lib.Bytealg
import Derived.Lib.LastIndexByte
import Derived.Deep.RegionHeld3

/- The mathematics of characters in texts: bytes and units of a character, where characters begin. It has no conditions. -/
namespace Go.Proofs.YtgfhhpodcnohpaaDoor
open Go.RowKit
set_option linter.unusedVariables false

/-- Byte j, or 0. -/
abbrev ab (Z : List Int) (j : Nat) : Int := Z[j]?.getD 0
/-- The least and the greatest second byte of a character of three or four bytes. -/
def sec (c : Int) : Int × Int := if c = 224 then (160, 191) else if c = 237 then (128, 159) else if c = 240 then (144, 191) else if c = 244 then (128, 143) else (128, 191)
/-- Byte j is there, and from lo to hi. -/
def bt (Z : List Int) (j : Nat) (lo hi : Int) : Bool := decide (j < Z.length ∧ lo ≤ ab Z j ∧ ab Z j ≤ hi)
/-- Bytes and units of the character at the head. -/
def chr (Z : List Int) : Nat × Nat :=
  if 194 ≤ ab Z 0 ∧ ab Z 0 ≤ 223 ∧ bt Z 1 128 191 = true then (2, 1)
  else if 224 ≤ ab Z 0 ∧ ab Z 0 ≤ 239 ∧ bt Z 1 (sec (ab Z 0)).1 (sec (ab Z 0)).2 = true ∧ bt Z 2 128 191 = true then (3, 1)
  else if 240 ≤ ab Z 0 ∧ ab Z 0 ≤ 244 ∧ bt Z 1 (sec (ab Z 0)).1 (sec (ab Z 0)).2 = true ∧ bt Z 2 128 191 = true ∧ bt Z 3 128 191 = true then (4, 2)
  else (1, 1)
theorem bt_true {Z : List Int} {j : Nat} {lo hi : Int} (h : bt Z j lo hi = true) : j < Z.length ∧ lo ≤ ab Z j ∧ ab Z j ≤ hi := by simpa [bt] using h
theorem bt_drop (Z : List Int) (i j : Nat) (lo hi : Int) : bt (Z.drop i) j lo hi = bt Z (i + j) lo hi := by
  unfold bt
  rw [ab, List.getElem?_drop, List.length_drop]
  congr 1
  apply propext
  constructor <;> rintro ⟨h1, h2⟩ <;> exact ⟨by omega, h2⟩
theorem bt_take {Z : List Int} {m j : Nat} (h : j < m) (lo hi : Int) : bt (Z.take m) j lo hi = bt Z j lo hi := by
  unfold bt
  rw [ab, List.getElem?_take, if_pos h, List.length_take]
  congr 1
  apply propext
  constructor <;> rintro ⟨h1, h2⟩ <;> exact ⟨by omega, h2⟩
theorem bt_take_of {Z : List Int} {m j : Nat} {lo hi : Int} (h : bt (Z.take m) j lo hi = true) : j < m ∧ bt Z j lo hi = true := by
  have h1 := (bt_true h).1
  rw [List.length_take] at h1
  have hj : j < m := by omega
  exact ⟨hj, by rwa [bt_take hj] at h⟩
/-- The ways of a character. -/
theorem chr_ways (Z : List Int) : chr Z = (1, 1) ∨
    (chr Z = (2, 1) ∧ 194 ≤ ab Z 0 ∧ bt Z 1 128 191 = true) ∨
    (chr Z = (3, 1) ∧ 224 ≤ ab Z 0 ∧ bt Z 1 128 191 = true ∧ bt Z 2 128 191 = true) ∨
    (chr Z = (4, 2) ∧ 240 ≤ ab Z 0 ∧ bt Z 1 128 191 = true ∧ bt Z 2 128 191 = true ∧ bt Z 3 128 191 = true) := by
  have hsec : ∀ c, bt Z 1 (sec c).1 (sec c).2 = true → bt Z 1 128 191 = true := by
    intro c h
    have h1 := bt_true h
    have h2 : 128 ≤ (sec c).1 ∧ (sec c).2 ≤ 191 := by unfold sec; split <;> (try split) <;> (try split) <;> (try split) <;> simp
    unfold bt
    simp only [decide_eq_true_eq]
    exact ⟨h1.1, by omega, by omega⟩
  unfold chr
  split
  · rename_i h; exact .inr (.inl ⟨rfl, h.1, h.2.2⟩)
  · split
    · rename_i h; exact .inr (.inr (.inl ⟨rfl, h.1, hsec _ h.2.2.1, h.2.2.2⟩))
    · split
      · rename_i h; exact .inr (.inr (.inr ⟨rfl, h.1, hsec _ h.2.2.1, h.2.2.2.1, h.2.2.2.2⟩))
      · exact .inl rfl
theorem chr_pos (Z : List Int) : 1 ≤ (chr Z).1 ∧ (chr Z).1 ≤ 4 ∧ 1 ≤ (chr Z).2 ∧ (chr Z).2 ≤ 2 := by
  rcases chr_ways Z with h | ⟨h, _⟩ | ⟨h, _⟩ | ⟨h, _⟩ <;> rw [h] <;> decide
theorem chr_le {Z : List Int} (hz : Z ≠ []) : (chr Z).1 ≤ Z.length := by
  have hp := List.length_pos_iff.2 hz
  rcases chr_ways Z with h | ⟨h, _, h1⟩ | ⟨h, _, _, h1⟩ | ⟨h, _, _, _, h1⟩ <;> rw [h]
  · exact hp
  all_goals exact (bt_true h1).1
/-- No byte of a character of several bytes is less than 128. -/
theorem chr_high {Z : List Int} (h : (chr Z).1 ≠ 1) (j : Nat) (hj : j < (chr Z).1) : 128 ≤ ab Z j := by
  rcases chr_ways Z with h0 | ⟨h0, hc, h1⟩ | ⟨h0, hc, h1, h2⟩ | ⟨h0, hc, h1, h2, h3⟩ <;> rw [h0] at h hj <;> simp only at h hj
  · exact absurd rfl h
  · have h1 := bt_true h1
    have : j = 0 ∨ j = 1 := by omega
    rcases this with rfl | rfl <;> omega
  · have h1 := bt_true h1
    have h2 := bt_true h2
    have : j = 0 ∨ j = 1 ∨ j = 2 := by omega
    rcases this with rfl | rfl | rfl <;> omega
  · have h1 := bt_true h1
    have h2 := bt_true h2
    have h3 := bt_true h3
    have : j = 0 ∨ j = 1 ∨ j = 2 ∨ j = 3 := by omega
    rcases this with rfl | rfl | rfl | rfl <;> omega
theorem chr_ascii {Z : List Int} (h : ab Z 0 < 128) : chr Z = (1, 1) := by
  rcases chr_ways Z with h0 | ⟨h0, hc, h1⟩ | ⟨h0, hc, h1, h2⟩ | ⟨h0, hc, h1, h2, h3⟩
  · exact h0
  all_goals omega
/-- A character that fits is that of the first bytes alone. -/
theorem chr_take {Z : List Int} {m : Nat} (hm : (chr Z).1 ≤ m) : chr (Z.take m) = chr Z := by
  have hm1 := (chr_pos Z).1
  have h0 : ab (Z.take m) 0 = ab Z 0 := by rw [ab, List.getElem?_take, if_pos (by omega)]
  have hb : ∀ j lo hi, j < (chr Z).1 → bt (Z.take m) j lo hi = bt Z j lo hi := fun j lo hi hj => bt_take (by omega) lo hi
  have hc : chr Z = chr Z := rfl
  conv at hc => rhs; unfold chr
  conv => lhs; unfold chr
  rw [h0]
  split at hc
  · rename_i h
    rw [hc] at hb
    rw [if_pos ⟨h.1, h.2.1, by rw [hb 1 _ _ (by decide)]; exact h.2.2⟩, hc]
  · rename_i n1
    rw [if_neg (fun h => n1 ⟨h.1, h.2.1, (bt_take_of h.2.2).2⟩)]
    split at hc
    · rename_i h
      rw [hc] at hb
      rw [if_pos ⟨h.1, h.2.1, by rw [hb 1 _ _ (by decide)]; exact h.2.2.1, by rw [hb 2 _ _ (by decide)]; exact h.2.2.2⟩, hc]
    · rename_i n2
      rw [if_neg (fun h => n2 ⟨h.1, h.2.1, (bt_take_of h.2.2.1).2, (bt_take_of h.2.2.2).2⟩)]
      split at hc
      · rename_i h
        rw [hc] at hb
        rw [if_pos ⟨h.1, h.2.1, by rw [hb 1 _ _ (by decide)]; exact h.2.2.1, by rw [hb 2 _ _ (by decide)]; exact h.2.2.2.1, by rw [hb 3 _ _ (by decide)]; exact h.2.2.2.2⟩, hc]
      · rename_i n3
        rw [if_neg (fun h => n3 ⟨h.1, h.2.1, (bt_take_of h.2.2.1).2, (bt_take_of h.2.2.2.1).2, (bt_take_of h.2.2.2.2).2⟩), hc]

/-- The characters begin at these offsets (i is the offset of the head); the end is one of them. -/
def bords (i : Nat) (Z : List Int) : List Nat := if h : Z = [] then [i] else i :: bords (i + (chr Z).1) (Z.drop (chr Z).1)
  termination_by Z.length
  decreasing_by have := (chr_pos Z).1; have := List.length_pos_iff.2 h; rw [List.length_drop]; omega
/-- The units of a text. -/
def unis (Z : List Int) : Nat := if h : Z = [] then 0 else (chr Z).2 + unis (Z.drop (chr Z).1)
  termination_by Z.length
  decreasing_by have := (chr_pos Z).1; have := List.length_pos_iff.2 h; rw [List.length_drop]; omega
theorem bords_nil (i : Nat) : bords i [] = [i] := by rw [bords, dif_pos rfl]
theorem bords_cons {Z : List Int} (i : Nat) (h : Z ≠ []) : bords i Z = i :: bords (i + (chr Z).1) (Z.drop (chr Z).1) := by rw [bords, dif_neg h]
theorem unis_nil : unis [] = 0 := by rw [unis, dif_pos rfl]
theorem unis_cons {Z : List Int} (h : Z ≠ []) : unis Z = (chr Z).2 + unis (Z.drop (chr Z).1) := by rw [unis, dif_neg h]
theorem unis_le (Z : List Int) : unis Z ≤ 2 * Z.length := by
  induction hn : Z.length using Nat.strongRecOn generalizing Z with
  | _ n ih =>
    by_cases h : Z = []
    · subst h; rw [unis_nil]; omega
    · have h1 := chr_pos Z
      have h2 := List.length_pos_iff.2 h
      have := ih (Z.drop (chr Z).1).length (by rw [List.length_drop]; omega) _ rfl
      rw [unis_cons h]
      rw [List.length_drop] at this
      have := chr_le h
      omega

end Go.Proofs.YtgfhhpodcnohpaaDoor

/- Contracts of the reference's second, between and Char: they return what the document says of characters. Conditions: texts of at most 100000 bytes. -/
namespace Go.Proofs.YtgfhhpodcnohpaaDoor
open Go.RowKit Go.Shelf
set_option linter.unusedVariables false

theorem sb_get (s : ByteArray) (i : Nat) (h : i < s.size) : ab (sb s) i = ((s[i]'h).toNat : Int) := by
  have h2 : i < s.data.size := h
  unfold ab sb
  rw [List.getElem?_map]
  have e2 : s.data.toList[i]? = some s.data[i] := by rw [Array.getElem?_toList]; exact Array.getElem?_eq_getElem h2
  rw [e2]; rfl
theorem second_any (c : Int) (w : World) :
    Calls Tryd.prog 138 #[.int .u8 c] w fun e w' => e = .returned (.tuple #[.int .u8 (sec c).1, .int .u8 (sec c).2]) ∧ w = w' := by
  by_cases h1 : c = 224
  · subst h1
    go_enter Tryd.func138, Tryd.ntmps138
    go_wp2
    go_ret2
    exact ⟨rfl, rfl⟩
  by_cases h2 : c = 237
  · subst h2
    go_enter Tryd.func138, Tryd.ntmps138
    go_wp2
    go_ret2
    exact ⟨rfl, rfl⟩
  by_cases h3 : c = 240
  · subst h3
    go_enter Tryd.func138, Tryd.ntmps138
    go_wp2
    go_ret2
    exact ⟨rfl, rfl⟩
  by_cases h4 : c = 244
  · subst h4
    go_enter Tryd.func138, Tryd.ntmps138
    go_wp2
    go_ret2
    exact ⟨rfl, rfl⟩
  have e : sec c = (128, 191) := by unfold sec; rw [if_neg h1, if_neg h2, if_neg h3, if_neg h4]
  rw [e]
  have q1 : (c == 224) = false := by simp; exact h1
  have q2 : (c == 237) = false := by simp; exact h2
  have q3 : (c == 240) = false := by simp; exact h3
  have q4 : (c == 244) = false := by simp; exact h4
  clear h1 h2 h3 h4 e
  go_enter Tryd.func138, Tryd.ntmps138
  go_wp2
  go_ret2
  exact ⟨rfl, rfl⟩

theorem pbetween_any (s : ByteArray) (i : Nat) (x lo hi : Int) (w : World) (hs : s.size ≤ 100000) (hi2 : i ≤ 100010) (hx : x = (i : Int)) (r : Bool) (hr : bt (sb s) i lo hi = r) :
    Calls Tryd.prog 139 #[.string s, .int .i64 x, .int .u8 lo, .int .u8 hi] w fun e w' => e = .returned (.bool r) ∧ w = w' := by
  subst hx
  by_cases h : i < s.size
  · have e := sb_get s i h
    by_cases h1 : lo ≤ ((s[i]'h).toNat : Int)
    · have hr2 : decide (((s[i]'h).toNat : Int) ≤ hi) = r := by rw [← hr]; unfold bt; rw [sb_len, e]; simp [h, h1]
      have HR := Lib.hid hr2
      clear hr hr2 e
      go_enter Tryd.func139, Tryd.ntmps139
      go_wp2
      go_ret
      rw [← HR.out]
      exact ⟨rfl, rfl⟩
    · have hr2 : r = false := by rw [← hr]; unfold bt; rw [sb_len, e]; simp [h1]
      subst hr2
      clear hr e
      go_enter Tryd.func139, Tryd.ntmps139
      go_wp2
      go_ret
      exact ⟨rfl, rfl⟩
  · have hr2 : r = false := by rw [← hr]; unfold bt; rw [sb_len]; simp [h]
    subst hr2
    clear hr
    go_enter Tryd.func139, Tryd.ntmps139
    go_wp2
    go_ret
    exact ⟨rfl, rfl⟩

set_option maxRecDepth 100000 in
set_option maxHeartbeats 2000000 in
theorem char_any (s : ByteArray) (i : Nat) (w : World) (hs : s.size ≤ 100000) (hi : i < s.size) (n u : Nat) (hr : chr ((sb s).drop i) = (n, u)) :
    Calls Tryd.prog 113 #[.string s, .int .i64 (i : Int)] w fun e w' => e = .returned (.tuple #[.int .i64 (n : Int), .int .i64 (u : Int)]) ∧ w = w' := by
  have e := sb_get s i hi
  have hc : ab ((sb s).drop i) 0 = ab (sb s) i := by unfold ab; rw [List.getElem?_drop]; rfl
  obtain ⟨c, hcc⟩ : ∃ c, ((s[i]'hi).toNat : Int) = c := ⟨_, rfl⟩
  have S : Hid (∀ w, Calls Tryd.prog 138 #[.int .u8 ((s[i]'hi).toNat : Int)] w fun e w' => e = .returned (.tuple #[.int .u8 (sec c).1, .int .u8 (sec c).2]) ∧ w = w') := by rw [← hcc]; exact fun w => second_any _ w
  unfold chr at hr
  rw [hc, e, hcc] at hr
  simp only [bt_drop] at hr
  have HCC := Lib.hid hcc
  clear e hc
  by_cases r1 : c < 194
  · have k1 : ¬ 194 ≤ ((s[i]'hi).toNat : Int) := by omega
    have k2 : ¬ 224 ≤ ((s[i]'hi).toNat : Int) := by omega
    have k3 : ¬ 240 ≤ ((s[i]'hi).toNat : Int) := by omega
    rw [if_neg (by omega), if_neg (by omega), if_neg (by omega)] at hr
    cases hr
    clear hcc r1
    go_enter Tryd.func113, Tryd.ntmps113
    go_wp2_with fail
    refine (S.out w).mono ?_
    rintro e w' ⟨rfl, rfl⟩
    go_wp2
    go_ret2
    exact ⟨rfl, rfl⟩
  by_cases r2 : c ≤ 223
  · have k1 : 194 ≤ ((s[i]'hi).toNat : Int) := by omega
    have k1' : ((s[i]'hi).toNat : Int) ≤ 223 := by omega
    have k2 : ¬ 224 ≤ ((s[i]'hi).toNat : Int) := by omega
    have k3 : ¬ 240 ≤ ((s[i]'hi).toNat : Int) := by omega
    cases b1 : bt (sb s) (i + 1) 128 191
    · rw [if_neg (by rw [b1]; simp), if_neg (by omega), if_neg (by omega)] at hr
      cases hr
      have B1 := Lib.hid b1
      clear hcc r1 r2 b1
      go_enter Tryd.func113, Tryd.ntmps113
      go_wp2_with fail
      refine (S.out w).mono ?_
      rintro e w' ⟨rfl, rfl⟩
      go_wp2_with fail
      refine (pbetween_any s (i + 1) _ 128 191 w hs (by omega) (by push_cast; rfl) _ B1.out).mono ?_
      rintro e w' ⟨rfl, rfl⟩
      go_wp2
      go_ret2
      exact ⟨rfl, rfl⟩
    · rw [if_pos ⟨by omega, r2, b1⟩] at hr
      cases hr
      have B1 := Lib.hid b1
      clear hcc r1 r2 b1
      go_enter Tryd.func113, Tryd.ntmps113
      go_wp2_with fail
      refine (S.out w).mono ?_
      rintro e w' ⟨rfl, rfl⟩
      go_wp2_with fail
      refine (pbetween_any s (i + 1) _ 128 191 w hs (by omega) (by push_cast; rfl) _ B1.out).mono ?_
      rintro e w' ⟨rfl, rfl⟩
      go_wp2
      go_ret2
      exact ⟨rfl, rfl⟩
  by_cases r3 : c ≤ 239
  · have k1 : 194 ≤ ((s[i]'hi).toNat : Int) := by omega
    have k1' : ¬ ((s[i]'hi).toNat : Int) ≤ 223 := by omega
    have k2 : 224 ≤ ((s[i]'hi).toNat : Int) := by omega
    have k2' : ((s[i]'hi).toNat : Int) ≤ 239 := by omega
    have k3 : ¬ 240 ≤ ((s[i]'hi).toNat : Int) := by omega
    cases b1 : bt (sb s) (i + 1) (sec c).1 (sec c).2
    · rw [if_neg (by omega), if_neg (by rw [b1]; simp), if_neg (by omega)] at hr
      cases hr
      have B1 := Lib.hid b1
      clear hcc r1 r2 r3 b1
      go_enter Tryd.func113, Tryd.ntmps113
      go_wp2_with fail
      refine (S.out w).mono ?_
      rintro e w' ⟨rfl, rfl⟩
      go_wp2_with fail
      refine (pbetween_any s (i + 1) _ (sec c).1 (sec c).2 w hs (by omega) (by push_cast; rfl) _ B1.out).mono ?_
      rintro e w' ⟨rfl, rfl⟩
      go_wp2
      go_ret2
      exact ⟨rfl, rfl⟩
    · cases b2 : bt (sb s) (i + 2) 128 191
      · rw [if_neg (by omega), if_neg (by rw [b2]; simp), if_neg (by omega)] at hr
        cases hr
        have B1 := Lib.hid b1; have B2 := Lib.hid b2
        clear hcc r1 r2 r3 b1 b2
        go_enter Tryd.func113, Tryd.ntmps113
        go_wp2_with fail
        refine (S.out w).mono ?_
        rintro e w' ⟨rfl, rfl⟩
        go_wp2_with fail
        refine (pbetween_any s (i + 1) _ (sec c).1 (sec c).2 w hs (by omega) (by push_cast; rfl) _ B1.out).mono ?_
        rintro e w' ⟨rfl, rfl⟩
        go_wp2_with fail
        refine (pbetween_any s (i + 2) _ 128 191 w hs (by omega) (by push_cast; rfl) _ B2.out).mono ?_
        rintro e w' ⟨rfl, rfl⟩
        go_wp2
        go_ret2
        exact ⟨rfl, rfl⟩
      · rw [if_neg (by omega), if_pos ⟨by omega, r3, b1, b2⟩] at hr
        cases hr
        have B1 := Lib.hid b1; have B2 := Lib.hid b2
        clear hcc r1 r2 r3 b1 b2
        go_enter Tryd.func113, Tryd.ntmps113
        go_wp2_with fail
        refine (S.out w).mono ?_
        rintro e w' ⟨rfl, rfl⟩
        go_wp2_with fail
        refine (pbetween_any s (i + 1) _ (sec c).1 (sec c).2 w hs (by omega) (by push_cast; rfl) _ B1.out).mono ?_
        rintro e w' ⟨rfl, rfl⟩
        go_wp2_with fail
        refine (pbetween_any s (i + 2) _ 128 191 w hs (by omega) (by push_cast; rfl) _ B2.out).mono ?_
        rintro e w' ⟨rfl, rfl⟩
        go_wp2
        go_ret2
        exact ⟨rfl, rfl⟩
  by_cases r4 : c ≤ 244
  · have k1 : 194 ≤ ((s[i]'hi).toNat : Int) := by omega
    have k1' : ¬ ((s[i]'hi).toNat : Int) ≤ 223 := by omega
    have k2 : 224 ≤ ((s[i]'hi).toNat : Int) := by omega
    have k2' : ¬ ((s[i]'hi).toNat : Int) ≤ 239 := by omega
    have k3 : 240 ≤ ((s[i]'hi).toNat : Int) := by omega
    have k3' : ((s[i]'hi).toNat : Int) ≤ 244 := by omega
    cases b1 : bt (sb s) (i + 1) (sec c).1 (sec c).2
    · rw [if_neg (by omega), if_neg (by omega), if_neg (by rw [b1]; simp)] at hr
      cases hr
      have B1 := Lib.hid b1
      clear hcc r1 r2 r3 r4 b1
      go_enter Tryd.func113, Tryd.ntmps113
      go_wp2_with fail
      refine (S.out w).mono ?_
      rintro e w' ⟨rfl, rfl⟩
      go_wp2_with fail
      refine (pbetween_any s (i + 1) _ (sec c).1 (sec c).2 w hs (by omega) (by push_cast; rfl) _ B1.out).mono ?_
      rintro e w' ⟨rfl, rfl⟩
      go_wp2
      go_ret2
      exact ⟨rfl, rfl⟩
    · cases b2 : bt (sb s) (i + 2) 128 191
      · rw [if_neg (by omega), if_neg (by omega), if_neg (by rw [b2]; simp)] at hr
        cases hr
        have B1 := Lib.hid b1; have B2 := Lib.hid b2
        clear hcc r1 r2 r3 r4 b1 b2
        go_enter Tryd.func113, Tryd.ntmps113
        go_wp2_with fail
        refine (S.out w).mono ?_
        rintro e w' ⟨rfl, rfl⟩
        go_wp2_with fail
        refine (pbetween_any s (i + 1) _ (sec c).1 (sec c).2 w hs (by omega) (by push_cast; rfl) _ B1.out).mono ?_
        rintro e w' ⟨rfl, rfl⟩
        go_wp2_with fail
        refine (pbetween_any s (i + 2) _ 128 191 w hs (by omega) (by push_cast; rfl) _ B2.out).mono ?_
        rintro e w' ⟨rfl, rfl⟩
        go_wp2
        go_ret2
        exact ⟨rfl, rfl⟩
      · cases b3 : bt (sb s) (i + 3) 128 191
        · rw [if_neg (by omega), if_neg (by omega), if_neg (by rw [b3]; simp)] at hr
          cases hr
          have B1 := Lib.hid b1; have B2 := Lib.hid b2; have B3 := Lib.hid b3
          clear hcc r1 r2 r3 r4 b1 b2 b3
          go_enter Tryd.func113, Tryd.ntmps113
          go_wp2_with fail
          refine (S.out w).mono ?_
          rintro e w' ⟨rfl, rfl⟩
          go_wp2_with fail
          refine (pbetween_any s (i + 1) _ (sec c).1 (sec c).2 w hs (by omega) (by push_cast; rfl) _ B1.out).mono ?_
          rintro e w' ⟨rfl, rfl⟩
          go_wp2_with fail
          refine (pbetween_any s (i + 2) _ 128 191 w hs (by omega) (by push_cast; rfl) _ B2.out).mono ?_
          rintro e w' ⟨rfl, rfl⟩
          go_wp2_with fail
          refine (pbetween_any s (i + 3) _ 128 191 w hs (by omega) (by push_cast; rfl) _ B3.out).mono ?_
          rintro e w' ⟨rfl, rfl⟩
          go_wp2
          go_ret2
          exact ⟨rfl, rfl⟩
        · rw [if_neg (by omega), if_neg (by omega), if_pos ⟨by omega, r4, b1, b2, b3⟩] at hr
          cases hr
          have B1 := Lib.hid b1; have B2 := Lib.hid b2; have B3 := Lib.hid b3
          clear hcc r1 r2 r3 r4 b1 b2 b3
          go_enter Tryd.func113, Tryd.ntmps113
          go_wp2_with fail
          refine (S.out w).mono ?_
          rintro e w' ⟨rfl, rfl⟩
          go_wp2_with fail
          refine (pbetween_any s (i + 1) _ (sec c).1 (sec c).2 w hs (by omega) (by push_cast; rfl) _ B1.out).mono ?_
          rintro e w' ⟨rfl, rfl⟩
          go_wp2_with fail
          refine (pbetween_any s (i + 2) _ 128 191 w hs (by omega) (by push_cast; rfl) _ B2.out).mono ?_
          rintro e w' ⟨rfl, rfl⟩
          go_wp2_with fail
          refine (pbetween_any s (i + 3) _ 128 191 w hs (by omega) (by push_cast; rfl) _ B3.out).mono ?_
          rintro e w' ⟨rfl, rfl⟩
          go_wp2
          go_ret2
          exact ⟨rfl, rfl⟩
  have k1 : 194 ≤ ((s[i]'hi).toNat : Int) := by omega
  have k1' : ¬ ((s[i]'hi).toNat : Int) ≤ 223 := by omega
  have k2 : 224 ≤ ((s[i]'hi).toNat : Int) := by omega
  have k2' : ¬ ((s[i]'hi).toNat : Int) ≤ 239 := by omega
  have k3 : 240 ≤ ((s[i]'hi).toNat : Int) := by omega
  have k3' : ¬ ((s[i]'hi).toNat : Int) ≤ 244 := by omega
  rw [if_neg (by omega), if_neg (by omega), if_neg (by omega)] at hr
  cases hr
  clear hcc r1 r2 r3 r4
  go_enter Tryd.func113, Tryd.ntmps113
  go_wp2_with fail
  refine (S.out w).mono ?_
  rintro e w' ⟨rfl, rfl⟩
  go_wp2
  go_ret2
  exact ⟨rfl, rfl⟩

end Go.Proofs.YtgfhhpodcnohpaaDoor

/- Contracts of the reference's Units, Lines, Borders and Has. Conditions: texts of at most 100000 bytes, lists of at most 100000 integers. -/
namespace Go.Proofs.YtgfhhpodcnohpaaDoor
open Go.RowKit Go.Shelf
set_option linter.unusedVariables false

/-- The offsets behind the line feeds; i is the offset of the head. -/
def lnsF (i : Nat) : List Int → List Int
  | [] => []
  | c :: t => if c = 10 then ((i + 1 : Nat) : Int) :: lnsF (i + 1) t else lnsF (i + 1) t
def lns (Z : List Int) : List Int := 0 :: lnsF 0 Z
def bordI (Z : List Int) : List Int := (bords 0 Z).map (fun n : Nat => (n : Int))
theorem drop_ab {Z : List Int} {i : Nat} (h : i < Z.length) : Z.drop i = ab Z i :: Z.drop (i + 1) := by
  rw [List.drop_eq_getElem_cons h]; simp [ab, h]
theorem lnsF_len (i : Nat) (Z : List Int) : (lnsF i Z).length ≤ Z.length := by
  induction Z generalizing i with
  | nil => simp [lnsF]
  | cons c t ih =>
    have := ih (i + 1)
    unfold lnsF
    split
    · simp; omega
    · simp; omega
theorem bords_len (i : Nat) (Z : List Int) : (bords i Z).length ≤ Z.length + 1 := by
  induction hn : Z.length using Nat.strongRecOn generalizing Z i with
  | _ n ih =>
    by_cases h : Z = []
    · subst h; rw [bords_nil]; simp
    · have h1 := chr_pos Z
      have h2 := List.length_pos_iff.2 h
      have := ih (Z.drop (chr Z).1).length (by rw [List.length_drop]; omega) (i + (chr Z).1) _ rfl
      rw [bords_cons i h]
      rw [List.length_drop] at this
      simp; omega

/-- A row of integers of a call's own, and what lay lies as it lay. -/
def OutZ (P : Nat) (w wr : World) (ov : Value) (zs : List Int) : Prop := wr.ownsRow P 3 1 ov zs.length (zs.map (Value.int .i64)) ∧ Below P w wr
theorem outz_step1 {P k : Nat} {w wr w3 : World} {ov v' : Value} {zs E : List Int} {tmp : Obj} (h : OutZ P w wr ov zs) (hP : P ≤ wr.heap.size) (hown3 : w3.ownsRow P 3 1 v' k (zs.map (Value.int .i64) ++ E.map (Value.int .i64))) (hg : (wr.alloc tmp).grownBy w3 ov.ownBlock) : OutZ P w w3 v' (zs ++ E) := by
  rw [← List.map_append] at hown3
  have hk : k = (zs ++ E).length := by have := hown3.1; rw [List.length_map] at this; omega
  subst hk
  exact ⟨hown3, h.2.trans (((Below.refl _ _).alloc hP _).grown hg (by simp; omega) (fun g eg => (h.1.lt g eg).1))⟩
theorem own_litZ (w : World) (x : Int) : (w.alloc (.cells #[.int .i64 x] 3)).ownsRow w.heap.size 3 1 (.slice (some ⟨w.heap.size, 0, none⟩) 1 1) 1 ([x].map (Value.int .i64)) :=
  ⟨rfl, .inr ⟨w.heap.size, 1, #[.int .i64 x], rfl, Nat.le_refl _, World.alloc_heap_new w _, Nat.le_refl _, by unfold maxLen; omega, rfl, rfl⟩⟩

set_option maxRecDepth 100000 in
set_option maxHeartbeats 1000000 in
theorem rlines_any (s : ByteArray) (w : World) (hs : s.size ≤ 100000) :
    Calls Tryd.prog 33 #[.string s] w (NewRow .i64 3 w (lns (sb s))) := by
  obtain ⟨i3, hi3, hy0, hy1, hy2⟩ := info_parts info3
  obtain ⟨P, hP⟩ : ∃ P, w.heap.size = P := ⟨_, rfl⟩
  obtain ⟨Q, hQ⟩ : ∃ Q, lns (sb s) = Q := ⟨_, rfl⟩
  have hQl : Q.length ≤ 100001 := by have := lnsF_len 0 (sb s); rw [sb_len] at this; rw [← hQ]; simp [lns]; omega
  have hq0 : Q = [0] ++ lnsF 0 ((sb s).drop 0) := by rw [← hQ, List.drop_zero]; rfl
  have HP := Lib.hid hP; have HQ := Lib.hid hQ; have HQ0 := Lib.hid hq0
  rw [hQ]
  have H0 : Hid (OutZ P w (w.alloc (.cells #[.int .i64 0] 3)) (.slice (some ⟨P, 0, none⟩) 1 1) [0]) := by
    rw [← hP]; exact ⟨own_litZ w 0, (Below.refl _ _).alloc (Nat.le_refl _) _⟩
  clear hP hQ hq0
  go_enter Tryd.func33, Tryd.ntmps33
  go_wp2
  rw [HP.out]
  go_loopw [3, 4] (fun o q wr => ∃ (i : Nat) (ov : Value) (pre : List Int), i ≤ s.size ∧ q = .int .i64 (i : Int) ∧ o = ov ∧ Hid (Q = pre ++ lnsF i ((sb s).drop i)) ∧ Hid (OutZ P w wr ov pre)) (fun _ q _ => s.size - (intOf q).toNat)
  case atStart => exact ⟨0, _, [0], by omega, rfl, rfl, HQ0, H0⟩
  case round =>
    obtain ⟨i, ov, pre, hi, rfl, rfl, HI, HR⟩ := hrel
    by_cases hlt : i < s.size
    · have hd := drop_ab (Z := sb s) (i := i) (by rw [sb_len]; exact hlt)
      have hg := sb_get s i hlt
      have hI := HI.out
      rw [hd, hg] at hI
      by_cases h10 : ((s[i]'hlt).toNat : Int) = 10
      · have hb10 : (((s[i]'hlt).toNat : Int) == 10) = true := by simp; omega
        have HI2 : Hid (Q = (pre ++ [((i + 1 : Nat) : Int)]) ++ lnsF (i + 1) ((sb s).drop (i + 1))) := Lib.hid (by rw [hI, lnsF, if_pos h10]; simp)
        have hown := HR.out.1
        have hP2 : P ≤ wr.heap.size := by have := HR.out.2.size; have := HP.out; omega
        obtain ⟨N, hN⟩ : ∃ N, pre.length = N := ⟨_, rfl⟩
        rw [hN] at hown
        have hNl : N ≤ 100001 := by have h1 := congrArg List.length HI.out; rw [List.length_append] at h1; omega
        have HO := Lib.hid hown
        clear hd hg hI h10 hown hN
        go_wp2_with (at_builtin; refine wpList_append_own _ rfl _ _ 22 rfl P 3 i3 (.int .i64 0) 1 8 Tryd.underlying22 hi3 hy0 hy1 hy2 rfl (by decide) u3 N (pre.map (Value.int .i64)) rfl (HO.out.alloc _) ⟨wr.heap.size, 0, none⟩ 1 1 [.int .i64 ((i : Int) + 1)] rfl rfl (cell_one_new _ _ _) (fun x hx => by simp at hx; subst hx; rfl) (by unfold maxLen; omega) (by omega) (by simp; omega) ?_; intro v' w3 hown3 hgrow3 _; obtain ⟨A3, k3, rfl⟩ := own_slice hown3)
        have H3 : Hid (OutZ P w w3 (.slice A3 (N + 1) k3) (pre ++ [((i + 1 : Nat) : Int)])) := outz_step1 (E := [((i + 1 : Nat) : Int)]) HR.out hP2 (by push_cast; exact hown3) hgrow3
        clear hown3 hgrow3
        go_wp2
        go_roundw
        case rel => exact ⟨i + 1, _, _, by omega, by go_num, rfl, HI2, H3⟩
        case measure => simp [intOf]; omega
      · have hb10 : (((s[i]'hlt).toNat : Int) == 10) = false := by simp; omega
        have HI2 : Hid (Q = pre ++ lnsF (i + 1) ((sb s).drop (i + 1))) := Lib.hid (by rw [hI, lnsF, if_neg h10])
        clear hd hg hI h10
        go_wp2
        go_roundw
        case rel => exact ⟨i + 1, _, _, by omega, by go_num, rfl, HI2, HR⟩
        case measure => simp [intOf]; omega
    · have hfin : Q = pre := by
        have := HI.out
        rwa [List.drop_eq_nil_of_le (by rw [sb_len]; omega), lnsF, List.append_nil] at this
      subst hfin
      go_wp2
      go_ret
      exact ⟨u3, rfl, by rw [HP.out]; exact HR.out.1, by rw [HP.out]; exact HR.out.2⟩

end Go.Proofs.YtgfhhpodcnohpaaDoor

/- The mathematics of positions: offsets at which characters begin, lines, and units. It has no conditions. -/
namespace Go.Proofs.YtgfhhpodcnohpaaDoor
open Go.RowKit
set_option linter.unusedVariables false

theorem take_ne {Z : List Int} {m : Nat} (hz : Z ≠ []) (hm : 1 ≤ m) : Z.take m ≠ [] := by
  intro e
  have h1 := congrArg List.length e
  rw [List.length_take, List.length_nil] at h1
  have := List.length_pos_iff.2 hz
  omega
/-- Whole characters lead from the head to offset i; they have u units. -/
inductive Bord : List Int → Nat → Nat → Prop
  | zero (Z : List Int) : Bord Z 0 0
  | step {Z : List Int} {i u : Nat} : Z ≠ [] → Bord (Z.drop (chr Z).1) i u → Bord Z ((chr Z).1 + i) ((chr Z).2 + u)
theorem Bord.le {Z : List Int} {i u : Nat} (h : Bord Z i u) : i ≤ Z.length := by
  induction h with
  | zero Z => exact Nat.zero_le _
  | step hz _ ih => have := chr_le hz; rw [List.length_drop] at ih; omega
theorem Bord.unis_take {Z : List Int} {i u : Nat} (h : Bord Z i u) : unis (Z.take i) = u := by
  induction h with
  | zero Z => rw [List.take_zero, unis_nil]
  | @step Z i u hz _ ih =>
    have hp := chr_pos Z
    have hne : Z.take ((chr Z).1 + i) ≠ [] := take_ne hz (by omega)
    have hc : chr (Z.take ((chr Z).1 + i)) = chr Z := chr_take (by omega)
    rw [unis_cons hne, hc, List.drop_take, Nat.add_sub_cancel_left, ih]
theorem Bord.det {Z : List Int} {i u v : Nat} (h : Bord Z i u) (k : Bord Z i v) : u = v := by rw [← h.unis_take, ← k.unis_take]
theorem Bord.snoc {Z : List Int} {i u : Nat} (h : Bord Z i u) (hz : Z.drop i ≠ []) : Bord Z (i + (chr (Z.drop i)).1) (u + (chr (Z.drop i)).2) := by
  induction h with
  | zero Z =>
    have := Bord.step (Z := Z) (by simpa using hz) (Bord.zero _)
    simpa using this
  | @step Z i u hz0 _ ih =>
    rw [← List.drop_drop] at hz ⊢
    have := Bord.step hz0 (ih hz)
    rwa [← Nat.add_assoc, ← Nat.add_assoc] at this
theorem Bord.add {Z : List Int} {i u j v : Nat} (h : Bord Z i u) (k : Bord (Z.drop i) j v) : Bord Z (i + j) (u + v) := by
  induction h with
  | zero Z => simpa using k
  | @step Z i u hz0 _ ih =>
    rw [← List.drop_drop] at k
    have := Bord.step hz0 (ih k)
    rwa [← Nat.add_assoc, ← Nat.add_assoc] at this
theorem Bord.full (Z : List Int) : Bord Z Z.length (unis Z) := by
  induction hn : Z.length using Nat.strongRecOn generalizing Z with
  | _ n ih =>
    subst hn
    by_cases h : Z = []
    · subst h; rw [unis_nil]; exact Bord.zero _
    · have h1 := chr_pos Z
      have h2 := List.length_pos_iff.2 h
      have := Bord.step h (ih (Z.drop (chr Z).1).length (by rw [List.length_drop]; omega) _ rfl)
      rw [← unis_cons h, List.length_drop] at this
      have h3 := chr_le h
      rwa [show (chr Z).1 + (Z.length - (chr Z).1) = Z.length by omega] at this
/-- Of two offsets at which characters begin, the greater one lies whole characters behind. -/
theorem Bord.diff {Z : List Int} {i u : Nat} (h : Bord Z i u) : ∀ {j v : Nat}, Bord Z j v → i ≤ j → ∃ w, Bord (Z.drop i) (j - i) w ∧ v = u + w := by
  induction h with
  | zero Z => intro j v k _; exact ⟨v, by simpa using k, by omega⟩
  | @step Z i u hz0 h0 ih =>
    intro j v k hij
    have hp := chr_pos Z
    cases k with
    | zero => omega
    | @step _ j v _ k =>
      obtain ⟨w, h1, h2⟩ := ih k (by omega)
      refine ⟨w, ?_, by omega⟩
      rw [List.drop_drop] at h1
      rwa [show (chr Z).1 + j - ((chr Z).1 + i) = j - i by omega]
theorem Bord.pos {Z : List Int} {i u : Nat} (h : Bord Z i u) (hi : 0 < i) : 0 < u := by
  cases h with
  | zero => omega
  | step _ _ => have := chr_pos Z; omega
theorem Bord.lt {Z : List Int} {i u j v : Nat} (h : Bord Z i u) (k : Bord Z j v) (hij : i < j) : u < v := by
  obtain ⟨w, h1, h2⟩ := h.diff k (by omega)
  have := h1.pos (by omega)
  omega
theorem Bord.inj {Z : List Int} {i j u : Nat} (h : Bord Z i u) (k : Bord Z j u) : i = j := by
  rcases Nat.lt_trichotomy i j with h1 | h1 | h1
  · have := h.lt k h1; omega
  · exact h1
  · have := k.lt h h1; omega
/-- The next offset at which a character begins. -/
theorem Bord.next {Z : List Int} {i u j v : Nat} (h : Bord Z i u) (k : Bord Z j v) (hij : i < j) : i + (chr (Z.drop i)).1 ≤ j := by
  obtain ⟨w, h1, _⟩ := h.diff k (by omega)
  obtain ⟨d, hd⟩ : ∃ d, j - i = d := ⟨_, rfl⟩
  rw [hd] at h1
  cases h1 with
  | zero => omega
  | step _ _ => omega
theorem mem_bords {Z : List Int} {k x : Nat} : x ∈ bords k Z ↔ ∃ i u, Bord Z i u ∧ x = k + i := by
  induction hn : Z.length using Nat.strongRecOn generalizing Z k with
  | _ n ih =>
    by_cases h : Z = []
    · subst h
      rw [bords_nil]
      constructor
      · intro hx; simp at hx; exact ⟨0, 0, Bord.zero _, by omega⟩
      · rintro ⟨i, u, hb, rfl⟩
        have := hb.le
        simp at this ⊢; omega
    · have h1 := chr_pos Z
      have h2 := List.length_pos_iff.2 h
      rw [bords_cons k h, List.mem_cons, ih (Z.drop (chr Z).1).length (by rw [List.length_drop]; omega) rfl]
      constructor
      · rintro (rfl | ⟨i, u, hb, rfl⟩)
        · exact ⟨0, 0, Bord.zero _, by omega⟩
        · exact ⟨_, _, Bord.step h hb, by omega⟩
      · rintro ⟨i, u, hb, rfl⟩
        cases hb with
        | zero => exact .inl (by omega)
        | @step _ i u _ hb => exact .inr ⟨i, u, hb, by omega⟩
theorem mem_bordI {Z : List Int} {x : Nat} : (x : Int) ∈ bordI Z ↔ ∃ u, Bord Z x u := by
  unfold bordI
  rw [List.mem_map]
  constructor
  · rintro ⟨n, hn, he⟩
    obtain ⟨i, u, hb, rfl⟩ := mem_bords.1 hn
    have : x = i := by omega
    subst this
    exact ⟨u, hb⟩
  · rintro ⟨u, hb⟩
    exact ⟨x, mem_bords.2 ⟨x, u, hb, by omega⟩, rfl⟩
/-- Whole characters of the first m bytes are those of the text. -/
theorem Bord.of_take {Z : List Int} {m i u : Nat} (h : Bord Z i u) (hi : i ≤ m) : Bord (Z.take m) i u := by
  induction h generalizing m with
  | zero Z => exact Bord.zero _
  | @step Z i u hz h0 ih =>
    have hp := chr_pos Z
    have hne : Z.take m ≠ [] := take_ne hz (by omega)
    have hc : chr (Z.take m) = chr Z := chr_take (by omega)
    have := Bord.step hne (i := i) (u := u) (by rw [hc, List.drop_take]; exact ih (by omega))
    rwa [hc] at this

/-- Lines and the beginning of the line at offset i. -/
def lf (Z : List Int) : Nat → Nat × Nat
  | 0 => (0, 0)
  | i + 1 => if ab Z i = 10 then ((lf Z i).1 + 1, i + 1) else lf Z i
theorem lf_nl {Z : List Int} {i : Nat} (h : ab Z i = 10) : lf Z (i + 1) = ((lf Z i).1 + 1, i + 1) := by rw [lf, if_pos h]
theorem lf_no {Z : List Int} {i : Nat} (h : ab Z i ≠ 10) : lf Z (i + 1) = lf Z i := by rw [lf, if_neg h]
theorem lf_le (Z : List Int) (i : Nat) : (lf Z i).2 ≤ i ∧ (lf Z i).1 ≤ i := by
  induction i with
  | zero => exact ⟨Nat.le_refl _, Nat.le_refl _⟩
  | succ i ih =>
    by_cases h : ab Z i = 10
    · rw [lf_nl h]; simp only; omega
    · rw [lf_no h]; omega
theorem lf_same {Z : List Int} {i : Nat} (n : Nat) (h : ∀ j, j < n → ab Z (i + j) ≠ 10) : lf Z (i + n) = lf Z i := by
  induction n with
  | zero => rfl
  | succ n ih => rw [← Nat.add_assoc, lf_no (h n (by omega)), ih (fun j hj => h j (by omega))]
/-- No line feed lies between the beginning of the line and offset i. -/
theorem lf_free (Z : List Int) (i j : Nat) (h1 : (lf Z i).2 ≤ j) (h2 : j < i) : ab Z j ≠ 10 := by
  induction i with
  | zero => omega
  | succ i ih =>
    by_cases h : ab Z i = 10
    · rw [lf_nl h] at h1; simp only at h1; omega
    · rw [lf_no h] at h1
      by_cases hj : j = i
      · subst hj; exact h
      · exact ih h1 (by omega)
/-- The bytes of a character but for a line feed are none. -/
theorem chr_no10 {Z : List Int} {i : Nat} (h : ab Z i ≠ 10) (j : Nat) (hj : j < (chr (Z.drop i)).1) : ab Z (i + j) ≠ 10 := by
  have e : ab (Z.drop i) j = ab Z (i + j) := by unfold ab; rw [List.getElem?_drop]
  by_cases h1 : (chr (Z.drop i)).1 = 1
  · have : j = 0 := by omega
    subst this; exact h
  · have := chr_high h1 j hj
    rw [e] at this; omega
theorem drop_zero_ab (Z : List Int) (i : Nat) : ab (Z.drop i) 0 = ab Z i := by unfold ab; rw [List.getElem?_drop]; rfl

/-- Offset i has this position. -/
def Pos (Z : List Int) (i l u : Nat) : Prop := (∃ U, Bord Z i U) ∧ l = (lf Z i).1 ∧ Bord (Z.drop (lf Z i).2) (i - (lf Z i).2) u
theorem Pos.zero (Z : List Int) : Pos Z 0 0 0 := ⟨⟨0, Bord.zero _⟩, rfl, Bord.zero _⟩
/-- The position behind a character. -/
theorem Pos.step {Z : List Int} {i l u : Nat} (h : Pos Z i l u) (hi : i < Z.length) :
    Pos Z (i + (chr (Z.drop i)).1) (if ab Z i = 10 then l + 1 else l) (if ab Z i = 10 then 0 else u + (chr (Z.drop i)).2) := by
  obtain ⟨⟨U, hb⟩, rfl, hu⟩ := h
  have hne : Z.drop i ≠ [] := by intro e; have := congrArg List.length e; rw [List.length_drop] at this; simp at this; omega
  refine ⟨⟨_, hb.snoc hne⟩, ?_⟩
  by_cases h10 : ab Z i = 10
  · have hc : chr (Z.drop i) = (1, 1) := chr_ascii (by rw [drop_zero_ab, h10]; decide)
    rw [hc, if_pos h10, if_pos h10, lf_nl h10]
    exact ⟨rfl, by rw [Nat.sub_self]; exact Bord.zero _⟩
  · rw [if_neg h10, if_neg h10, lf_same _ (fun j hj => chr_no10 h10 j hj)]
    refine ⟨rfl, ?_⟩
    have hle := (lf_le Z i).1
    have hd : (Z.drop (lf Z i).2).drop (i - (lf Z i).2) = Z.drop i := by rw [List.drop_drop]; congr 1; omega
    have := hu.snoc (by rw [hd]; exact hne)
    rw [hd] at this
    rwa [show i + (chr (Z.drop i)).1 - (lf Z i).2 = i - (lf Z i).2 + (chr (Z.drop i)).1 by omega]
theorem Pos.det {Z : List Int} {i l u l' u' : Nat} (h : Pos Z i l u) (k : Pos Z i l' u') : l = l' ∧ u = u' := ⟨h.2.1.trans k.2.1.symm, h.2.2.det k.2.2⟩
/-- Every offset at which a character begins has a position. -/
theorem pos_of_bord {Z : List Int} {i U : Nat} (h : Bord Z i U) : ∃ u, Pos Z i (lf Z i).1 u := by
  have key : ∀ n j l u V, i - j = n → j ≤ i → Bord Z j V → Pos Z j l u → ∃ u, Pos Z i (lf Z i).1 u := by
    intro n
    induction n using Nat.strongRecOn with
    | _ n ih =>
      intro j l u V hn hj hb hp
      by_cases e : j = i
      · subst e
        have := hp.2.1
        subst this
        exact ⟨u, hp⟩
      · have hlt : j < Z.length := by have := h.le; omega
        have hne : Z.drop j ≠ [] := by intro e; have := congrArg List.length e; rw [List.length_drop] at this; simp at this; omega
        have hnx := hb.next h (by omega)
        have hpos := chr_pos (Z.drop j)
        exact ih (i - (j + (chr (Z.drop j)).1)) (by omega) _ _ _ _ rfl hnx (hb.snoc hne) (hp.step hlt)
  exact key _ 0 0 0 0 rfl (Nat.zero_le _) (Bord.zero _) (Pos.zero _)

end Go.Proofs.YtgfhhpodcnohpaaDoor

/- The contract of the reference's At. Conditions: texts of at most 100000 bytes. -/
namespace Go.Proofs.YtgfhhpodcnohpaaDoor
open Go.RowKit Go.Shelf
set_option linter.unusedVariables false

theorem sb_extract (s : ByteArray) (a b : Nat) : sb (s.extract a b) = ((sb s).drop a).take (b - a) := by
  unfold sb
  rw [ByteArray.data_extract, Array.toList_extract, List.map_take, List.map_drop]
/-- What At returns: line, unit, error. -/
def AtSpec (Z : List Int) (off : Int) (l u : Nat) (e : Int) : Prop :=
  (e = 5 ∧ l = 0 ∧ u = 0 ∧ (off < 0 ∨ (Z.length : Int) < off)) ∨
  (e = 1 ∧ l = 0 ∧ u = 0 ∧ ∃ i : Nat, off = (i : Int) ∧ i ≤ Z.length ∧ ¬ ∃ U, Bord Z i U) ∨
  (e = 0 ∧ ∃ i : Nat, off = (i : Int) ∧ Pos Z i l u)
theorem AtSpec.det {Z : List Int} {off : Int} {l u l' u' : Nat} {e e' : Int} (h : AtSpec Z off l u e) (k : AtSpec Z off l' u' e') : l = l' ∧ u = u' ∧ e = e' := by
  have hb : ∀ {i l u}, Pos Z i l u → i ≤ Z.length := fun h => by obtain ⟨⟨U, hU⟩, _⟩ := h; exact hU.le
  rcases h with ⟨rfl, rfl, rfl, h⟩ | ⟨rfl, rfl, rfl, i, rfl, h1, h2⟩ | ⟨rfl, i, rfl, h⟩ <;> rcases k with ⟨rfl, rfl, rfl, k⟩ | ⟨rfl, rfl, rfl, j, hj, k1, k2⟩ | ⟨rfl, j, hj, k⟩
  · exact ⟨rfl, rfl, rfl⟩
  · omega
  · have := hb k; omega
  · omega
  · exact ⟨rfl, rfl, rfl⟩
  · obtain rfl : i = j := by omega
    exact absurd k.1 h2
  · have := hb h; omega
  · obtain rfl : i = j := by omega
    exact absurd h.1 k2
  · obtain rfl : i = j := by omega
    obtain ⟨h1, h2⟩ := h.det k
    exact ⟨h1, h2, rfl⟩
/-- A call of At returns what it should, and what lay lies as it lay. -/
def AtPost (s : ByteArray) (off : Int) (w : World) (e : Ending) (w' : World) : Prop :=
  ∃ (l u : Nat) (er : Int), e = .returned (.tuple #[.agg #[.int .i64 (l : Int), .int .i64 (u : Int)], .int .i64 er]) ∧ AtSpec (sb s) off l u er ∧ Below w.heap.size w w'

end Go.Proofs.YtgfhhpodcnohpaaDoor

/- The mathematics of lines: where they begin and end, and what Offset should return. It has no conditions. -/
namespace Go.Proofs.YtgfhhpodcnohpaaDoor
open Go.RowKit
set_option linter.unusedVariables false

theorem lf_start (Z : List Int) (i : Nat) : lf Z (lf Z i).2 = lf Z i := by
  induction i with
  | zero => rfl
  | succ i ih =>
    by_cases h : ab Z i = 10
    · rw [lf_nl h]; exact lf_nl h
    · rw [lf_no h]; exact ih
theorem lf_mono (Z : List Int) (i n : Nat) : (lf Z i).1 ≤ (lf Z (i + n)).1 := by
  induction n with
  | zero => exact Nat.le_refl _
  | succ n ih =>
    rw [← Nat.add_assoc]
    by_cases h : ab Z (i + n) = 10
    · rw [lf_nl h]; simp only; omega
    · rw [lf_no h]; exact ih
theorem lf_line {Z : List Int} {i : Nat} (n : Nat) (h : (lf Z (i + n)).1 = (lf Z i).1) : lf Z (i + n) = lf Z i := by
  induction n with
  | zero => rfl
  | succ n ih =>
    rw [← Nat.add_assoc] at h ⊢
    by_cases h10 : ab Z (i + n) = 10
    · rw [lf_nl h10] at h; have := lf_mono Z i n; simp only at h; omega
    · rw [lf_no h10] at h ⊢; exact ih h
/-- A line feed is a character of its own. -/
theorem nl_bord {Z : List Int} {j : Nat} (hj : j < Z.length) (h10 : ab Z j = 10) : ∃ U, Bord Z j U := by
  have key : ∀ n i U, j - i = n → i ≤ j → Bord Z i U → ∃ U, Bord Z j U := by
    intro n
    induction n using Nat.strongRecOn with
    | _ n ih =>
      intro i U hn hij hb
      by_cases e : i = j
      · subst e; exact ⟨U, hb⟩
      · have hne : Z.drop i ≠ [] := by intro e; have := congrArg List.length e; rw [List.length_drop] at this; simp at this; omega
        have hp := chr_pos (Z.drop i)
        by_cases hc : i + (chr (Z.drop i)).1 ≤ j
        · exact ih (j - (i + (chr (Z.drop i)).1)) (by omega) _ _ rfl hc (hb.snoc hne)
        · exfalso
          have := chr_high (Z := Z.drop i) (by omega) (j - i) (by omega)
          have e2 : ab (Z.drop i) (j - i) = ab Z j := by unfold ab; rw [List.getElem?_drop]; congr 2; omega
          rw [e2] at this; omega
  exact key _ 0 0 rfl (Nat.zero_le _) (Bord.zero _)
/-- The end of line l, at offset E behind v units. -/
def Eol (Z : List Int) (E l v : Nat) : Prop := Pos Z E l v ∧ (E = Z.length ∨ ab Z E = 10)
theorem Pos.lt {Z : List Int} {i l u : Nat} (h : Pos Z i l u) : i ≤ Z.length := by obtain ⟨⟨U, hU⟩, _⟩ := h; exact hU.le
theorem Pos.same {Z : List Int} {i j l u v : Nat} (h : Pos Z i l u) (k : Pos Z j l v) : lf Z i = lf Z j := by
  rcases Nat.le_total i j with hij | hij
  · obtain ⟨n, rfl⟩ : ∃ n, j = i + n := ⟨j - i, by omega⟩
    exact (lf_line n (by rw [← k.2.1, ← h.2.1])).symm
  · obtain ⟨n, rfl⟩ : ∃ n, i = j + n := ⟨i - j, by omega⟩
    exact lf_line n (by rw [← k.2.1, ← h.2.1])
theorem Pos.inj {Z : List Int} {i j l u : Nat} (h : Pos Z i l u) (k : Pos Z j l u) : i = j := by
  have e := h.same k
  have h1 := h.2.2
  have k1 := k.2.2
  have hi := (lf_le Z i).1
  have hj := (lf_le Z j).1
  rw [e] at h1 hi
  have := h1.inj k1
  omega
theorem Pos.mono {Z : List Int} {i j l u v : Nat} (h : Pos Z i l u) (k : Pos Z j l v) (hij : i ≤ j) : u ≤ v := by
  have e := h.same k
  have h1 := h.2.2
  have k1 := k.2.2
  have hi := (lf_le Z i).1
  rw [e] at h1 hi
  obtain ⟨w, _, hw⟩ := h1.diff k1 (by omega)
  omega
/-- Every line that has a position ends. -/
theorem Pos.eol {Z : List Int} {i l u : Nat} (h : Pos Z i l u) : ∃ E v, Eol Z E l v ∧ i ≤ E ∧ u ≤ v := by
  have key : ∀ n i u, Z.length - i = n → Pos Z i l u → ∃ E v, Eol Z E l v ∧ i ≤ E := by
    intro n
    induction n using Nat.strongRecOn with
    | _ n ih =>
      intro i u hn hp
      by_cases e : i = Z.length
      · exact ⟨i, u, ⟨hp, .inl e⟩, Nat.le_refl _⟩
      · have hlt : i < Z.length := by have := hp.lt; omega
        by_cases h10 : ab Z i = 10
        · exact ⟨i, u, ⟨hp, .inr h10⟩, Nat.le_refl _⟩
        · have hs := hp.step hlt
          rw [if_neg h10, if_neg h10] at hs
          have hp2 := chr_pos (Z.drop i)
          obtain ⟨E, v, h1, h2⟩ := ih (Z.length - (i + (chr (Z.drop i)).1)) (by omega) _ _ rfl hs
          exact ⟨E, v, h1, by omega⟩
  obtain ⟨E, v, h1, h2⟩ := key _ i u rfl h
  exact ⟨E, v, h1, h2, h.mono h1.1 h2⟩
/-- There is one end of a line. -/
theorem Eol.det {Z : List Int} {E l v E' v' : Nat} (h : Eol Z E l v) (k : Eol Z E' l v') : E = E' ∧ v = v' := by
  have key : ∀ {E v E' v'}, Eol Z E l v → Eol Z E' l v' → E ≤ E' → E = E' := by
    intro E v E' v' h k hle
    rcases h.2 with h1 | h1
    · have := k.1.lt; omega
    · by_cases e : E = E'
      · exact e
      · exfalso
        obtain ⟨n, rfl⟩ : ∃ n, E' = E + 1 + n := ⟨E' - E - 1, by omega⟩
        have m := lf_mono Z (E + 1) n
        rw [lf_nl h1] at m
        have h2 := h.1.2.1
        have k2 := k.1.2.1
        simp only at m; omega
  have e : E = E' := by
    rcases Nat.le_total E E' with hle | hle
    · exact key h k hle
    · exact (key k h hle).symm
  subst e
  exact ⟨rfl, (h.1.det k.1).2⟩

/-- What Offset returns for line l and unit u: an offset and an error. -/
def OffSpec (Z : List Int) (l u : Int) (o : Nat) (e : Int) : Prop :=
  (e = 0 ∧ ∃ l' u' : Nat, l = l' ∧ u = u' ∧ Pos Z o l' u') ∨
  (e = 1 ∧ o = 0 ∧ ∃ l' u' E v : Nat, l = l' ∧ u = u' ∧ Eol Z E l' v ∧ u' ≤ v ∧ ¬ ∃ o, Pos Z o l' u') ∨
  (e = 5 ∧ o = 0 ∧ ¬ ∃ l' u' E v : Nat, l = l' ∧ u = u' ∧ Eol Z E l' v ∧ u' ≤ v)
theorem OffSpec.det {Z : List Int} {l u : Int} {o o' : Nat} {e e' : Int} (h : OffSpec Z l u o e) (k : OffSpec Z l u o' e') : o = o' ∧ e = e' := by
  have h05 : ∀ {o l' u'}, l = (l' : Nat) → u = (u' : Nat) → Pos Z o l' u' → ∃ l' u' E v : Nat, l = l' ∧ u = u' ∧ Eol Z E l' v ∧ u' ≤ v := by
    intro o l' u' h1 h2 hp
    obtain ⟨E, v, h3, _, h4⟩ := hp.eol
    exact ⟨l', u', E, v, h1, h2, h3, h4⟩
  rcases h with ⟨rfl, a, b, ha, hb, h⟩ | ⟨rfl, rfl, a, b, E, v, ha, hb, h1, h2, h⟩ | ⟨rfl, rfl, h⟩ <;> rcases k with ⟨rfl, c, d, hc, hd, k⟩ | ⟨rfl, rfl, c, d, E', v', hc, hd, k1, k2, k⟩ | ⟨rfl, rfl, k⟩
  · obtain rfl : a = c := by omega
    obtain rfl : b = d := by omega
    exact ⟨h.inj k, rfl⟩
  · obtain rfl : a = c := by omega
    obtain rfl : b = d := by omega
    exact absurd ⟨_, h⟩ k
  · exact absurd (h05 ha hb h) k
  · obtain rfl : a = c := by omega
    obtain rfl : b = d := by omega
    exact absurd ⟨_, k⟩ h
  · exact ⟨rfl, rfl⟩
  · exact absurd ⟨a, b, E, v, ha, hb, h1, h2⟩ k
  · exact absurd (h05 hc hd k) h
  · exact absurd ⟨c, d, E', v', hc, hd, k1, k2⟩ h
  · exact ⟨rfl, rfl⟩

/-- Line k of the lines that begin at f and at the offsets that are still to come. -/
theorem lines_at (Z : List Int) : ∀ (n i l f : Nat), Z.length - i = n → i ≤ Z.length → lf Z i = (l, f) → ∀ k, k < ((f : Int) :: lnsF i (Z.drop i)).length →
    ∃ g : Nat, ((f : Int) :: lnsF i (Z.drop i))[k]?.getD 0 = (g : Int) ∧ lf Z g = (l + k, g) ∧ g ≤ Z.length ∧
      (k + 1 < ((f : Int) :: lnsF i (Z.drop i)).length → ∃ h : Nat, ((f : Int) :: lnsF i (Z.drop i))[k + 1]?.getD 0 = ((h + 1 : Nat) : Int) ∧ g ≤ h ∧ h < Z.length ∧ ab Z h = 10 ∧ lf Z h = (l + k, g)) ∧
      (k + 1 = ((f : Int) :: lnsF i (Z.drop i)).length → lf Z Z.length = (l + k, g)) := by
  intro n
  induction n with
  | zero =>
    intro i l f hn hi hlf k hk
    obtain rfl : i = Z.length := by omega
    rw [List.drop_length] at hk ⊢
    simp [lnsF] at hk
    subst hk
    have h1 := lf_start Z Z.length
    have h2 := (lf_le Z Z.length).1
    rw [hlf] at h1 h2
    exact ⟨f, rfl, h1, h2, fun h => by simp [lnsF] at h, fun _ => hlf⟩
  | succ n ih =>
    intro i l f hn hi hlf k hk
    have hd := drop_ab (Z := Z) (i := i) (by omega)
    by_cases h10 : ab Z i = 10
    · have e : lnsF i (Z.drop i) = ((i + 1 : Nat) : Int) :: lnsF (i + 1) (Z.drop (i + 1)) := by rw [hd, lnsF, if_pos h10]
      rw [e] at hk ⊢
      have hl2 : lf Z (i + 1) = (l + 1, i + 1) := by rw [lf_nl h10, hlf]
      have IH := ih (i + 1) (l + 1) (i + 1) (by omega) (by omega) hl2
      cases k with
      | zero =>
        have h1 := lf_start Z i
        have h2 := (lf_le Z i).1
        rw [hlf] at h1 h2
        exact ⟨f, rfl, h1, by simp only at h2; omega, fun _ => ⟨i, rfl, h2, by omega, h10, hlf⟩, fun h => by simp at h⟩
      | succ k =>
        obtain ⟨g, h1, h2, h3, h4, h5⟩ := IH k (by simpa using hk)
        refine ⟨g, by simpa using h1, by rw [h2]; congr 1; omega, h3, fun h => ?_, fun h => ?_⟩
        · obtain ⟨x, x1, x2, x3, x4, x5⟩ := h4 (by simpa using h)
          exact ⟨x, by simpa using x1, x2, x3, x4, by rw [x5]; congr 1; omega⟩
        · rw [h5 (by simpa using h)]; congr 1; omega
    · have e : lnsF i (Z.drop i) = lnsF (i + 1) (Z.drop (i + 1)) := by rw [hd, lnsF, if_neg h10]
      rw [e] at hk ⊢
      exact ih (i + 1) l f (by omega) (by omega) (by rw [lf_no h10]; exact hlf) k hk
/-- Line k: it begins at g, and ends at t, the next line feed or the end. -/
theorem line_at {Z : List Int} {k : Nat} (hk : k < (lns Z).length) :
    ∃ g t : Nat, (lns Z)[k]?.getD 0 = (g : Int) ∧ g ≤ t ∧ t ≤ Z.length ∧ lf Z g = (k, g) ∧ lf Z t = (k, g) ∧ Eol Z t k (unis ((Z.drop g).take (t - g))) ∧
      (k + 1 < (lns Z).length → (lns Z)[k + 1]?.getD 0 = ((t + 1 : Nat) : Int)) ∧ (¬ k + 1 < (lns Z).length → t = Z.length) := by
  obtain ⟨g, h1, h2, h3, h4, h5⟩ := lines_at Z _ 0 0 0 rfl (Nat.zero_le _) rfl k (by simpa [lns] using hk)
  rw [Nat.zero_add] at h2
  simp only [List.drop_zero] at h1 h4 h5
  have heol : ∀ t, lf Z t = (k, g) → t ≤ Z.length → g ≤ t → (t = Z.length ∨ (t < Z.length ∧ ab Z t = 10)) → Eol Z t k (unis ((Z.drop g).take (t - g))) := by
    intro t ht htl hgt hw
    have hb : ∃ U, Bord Z t U := by
      rcases hw with rfl | ⟨a, b⟩
      · exact ⟨_, Bord.full Z⟩
      · exact nl_bord a b
    obtain ⟨U, hb⟩ := hb
    obtain ⟨u, hp⟩ := pos_of_bord hb
    have hu := hp.2.2
    rw [ht] at hp hu
    simp only at hp hu
    rw [hu.unis_take]
    exact ⟨hp, hw.imp id (fun h => h.2)⟩
  by_cases hl : k + 1 < (lns Z).length
  · obtain ⟨t, x1, x2, x3, x4, x5⟩ := h4 (by simpa [lns] using hl)
    rw [Nat.zero_add] at x5
    exact ⟨g, t, h1, x2, by omega, h2, x5, heol t x5 (by omega) x2 (.inr ⟨x3, x4⟩), fun _ => x1, fun h => absurd hl h⟩
  · have h6 := h5 (by simp [lns] at hk hl ⊢; omega)
    rw [Nat.zero_add] at h6
    exact ⟨g, Z.length, h1, h3, Nat.le_refl _, h2, h6, heol _ h6 (Nat.le_refl _) h3 (.inl rfl), fun h => absurd h hl, fun _ => rfl⟩
/-- There is no further line. -/
theorem no_line {Z : List Int} {k i u : Nat} (hk : ¬ k < (lns Z).length) (h : Pos Z i k u) : False := by
  have hlen : 0 < (lns Z).length := by simp [lns]
  obtain ⟨g, t, _, _, _, _, h6, _, _, h8⟩ := line_at (Z := Z) (k := (lns Z).length - 1) (by omega)
  have ht := h8 (by omega)
  subst ht
  obtain ⟨n, hn⟩ : ∃ n, Z.length = i + n := ⟨Z.length - i, by have := h.lt; omega⟩
  have m := lf_mono Z i n
  rw [← hn, h6, ← h.2.1] at m
  simp only at m; omega
/-- Whole characters of the first bytes, where these are whole characters, are those of the text. -/
theorem Bord.of_take_back {Y : List Int} {m v : Nat} (h : Bord Y m v) : ∀ {j u : Nat}, Bord (Y.take m) j u → Bord Y j u := by
  induction h with
  | zero Y =>
    intro j u k
    rw [List.take_zero] at k
    cases k with
    | zero => exact Bord.zero _
    | step h _ => exact absurd rfl h
  | @step Y m v hy h0 ih =>
    intro j u k
    have hp := chr_pos Y
    have hc : chr (Y.take ((chr Y).1 + m)) = chr Y := chr_take (by omega)
    cases k with
    | zero => exact Bord.zero _
    | @step _ j u _ k =>
      rw [hc] at k ⊢
      rw [List.drop_take, Nat.add_sub_cancel_left] at k
      exact Bord.step hy (ih k)

end Go.Proofs.YtgfhhpodcnohpaaDoor

/- The contract of the reference's Offset. Conditions: texts of at most 100000 bytes. -/
namespace Go.Proofs.YtgfhhpodcnohpaaDoor
open Go.RowKit Go.Shelf
set_option linter.unusedVariables false

theorem lf_bord {Z : List Int} {i : Nat} (hi : i ≤ Z.length) : ∃ U, Bord Z (lf Z i).2 U := by
  induction i with
  | zero => exact ⟨0, Bord.zero _⟩
  | succ i ih =>
    by_cases h10 : ab Z i = 10
    · rw [lf_nl h10]
      obtain ⟨U, hU⟩ := nl_bord (by omega) h10
      have hne : Z.drop i ≠ [] := by intro e; have := congrArg List.length e; rw [List.length_drop] at this; simp at this; omega
      have := hU.snoc hne
      rw [chr_ascii (by rw [drop_zero_ab, h10]; decide)] at this
      exact ⟨_, this⟩
    · rw [lf_no h10]; exact ih (by omega)
/-- Offsets in the line that begins at g and ends at t. -/
theorem pos_in_line {Z : List Int} {g t k j u : Nat} (hg : lf Z g = (k, g)) (ht : lf Z t = (k, g)) (htl : t ≤ Z.length) (hj : g + j ≤ t) (h : Bord (Z.drop g) j u) : Pos Z (g + j) k u := by
  obtain ⟨U, hU⟩ := lf_bord (Z := Z) (i := g) (by omega)
  rw [hg] at hU
  have hl : lf Z (g + j) = lf Z g := by
    refine lf_line j ?_
    have m1 := lf_mono Z g j
    obtain ⟨n, rfl⟩ : ∃ n, t = g + j + n := ⟨t - (g + j), by omega⟩
    have m2 := lf_mono Z (g + j) n
    rw [ht] at m2
    rw [hg] at m1 ⊢
    simp only at m1 m2 ⊢
    omega
  refine ⟨⟨_, hU.add h⟩, by rw [hl, hg], ?_⟩
  rw [hl, hg, Nat.add_sub_cancel_left]
  exact h
theorem bord_in_line {Z : List Int} {g t k o u v : Nat} (ht : lf Z t = (k, g)) (he : Eol Z t k v) (h : Pos Z o k u) : g ≤ o ∧ o ≤ t ∧ Bord ((Z.drop g).take (t - g)) (o - g) u := by
  have hs := h.same he.1
  have hb := h.2.2
  have hle := (lf_le Z o).1
  rw [hs, ht] at hb hle
  obtain ⟨E, v', h1, h2, _⟩ := h.eol
  obtain ⟨rfl, _⟩ := h1.det he
  exact ⟨hle, h2, hb.of_take (by omega)⟩
theorem bordI_at {X : List Int} {i : Nat} (h : i < (bordI X).length) : ∃ b u, (bordI X)[i]?.getD 0 = ((b : Nat) : Int) ∧ Bord X b u := by
  have h2 : i < (bords 0 X).length := by simpa [bordI] using h
  obtain ⟨j, u, hb, he⟩ := mem_bords.1 (List.getElem_mem h2)
  exact ⟨j, u, by simp [bordI, h2, he], hb⟩
theorem bordI_has {X : List Int} {j u : Nat} (h : Bord X j u) : ∃ i, i < (bordI X).length ∧ (bordI X)[i]?.getD 0 = ((j : Nat) : Int) := by
  obtain ⟨i, hi, he⟩ := List.mem_iff_getElem.1 (mem_bordI.2 ⟨u, h⟩)
  exact ⟨i, hi, by simp [hi, he]⟩
theorem bordI_len (X : List Int) : (bordI X).length ≤ X.length + 1 := by have := bords_len 0 X; simp [bordI]; omega
/-- What the line that begins at g and ends at t tells of Offset. -/
theorem line_spec {Z : List Int} {g t k v x : Nat} (hgt : g ≤ t) (htl : t ≤ Z.length) (hg : lf Z g = (k, g)) (ht : lf Z t = (k, g)) (he : Eol Z t k v) :
    (v < x → OffSpec Z (k : Int) (x : Int) 0 5) ∧
    (∀ j u, Bord ((Z.drop g).take (t - g)) j u → g + j ≤ t ∧ unis ((Z.drop g).take j) = u ∧ (u = x → OffSpec Z (k : Int) (x : Int) (g + j) 0)) ∧
    (x ≤ v → (∀ j u, Bord ((Z.drop g).take (t - g)) j u → u ≠ x) → OffSpec Z (k : Int) (x : Int) 0 1) := by
  have hbe : Bord (Z.drop g) (t - g) v := by have := he.1.2.2; rwa [ht] at this
  refine ⟨fun hv => .inr (.inr ⟨rfl, rfl, ?_⟩), fun j u hj => ?_, fun hv hno => .inr (.inl ⟨rfl, rfl, k, x, t, v, rfl, rfl, he, hv, ?_⟩)⟩
  · rintro ⟨l', u', E, v', hl, hu, h1, h2⟩
    obtain rfl : k = l' := by omega
    obtain ⟨_, rfl⟩ := he.det h1
    omega
  · have hjl := hj.le
    rw [List.length_take] at hjl
    have hb := hbe.of_take_back hj
    refine ⟨by omega, hb.unis_take, ?_⟩
    rintro rfl
    exact .inl ⟨rfl, k, u, rfl, rfl, pos_in_line hg ht htl (by omega) hb⟩
  · rintro ⟨o, ho⟩
    obtain ⟨h1, h2, h3⟩ := bord_in_line ht he ho
    exact hno _ _ h3 rfl
/-- A call of Offset returns what it should, and what lay lies as it lay. -/
def OffPost (s : ByteArray) (l u : Int) (w : World) (e : Ending) (w' : World) : Prop :=
  ∃ (o : Nat) (er : Int), e = .returned (.tuple #[.int .i64 (o : Int), .int .i64 er]) ∧ OffSpec (sb s) l u o er ∧ Below w.heap.size w w'

end Go.Proofs.YtgfhhpodcnohpaaDoor

/- The model's decoding of a rune is the character of the document. It has no conditions. -/
namespace Go.Proofs.YtgfhhpodcnohpaaDoor
open Go.RowKit
set_option linter.unusedVariables false

theorem sb_at (s : ByteArray) (k : Nat) (h : k < s.size) : ab (sb s) k = ((s.get! k).toNat : Int) := by
  have h2 : k < s.data.size := h
  unfold ab sb
  rw [List.getElem?_map]
  have e : s.get! k = s.data[k] := by show s.data[k]! = s.data[k]; exact getElem!_pos s.data k h2
  rw [e]
  have e2 : s.data.toList[k]? = some s.data[k] := by rw [Array.getElem?_toList]; exact Array.getElem?_eq_getElem h2
  rw [e2]; rfl
theorem sb_drop_at (s : ByteArray) (i k : Nat) (h : i + k < s.size) : ab ((sb s).drop i) k = ((s.get! (i + k)).toNat : Int) := by
  rw [← sb_at s (i + k) h]; unfold ab; rw [List.getElem?_drop]
theorem sb_bt (s : ByteArray) (i k : Nat) (lo hi : Int) : bt ((sb s).drop i) k lo hi = decide (i + k < s.size ∧ lo ≤ ((s.get! (i + k)).toNat : Int) ∧ ((s.get! (i + k)).toNat : Int) ≤ hi) := by
  unfold bt
  congr 1
  apply propext
  rw [List.length_drop, sb_len]
  constructor
  · rintro ⟨h1, h2, h3⟩
    rw [sb_drop_at s i k (by omega)] at h2 h3
    exact ⟨by omega, h2, h3⟩
  · rintro ⟨h1, h2, h3⟩
    rw [sb_drop_at s i k h1]
    exact ⟨by omega, h2, h3⟩
/-- The model's decoding over four bytes, of which the last three may not go on (c1, c2, c3). -/
def decN (a0 a1 a2 a3 : Nat) (c1 c2 c3 : Bool) : Nat × Nat :=
  if a0 < 128 then (a0, 1)
  else if (a0 / 32 == 6 && c1) = true then if a0 % 32 * 64 + a1 % 64 ≥ 128 then (a0 % 32 * 64 + a1 % 64, 2) else (Utf8.runeError, 1)
  else if (a0 / 16 == 14 && c1 && c2) = true then if (decide (a0 % 16 * 4096 + a1 % 64 * 64 + a2 % 64 ≥ 2048) && Utf8.valid ((a0 % 16 * 4096 + a1 % 64 * 64 + a2 % 64 : Nat) : Int)) = true then (a0 % 16 * 4096 + a1 % 64 * 64 + a2 % 64, 3) else (Utf8.runeError, 1)
  else if (a0 / 8 == 30 && c1 && c2 && c3) = true then if (decide (a0 % 8 * 262144 + a1 % 64 * 4096 + a2 % 64 * 64 + a3 % 64 ≥ 65536) && Utf8.valid ((a0 % 8 * 262144 + a1 % 64 * 4096 + a2 % 64 * 64 + a3 % 64 : Nat) : Int)) = true then (a0 % 8 * 262144 + a1 % 64 * 4096 + a2 % 64 * 64 + a3 % 64, 4) else (Utf8.runeError, 1)
  else (Utf8.runeError, 1)
/-- The document's character over the same. -/
def chrN (a0 a1 : Nat) (c1 c2 c3 : Bool) : Nat × Nat :=
  if 194 ≤ a0 ∧ a0 ≤ 223 ∧ c1 = true then (2, 1)
  else if 224 ≤ a0 ∧ a0 ≤ 239 ∧ (c1 = true ∧ (a0 = 224 → 160 ≤ a1) ∧ (a0 = 237 → a1 ≤ 159)) ∧ c2 = true then (3, 1)
  else if 240 ≤ a0 ∧ a0 ≤ 244 ∧ (c1 = true ∧ (a0 = 240 → 144 ≤ a1) ∧ (a0 = 244 → a1 ≤ 143)) ∧ c2 = true ∧ c3 = true then (4, 2)
  else (1, 1)
set_option maxRecDepth 10000 in
set_option maxHeartbeats 2000000 in
theorem dec_core (a0 a1 a2 a3 : Nat) (c1 c2 c3 : Bool) (l0 : a0 < 256) (l1 : a1 < 256) (l2 : a2 < 256) (l3 : a3 < 256) (h1 : c1 = true → a1 / 64 = 2) (h2 : c2 = true → a2 / 64 = 2) (h3 : c3 = true → a3 / 64 = 2)
    (r n m u : Nat) (hd : decN a0 a1 a2 a3 c1 c2 c3 = (r, n)) (hc : chrN a0 a1 c1 c2 c3 = (m, u)) : n = m ∧ (65536 ≤ r ↔ u = 2) ∧ (r = 10 ↔ a0 = 10) ∧ r ≤ 1114111 := by
  simp only [decN, chrN, validRune_eq, validRune, Utf8.runeError, Bool.and_eq_true, beq_iff_eq, decide_eq_true_eq, ge_iff_le] at hd hc
  cases c1 <;> cases c2 <;> cases c3 <;> simp only [Bool.false_eq_true, and_false, and_true, false_and, true_and, if_false, forall_const, false_implies] at hd hc h1 h2 h3
  all_goals repeat' split at hd
  all_goals repeat' split at hc
  all_goals
    simp only [Prod.mk.injEq] at hd hc
    obtain ⟨rfl, rfl⟩ := hd
    obtain ⟨rfl, rfl⟩ := hc
    omega
theorem if_alike {α : Type} {p q : Prop} [Decidable p] [Decidable q] {a b c : α} (h : p ↔ q) (h2 : b = c) : (if p then a else b) = (if q then a else c) := by
  by_cases hp : p
  · rw [if_pos hp, if_pos (h.1 hp)]
  · rw [if_neg hp, if_neg (fun hq => hp (h.2 hq)), h2]
/-- The model's rune and the document's character. -/
theorem decode_chr (s : ByteArray) (i : Nat) (hi : i < s.size) :
    (Utf8.decode s i).2 = (chr ((sb s).drop i)).1 ∧ (65536 ≤ (Utf8.decode s i).1 ↔ (chr ((sb s).drop i)).2 = 2) ∧ ((Utf8.decode s i).1 = 10 ↔ ab ((sb s).drop i) 0 = 10) ∧ (Utf8.decode s i).1 ≤ 1114111 := by
  have h0 := sb_drop_at s i 0 (by omega)
  have h1 := sb_bt s i 1
  have h2 := sb_bt s i 2
  have h3 := sb_bt s i 3
  have hd : Utf8.decode s i = decN (s.get! (i + 0)).toNat (s.get! (i + 1)).toNat (s.get! (i + 2)).toNat (s.get! (i + 3)).toNat (decide (i + 1 < s.size) && (s.get! (i + 1)).toNat / 64 == 2) (decide (i + 2 < s.size) && (s.get! (i + 2)).toNat / 64 == 2) (decide (i + 3 < s.size) && (s.get! (i + 3)).toNat / 64 == 2) := by
    unfold Utf8.decode decN
    rfl
  have l0 := (s.get! (i + 0)).toNat_lt
  have l1 := (s.get! (i + 1)).toNat_lt
  have l2 := (s.get! (i + 2)).toNat_lt
  have l3 := (s.get! (i + 3)).toNat_lt
  generalize (s.get! (i + 0)).toNat = a0 at *
  generalize (s.get! (i + 1)).toNat = a1 at *
  generalize (s.get! (i + 2)).toNat = a2 at *
  generalize (s.get! (i + 3)).toNat = a3 at *
  have hc : chr ((sb s).drop i) = chrN a0 a1 (decide (i + 1 < s.size) && a1 / 64 == 2) (decide (i + 2 < s.size) && a2 / 64 == 2) (decide (i + 3 < s.size) && a3 / 64 == 2) := by
    unfold chr chrN
    simp only [h0, h1, h2, h3]
    simp only [decide_eq_true_eq, Bool.and_eq_true, beq_iff_eq]
    refine if_alike (by omega) (if_alike ?_ (if_alike ?_ rfl))
    · by_cases k1 : a0 = 224
      · subst k1; simp [sec]; omega
      · by_cases k2 : a0 = 237
        · subst k2; simp [sec]; omega
        · by_cases k3 : 224 ≤ a0 ∧ a0 ≤ 239
          · have : sec (a0 : Int) = (128, 191) := by unfold sec; rw [if_neg (by omega), if_neg (by omega), if_neg (by omega), if_neg (by omega)]
            rw [this]; simp only; omega
          · constructor
            · rintro ⟨x1, x2, _⟩; exact absurd ⟨by omega, by omega⟩ k3
            · rintro ⟨x1, x2, _⟩; exact absurd ⟨x1, x2⟩ k3
    · by_cases k1 : a0 = 240
      · subst k1; simp [sec]; omega
      · by_cases k2 : a0 = 244
        · subst k2; simp [sec]; omega
        · by_cases k3 : 240 ≤ a0 ∧ a0 ≤ 244
          · have : sec (a0 : Int) = (128, 191) := by unfold sec; rw [if_neg (by omega), if_neg (by omega), if_neg (by omega), if_neg (by omega)]
            rw [this]; simp only; omega
          · constructor
            · rintro ⟨x1, x2, _⟩; exact absurd ⟨by omega, by omega⟩ k3
            · rintro ⟨x1, x2, _⟩; exact absurd ⟨x1, x2⟩ k3
  obtain ⟨⟨r, n⟩, hr⟩ : ∃ x, Utf8.decode s i = x := ⟨_, rfl⟩
  obtain ⟨⟨m, u⟩, hm⟩ : ∃ x, chr ((sb s).drop i) = x := ⟨_, rfl⟩
  rw [hr] at hd ⊢
  rw [hm] at hc ⊢
  have := dec_core a0 a1 a2 a3 _ _ _ l0 l1 l2 l3 (by simp) (by simp) (by simp) r n m u hd.symm hc.symm
  rw [h0]
  refine ⟨this.1, this.2.1, ?_, this.2.2.2⟩
  simp only
  omega

end Go.Proofs.YtgfhhpodcnohpaaDoor

/- The contracts of the program's Units, Lines, skip and begins. Conditions: texts of at most 100000 bytes. -/
namespace Go.Proofs.YtgfhhpodcnohpaaDoor
open Go.RowKit Go.Shelf Go.Lib
set_option linter.unusedVariables false

/-- The iterator of a range over s stands in block k at offset pos; what lay lies as it lay. -/
def ItS (s : ByteArray) (k pos : Nat) (w wr : World) : Prop := wr.heap[k]? = some (.stringIter s pos) ∧ Below k w wr
theorem ItS.next {s : ByteArray} {k pos pos' : Nat} {w wr : World} (h : ItS s k pos w wr) : ItS s k pos' w (wr.iterAt k s pos') := ⟨iterAt_heap wr k s pos pos' h.1, below_iterAt h.2 (Nat.le_refl _) _ _⟩
/-- The offset at which an iterator stands. -/
def posOf (w : World) (k : Nat) : Nat := w.iterPos k
theorem posOf_of {s : ByteArray} {k pos : Nat} {wr : World} (h : wr.heap[k]? = some (.stringIter s pos)) : posOf wr k = pos := by unfold posOf World.iterPos; rw [h]
theorem ItS.posOf {s : ByteArray} {k pos : Nat} {w wr : World} (h : ItS s k pos w wr) : posOf wr k = pos := posOf_of h.1

/-- The next character. -/
theorem chr_at (s : ByteArray) (i : Nat) (hlt : i < s.size) : ∃ r b u, Utf8.decode s i = (r, b) ∧ chr ((sb s).drop i) = (b, u) ∧ (65536 ≤ r ↔ u = 2) ∧ (r = 10 ↔ ab (sb s) i = 10) ∧ r ≤ 1114111 ∧ 1 ≤ b ∧ i + b ≤ s.size ∧ 1 ≤ u ∧ u ≤ 2 ∧ (sb s).drop i ≠ [] ∧ unis ((sb s).drop i) = u + unis ((sb s).drop (i + b)) := by
  obtain ⟨d1, d2, d3, d4⟩ := decode_chr s i hlt
  obtain ⟨⟨b, u⟩, hc⟩ : ∃ x, chr ((sb s).drop i) = x := ⟨_, rfl⟩
  have hne : (sb s).drop i ≠ [] := by intro h; have := congrArg List.length h; rw [List.length_drop, sb_len] at this; simp at this; omega
  have hle := chr_le hne
  have hpos := chr_pos ((sb s).drop i)
  have hun := unis_cons hne
  rw [List.drop_drop] at hun
  rw [drop_zero_ab] at d3
  rw [hc] at hle hpos hun d1 d2
  rw [List.length_drop, sb_len] at hle
  obtain ⟨⟨r, m⟩, hdd⟩ : ∃ x, Utf8.decode s i = x := ⟨_, rfl⟩
  rw [hdd] at d1 d2 d3 d4
  simp only at hle hpos hun d1 d2 d3 d4
  subst d1
  exact ⟨r, m, u, hdd, hc, d2, d3, d4, hpos.1, by omega, hpos.2.2.1, hpos.2.2.2, hne, hun⟩

set_option maxRecDepth 100000 in
set_option maxHeartbeats 1000000 in
theorem unitsof_any (r : Nat) (w : World) :
    Calls Tryd.prog 89 #[.int .i32 (r : Int)] w fun e w' => e = .returned (.int .i64 (if 65536 ≤ r then 2 else 1)) ∧ w = w' := by
  by_cases h : 65536 ≤ r
  · rw [if_pos h]
    have h2 : (65536 : Int) ≤ (r : Int) := by omega
    go_enter Tryd.func89, Tryd.ntmps89
    go_wp2
    go_ret
    exact ⟨rfl, rfl⟩
  · rw [if_neg h]
    have h2 : ¬ (65536 : Int) ≤ (r : Int) := by omega
    go_enter Tryd.func89, Tryd.ntmps89
    go_wp2
    go_ret
    exact ⟨rfl, rfl⟩
theorem unitsof_u {r u : Nat} (h : 65536 ≤ r ↔ u = 2) (h1 : 1 ≤ u) (h2 : u ≤ 2) (w : World) :
    Calls Tryd.prog 89 #[.int .i32 (r : Int)] w fun e w' => e = .returned (.int .i64 (u : Int)) ∧ w = w' := by
  have := unitsof_any r w
  rwa [show (if 65536 ≤ r then (2 : Int) else 1) = (u : Int) by split <;> omega] at this

set_option maxRecDepth 100000 in
set_option maxHeartbeats 2000000 in
theorem punits_any (s : ByteArray) (w : World) (hs : s.size ≤ 100000) :
    Calls Tryd.prog 59 #[.string s] w fun e w' => e = .returned (.int .i64 (unis (sb s) : Int)) ∧ Below w.heap.size w w' := by
  obtain ⟨U, hU⟩ : ∃ U, unis (sb s) = U := ⟨_, rfl⟩
  have hUb : U ≤ 200000 := by have := unis_le (sb s); rw [sb_len] at this; omega
  rw [hU]
  obtain ⟨K, hK⟩ : ∃ K, w.heap.size = K := ⟨_, rfl⟩
  have h0 : Hid (ItS s K 0 w (w.iter s 0)) := by rw [← hK]; exact ⟨World.iter_heap w s 0, (Below.refl _ _).alloc (Nat.le_refl _) _⟩
  have HU := Lib.hid hU; have HK := Lib.hid hK
  clear hU hK
  go_enter Tryd.func59, Tryd.ntmps59
  go_wp2
  rw [HK.out]
  go_loopw [3] (fun t wr => ∃ (n i : Nat), i ≤ s.size ∧ n ≤ U ∧ t = .int .i64 (n : Int) ∧ Hid (n + unis ((sb s).drop i) = U) ∧ Hid (ItS s K i w wr)) (fun _ wr => s.size - posOf wr K)
  case atStart => exact ⟨0, 0, by omega, by omega, rfl, Lib.hid (by rw [List.drop_zero, Nat.zero_add]; exact HU.out), h0⟩
  case round =>
    obtain ⟨n, i, hi, hnU, rfl, HI, HIT⟩ := hrel
    have hpo := HIT.out.posOf
    by_cases hlt : i < s.size
    · have hnx := fun ty => run_next_any_at (P := Tryd.prog) wr K s i ty HIT.out.1 hlt
      obtain ⟨r, b, u, hdd, _, d2, _, _, hb1, hb2, hu1, hu2, _, hun⟩ := chr_at s i hlt
      have hI := HI.out
      rw [hun] at hI
      have HUN : Hid (n + u + unis ((sb s).drop (i + b)) = U) := Lib.hid (by omega)
      have hnu : n + u ≤ U := by omega
      rw [hdd] at hnx
      simp only at hnx
      have CW := Lib.hid (fun W => unitsof_u d2 hu1 hu2 W)
      clear hdd hun hI d2
      go_wp2_with fail
      refine (CW.out _).mono ?_
      rintro e w' ⟨rfl, rfl⟩
      have H2 := Lib.hid (HIT.out.next (pos' := i + b))
      have hp2 := H2.out.posOf
      go_wp2
      go_roundw
      case rel => exact ⟨n + u, i + b, by omega, by omega, by go_num, HUN, H2⟩
      case measure => rw [hp2, hpo]; omega
    · have hnx := fun ty => run_next_end_at (P := Tryd.prog) wr K s i ty HIT.out.1 hlt
      have hfin : n = U := by
        have := HI.out
        rw [List.drop_eq_nil_of_le (by rw [sb_len]; omega), unis_nil] at this; omega
      subst hfin
      go_wp2
      go_ret
      exact ⟨rfl, by rw [HK.out]; exact HIT.out.2⟩

theorem lnsF_skip {Z : List Int} {i : Nat} (n : Nat) (hn : i + n ≤ Z.length) (h : ∀ j, j < n → ab Z (i + j) ≠ 10) : lnsF i (Z.drop i) = lnsF (i + n) (Z.drop (i + n)) := by
  induction n with
  | zero => rfl
  | succ n ih => rw [ih (by omega) (fun j hj => h j (by omega)), drop_ab (Z := Z) (i := i + n) (by omega), lnsF, if_neg (h n (by omega))]; rfl
/-- The iterator and a row of the call's own. -/
def LnS (s : ByteArray) (K P i : Nat) (w wr : World) (ov : Value) (pre : List Int) : Prop := wr.heap[K]? = some (.stringIter s i) ∧ P ≤ K ∧ OutZ P w wr ov pre
theorem own_ne {wr : World} {e : TypeId} {P n K : Nat} {ov : Value} {xs : List Value} {s : ByteArray} {i : Nat} (h : wr.ownsRow P e 1 ov n xs) (hk : wr.heap[K]? = some (.stringIter s i)) : ∀ g, ov.ownBlock = some g → g ≠ K := by
  intro g hg e
  rcases h.2 with ⟨rfl, _⟩ | ⟨g', cap, cur, rfl, _, hgg, _⟩
  · simp [Value.ownBlock] at hg
  · simp [Value.ownBlock] at hg
    rw [hg, e, hk] at hgg
    cases hgg
theorem LnS.next {s : ByteArray} {K P i i' : Nat} {w wr : World} {ov : Value} {pre : List Int} (h : LnS s K P i w wr ov pre) : LnS s K P i' w (wr.iterAt K s i') ov pre := by
  obtain ⟨h1, h2, h3, h4⟩ := h
  exact ⟨iterAt_heap wr K s i i' h1, h2, own_same h3 (fun g hg => iterAt_other _ _ _ _ _ (own_ne h3 h1 g hg)), below_iterAt h4 h2 _ _⟩
theorem LnS.push {s : ByteArray} {K P i k : Nat} {w wr w3 : World} {ov v' : Value} {pre E : List Int} {tmp : Obj} (h : LnS s K P i w wr ov pre) (hown3 : w3.ownsRow P 3 1 v' k (pre.map (Value.int .i64) ++ E.map (Value.int .i64))) (hg : (wr.alloc tmp).grownBy w3 ov.ownBlock) : LnS s K P i w w3 v' (pre ++ E) := by
  obtain ⟨h1, h2, h3⟩ := h
  have hK : K < wr.heap.size := (Array.getElem?_eq_some_iff.1 h1).1
  refine ⟨?_, h2, outz_step1 h3 (by omega) hown3 hg⟩
  rw [hg.block K (by simp; omega) (fun e => own_ne h3.1 h1 K e.symm rfl), Below.heap_alloc wr _ K hK]
  exact h1

set_option maxRecDepth 100000 in
set_option maxHeartbeats 1000000 in
theorem plines_any (s : ByteArray) (w : World) (hs : s.size ≤ 100000) :
    Calls Tryd.prog 60 #[.string s] w (NewRow .i64 3 w (lns (sb s))) := by
  obtain ⟨i3, hi3, hy0, hy1, hy2⟩ := info_parts info3
  obtain ⟨P, hP⟩ : ∃ P, w.heap.size = P := ⟨_, rfl⟩
  obtain ⟨Q, hQ⟩ : ∃ Q, lns (sb s) = Q := ⟨_, rfl⟩
  have hQl : Q.length ≤ 100001 := by have := lnsF_len 0 (sb s); rw [sb_len] at this; rw [← hQ]; simp [lns]; omega
  have hq0 : Q = [0] ++ lnsF 0 ((sb s).drop 0) := by rw [← hQ, List.drop_zero]; rfl
  obtain ⟨W1, hW1⟩ : ∃ W, w.alloc (.cells #[.int .i64 0] 3) = W := ⟨_, rfl⟩
  have hs1 : W1.heap.size = P + 1 := by rw [← hW1, ← hP]; simp
  rw [hQ]
  have H0 : Hid (LnS s (P + 1) P 0 w (W1.iter s 0) (.slice (some ⟨P, 0, none⟩) 1 1) [0]) := by
    have h1 : W1.ownsRow P 3 1 (.slice (some ⟨P, 0, none⟩) 1 1) 1 ([0].map (Value.int .i64)) := by rw [← hW1, ← hP]; exact own_litZ w 0
    have h2 : Below P w W1 := by rw [← hW1, ← hP]; exact (Below.refl _ _).alloc (Nat.le_refl _) _
    refine ⟨by rw [← hs1]; exact World.iter_heap W1 s 0, by omega, own_same h1 (fun g hg => Below.heap_alloc W1 _ g (h1.lt g hg).2), h2.alloc (by omega) _⟩
  have HP := Lib.hid hP; have HQ := Lib.hid hQ; have HQ0 := Lib.hid hq0; have HW := Lib.hid hW1; have HS1 := Lib.hid hs1
  clear hP hQ hq0 hW1 hs1
  go_enter Tryd.func60, Tryd.ntmps60
  go_wp2
  rw [show w.alloc (.cells #[.int .i64 0] 3) = W1 from HW.out, HP.out]
  go_loopw [3] (fun o wr => ∃ (i : Nat) (ov : Value) (pre : List Int), i ≤ s.size ∧ o = ov ∧ Hid (Q = pre ++ lnsF i ((sb s).drop i)) ∧ Hid (LnS s (P + 1) P i w wr ov pre)) (fun _ wr => s.size - posOf wr (P + 1))
  case atStart => exact ⟨0, _, [0], by omega, rfl, HQ0, H0⟩
  case round =>
    obtain ⟨i, ov, pre, hi, rfl, HI, HR⟩ := hrel
    have hpo := posOf_of HR.out.1
    by_cases hlt : i < s.size
    · have hnx := fun ty => run_next_any_at (P := Tryd.prog) wr (P + 1) s i ty HR.out.1 hlt
      obtain ⟨r, b, u, hdd, hc, _, d3, _, hb1, hb2, _, _, _, _⟩ := chr_at s i hlt
      have HRb := Lib.hid (HR.out.next (i' := i + b))
      have hp2 := posOf_of HRb.out.1
      rw [hdd] at hnx
      simp only at hnx
      have hI := HI.out
      by_cases h10 : r = 10
      · have ha := d3.1 h10
        have hb1' : b = 1 := by have := chr_ascii (Z := (sb s).drop i) (by rw [drop_zero_ab, ha]; decide); rw [hc] at this; exact congrArg Prod.fst this
        subst hb1' h10
        have HI2 : Hid (Q = (pre ++ [((i + 1 : Nat) : Int)]) ++ lnsF (i + 1) ((sb s).drop (i + 1))) := Lib.hid (by rw [hI, drop_ab (Z := sb s) (i := i) (by rw [sb_len]; exact hlt), lnsF, if_pos ha]; simp)
        have hown := HRb.out.2.2.1
        obtain ⟨N, hN⟩ : ∃ N, pre.length = N := ⟨_, rfl⟩
        rw [hN] at hown
        have hNl : N ≤ 100001 := by have h1 := congrArg List.length HI.out; rw [List.length_append] at h1; omega
        have HO := Lib.hid hown
        obtain ⟨V, hV⟩ : ∃ V, wr.iterAt (P + 1) s (i + 1) = V := ⟨_, rfl⟩
        rw [hV] at hnx HO HRb
        have hPV : P ≤ V.heap.size := by have := HRb.out.2.2.2.size; have := HP.out; omega
        clear hdd hc d3 hI ha hown hN hV hp2
        go_wp2_with (at_builtin; refine wpList_append_own _ rfl _ _ 22 rfl P 3 i3 (.int .i64 0) 1 8 Tryd.underlying22 hi3 hy0 hy1 hy2 rfl (by decide) u3 N (pre.map (Value.int .i64)) rfl (HO.out.alloc _) ⟨V.heap.size, 0, none⟩ 1 1 [.int .i64 ((i : Int) + 1)] rfl rfl (cell_one_new _ _ _) (fun x hx => by simp at hx; subst hx; rfl) (by unfold maxLen; omega) (by omega) (by simp; omega) ?_; intro v' w3 hown3 hgrow3 _; obtain ⟨A3, k3, rfl⟩ := own_slice hown3)
        have H3 : Hid (LnS s (P + 1) P (i + 1) w w3 (.slice A3 (N + 1) k3) (pre ++ [((i + 1 : Nat) : Int)])) := LnS.push (E := [((i + 1 : Nat) : Int)]) HRb.out (by push_cast; exact hown3) hgrow3
        have hp3 := posOf_of H3.out.1
        clear hown3 hgrow3
        go_wp2
        go_roundw
        case rel => exact ⟨i + 1, _, _, by omega, rfl, HI2, H3⟩
        case measure => rw [hp3, hpo]; omega
      · have hb10 : ((r : Int) == 10) = false := by simp; omega
        have hn10 : ab (sb s) i ≠ 10 := fun e => h10 (d3.2 e)
        have HI2 : Hid (Q = pre ++ lnsF (i + b) ((sb s).drop (i + b))) := Lib.hid (by
          rw [← lnsF_skip b (by rw [sb_len]; omega) (fun j hj => chr_no10 hn10 j (by rw [hc]; exact hj))]; exact hI)
        clear hdd hc d3 hI h10 hn10
        go_wp2
        go_roundw
        case rel => exact ⟨i + b, _, _, by omega, rfl, HI2, HRb⟩
        case measure => rw [hp2, hpo]; omega
    · have hnx := fun ty => run_next_end_at (P := Tryd.prog) wr (P + 1) s i ty HR.out.1 hlt
      have hfin : Q = pre := by
        have := HI.out
        rwa [List.drop_eq_nil_of_le (by rw [sb_len]; omega), lnsF, List.append_nil] at this
      subst hfin
      go_wp2
      go_ret
      exact ⟨u3, rfl, by rw [HP.out]; exact HR.out.2.2.1, by rw [HP.out]; exact HR.out.2.2.2⟩

/-- What skip returns: the bytes before unit x, and whether whole characters lead there. -/
def SkipSpec (Z : List Int) (x : Nat) (n : Nat) (b : Bool) : Prop := n ≤ Z.length ∧ (b = true → Bord Z n x) ∧ (b = false → ¬ ∃ j, Bord Z j x)
set_option maxRecDepth 100000 in
set_option maxHeartbeats 2000000 in
theorem skip_any (s : ByteArray) (x : Nat) (w : World) (hs : s.size ≤ 100000) (hx : x ≤ 9223372036854775807) :
    Calls Tryd.prog 62 #[.string s, .int .i64 (x : Int)] w fun e w' => ∃ (n : Nat) (b : Bool), e = .returned (.tuple #[.int .i64 (n : Int), .bool b]) ∧ SkipSpec (sb s) x n b ∧ Below w.heap.size w w' := by
  obtain ⟨K, hK⟩ : ∃ K, w.heap.size = K := ⟨_, rfl⟩
  have h0 : Hid (ItS s K 0 w (w.iter s 0)) := by rw [← hK]; exact ⟨World.iter_heap w s 0, (Below.refl _ _).alloc (Nat.le_refl _) _⟩
  have HK := Lib.hid hK
  clear hK
  go_enter Tryd.func62, Tryd.ntmps62
  go_wp2
  rw [HK.out]
  go_loopw [1] (fun t wr => ∃ (n i : Nat), i ≤ s.size ∧ t = .int .i64 ((x : Int) - (n : Int)) ∧ n ≤ x + 1 ∧ n ≤ 200000 ∧ Hid (Bord (sb s) i n) ∧ Hid (∀ j m, Bord (sb s) j m → j < i → m < x) ∧ Hid (ItS s K i w wr)) (fun _ wr => s.size - posOf wr K)
  case atStart => exact ⟨0, 0, by omega, by simp, by omega, by omega, Bord.zero _, Lib.hid (fun j m _ h => by omega), h0⟩
  case round =>
    obtain ⟨n, i, hi, rfl, hn, hnb, HB, HL, HIT⟩ := hrel
    have hpo := HIT.out.posOf
    by_cases hlt : i < s.size
    · have hnx := fun ty => run_next_any_at (P := Tryd.prog) wr K s i ty HIT.out.1 hlt
      obtain ⟨r, b, u, hdd, hc, d2, _, _, hb1, hb2, hu1, hu2, hne, _⟩ := chr_at s i hlt
      have H2 := Lib.hid (HIT.out.next (pos' := i + b))
      have hp2 := H2.out.posOf
      rw [hdd] at hnx
      simp only at hnx
      have hsn := HB.out.snoc hne
      rw [hc] at hsn
      simp only at hsn
      have hub : n + u ≤ 200000 := by
        have h1 := hsn.unis_take
        have h2 := unis_le ((sb s).take (i + b))
        rw [List.length_take, sb_len] at h2
        omega
      have hnx3 : ∀ j m, Bord (sb s) j m → i < j → i + b ≤ j := by
        intro j m hj h
        have := HB.out.next hj h
        rwa [hc] at this
      have HNX := Lib.hid hnx3
      have HSN := Lib.hid hsn
      have CW := Lib.hid (fun W => unitsof_u d2 hu1 hu2 W)
      clear hdd hc hne d2 hsn hnx3
      have hret : ∀ b', (b' = decide (n = x)) → ¬ n < x → SkipSpec (sb s) x i b' := by
        rintro b' rfl hge
        refine ⟨by rw [sb_len]; exact hi, fun h => ?_, fun h => ?_⟩
        · have : n = x := of_decide_eq_true h
          rw [← this]; exact HB.out
        · have hne : n ≠ x := of_decide_eq_false h
          rintro ⟨j, hj⟩
          rcases Nat.lt_trichotomy j i with h | rfl | h
          · have := HL.out j x hj h; omega
          · exact hne (HB.out.det hj)
          · have := HB.out.lt hj h; omega
      have HRET := Lib.hid hret
      clear hret
      rcases Nat.lt_trichotomy n x with hnx2 | hnx2 | hnx2
      · have g1 : ¬ (x : Int) - (n : Int) ≤ 0 := by omega
        have HL2 : Hid (∀ j m, Bord (sb s) j m → j < i + b → m < x) := by
          intro j m hj hlt2
          rcases Nat.lt_trichotomy j i with h | rfl | h
          · exact HL.out j m hj h
          · rw [hj.det HB.out]; exact hnx2
          · have := HNX.out j m hj h; omega
        go_wp2_with fail
        refine (CW.out _).mono ?_
        rintro e w' ⟨rfl, rfl⟩
        go_wp2
        go_roundw
        case rel => exact ⟨n + u, i + b, by omega, by go_num, by omega, by omega, HSN, HL2, H2⟩
        case measure => rw [hp2, hpo]; omega
      · have g1 : (x : Int) - (n : Int) ≤ 0 := by omega
        have hq : ((x : Int) - (n : Int) == 0) = true := by simp; omega
        have HS := Lib.hid (HRET.out true (by rw [decide_eq_true hnx2]) (by omega))
        go_wp2
        go_ret2
        exact ⟨i, true, rfl, HS.out, by rw [HK.out]; exact H2.out.2⟩
      · have g1 : (x : Int) - (n : Int) ≤ 0 := by omega
        have hq : ((x : Int) - (n : Int) == 0) = false := by simp; omega
        have HS := Lib.hid (HRET.out false (by rw [decide_eq_false (by omega)]) (by omega))
        go_wp2
        go_ret2
        exact ⟨i, false, rfl, HS.out, by rw [HK.out]; exact H2.out.2⟩
    · have hnx := fun ty => run_next_end_at (P := Tryd.prog) wr K s i ty HIT.out.1 hlt
      have hie : i = s.size := by omega
      subst hie
      have hspec : SkipSpec (sb s) x s.size (decide (n = x)) := by
        refine ⟨by rw [sb_len]; exact Nat.le_refl _, fun h => ?_, fun h => ?_⟩
        · have : n = x := of_decide_eq_true h
          rw [← this]; exact HB.out
        · have hne : n ≠ x := of_decide_eq_false h
          rintro ⟨j, hj⟩
          rcases Nat.lt_trichotomy j s.size with h | rfl | h
          · have := HL.out j x hj h; omega
          · exact hne (HB.out.det hj)
          · have := hj.le; rw [sb_len] at this; omega
      have HS := Lib.hid hspec
      have hq : ((x : Int) - (n : Int) == 0) = decide (n = x) := by
        by_cases h : n = x
        · rw [decide_eq_true h]; simp; omega
        · rw [decide_eq_false h]; simp; omega
      clear hspec
      go_wp2
      go_ret2
      exact ⟨s.size, decide (n = x), by first | rfl | rw [hq], HS.out, by rw [HK.out]; exact HIT.out.2⟩

set_option maxRecDepth 100000 in
set_option maxHeartbeats 2000000 in
theorem begins_any (s : ByteArray) (x : Nat) (w : World) (hs : s.size ≤ 100000) (hx : x ≤ s.size) (r : Bool) (hr : r = decide ((x : Int) ∈ bordI (sb s))) :
    Calls Tryd.prog 56 #[.string s, .int .i64 (x : Int)] w fun e w' => e = .returned (.bool r) ∧ Below w.heap.size w w' := by
  obtain ⟨K, hK⟩ : ∃ K, w.heap.size = K := ⟨_, rfl⟩
  have h0 : Hid (ItS s K 0 w (w.iter s 0)) := by rw [← hK]; exact ⟨World.iter_heap w s 0, (Below.refl _ _).alloc (Nat.le_refl _) _⟩
  have HK := Lib.hid hK
  have HR := Lib.hid hr
  clear hK hr
  go_enter Tryd.func56, Tryd.ntmps56
  go_wp2
  rw [HK.out]
  go_loopw [] (fun wr => ∃ (n i : Nat), i ≤ s.size ∧ Hid (Bord (sb s) i n) ∧ Hid (∀ j m, Bord (sb s) j m → j < i → j ≠ x) ∧ Hid (ItS s K i w wr)) (fun wr => s.size - posOf wr K)
  case atStart => exact ⟨0, 0, by omega, Bord.zero _, Lib.hid (fun j m _ h => by omega), h0⟩
  case round =>
    obtain ⟨n, i, hi, HB, HL, HIT⟩ := hrel
    have hpo := HIT.out.posOf
    by_cases hlt : i < s.size
    · have hnx := fun ty => run_next_any_at (P := Tryd.prog) wr K s i ty HIT.out.1 hlt
      obtain ⟨c, b, u, hdd, hc, d2, _, _, hb1, hb2, hu1, hu2, hne, _⟩ := chr_at s i hlt
      have H2 := Lib.hid (HIT.out.next (pos' := i + b))
      have hp2 := H2.out.posOf
      rw [hdd] at hnx
      simp only at hnx
      have hsn := HB.out.snoc hne
      rw [hc] at hsn
      simp only at hsn
      have hnx3 : ∀ j m, Bord (sb s) j m → i < j → i + b ≤ j := by
        intro j m hj h
        have := HB.out.next hj h
        rwa [hc] at this
      have HNX := Lib.hid hnx3
      have HSN := Lib.hid hsn
      clear hdd hc hne d2 hsn hnx3
      by_cases hix : i = x
      · have hq : ((i : Int) == (x : Int)) = true := by simp; omega
        have hrt : r = true := by
          rw [HR.out]
          exact decide_eq_true (mem_bordI.2 ⟨n, by rw [← hix]; exact HB.out⟩)
        have HRT := Lib.hid hrt
        clear hrt hix
        go_wp2
        go_ret
        exact ⟨by rw [HRT.out]; rfl, by rw [HK.out]; exact H2.out.2⟩
      · have hq : ((i : Int) == (x : Int)) = false := by simp; omega
        have HL2 : Hid (∀ j m, Bord (sb s) j m → j < i + b → j ≠ x) := by
          intro j m hj hlt2
          rcases Nat.lt_trichotomy j i with h | rfl | h
          · exact HL.out j m hj h
          · exact hix
          · have := HNX.out j m hj h; omega
        go_wp2
        go_roundw
        case rel => exact ⟨n + u, i + b, by omega, HSN, HL2, H2⟩
        case measure => rw [hp2, hpo]; omega
    · have hnx := fun ty => run_next_end_at (P := Tryd.prog) wr K s i ty HIT.out.1 hlt
      have hie : i = s.size := by omega
      subst hie
      have hq : ((x : Int) == (s.size : Int)) = r := by
        rw [HR.out]
        by_cases h : x = s.size
        · rw [decide_eq_true (mem_bordI.2 ⟨n, by rw [h]; exact HB.out⟩)]; simp; omega
        · rw [decide_eq_false (fun h2 => by obtain ⟨m, hm⟩ := mem_bordI.1 h2; exact HL.out x m hm (by omega) rfl)]; simp; omega
      have HQ := Lib.hid hq
      clear hq
      go_wp2
      go_ret
      exact ⟨by rw [HQ.out]; rfl, by rw [HK.out]; exact HIT.out.2⟩

end Go.Proofs.YtgfhhpodcnohpaaDoor

/- Line feeds, as the library's Count, LastIndexByte and IndexByte find them. It has no conditions. -/
namespace Go.Proofs.YtgfhhpodcnohpaaDoor
open Go.RowKit
set_option linter.unusedVariables false

theorem lf_count (Z : List Int) (i : Nat) (hi : i ≤ Z.length) : (lf Z i).1 = (Z.take i).count 10 := by
  induction i with
  | zero => rfl
  | succ i ih =>
    have h1 : Z[i]? = some (ab Z i) := by rw [ab, List.getElem?_eq_getElem (by omega)]; rfl
    rw [List.take_add_one, h1, List.count_append, ← ih (by omega)]
    by_cases h : ab Z i = 10
    · rw [lf_nl h, h]; rfl
    · rw [lf_no h, Option.toList_some, List.count_cons_of_ne h]; rfl
theorem lf_before (Z : List Int) (i : Nat) : (lf Z i).2 = 0 ∨ ∃ j, (lf Z i).2 = j + 1 ∧ ab Z j = 10 := by
  induction i with
  | zero => exact .inl rfl
  | succ i ih =>
    by_cases h : ab Z i = 10
    · rw [lf_nl h]; exact .inr ⟨i, rfl, h⟩
    · rw [lf_no h]; exact ih
theorem count_sb (l : List UInt8) (c : UInt8) : Lib.countByte l c = (l.map fun b => (b.toNat : Int)).count (c.toNat : Int) := by
  unfold Lib.countByte
  induction l with
  | nil => rfl
  | cons b l ih =>
    rw [List.map_cons, List.count_cons, List.count_cons, ih]
    congr 1
    by_cases h : b = c
    · subst h; simp
    · have : ¬ (b.toNat : Int) = (c.toNat : Int) := fun e => h (UInt8.toNat_inj.1 (by omega))
      simp [h, this]
theorem nl_count (s : ByteArray) (i : Nat) (hi : i ≤ s.size) : Lib.countByte (s.extract 0 i).data.toList 10 = (lf (sb s) i).1 := by
  have h := sb_extract s 0 i
  rw [List.drop_zero, Nat.sub_zero] at h
  rw [count_sb, lf_count _ _ (by rw [sb_len]; exact hi), ← h]
  rfl
theorem bang_sb (s : ByteArray) (j : Nat) (h : j < s.size) : ((s.data[j]!).toNat : Int) = ab (sb s) j := by
  rw [sb_get s j h, getElem!_pos s.data j (by simpa using h)]; rfl
theorem ab_take {Z : List Int} {j n : Nat} (h : j < n) : ab (Z.take n) j = ab Z j := by unfold ab; rw [List.getElem?_take, if_pos h]
theorem last_nl (s : ByteArray) (i : Nat) (hi : i ≤ s.size) : Lib.lastIndexByte (s.extract 0 i) 10 = ((lf (sb s) i).2 : Int) - 1 := by
  have hsz : (s.extract 0 i).size = i := by rw [ByteArray.size_extract]; omega
  have hb : ∀ j, j < i → (((s.extract 0 i).data[j]!).toNat : Int) = ab (sb s) j := by
    intro j hj
    rw [bang_sb _ _ (by omega), sb_extract, List.drop_zero, ab_take (by omega)]
  have hle := (lf_le (sb s) i).1
  rcases Lib.lastIndexByte_spec (s.extract 0 i) 10 with ⟨h1, h2⟩ | ⟨j, h1, h2, h3, h4⟩
  · rcases lf_before (sb s) i with h | ⟨j, h, h10⟩
    · omega
    · exact absurd ((hb j (by omega)).trans h10) (h2 j (by omega))
  · rw [hsz] at h1 h4
    rw [hb j h1] at h3
    rcases lf_before (sb s) i with h | ⟨j', h, h10⟩
    · exact absurd h3 (lf_free (sb s) i j (by omega) h1)
    · rcases Nat.lt_trichotomy j j' with hlt | rfl | hlt
      · exact absurd ((hb j' (by omega)).trans h10) (h4 j' hlt (by omega))
      · omega
      · exact absurd h3 (lf_free (sb s) i j (by omega) h1)
/-- The first n bytes of the text are no line feeds; the text ends there, or a line feed follows. -/
def Fst10 (s : ByteArray) (n : Nat) : Prop := (∀ j, j < n → ab (sb s) j ≠ 10) ∧ (n = s.size ∨ (n < s.size ∧ ab (sb s) n = 10))
theorem indexByte_at (c : UInt8) : ∀ (l : List UInt8) (n : Nat), (∀ j, j < n → l[j]? ≠ some c) → (n = l.length → Lib.indexByte l c = -1) ∧ (l[n]? = some c → Lib.indexByte l c = n)
  | [], n, h => ⟨fun _ => rfl, fun h => by simp at h⟩
  | b :: l, 0, h => ⟨fun h => by simp at h, fun h => by simp at h; simp [Lib.indexByte, h]⟩
  | b :: l, n + 1, h => by
    have h0 : b ≠ c := by have := h 0 (by omega); simpa using this
    obtain ⟨i1, i2⟩ := indexByte_at c l n (fun j hj => by have := h (j + 1) (by omega); simpa using this)
    have hb : (b == c) = false := by simp [h0]
    refine ⟨fun hn => ?_, fun hn => ?_⟩
    · have := i1 (by simpa using hn)
      simp [Lib.indexByte, hb, this]
    · have := i2 (by simpa using hn)
      have hne : ((n : Int) == -1) = false := by simp
      rw [Lib.indexByte, this, hb, hne]
      simp
theorem pdata_sb (s : ByteArray) (j : Nat) (h : j < s.size) : s.data.toList[j]? = some 10 ↔ ab (sb s) j = 10 := by
  have h2 : j < s.data.toList.length := by simpa using h
  rw [List.getElem?_eq_getElem h2]
  unfold ab sb
  rw [List.getElem?_map, List.getElem?_eq_getElem h2]
  simp only [Option.map_some, Option.getD_some, Option.some.injEq]
  constructor
  · intro e; rw [e]; rfl
  · intro e; exact UInt8.toNat_inj.1 (by have : (10 : UInt8).toNat = 10 := rfl
                                         omega)
theorem fst10_index {s : ByteArray} {n : Nat} (h : Fst10 s n) : (n = s.size ∧ Lib.indexByte s.data.toList 10 = -1) ∨ (n < s.size ∧ Lib.indexByte s.data.toList 10 = (n : Int)) := by
  have hno : ∀ j, j < n → s.data.toList[j]? ≠ some 10 := by
    intro j hj e
    by_cases hs : j < s.size
    · exact h.1 j hj ((pdata_sb s j hs).1 e)
    · rw [List.getElem?_eq_none (by simp; omega)] at e; cases e
  obtain ⟨i1, i2⟩ := indexByte_at 10 s.data.toList n hno
  rcases h.2 with e | ⟨e, h10⟩
  · exact .inl ⟨e, i1 (by rw [e]; simp)⟩
  · exact .inr ⟨e, i2 ((pdata_sb s n e).2 h10)⟩
/-- The rest of a text from a line's beginning on: its line feed comes at the line's end. -/
theorem fst10_line {s : ByteArray} {g t k v : Nat} (hgt : g ≤ t) (htl : t ≤ s.size) (hg : lf (sb s) g = (k, g)) (ht : lf (sb s) t = (k, g)) (he : Eol (sb s) t k v) : Fst10 (s.extract g s.size) (t - g) := by
  have hsz : (s.extract g s.size).size = s.size - g := by rw [ByteArray.size_extract]; omega
  have hab : ∀ j, g + j < s.size → ab (sb (s.extract g s.size)) j = ab (sb s) (g + j) := by
    intro j hj
    rw [sb_extract, ab_take (by omega)]
    unfold ab
    rw [List.getElem?_drop]
  refine ⟨fun j hj => ?_, ?_⟩
  · rw [hab j (by omega)]
    exact lf_free (sb s) t (g + j) (by rw [ht]; simp) (by omega)
  · rw [hsz]
    rcases he.2 with e | e
    · left; rw [sb_len] at e; omega
    · by_cases h : t = s.size
      · left; omega
      · right
        refine ⟨by omega, ?_⟩
        rw [hab _ (by omega), show g + (t - g) = t by omega]; exact e
theorem extract_line (s : ByteArray) {g t : Nat} (hgt : g ≤ t) (htl : t ≤ s.size) : (s.extract g s.size).extract 0 (t - g) = s.extract g t := by
  rw [ByteArray.extract_extract]
  congr 1 <;> omega

end Go.Proofs.YtgfhhpodcnohpaaDoor

/- Contracts of the library's functions that the program calls: Count, LastIndexByte and Cut at the byte 10, walked through their own text. Conditions: texts of at most 100000 bytes. -/
namespace Go.Proofs.YtgfhhpodcnohpaaDoor
open Go.RowKit Go.Shelf
set_option linter.unusedVariables false

set_option maxRecDepth 100000 in
set_option maxHeartbeats 1000000 in
theorem count_nl (s : ByteArray) (w : World) :
    Calls Tryd.prog 58 #[.string s, .string ⟨#[10]⟩] w fun e w' => e = .returned (.int .i64 (Lib.countByte s.data.toList 10 : Int)) ∧ w = w' := by
  go_enter Tryd.func58, Tryd.ntmps58
  go_wp2
  rw [run_callFunc_extern Tryd.func87 (by kernel_rfl) (by kernel_rfl) (by kernel_rfl) (e := Extern.BytealgCount.count) (by kernel_rfl), Lib.run_countString]
  simp only [Result.andThen]
  rw [Oper.upon_value]
  go_wp2
  go_ret
  exact ⟨rfl, rfl⟩

set_option maxRecDepth 100000 in
set_option maxHeartbeats 4000000 in
theorem last_string (s : ByteArray) (c : Int) (hs : s.size ≤ 100000) (w : World) :
    Calls Tryd.prog 85 #[.string s, .int .u8 c] w fun e w' => e = .returned (.int .i64 (Lib.lastIndexByte s c)) ∧ w = w' := by
  go_enter Tryd.func85, Tryd.ntmps85
  go_wp2
  go_loop [5] (fun vi => ∃ k : Nat, k ≤ s.size ∧ vi = .int .i64 ((k : Int) - 1) ∧ Hid (Lib.lastIndexByte s c = Lib.lastIdx s c k)) (fun vi => ((RowKit.intOf vi) + 1).toNat)
  case atStart => exact ⟨s.size, Nat.le_refl _, by first | rfl | go_num | (congr 1; omega), rfl⟩
  case round =>
    obtain ⟨k, hk, rfl, hh⟩ := hrel
    by_cases k0 : k = 0
    · subst k0
      have g0 : ¬ ((0 : Nat) : Int) - 1 ≥ 0 := by omega
      go_wp2
      go_ret
      rw [hh.out]
      exact ⟨rfl, rfl⟩
    · have hlt : k - 1 < s.size := by omega
      have e2 : (k : Int) - 1 = ((k - 1 : Nat) : Int) := by omega
      have hbang : ((s.data[k - 1]!).toNat : Int) = ((s[k - 1]'hlt).toNat : Int) := by rw [getElem!_pos s.data (k - 1) (by simpa using hlt)]; rfl
      by_cases hc : ((s[k - 1]'hlt).toNat : Int) = c
      · have e1 : Lib.lastIdx s c k = ((k - 1 : Nat) : Int) := by
          have := Lib.lastIdx_hit s c (k - 1) (hbang.trans hc)
          rwa [show k - 1 + 1 = k by omega] at this
        have hq : (((s[k - 1]'hlt).toNat : Int) == c) = true := by simp; omega
        have HE := Lib.hid e1
        clear e1 hc hbang
        rw [e2]
        go_wp2
        go_ret
        rw [hh.out, HE.out]
        exact ⟨rfl, rfl⟩
      · have e1 : Lib.lastIdx s c k = Lib.lastIdx s c (k - 1) := by
          have := Lib.lastIdx_miss s c (k - 1) (by rw [hbang]; exact hc)
          rwa [show k - 1 + 1 = k by omega] at this
        have hq : (((s[k - 1]'hlt).toNat : Int) == c) = false := by simp; omega
        have HE := Lib.hid (hh.out.trans e1)
        clear e1 hc hbang
        rw [e2]
        go_wp2
        refine ⟨⟨k - 1, by omega, by congr 1, HE⟩, ?_⟩
        simp [RowKit.intOf] <;> omega
set_option maxRecDepth 100000 in
theorem last_any (s : ByteArray) (c : Int) (hs : s.size ≤ 100000) (w : World) :
    Calls Tryd.prog 57 #[.string s, .int .u8 c] w fun e w' => e = .returned (.int .i64 (Lib.lastIndexByte s c)) ∧ w = w' := by
  go_enter Tryd.func57, Tryd.ntmps57
  go_wp2_with fail
  refine (last_string s c hs _).mono ?_
  rintro e w' ⟨rfl, rfl⟩
  go_wp2
  go_ret
  exact ⟨rfl, rfl⟩

set_option maxRecDepth 100000 in
set_option maxHeartbeats 1000000 in
theorem index_byte (s : ByteArray) (c : UInt8) (w : World) :
    Calls Tryd.prog 140 #[.string s, .int .u8 (c.toNat : Int)] w fun e w' => e = .returned (.int .i64 (Lib.indexByte s.data.toList c)) ∧ w = w' := by
  go_enter Tryd.func140, Tryd.ntmps140
  go_wp2
  rw [run_callFunc_extern Tryd.func148 (by kernel_rfl) (by kernel_rfl) (by kernel_rfl) (e := Extern.BytealgIndexByte.indexByte) (by kernel_rfl), Lib.run_indexByteString]
  simp only [Result.andThen]
  rw [Oper.upon_value]
  go_wp2
  go_ret
  refine ⟨?_, rfl⟩
  simp
set_option maxRecDepth 100000 in
set_option maxHeartbeats 2000000 in
theorem index_one (s : ByteArray) (c : UInt8) (w : World) :
    Calls Tryd.prog 114 #[.string s, .string ⟨#[c]⟩] w fun e w' => e = .returned (.int .i64 (Lib.indexByte s.data.toList c)) ∧ w = w' := by
  go_enter Tryd.func114, Tryd.ntmps114
  go_wp2_with (go_at_call 140; refine (index_byte _ _ _).mono ?_; rintro e w' ⟨rfl, rfl⟩)
  · have h : ([c] == s.toList) = true := by assumption
    go_ret
    refine ⟨?_, rfl⟩
    have e : s.data.toList = [c] := by rw [← Lib.toList_data]; exact (beq_iff_eq.1 h).symm
    rw [e]
    simp [Lib.indexByte]
  · go_ret
    exact ⟨rfl, rfl⟩

/-- Cut at the byte 10: the text before the first one. -/
def CutPost (s : ByteArray) (n : Nat) (w : World) (e : Ending) (w' : World) : Prop :=
  ∃ (t : ByteArray) (b : Bool), e = .returned (.tuple #[.string (s.extract 0 n), .string t, .bool b]) ∧ Below w.heap.size w w'
set_option maxRecDepth 100000 in
set_option maxHeartbeats 2000000 in
theorem cut_lite (s : ByteArray) (n : Nat) (w : World) (hs : s.size ≤ 100000) (h : Fst10 s n) :
    Calls Tryd.prog 90 #[.string s, .string ⟨#[10]⟩] w (CutPost s n w) := by
  rcases fst10_index h with ⟨h1, h2⟩ | ⟨h1, h2⟩
  · have cI := fun W => index_one s 10 W
    rw [h2] at cI
    have CI := Lib.hid cI
    have he : s.extract 0 n = s := by rw [h1]; exact ByteArray.extract_zero_size
    have HE := Lib.hid he
    clear h1 h2 cI he h
    go_enter Tryd.func90, Tryd.ntmps90
    go_wp2_with fail
    refine (CI.out _).mono ?_
    rintro e w' ⟨rfl, rfl⟩
    go_wp2
    go_ret3
    exact ⟨⟨#[]⟩, false, by rw [HE.out]; rfl, Below.refl _ _⟩
  · have cI := fun W => index_one s 10 W
    rw [h2] at cI
    have CI := Lib.hid cI
    have g0 : (0 : Int) ≤ (n : Int) := by omega
    have g1 : (n : Int) ≤ (s.size : Int) := by omega
    have g2 : (n : Int) + 1 ≤ (s.size : Int) := by omega
    have g3 : (0 : Int) ≤ (n : Int) + 1 := by omega
    have hwr : IntKind.i64.wrap ((n : Int) + 1) = (n : Int) + 1 := by simp [IntKind.wrap, IntKind.signed, IntKind.bits]; omega
    have htn : ((n : Int) + 1).toNat = n + 1 := by omega
    clear h2 cI h
    go_enter Tryd.func90, Tryd.ntmps90
    go_wp2_with fail
    refine (CI.out _).mono ?_
    rintro e w' ⟨rfl, rfl⟩
    go_wp2_with fail
    go_quiet (fail)
    go_wp2
    go_ret3
    exact ⟨_, _, rfl, below_drewN (Below.refl _ _) _⟩
set_option maxRecDepth 100000 in
theorem cut_any (s : ByteArray) (n : Nat) (w : World) (hs : s.size ≤ 100000) (h : Fst10 s n) :
    Calls Tryd.prog 61 #[.string s, .string ⟨#[10]⟩] w (CutPost s n w) := by
  go_enter Tryd.func61, Tryd.ntmps61
  go_wp2_with fail
  refine (cut_lite s n _ hs h).mono ?_
  rintro e w' ⟨t, b, rfl, hb⟩
  go_wp2
  go_ret3
  exact ⟨_, _, rfl, hb⟩

end Go.Proofs.YtgfhhpodcnohpaaDoor

/- The contract of the program's At. Conditions: texts of at most 100000 bytes. -/
namespace Go.Proofs.YtgfhhpodcnohpaaDoor
open Go.RowKit Go.Shelf
set_option linter.unusedVariables false

set_option maxRecDepth 100000 in
set_option maxHeartbeats 1000000 in
theorem pat_any (s : ByteArray) (off : Int) (w : World) (hs : s.size ≤ 100000) (hx1 : -9223372036854775808 ≤ off) (hx2 : off ≤ 9223372036854775807) :
    Calls Tryd.prog 34 #[.string s, .int .i64 off] w (AtPost s off w) := by
  have bR : Blk (w.alloc (.cells #[.int .i64 0, .int .i64 0] 48)) w.heap.size 48 #[.int .i64 0, .int .i64 0] := Blk.new _ _ _
  have hb1 : Below w.heap.size w (w.alloc (.cells #[.int .i64 0, .int .i64 0] 48)) := (Below.refl _ _).alloc (Nat.le_refl _) _
  have hout : ∀ (W : World) (x y : Int), Blk W w.heap.size 48 #[.int .i64 0, .int .i64 0] → Below w.heap.size w W →
      ((W.setCell ⟨w.heap.size, 0, none⟩ (.int .i64 x)).setCell ⟨w.heap.size, 1, none⟩ (.int .i64 y)).cell? ⟨w.heap.size, 0, none⟩ = some (.int .i64 x) ∧ ((W.setCell ⟨w.heap.size, 0, none⟩ (.int .i64 x)).setCell ⟨w.heap.size, 1, none⟩ (.int .i64 y)).cell? ⟨w.heap.size, 1, none⟩ = some (.int .i64 y) ∧
      Below w.heap.size w ((W.setCell ⟨w.heap.size, 0, none⟩ (.int .i64 x)).setCell ⟨w.heap.size, 1, none⟩ (.int .i64 y)) := by
    intro W x y h hb
    have b2 := (h.set 0 (.int .i64 x)).set 1 (.int .i64 y)
    exact ⟨by simpa using b2.cell 0, by simpa using b2.cell 1, (hb.setCell (p := ⟨w.heap.size, 0, none⟩) (Nat.le_refl _) _).setCell (p := ⟨w.heap.size, 1, none⟩) (Nat.le_refl _) _⟩
  have HOUT := Lib.hid hout
  have HB := Lib.hid (And.intro bR hb1)
  clear hout bR hb1
  by_cases hr : off < 0 ∨ (s.size : Int) < off
  · have hways : off < 0 ∨ (¬ off < 0 ∧ (s.size : Int) < off) := by omega
    have hspec : AtSpec (sb s) off 0 0 5 := .inl ⟨rfl, rfl, rfl, by rw [sb_len]; exact hr⟩
    have HS := Lib.hid hspec
    clear hr hspec
    rcases hways with h1 | ⟨h1, h2⟩
    all_goals
      go_enter Tryd.func34, Tryd.ntmps34
      go_wp2
      refine bodyPost_ret (v := .tuple #[.agg #[.int .i64 0, .int .i64 0], .int .i64 5]) (by simp [results, Tryd.results34, go_sem]) rfl ?_
      exact ⟨0, 0, 5, rfl, HS.out, HB.out.2⟩
  · obtain ⟨i, rfl⟩ : ∃ i : Nat, off = (i : Int) := ⟨off.toNat, by omega⟩
    have hil : i ≤ s.size := by omega
    have h1 : ¬ (i : Int) < 0 := by omega
    have h2 : ¬ (s.size : Int) < (i : Int) := by omega
    clear hr
    by_cases hbd : ((i : Int) ∈ bordI (sb s))
    · obtain ⟨U, hU⟩ := mem_bordI.1 hbd
      obtain ⟨u, hp⟩ := pos_of_bord hU
      have cB := fun W => begins_any s i W hs hil true (decide_eq_true hbd).symm
      have hlf := lf_le (sb s) i
      have hun : unis (sb (s.extract (lf (sb s) i).2 i)) = u := by rw [sb_extract]; exact hp.2.2.unis_take
      have hcn := nl_count s i hil
      have hls := last_nl s i hil
      have hex : (s.extract 0 i).extract (lf (sb s) i).2 i = s.extract (lf (sb s) i).2 i := by
        rw [ByteArray.extract_extract]; congr 1 <;> omega
      obtain ⟨⟨L, F⟩, hlF⟩ : ∃ x, lf (sb s) i = x := ⟨_, rfl⟩
      rw [hlF] at hlf hun hcn hls hex
      simp only at hlf hun hcn hls hex
      have hpos : Pos (sb s) i L u := by have := hp.2.1; rw [hlF] at hp; exact hp
      obtain ⟨B, hB⟩ : ∃ B, s.extract 0 i = B := ⟨_, rfl⟩
      have hBs : B.size = i := by rw [← hB, ByteArray.size_extract]; omega
      have cL := fun W => last_any B 10 (by omega) W
      have cC := fun W => count_nl B W
      have cU := fun W => punits_any (B.extract F i) W (by rw [ByteArray.size_extract]; omega)
      rw [hB] at hcn hls hex
      rw [hls] at cL
      rw [hcn] at cC
      have hun2 : unis (sb (B.extract F i)) = u := by rw [hex]; exact hun
      rw [hun2] at cU
      have HP := Lib.hid hpos
      have CB := Lib.hid cB; have CL := Lib.hid cL; have CC := Lib.hid cC; have CU := Lib.hid cU; have HBB := Lib.hid hB
      clear hp hU hbd hun hun2 hcn hls hex hlF hpos cB cL cC cU hB
      go_enter Tryd.func34, Tryd.ntmps34
      go_wp2_with fail
      refine (CB.out _).mono ?_
      rintro e w2 ⟨rfl, b2⟩
      go_wp2_with fail
      rw [show s.extract 0 i = B from HBB.out]
      refine (CL.out _).mono ?_
      rintro e w' ⟨rfl, rfl⟩
      obtain ⟨X, hX⟩ : ∃ X, w.heap.size = X := ⟨_, rfl⟩
      have HXX := Lib.hid hX
      have hb2 : Blk w2 X 48 #[.int .i64 0, .int .i64 0] := by rw [← hX]; exact HB.out.1.same (b2.block _ HB.out.1.lt)
      have hw2 : Below X w w2 := by rw [← hX]; exact HB.out.2.trans (b2.mono (by simp))
      have hcw : ∀ W, Below w2.heap.size w2 W → Blk W X 48 #[.int .i64 0, .int .i64 0] ∧ W.cell? ⟨X, 0, none⟩ = some (.int .i64 0) ∧ W.cell? ⟨X, 1, none⟩ = some (.int .i64 0) ∧ W.frozen? ⟨X, 0, none⟩ = false ∧ W.frozen? ⟨X, 1, none⟩ = false := by
        intro W hW
        have := hb2.same (hW.block X hb2.lt)
        exact ⟨this, by simpa using this.cell 0, by simpa using this.cell 1, this.frozen 0, this.frozen 1⟩
      have K1 : Hid (∀ W, Below w2.heap.size w2 W → Calls Tryd.prog 59 #[.string (B.extract F i)] W fun e w' => e = .returned (.int .i64 (u : Int)) ∧ Below w2.heap.size w2 w' ∧ w'.cell? ⟨X, 0, none⟩ = some (.int .i64 0) ∧ w'.cell? ⟨X, 1, none⟩ = some (.int .i64 0) ∧ w'.frozen? ⟨X, 0, none⟩ = false ∧ w'.frozen? ⟨X, 1, none⟩ = false) := by
        intro W hW
        refine (CU.out W).mono ?_
        rintro e w' ⟨rfl, hb⟩
        have hbb := hW.trans (hb.mono hW.size)
        exact ⟨rfl, hbb, (hcw _ hbb).2⟩
      obtain ⟨_, c0, c1, f0, f1⟩ := hcw w2 (Below.refl _ _)
      have b0 : Below w2.heap.size w2 w2.drew := (Below.refl _ _).drew
      have HCW := Lib.hid hcw
      have HW2 := Lib.hid hw2
      have hFi : (F : Int) ≤ (B.size : Int) := by omega
      clear hX hb2 hw2 hcw b2
      go_wp2_with fail
      rw [HXX.out]
      go_region_held3 (fun _ => True) (trivial)
        (first
        | (go_at_call 59; refine (K1.out _ (by first | exact b0 | exact bA)).mono ?_; rintro e wA ⟨rfl, bA, sA0, sA1, sA2, sA3⟩)
        | (go_at_call 58; refine (CC.out _).mono ?_; rintro e wB ⟨rfl, rfl⟩))
      all_goals
        have HA := Lib.hid bA
        obtain ⟨hbk, _⟩ := HCW.out _ HA.out
        have hXw : X ≤ w2.heap.size := by have := HW2.out.size; have := HXX.out; omega
        obtain ⟨k0, k1, hbl⟩ := HOUT.out wA (L : Int) (u : Int) (by rw [HXX.out]; exact hbk) (by rw [HXX.out]; exact HW2.out.trans (HA.out.mono hXw))
        have HBL := Lib.hid hbl
        rw [HXX.out] at k0 k1 HBL
        clear bA hbl hbk
        go_wp2
        refine bodyPost_ret (v := .tuple #[.agg #[.int .i64 (L : Int), .int .i64 (u : Int)], .int .i64 0]) (by simp [results, Tryd.results34, go_sem, k0, k1]) rfl ?_
        exact ⟨L, u, 0, rfl, .inr (.inr ⟨rfl, i, rfl, HP.out⟩), by rw [HXX.out]; exact HBL.out⟩
    · have hspec : AtSpec (sb s) (i : Int) 0 0 1 := .inr (.inl ⟨rfl, rfl, rfl, i, rfl, by rw [sb_len]; exact hil, fun h => hbd (mem_bordI.2 h)⟩)
      have HS := Lib.hid hspec
      have cB := fun W => begins_any s i W hs hil false (decide_eq_false hbd).symm
      have CB := Lib.hid cB
      clear hbd hspec cB
      go_enter Tryd.func34, Tryd.ntmps34
      go_wp2_with fail
      refine (CB.out _).mono ?_
      rintro e w2 ⟨rfl, b2⟩
      have H2 : Hid (Blk w2 w.heap.size 48 #[.int .i64 0, .int .i64 0] ∧ Below w.heap.size w w2) := ⟨HB.out.1.same (b2.block _ HB.out.1.lt), HB.out.2.trans (b2.mono (by simp))⟩
      have f0 := H2.out.1.frozen 0
      have f1 := H2.out.1.frozen 1
      have c0 := H2.out.1.cell 0; have c1 := H2.out.1.cell 1
      simp at c0 c1
      have hb := HOUT.out _ 0 0 H2.out.1 H2.out.2
      obtain ⟨k0, k1, hbl2⟩ := hb
      have HBL2 := Lib.hid hbl2
      clear b2 hbl2
      go_wp2
      refine bodyPost_ret (v := .tuple #[.agg #[.int .i64 0, .int .i64 0], .int .i64 1]) (by simp [results, Tryd.results34, go_sem, k0, k1]) rfl ?_
      exact ⟨0, 0, 1, rfl, HS.out, HBL2.out⟩

end Go.Proofs.YtgfhhpodcnohpaaDoor

/- The contract of the program's Offset. Conditions: texts of at most 100000 bytes. -/
namespace Go.Proofs.YtgfhhpodcnohpaaDoor
open Go.RowKit Go.Shelf
set_option linter.unusedVariables false

set_option maxRecDepth 100000 in
set_option maxHeartbeats 2000000 in
theorem poff_any (s : ByteArray) (l u : Int) (w : World) (hs : s.size ≤ 100000) (hl2 : -9223372036854775808 ≤ l ∧ l ≤ 9223372036854775807) (hu2 : -9223372036854775808 ≤ u ∧ u ≤ 9223372036854775807) :
    Calls Tryd.prog 35 #[.string s, .agg #[.int .i64 l, .int .i64 u]] w (OffPost s l u w) := by
  obtain ⟨W1, hW1⟩ : ∃ W, w.alloc (.cells #[.int .i64 l, .int .i64 u] 48) = W := ⟨_, rfl⟩
  have bR : Blk W1 w.heap.size 48 #[.int .i64 l, .int .i64 u] := by rw [← hW1]; exact Blk.new _ _ _
  have hb1 : Below w.heap.size w W1 := by rw [← hW1]; exact (Below.refl _ _).alloc (Nat.le_refl _) _
  have cL := plines_any s W1 hs
  obtain ⟨nL, hnL⟩ : ∃ n, (lns (sb s)).length = n := ⟨_, rfl⟩
  have hnl2 : nL ≤ 100001 := by have := lnsF_len 0 (sb s); rw [sb_len] at this; rw [← hnL]; simp [lns]; omega
  have CL := Lib.hid cL; have HB := Lib.hid (And.intro bR hb1); have HW := Lib.hid hW1; have HNL := Lib.hid hnL
  clear cL bR hb1 hW1 hnL
  go_enter Tryd.func35, Tryd.ntmps35
  go_wp2_with fail
  rw [show w.alloc (.cells #[.int .i64 l, .int .i64 u] 48) = W1 from HW.out]
  refine CL.out.mono ?_
  rintro e w2 h2
  obtain ⟨A2, k2, rfl, row2, b2⟩ := row_of_new h2
  rw [HNL.out] at row2 ⊢
  obtain ⟨X, hX⟩ : ∃ X, w.heap.size = X := ⟨_, rfl⟩
  have hcell : ∀ W, Below w2.heap.size w2 W → W.cell? ⟨X, 0, none⟩ = some (.int .i64 l) ∧ W.cell? ⟨X, 1, none⟩ = some (.int .i64 u) := by
    intro W hW
    have h1 := HB.out.1.same (b2.block _ HB.out.1.lt)
    rw [hX] at h1
    have h2 := h1.same (hW.block X h1.lt)
    exact ⟨by simpa using h2.cell 0, by simpa using h2.cell 1⟩
  obtain ⟨c0, c1⟩ := hcell w2 (Below.refl _ _)
  have hcap := row2.sli.le
  have hmx := row2.sli.mx
  rw [HNL.out] at hcap
  have hRW := HB.out.1.lt
  have hbX : Below X w w2 := by rw [← hX]; exact HB.out.2.trans (b2.mono (by omega))
  have H2 : Hid (Row .i64 3 W1.heap.size w2.heap.size w2 A2 nL k2 (lns (sb s)) ∧ Below X w w2) := ⟨row2, hbX⟩
  have HX := Lib.hid hX; have HC := Lib.hid hcell
  rw [HX.out]
  clear h2 row2 b2 CL hbX hX hcell
  by_cases hbad : l < 0 ∨ (nL : Int) ≤ l
  · have hways : l < 0 ∨ (¬ l < 0 ∧ (nL : Int) ≤ l) := by omega
    have hspec : OffSpec (sb s) l u 0 5 := by
      refine .inr (.inr ⟨rfl, rfl, ?_⟩)
      rintro ⟨l', u', E, v, rfl, rfl, he, _⟩
      rcases hbad with h | h
      · omega
      · exact no_line (by rw [HNL.out]; omega) he.1
    have HS := Lib.hid hspec
    clear hbad hspec
    rcases hways with h1 | ⟨h1, h3⟩
    all_goals
      go_wp2
      go_ret2
      exact ⟨0, 5, rfl, HS.out, by rw [HX.out]; exact H2.out.2⟩
  · obtain ⟨k, rfl⟩ : ∃ k : Nat, l = (k : Int) := ⟨l.toNat, by omega⟩
    have hk : k < nL := by omega
    have n1 : ¬ (k : Int) < 0 := by omega
    have n3 : ¬ (nL : Int) ≤ (k : Int) := by omega
    obtain ⟨g, t, q1, q2, q3, q4, q5, q6, _, _⟩ := line_at (Z := sb s) (k := k) (by rw [HNL.out]; exact hk)
    obtain ⟨gA, hA2, _, hgA, hck, _⟩ := H2.out.1.at_ (j := k) hk
    rw [q1] at hck
    subst hA2
    rw [sb_len] at q3
    have cC := fun W => cut_any (s.extract g s.size) (t - g) W (by rw [ByteArray.size_extract]; omega) (fst10_line q2 q3 q4 q5 q6)
    obtain ⟨T, hT⟩ : ∃ T, s.extract g s.size = T := ⟨_, rfl⟩
    obtain ⟨M, hM⟩ : ∃ M, T.extract 0 (t - g) = M := ⟨_, rfl⟩
    have hMe : M = s.extract g t := by rw [← hM, ← hT]; exact extract_line s q2 q3
    have hMs : M.size ≤ 100000 := by rw [hMe, ByteArray.size_extract]; omega
    obtain ⟨v, hv⟩ : ∃ v, unis (((sb s).drop g).take (t - g)) = v := ⟨_, rfl⟩
    rw [hv] at q6
    have hsb : sb M = ((sb s).drop g).take (t - g) := by rw [hMe, sb_extract]
    have cU := fun W => punits_any M W hMs
    rw [hsb, hv] at cU
    rw [hT] at cC
    unfold CutPost at cC
    rw [hM] at cC
    have HT := Lib.hid hT
    have hvb : v ≤ 300000 := by rw [← hv, ← hsb]; have := unis_le (sb M); rw [sb_len] at this; omega
    have hgs : (g : Int) ≤ (s.size : Int) := by omega
    have CC := Lib.hid cC
    have K1 : Hid (∀ W, Below w2.heap.size w2 W → Calls Tryd.prog 59 #[.string M] W fun e w' => e = .returned (.int .i64 (v : Int)) ∧ Below w2.heap.size w2 w' ∧ w'.cell? ⟨X, 0, none⟩ = some (.int .i64 (k : Int)) ∧ w'.cell? ⟨X, 1, none⟩ = some (.int .i64 u)) := by
      intro W hW
      refine (cU W).mono ?_
      rintro e w' ⟨rfl, hb⟩
      have hbb := hW.trans (hb.mono hW.size)
      exact ⟨rfl, hbb, HC.out _ hbb⟩
    clear hT cC cU
    by_cases hu : u < 0
    · have hspec : OffSpec (sb s) (k : Int) u 0 5 := .inr (.inr ⟨rfl, rfl, by rintro ⟨l', u', E, v', _, hu', _, _⟩; omega⟩)
      have HS := Lib.hid hspec
      clear hspec q1 q4 q5 q6 hv hM hMe hsb
      go_wp2_with fail
      rw [show s.extract g s.size = T from HT.out]
      refine (CC.out _).mono ?_
      rintro e w3 ⟨t3, b3, rfl, bb3⟩
      have hd := HC.out w3 bb3
      obtain ⟨d0, d1⟩ := hd
      have B3 := Lib.hid bb3
      clear bb3 c0 c1 hck
      go_wp2_with fail
      go_quiet (fail)
      go_wp2
      go_ret2
      exact ⟨0, 5, rfl, HS.out, by rw [HX.out]; exact below_drewN (H2.out.2.trans (B3.out.mono (by have := H2.out.2.size; have := HX.out; omega))) _⟩
    · obtain ⟨x, rfl⟩ : ∃ x : Nat, u = (x : Int) := ⟨u.toNat, by omega⟩
      have n2 : ¬ (x : Int) < 0 := by omega
      obtain ⟨sp1, sp2, sp3⟩ := line_spec (x := x) q2 (by rw [sb_len]; exact q3) q4 q5 q6
      rw [← hsb] at sp2 sp3
      have cS := fun W => skip_any M x W hMs (by omega)
      have SP1 := Lib.hid sp1; have SP2 := Lib.hid sp2; have SP3 := Lib.hid sp3; have CS := Lib.hid cS
      clear hu q1 q4 q5 q6 hv hM hMe hsb sp1 sp2 sp3 cS
      go_wp2_with fail
      rw [show s.extract g s.size = T from HT.out]
      refine (CC.out _).mono ?_
      rintro e w3 ⟨t3, b3, rfl, bb3⟩
      have hd := HC.out w3 bb3
      obtain ⟨d0, d1⟩ := hd
      have B3 := Lib.hid bb3
      have b0 : Below w2.heap.size w2 w3.drew := bb3.drew
      clear bb3 c0 c1 hck
      by_cases hxv : v < x
      · have HS := Lib.hid (SP1.out hxv)
        have hxv' : (v : Int) < (x : Int) := by omega
        go_wp2_with fail
        go_region_held3 (fun w' => w'.cell? ⟨X, 1, none⟩ = some (.int .i64 (x : Int))) (first | exact e1 | exact d1)
          (first | (go_at_call 59; refine (K1.out _ b0).mono ?_; rintro e wA ⟨rfl, bA, e0, e1⟩))
        all_goals
          have BA := Lib.hid bA
          clear bA
          go_wp2
          go_ret2
          exact ⟨0, 5, rfl, HS.out, by rw [HX.out]; exact H2.out.2.trans ((BA.out.mono (by have := H2.out.2.size; have := HX.out; omega)))⟩
      · have hxv' : ¬ (v : Int) < (x : Int) := by omega
        go_wp2_with fail
        go_region_held3 (fun w' => w'.cell? ⟨X, 1, none⟩ = some (.int .i64 (x : Int))) (first | exact e1 | exact d1)
          (first | (go_at_call 59; refine (K1.out _ b0).mono ?_; rintro e wA ⟨rfl, bA, e0, e1⟩))
        all_goals
          have BA := Lib.hid bA
          clear bA
          go_wp2_with fail
          refine (CS.out _).mono ?_
          rintro e w5 ⟨n, b, rfl, hsk, b5⟩
          have B5 : Hid (Below X w w5) := H2.out.2.trans ((BA.out.mono (by have := H2.out.2.size; have := HX.out; omega)).trans (b5.mono (by have := BA.out.size; have := H2.out.2.size; have := HX.out; omega)))
          clear b5
          cases b with
          | true =>
            obtain ⟨y1, y2, y3⟩ := SP2.out n x (hsk.2.1 rfl)
            have HS := Lib.hid (y3 rfl)
            clear y2 y3 hsk
            go_wp2
            go_ret2
            exact ⟨g + n, 0, by push_cast; rfl, HS.out, by rw [HX.out]; exact B5.out⟩
          | false =>
            have HS := Lib.hid (SP3.out (by omega) (fun j y hj hy => hsk.2.2 rfl ⟨j, by rw [← hy]; exact hj⟩))
            clear hsk
            go_wp2
            go_ret2
            exact ⟨0, 1, rfl, HS.out, by rw [HX.out]; exact B5.out⟩

end Go.Proofs.YtgfhhpodcnohpaaDoor
