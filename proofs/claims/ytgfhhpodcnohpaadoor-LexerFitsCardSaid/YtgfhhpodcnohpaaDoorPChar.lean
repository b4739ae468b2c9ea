/- Contracts of the reference's second, between and Char: they return what the document says of characters. Conditions: texts of at most 100000 bytes. -/
import Derived.Test.YtgfhhpodcnohpaaDoorPMath
namespace Go.Proofs.YtgfhhpodcnohpaaDoor
open Go.RowKit Go.Shelf
set_option linter.unusedVariables false

theorem sb_get (s : ByteArray) (i : Nat) (h : i < s.size) : ab (sb s) i = ((s[i]'h).toNat : Int) := by
  have h2 : i < s.data.size := h
  unfold ab sb
  rw [List.getElem?_map]
  have e2 : s.data.toList[i]? = some s.data[i] := by rw [Array.getElem?_toList]; exact Array.getElem?_eq_getElem h2
  rw [e2]; rfl
theorem second_any (c : Int) (w : World) :
    Calls Tryd.prog 138 #[.int .u8 c] w fun e w' => e = .returned (.tuple #[.int .u8 (sec c).1, .int .u8 (sec c).2]) ∧ w = w' := by
  by_cases h1 : c = 224
  · subst h1
    go_enter Tryd.func138, Tryd.ntmps138
    go_wp2
    go_ret2
    exact ⟨rfl, rfl⟩
  by_cases h2 : c = 237
  · subst h2
    go_enter Tryd.func138, Tryd.ntmps138
    go_wp2
    go_ret2
    exact ⟨rfl, rfl⟩
  by_cases h3 : c = 240
  · subst h3
    go_enter Tryd.func138, Tryd.ntmps138
    go_wp2
    go_ret2
    exact ⟨rfl, rfl⟩
  by_cases h4 : c = 244
  · subst h4
    go_enter Tryd.func138, Tryd.ntmps138
    go_wp2
    go_ret2
    exact ⟨rfl, rfl⟩
  have e : sec c = (128, 191) := by unfold sec; rw [if_neg h1, if_neg h2, if_neg h3, if_neg h4]
  rw [e]
  have q1 : (c == 224) = false := by simp; exact h1
  have q2 : (c == 237) = false := by simp; exact h2
  have q3 : (c == 240) = false := by simp; exact h3
  have q4 : (c == 244) = false := by simp; exact h4
  clear h1 h2 h3 h4 e
  go_enter Tryd.func138, Tryd.ntmps138
  go_wp2
  go_ret2
  exact ⟨rfl, rfl⟩

theorem pbetween_any (s : ByteArray) (i : Nat) (x lo hi : Int) (w : World) (hs : s.size ≤ 100000) (hi2 : i ≤ 100010) (hx : x = (i : Int)) (r : Bool) (hr : bt (sb s) i lo hi = r) :
    Calls Tryd.prog 139 #[.string s, .int .i64 x, .int .u8 lo, .int .u8 hi] w fun e w' => e = .returned (.bool r) ∧ w = w' := by
  subst hx
  by_cases h : i < s.size
  · have e := sb_get s i h
    by_cases h1 : lo ≤ ((s[i]'h).toNat : Int)
    · have hr2 : decide (((s[i]'h).toNat : Int) ≤ hi) = r := by rw [← hr]; unfold bt; rw [sb_len, e]; simp [h, h1]
      have HR := Lib.hid hr2
      clear hr hr2 e
      go_enter Tryd.func139, Tryd.ntmps139
      go_wp2
      go_ret
      rw [← HR.out]
      exact ⟨rfl, rfl⟩
    · have hr2 : r = false := by rw [← hr]; unfold bt; rw [sb_len, e]; simp [h1]
      subst hr2
      clear hr e
      go_enter Tryd.func139, Tryd.ntmps139
      go_wp2
      go_ret
      exact ⟨rfl, rfl⟩
  · have hr2 : r = false := by rw [← hr]; unfold bt; rw [sb_len]; simp [h]
    subst hr2
    clear hr
    go_enter Tryd.func139, Tryd.ntmps139
    go_wp2
    go_ret
    exact ⟨rfl, rfl⟩

set_option maxRecDepth 100000 in
set_option maxHeartbeats 2000000 in
theorem char_any (s : ByteArray) (i : Nat) (w : World) (hs : s.size ≤ 100000) (hi : i < s.size) (n u : Nat) (hr : chr ((sb s).drop i) = (n, u)) :
    Calls Tryd.prog 113 #[.string s, .int .i64 (i : Int)] w fun e w' => e = .returned (.tuple #[.int .i64 (n : Int), .int .i64 (u : Int)]) ∧ w = w' := by
  have e := sb_get s i hi
  have hc : ab ((sb s).drop i) 0 = ab (sb s) i := by unfold ab; rw [List.getElem?_drop]; rfl
  obtain ⟨c, hcc⟩ : ∃ c, ((s[i]'hi).toNat : Int) = c := ⟨_, rfl⟩
  have S : Hid (∀ w, Calls Tryd.prog 138 #[.int .u8 ((s[i]'hi).toNat : Int)] w fun e w' => e = .returned (.tuple #[.int .u8 (sec c).1, .int .u8 (sec c).2]) ∧ w = w') := by rw [← hcc]; exact fun w => second_any _ w
  unfold chr at hr
  rw [hc, e, hcc] at hr
  simp only [bt_drop] at hr
  have HCC := Lib.hid hcc
  clear e hc
  by_cases r1 : c < 194
  · have k1 : ¬ 194 ≤ ((s[i]'hi).toNat : Int) := by omega
    have k2 : ¬ 224 ≤ ((s[i]'hi).toNat : Int) := by omega
    have k3 : ¬ 240 ≤ ((s[i]'hi).toNat : Int) := by omega
    rw [if_neg (by omega), if_neg (by omega), if_neg (by omega)] at hr
    cases hr
    clear hcc r1
    go_enter Tryd.func113, Tryd.ntmps113
    go_wp2_with fail
    refine (S.out w).mono ?_
    rintro e w' ⟨rfl, rfl⟩
    go_wp2
    go_ret2
    exact ⟨rfl, rfl⟩
  by_cases r2 : c ≤ 223
  · have k1 : 194 ≤ ((s[i]'hi).toNat : Int) := by omega
    have k1' : ((s[i]'hi).toNat : Int) ≤ 223 := by omega
    have k2 : ¬ 224 ≤ ((s[i]'hi).toNat : Int) := by omega
    have k3 : ¬ 240 ≤ ((s[i]'hi).toNat : Int) := by omega
    cases b1 : bt (sb s) (i + 1) 128 191
    · rw [if_neg (by rw [b1]; simp), if_neg (by omega), if_neg (by omega)] at hr
      cases hr
      have B1 := Lib.hid b1
      clear hcc r1 r2 b1
      go_enter Tryd.func113, Tryd.ntmps113
      go_wp2_with fail
      refine (S.out w).mono ?_
      rintro e w' ⟨rfl, rfl⟩
      go_wp2_with fail
      refine (pbetween_any s (i + 1) _ 128 191 w hs (by omega) (by push_cast; rfl) _ B1.out).mono ?_
      rintro e w' ⟨rfl, rfl⟩
      go_wp2
      go_ret2
      exact ⟨rfl, rfl⟩
    · rw [if_pos ⟨by omega, r2, b1⟩] at hr
      cases hr
      have B1 := Lib.hid b1
      clear hcc r1 r2 b1
      go_enter Tryd.func113, Tryd.ntmps113
      go_wp2_with fail
      refine (S.out w).mono ?_
      rintro e w' ⟨rfl, rfl⟩
      go_wp2_with fail
      refine (pbetween_any s (i + 1) _ 128 191 w hs (by omega) (by push_cast; rfl) _ B1.out).mono ?_
      rintro e w' ⟨rfl, rfl⟩
      go_wp2
      go_ret2
      exact ⟨rfl, rfl⟩
  by_cases r3 : c ≤ 239
  · have k1 : 194 ≤ ((s[i]'hi).toNat : Int) := by omega
    have k1' : ¬ ((s[i]'hi).toNat : Int) ≤ 223 := by omega
    have k2 : 224 ≤ ((s[i]'hi).toNat : Int) := by omega
    have k2' : ((s[i]'hi).toNat : Int) ≤ 239 := by omega
    have k3 : ¬ 240 ≤ ((s[i]'hi).toNat : Int) := by omega
    cases b1 : bt (sb s) (i + 1) (sec c).1 (sec c).2
    · rw [if_neg (by omega), if_neg (by rw [b1]; simp), if_neg (by omega)] at hr
      cases hr
      have B1 := Lib.hid b1
      clear hcc r1 r2 r3 b1
      go_enter Tryd.func113, Tryd.ntmps113
      go_wp2_with fail
      refine (S.out w).mono ?_
      rintro e w' ⟨rfl, rfl⟩
      go_wp2_with fail
      refine (pbetween_any s (i + 1) _ (sec c).1 (sec c).2 w hs (by omega) (by push_cast; rfl) _ B1.out).mono ?_
      rintro e w' ⟨rfl, rfl⟩
      go_wp2
      go_ret2
      exact ⟨rfl, rfl⟩
    · cases b2 : bt (sb s) (i + 2) 128 191
      · rw [if_neg (by omega), if_neg (by rw [b2]; simp), if_neg (by omega)] at hr
        cases hr
        have B1 := Lib.hid b1; have B2 := Lib.hid b2
        clear hcc r1 r2 r3 b1 b2
        go_enter Tryd.func113, Tryd.ntmps113
        go_wp2_with fail
        refine (S.out w).mono ?_
        rintro e w' ⟨rfl, rfl⟩
        go_wp2_with fail
        refine (pbetween_any s (i + 1) _ (sec c).1 (sec c).2 w hs (by omega) (by push_cast; rfl) _ B1.out).mono ?_
        rintro e w' ⟨rfl, rfl⟩
        go_wp2_with fail
        refine (pbetween_any s (i + 2) _ 128 191 w hs (by omega) (by push_cast; rfl) _ B2.out).mono ?_
        rintro e w' ⟨rfl, rfl⟩
        go_wp2
        go_ret2
        exact ⟨rfl, rfl⟩
      · rw [if_neg (by omega), if_pos ⟨by omega, r3, b1, b2⟩] at hr
        cases hr
        have B1 := Lib.hid b1; have B2 := Lib.hid b2
        clear hcc r1 r2 r3 b1 b2
        go_enter Tryd.func113, Tryd.ntmps113
        go_wp2_with fail
        refine (S.out w).mono ?_
        rintro e w' ⟨rfl, rfl⟩
        go_wp2_with fail
        refine (pbetween_any s (i + 1) _ (sec c).1 (sec c).2 w hs (by omega) (by push_cast; rfl) _ B1.out).mono ?_
        rintro e w' ⟨rfl, rfl⟩
        go_wp2_with fail
        refine (pbetween_any s (i + 2) _ 128 191 w hs (by omega) (by push_cast; rfl) _ B2.out).mono ?_
        rintro e w' ⟨rfl, rfl⟩
        go_wp2
        go_ret2
        exact ⟨rfl, rfl⟩
  by_cases r4 : c ≤ 244
  · have k1 : 194 ≤ ((s[i]'hi).toNat : Int) := by omega
    have k1' : ¬ ((s[i]'hi).toNat : Int) ≤ 223 := by omega
    have k2 : 224 ≤ ((s[i]'hi).toNat : Int) := by omega
    have k2' : ¬ ((s[i]'hi).toNat : Int) ≤ 239 := by omega
    have k3 : 240 ≤ ((s[i]'hi).toNat : Int) := by omega
    have k3' : ((s[i]'hi).toNat : Int) ≤ 244 := by omega
    cases b1 : bt (sb s) (i + 1) (sec c).1 (sec c).2
    · rw [if_neg (by omega), if_neg (by omega), if_neg (by rw [b1]; simp)] at hr
      cases hr
      have B1 := Lib.hid b1
      clear hcc r1 r2 r3 r4 b1
      go_enter Tryd.func113, Tryd.ntmps113
      go_wp2_with fail
      refine (S.out w).mono ?_
      rintro e w' ⟨rfl, rfl⟩
      go_wp2_with fail
      refine (pbetween_any s (i + 1) _ (sec c).1 (sec c).2 w hs (by omega) (by push_cast; rfl) _ B1.out).mono ?_
      rintro e w' ⟨rfl, rfl⟩
      go_wp2
      go_ret2
      exact ⟨rfl, rfl⟩
    · cases b2 : bt (sb s) (i + 2) 128 191
      · rw [if_neg (by omega), if_neg (by omega), if_neg (by rw [b2]; simp)] at hr
        cases hr
        have B1 := Lib.hid b1; have B2 := Lib.hid b2
        clear hcc r1 r2 r3 r4 b1 b2
        go_enter Tryd.func113, Tryd.ntmps113
        go_wp2_with fail
        refine (S.out w).mono ?_
        rintro e w' ⟨rfl, rfl⟩
        go_wp2_with fail
        refine (pbetween_any s (i + 1) _ (sec c).1 (sec c).2 w hs (by omega) (by push_cast; rfl) _ B1.out).mono ?_
        rintro e w' ⟨rfl, rfl⟩
        go_wp2_with fail
        refine (pbetween_any s (i + 2) _ 128 191 w hs (by omega) (by push_cast; rfl) _ B2.out).mono ?_
        rintro e w' ⟨rfl, rfl⟩
        go_wp2
        go_ret2
        exact ⟨rfl, rfl⟩
      · cases b3 : bt (sb s) (i + 3) 128 191
        · rw [if_neg (by omega), if_neg (by omega), if_neg (by rw [b3]; simp)] at hr
          cases hr
          have B1 := Lib.hid b1; have B2 := Lib.hid b2; have B3 := Lib.hid b3
          clear hcc r1 r2 r3 r4 b1 b2 b3
          go_enter Tryd.func113, Tryd.ntmps113
          go_wp2_with fail
          refine (S.out w).mono ?_
          rintro e w' ⟨rfl, rfl⟩
          go_wp2_with fail
          refine (pbetween_any s (i + 1) _ (sec c).1 (sec c).2 w hs (by omega) (by push_cast; rfl) _ B1.out).mono ?_
          rintro e w' ⟨rfl, rfl⟩
          go_wp2_with fail
          refine (pbetween_any s (i + 2) _ 128 191 w hs (by omega) (by push_cast; rfl) _ B2.out).mono ?_
          rintro e w' ⟨rfl, rfl⟩
          go_wp2_with fail
          refine (pbetween_any s (i + 3) _ 128 191 w hs (by omega) (by push_cast; rfl) _ B3.out).mono ?_
          rintro e w' ⟨rfl, rfl⟩
          go_wp2
          go_ret2
          exact ⟨rfl, rfl⟩
        · rw [if_neg (by omega), if_neg (by omega), if_pos ⟨by omega, r4, b1, b2, b3⟩] at hr
          cases hr
          have B1 := Lib.hid b1; have B2 := Lib.hid b2; have B3 := Lib.hid b3
          clear hcc r1 r2 r3 r4 b1 b2 b3
          go_enter Tryd.func113, Tryd.ntmps113
          go_wp2_with fail
          refine (S.out w).mono ?_
          rintro e w' ⟨rfl, rfl⟩
          go_wp2_with fail
          refine (pbetween_any s (i + 1) _ (sec c).1 (sec c).2 w hs (by omega) (by push_cast; rfl) _ B1.out).mono ?_
          rintro e w' ⟨rfl, rfl⟩
          go_wp2_with fail
          refine (pbetween_any s (i + 2) _ 128 191 w hs (by omega) (by push_cast; rfl) _ B2.out).mono ?_
          rintro e w' ⟨rfl, rfl⟩
          go_wp2_with fail
          refine (pbetween_any s (i + 3) _ 128 191 w hs (by omega) (by push_cast; rfl) _ B3.out).mono ?_
          rintro e w' ⟨rfl, rfl⟩
          go_wp2
          go_ret2
          exact ⟨rfl, rfl⟩
  have k1 : 194 ≤ ((s[i]'hi).toNat : Int) := by omega
  have k1' : ¬ ((s[i]'hi).toNat : Int) ≤ 223 := by omega
  have k2 : 224 ≤ ((s[i]'hi).toNat : Int) := by omega
  have k2' : ¬ ((s[i]'hi).toNat : Int) ≤ 239 := by omega
  have k3 : 240 ≤ ((s[i]'hi).toNat : Int) := by omega
  have k3' : ¬ ((s[i]'hi).toNat : Int) ≤ 244 := by omega
  rw [if_neg (by omega), if_neg (by omega), if_neg (by omega)] at hr
  cases hr
  clear hcc r1 r2 r3 r4
  go_enter Tryd.func113, Tryd.ntmps113
  go_wp2_with fail
  refine (S.out w).mono ?_
  rintro e w' ⟨rfl, rfl⟩
  go_wp2
  go_ret2
  exact ⟨rfl, rfl⟩

end Go.Proofs.YtgfhhpodcnohpaaDoor
