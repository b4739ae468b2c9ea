/- Tokens: the reference's token: the token ahead but for Bad. Conditions: texts of at most 100000 bytes; the offset lies in the text. -/
import Derived.Test.YtgfhhpodcnohpaaDoorLRb
import Derived.Test.YtgfhhpodcnohpaaDoorLMb
namespace Go.Proofs.YtgfhhpodcnohpaaDoor
open Go.RowKit Go.Shelf
set_option linter.unusedVariables false

theorem cls_tells (c : Int) : (isSp c = true ↔ cls c = 0) ∧ (isLo c = true ↔ cls c = 1) ∧ (isUp c = true ↔ cls c = 2) ∧ (isDi c = true ↔ cls c = 3) ∧ (c = 95 ↔ cls c = 4) ∧ 0 ≤ cls c ∧ cls c ≤ 5 := by
  have a0 : isSp c = true ↔ (c = 9 ∨ c = 10 ∨ c = 13 ∨ c = 32) := by unfold isSp; simp [or_assoc]
  have a1 : isLo c = true ↔ (97 ≤ c ∧ c ≤ 122) := by unfold isLo; simp
  have a2 : isUp c = true ↔ (65 ≤ c ∧ c ≤ 90) := by unfold isUp; simp
  have a3 : isDi c = true ↔ (48 ≤ c ∧ c ≤ 57) := by unfold isDi; simp
  unfold cls
  simp only [a0, a1, a2, a3]
  split
  · omega
  · split
    · omega
    · split
      · omega
      · split
        · omega
        · split <;> omega
theorem cls_coLo (c : Int) : coLo c = true ↔ cls c = 1 ∨ cls c = 3 ∨ cls c = 4 := by
  obtain ⟨h0, h1, h2, h3, h4, _⟩ := cls_tells c
  unfold coLo
  rw [Bool.or_eq_true, Bool.or_eq_true, h1, h3, beq_iff_eq, h4, or_assoc]
theorem cls_coUp (c : Int) : coUp c = true ↔ cls c = 1 ∨ cls c = 2 ∨ cls c = 3 := by
  obtain ⟨h0, h1, h2, h3, h4, _⟩ := cls_tells c
  unfold coUp
  rw [Bool.or_eq_true, Bool.or_eq_true, h1, h2, h3, or_assoc]
/-- What the reference's token says of the token ahead: as prop, but a quote that ends nowhere is Bad at once. -/
def rtk (l : List Int) : Int × Nat := if l.head? = some 34 ∧ stLen l = 0 then (8, 0) else prop l
theorem rtk_len (l : List Int) : (rtk l).2 = (prop l).2 := by
  unfold rtk
  by_cases h : l.head? = some 34 ∧ stLen l = 0
  · rw [if_pos h, prop_hd h.1]
    rw [if_neg (by decide), if_neg (by decide), if_neg (by decide), if_neg (by decide), if_neg (by decide), if_pos rfl, h.2]
  · rw [if_neg h]
/-- What token hands back. -/
def RTk (s : ByteArray) (a : Nat) (w : World) (e : Ending) (w' : World) : Prop :=
  e = .returned (.tuple #[.int .i64 (rtk ((sb s).drop a)).1, .int .i64 ((a + (rtk ((sb s).drop a)).2 : Nat) : Int)]) ∧ Below w.heap.size w w'

theorem head_from (s : ByteArray) (a : Nat) (h : a < s.size) : ((sb s).drop a).head? = some ((s[a]'h).toNat : Int) := by
  rw [List.head?_drop]
  exact sbAt s a h
theorem rtk_prop {l : List Int} {c : Int} (h : l.head? = some c) (hc : c ≠ 34) : rtk l = prop l := by
  unfold rtk
  rw [if_neg]
  rintro ⟨h1, _⟩
  rw [h] at h1
  exact hc (Option.some.inj h1)
set_option maxRecDepth 100000 in
set_option maxHeartbeats 4000000 in
theorem rtoken_sp (s : ByteArray) (a : Nat) (ha : a < s.size) (hs : s.size ≤ 100000) (w : World) (c : Int) (hc : ((s[a]'ha).toNat : Int) = c) (hz : cls c = 0) (hp : isSp c = true) (hP : rtk ((sb s).drop a) = (0, run isSp ((sb s).drop a))) :
    Calls Tryd.prog 77 #[.string s, .int .i64 (a : Int)] w (RTk s a w) := by
  unfold RTk
  rw [hP]
  have k0 := fun W => class_any c W
  rw [hz] at k0
  have K0 := Lib.hid k0
  have hget0 := sbAt s a ha
  rw [hc] at hget0
  obtain ⟨R, hR⟩ : ∃ R, a + run isSp ((sb s).drop a) = R := ⟨_, rfl⟩
  simp only
  rw [hR]
  have HR : Hid (∀ k : Nat, a ≤ k → (∀ i, a ≤ i → i < k → ∃ c, (sb s)[i]? = some c ∧ isSp c = true) → (k = s.size ∨ ∃ c, (sb s)[k]? = some c ∧ isSp c = false) → R = k) := Lib.hid fun k h0 h1 h2 => by
    rw [← hR, run_from isSp (sb s) a k h0 h1 (by rw [sb_len]; exact h2)]
    omega
  have H0 : Hid (∀ i, a ≤ i → i < a + 1 → ∃ c, (sb s)[i]? = some c ∧ isSp c = true) := Lib.hid fun i h1 h2 => by
    obtain rfl : i = a := by omega
    exact ⟨c, hget0, hp⟩
  have g0 : (a : Int) < (s.size : Int) := by omega
  clear k0 hR hP hget0 hz hp
  go_enter Tryd.func77, Tryd.ntmps77
  go_wp2_with (first | (go_at_call 103; refine (K0.out _).mono ?_; rintro e w' ⟨rfl, hw⟩; rw [hw]))
  go_loop [7] (fun vi => ∃ k : Nat, a + 1 ≤ k ∧ k ≤ s.size ∧ vi = .int .i64 (k : Int) ∧ Hid (∀ i, a ≤ i → i < k → ∃ c, (sb s)[i]? = some c ∧ isSp c = true)) (fun vi => s.size - (RowKit.intOf vi).toNat)
  case atStart => exact ⟨a + 1, Nat.le_refl _, ha, by go_num, H0⟩
  case round =>
    obtain ⟨k, hak, hk, rfl, hh⟩ := hrel
    by_cases k0 : k = s.size
    · have HE := Lib.hid (HR.out k (by omega) hh.out (.inl k0))
      have q0 : ¬ (k : Int) < (s.size : Int) := by omega
      clear k0
      go_wp2
      go_ret2
      exact ⟨by rw [HE.out]; rfl, Below.refl _ _⟩
    · have hlt : k < s.size := by omega
      have hltz : (k : Int) < (s.size : Int) := by omega
      obtain ⟨d, hd⟩ : ∃ c : Int, ((s[k]'hlt).toNat : Int) = c := ⟨_, rfl⟩
      have hget := sbAt s k hlt
      rw [hd] at hget
      have kd := fun W => class_any d W
      have hcl := cls_tells d
      have HON : Hid (isSp d = true → ∀ i, a ≤ i → i < k + 1 → ∃ c, (sb s)[i]? = some c ∧ isSp c = true) := Lib.hid fun hpd i h1 h2 => by
        by_cases e : i = k
        · subst e; exact ⟨d, hget, hpd⟩
        · exact hh.out i h1 (by omega)
      have HOF : Hid (isSp d = false → R = k) := Lib.hid fun hpd => HR.out k (by omega) hh.out (.inr ⟨d, hget, hpd⟩)
      have hif : isSp d = true ↔ cls d = 0 := hcl.1
      have hz : (cls d = 0) ∨ cls d = 1 ∨ cls d = 2 ∨ cls d = 3 ∨ cls d = 4 ∨ cls d = 5 := by omega
      clear hget hcl k0
      rcases hz with hz | hz | hz | hz | hz | hz
      · have HN := Lib.hid (HON.out (hif.2 (by omega)))
        rw [hz] at kd
        have KD := Lib.hid kd
        clear kd hif hz
        go_wp2_with (first | (go_at_call 103; refine (KD.out _).mono ?_; rintro e w' ⟨rfl, hw⟩; rw [hw]))
        refine ⟨⟨k + 1, by omega, by omega, by go_num, HN⟩, ?_⟩
        simp only [RowKit.intOf, Int.toNat_natCast]
        omega
      · have HE := Lib.hid (HOF.out (by rw [← Bool.not_eq_true, hif]; omega))
        rw [hz] at kd
        have KD := Lib.hid kd
        clear kd hif hz
        go_wp2_with (first | (go_at_call 103; refine (KD.out _).mono ?_; rintro e w' ⟨rfl, hw⟩; rw [hw]))
        go_ret2
        exact ⟨by rw [HE.out]; rfl, Below.refl _ _⟩
      · have HE := Lib.hid (HOF.out (by rw [← Bool.not_eq_true, hif]; omega))
        rw [hz] at kd
        have KD := Lib.hid kd
        clear kd hif hz
        go_wp2_with (first | (go_at_call 103; refine (KD.out _).mono ?_; rintro e w' ⟨rfl, hw⟩; rw [hw]))
        go_ret2
        exact ⟨by rw [HE.out]; rfl, Below.refl _ _⟩
      · have HE := Lib.hid (HOF.out (by rw [← Bool.not_eq_true, hif]; omega))
        rw [hz] at kd
        have KD := Lib.hid kd
        clear kd hif hz
        go_wp2_with (first | (go_at_call 103; refine (KD.out _).mono ?_; rintro e w' ⟨rfl, hw⟩; rw [hw]))
        go_ret2
        exact ⟨by rw [HE.out]; rfl, Below.refl _ _⟩
      · have HE := Lib.hid (HOF.out (by rw [← Bool.not_eq_true, hif]; omega))
        rw [hz] at kd
        have KD := Lib.hid kd
        clear kd hif hz
        go_wp2_with (first | (go_at_call 103; refine (KD.out _).mono ?_; rintro e w' ⟨rfl, hw⟩; rw [hw]))
        go_ret2
        exact ⟨by rw [HE.out]; rfl, Below.refl _ _⟩
      · have HE := Lib.hid (HOF.out (by rw [← Bool.not_eq_true, hif]; omega))
        rw [hz] at kd
        have KD := Lib.hid kd
        clear kd hif hz
        go_wp2_with (first | (go_at_call 103; refine (KD.out _).mono ?_; rintro e w' ⟨rfl, hw⟩; rw [hw]))
        go_ret2
        exact ⟨by rw [HE.out]; rfl, Below.refl _ _⟩
set_option maxRecDepth 100000 in
set_option maxHeartbeats 4000000 in
theorem rtoken_di (s : ByteArray) (a : Nat) (ha : a < s.size) (hs : s.size ≤ 100000) (w : World) (c : Int) (hc : ((s[a]'ha).toNat : Int) = c) (hz : cls c = 3) (hp : isDi c = true) (hP : rtk ((sb s).drop a) = (4, run isDi ((sb s).drop a))) :
    Calls Tryd.prog 77 #[.string s, .int .i64 (a : Int)] w (RTk s a w) := by
  unfold RTk
  rw [hP]
  have k0 := fun W => class_any c W
  rw [hz] at k0
  have K0 := Lib.hid k0
  have hget0 := sbAt s a ha
  rw [hc] at hget0
  obtain ⟨R, hR⟩ : ∃ R, a + run isDi ((sb s).drop a) = R := ⟨_, rfl⟩
  simp only
  rw [hR]
  have HR : Hid (∀ k : Nat, a ≤ k → (∀ i, a ≤ i → i < k → ∃ c, (sb s)[i]? = some c ∧ isDi c = true) → (k = s.size ∨ ∃ c, (sb s)[k]? = some c ∧ isDi c = false) → R = k) := Lib.hid fun k h0 h1 h2 => by
    rw [← hR, run_from isDi (sb s) a k h0 h1 (by rw [sb_len]; exact h2)]
    omega
  have H0 : Hid (∀ i, a ≤ i → i < a + 1 → ∃ c, (sb s)[i]? = some c ∧ isDi c = true) := Lib.hid fun i h1 h2 => by
    obtain rfl : i = a := by omega
    exact ⟨c, hget0, hp⟩
  have g0 : (a : Int) < (s.size : Int) := by omega
  clear k0 hR hP hget0 hz hp
  go_enter Tryd.func77, Tryd.ntmps77
  go_wp2_with (first | (go_at_call 103; refine (K0.out _).mono ?_; rintro e w' ⟨rfl, hw⟩; rw [hw]))
  go_loop [7] (fun vi => ∃ k : Nat, a + 1 ≤ k ∧ k ≤ s.size ∧ vi = .int .i64 (k : Int) ∧ Hid (∀ i, a ≤ i → i < k → ∃ c, (sb s)[i]? = some c ∧ isDi c = true)) (fun vi => s.size - (RowKit.intOf vi).toNat)
  case atStart => exact ⟨a + 1, Nat.le_refl _, ha, by go_num, H0⟩
  case round =>
    obtain ⟨k, hak, hk, rfl, hh⟩ := hrel
    by_cases k0 : k = s.size
    · have HE := Lib.hid (HR.out k (by omega) hh.out (.inl k0))
      have q0 : ¬ (k : Int) < (s.size : Int) := by omega
      clear k0
      go_wp2
      go_ret2
      exact ⟨by rw [HE.out]; rfl, Below.refl _ _⟩
    · have hlt : k < s.size := by omega
      have hltz : (k : Int) < (s.size : Int) := by omega
      obtain ⟨d, hd⟩ : ∃ c : Int, ((s[k]'hlt).toNat : Int) = c := ⟨_, rfl⟩
      have hget := sbAt s k hlt
      rw [hd] at hget
      have kd := fun W => class_any d W
      have hcl := cls_tells d
      have HON : Hid (isDi d = true → ∀ i, a ≤ i → i < k + 1 → ∃ c, (sb s)[i]? = some c ∧ isDi c = true) := Lib.hid fun hpd i h1 h2 => by
        by_cases e : i = k
        · subst e; exact ⟨d, hget, hpd⟩
        · exact hh.out i h1 (by omega)
      have HOF : Hid (isDi d = false → R = k) := Lib.hid fun hpd => HR.out k (by omega) hh.out (.inr ⟨d, hget, hpd⟩)
      have hif : isDi d = true ↔ cls d = 3 := hcl.2.2.2.1
      have hz : (cls d = 3) ∨ cls d = 0 ∨ cls d = 1 ∨ cls d = 2 ∨ cls d = 4 ∨ cls d = 5 := by omega
      clear hget hcl k0
      rcases hz with hz | hz | hz | hz | hz | hz
      · have HN := Lib.hid (HON.out (hif.2 (by omega)))
        rw [hz] at kd
        have KD := Lib.hid kd
        clear kd hif hz
        go_wp2_with (first | (go_at_call 103; refine (KD.out _).mono ?_; rintro e w' ⟨rfl, hw⟩; rw [hw]))
        refine ⟨⟨k + 1, by omega, by omega, by go_num, HN⟩, ?_⟩
        simp only [RowKit.intOf, Int.toNat_natCast]
        omega
      · have HE := Lib.hid (HOF.out (by rw [← Bool.not_eq_true, hif]; omega))
        rw [hz] at kd
        have KD := Lib.hid kd
        clear kd hif hz
        go_wp2_with (first | (go_at_call 103; refine (KD.out _).mono ?_; rintro e w' ⟨rfl, hw⟩; rw [hw]))
        go_ret2
        exact ⟨by rw [HE.out]; rfl, Below.refl _ _⟩
      · have HE := Lib.hid (HOF.out (by rw [← Bool.not_eq_true, hif]; omega))
        rw [hz] at kd
        have KD := Lib.hid kd
        clear kd hif hz
        go_wp2_with (first | (go_at_call 103; refine (KD.out _).mono ?_; rintro e w' ⟨rfl, hw⟩; rw [hw]))
        go_ret2
        exact ⟨by rw [HE.out]; rfl, Below.refl _ _⟩
      · have HE := Lib.hid (HOF.out (by rw [← Bool.not_eq_true, hif]; omega))
        rw [hz] at kd
        have KD := Lib.hid kd
        clear kd hif hz
        go_wp2_with (first | (go_at_call 103; refine (KD.out _).mono ?_; rintro e w' ⟨rfl, hw⟩; rw [hw]))
        go_ret2
        exact ⟨by rw [HE.out]; rfl, Below.refl _ _⟩
      · have HE := Lib.hid (HOF.out (by rw [← Bool.not_eq_true, hif]; omega))
        rw [hz] at kd
        have KD := Lib.hid kd
        clear kd hif hz
        go_wp2_with (first | (go_at_call 103; refine (KD.out _).mono ?_; rintro e w' ⟨rfl, hw⟩; rw [hw]))
        go_ret2
        exact ⟨by rw [HE.out]; rfl, Below.refl _ _⟩
      · have HE := Lib.hid (HOF.out (by rw [← Bool.not_eq_true, hif]; omega))
        rw [hz] at kd
        have KD := Lib.hid kd
        clear kd hif hz
        go_wp2_with (first | (go_at_call 103; refine (KD.out _).mono ?_; rintro e w' ⟨rfl, hw⟩; rw [hw]))
        go_ret2
        exact ⟨by rw [HE.out]; rfl, Below.refl _ _⟩
set_option maxRecDepth 100000 in
set_option maxHeartbeats 4000000 in
theorem rtoken_up (s : ByteArray) (a : Nat) (ha : a < s.size) (hs : s.size ≤ 100000) (w : World) (c : Int) (hc : ((s[a]'ha).toNat : Int) = c) (hz : cls c = 2) (hp : coUp c = true) (hP : rtk ((sb s).drop a) = (3, run coUp ((sb s).drop a))) :
    Calls Tryd.prog 77 #[.string s, .int .i64 (a : Int)] w (RTk s a w) := by
  unfold RTk
  rw [hP]
  have k0 := fun W => class_any c W
  rw [hz] at k0
  have K0 := Lib.hid k0
  have hget0 := sbAt s a ha
  rw [hc] at hget0
  obtain ⟨R, hR⟩ : ∃ R, a + run coUp ((sb s).drop a) = R := ⟨_, rfl⟩
  simp only
  rw [hR]
  have HR : Hid (∀ k : Nat, a ≤ k → (∀ i, a ≤ i → i < k → ∃ c, (sb s)[i]? = some c ∧ coUp c = true) → (k = s.size ∨ ∃ c, (sb s)[k]? = some c ∧ coUp c = false) → R = k) := Lib.hid fun k h0 h1 h2 => by
    rw [← hR, run_from coUp (sb s) a k h0 h1 (by rw [sb_len]; exact h2)]
    omega
  have H0 : Hid (∀ i, a ≤ i → i < a + 1 → ∃ c, (sb s)[i]? = some c ∧ coUp c = true) := Lib.hid fun i h1 h2 => by
    obtain rfl : i = a := by omega
    exact ⟨c, hget0, hp⟩
  have g0 : (a : Int) < (s.size : Int) := by omega
  clear k0 hR hP hget0 hz hp
  go_enter Tryd.func77, Tryd.ntmps77
  go_wp2_with (first | (go_at_call 103; refine (K0.out _).mono ?_; rintro e w' ⟨rfl, hw⟩; rw [hw]))
  go_loop [7] (fun vi => ∃ k : Nat, a + 1 ≤ k ∧ k ≤ s.size ∧ vi = .int .i64 (k : Int) ∧ Hid (∀ i, a ≤ i → i < k → ∃ c, (sb s)[i]? = some c ∧ coUp c = true)) (fun vi => s.size - (RowKit.intOf vi).toNat)
  case atStart => exact ⟨a + 1, Nat.le_refl _, ha, by go_num, H0⟩
  case round =>
    obtain ⟨k, hak, hk, rfl, hh⟩ := hrel
    by_cases k0 : k = s.size
    · have HE := Lib.hid (HR.out k (by omega) hh.out (.inl k0))
      have q0 : ¬ (k : Int) < (s.size : Int) := by omega
      clear k0
      go_wp2
      go_ret2
      exact ⟨by rw [HE.out]; rfl, Below.refl _ _⟩
    · have hlt : k < s.size := by omega
      have hltz : (k : Int) < (s.size : Int) := by omega
      obtain ⟨d, hd⟩ : ∃ c : Int, ((s[k]'hlt).toNat : Int) = c := ⟨_, rfl⟩
      have hget := sbAt s k hlt
      rw [hd] at hget
      have kd := fun W => class_any d W
      have hcl := cls_tells d
      have HON : Hid (coUp d = true → ∀ i, a ≤ i → i < k + 1 → ∃ c, (sb s)[i]? = some c ∧ coUp c = true) := Lib.hid fun hpd i h1 h2 => by
        by_cases e : i = k
        · subst e; exact ⟨d, hget, hpd⟩
        · exact hh.out i h1 (by omega)
      have HOF : Hid (coUp d = false → R = k) := Lib.hid fun hpd => HR.out k (by omega) hh.out (.inr ⟨d, hget, hpd⟩)
      have hif : coUp d = true ↔ cls d = 1 ∨ cls d = 2 ∨ cls d = 3 := cls_coUp d
      have hz : (cls d = 1 ∨ cls d = 2 ∨ cls d = 3) ∨ cls d = 0 ∨ cls d = 4 ∨ cls d = 5 := by omega
      clear hget hcl k0
      rcases hz with (hz | hz | hz) | hz | hz | hz
      · have HN := Lib.hid (HON.out (hif.2 (by omega)))
        rw [hz] at kd
        have KD := Lib.hid kd
        clear kd hif hz
        go_wp2_with (first | (go_at_call 103; refine (KD.out _).mono ?_; rintro e w' ⟨rfl, hw⟩; rw [hw]))
        refine ⟨⟨k + 1, by omega, by omega, by go_num, HN⟩, ?_⟩
        simp only [RowKit.intOf, Int.toNat_natCast]
        omega
      · have HN := Lib.hid (HON.out (hif.2 (by omega)))
        rw [hz] at kd
        have KD := Lib.hid kd
        clear kd hif hz
        go_wp2_with (first | (go_at_call 103; refine (KD.out _).mono ?_; rintro e w' ⟨rfl, hw⟩; rw [hw]))
        refine ⟨⟨k + 1, by omega, by omega, by go_num, HN⟩, ?_⟩
        simp only [RowKit.intOf, Int.toNat_natCast]
        omega
      · have HN := Lib.hid (HON.out (hif.2 (by omega)))
        rw [hz] at kd
        have KD := Lib.hid kd
        clear kd hif hz
        go_wp2_with (first | (go_at_call 103; refine (KD.out _).mono ?_; rintro e w' ⟨rfl, hw⟩; rw [hw]))
        refine ⟨⟨k + 1, by omega, by omega, by go_num, HN⟩, ?_⟩
        simp only [RowKit.intOf, Int.toNat_natCast]
        omega
      · have HE := Lib.hid (HOF.out (by rw [← Bool.not_eq_true, hif]; omega))
        rw [hz] at kd
        have KD := Lib.hid kd
        clear kd hif hz
        go_wp2_with (first | (go_at_call 103; refine (KD.out _).mono ?_; rintro e w' ⟨rfl, hw⟩; rw [hw]))
        go_ret2
        exact ⟨by rw [HE.out]; rfl, Below.refl _ _⟩
      · have HE := Lib.hid (HOF.out (by rw [← Bool.not_eq_true, hif]; omega))
        rw [hz] at kd
        have KD := Lib.hid kd
        clear kd hif hz
        go_wp2_with (first | (go_at_call 103; refine (KD.out _).mono ?_; rintro e w' ⟨rfl, hw⟩; rw [hw]))
        go_ret2
        exact ⟨by rw [HE.out]; rfl, Below.refl _ _⟩
      · have HE := Lib.hid (HOF.out (by rw [← Bool.not_eq_true, hif]; omega))
        rw [hz] at kd
        have KD := Lib.hid kd
        clear kd hif hz
        go_wp2_with (first | (go_at_call 103; refine (KD.out _).mono ?_; rintro e w' ⟨rfl, hw⟩; rw [hw]))
        go_ret2
        exact ⟨by rw [HE.out]; rfl, Below.refl _ _⟩
set_option maxRecDepth 100000 in
set_option maxHeartbeats 4000000 in
theorem rtoken_lo (s : ByteArray) (a : Nat) (ha : a < s.size) (hs : s.size ≤ 100000) (w : World) (c : Int) (hc : ((s[a]'ha).toNat : Int) = c) (hz : cls c = 1) (hp : coLo c = true) (b : Bool)
    (hb : decide (((sb s).drop a).take (run coLo ((sb s).drop a)) ∈ KW) = b) (hP : rtk ((sb s).drop a) = (if b = true then 7 else 2, run coLo ((sb s).drop a))) :
    Calls Tryd.prog 77 #[.string s, .int .i64 (a : Int)] w (RTk s a w) := by
  unfold RTk
  rw [hP]
  have k0 := fun W => class_any c W
  rw [hz] at k0
  have K0 := Lib.hid k0
  have hget0 := sbAt s a ha
  rw [hc] at hget0
  obtain ⟨R, hR⟩ : ∃ R, a + run coLo ((sb s).drop a) = R := ⟨_, rfl⟩
  simp only
  rw [hR]
  have HKW : Hid (∀ k : Nat, R = k → k ≤ s.size → ∀ W, Calls Tryd.prog 19 #[.string (s.extract a k)] W fun e w' => e = .returned (.bool b) ∧ Below W.heap.size W w') := Lib.hid fun k hk hks W => by
    have h := rkeyword_any (s.extract a k) W
    rw [sbExt, List.drop_take, show k - a = run coLo ((sb s).drop a) by omega, hb] at h
    exact h
  have HR : Hid (∀ k : Nat, a ≤ k → (∀ i, a ≤ i → i < k → ∃ c, (sb s)[i]? = some c ∧ coLo c = true) → (k = s.size ∨ ∃ c, (sb s)[k]? = some c ∧ coLo c = false) → R = k) := Lib.hid fun k h0 h1 h2 => by
    rw [← hR, run_from coLo (sb s) a k h0 h1 (by rw [sb_len]; exact h2)]
    omega
  have H0 : Hid (∀ i, a ≤ i → i < a + 1 → ∃ c, (sb s)[i]? = some c ∧ coLo c = true) := Lib.hid fun i h1 h2 => by
    obtain rfl : i = a := by omega
    exact ⟨c, hget0, hp⟩
  have g0 : (a : Int) < (s.size : Int) := by omega
  clear k0 hR hP hget0 hz hp hb
  go_enter Tryd.func77, Tryd.ntmps77
  go_wp2_with (first | (go_at_call 103; refine (K0.out _).mono ?_; rintro e w' ⟨rfl, hw⟩; rw [hw]))
  go_loop [7] (fun vi => ∃ k : Nat, a + 1 ≤ k ∧ k ≤ s.size ∧ vi = .int .i64 (k : Int) ∧ Hid (∀ i, a ≤ i → i < k → ∃ c, (sb s)[i]? = some c ∧ coLo c = true)) (fun vi => s.size - (RowKit.intOf vi).toNat)
  case atStart => exact ⟨a + 1, Nat.le_refl _, ha, by go_num, H0⟩
  case round =>
    obtain ⟨k, hak, hk, rfl, hh⟩ := hrel
    by_cases k0 : k = s.size
    · have HE := Lib.hid (HR.out k (by omega) hh.out (.inl k0))
      have q0 : ¬ (k : Int) < (s.size : Int) := by omega
      have C := Lib.hid (HKW.out k HE.out hk)
      have q1 : (a : Int) ≤ (k : Int) := by omega
      have q2 : (k : Int) ≤ (s.size : Int) := by omega
      have q3 : (0 : Int) ≤ (a : Int) := by omega
      clear k0
      cases b <;>
      · go_wp2_with (first | (go_at_call 19; refine (C.out _).mono ?_; rintro e w2 ⟨rfl, hb2⟩; have HB := Lib.hid hb2; clear hb2))
        go_ret2
        exact ⟨by rw [HE.out]; rfl, HB.out⟩
    · have hlt : k < s.size := by omega
      have hltz : (k : Int) < (s.size : Int) := by omega
      obtain ⟨d, hd⟩ : ∃ c : Int, ((s[k]'hlt).toNat : Int) = c := ⟨_, rfl⟩
      have hget := sbAt s k hlt
      rw [hd] at hget
      have kd := fun W => class_any d W
      have hcl := cls_tells d
      have HON : Hid (coLo d = true → ∀ i, a ≤ i → i < k + 1 → ∃ c, (sb s)[i]? = some c ∧ coLo c = true) := Lib.hid fun hpd i h1 h2 => by
        by_cases e : i = k
        · subst e; exact ⟨d, hget, hpd⟩
        · exact hh.out i h1 (by omega)
      have HOF : Hid (coLo d = false → R = k) := Lib.hid fun hpd => HR.out k (by omega) hh.out (.inr ⟨d, hget, hpd⟩)
      have hif : coLo d = true ↔ cls d = 1 ∨ cls d = 3 ∨ cls d = 4 := cls_coLo d
      have hz : (cls d = 1 ∨ cls d = 3 ∨ cls d = 4) ∨ cls d = 0 ∨ cls d = 2 ∨ cls d = 5 := by omega
      clear hget hcl k0
      rcases hz with (hz | hz | hz) | hz | hz | hz
      · have HN := Lib.hid (HON.out (hif.2 (by omega)))
        rw [hz] at kd
        have KD := Lib.hid kd
        clear kd hif hz
        go_wp2_with (first | (go_at_call 103; refine (KD.out _).mono ?_; rintro e w' ⟨rfl, hw⟩; rw [hw]))
        refine ⟨⟨k + 1, by omega, by omega, by go_num, HN⟩, ?_⟩
        simp only [RowKit.intOf, Int.toNat_natCast]
        omega
      · have HN := Lib.hid (HON.out (hif.2 (by omega)))
        rw [hz] at kd
        have KD := Lib.hid kd
        clear kd hif hz
        go_wp2_with (first | (go_at_call 103; refine (KD.out _).mono ?_; rintro e w' ⟨rfl, hw⟩; rw [hw]))
        refine ⟨⟨k + 1, by omega, by omega, by go_num, HN⟩, ?_⟩
        simp only [RowKit.intOf, Int.toNat_natCast]
        omega
      · have HN := Lib.hid (HON.out (hif.2 (by omega)))
        rw [hz] at kd
        have KD := Lib.hid kd
        clear kd hif hz
        go_wp2_with (first | (go_at_call 103; refine (KD.out _).mono ?_; rintro e w' ⟨rfl, hw⟩; rw [hw]))
        refine ⟨⟨k + 1, by omega, by omega, by go_num, HN⟩, ?_⟩
        simp only [RowKit.intOf, Int.toNat_natCast]
        omega
      · have HE := Lib.hid (HOF.out (by rw [← Bool.not_eq_true, hif]; omega))
        rw [hz] at kd
        have KD := Lib.hid kd
        have C := Lib.hid (HKW.out k HE.out hk)
        have q1 : (a : Int) ≤ (k : Int) := by omega
        have q2 : (k : Int) ≤ (s.size : Int) := by omega
        have q3 : (0 : Int) ≤ (a : Int) := by omega
        clear kd hif hz
        cases b <;>
        · go_wp2_with (first | (go_at_call 19; refine (C.out _).mono ?_; rintro e w2 ⟨rfl, hb2⟩; have HB := Lib.hid hb2; clear hb2) | (go_at_call 103; refine (KD.out _).mono ?_; rintro e w' ⟨rfl, hw⟩; rw [hw]))
          go_ret2
          exact ⟨by rw [HE.out]; rfl, HB.out⟩
      · have HE := Lib.hid (HOF.out (by rw [← Bool.not_eq_true, hif]; omega))
        rw [hz] at kd
        have KD := Lib.hid kd
        have C := Lib.hid (HKW.out k HE.out hk)
        have q1 : (a : Int) ≤ (k : Int) := by omega
        have q2 : (k : Int) ≤ (s.size : Int) := by omega
        have q3 : (0 : Int) ≤ (a : Int) := by omega
        clear kd hif hz
        cases b <;>
        · go_wp2_with (first | (go_at_call 19; refine (C.out _).mono ?_; rintro e w2 ⟨rfl, hb2⟩; have HB := Lib.hid hb2; clear hb2) | (go_at_call 103; refine (KD.out _).mono ?_; rintro e w' ⟨rfl, hw⟩; rw [hw]))
          go_ret2
          exact ⟨by rw [HE.out]; rfl, HB.out⟩
      · have HE := Lib.hid (HOF.out (by rw [← Bool.not_eq_true, hif]; omega))
        rw [hz] at kd
        have KD := Lib.hid kd
        have C := Lib.hid (HKW.out k HE.out hk)
        have q1 : (a : Int) ≤ (k : Int) := by omega
        have q2 : (k : Int) ≤ (s.size : Int) := by omega
        have q3 : (0 : Int) ≤ (a : Int) := by omega
        clear kd hif hz
        cases b <;>
        · go_wp2_with (first | (go_at_call 19; refine (C.out _).mono ?_; rintro e w2 ⟨rfl, hb2⟩; have HB := Lib.hid hb2; clear hb2) | (go_at_call 103; refine (KD.out _).mono ?_; rintro e w' ⟨rfl, hw⟩; rw [hw]))
          go_ret2
          exact ⟨by rw [HE.out]; rfl, HB.out⟩
set_option maxRecDepth 100000 in
theorem rtoken_co (s : ByteArray) (a : Nat) (ha : a < s.size) (hs : s.size ≤ 100000) (w : World) (c : Int) (hc : ((s[a]'ha).toNat : Int) = c) (h35 : c = 35) (hP : rtk ((sb s).drop a) = (1, run noNl ((sb s).drop a))) :
    Calls Tryd.prog 77 #[.string s, .int .i64 (a : Int)] w (RTk s a w) := by
  unfold RTk
  rw [hP]
  have k0 := fun W => class_any c W
  rw [show cls c = 5 by rw [h35]; decide] at k0
  have K0 := Lib.hid k0
  have L := Lib.hid (fun W => rline_any s a (by omega) hs W)
  have g0 : (a : Int) < (s.size : Int) := by omega
  have Q : (c == 35) = true := beq_iff_eq.2 h35
  clear k0 hP h35
  go_enter Tryd.func77, Tryd.ntmps77
  go_wp2_with (first | (go_at_call 103; refine (K0.out _).mono ?_; rintro e w' ⟨rfl, hw⟩; rw [hw]) | (go_at_call 78; refine (L.out _).mono ?_; rintro e w' ⟨rfl, hw⟩; rw [hw]))
  go_ret2
  exact ⟨rfl, Below.refl _ _⟩
set_option maxRecDepth 100000 in
theorem rtoken_sy (s : ByteArray) (a : Nat) (ha : a < s.size) (hs : s.size ≤ 100000) (w : World) (c : Int) (hc : ((s[a]'ha).toNat : Int) = c) (h35 : c ≠ 35) (h34 : c ≠ 34) (hz : cls c = 4 ∨ cls c = 5) (hP : rtk ((sb s).drop a) = (6, syLen ((sb s).drop a))) :
    Calls Tryd.prog 77 #[.string s, .int .i64 (a : Int)] w (RTk s a w) := by
  unfold RTk
  rw [hP]
  have k0 := fun W => class_any c W
  have S := Lib.hid (fun W => rsymbol_any s a ha hs W)
  have hle : syLen ((sb s).drop a) ≤ 100000 := by
    have := syLen_le ((sb s).drop a)
    rw [List.length_drop, sb_len] at this
    omega
  obtain ⟨n, hn⟩ : ∃ n, syLen ((sb s).drop a) = n := ⟨_, rfl⟩
  rw [hn] at S hle
  simp only
  rw [hn]
  have g0 : (a : Int) < (s.size : Int) := by omega
  have Q : (c == 35) = false := beq_eq_false_iff_ne.2 h35
  have Q2 : (c == 34) = false := beq_eq_false_iff_ne.2 h34
  clear hP h35 h34 hn
  rcases hz with hz | hz <;>
  · rw [hz] at k0
    have K0 := Lib.hid k0
    clear k0 hz
    go_enter Tryd.func77, Tryd.ntmps77
    go_wp2_with (first | (go_at_call 103; refine (K0.out _).mono ?_; rintro e w' ⟨rfl, hw⟩; rw [hw]) | (go_at_call 104; refine (S.out _).mono ?_; rintro e w2 ⟨rfl, hb2⟩; have HB := Lib.hid hb2; clear hb2))
    go_ret2
    exact ⟨by congr 1, HB.out⟩

end Go.Proofs.YtgfhhpodcnohpaaDoor
