/- Tokens: the reference's token at a quote, and whole. Conditions: texts of at most 100000 bytes; the offset lies in the text. -/
import Derived.Test.YtgfhhpodcnohpaaDoorLRc
namespace Go.Proofs.YtgfhhpodcnohpaaDoor
open Go.RowKit Go.Shelf
set_option linter.unusedVariables false

set_option maxRecDepth 100000 in
set_option maxHeartbeats 4000000 in
theorem rtoken_qu (s : ByteArray) (a : Nat) (ha : a < s.size) (hs : s.size ≤ 100000) (w : World) (c : Int) (hc : ((s[a]'ha).toNat : Int) = c) (h34 : c = 34) :
    Calls Tryd.prog 77 #[.string s, .int .i64 (a : Int)] w (RTk s a w) := by
  have k0 := fun W => class_any c W
  rw [show cls c = 5 by rw [h34]; decide] at k0
  have K0 := Lib.hid k0
  have hh := head_from s a ha
  rw [hc, h34] at hh
  have hP := prop_hd hh
  rw [if_neg (by decide), if_neg (by decide), if_neg (by decide), if_neg (by decide), if_neg (by decide), if_pos rfl] at hP
  have hrt : rtk ((sb s).drop a) = if stLen ((sb s).drop a) = 0 then (8, 0) else (5, stLen ((sb s).drop a)) := by
    unfold rtk
    by_cases h : stLen ((sb s).drop a) = 0
    · rw [if_pos ⟨hh, h⟩, if_pos h]
    · rw [if_neg (fun e => h e.2), if_neg h, hP]
  have htl : ((sb s).drop a).tail = (sb s).drop (a + 1) := by rw [← List.drop_one, List.drop_drop]
  have hst : stLen ((sb s).drop a) = if (sb s)[a + 1 + run noQt ((sb s).drop (a + 1))]? = some 34 then run noQt ((sb s).drop (a + 1)) + 2 else 0 := by
    unfold stLen
    rw [htl, List.getElem?_drop]
  obtain ⟨m, hm⟩ : ∃ m, run noNl ((sb s).drop a) = m := ⟨_, rfl⟩
  have L0 := fun W => rline_any s a (by omega) hs W
  rw [hm] at L0
  have hmle := run_le noNl ((sb s).drop a)
  rw [List.length_drop, sb_len, hm] at hmle
  have hin : ∀ i, a ≤ i → i < a + m → ∃ c, (sb s)[i]? = some c ∧ noNl c = true := fun i h1 h2 => by
    obtain ⟨d, h3, h4⟩ := run_isin noNl ((sb s).drop a) (i - a) (by omega)
    rw [List.getElem?_drop, show a + (i - a) = i by omega] at h3
    exact ⟨d, h3, h4⟩
  have hm1 : 1 ≤ m := by
    rcases Nat.eq_zero_or_pos m with h | h
    · exfalso
      have h5 := run_out noNl ((sb s).drop a) 34 (by rw [hm, h, ← List.head?_eq_getElem?]; exact hh)
      simp [noNl] at h5
    · exact h
  have hend : ∀ d, (sb s)[a + m]? = some d → d = 10 := fun d h => by
    have h5 := run_out noNl ((sb s).drop a) d (by rw [hm, List.getElem?_drop]; exact h)
    unfold noNl at h5
    simpa using h5
  obtain ⟨⟨kd, n⟩, hkn⟩ : ∃ x, rtk ((sb s).drop a) = x := ⟨_, rfl⟩
  rw [hkn] at hrt
  have HNO : Hid ((∀ i, a + 1 ≤ i → i < a + m → (sb s)[i]? ≠ some 34) → kd = 8 ∧ n = 0) := Lib.hid fun h => by
    have hq : run noQt ((sb s).drop (a + 1)) = a + m - (a + 1) := run_from noQt (sb s) (a + 1) (a + m) (by omega) (fun i h1 h2 => by
      obtain ⟨d, h3, h4⟩ := hin i (by omega) h2
      have h5 := h i h1 h2
      rw [h3, ne_eq, Option.some.injEq] at h5
      unfold noNl at h4
      exact ⟨d, h3, by unfold noQt; simp at h4 ⊢; omega⟩) (by
      rcases Nat.lt_or_ge (a + m) (sb s).length with h6 | h6
      · exact .inr ⟨_, List.getElem?_eq_getElem h6, by rw [hend _ (List.getElem?_eq_getElem h6)]; decide⟩
      · exact .inl (by rw [sb_len] at h6 ⊢; omega))
    rw [hq, show a + 1 + (a + m - (a + 1)) = a + m by omega, if_neg (fun e => by have := hend _ e; omega)] at hst
    rw [hst, if_pos rfl] at hrt
    injection hrt with e1 e2
    exact ⟨e1, e2⟩
  have HYES : Hid (∀ k : Nat, a + 1 ≤ k → k < a + m → (∀ i, a + 1 ≤ i → i < k → (sb s)[i]? ≠ some 34) → (sb s)[k]? = some 34 → kd = 5 ∧ n = k + 1 - a) := Lib.hid fun k hk1 hk2 h h34 => by
    have hq : run noQt ((sb s).drop (a + 1)) = k - (a + 1) := run_from noQt (sb s) (a + 1) k hk1 (fun i h1 h2 => by
      obtain ⟨d, h3, h4⟩ := hin i (by omega) (by omega)
      have h5 := h i h1 h2
      rw [h3, ne_eq, Option.some.injEq] at h5
      unfold noNl at h4
      exact ⟨d, h3, by unfold noQt; simp at h4 ⊢; omega⟩) (.inr ⟨34, h34, by decide⟩)
    rw [hq, show a + 1 + (k - (a + 1)) = k by omega, if_pos h34] at hst
    rw [hst, if_neg (by omega)] at hrt
    injection hrt with e1 e2
    exact ⟨e1, by omega⟩
  have L := Lib.hid L0
  unfold RTk
  rw [hkn]
  simp only
  obtain ⟨N, hN⟩ : ∃ N, a + m = N := ⟨_, rfl⟩
  rw [hN] at L HNO HYES
  have hNs : N ≤ s.size := by omega
  have haN : a + 1 ≤ N := by omega
  have g0 : (a : Int) < (s.size : Int) := by omega
  have Q : (c == 35) = false := beq_eq_false_iff_ne.2 (by omega)
  have Q2 : (c == 34) = true := beq_iff_eq.2 h34
  clear k0 hh hP hrt htl hst L0 hmle hin hm1 hend hkn hm hN h34
  go_enter Tryd.func77, Tryd.ntmps77
  go_wp2_with (first | (go_at_call 103; refine (K0.out _).mono ?_; rintro e w' ⟨rfl, hw⟩; rw [hw]) | (go_at_call 78; refine (L.out _).mono ?_; rintro e w' ⟨rfl, hw⟩; rw [hw]))
  go_loop [7] (fun vi => ∃ k : Nat, a + 1 ≤ k ∧ k ≤ N ∧ vi = .int .i64 (k : Int) ∧ Hid (∀ i, a + 1 ≤ i → i < k → (sb s)[i]? ≠ some 34)) (fun vi => N - (RowKit.intOf vi).toNat)
  case atStart => exact ⟨a + 1, Nat.le_refl _, haN, by go_num, Lib.hid fun i h1 h2 => absurd h2 (by omega)⟩
  case round =>
    obtain ⟨k, hak, hk, rfl, hh⟩ := hrel
    by_cases k0 : k = N
    · have HE := Lib.hid (HNO.out (by rw [← k0]; exact hh.out))
      have q0 : ¬ (k : Int) < (N : Int) := by omega
      clear k0
      go_wp2
      go_ret2
      exact ⟨by rw [HE.out.1, HE.out.2]; rfl, Below.refl _ _⟩
    · have hlt : k < s.size := by omega
      have hltN : k < N := by omega
      have hltz : (k : Int) < (N : Int) := by omega
      have hlts : (k : Int) < (s.size : Int) := by omega
      obtain ⟨d, hd⟩ : ∃ c : Int, ((s[k]'hlt).toNat : Int) = c := ⟨_, rfl⟩
      have hget := sbAt s k hlt
      rw [hd] at hget
      by_cases hq : d = 34
      · have HE := Lib.hid (HYES.out k hak hltN hh.out (by rw [hget, hq]))
        have hb : (d != 34) = false := by simp [hq]
        have hk1 : (a : Int) + ((k + 1 - a : Nat) : Int) = (k : Int) + 1 := by omega
        have HK1 := Lib.hid hk1
        clear hget hq k0 hk1
        go_wp2
        go_ret2
        exact ⟨by rw [HE.out.1, HE.out.2, HK1.out]; rfl, Below.refl _ _⟩
      · have hb : (d != 34) = true := by simp [hq]
        have HN : Hid (∀ i, a + 1 ≤ i → i < k + 1 → (sb s)[i]? ≠ some 34) := Lib.hid fun i h1 h2 => by
          by_cases e : i = k
          · subst e
            rw [hget]
            exact fun e => hq (Option.some.inj e)
          · exact hh.out i h1 (by omega)
        clear hget hq k0
        go_wp2
        refine ⟨⟨k + 1, by omega, by omega, by go_num, HN⟩, ?_⟩
        simp only [RowKit.intOf, Int.toNat_natCast]
        omega
theorem rtoken_any (s : ByteArray) (a : Nat) (ha : a < s.size) (hs : s.size ≤ 100000) (w : World) :
    Calls Tryd.prog 77 #[.string s, .int .i64 (a : Int)] w (RTk s a w) := by
  have hh := head_from s a ha
  obtain ⟨c, hc⟩ : ∃ c : Int, ((s[a]'ha).toNat : Int) = c := ⟨_, rfl⟩
  rw [hc] at hh
  obtain ⟨t0, t1, t2, t3, t4, t5, t6⟩ := cls_tells c
  by_cases h34 : c = 34
  · exact rtoken_qu s a ha hs w c hc h34
  · have hr := rtk_prop hh h34
    have hP := prop_hd hh
    by_cases b0 : isSp c = true
    · rw [if_pos b0] at hP
      exact rtoken_sp s a ha hs w c hc (t0.1 b0) b0 (hr.trans hP)
    · rw [if_neg b0] at hP
      by_cases h35 : c = 35
      · rw [if_pos h35] at hP
        exact rtoken_co s a ha hs w c hc h35 (hr.trans hP)
      · rw [if_neg h35] at hP
        by_cases b1 : isLo c = true
        · rw [if_pos b1] at hP
          have hp : coLo c = true := by unfold coLo; rw [b1]; rfl
          refine rtoken_lo s a ha hs w c hc (t1.1 b1) hp _ rfl (hr.trans (hP.trans ?_))
          by_cases hk : ((sb s).drop a).take (run coLo ((sb s).drop a)) ∈ KW
          · rw [if_pos hk, decide_eq_true hk]; rfl
          · rw [if_neg hk, decide_eq_false hk]; rfl
        · rw [if_neg b1] at hP
          by_cases b2 : isUp c = true
          · rw [if_pos b2] at hP
            exact rtoken_up s a ha hs w c hc (t2.1 b2) (by unfold coUp; rw [b2]; simp) (hr.trans hP)
          · rw [if_neg b2] at hP
            by_cases b3 : isDi c = true
            · rw [if_pos b3] at hP
              exact rtoken_di s a ha hs w c hc (t3.1 b3) b3 (hr.trans hP)
            · rw [if_neg b3, if_neg h34] at hP
              have n0 : ¬ cls c = 0 := fun e => b0 (t0.2 e)
              have n1 : ¬ cls c = 1 := fun e => b1 (t1.2 e)
              have n2 : ¬ cls c = 2 := fun e => b2 (t2.2 e)
              have n3 : ¬ cls c = 3 := fun e => b3 (t3.2 e)
              exact rtoken_sy s a ha hs w c hc h35 h34 (by omega) (hr.trans hP)

end Go.Proofs.YtgfhhpodcnohpaaDoor
