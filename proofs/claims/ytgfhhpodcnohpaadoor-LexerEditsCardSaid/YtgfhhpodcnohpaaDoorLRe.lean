/- Tokens: the reference's Next. Conditions: texts of at most 100000 bytes; the offset lies in the text. -/
import Derived.Test.YtgfhhpodcnohpaaDoorLRd
import Derived.Test.YtgfhhpodcnohpaaDoorLFi
namespace Go.Proofs.YtgfhhpodcnohpaaDoor
open Go.RowKit Go.Shelf
set_option linter.unusedVariables false

theorem endB_from (s : ByteArray) (k : Nat) (h : k < s.size) : endB ((sb s).drop k) = ((((s[k]'h).toNat : Int) == 34) || decide (0 < (prop ((sb s).drop k)).2)) := by
  unfold endB
  rw [head_from s k h]
  congr 1
/-- What Next hands back. -/
def RNx (s : ByteArray) (a : Nat) (w : World) (e : Ending) (w' : World) : Prop :=
  e = .returned (.tuple #[.int .i64 (fst_ ((sb s).drop a)).1, .int .i64 ((a + (fst_ ((sb s).drop a)).2 : Nat) : Int)]) ∧ Below w.heap.size w w'
set_option maxRecDepth 100000 in
set_option maxHeartbeats 4000000 in
theorem rnext_any (s : ByteArray) (a : Nat) (ha : a < s.size) (hs : s.size ≤ 100000) (w : World) :
    Calls Tryd.prog 43 #[.string s, .int .i64 (a : Int)] w (RNx s a w) := by
  have c0 := rtoken_any s a ha hs w
  unfold RTk at c0
  unfold RNx
  have hh := head_from s a ha
  have hlen := rtk_len ((sb s).drop a)
  have hrt : 0 < (prop ((sb s).drop a)).2 → rtk ((sb s).drop a) = prop ((sb s).drop a) := fun h => by
    rw [← hlen] at h
    unfold rtk at h ⊢
    by_cases h1 : ((sb s).drop a).head? = some 34 ∧ stLen ((sb s).drop a) = 0
    · rw [if_pos h1] at h; simp at h
    · rw [if_neg h1]
  have hF : fst_ ((sb s).drop a) = if 0 < (prop ((sb s).drop a)).2 then prop ((sb s).drop a) else (8, badLen ((sb s).drop a)) := rfl
  obtain ⟨⟨kd, n⟩, hkn⟩ : ∃ x, rtk ((sb s).drop a) = x := ⟨_, rfl⟩
  rw [hkn] at c0 hlen
  simp only at c0 hlen
  have g0 : (a : Int) < (s.size : Int) := by omega
  obtain ⟨c, hc⟩ : ∃ c : Int, ((s[a]'ha).toNat : Int) = c := ⟨_, rfl⟩
  rw [hc] at hh
  obtain ⟨N, hN⟩ : ∃ N, a + n = N := ⟨_, rfl⟩
  rw [hN] at c0
  have C0 := Lib.hid c0
  by_cases h : 0 < n
  · rw [if_pos (by omega), ← hrt (by omega), hkn] at hF
    rw [hF]
    simp only
    rw [hN]
    have q0 : (a : Int) < (N : Int) := by omega
    clear c0 hh hlen hrt hF hkn hN h
    go_enter Tryd.func43, Tryd.ntmps43
    go_wp2_with fail
    refine C0.out.mono ?_
    rintro e w1 ⟨rfl, hb⟩
    have HB := Lib.hid hb
    clear hb
    go_wp2
    go_ret2
    exact ⟨rfl, HB.out⟩
  · rw [if_neg (by omega)] at hF
    rw [hF]
    simp only
    have q0 : ¬ (a : Int) < (N : Int) := by omega
    by_cases h34 : c = 34
    · have hbl : badLen ((sb s).drop a) = run noNl ((sb s).drop a) := by
        revert hh
        cases (sb s).drop a with
        | nil => intro hh; simp at hh
        | cons d r =>
          intro hh
          rw [List.head?_cons, Option.some.injEq] at hh
          rw [badLen, if_pos (by rw [hh]; exact h34)]
      rw [hbl]
      have L := Lib.hid (fun W => rline_any s a (by omega) hs W)
      have Q : (c == 34) = true := beq_iff_eq.2 h34
      clear c0 hh hlen hrt hF hkn hN h hbl h34
      go_enter Tryd.func43, Tryd.ntmps43
      go_wp2_with fail
      refine C0.out.mono ?_
      rintro e w1 ⟨rfl, hb⟩
      have HB := Lib.hid hb
      clear hb
      go_wp2_with (first | (go_at_call 78; refine (L.out _).mono ?_; rintro e w' ⟨rfl, hw⟩; rw [hw]))
      go_ret2
      exact ⟨rfl, HB.out⟩
    · have hbl : badLen ((sb s).drop a) = badRun ((sb s).drop (a + 1)) + 1 := by
        rw [show (sb s).drop (a + 1) = ((sb s).drop a).tail by rw [← List.drop_one, List.drop_drop]]
        revert hh
        cases (sb s).drop a with
        | nil => intro hh; simp at hh
        | cons d r =>
          intro hh
          rw [List.head?_cons, Option.some.injEq] at hh
          rw [badLen, if_neg (by rw [hh]; exact h34)]
          rfl
      obtain ⟨R, hR⟩ : ∃ R, a + badLen ((sb s).drop a) = R := ⟨_, rfl⟩
      rw [hR]
      have HBR : Hid (∀ k : Nat, a + 1 ≤ k → (∀ j, a + 1 ≤ j → j < k → j < s.size ∧ endB ((sb s).drop j) = false) → (k = s.size ∨ endB ((sb s).drop k) = true) → R = k) := Lib.hid fun k h1 h2 h3 => by
        have hd : ∀ j, ((sb s).drop (a + 1)).drop j = (sb s).drop (a + 1 + j) := fun j => by rw [List.drop_drop]
        have hl : ((sb s).drop (a + 1)).length = s.size - (a + 1) := by rw [List.length_drop, sb_len]
        rw [← hR, hbl, badRun_is ((sb s).drop (a + 1)) (k - (a + 1)) (fun j hj => by
          have := h2 (a + 1 + j) (by omega) (by omega)
          rw [hd, hl]
          exact ⟨by omega, this.2⟩) (by
          rw [hd, hl, show a + 1 + (k - (a + 1)) = k by omega]
          rcases h3 with h3 | h3
          · exact .inl (by omega)
          · exact .inr h3)]
        omega
      have Q : (c == 34) = false := beq_eq_false_iff_ne.2 h34
      have dq : decide (a < N) = false := decide_eq_false (by omega)
      clear c0 hh hlen hrt hF hkn hN h hbl h34 hR
      go_enter Tryd.func43, Tryd.ntmps43
      go_wp2_with fail
      refine C0.out.mono ?_
      rintro e w1 ⟨rfl, hb⟩
      have HB1 := Lib.hid hb
      clear hb
      go_wp2
      go_loopg [7, 8, 9] s.size (fun gk v _ _ wr => ∃ k : Nat, s.size ≤ k + gk ∧ a + 1 ≤ k ∧ k ≤ s.size ∧ v = .int .i64 (k : Int) ∧ Hid (∀ j, a + 1 ≤ j → j < k → j < s.size ∧ endB ((sb s).drop j) = false) ∧ Hid (Below w.heap.size w wr))
      case atStart => exact ⟨a + 1, by omega, Nat.le_refl _, ha, by go_num, Lib.hid fun j h1 h2 => absurd h2 (by omega), HB1⟩
      case round =>
        obtain ⟨k, hgk, hak, hks, rfl, HN, HB⟩ := hrel
        by_cases hlt : k < s.size
        · have hltz : (k : Int) < (s.size : Int) := by omega
          have d0 := rtoken_any s k hlt hs wr
          unfold RTk at d0
          have hlen := rtk_len ((sb s).drop k)
          obtain ⟨⟨kd2, n2⟩, hkn⟩ : ∃ x, rtk ((sb s).drop k) = x := ⟨_, rfl⟩
          rw [hkn] at d0 hlen
          simp only at d0 hlen
          obtain ⟨N2, hN2⟩ : ∃ N, k + n2 = N := ⟨_, rfl⟩
          rw [hN2] at d0
          have D0 := Lib.hid d0
          have hE := endB_from s k hlt
          obtain ⟨d, hd⟩ : ∃ c : Int, ((s[k]'hlt).toNat : Int) = c := ⟨_, rfl⟩
          rw [hd, ← hlen] at hE
          clear d0 hkn hlen
          by_cases hn2 : 0 < n2
          · have q1 : (k : Int) < (N2 : Int) := by omega
            have HE := Lib.hid (HBR.out k hak HN.out (.inr (by rw [hE, decide_eq_true hn2, Bool.or_true])))
            clear hE hn2 hN2
            go_wp2_with (first | (go_at_call 77; refine D0.out.mono ?_; rintro e w2 ⟨rfl, hb2⟩; have HB2 := Lib.hid (HB.out.trans (hb2.mono HB.out.size)); clear hb2))
            go_ret2
            exact ⟨by rw [HE.out]; rfl, HB2.out⟩
          · have q1 : ¬ (k : Int) < (N2 : Int) := by omega
            rw [decide_eq_false hn2, Bool.or_false] at hE
            by_cases hq : d = 34
            · have Qd : (d == 34) = true := beq_iff_eq.2 hq
              have HE := Lib.hid (HBR.out k hak HN.out (.inr (by rw [hE, Qd])))
              clear hE hn2 hN2 hq
              go_wp2_with (first | (go_at_call 77; refine D0.out.mono ?_; rintro e w2 ⟨rfl, hb2⟩; have HB2 := Lib.hid (HB.out.trans (hb2.mono HB.out.size)); clear hb2))
              go_ret2
              exact ⟨by rw [HE.out]; rfl, HB2.out⟩
            · have Qd : (d == 34) = false := beq_eq_false_iff_ne.2 hq
              have HN2 : Hid (∀ j, a + 1 ≤ j → j < k + 1 → j < s.size ∧ endB ((sb s).drop j) = false) := Lib.hid fun j h1 h2 => by
                by_cases e : j = k
                · subst e; exact ⟨hlt, by rw [hE, Qd]⟩
                · exact HN.out j h1 (by omega)
              clear hE hn2 hN2 hq
              obtain ⟨g', rfl⟩ : ∃ g', gk = g' + 1 := ⟨gk - 1, by omega⟩
              go_wp2_with (first | (go_at_call 77; refine D0.out.mono ?_; rintro e w2 ⟨rfl, hb2⟩; have HB2 := Lib.hid (HB.out.trans (hb2.mono HB.out.size)); clear hb2))
              go_roundg g'
              case measure => omega
              case rel => exact ⟨k + 1, by omega, by omega, by omega, by go_num, HN2, HB2⟩
        · have hkz : k = s.size := by omega
          have HE := Lib.hid (HBR.out k hak HN.out (.inl hkz))
          have hltz : ¬ (k : Int) < (s.size : Int) := by omega
          clear hkz
          go_wp2
          go_ret2
          exact ⟨by rw [HE.out]; rfl, HB.out⟩

end Go.Proofs.YtgfhhpodcnohpaaDoor
