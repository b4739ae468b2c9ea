/- Tokens: the program's first: the kind and the length of the token ahead. Conditions: texts of at most 100000 bytes that are not empty; the tables lie in memory. -/
import Derived.Test.YtgfhhpodcnohpaaDoorLPr
namespace Go.Proofs.YtgfhhpodcnohpaaDoor
open Go.RowKit Go.Shelf Go.Lib
set_option linter.unusedVariables false

theorem badRun_is : ∀ (l : List Int) (n : Nat), (∀ j, j < n → j < l.length ∧ endB (l.drop j) = false) → (n = l.length ∨ endB (l.drop n) = true) → badRun l = n
  | [], n, h1, h2 => by
    rcases Nat.eq_zero_or_pos n with h | h
    · rw [h]; rfl
    · have := (h1 0 h).1; simp at this
  | c :: r, 0, h1, h2 => by
    rcases h2 with h2 | h2
    · simp at h2
    · rw [List.drop_zero] at h2
      rw [badRun, if_pos h2]
  | c :: r, n + 1, h1, h2 => by
    have h0 := (h1 0 (by omega)).2
    rw [List.drop_zero] at h0
    rw [badRun, if_neg (by rw [h0]; simp), badRun_is r n (fun j hj => by
      have := h1 (j + 1) (by omega)
      rw [List.drop_succ_cons, List.length_cons] at this
      exact ⟨by omega, this.2⟩) (by
      rw [List.drop_succ_cons, List.length_cons] at h2
      rcases h2 with h2 | h2
      · exact .inl (by omega)
      · exact .inr h2)]
theorem endB_at (s : ByteArray) (h : 0 < s.size) : endB (sb s) = ((((s[0]'h).toNat : Int) == 34) || decide (0 < (prop (sb s)).2)) := by
  unfold endB
  rw [head_at s h]
  congr 1
theorem badLen_at (s : ByteArray) (h : 0 < s.size) (hc : ¬ ((s[0]'h).toNat : Int) = 34) : badLen (sb s) = badRun (sb s).tail + 1 := by
  have hh := head_at s h
  revert hh
  cases sb s with
  | nil => intro hh; simp at hh
  | cons c r =>
    intro hh
    simp only [List.head?_cons, Option.some.injEq] at hh
    rw [badLen, if_neg (by rw [hh]; exact hc)]
    rfl
theorem badLen_quote (s : ByteArray) (h : 0 < s.size) (hc : ((s[0]'h).toNat : Int) = 34) : badLen (sb s) = run noNl (sb s) := by
  have hh := head_at s h
  revert hh
  cases sb s with
  | nil => intro hh; simp at hh
  | cons c r =>
    intro hh
    simp only [List.head?_cons, Option.some.injEq] at hh
    rw [badLen, if_pos (by rw [hh]; exact hc)]
set_option maxRecDepth 100000 in
set_option maxHeartbeats 1000000 in
theorem endsbad_any (s : ByteArray) (hs : s.size ≤ 100000) (h0 : 0 < s.size) (w : World) (hT : LexT w) :
    Calls Tryd.prog 130 #[.string s] w fun e w' => e = .returned (.bool (endB (sb s))) ∧ Below w.heap.size w w' := by
  have hE := endB_at s h0
  have hp0 : (0 : Nat) < s.size := h0
  have c0 := fun W h => proper_any s hs h0 W h
  unfold PropP at c0
  obtain ⟨k, hk⟩ : ∃ k, (prop (sb s)).1 = k := ⟨_, rfl⟩
  obtain ⟨n, hn⟩ : ∃ n, (prop (sb s)).2 = n := ⟨_, rfl⟩
  rw [hk, hn] at c0
  rw [hn] at hE
  obtain ⟨c, hc⟩ : ∃ c : Int, ((s[0]'h0).toNat : Int) = c := ⟨_, rfl⟩
  rw [hc] at hE
  rw [hE]
  have C0 := Lib.hid c0
  have HT := Lib.hid hT
  clear c0 hE hk hn hT
  by_cases q : c = 34
  · have Q : (c == 34) = true := beq_iff_eq.2 q
    rw [Q, Bool.true_or]
    clear q
    go_enter Tryd.func130, Tryd.ntmps130
    go_wp2
    go_ret
    exact ⟨rfl, Below.refl _ _⟩
  · have Q : (c == 34) = false := beq_eq_false_iff_ne.2 q
    rw [Q, Bool.false_or]
    have hd : decide ((0 : Int) < (n : Int)) = decide (0 < n) := by
      by_cases h : 0 < n
      · rw [decide_eq_true h, decide_eq_true (by omega)]
      · rw [decide_eq_false h, decide_eq_false (by omega)]
    obtain ⟨b, hb⟩ : ∃ b, decide (0 < n) = b := ⟨_, rfl⟩
    rw [hb]
    have HBb := Lib.hid hb
    clear q hb hd
    go_enter Tryd.func130, Tryd.ntmps130
    go_wp2_with fail
    refine (C0.out _ HT.out).mono ?_
    rintro e w' ⟨rfl, hb2⟩
    have HB := Lib.hid hb2
    clear hb2
    go_wp2
    go_ret
    exact ⟨by rw [← HBb.out]; rfl, HB.out⟩
set_option maxRecDepth 100000 in
set_option maxHeartbeats 2000000 in
theorem badlen_any (s : ByteArray) (hs : s.size ≤ 100000) (h0 : 0 < s.size) (w : World) (hT : LexT w) :
    Calls Tryd.prog 102 #[.string s] w fun e w' => e = .returned (.int .i64 (badLen (sb s) : Int)) ∧ Below w.heap.size w w' := by
  have hp0 : (0 : Nat) < s.size := h0
  by_cases q : ((s[0]'h0).toNat : Int) = 34
  · have c0 := fun W => line_any s W hs
    rw [← badLen_quote s h0 q] at c0
    obtain ⟨R, hR⟩ : ∃ R, badLen (sb s) = R := ⟨_, rfl⟩
    rw [hR] at c0 ⊢
    have C0 := Lib.hid c0
    obtain ⟨c, hc⟩ : ∃ c : Int, ((s[0]'h0).toNat : Int) = c := ⟨_, rfl⟩
    rw [hc] at q
    have Q : (c == 34) = true := beq_iff_eq.2 q
    clear c0 q hR
    go_enter Tryd.func102, Tryd.ntmps102
    go_wp2_with (first | (go_at_call 122; refine (C0.out _).mono ?_; rintro e w' ⟨rfl, hb⟩; have HB := Lib.hid hb; clear hb))
    go_ret
    exact ⟨rfl, HB.out⟩
  · have hL := badLen_at s h0 q
    have HBR : Hid (∀ n : Nat, 1 ≤ n → (∀ j, 1 ≤ j → j < n → j < s.size ∧ endB ((sb s).drop j) = false) → (n = s.size ∨ endB ((sb s).drop n) = true) → badLen (sb s) = n) := Lib.hid fun n h1 h2 h3 => by
      have hd : ∀ j, (sb s).tail.drop j = (sb s).drop (j + 1) := fun j => by rw [← List.drop_one, List.drop_drop, Nat.add_comm]
      have hl : (sb s).tail.length = s.size - 1 := by rw [List.length_tail, sb_len]
      rw [hL, badRun_is (sb s).tail (n - 1) (fun j hj => by
        have := h2 (j + 1) (by omega) (by omega)
        rw [hd, hl]
        exact ⟨by omega, this.2⟩) (by
        rw [hd, hl, show n - 1 + 1 = n by omega]
        rcases h3 with h3 | h3
        · exact .inl (by omega)
        · exact .inr h3)]
      omega
    obtain ⟨R, hR⟩ : ∃ R, badLen (sb s) = R := ⟨_, rfl⟩
    rw [hR] at HBR ⊢
    obtain ⟨c, hc⟩ : ∃ c : Int, ((s[0]'h0).toNat : Int) = c := ⟨_, rfl⟩
    rw [hc] at q
    have Q : (c == 34) = false := beq_eq_false_iff_ne.2 q
    have HT := Lib.hid hT
    clear q hR hL hT
    go_enter Tryd.func102, Tryd.ntmps102
    go_wp2
    go_loopw [3] (fun v wr => ∃ n : Nat, 1 ≤ n ∧ n ≤ s.size ∧ v = .int .i64 (n : Int) ∧ Hid (∀ j, 1 ≤ j → j < n → j < s.size ∧ endB ((sb s).drop j) = false) ∧ Hid (Below w.heap.size w wr)) (fun v _ => s.size - (RowKit.intOf v).toNat)
    case atStart => exact ⟨1, Nat.le_refl _, h0, rfl, Lib.hid fun j h1 h2 => absurd h2 (by omega), Lib.hid (Below.refl _ _)⟩
    case round =>
      obtain ⟨n, hn1, hns, rfl, HN, HB⟩ := hrel
      by_cases hlt : n < s.size
      · have hltz : (n : Int) < (s.size : Int) := by omega
        have g0 : (0 : Int) ≤ (n : Int) := by omega
        have g1 : (n : Int) ≤ (s.size : Int) := by omega
        obtain ⟨u, hu⟩ : ∃ u, s.extract n s.size = u := ⟨_, rfl⟩
        have huz : u.size = s.size - n := by rw [← hu, ByteArray.size_extract]; omega
        have hus : sb u = (sb s).drop n := by rw [← hu, sbExt, ← sb_len, List.take_length]
        have c0 := fun W h => endsbad_any u (by omega) (by omega) W h
        rw [hus] at c0
        have HT2 : Hid (LexT wr) := Lib.hid (HT.out.below HB.out)
        by_cases hb : endB ((sb s).drop n) = true
        · rw [hb] at c0
          have C0 := Lib.hid c0
          have HE := Lib.hid (HBR.out n hn1 HN.out (.inr hb))
          clear c0 hus huz hb
          go_wp2_with (first | (go_at_call 130; refine (C0.out _ HT2.out).mono ?_; rintro e w' ⟨rfl, hb2⟩; have HB2 := Lib.hid (HB.out.trans (hb2.mono HB.out.size)); clear hb2))
          go_ret
          rw [HE.out]
          exact ⟨rfl, HB2.out⟩
        · have hbf : endB ((sb s).drop n) = false := by simpa using hb
          rw [hbf] at c0
          have C0 := Lib.hid c0
          have HN2 : Hid (∀ j, 1 ≤ j → j < n + 1 → j < s.size ∧ endB ((sb s).drop j) = false) := Lib.hid fun j h1 h2 => by
            by_cases e : j = n
            · subst e; exact ⟨hlt, hbf⟩
            · exact HN.out j h1 (by omega)
          clear c0 hus huz hb hbf
          go_wp2_with (first | (go_at_call 130; refine (C0.out _ HT2.out).mono ?_; rintro e w' ⟨rfl, hb2⟩; have HB2 := Lib.hid (HB.out.trans (hb2.mono HB.out.size)); clear hb2))
          go_roundw
          case rel => exact ⟨n + 1, by omega, by omega, by go_num, HN2, HB2⟩
          case measure => simp only [RowKit.intOf, Int.toNat_natCast]; omega
      · have hnz : n = s.size := by omega
        have HE := Lib.hid (HBR.out n hn1 HN.out (.inl hnz))
        have hltz : ¬ (n : Int) < (s.size : Int) := by omega
        clear hnz
        go_wp2
        go_ret
        rw [HE.out]
        exact ⟨rfl, HB.out⟩
/-- What first hands back. -/
def FstP (s : ByteArray) (w : World) (e : Ending) (w' : World) : Prop :=
  e = .returned (.tuple #[.int .i64 (fst_ (sb s)).1, .int .i64 ((fst_ (sb s)).2 : Int)]) ∧ Below w.heap.size w w'
set_option maxRecDepth 100000 in
set_option maxHeartbeats 1000000 in
theorem first_any (s : ByteArray) (hs : s.size ≤ 100000) (h0 : 0 < s.size) (w : World) (hT : LexT w) :
    Calls Tryd.prog 76 #[.string s] w (FstP s w) := by
  have c0 := fun W h => proper_any s hs h0 W h
  unfold PropP at c0
  have d0 := fun W h => badlen_any s hs h0 W h
  have hF : fst_ (sb s) = if 0 < (prop (sb s)).2 then prop (sb s) else (8, badLen (sb s)) := rfl
  obtain ⟨⟨k, n⟩, hk⟩ : ∃ x, prop (sb s) = x := ⟨_, rfl⟩
  obtain ⟨R, hR⟩ : ∃ R, badLen (sb s) = R := ⟨_, rfl⟩
  rw [hk] at c0 hF
  rw [hR] at hF d0
  simp only at c0 hF
  unfold FstP
  have C0 := Lib.hid c0
  have D0 := Lib.hid d0
  have HT := Lib.hid hT
  clear c0 d0 hk hR hT
  by_cases h : 0 < n
  · rw [if_pos h] at hF
    rw [hF]
    have hz : (0 : Int) < (n : Int) := by omega
    clear hF h
    go_enter Tryd.func76, Tryd.ntmps76
    go_wp2_with fail
    refine (C0.out _ HT.out).mono ?_
    rintro e w' ⟨rfl, hb⟩
    have HB := Lib.hid hb
    clear hb
    go_wp2
    go_ret2
    exact ⟨rfl, HB.out⟩
  · rw [if_neg h] at hF
    rw [hF]
    have hz : ¬ (0 : Int) < (n : Int) := by omega
    clear hF h
    go_enter Tryd.func76, Tryd.ntmps76
    go_wp2_with fail
    refine (C0.out _ HT.out).mono ?_
    rintro e w1 ⟨rfl, hb⟩
    have HB := Lib.hid hb
    have HT1 := Lib.hid (HT.out.below hb)
    clear hb
    go_wp2_with (first | (go_at_call 102; refine (D0.out _ HT1.out).mono ?_; rintro e w' ⟨rfl, hb2⟩; have HB2 := Lib.hid (HB.out.trans (hb2.mono HB.out.size)); clear hb2))
    go_ret2
    exact ⟨rfl, HB2.out⟩

end Go.Proofs.YtgfhhpodcnohpaaDoor
