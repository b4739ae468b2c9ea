/- The walk of EditCompose. It has no conditions. -/
import Derived.Test.YtfhpllcdlejfjaaELv
import Derived.Test.YtfhpllcdlejfjaaERc
import Derived.Test.YtfhpllcdlejfjaaEOp
import Derived.Test.YtfhpllcdlejfjaaECq
namespace Go.Proofs.Ytfhpllcdlejfjaa
open Go.RowKit Go.Shelf
set_option linter.unusedVariables false

theorem cmS_len (s : ByteArray) (a b : List Er) : (cmS s a b).length ≤ 64 := by
  unfold cmS
  split
  · rename_i h
    unfold cmE at h
    split at h
    · rename_i h1
      split at h
      · split at h
        · omega
        · rw [ers_len]; omega
      · rename_i h2; exact absurd h h2
    · rename_i h1; exact absurd h h1
  · simp
/-- The program's composition and the reference's, at any lists. -/
theorem both_any (s : ByteArray) (xs ys : List Er) (hs : s.size ≤ 900) (ht : (apS s xs).size ≤ 900) (hu : (apS (apS s xs) ys).size ≤ 900) (hn1 : xs.length ≤ 1000) (hn2 : ys.length ≤ 1000) (hf1 : ∀ e ∈ xs, e.Fit) (hf2 : ∀ e ∈ ys, e.Fit) :
    ∀ f, f = 19 ∨ f = 20 → ∀ (W : World) (ax ay : Option Addr) (cx cy : Nat), ES W.heap.size W ax cx xs → ES W.heap.size W ay cy ys →
      Calls Try.prog f #[.string s, .slice ax xs.length cx, .slice ay ys.length cy] W (NewES W (cmS s xs ys) (cmE s xs ys)) := by
  rintro f (rfl | rfl) W ax ay cx cy e1 e2
  · exact pcompose_any s ax ay cx cy xs ys W (by omega) (by omega) (by omega) hn1 hn2 hf1 hf2 e1 e2
  · exact rcompose_any s ax ay cx cy xs ys W hs ht hu hn1 hn2 hf1 hf2 e1 e2
theorem apS_any {c : Nat} {s : ByteArray} {es : List Er} (hx : ∀ e ∈ es, e.x.size ≤ c) : (apS s es).size ≤ s.size + c * es.length := by
  by_cases hv : vErr (s.size : Int) es = 0
  · exact apS_size hv hx
  · rw [apS_bad hv]; exact Nat.zero_le _

set_option maxRecDepth 100000 in
set_option maxHeartbeats 8000000 in
theorem walkCompose (s : ByteArray) (hs : s.size ≤ 9223372036854775807) (a1 : Option Addr) (cap1 : Nat) (l1 : List Int) (a2 : Option Addr) (cap2 : Nat) (l2 : List Int) (a3 : Option Addr) (cap3 : Nat) (es : List Er) (w : World)
    (h1 : Sli .i64 w a1 cap1 l1) (hi1 : ∀ n ∈ l1, -9223372036854775808 ≤ n ∧ n ≤ 9223372036854775807) (h2 : Sli .i64 w a2 cap2 l2) (hi2 : ∀ n ∈ l2, -9223372036854775808 ≤ n ∧ n ≤ 9223372036854775807) (hbig : ∀ e ∈ es, e.Big) (hE : ES w.heap.size w a3 cap3 es) :
    Calls Try.prog 6 #[.string s, .slice a1 l1.length cap1, .slice a2 l2.length cap2, .slice a3 es.length cap3] w fun e w' => e = .returned (.bool true) ∧ Below w.heap.size w w' := by
  obtain ⟨t, ht⟩ : ∃ t, shS s 60 = t := ⟨_, rfl⟩
  have htl : t.size ≤ 60 := by rw [← ht]; exact shS_size s 60
  have cS := fun W => short_any s 60 W hs (by omega)
  rw [ht] at cS
  obtain ⟨n1, hn1⟩ : ∃ n, l1.length = n := ⟨_, rfl⟩
  obtain ⟨n2, hn2⟩ : ∃ n, l2.length = n := ⟨_, rfl⟩
  obtain ⟨n3, hn3⟩ : ∃ n, es.length = n := ⟨_, rfl⟩
  have s1 : SlI w.heap.size w a1 n1 := by have := SlI.of h1 hi1; rwa [hn1] at this
  have s2 : SlI w.heap.size w a2 n2 := by have := SlI.of h2 hi2; rwa [hn2] at this
  have g1 : n1 ≤ cap1 := by have := h1.le; omega
  have g2 : n2 ≤ cap2 := by have := h2.le; omega
  have m1 := h1.mx
  have m2 := h2.mx
  have cR := raw_any t a1 n1 cap1 w (by omega) s1 g1 m1
  have cF : Hid (∀ W, Below w.heap.size w W → Calls Try.prog 15 #[.slice a3 n3 cap3, .int .i64 4] W fun e w' => ∃ v, e = .returned v ∧ w'.ownsRow W.heap.size 32 3 v (fewE es 4).length (rv (fewE es 4)) ∧ Below W.heap.size W w') := by
    intro W hW
    have := few_any a3 cap3 4 es W (by omega) hbig (hE.on hW)
    rwa [hn3] at this
  have hfit6 := fewE_fit (m := 4) hbig
  have hl6 : (fewE es 4).length ≤ 4 := by rw [fewE_len]; exact Nat.min_le_left _ _
  obtain ⟨F, hf0⟩ : ∃ f, fewE es 4 = f := ⟨_, rfl⟩
  rw [hf0] at cF hfit6 hl6
  rw [hn1, hn2, hn3]
  have CS := Lib.hid cS; have CR := Lib.hid cR; have S2 := Lib.hid s2; have HF6 := Lib.hid hfit6
  clear cS cR ht h1 h2 hi1 hi2 s1 s2 hE hbig hf0 hfit6 hn1 hn2 hn3
  go_enter Try.func6, Try.ntmps6
  go_wp2_with fail
  refine (CS.out _).mono ?_
  rintro e w' ⟨rfl, rfl⟩
  go_wp2_with fail
  refine CR.out.mono ?_
  rintro e w1 ⟨xs, v1, rfl, hx1, hx2, hx3, hown1, hb1⟩
  obtain ⟨_, ax, cx, rfl, hX⟩ := es_of_own hown1
  have fx := fun e he => (hx3 e he).1
  have zx := apS_size (c := 7) hx2 fx
  obtain ⟨T, hT⟩ : ∃ z, apS t xs = z := ⟨_, rfl⟩
  have zT : T.size ≤ 95 := by rw [hT] at zx; have := Nat.mul_le_mul_left 7 hx1; omega
  have P1 := papply_any t ax cx xs w1 (by omega) (by omega) (fit_of hx2 (by omega) (fun e he => by have := fx e he; omega)) hX
  rw [hx2, hT] at P1
  have HX := Lib.hid hX; have B1 := Lib.hid hb1; have HX2 := Lib.hid hx2; have FX := Lib.hid fx; have HT := Lib.hid hT; have HP1 := Lib.hid P1
  clear hown1 hX hb1 hx3 hx2 fx zx hT P1
  go_wp2_with fail
  refine HP1.out.mono ?_
  rintro e w2 ⟨rfl, b2⟩
  have K2 := Lib.hid b2; have B2 := Lib.hid (B1.out.trans (b2.mono B1.out.size))
  have cR2 := raw_any T a2 n2 cap2 w2 (by omega) (S2.out.on B2.out) g2 m2
  have CR2 := Lib.hid cR2
  clear b2 cR2
  go_wp2_with fail
  refine CR2.out.mono ?_
  rintro e w3 ⟨ys, v3, rfl, hy1, hy2, hy3, hown3, hb3⟩
  obtain ⟨_, ay, cy, rfl, hY⟩ := es_of_own hown3
  have fy := fun e he => (hy3 e he).1
  have zy := apS_size (c := 7) hy2 fy
  obtain ⟨U, hU⟩ : ∃ z, apS T ys = z := ⟨_, rfl⟩
  have zU : U.size ≤ 130 := by rw [hU] at zy; have := Nat.mul_le_mul_left 7 hy1; omega
  have P3 := papply_any T ay cy ys w3 (by omega) (by omega) (fit_of hy2 (by omega) (fun e he => by have := fy e he; omega)) hY
  rw [hy2, hU] at P3
  -- the compositions
  have fitx := fit_of HX2.out (by omega) (fun e he => by have := FX.out e he; omega)
  have fity := fit_of hy2 (by omega) (fun e he => by have := fy e he; omega)
  have q1 := comp_ok (s := t) (a := xs) (b := ys) HX2.out (by rw [HT.out]; exact hy2) (by omega)
  have N1 := both_any t xs ys (by omega) (by rw [HT.out]; omega) (by rw [HT.out, hU]; omega) (by omega) (by omega) fitx fity
  rw [q1.1] at N1
  obtain ⟨C, hC⟩ : ∃ z, cmS t xs ys = z := ⟨_, rfl⟩
  rw [hC, HT.out, hU] at q1
  rw [hC] at N1
  obtain ⟨qa8, qa9, qa1, qa2, qa3, qa4⟩ := q1
  have P6 := fun W ad cd (h : ES W.heap.size W ad cd C) => papply_any t ad cd C W (by omega) (by omega) (fit_of qa1 (by omega) (fun e he => by have := qa4 e he; omega)) h
  simp only [qa1, qa2] at P6
  have ff : ∀ e ∈ F, e.Fit := fun e he => (HF6.out e he).1
  have f8 : ∀ e ∈ F, e.x.size ≤ 8 := fun e he => (HF6.out e he).2
  have u1 := apS_any (s := T) f8
  have u2 := apS_any (s := t) f8
  have u3 := apS_any (s := apS t F) fy
  have u4 := Nat.mul_le_mul_left 8 hl6
  have u5 := Nat.mul_le_mul_left 7 hy1
  have N2 := both_any t xs F (by omega) (by rw [HT.out]; omega) (by rw [HT.out]; omega) (by omega) (by omega) fitx ff
  have N3 := both_any t F ys (by omega) (by omega) (by omega) (by omega) (by omega) ff fity
  have l2 := cmS_len t xs F
  have l3 := cmS_len t F ys
  obtain ⟨X, hXX⟩ : ∃ z, cmS t xs F = z := ⟨_, rfl⟩
  obtain ⟨Z, hZZ⟩ : ∃ z, cmS t F ys = z := ⟨_, rfl⟩
  obtain ⟨e2, he2⟩ : ∃ z, cmE t xs F = z := ⟨_, rfl⟩
  obtain ⟨e3, he3⟩ : ∃ z, cmE t F ys = z := ⟨_, rfl⟩
  rw [hXX, he2] at N2
  rw [hZZ, he3] at N3
  rw [hXX] at l2
  rw [hZZ] at l3
  have HN1 := Lib.hid N1; have HN2 := Lib.hid N2; have HN3 := Lib.hid N3; have HP3 := Lib.hid P3; have HP6 := Lib.hid P6
  have HY := Lib.hid hY
  have K3 := Lib.hid (K2.out.trans (hb3.mono K2.out.size)); have B3 := Lib.hid (B2.out.trans (hb3.mono B2.out.size))
  have t1 : (U.toList != U.toList) = false := by simp
  have t2 : (U.toList == U.toList) = true := by simp
  have t3 : (e2 == e2) = true := by simp
  have t4 : (e3 == e3) = true := by simp
  clear hown3 hY hb3 hy3 hy2 fy zy hU P3 fitx fity hC qa8 qa9 qa1 qa2 qa4 P6 ff f8 u1 u2 u3 u4 u5 N1 N2 N3 hXX hZZ he2 he3
  go_wp2_with fail
  refine HP3.out.mono ?_
  rintro e w4 ⟨rfl, b4⟩
  have K4 := Lib.hid (K3.out.trans (b4.mono K3.out.size)); have B4 := Lib.hid (B3.out.trans (b4.mono B3.out.size)); have Y4 := Lib.hid b4
  clear b4
  go_wp2_with fail
  refine (HN1.out _ (.inl rfl) _ _ _ _ _ (HX.out.on K4.out) (HY.out.on Y4.out)).mono ?_
  rintro e w5 ⟨aC, cC, rfl, eC, b5⟩
  have EC := Lib.hid eC
  have K5 := Lib.hid (K4.out.trans (b5.mono K4.out.size))
  have B5 := Lib.hid (B4.out.trans (b5.mono B4.out.size))
  have Y5 := Lib.hid (Y4.out.trans (b5.mono Y4.out.size))
  clear b5 eC
  go_wp2_with fail
  refine (HN1.out _ (.inr rfl) _ _ _ _ _ (HX.out.on K5.out) (HY.out.on Y5.out)).mono ?_
  rintro e w6 ⟨aD, cD, rfl, eD, b6⟩
  have ED := Lib.hid eD
  have K6 := Lib.hid (K5.out.trans (b6.mono K5.out.size))
  have B6 := Lib.hid (B5.out.trans (b6.mono B5.out.size))
  have Y6 := Lib.hid (Y5.out.trans (b6.mono Y5.out.size))
  have C6 := Lib.hid b6
  clear b6 eD
  go_wp2_with fail
  refine (HP6.out _ _ _ (EC.out.on C6.out)).mono ?_
  rintro e w7 ⟨rfl, b7⟩
  have K7 := Lib.hid (K6.out.trans (b7.mono K6.out.size))
  have B7 := Lib.hid (B6.out.trans (b7.mono B6.out.size))
  have Y7 := Lib.hid (Y6.out.trans (b7.mono Y6.out.size))
  have S1 := same_any aC aD cC cD C w7 (by omega) (EC.out.on (C6.out.trans (b7.mono C6.out.size))) (ED.out.on b7)
  have HS1 := Lib.hid S1
  clear b7 S1
  go_wp2_with fail
  refine HS1.out.mono ?_
  rintro e w8 ⟨rfl, b8⟩
  have K8 := Lib.hid (K7.out.trans (b8.mono K7.out.size))
  have B8 := Lib.hid (B7.out.trans (b8.mono B7.out.size))
  have Y8 := Lib.hid (Y7.out.trans (b8.mono Y7.out.size))
  clear b8
  go_wp2_with fail
  refine (cF.out _ B8.out).mono ?_
  rintro e w9 ⟨v9, rfl, hown9, b9⟩
  obtain ⟨_, af, cf, rfl, hF9⟩ := es_of_own hown9
  have EF := Lib.hid hF9
  have K9 := Lib.hid (K8.out.trans (b9.mono K8.out.size))
  have B9 := Lib.hid (B8.out.trans (b9.mono B8.out.size))
  have Y9 := Lib.hid (Y8.out.trans (b9.mono Y8.out.size))
  clear b9 hown9 hF9
  go_wp2_with fail
  refine (HN2.out _ (.inl rfl) _ _ _ _ _ (HX.out.on K9.out) EF.out).mono ?_
  rintro e w10 ⟨aX, cX, rfl, eX, b10⟩
  have EX := Lib.hid eX
  have K10 := Lib.hid (K9.out.trans (b10.mono K9.out.size))
  have B10 := Lib.hid (B9.out.trans (b10.mono B9.out.size))
  have Y10 := Lib.hid (Y9.out.trans (b10.mono Y9.out.size))
  have F10 := Lib.hid b10
  clear b10 eX
  go_wp2_with fail
  refine (HN2.out _ (.inr rfl) _ _ _ _ _ (HX.out.on K10.out) (EF.out.on F10.out)).mono ?_
  rintro e w11 ⟨aX2, cX2, rfl, eX2, b11⟩
  have EX2 := Lib.hid eX2
  have B11 := Lib.hid (B10.out.trans (b11.mono B10.out.size))
  have Y11 := Lib.hid (Y10.out.trans (b11.mono Y10.out.size))
  have F11 := Lib.hid (F10.out.trans (b11.mono F10.out.size))
  have X11 := Lib.hid b11
  clear b11 eX2
  go_wp2_with fail
  refine (HN3.out _ (.inl rfl) _ _ _ _ _ (EF.out.on F11.out) (HY.out.on Y11.out)).mono ?_
  rintro e w12 ⟨aZ, cZ, rfl, eZ, b12⟩
  have EZ := Lib.hid eZ
  have B12 := Lib.hid (B11.out.trans (b12.mono B11.out.size))
  have Y12 := Lib.hid (Y11.out.trans (b12.mono Y11.out.size))
  have F12 := Lib.hid (F11.out.trans (b12.mono F11.out.size))
  have X12 := Lib.hid (X11.out.trans (b12.mono X11.out.size))
  have X212 := Lib.hid b12
  clear b12 eZ
  go_wp2_with fail
  refine (HN3.out _ (.inr rfl) _ _ _ _ _ (EF.out.on F12.out) (HY.out.on Y12.out)).mono ?_
  rintro e w13 ⟨aZ2, cZ2, rfl, eZ2, b13⟩
  have EZ2 := Lib.hid eZ2
  have B13 := Lib.hid (B12.out.trans (b13.mono B12.out.size))
  have Z13 := Lib.hid b13
  have S2' := same_any aX aX2 cX cX2 X w13 (by omega) (EX.out.on (X12.out.trans (b13.mono X12.out.size))) (EX2.out.on (X212.out.trans (b13.mono X212.out.size)))
  have HS2 := Lib.hid S2'
  clear b13 eZ2 S2'
  go_wp2_with fail
  refine HS2.out.mono ?_
  rintro e w14 ⟨rfl, b14⟩
  have B14 := Lib.hid (B13.out.trans (b14.mono B13.out.size))
  have S3' := same_any aZ aZ2 cZ cZ2 Z w14 (by omega) (EZ.out.on (Z13.out.trans (b14.mono Z13.out.size))) (EZ2.out.on b14)
  have HS3 := Lib.hid S3'
  clear b14 S3'
  go_wp2_with fail
  refine HS3.out.mono ?_
  rintro e w15 ⟨rfl, b15⟩
  have B15 := Lib.hid (B14.out.trans (b15.mono B14.out.size))
  clear b15
  go_wp2_with fail
  refine (lives_any _).mono ?_
  rintro e w16 ⟨rfl, b16⟩
  have B16 := Lib.hid (B15.out.trans (b16.mono B15.out.size))
  clear b16
  go_wp2
  go_ret
  exact ⟨rfl, B16.out⟩

end Go.Proofs.Ytfhpllcdlejfjaa
