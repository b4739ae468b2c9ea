/- The walk of EditNests. It has no conditions. -/
import Derived.Test.YtfhpllcdlejfjaaECq
namespace Go.Proofs.Ytfhpllcdlejfjaa
open Go.RowKit Go.Shelf
set_option linter.unusedVariables false

/-- A composition of valid edits of small texts: no error. -/
theorem nest_any (s : ByteArray) (xs ys : List Er) (hs : s.size ≤ 1000) (hx : vErr (s.size : Int) xs = 0) (hy : vErr ((apS s xs).size : Int) ys = 0) (ht : (apS s xs).size ≤ 1000) (hu : (apS (apS s xs) ys).size ≤ 1000)
    (hl : xs.length + ys.length + 3 ≤ 64) (h1 : ∀ e ∈ xs, e.x.size ≤ 1000) (h2 : ∀ e ∈ ys, e.x.size ≤ 1000) :
    ∀ (W : World) (ax ay : Option Addr) (cx cy : Nat), ES W.heap.size W ax cx xs → ES W.heap.size W ay cy ys →
      Calls Try.prog 19 #[.string s, .slice ax xs.length cx, .slice ay ys.length cy] W fun e w' =>
        ∃ az cz, e = .returned (.tuple #[.slice az (cmS s xs ys).length cz, .int .i64 0]) ∧ ES w'.heap.size w' az cz (cmS s xs ys) ∧ Below W.heap.size W w' := by
  intro W ax ay cx cy e1 e2
  have := pcompose_any s ax ay cx cy xs ys W (by omega) (by omega) (by omega) (by omega) (by omega) (fit_of hx (by omega) (fun e he => by have := h1 e he; omega)) (fit_of hy (by omega) (fun e he => by have := h2 e he; omega)) e1 e2
  rw [(comp_ok hx hy hl).1] at this
  exact this

set_option maxRecDepth 100000 in
set_option maxHeartbeats 8000000 in
theorem walkNests (s : ByteArray) (hs : s.size ≤ 9223372036854775807) (a1 : Option Addr) (cap1 : Nat) (l1 : List Int) (a2 : Option Addr) (cap2 : Nat) (l2 : List Int) (a3 : Option Addr) (cap3 : Nat) (l3 : List Int) (w : World)
    (h1 : Sli .i64 w a1 cap1 l1) (hi1 : ∀ n ∈ l1, -9223372036854775808 ≤ n ∧ n ≤ 9223372036854775807) (h2 : Sli .i64 w a2 cap2 l2) (hi2 : ∀ n ∈ l2, -9223372036854775808 ≤ n ∧ n ≤ 9223372036854775807) (h3 : Sli .i64 w a3 cap3 l3) (hi3 : ∀ n ∈ l3, -9223372036854775808 ≤ n ∧ n ≤ 9223372036854775807) :
    Calls Try.prog 7 #[.string s, .slice a1 l1.length cap1, .slice a2 l2.length cap2, .slice a3 l3.length cap3] w fun e w' => e = .returned (.bool true) ∧ Below w.heap.size w w' := by
  obtain ⟨t, ht⟩ : ∃ t, shS s 40 = t := ⟨_, rfl⟩
  have htl : t.size ≤ 40 := by rw [← ht]; exact shS_size s 40
  have cS := fun W => short_any s 40 W hs (by omega)
  rw [ht] at cS
  obtain ⟨n1, hn1⟩ : ∃ n, l1.length = n := ⟨_, rfl⟩
  obtain ⟨n2, hn2⟩ : ∃ n, l2.length = n := ⟨_, rfl⟩
  obtain ⟨n3, hn3⟩ : ∃ n, l3.length = n := ⟨_, rfl⟩
  have s1 : SlI w.heap.size w a1 n1 := by have := SlI.of h1 hi1; rwa [hn1] at this
  have s2 : SlI w.heap.size w a2 n2 := by have := SlI.of h2 hi2; rwa [hn2] at this
  have s3 : SlI w.heap.size w a3 n3 := by have := SlI.of h3 hi3; rwa [hn3] at this
  have g1 : n1 ≤ cap1 := by have := h1.le; omega
  have g2 : n2 ≤ cap2 := by have := h2.le; omega
  have g3 : n3 ≤ cap3 := by have := h3.le; omega
  have m1 := h1.mx
  have m2 := h2.mx
  have m3 := h3.mx
  have cR := raw_any t a1 n1 cap1 w (by omega) s1 g1 m1
  rw [hn1, hn2, hn3]
  have CS := Lib.hid cS; have CR := Lib.hid cR; have S2 := Lib.hid s2; have S3 := Lib.hid s3
  clear cS cR ht h1 h2 h3 hi1 hi2 hi3 s1 s2 s3
  go_enter Try.func7, Try.ntmps7
  go_wp2_with fail
  refine (CS.out _).mono ?_
  rintro e w' ⟨rfl, rfl⟩
  go_wp2_with fail
  refine CR.out.mono ?_
  rintro e w1 ⟨xs, v1, rfl, hx1, hx2, hx3, hown1, hb1⟩
  obtain ⟨_, ax, cx, rfl, hX⟩ := es_of_own hown1
  have fx := fun e he => (hx3 e he).1
  have zx := apS_size (c := 7) hx2 fx
  obtain ⟨T, hT⟩ : ∃ z, apS t xs = z := ⟨_, rfl⟩
  have zT : T.size ≤ 75 := by rw [hT] at zx; have := Nat.mul_le_mul_left 7 hx1; omega
  have P1 := papply_any t ax cx xs w1 (by omega) (by omega) (fit_of hx2 (by omega) (fun e he => by have := fx e he; omega)) hX
  rw [hx2, hT] at P1
  have HX := Lib.hid hX; have B1 := Lib.hid hb1; have HX2 := Lib.hid hx2; have FX := Lib.hid fx; have HT := Lib.hid hT; have HP1 := Lib.hid P1
  clear hown1 hX hb1 hx3 hx2 fx zx hT P1
  go_wp2_with fail
  refine HP1.out.mono ?_
  rintro e w2 ⟨rfl, b2⟩
  have K2 := Lib.hid b2; have B2 := Lib.hid (B1.out.trans (b2.mono B1.out.size))
  have cR2 := raw_any T a2 n2 cap2 w2 (by omega) (S2.out.on B2.out) g2 m2
  have CR2 := Lib.hid cR2
  clear b2 cR2
  go_wp2_with fail
  refine CR2.out.mono ?_
  rintro e w3 ⟨ys, v3, rfl, hy1, hy2, hy3, hown3, hb3⟩
  obtain ⟨_, ay, cy, rfl, hY⟩ := es_of_own hown3
  have fy := fun e he => (hy3 e he).1
  have zy := apS_size (c := 7) hy2 fy
  obtain ⟨U, hU⟩ : ∃ z, apS T ys = z := ⟨_, rfl⟩
  have zU : U.size ≤ 110 := by rw [hU] at zy; have := Nat.mul_le_mul_left 7 hy1; omega
  have P3 := papply_any T ay cy ys w3 (by omega) (by omega) (fit_of hy2 (by omega) (fun e he => by have := fy e he; omega)) hY
  rw [hy2, hU] at P3
  have HY := Lib.hid hY; have K3 := Lib.hid (K2.out.trans (hb3.mono K2.out.size)); have B3 := Lib.hid (B2.out.trans (hb3.mono B2.out.size)); have HY2 := Lib.hid hy2; have FY := Lib.hid fy; have HU := Lib.hid hU; have HP3 := Lib.hid P3
  clear hown3 hY hb3 hy3 hy2 fy zy hU P3
  go_wp2_with fail
  refine HP3.out.mono ?_
  rintro e w4 ⟨rfl, b4⟩
  have K4 := Lib.hid (K3.out.trans (b4.mono K3.out.size)); have B4 := Lib.hid (B3.out.trans (b4.mono B3.out.size)); have Y4 := Lib.hid b4
  have cR3 := raw_any U a3 n3 cap3 w4 (by omega) (S3.out.on B4.out) g3 m3
  have CR3 := Lib.hid cR3
  clear b4 cR3
  go_wp2_with fail
  refine CR3.out.mono ?_
  rintro e w5 ⟨zs, v5, rfl, hz1, hz2, hz3, hown5, hb5⟩
  obtain ⟨_, az, cz, rfl, hZ⟩ := es_of_own hown5
  have fz := fun e he => (hz3 e he).1
  have zz := apS_size (c := 7) hz2 fz
  obtain ⟨V, hV⟩ : ∃ z, apS U zs = z := ⟨_, rfl⟩
  have zV : V.size ≤ 145 := by rw [hV] at zz; have := Nat.mul_le_mul_left 7 hz1; omega
  have P5 := papply_any U az cz zs w5 (by omega) (by omega) (fit_of hz2 (by omega) (fun e he => by have := fz e he; omega)) hZ
  rw [hz2, hV] at P5
  -- the compositions
  have q1 := comp_ok (s := t) (a := xs) (b := ys) HX2.out (by rw [HT.out]; exact HY2.out) (by omega)
  have q2 := comp_ok (s := T) (a := ys) (b := zs) HY2.out (by rw [HU.out]; exact hz2) (by omega)
  obtain ⟨A, hA⟩ : ∃ z, cmS t xs ys = z := ⟨_, rfl⟩
  obtain ⟨C, hC⟩ : ∃ z, cmS T ys zs = z := ⟨_, rfl⟩
  rw [hA, HT.out, HU.out] at q1
  rw [hC, HU.out, hV] at q2
  obtain ⟨qa8, qa9, qa1, qa2, qa3, qa4⟩ := q1
  obtain ⟨qc8, qc9, qc1, qc2, qc3, qc4⟩ := q2
  have q3 := comp_ok (s := t) (a := A) (b := zs) qa1 (by rw [qa2]; exact hz2) (by omega)
  have q4 := comp_ok (s := t) (a := xs) (b := C) HX2.out (by rw [HT.out]; exact qc1) (by omega)
  obtain ⟨D, hD⟩ : ∃ z, cmS t A zs = z := ⟨_, rfl⟩
  obtain ⟨E, hE⟩ : ∃ z, cmS t xs C = z := ⟨_, rfl⟩
  rw [hD, qa2, hV] at q3
  rw [hE, HT.out, qc2] at q4
  obtain ⟨qd8, qd9, qd1, qd2, qd3, qd4⟩ := q3
  obtain ⟨qe8, qe9, qe1, qe2, qe3, qe4⟩ := q4
  have N1 := nest_any t xs ys (by omega) HX2.out (by rw [HT.out]; exact HY2.out) (by rw [HT.out]; omega) (by rw [HT.out, HU.out]; omega) (by omega) (fun e he => by have := FX.out e he; omega) (fun e he => by have := FY.out e he; omega)
  have N2 := nest_any T ys zs (by omega) HY2.out (by rw [HU.out]; exact hz2) (by rw [HU.out]; omega) (by rw [HU.out, hV]; omega) (by omega) (fun e he => by have := FY.out e he; omega) (fun e he => by have := fz e he; omega)
  have N3 := nest_any t A zs (by omega) qa1 (by rw [qa2]; exact hz2) (by rw [qa2]; omega) (by rw [qa2, hV]; omega) (by omega) (fun e he => by have := qa4 e he; omega) (fun e he => by have := fz e he; omega)
  have N4 := nest_any t xs C (by omega) HX2.out (by rw [HT.out]; exact qc1) (by rw [HT.out]; omega) (by rw [HT.out, qc2]; omega) (by omega) (fun e he => by have := FX.out e he; omega) (fun e he => by have := qc4 e he; omega)
  rw [hA] at N1
  rw [hC] at N2
  rw [hD] at N3
  rw [hE] at N4
  have P11 := fun W ad cd (h : ES W.heap.size W ad cd D) => papply_any t ad cd D W (by omega) (by omega) (fit_of qd1 (by omega) (fun e he => by have := qd4 e he; omega)) h
  have P12 := fun W ad cd (h : ES W.heap.size W ad cd E) => papply_any t ad cd E W (by omega) (by omega) (fit_of qe1 (by omega) (fun e he => by have := qe4 e he; omega)) h
  simp only [qd1, qd2] at P11
  simp only [qe1, qe2] at P12
  obtain ⟨o1, o2, o3, o4⟩ := iv_ok HX2.out
  obtain ⟨I, hI⟩ : ∃ z, ivS t xs = z := ⟨_, rfl⟩
  obtain ⟨j8, j2⟩ := comp_inv (s := t) (a := xs) HX2.out (by omega)
  rw [hI] at o1 o2 o3 o4 j2
  have N5 := nest_any t xs I (by omega) HX2.out o1 (by rw [HT.out]; omega) (by rw [o2]; omega) (by omega) (fun e he => by have := FX.out e he; omega) (fun e he => by have := o4 e he; omega)
  rw [j2] at N5
  have P13 := fun W ad cd (h : ES W.heap.size W ad cd xs) => pinvert_any t ad cd xs W (by omega) (by omega) (fit_of HX2.out (by omega) (fun e he => by have := FX.out e he; omega)) h
  simp only [hI, HX2.out] at P13
  simp only [List.length_nil] at N5
  have HN1 := Lib.hid N1; have HN2 := Lib.hid N2; have HN3 := Lib.hid N3; have HN4 := Lib.hid N4; have HN5 := Lib.hid N5; have HP5 := Lib.hid P5; have HP11 := Lib.hid P11; have HP12 := Lib.hid P12; have HP13 := Lib.hid P13
  have HZ := Lib.hid hZ
  have K5 := Lib.hid (K4.out.trans (hb5.mono K4.out.size)); have B5 := Lib.hid (B4.out.trans (hb5.mono B4.out.size)); have Y5 := Lib.hid (Y4.out.trans (hb5.mono Y4.out.size))
  have t1 : (V.toList != V.toList) = false := by simp
  have t2 : (V.toList == V.toList) = true := by simp
  clear qa8 qa9 qc8 qc9 qd8 qd9 qe8 qe9 j8
  clear hown5 hZ hb5 hz3 hz2 fz zz hV P5 hA hC hD hE qa1 qa2 qa3 qa4 qc1 qc2 qc3 qc4 qd1 qd2 qd3 qd4 qe1 qe2 qe3 qe4 N1 N2 N3 N4 N5 P11 P12 P13 o1 o2 o3 o4 hI j2
  go_wp2_with fail
  refine HP5.out.mono ?_
  rintro e w6 ⟨rfl, b6⟩
  have K6 := Lib.hid (K5.out.trans (b6.mono K5.out.size)); have B6 := Lib.hid (B5.out.trans (b6.mono B5.out.size)); have Y6 := Lib.hid (Y5.out.trans (b6.mono Y5.out.size)); have Z6 := Lib.hid b6
  clear b6
  go_wp2_with fail
  refine (HN1.out _ _ _ _ _ (HX.out.on K6.out) (HY.out.on Y6.out)).mono ?_
  rintro e w7 ⟨aA, cA, rfl, eA, b7⟩
  have EA := Lib.hid eA
  have K7 := Lib.hid (K6.out.trans (b7.mono K6.out.size))
  have B7 := Lib.hid (B6.out.trans (b7.mono B6.out.size))
  have Y7 := Lib.hid (Y6.out.trans (b7.mono Y6.out.size))
  have Z7 := Lib.hid (Z6.out.trans (b7.mono Z6.out.size))
  clear b7 eA
  go_wp2_with fail
  refine (HN2.out _ _ _ _ _ (HY.out.on Y7.out) (HZ.out.on Z7.out)).mono ?_
  rintro e w8 ⟨aC, cC, rfl, eC, b8⟩
  have EC := Lib.hid eC
  have K8 := Lib.hid (K7.out.trans (b8.mono K7.out.size))
  have B8 := Lib.hid (B7.out.trans (b8.mono B7.out.size))
  have Y8 := Lib.hid (Y7.out.trans (b8.mono Y7.out.size))
  have Z8 := Lib.hid (Z7.out.trans (b8.mono Z7.out.size))
  have FA8 := Lib.hid b8
  clear b8 eC
  go_wp2_with fail
  refine (HN3.out _ _ _ _ _ (EA.out.on FA8.out) (HZ.out.on Z8.out)).mono ?_
  rintro e w9 ⟨aD, cD, rfl, eD, b9⟩
  have ED := Lib.hid eD
  have K9 := Lib.hid (K8.out.trans (b9.mono K8.out.size))
  have B9 := Lib.hid (B8.out.trans (b9.mono B8.out.size))
  have Y9 := Lib.hid (Y8.out.trans (b9.mono Y8.out.size))
  have Z9 := Lib.hid (Z8.out.trans (b9.mono Z8.out.size))
  have FC9 := Lib.hid b9
  clear b9 eD
  go_wp2_with fail
  refine (HN4.out _ _ _ _ _ (HX.out.on K9.out) (EC.out.on FC9.out)).mono ?_
  rintro e w10 ⟨aE, cE, rfl, eE, b10⟩
  have EE := Lib.hid eE
  have K10 := Lib.hid (K9.out.trans (b10.mono K9.out.size))
  have B10 := Lib.hid (B9.out.trans (b10.mono B9.out.size))
  have FD10 := Lib.hid b10
  clear b10 eE
  go_wp2_with fail
  refine (HP11.out _ _ _ (ED.out.on FD10.out)).mono ?_
  rintro e w11 ⟨rfl, b11⟩
  have K11 := Lib.hid (K10.out.trans (b11.mono K10.out.size))
  have B11 := Lib.hid (B10.out.trans (b11.mono B10.out.size))
  have FE11 := Lib.hid b11
  clear b11
  go_wp2_with fail
  refine (HP12.out _ _ _ (EE.out.on FE11.out)).mono ?_
  rintro e w12 ⟨rfl, b12⟩
  have K12 := Lib.hid (K11.out.trans (b12.mono K11.out.size))
  have B12 := Lib.hid (B11.out.trans (b12.mono B11.out.size))
  clear b12
  go_wp2_with fail
  refine (HP13.out _ _ _ (HX.out.on K12.out)).mono ?_
  rintro e w13 ⟨aI, cI, rfl, eI, b13⟩
  have EI := Lib.hid eI
  have K13 := Lib.hid (K12.out.trans (b13.mono K12.out.size))
  have B13 := Lib.hid (B12.out.trans (b13.mono B12.out.size))
  clear eI b13
  go_wp2_with fail
  refine (HN5.out _ _ _ _ _ (HX.out.on K13.out) (EI.out)).mono ?_
  rintro e w14 ⟨aN, cN, rfl, eN, b14⟩
  have EN := Lib.hid eN
  have B14 := Lib.hid (B13.out.trans (b14.mono B13.out.size))
  clear b14 eN
  go_wp2_with fail
  refine (lives_any _).mono ?_
  rintro e w15 ⟨rfl, b15⟩
  have B15 := Lib.hid (B14.out.trans (b15.mono B14.out.size))
  clear b15
  go_wp2_with fail
  go_ret
  exact ⟨rfl, B15.out⟩

end Go.Proofs.Ytfhpllcdlejfjaa
