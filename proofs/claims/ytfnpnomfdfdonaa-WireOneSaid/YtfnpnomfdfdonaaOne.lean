/- For all byte slices and all encodings with one byte changed, if a sequence of reads succeeds up to the end, writing the values gives the same bytes (P2.7). It has no conditions. The frame below is the guide's shell. -/
import Derived.Test.YtfnpnomfdfdonaaRows
import Derived.Test.YtfnpnomfdfdonaaWLives
import Derived.Test.YtfnpnomfdfdonaaWOneM
import Derived.Test.YtfnpnomfdfdonaaFew
import Derived.Test.YtfnpnomfdfdonaaWf
import Derived.Test.YtfnpnomfdfdonaaSameBytes
import Derived.WalkKit
import Derived.ProofKit
import Derived.OpenShut
import Derived.ShutString
import Derived.ChangeOld
import Derived.Below
namespace Go.Proofs.Ytfnpnomfdfdonaa.wireOne
open Go.ChangeShapes Go.WideShapes Go.ChangeAt Go.RowKit
open Go.ChangeMaps (open_string shut_string)
set_option linter.unusedVariables false

theorem own : ownKnob Try.prog.godebug = none := by kernel_rfl
theorem laidOut : laidOutB Try.prog = true := by kernel_rfl

set_option maxRecDepth 100000 in
set_option maxHeartbeats 8000000 in
theorem walkB (a : Option Addr) (cap : Nat) (raw : List Int) (b : Option Addr) (capb : Nat) (ls : List Int) (at_ c : Int) (d : Option Addr) (capd : Nat) (ks : List Int) (w : World)
    (h : Sli .u8 w a cap raw) (hz : Byt raw) (h2 : Sli .i64 w b capb ls) (hi : I64 ls) (hn1 : -9223372036854775808 ≤ at_) (hn2 : at_ ≤ 9223372036854775807) (hc0 : 0 ≤ c) (hc1 : c ≤ 255) (h3 : Sli .i64 w d capd ks) (hk : I64 ks) :
    Calls Try.prog 6 #[.slice a raw.length cap, .slice b ls.length capb, .int .i64 at_, .int .u8 c, .slice d ks.length capd] w fun e w' => e = .returned (.bool true) ∧ Below w.heap.size w w' := by
  obtain ⟨iv, hiv, hv0, hv1, hv2⟩ := info_parts info28
  obtain ⟨B, hB⟩ : ∃ B, w.heap.size = B := ⟨_, rfl⟩
  obtain ⟨n4, hn4⟩ : ∃ n, ks.length = n := ⟨_, rfl⟩
  have hcore : ∃ bb off, (n4 = 0 ∨ (d = some ⟨bb, off, none⟩ ∧ bb < B)) ∧ ∀ j, j < n4 → w.cell? ⟨bb, off + j, none⟩ = some (.int .i64 (ks[j]?.getD 0)) := by
    rcases h3.cells with rfl | ⟨bb, off, ha, hlt, hcb⟩
    · exact ⟨0, 0, .inl (by simpa using hn4.symm), fun j hj => absurd hj (by simp at hn4; omega)⟩
    · exact ⟨bb, off, .inr ⟨ha, by omega⟩, fun j hj => hcb j (by omega)⟩
  obtain ⟨bb, off, hab, hcb⟩ := hcore
  have hle4 := h3.le
  have hmx4 := h3.mx
  rw [hn4] at hle4 ⊢
  have HAB := Lib.hid hab; have HCB := Lib.hid hcb; have HK := Lib.hid hk; have HRAW := Lib.hid (And.intro h hz)
  have c1 := vals_any b capb ls w h2 hi
  unfold ValsPost at c1
  rw [hB] at c1
  have C1 := Lib.hid c1; have HB := Lib.hid hB
  obtain ⟨n0, hn0⟩ : ∃ n, raw.length = n := ⟨_, rfl⟩
  have HN0 := Lib.hid hn0
  rw [hn0]
  clear c1 h h2 h3 hi hB hk hz hab hcb hn4 hn0
  go_enter Try.func6, Try.ntmps6
  go_wp2_with fail
  refine C1.out.mono ?_
  rintro e w1 ⟨ov, all, rfl, hvr, hvl, hvg, hbel⟩
  obtain ⟨A1, k1, rfl⟩ := hvr.slice
  obtain ⟨N, hN⟩ : ∃ N, all.length = N := ⟨_, rfl⟩
  have hel := encs_len hvg
  have hby := encs_byt hvg
  rw [hN] at hvl hel hvr ⊢
  have c2 := encode_any B A1 k1 all w1 (by rw [hN]; exact hvr) (fun v hv => (hvg v hv).fit) (by omega) (by omega)
  rw [hN] at c2
  obtain ⟨E, hE⟩ : ∃ E, encs all = E := ⟨_, rfl⟩
  rw [hE] at c2 hel hby
  obtain ⟨nE, hnE⟩ : ∃ n, E.length = n := ⟨_, rfl⟩
  rw [hnE] at hel
  have C2 := Lib.hid c2; have HGD := Lib.hid hvg; have HN := Lib.hid hN; have HnE := Lib.hid hnE; have HBY := Lib.hid hby
  have H1 := Lib.hid (And.intro hvr hbel)
  clear c2 hvg hN hE hnE hby hvr hbel C1
  go_wp2_with fail
  refine C2.out.mono ?_
  rintro e w4 h4
  obtain ⟨A4, k4, rfl, row4, b4⟩ := row_of_new h4
  obtain ⟨P1, hP1⟩ : ∃ P, w1.heap.size = P := ⟨_, rfl⟩
  rw [hP1] at row4 b4
  rw [HnE.out] at row4 ⊢
  have HP1 : Hid (w1.heap.size = P1) := hP1
  have hB3 : B ≤ P1 := by have := H1.out.2.size; have := HB.out; omega
  have hcap4 : nE ≤ k4 := by have := row4.sli.le; rw [HnE.out] at this; exact this
  have hmx4' := row4.sli.mx
  have H4 := Lib.hid (And.intro row4 b4)
  clear h4 row4 b4 C2 hP1
  by_cases hz : nE = 0
  case' pos =>
    have H5 : Hid (∃ Z, Z.length = nE ∧ Byt Z ∧ SliAt .u8 w4.heap.size w4 A4 k4 Z ∧ Below P1 w1 w4) := ⟨E, HnE.out, HBY.out, H4.out.1.sli, H4.out.2⟩
    obtain ⟨w5, rfl⟩ : ∃ w5 : World, w5 = w4 := ⟨_, rfl⟩
    have hz' : ¬ 0 < nE := by omega
    clear H4 hz HnE HBY
    go_wp2_with fail
  case' neg =>
    have hz' : 0 < nE := by omega
    go_wp2_with fail
    refine (around_any at_ nE _ hn1 hn2 (by omega) (by omega)).mono ?_
    rintro e w' ⟨m, hm, rfl, rfl⟩
    obtain ⟨g4, rfl, hg1, hg2, hcm, hfm, hset⟩ := H4.out.1.at_ hm
    obtain ⟨hs1, hs2⟩ := hset c
    have H5 : Hid (∃ Z, Z.length = nE ∧ Byt Z ∧ SliAt .u8 (w4.setCell ⟨g4, m, none⟩ (.int .u8 c)).heap.size (w4.setCell ⟨g4, m, none⟩ (.int .u8 c)) (some ⟨g4, 0, none⟩) k4 Z ∧ Below P1 w1 (w4.setCell ⟨g4, m, none⟩ (.int .u8 c))) :=
      ⟨E.set m c, by rw [List.length_set]; exact HnE.out, byt_set HBY.out m ⟨hc0, hc1⟩, by have := hs1.sli; simpa [World.setCell] using this, H4.out.2.trans (hs2.below (by have := H4.out.2.size; have := HP1.out; omega) (fun j e => e.1))⟩
    clear hs1 hs2 hset hz HnE HBY
    go_wp2_with fail
    obtain ⟨w5, hw5⟩ : ∃ w5, w4.setCell ⟨g4, m, none⟩ (.int .u8 c) = w5 := ⟨_, rfl⟩
    rw [hw5] at H5 ⊢
    obtain ⟨A4, hA4⟩ : ∃ A : Option Addr, some ⟨g4, 0, none⟩ = A := ⟨_, rfl⟩
    rw [hA4] at H5 ⊢
    clear hw5 hA4 hcm hfm H4 hg1 hg2 hm
  all_goals
    obtain ⟨Z, hZn, hZb, hs5, hb5⟩ := H5.out
    have hZl : Z.length ≤ 2000 := by omega
    have c3 := rread_any A4 k4 Z w5 hs5 hZb (by omega)
    rw [hZn] at c3
    have C3 := Lib.hid c3; have HZ := Lib.hid (And.intro hZn (And.intro hZb (And.intro hs5 (And.intro hb5 hZl))))
    clear c3 hZn hZb hs5 hb5 hZl H5
    refine C3.out.mono ?_
    rintro e w6 ⟨p, rfl, hr, hb⟩
    obtain ⟨D, hD⟩ : ∃ D, w5.heap.size = D := ⟨_, rfl⟩
    rw [hD] at hr hb
    obtain ⟨B2, hB2⟩ : ∃ D, w6.heap.size = D := ⟨_, rfl⟩
    have hPD : P1 ≤ D := by have := HZ.out.2.2.2.1.size; have := HP1.out; omega
    have H6 : Hid (OneInv B2 D p Z (.slice none 0 0) 0 w5 w6) := ⟨⟨[], .ok Z, VRow.nil_ _ _, rfl, hr, fun r h => by cases h; exact ⟨by simp [encs], by simp⟩⟩, hb, ⟨hr.lt.1, by have := hr.lt.2; omega, by omega⟩⟩
    have HD := Lib.hid hD
    clear hr hb C3 hB2 hD
    go_wp2_with fail
    go_loopw [14, 15] (fun o i wr => ∃ (k : Nat) (ov : Value), k ≤ N ∧ i = .int .i64 k ∧ o = ov ∧ Hid (OneInv B2 D p Z ov k w5 wr)) (fun _ i _ => N - (intOf i).toNat)
    case atStart => exact ⟨0, _, Nat.zero_le _, rfl, rfl, H6⟩
    case round =>
      obtain ⟨k, ov, hk, rfl, rfl, HR⟩ := hrel
      by_cases hlt : k < N
      · have hvk : all[k]? = some (all[k]'(by rw [HN.out]; exact hlt)) := List.getElem?_eq_getElem _
        generalize all[k]'(by rw [HN.out]; exact hlt) = v at hvk
        obtain ⟨g, cap', ab, cb, al, cl, hA, hg1, hg2, _, _, q0, _⟩ := H1.out.1.at_ hvk
        have hk5 := (HGD.out v (List.mem_of_getElem? hvk)).k5
        rw [HP1.out] at hg2
        obtain ⟨⟨vs, st, hvr, hvl', hrd, hfit⟩, hbl, ho1⟩ := HR.out
        have q0a := ((HZ.out.2.2.2.1.trans (hbl.mono hPD)).cell (p := ⟨g, k * 5, none⟩) hg2).trans q0
        obtain ⟨⟨R, s⟩, hR⟩ : ∃ x, rdV v.kind st = x := ⟨_, rfl⟩
        have c6 := read_any D p v.kind st wr hrd hk5
        rw [hR] at c6
        have C6 := Lib.hid c6; have HV := Lib.hid (And.intro hvr (And.intro hvl' (And.intro hfit (And.intro hbl (And.intro hR hrd.lt)))))
        have hvl2 : vs.length ≤ 8 := by omega
        simp only [Value.slice.injEq] at hA
        obtain ⟨hA, -, -⟩ := hA
        clear c6 hvr hvl' hfit hbl hR hrd q0 hvk
        subst hA
        go_wp2_with fail
        refine C6.out.mono ?_
        rintro e wa ⟨ab', cb', al', cl', rfl, hb', hl', hra, hoa⟩
        have hp2 := HV.out.2.2.2.2.2
        have hvra := HV.out.1.keep (w' := wa) (fun j h1 h2 => hoa.block j h2 (by omega))
        obtain ⟨css, hcl, hown, hat⟩ := hvra.ex
        have hsz := hoa.size
        have HO := Lib.hid hown; have HAT := Lib.hid (And.intro hcl (And.intro hat (And.intro (hb'.mono (base' := B2) ho1.2.2) (And.intro (hl'.mono (base' := B2) ho1.2.2) (And.intro hra (HV.out.2.2.2.1.trans (hoa.below (by omega) (fun j e => by omega))))))))
        clear hb' hl' hra hoa hvra hcl hown hat q0a
        go_wp2_with (at_builtin; refine wpList_append_own _ rfl _ _ 25 rfl B2 28 iv _ 5 72 Try.underlying25 hiv hv0 hv1 hv2 rfl (by decide) u14 vs.length css.flatten rfl (HO.out.alloc _) ⟨wa.heap.size, 0, none⟩ 1 1 [.int .i64 R.kind, .int .u64 R.u, .int .i64 R.n, .slice ab' R.b.length cb', .slice al' R.l.length cl'] rfl rfl (World.news_of_block (cs := #[.int .i64 R.kind, .int .u64 R.u, .int .i64 R.n, .slice ab' R.b.length cb', .slice al' R.l.length cl']) (t := 28) (fr := (0, 0)) (World.alloc_heap_new wa _)) (by simp [Value.oneCell']) (by unfold maxLen; omega) (by omega) (by simp; omega) ?_; intro v' w3 hown3 hgrow3 _; obtain ⟨g3, k3, rfl⟩ := ownsRow_succ hown3)
        have H7 := Lib.hid (one_step HZ.out.2.1 HZ.out.2.2.2.2 hk5 HAT.out.1 HO.out HAT.out.2.1 HV.out.2.1 HV.out.2.2.1 HV.out.2.2.2.2.1 HAT.out.2.2.1 HAT.out.2.2.2.1 HAT.out.2.2.2.2.1 HAT.out.2.2.2.2.2 ⟨ho1.1, ho1.2.1, by omega⟩ hgrow3 hown3)
        clear hown3 hgrow3
        go_wp2
        go_roundw
        case rel => exact ⟨k + 1, _, by omega, by go_num, rfl, H7⟩
        case measure => simp [intOf]; omega
      · obtain rfl : N = k := by omega
        obtain ⟨⟨vs, st, hvr, hvl', hrd, hfit⟩, hbl, ho1⟩ := HR.out
        obtain ⟨E0, hE0⟩ : ∃ e, rdEnd st = e := ⟨_, rfl⟩
        have c7 := rend_any D p st wr hrd
        rw [hE0] at c7
        have C7 := Lib.hid c7
        have hBwr : Hid (Below B w wr) := ((H1.out.2.trans (HZ.out.2.2.2.1.mono hB3)).trans (hbl.mono (by omega)))
        by_cases hq0 : E0 = 0
        case' pos =>
          subst hq0
          have hst := rdEnd_zero hrd hE0
          subst hst
          obtain ⟨hZe, hfit'⟩ := hfit [] rfl
          rw [List.append_nil] at hZe
          obtain ⟨A14, k14, rfl⟩ := hvr.slice
          have hz1 := HZ.out.1; have hz5 := HZ.out.2.2.2.2
          have c8 := encode_any B2 A14 k14 vs wr hvr hfit' (by omega) (by rw [← hZe]; omega)
          rw [← hZe] at c8
          have HS5 : Hid (Sli .u8 wr A4 k4 Z) := ⟨HZ.out.2.2.1.le, HZ.out.2.2.1.mx, HZ.out.2.2.1.nil, (HZ.out.2.2.1.cells.below (by rw [HD.out]; exact hbl)).mono (by rw [HD.out]; omega)⟩
          have C8 := Lib.hid c8
          clear hvr hvl' hrd hfit hfit' hbl hE0 c7 c8 hZe HR hz1 hz5
          go_wp2_with fail
          refine C7.out.mono ?_
          rintro e w' ⟨rfl, rfl⟩
          go_wp2_with fail
          refine C8.out.mono ?_
          rintro e wb h8
          obtain ⟨A8, k8, rfl, row8, b8⟩ := row_of_new h8
          have c9 := sameBytes_any A8 A4 k8 k4 Z Z wb row8.sli (Sli.below HS5.out b8) (by have := HZ.out.2.2.2.2; omega) (by have := HZ.out.2.2.2.2; omega)
          simp only [decide_true] at c9
          rw [HZ.out.1] at c9 ⊢
          have hBwb : Hid (Below B w wb) := hBwr.out.trans (b8.mono (by have := hBwr.out.size; have := HB.out; omega))
          have C9 := Lib.hid c9
          clear h8 row8 b8 c9
          go_wp2_with fail
          refine C9.out.mono ?_
          rintro e w8 ⟨rfl, hb8⟩
          have H8 : Hid (Below B w w8) := hBwb.out.trans (hb8.mono (by have := hBwb.out.size; have := HB.out; omega))
          clear hb8
          go_wp2_with fail
        case' neg =>
          have hq : (E0 == 0) = false := by simp; exact hq0
          clear hvr hvl' hrd hfit hbl hE0 c7 HR
          obtain ⟨w8, rfl⟩ : ∃ w8 : World, w8 = wr := ⟨_, rfl⟩
          go_wp2_with fail
          refine C7.out.mono ?_
          rintro e w' ⟨rfl, rfl⟩
          have H8 : Hid (Below B w w8) := hBwr.out
          go_wp2_with fail
        all_goals
          have cF := few_any a cap 60 raw w8 (Sli.below HRAW.out.1 (by rw [HB.out]; exact H8.out)) (by omega)
          rw [HN0.out] at cF
          have CF := Lib.hid cF
          clear cF C7 hBwr
          refine CF.out.mono ?_
          rintro e w9 h9
          obtain ⟨AF, kF, rfl, row9, b9⟩ := row_of_new h9
          obtain ⟨F, hF⟩ : ∃ F, raw.take 60 = F := ⟨_, rfl⟩
          obtain ⟨nF, hnF⟩ : ∃ n, F.length = n := ⟨_, rfl⟩
          have hFb : Byt F := by rw [← hF]; exact HRAW.out.2.take 60
          have hF60 : nF ≤ 60 := by rw [← hnF, ← hF, List.length_take]; omega
          rw [hF] at row9 ⊢
          have hsF := row9.sli
          have cG := rread_any AF kF F w9 hsF hFb (by omega)
          rw [hnF] at cG ⊢
          obtain ⟨D2, hD2⟩ : ∃ D, w9.heap.size = D := ⟨_, rfl⟩
          rw [hD2] at hsF
          have CG := Lib.hid cG
          have HF := Lib.hid (And.intro hnF (And.intro hFb (And.intro hsF (show Below B w w9 from H8.out.trans (b9.mono (by have := H8.out.size; have := HB.out; omega))))))
          have HD2 := Lib.hid hD2
          have hBD2 : B ≤ D2 := by have := HF.out.2.2.2.size; have := HB.out; omega
          clear h9 row9 b9 hsF hF hnF hFb cG CF H8 hD2
          go_wp2_with fail
          refine CG.out.mono ?_
          rintro e wc ⟨p2, rfl, hr2, hbc⟩
          rw [HD2.out] at hr2 hbc
          obtain ⟨B3, hB3'⟩ : ∃ D, wc.heap.size = D := ⟨_, rfl⟩
          have HC0 : Hid (OneInv B3 D2 p2 F (.slice none 0 0) 0 w9 wc) := ⟨⟨[], .ok F, VRow.nil_ _ _, rfl, hr2, fun r h => by cases h; exact ⟨by simp [encs], by simp⟩⟩, hbc, ⟨hr2.lt.1, by have := hr2.lt.2; omega, by omega⟩⟩
          clear hr2 hbc CG hB3'
          go_wp2_with fail
          go_loopw [14, 17] (fun o i wr => ∃ (k : Nat) (ov : Value), k ≤ n4 ∧ k ≤ 10 ∧ i = .int .i64 k ∧ o = ov ∧ Hid (OneInv B3 D2 p2 F ov k w9 wr)) (fun _ i _ => 10 - (intOf i).toNat)
          case atStart => exact ⟨0, _, Nat.zero_le _, by omega, rfl, rfl, HC0⟩
          case round =>
            obtain ⟨kk, ov, hk4, hk10, rfl, rfl, HR⟩ := hrel
            obtain ⟨⟨vs, st, hvr, hvl', hrd, hfit⟩, hbl, ho2⟩ := HR.out
            obtain ⟨E1, hE1⟩ : ∃ e, rdEnd st = e := ⟨_, rfl⟩
            have c7 := rend_any D2 p2 st
            rw [hE1] at c7
            obtain ⟨wr, rfl⟩ : ∃ wr' : World, wr' = wr := ⟨_, rfl⟩
            have hBwr : Hid (Below B w wr) := (HF.out.2.2.2.trans (hbl.mono hBD2))
            have HRD := Lib.hid hrd
            have HFIT := Lib.hid (And.intro hvr (And.intro hvl' (And.intro hfit hbl)))
            have C7 : Hid (∀ W, Rd W D2 p2 st → Calls Try.prog 24 #[.pointer (some ⟨p2, 0, none⟩)] W fun e w' => e = .returned (.int .i64 E1) ∧ W = w') := c7
            have hvl3 : vs.length ≤ 10 := by omega
            clear hvr hvl' hrd hfit hbl c7
            by_cases hq1 : E1 = 0
            case pos =>
              subst hq1
              have hst := rdEnd_zero HRD.out hE1
              subst hst
              obtain ⟨hZe, hfit'⟩ := HFIT.out.2.2.1 [] rfl
              rw [List.append_nil] at hZe
              obtain ⟨A14, k14, rfl⟩ := HFIT.out.1.slice
              have c8 := encode_any B3 A14 k14 vs wr HFIT.out.1 hfit' (by omega) (by rw [← hZe, HF.out.1]; omega)
              rw [← hZe] at c8
              have HSF : Hid (Sli .u8 wr AF kF F) := ⟨HF.out.2.2.1.le, HF.out.2.2.1.mx, HF.out.2.2.1.nil, (HF.out.2.2.1.cells.below HFIT.out.2.2.2).mono (by omega)⟩
              have C8 := Lib.hid c8
              clear c8 hZe hfit' HR
              have hways : (kk < n4 ∧ kk < 10) ∨ ¬ kk < n4 ∨ (kk < n4 ∧ ¬ kk < 10) := by omega
              rcases hways with ⟨h1, h2⟩ | h1 | ⟨h1, h2⟩
              case' inl =>
                go_wp2_with fail
                refine (C7.out _ HRD.out).mono ?_
                rintro e w' ⟨rfl, rfl⟩
                go_wp2_with fail
              case' inr.inl => go_wp2_with fail
              case' inr.inr => go_wp2_with fail
              all_goals
                refine (C7.out _ HRD.out).mono ?_
                rintro e w' ⟨rfl, rfl⟩
                go_wp2_with fail
                refine C8.out.mono ?_
                rintro e wb h8
                obtain ⟨A8, k8, rfl, row8, b8⟩ := row_of_new h8
                have c9 := sameBytes_any A8 AF k8 kF F F wb row8.sli (Sli.below HSF.out b8) (by rw [HF.out.1]; omega) (by rw [HF.out.1]; omega)
                simp only [decide_true] at c9
                rw [HF.out.1] at c9 ⊢
                have hBwb : Hid (Below B w wb) := hBwr.out.trans (b8.mono (by have := hBwr.out.size; have := HB.out; omega))
                have C9 := Lib.hid c9
                clear h8 row8 b8 c9
                go_wp2_with fail
                refine C9.out.mono ?_
                rintro e wd ⟨rfl, hbd⟩
                have HDD : Hid (Below B w wd) := hBwb.out.trans (hbd.mono (by have := hBwb.out.size; have := HB.out; omega))
                clear hbd
                go_wp2_with fail
                refine (wlives_any _).mono ?_
                rintro e wf ⟨rfl, hbf⟩
                have HFF : Hid (Below B w wf) := HDD.out.trans (hbf.mono (by have := HDD.out.size; have := HB.out; omega))
                clear hbf
                go_wp2
                go_ret
                exact ⟨rfl, by rw [HB.out]; exact HFF.out⟩
            case neg =>
              have hqb : (E1 != 0) = true := by simp; exact hq1
              clear hE1 HR
              have hways : (kk < n4 ∧ kk < 10) ∨ ¬ kk < n4 ∨ (kk < n4 ∧ ¬ kk < 10) := by omega
              rcases hways with ⟨h1, h2⟩ | h1 | ⟨h1, h2⟩
              case inl =>
                obtain ⟨ha, hbb⟩ := HAB.out.resolve_left (by omega)
                have hck := (hBwr.out.cell (p := ⟨bb, off + kk, none⟩) hbb).trans (HCB.out kk h1)
                have hx := HK.out.at_ kk
                generalize ks[kk]?.getD 0 = x at hck hx
                obtain ⟨hx1, hx2⟩ := hx
                subst ha
                go_wp2_with fail
                refine (C7.out _ HRD.out).mono ?_
                rintro e w' ⟨rfl, rfl⟩
                go_wp2_with fail
                refine (around_any x 6 _ hx1 hx2 (by omega) (by omega)).mono ?_
                rintro e w' ⟨q, hq6, rfl, rfl⟩
                have hq5 : q ≤ 5 := by omega
                obtain ⟨⟨R, s⟩, hR⟩ : ∃ x, rdV q st = x := ⟨_, rfl⟩
                have c6 := read_any D2 p2 q st wr HRD.out hq5
                rw [hR] at c6
                have C6 := Lib.hid c6; have HRR := Lib.hid (And.intro hR HRD.out.lt)
                clear c6 hR hck
                go_wp2_with fail
                refine C6.out.mono ?_
                rintro e wa ⟨ab', cb', al', cl', rfl, hb', hl', hra, hoa⟩
                have hp2 := HRR.out.2
                have hvra := HFIT.out.1.keep (w' := wa) (fun j h1 h2 => hoa.block j h2 (by omega))
                obtain ⟨css, hcl, hown, hat⟩ := hvra.ex
                have hsz := hoa.size
                have HO := Lib.hid hown; have HAT := Lib.hid (And.intro hcl (And.intro hat (And.intro (hb'.mono (base' := B3) ho2.2.2) (And.intro (hl'.mono (base' := B3) ho2.2.2) (And.intro hra (HFIT.out.2.2.2.trans (hoa.below (by omega) (fun j e => by omega))))))))
                clear hb' hl' hra hoa hvra hcl hown hat
                go_wp2_with (at_builtin; refine wpList_append_own _ rfl _ _ 25 rfl B3 28 iv _ 5 72 Try.underlying25 hiv hv0 hv1 hv2 rfl (by decide) u14 vs.length css.flatten rfl (HO.out.alloc _) ⟨wa.heap.size, 0, none⟩ 1 1 [.int .i64 R.kind, .int .u64 R.u, .int .i64 R.n, .slice ab' R.b.length cb', .slice al' R.l.length cl'] rfl rfl (World.news_of_block (cs := #[.int .i64 R.kind, .int .u64 R.u, .int .i64 R.n, .slice ab' R.b.length cb', .slice al' R.l.length cl']) (t := 28) (fr := (0, 0)) (World.alloc_heap_new wa _)) (by simp [Value.oneCell']) (by unfold maxLen; omega) (by omega) (by simp; omega) ?_; intro v' w3 hown3 hgrow3 _; obtain ⟨g3, k3, rfl⟩ := ownsRow_succ hown3)
                have H7 := Lib.hid (one_step HF.out.2.1 (by rw [HF.out.1]; omega) hq5 HAT.out.1 HO.out HAT.out.2.1 HFIT.out.2.1 HFIT.out.2.2.1 HRR.out.1 HAT.out.2.2.1 HAT.out.2.2.2.1 HAT.out.2.2.2.2.1 HAT.out.2.2.2.2.2 ⟨ho2.1, ho2.2.1, by omega⟩ hgrow3 hown3)
                clear hown3 hgrow3
                go_wp2
                go_roundw
                case rel => exact ⟨kk + 1, _, by omega, by omega, by go_num, rfl, H7⟩
                case measure => simp [intOf]; omega
              case' inr.inl => go_wp2_with fail
              case' inr.inr => go_wp2_with fail
              all_goals
                refine (C7.out _ HRD.out).mono ?_
                rintro e w' ⟨rfl, rfl⟩
                go_wp2_with fail
                refine (wlives_any _).mono ?_
                rintro e wf ⟨rfl, hbf⟩
                have HFF : Hid (Below B w wf) := hBwr.out.trans (hbf.mono (by have := hBwr.out.size; have := HB.out; omega))
                clear hbf
                go_wp2
                go_ret
                exact ⟨rfl, by rw [HB.out]; exact HFF.out⟩

theorem walk (a0 : Option Addr) (len0 cap0 : Nat) (z0 : List Int) (a1 : Option Addr) (len1 cap1 : Nat) (z1 : List Int) (a2 : Int) (a3 : Int) (a4 : Option Addr) (len4 cap4 : Nat) (z4 : List Int) (w : World) (w0 : IsRow .u8 w a0 len0 cap0 z0) (w1 : IsRow .i64 w a1 len1 cap1 z1) (w2 : (Lit.int .i64 a2).wf = true) (w3 : (Lit.int .u8 a3).wf = true) (w4 : IsRow .i64 w a4 len4 cap4 z4) :
    Calls Try.prog 6 #[.slice a0 len0 cap0, .slice a1 len1 cap1, .int .i64 a2, .int .u8 a3, .slice a4 len4 cap4] w fun e w' => e = .returned (.bool true) ∧ Below w.heap.size w w' := by
  obtain ⟨raw, rfl, hl0, hwl0⟩ := sli_of_isRow w0
  obtain ⟨ls, rfl, hl, hwl⟩ := sli_of_isRow w1
  obtain ⟨ks, rfl, hl4, hwl4⟩ := sli_of_isRow w4
  exact walkB a0 cap0 raw a1 cap1 ls a2 a3 a4 cap4 ks w hl0 (byt_of_wf hwl0) hl (fun n hn => wf_i64 (hwl n hn)) (wf_i64 w2).1 (wf_i64 w2).2 (wf_u8 w3).1 (wf_u8 w3).2 hl4 (fun n hn => wf_i64 (hwl4 n hn))

/-! ### THE ROW's STEP: WRITTEN OUT: LEAVE IT -/
set_option maxRecDepth 100000 in
theorem lifted (os : Os) (started : os.Started) (H : Type) (enc : TypeId × Value → H) :
    ReturnsInHanded {} Try.checked os 6 .any (Rows.wireOneSpec.pre6 enc Try.prog Try.f6 Rows.wireOneRow.domain false) (Rows.wireOneSpec.post enc Try.prog Try.f6 false true false false) := by
  refine returnsInHanded_of_change (C := Try.checked) own started (by kernel_rfl) Try.func6
    (ChangeSpec.witness6 (enc := enc) (C := Try.checked) false ⟨#[], #[.slice none 0 0, .slice none 0 0, .int .i64 0, .int .u8 0, .slice none 0 0], []⟩ 8 (by kernel_rfl) (by kernel_rfl) (by kernel_rfl) (by kernel_rfl)) ?_
  intro W base args ds gs before hval0 hW hcnd _
  have hval : ∀ (j : Nat) t v, Try.f6.params[j]? = some t → args[j]? = some v → Value.okWide Try.prog W .any base t v := hval0
  have hW' := hW
  obtain ⟨p, q, hA0, hV, rfl, hfz, hnd⟩ := hW
  have hA : DataW.TrodAll enc Try.prog W 0 (fun _ => true) true Try.f6.params.toList args.toList ds p := hA0
  rw [Try.params6] at hA hval
  obtain ⟨v0, vs0, d0, ds0, p0, q0, hargs, rfl, rfl, h0, r0⟩ := trodAll_cons hA
  obtain ⟨v1, vs1, d1, ds1, p1, q1, rfl, rfl, rfl, h1, r1⟩ := trodAll_cons r0
  obtain ⟨v2, vs2, d2, ds2, p2, q2, rfl, rfl, rfl, h2, r2⟩ := trodAll_cons r1
  obtain ⟨v3, vs3, d3, ds3, p3, q3, rfl, rfl, rfl, h3, r3⟩ := trodAll_cons r2
  obtain ⟨v4, vs4, d4, ds4, p4, q4, rfl, rfl, rfl, h4, r4⟩ := trodAll_cons r3
  obtain ⟨rfl, rfl, rfl⟩ := trodAll_nil r4
  obtain rfl : args = #[v0, v1, v2, v3, v4] := by cases args; simp_all
  obtain ⟨rfl, rfl⟩ := trodVars_none hV
  obtain ⟨a0, len0, cap0, rfl⟩ := okWide_slice Try.underlying24 (hval 0 24 v0 rfl rfl)
  have k0 := h0
  have lt0 : ∀ x ∈ p0, x.block < W.heap.size := by obtain ⟨m, hm⟩ := k0; exact DataW.trod_lt m _ _ _ hm
  obtain ⟨z0, w0⟩ : ∃ zs, IsRow .u8 W a0 len0 cap0 zs := by
    obtain ⟨fuel, hf⟩ := h0
    rcases open_ints Try.underlying24 Try.underlying5 (by kernel_rfl) hf with ⟨hcs, _⟩ | ⟨x, l, c, zs, hcs, _, hl, hm, hz, _, hcell, hwz⟩
    · simp [Value.cells] at hcs
      obtain ⟨rfl, rfl, rfl⟩ := hcs
      exact ⟨[], .inl ⟨rfl, rfl, rfl, rfl⟩⟩
    · simp [Value.cells] at hcs
      obtain ⟨rfl, rfl, rfl⟩ := hcs
      exact ⟨zs, .inr ⟨_, rfl, hl, hm, by simpa using hz, hcell, hwz⟩⟩
  obtain ⟨a1, len1, cap1, rfl⟩ := okWide_slice Try.underlying22 (hval 1 22 v1 rfl rfl)
  have k1 := h1
  have lt1 : ∀ x ∈ p1, x.block < W.heap.size := by obtain ⟨m, hm⟩ := k1; exact DataW.trod_lt m _ _ _ hm
  obtain ⟨z1, w1⟩ : ∃ zs, IsRow .i64 W a1 len1 cap1 zs := by
    obtain ⟨fuel, hf⟩ := h1
    rcases open_ints Try.underlying22 Try.underlying3 (by kernel_rfl) hf with ⟨hcs, _⟩ | ⟨x, l, c, zs, hcs, _, hl, hm, hz, _, hcell, hwz⟩
    · simp [Value.cells] at hcs
      obtain ⟨rfl, rfl, rfl⟩ := hcs
      exact ⟨[], .inl ⟨rfl, rfl, rfl, rfl⟩⟩
    · simp [Value.cells] at hcs
      obtain ⟨rfl, rfl, rfl⟩ := hcs
      exact ⟨zs, .inr ⟨_, rfl, hl, hm, by simpa using hz, hcell, hwz⟩⟩
  obtain ⟨a2, rfl, rfl, rfl, w2⟩ := open_int Try.underlying3 (hval 2 3 v2 rfl rfl) h2
  obtain ⟨a3, rfl, rfl, rfl, w3⟩ := open_int Try.underlying5 (hval 3 5 v3 rfl rfl) h3
  obtain ⟨a4, len4, cap4, rfl⟩ := okWide_slice Try.underlying22 (hval 4 22 v4 rfl rfl)
  have k4 := h4
  have lt4 : ∀ x ∈ p4, x.block < W.heap.size := by obtain ⟨m, hm⟩ := k4; exact DataW.trod_lt m _ _ _ hm
  obtain ⟨z4, w4⟩ : ∃ zs, IsRow .i64 W a4 len4 cap4 zs := by
    obtain ⟨fuel, hf⟩ := h4
    rcases open_ints Try.underlying22 Try.underlying3 (by kernel_rfl) hf with ⟨hcs, _⟩ | ⟨x, l, c, zs, hcs, _, hl, hm, hz, _, hcell, hwz⟩
    · simp [Value.cells] at hcs
      obtain ⟨rfl, rfl, rfl⟩ := hcs
      exact ⟨[], .inl ⟨rfl, rfl, rfl, rfl⟩⟩
    · simp [Value.cells] at hcs
      obtain ⟨rfl, rfl, rfl⟩ := hcs
      exact ⟨zs, .inr ⟨_, rfl, hl, hm, by simpa using hz, hcell, hwz⟩⟩
  clear hA0 hval0
  refine (walk a0 len0 cap0 z0 a1 len1 cap1 z1 a2 a3 a4 len4 cap4 z4 W w0 w1 w2 w3 w4).mono fun e W' ⟨he, bel⟩ => ?_
  subst he
  exact ⟨_, rfl, _, _, _, [], _, [], hW', trodAll_mk1 (shut_bool Try.underlying4 _), (trodAll_cons_mk (Below.trod laidOut (by kernel_rfl) (of_decide_eq_true (by kernel_rfl)) k0 bel lt0) (trodAll_cons_mk (Below.trod laidOut (by kernel_rfl) (of_decide_eq_true (by kernel_rfl)) k1 bel lt1) (trodAll_cons_mk (shut_int Try.underlying3 w2) (trodAll_cons_mk (shut_int Try.underlying5 w3) (trodAll_cons_mk (Below.trod laidOut (by kernel_rfl) (of_decide_eq_true (by kernel_rfl)) k4 bel lt4) trodAll_mk0))))), rfl, bel.frame _, fun h => by cases h⟩

theorem over : Rows.wireOneRow.holds Try.pinned (OpenSpec.ofChange Rows.wireOneSpec) :=
  OpenClaim.holds_of_wide 6 Try.f6 rfl rfl rfl rfl rfl rfl rfl ⟨rfl, rfl, rfl, rfl, rfl⟩ rfl rfl rfl rfl rfl (by kernel_rfl) Try.func6 (by kernel_rfl)
    (of_decide_eq_true (by kernel_rfl)) (by unfold Func.isWrapper; first | (rw [if_pos (by decide +kernel)]; kernel_rfl) | (rw [if_neg (by decide +kernel)]; exact ⟨rfl, rfl⟩))
    (fun os started H enc _ => lifted os started H enc)

/-- ████ THE STATEMENT ████ -/
theorem proved : Rows.WireOneSaid := over
#print axioms proved
end Go.Proofs.Ytfnpnomfdfdonaa.wireOne
