/- For all byte slices and all encodings with one byte changed, and for all sequences of up to 10 reads, the values and the errors are the specified ones (P2.2 to P2.5). It has no conditions. The frame below is the guide's shell. -/
import Derived.Test.YtfnpnomfdfdonaaRows
import Derived.Test.YtfnpnomfdfdonaaWLives
import Derived.Test.YtfnpnomfdfdonaaQRead
import Derived.Test.YtfnpnomfdfdonaaREnc
import Derived.Test.YtfnpnomfdfdonaaWSame
import Derived.Test.YtfnpnomfdfdonaaVals
import Derived.Test.YtfnpnomfdfdonaaFew
import Derived.Test.YtfnpnomfdfdonaaWf
import Derived.WalkKit
import Derived.ProofKit
import Derived.OpenShut
import Derived.ShutString
import Derived.ChangeOld
import Derived.Below
namespace Go.Proofs.Ytfnpnomfdfdonaa.wireReads
open Go.ChangeShapes Go.WideShapes Go.ChangeAt Go.RowKit
open Go.ChangeMaps (open_string shut_string)
set_option linter.unusedVariables false

theorem own : ownKnob Try.prog.godebug = none := by kernel_rfl
theorem laidOut : laidOutB Try.prog = true := by kernel_rfl

set_option maxRecDepth 100000 in
set_option maxHeartbeats 8000000 in
theorem walkB (a : Option Addr) (cap : Nat) (raw : List Int) (b : Option Addr) (capb : Nat) (ls : List Int) (at_ c : Int) (d : Option Addr) (capd : Nat) (ks : List Int) (w : World)
    (h : Sli .u8 w a cap raw) (hz : Byt raw) (h2 : Sli .i64 w b capb ls) (hi : I64 ls) (hn1 : -9223372036854775808 ≤ at_) (hn2 : at_ ≤ 9223372036854775807) (hc0 : 0 ≤ c) (hc1 : c ≤ 255) (h3 : Sli .i64 w d capd ks) (hk : I64 ks) :
    Calls Try.prog 4 #[.slice a raw.length cap, .slice b ls.length capb, .int .i64 at_, .int .u8 c, .slice d ks.length capd] w fun e w' => e = .returned (.bool true) ∧ Below w.heap.size w w' := by
  obtain ⟨B, hB⟩ : ∃ B, w.heap.size = B := ⟨_, rfl⟩
  obtain ⟨n4, hn4⟩ : ∃ n, ks.length = n := ⟨_, rfl⟩
  have hcore : ∃ bb off, (n4 = 0 ∨ (d = some ⟨bb, off, none⟩ ∧ bb < B)) ∧ ∀ j, j < n4 → w.cell? ⟨bb, off + j, none⟩ = some (.int .i64 (ks[j]?.getD 0)) := by
    rcases h3.cells with rfl | ⟨bb, off, ha, hlt, hcb⟩
    · exact ⟨0, 0, .inl (by simpa using hn4.symm), fun j hj => absurd hj (by simp at hn4; omega)⟩
    · exact ⟨bb, off, .inr ⟨ha, by omega⟩, fun j hj => hcb j (by omega)⟩
  obtain ⟨bb, off, hab, hcb⟩ := hcore
  have hle4 := h3.le
  have hmx4 := h3.mx
  rw [hn4] at hle4 ⊢
  have HAB := Lib.hid hab; have HCB := Lib.hid hcb; have HK := Lib.hid hk; have HRAW := Lib.hid (And.intro h hz)
  have c1 := vals_any b capb ls w h2 hi
  unfold ValsPost at c1
  rw [hB] at c1
  have C1 := Lib.hid c1; have HB := Lib.hid hB
  obtain ⟨n0, hn0⟩ : ∃ n, raw.length = n := ⟨_, rfl⟩
  have HN0 := Lib.hid hn0
  rw [hn0]
  clear c1 h h2 h3 hi hB hk hz hab hcb hn4 hn0
  go_enter Try.func4, Try.ntmps4
  go_wp2_with fail
  refine C1.out.mono ?_
  rintro e w1 ⟨ov, all, rfl, hvr, hvl, hvg, hbel⟩
  obtain ⟨A1, k1, rfl⟩ := hvr.slice
  obtain ⟨N, hN⟩ : ∃ N, all.length = N := ⟨_, rfl⟩
  have hel := encs_len hvg
  have hby := encs_byt hvg
  rw [hN] at hvl hel hvr ⊢
  have c2 := rencode_any B A1 k1 all w1 (by rw [hN]; exact hvr) (fun v hv => (hvg v hv).fit) (by omega) (by omega)
  rw [hN] at c2
  obtain ⟨E, hE⟩ : ∃ E, encs all = E := ⟨_, rfl⟩
  rw [hE] at c2 hel hby
  obtain ⟨nE, hnE⟩ : ∃ n, E.length = n := ⟨_, rfl⟩
  rw [hnE] at hel
  have C2 := Lib.hid c2; have HnE := Lib.hid hnE; have HBY := Lib.hid hby
  have H1 := Lib.hid hbel
  clear c2 hvg hN hE hnE hby hvr hbel C1
  go_wp2_with fail
  refine C2.out.mono ?_
  rintro e w4 h4
  obtain ⟨A4, k4, rfl, row4, b4⟩ := row_of_new h4
  obtain ⟨P1, hP1⟩ : ∃ P, w1.heap.size = P := ⟨_, rfl⟩
  rw [hP1] at row4 b4
  rw [HnE.out] at row4 ⊢
  have hB3 : B ≤ P1 := by have := H1.out.size; have := HB.out; omega
  have hP14 : P1 ≤ w4.heap.size := by have := b4.size; omega
  have hcap4 : nE ≤ k4 := by have := row4.sli.le; rw [HnE.out] at this; exact this
  have hmx4' := row4.sli.mx
  have H4 : Hid (Row .u8 5 P1 w4.heap.size w4 A4 nE k4 E ∧ Below B w w4) := ⟨row4, H1.out.trans (b4.mono hB3)⟩
  clear h4 row4 b4 C2 H1
  by_cases hz : nE = 0
  case' pos =>
    have H5 : Hid (∃ Z, Z.length = nE ∧ Byt Z ∧ Row .u8 5 P1 w4.heap.size w4 A4 nE k4 Z ∧ Below B w w4) := ⟨E, HnE.out, HBY.out, H4.out.1, H4.out.2⟩
    obtain ⟨w5, rfl⟩ : ∃ w5 : World, w5 = w4 := ⟨_, rfl⟩
    have hz' : ¬ 0 < nE := by omega
    clear H4 hz HnE HBY
    go_wp2_with fail
  case' neg =>
    have hz' : 0 < nE := by omega
    go_wp2_with fail
    refine (around_any at_ nE _ hn1 hn2 (by omega) (by omega)).mono ?_
    rintro e w' ⟨m, hm, rfl, rfl⟩
    obtain ⟨g4, rfl, hg1, hg2, hcm, hfm, hset⟩ := H4.out.1.at_ hm
    obtain ⟨hs1, hs2⟩ := hset c
    have H5 : Hid (∃ Z, Z.length = nE ∧ Byt Z ∧ Row .u8 5 P1 (w4.setCell ⟨g4, m, none⟩ (.int .u8 c)).heap.size (w4.setCell ⟨g4, m, none⟩ (.int .u8 c)) (some ⟨g4, 0, none⟩) nE k4 Z ∧ Below B w (w4.setCell ⟨g4, m, none⟩ (.int .u8 c))) :=
      ⟨E.set m c, by rw [List.length_set]; exact HnE.out, byt_set HBY.out m ⟨hc0, hc1⟩, by have := hs1; simpa [World.setCell] using this, H4.out.2.trans (hs2.below (by have := H4.out.2.size; have := HB.out; omega) (fun j e => by have := e.1; omega))⟩
    clear hs1 hs2 hset hz HnE HBY
    go_wp2_with fail
    obtain ⟨w5, hw5⟩ : ∃ w5, w4.setCell ⟨g4, m, none⟩ (.int .u8 c) = w5 := ⟨_, rfl⟩
    rw [hw5] at H5 ⊢
    obtain ⟨A4, hA4⟩ : ∃ A : Option Addr, some ⟨g4, 0, none⟩ = A := ⟨_, rfl⟩
    rw [hA4] at H5 ⊢
    clear hw5 hA4 hcm hfm H4 hg1 hg2 hm hP14
  all_goals
    obtain ⟨Z, hZn, hZb, hr5, hb5⟩ := H5.out
    have hZl : Z.length ≤ 2000 := by omega
    have cF := few_any a cap 60 raw w5 (Sli.below HRAW.out.1 (by rw [HB.out]; exact hb5)) (by omega)
    rw [HN0.out] at cF
    have CF := Lib.hid cF
    have HZ := Lib.hid (And.intro hZn (And.intro hZb (And.intro hr5 (And.intro hb5 hZl))))
    clear cF hZn hZb hr5 hb5 hZl H5
    refine CF.out.mono ?_
    rintro e w9 h9
    obtain ⟨AF, kF, rfl, row9, b9⟩ := row_of_new h9
    obtain ⟨F, hF⟩ : ∃ F, raw.take 60 = F := ⟨_, rfl⟩
    obtain ⟨nF, hnF⟩ : ∃ n, F.length = n := ⟨_, rfl⟩
    have hFb : Byt F := by rw [← hF]; exact HRAW.out.2.take 60
    have hF60 : nF ≤ 60 := by rw [← hnF, ← hF, List.length_take]; omega
    rw [hF, hnF] at row9 ⊢
    obtain ⟨X, hX⟩ : ∃ X, w9.heap.size = X := ⟨_, rfl⟩
    have hBX : B ≤ X := by have := b9.size; have := HZ.out.2.2.2.1.size; have := HB.out; omega
    have hd0 : Dat w9 X AF nF kF F := ⟨hnF, hFb, by omega, by rw [← hX]; exact leftQ_of_row row9, by rw [← hX]; exact row9.sli⟩
    have hr9 := HZ.out.2.2.1.below b9 (Nat.le_refl _)
    have hd1 : Dat w9 X A4 nE k4 Z := (show Dat w9 w5.heap.size A4 nE k4 Z from ⟨HZ.out.1, HZ.out.2.1, HZ.out.2.2.2.2, leftQ_of_row hr9, hr9.sli⟩).mono (by have := b9.size; omega)
    obtain ⟨w10, hw10⟩ : ∃ W, w9.alloc (.cells #[.slice AF nF kF, .slice A4 nE k4] 24) = W := ⟨_, rfl⟩
    have hb10 : Below X w9 w10 := by rw [← hw10, ← hX]; exact below_new w9 _
    have hx10 : Blk w10 X 24 #[.slice AF nF kF, .slice A4 nE k4] := by rw [← hw10, ← hX]; exact Blk.new _ _ _
    obtain ⟨XE, hXE⟩ : ∃ n, X + 1 = n := ⟨_, rfl⟩
    have hs10 : w10.heap.size = XE := by rw [← hw10, World.size_alloc, hX, hXE]
    have HDT : Hid (∀ j, j < 2 → ∃ A n k zs, w10.cell? ⟨X, j, none⟩ = some (.slice A n k) ∧ Dat w10 XE A n k zs) := by
      intro j hj
      have : j = 0 ∨ j = 1 := by omega
      rcases this with rfl | rfl
      · exact ⟨AF, nF, kF, F, hx10.cell 0, (hd0.keep hb10).mono (by omega)⟩
      · exact ⟨A4, nE, k4, Z, hx10.cell 1, (hd1.keep hb10).mono (by omega)⟩
    have H10 : Hid (Below B w w10) := (HZ.out.2.2.2.1.trans (b9.mono (by have := HZ.out.2.2.2.1.size; have := HB.out; omega))).trans (hb10.mono hBX)
    have HS10 := Lib.hid hs10
    have HW10 := Lib.hid hw10
    have HX := Lib.hid hX
    clear h9 row9 b9 hF hnF hFb hr9 hd0 hd1 hw10 hb10 hx10 hs10 CF hX
    go_wp2_with fail
    rw [HX.out, show w9.alloc (.cells #[.slice AF nF kF, .slice A4 nE k4] 24) = w10 from HW10.out]
    go_loopw [13] (fun i wr => ∃ j : Nat, j ≤ 2 ∧ i = .int .i64 j ∧ Hid (Below XE w10 wr)) (fun i _ => 2 - (intOf i).toNat)
    case atStart => exact ⟨0, by omega, rfl, Below.refl _ _⟩
    case round =>
      obtain ⟨j, hj, rfl, HR⟩ := hrel
      by_cases hlt : j < 2
      · obtain ⟨A, n, k, zs, hc, hdat⟩ := HDT.out j hlt
        have hcr := (HR.out.cell (p := ⟨X, j, none⟩) (by show X < XE; omega)).trans hc
        have hdr := hdat.keep HR.out
        obtain ⟨D, hD⟩ : ∃ D, wr.heap.size = D := ⟨_, rfl⟩
        have hXD : XE ≤ D := by have := HR.out.size; have := HS10.out; omega
        have hdD := hdr.mono hXD
        have c3 := rread_any A k zs wr (hdr.sl.mono (by omega)) hdr.byt (by have := hdr.le; omega)
        rw [hdr.len, hD] at c3
        have C3 := Lib.hid c3; have HDD := Lib.hid hdD; have HD := Lib.hid hD
        clear hc hdat hdr hdD c3 hD
        go_wp2_with fail
        refine C3.out.mono ?_
        rintro e w11 ⟨p, rfl, hr, hb⟩
        have hcr2 := (hb.cell (p := ⟨X, j, none⟩) (by show X < D; omega)).trans hcr
        obtain ⟨q, hq⟩ : ∃ q, w11.heap.size = q := ⟨_, rfl⟩
        have hDp := hr.lt.1
        have hpq : p < q := by have := hr.lt.2; omega
        obtain ⟨w12, hw12⟩ : ∃ W, w11.alloc (.cells #[.slice A n k, .int .i64 0] 47) = W := ⟨_, rfl⟩
        have hb12 : Below q w11 w12 := by rw [← hw12, ← hq]; exact below_new w11 _
        have H12 : Hid (∃ st, Rd w12 D p st ∧ Rq w12 D q st ∧ Below D wr w12) := by
          refine ⟨.ok zs, hr.below (by rw [hq]; exact hb12), ?_, hb.trans (hb12.mono (by omega))⟩
          have := rq_new HDD.out hb (by rw [HD.out]; exact Nat.le_refl _)
          rw [hw12, hq] at this
          exact this
        have HW12 := Lib.hid hw12; have HQ := Lib.hid hq
        clear hr hb hb12 hw12 hq hcr C3
        go_wp2_with fail
        rw [HQ.out, show w11.alloc (.cells #[.slice A n k, .int .i64 0] 47) = w12 from HW12.out]
        obtain ⟨wo, rfl⟩ : ∃ wo : World, wo = wr := ⟨_, rfl⟩
        go_loopw [16] (fun i wi => ∃ kk : Nat, kk ≤ n4 ∧ kk ≤ 10 ∧ i = .int .i64 kk ∧ Hid (∃ st, Rd wi D p st ∧ Rq wi D q st ∧ Below D wo wi)) (fun i _ => 10 - (intOf i).toNat)
        case atStart => exact ⟨0, Nat.zero_le _, by omega, rfl, H12⟩
        case round =>
          obtain ⟨kk, hk4, hk10, rfl, HI⟩ := hrel
          have hways : (kk < n4 ∧ kk < 10) ∨ ¬ kk < n4 ∨ (kk < n4 ∧ ¬ kk < 10) := by omega
          rcases hways with ⟨h1, h2⟩ | h1 | ⟨h1, h2⟩
          case inl =>
            obtain ⟨ha, hbb⟩ := HAB.out.resolve_left (by omega)
            obtain ⟨st, hrd, hrq, hbl⟩ := HI.out
            have hBwr := (H10.out.trans (HR.out.mono (by omega))).trans (hbl.mono (by omega))
            have hck := (hBwr.cell (p := ⟨bb, off + kk, none⟩) hbb).trans (HCB.out kk h1)
            have hx := HK.out.at_ kk
            generalize ks[kk]?.getD 0 = x at hck hx
            obtain ⟨hx1, hx2⟩ := hx
            have HRD := Lib.hid hrd; have HRQ := Lib.hid hrq; have HBL := Lib.hid hbl
            have hqs := hrq.lt.2
            clear hrd hrq hbl hBwr
            subst ha
            go_wp2_with fail
            refine (around_any x 6 _ hx1 hx2 (by omega) (by omega)).mono ?_
            rintro e w' ⟨kd, hkd, rfl, rfl⟩
            have hk5 : kd ≤ 5 := by omega
            obtain ⟨⟨R, s⟩, hR⟩ : ∃ x, rdV kd st = x := ⟨_, rfl⟩
            have c6 := read_any D p kd st wr HRD.out hk5
            have c7 := fun W h => qread_any D q kd st W h hk5
            have hlen := rdV_len HRD.out hk5
            rw [hR] at c6 c7 hlen
            have C6 := Lib.hid c6; have C7 := Lib.hid c7; have HLEN := Lib.hid hlen
            clear c6 c7 hlen hR hck
            go_wp2_with fail
            refine C6.out.mono ?_
            rintro e wa ⟨ab', cb', al', cl', rfl, hb', hl', hra, hoa⟩
            have HA : Hid (SlT .u8 5 wr.heap.size wa ab' cb' R.b ∧ SlT .i64 3 wr.heap.size wa al' cl' R.l ∧ Rd wa D p s ∧ Rq wa D q st ∧ Below D wo wa) :=
              ⟨hb', hl', hra, HRQ.out.only hoa (fun b h => by omega), HBL.out.trans (hoa.below (by omega) (fun j e => by omega))⟩
            clear hb' hl' hra hoa
            go_wp2_with fail
            refine (C7.out _ HA.out.2.2.2.1).mono ?_
            rintro e wb ⟨ab2, cb2, al2, cl2, rfl, hb2, hl2, hrb, hob⟩
            have hqb := hrb.lt.2
            have c8 := same_any R ab' cb' al' cl' ab2 cb2 al2 cl2 wb
              (HA.out.1.keep (fun g cur f hg hc => hob.block g (Array.getElem?_eq_some_iff.1 hc).1 (by omega))).sli
              (HA.out.2.1.keep (fun g cur f hg hc => hob.block g (Array.getElem?_eq_some_iff.1 hc).1 (by omega))).sli
              (hb2.mono (by omega)) hl2.sli HLEN.out.1 HLEN.out.2
            have HBB : Hid (Rd wb D p s ∧ Rq wb D q s ∧ Below D wo wb) := ⟨HA.out.2.2.1.only hob (fun b h1 h2 => by omega), hrb, HA.out.2.2.2.2.trans (hob.below (by have := HA.out.2.2.2.1.lt.2; omega) (fun j e => by omega))⟩
            have C8 := Lib.hid c8
            clear c8 hb2 hl2 hrb hob
            go_wp2_with fail
            refine C8.out.mono ?_
            rintro e wc ⟨rfl, hbc⟩
            have HCC : Hid (Rd wc D p s ∧ Rq wc D q s ∧ Below D wo wc) := ⟨HBB.out.1.below hbc, HBB.out.2.1.below hbc, HBB.out.2.2.trans (hbc.mono (by omega))⟩
            obtain ⟨E1, hE1⟩ : ∃ e, rdEnd s = e := ⟨_, rfl⟩
            have c9 := rend_any D p s wc HCC.out.1
            have c10 := qend_any D q s wc HCC.out.2.1
            rw [hE1] at c9 c10
            have C9 := Lib.hid c9; have C10 := Lib.hid c10
            have hne : (E1 != E1) = false := by simp
            clear hbc c9 c10 hE1
            go_wp2_with fail
            refine C9.out.mono ?_
            rintro e w' ⟨rfl, rfl⟩
            go_wp2_with fail
            refine C10.out.mono ?_
            rintro e w' ⟨rfl, rfl⟩
            go_wp2
            go_roundw
            case rel => exact ⟨kk + 1, by omega, by omega, by go_num, ⟨s, HCC.out⟩⟩
            case measure => simp [intOf]; omega
          all_goals
            have HF : Hid (Below XE w10 wr) := by
              obtain ⟨st, _, _, hbl⟩ := HI.out
              exact HR.out.trans (hbl.mono hXD)
            go_wp2
            go_roundw
            case rel => exact ⟨j + 1, by omega, by go_num, HF⟩
            case measure => simp [intOf]; omega
      · obtain rfl : 2 = j := by omega
        go_wp2_with fail
        refine (wlives_any _).mono ?_
        rintro e wf ⟨rfl, hbf⟩
        have HFF : Hid (Below B w wf) := (H10.out.trans (HR.out.mono (by omega))).trans (hbf.mono (by have := HR.out.size; have := HS10.out; omega))
        clear hbf
        go_wp2
        go_ret
        exact ⟨rfl, by rw [HB.out]; exact HFF.out⟩

theorem walk (a0 : Option Addr) (len0 cap0 : Nat) (z0 : List Int) (a1 : Option Addr) (len1 cap1 : Nat) (z1 : List Int) (a2 : Int) (a3 : Int) (a4 : Option Addr) (len4 cap4 : Nat) (z4 : List Int) (w : World) (w0 : IsRow .u8 w a0 len0 cap0 z0) (w1 : IsRow .i64 w a1 len1 cap1 z1) (w2 : (Lit.int .i64 a2).wf = true) (w3 : (Lit.int .u8 a3).wf = true) (w4 : IsRow .i64 w a4 len4 cap4 z4) :
    Calls Try.prog 4 #[.slice a0 len0 cap0, .slice a1 len1 cap1, .int .i64 a2, .int .u8 a3, .slice a4 len4 cap4] w fun e w' => e = .returned (.bool true) ∧ Below w.heap.size w w' := by
  obtain ⟨raw, rfl, hl0, hwl0⟩ := sli_of_isRow w0
  obtain ⟨ls, rfl, hl, hwl⟩ := sli_of_isRow w1
  obtain ⟨ks, rfl, hl4, hwl4⟩ := sli_of_isRow w4
  exact walkB a0 cap0 raw a1 cap1 ls a2 a3 a4 cap4 ks w hl0 (byt_of_wf hwl0) hl (fun n hn => wf_i64 (hwl n hn)) (wf_i64 w2).1 (wf_i64 w2).2 (wf_u8 w3).1 (wf_u8 w3).2 hl4 (fun n hn => wf_i64 (hwl4 n hn))

/-! ### THE ROW's STEP: WRITTEN OUT: LEAVE IT -/
set_option maxRecDepth 100000 in
theorem lifted (os : Os) (started : os.Started) (H : Type) (enc : TypeId × Value → H) :
    ReturnsInHanded {} Try.checked os 4 .any (Rows.wireReadsSpec.pre6 enc Try.prog Try.f4 Rows.wireReadsRow.domain false) (Rows.wireReadsSpec.post enc Try.prog Try.f4 false true false false) := by
  refine returnsInHanded_of_change (C := Try.checked) own started (by kernel_rfl) Try.func4
    (ChangeSpec.witness6 (enc := enc) (C := Try.checked) false ⟨#[], #[.slice none 0 0, .slice none 0 0, .int .i64 0, .int .u8 0, .slice none 0 0], []⟩ 8 (by kernel_rfl) (by kernel_rfl) (by kernel_rfl) (by kernel_rfl)) ?_
  intro W base args ds gs before hval0 hW hcnd _
  have hval : ∀ (j : Nat) t v, Try.f4.params[j]? = some t → args[j]? = some v → Value.okWide Try.prog W .any base t v := hval0
  have hW' := hW
  obtain ⟨p, q, hA0, hV, rfl, hfz, hnd⟩ := hW
  have hA : DataW.TrodAll enc Try.prog W 0 (fun _ => true) true Try.f4.params.toList args.toList ds p := hA0
  rw [Try.params4] at hA hval
  obtain ⟨v0, vs0, d0, ds0, p0, q0, hargs, rfl, rfl, h0, r0⟩ := trodAll_cons hA
  obtain ⟨v1, vs1, d1, ds1, p1, q1, rfl, rfl, rfl, h1, r1⟩ := trodAll_cons r0
  obtain ⟨v2, vs2, d2, ds2, p2, q2, rfl, rfl, rfl, h2, r2⟩ := trodAll_cons r1
  obtain ⟨v3, vs3, d3, ds3, p3, q3, rfl, rfl, rfl, h3, r3⟩ := trodAll_cons r2
  obtain ⟨v4, vs4, d4, ds4, p4, q4, rfl, rfl, rfl, h4, r4⟩ := trodAll_cons r3
  obtain ⟨rfl, rfl, rfl⟩ := trodAll_nil r4
  obtain rfl : args = #[v0, v1, v2, v3, v4] := by cases args; simp_all
  obtain ⟨rfl, rfl⟩ := trodVars_none hV
  obtain ⟨a0, len0, cap0, rfl⟩ := okWide_slice Try.underlying24 (hval 0 24 v0 rfl rfl)
  have k0 := h0
  have lt0 : ∀ x ∈ p0, x.block < W.heap.size := by obtain ⟨m, hm⟩ := k0; exact DataW.trod_lt m _ _ _ hm
  obtain ⟨z0, w0⟩ : ∃ zs, IsRow .u8 W a0 len0 cap0 zs := by
    obtain ⟨fuel, hf⟩ := h0
    rcases open_ints Try.underlying24 Try.underlying5 (by kernel_rfl) hf with ⟨hcs, _⟩ | ⟨x, l, c, zs, hcs, _, hl, hm, hz, _, hcell, hwz⟩
    · simp [Value.cells] at hcs
      obtain ⟨rfl, rfl, rfl⟩ := hcs
      exact ⟨[], .inl ⟨rfl, rfl, rfl, rfl⟩⟩
    · simp [Value.cells] at hcs
      obtain ⟨rfl, rfl, rfl⟩ := hcs
      exact ⟨zs, .inr ⟨_, rfl, hl, hm, by simpa using hz, hcell, hwz⟩⟩
  obtain ⟨a1, len1, cap1, rfl⟩ := okWide_slice Try.underlying22 (hval 1 22 v1 rfl rfl)
  have k1 := h1
  have lt1 : ∀ x ∈ p1, x.block < W.heap.size := by obtain ⟨m, hm⟩ := k1; exact DataW.trod_lt m _ _ _ hm
  obtain ⟨z1, w1⟩ : ∃ zs, IsRow .i64 W a1 len1 cap1 zs := by
    obtain ⟨fuel, hf⟩ := h1
    rcases open_ints Try.underlying22 Try.underlying3 (by kernel_rfl) hf with ⟨hcs, _⟩ | ⟨x, l, c, zs, hcs, _, hl, hm, hz, _, hcell, hwz⟩
    · simp [Value.cells] at hcs
      obtain ⟨rfl, rfl, rfl⟩ := hcs
      exact ⟨[], .inl ⟨rfl, rfl, rfl, rfl⟩⟩
    · simp [Value.cells] at hcs
      obtain ⟨rfl, rfl, rfl⟩ := hcs
      exact ⟨zs, .inr ⟨_, rfl, hl, hm, by simpa using hz, hcell, hwz⟩⟩
  obtain ⟨a2, rfl, rfl, rfl, w2⟩ := open_int Try.underlying3 (hval 2 3 v2 rfl rfl) h2
  obtain ⟨a3, rfl, rfl, rfl, w3⟩ := open_int Try.underlying5 (hval 3 5 v3 rfl rfl) h3
  obtain ⟨a4, len4, cap4, rfl⟩ := okWide_slice Try.underlying22 (hval 4 22 v4 rfl rfl)
  have k4 := h4
  have lt4 : ∀ x ∈ p4, x.block < W.heap.size := by obtain ⟨m, hm⟩ := k4; exact DataW.trod_lt m _ _ _ hm
  obtain ⟨z4, w4⟩ : ∃ zs, IsRow .i64 W a4 len4 cap4 zs := by
    obtain ⟨fuel, hf⟩ := h4
    rcases open_ints Try.underlying22 Try.underlying3 (by kernel_rfl) hf with ⟨hcs, _⟩ | ⟨x, l, c, zs, hcs, _, hl, hm, hz, _, hcell, hwz⟩
    · simp [Value.cells] at hcs
      obtain ⟨rfl, rfl, rfl⟩ := hcs
      exact ⟨[], .inl ⟨rfl, rfl, rfl, rfl⟩⟩
    · simp [Value.cells] at hcs
      obtain ⟨rfl, rfl, rfl⟩ := hcs
      exact ⟨zs, .inr ⟨_, rfl, hl, hm, by simpa using hz, hcell, hwz⟩⟩
  clear hA0 hval0
  refine (walk a0 len0 cap0 z0 a1 len1 cap1 z1 a2 a3 a4 len4 cap4 z4 W w0 w1 w2 w3 w4).mono fun e W' ⟨he, bel⟩ => ?_
  subst he
  exact ⟨_, rfl, _, _, _, [], _, [], hW', trodAll_mk1 (shut_bool Try.underlying4 _), (trodAll_cons_mk (Below.trod laidOut (by kernel_rfl) (of_decide_eq_true (by kernel_rfl)) k0 bel lt0) (trodAll_cons_mk (Below.trod laidOut (by kernel_rfl) (of_decide_eq_true (by kernel_rfl)) k1 bel lt1) (trodAll_cons_mk (shut_int Try.underlying3 w2) (trodAll_cons_mk (shut_int Try.underlying5 w3) (trodAll_cons_mk (Below.trod laidOut (by kernel_rfl) (of_decide_eq_true (by kernel_rfl)) k4 bel lt4) trodAll_mk0))))), rfl, bel.frame _, fun h => by cases h⟩

theorem over : Rows.wireReadsRow.holds Try.pinned (OpenSpec.ofChange Rows.wireReadsSpec) :=
  OpenClaim.holds_of_wide 4 Try.f4 rfl rfl rfl rfl rfl rfl rfl ⟨rfl, rfl, rfl, rfl, rfl⟩ rfl rfl rfl rfl rfl (by kernel_rfl) Try.func4 (by kernel_rfl)
    (of_decide_eq_true (by kernel_rfl)) (by unfold Func.isWrapper; first | (rw [if_pos (by decide +kernel)]; kernel_rfl) | (rw [if_neg (by decide +kernel)]; exact ⟨rfl, rfl⟩))
    (fun os started H enc _ => lifted os started H enc)

/-- ████ THE STATEMENT ████ -/
theorem proved : Rows.WireReadsSaid := over
#print axioms proved
end Go.Proofs.Ytfnpnomfdfdonaa.wireReads
