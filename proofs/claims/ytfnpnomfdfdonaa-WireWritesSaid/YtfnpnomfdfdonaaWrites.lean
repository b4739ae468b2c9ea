/- For all sequences of values, the bytes of a Writer are the specified ones after every value (P2.1). It has no conditions. The frame below is the guide's shell. -/
import Derived.Test.YtfnpnomfdfdonaaRows
import Derived.Test.YtfnpnomfdfdonaaWLives
import Derived.Test.YtfnpnomfdfdonaaWPush
import Derived.Test.YtfnpnomfdfdonaaVals
import Derived.Test.YtfnpnomfdfdonaaFew
import Derived.Test.YtfnpnomfdfdonaaInts
import Derived.Test.YtfnpnomfdfdonaaWf
import Derived.Test.YtfnpnomfdfdonaaSameBytes
import Derived.WalkKit
import Derived.ProofKit
import Derived.OpenShut
import Derived.ShutString
import Derived.ChangeOld
import Derived.Below
import Derived.Deep.RegionWith
namespace Go.Proofs.Ytfnpnomfdfdonaa.wireWrites
open Go.ChangeShapes Go.WideShapes Go.ChangeAt Go.RowKit
open Go.ChangeMaps (open_string shut_string)
set_option linter.unusedVariables false

theorem own : ownKnob Try.prog.godebug = none := by kernel_rfl
theorem laidOut : laidOutB Try.prog = true := by kernel_rfl

set_option maxRecDepth 100000 in
set_option maxHeartbeats 8000000 in
theorem walkB (a : Option Addr) (cap : Nat) (ls : List Int) (u : Nat) (n : Int) (b : Option Addr) (capb : Nat) (raw : List Int) (d : Option Addr) (capd : Nat) (lst : List Int) (w : World)
    (h : Sli .i64 w a cap ls) (hi : I64 ls) (hu : u < 18446744073709551616) (hn1 : -9223372036854775808 ≤ n) (hn2 : n ≤ 9223372036854775807) (h2 : Sli .u8 w b capb raw) (hz : Byt raw) (h3 : Sli .i64 w d capd lst) (hi3 : I64 lst) :
    Calls Try.prog 3 #[.slice a ls.length cap, .int .u64 (u : Int), .int .i64 n, .slice b raw.length capb, .slice d lst.length capd] w fun e w' => e = .returned (.bool true) ∧ Below w.heap.size w w' := by
  obtain ⟨iv, hiv, hv0, hv1, hv2⟩ := info_parts info28
  obtain ⟨B, hB⟩ : ∃ B, w.heap.size = B := ⟨_, rfl⟩
  have c1 := vals_any a cap ls w h hi
  unfold ValsPost at c1
  rw [hB] at c1
  have C1 := Lib.hid c1; have HB := Lib.hid hB
  have HRAW := Lib.hid (And.intro h2 hz); have HLST := Lib.hid (And.intro h3 hi3)
  obtain ⟨nb, hnb⟩ : ∃ n, raw.length = n := ⟨_, rfl⟩
  obtain ⟨nl, hnl⟩ : ∃ n, lst.length = n := ⟨_, rfl⟩
  have HNB := Lib.hid hnb; have HNL := Lib.hid hnl
  rw [hnb, hnl]
  clear c1 h hi hB h2 hz h3 hi3 hnb hnl
  go_enter Try.func3, Try.ntmps3
  go_wp2_with fail
  refine C1.out.mono ?_
  rintro e w1 ⟨ov, vs, rfl, hvr, hvl, hvg, hbel⟩
  have hBW : B ≤ w1.heap.size := by have := hbel.size; have := HB.out; omega
  have cF := few_any b capb 200 raw w1 (Sli.below HRAW.out.1 (by rw [HB.out]; exact hbel)) (by omega)
  rw [HNB.out] at cF
  have CF := Lib.hid cF
  have H1 := Lib.hid (And.intro hvr (And.intro hvg hbel))
  clear hvr hvg hbel C1 cF
  go_wp2_with fail
  refine CF.out.mono ?_
  rintro e w2 h9
  obtain ⟨AF, kF, rfl, row9, b9⟩ := row_of_new h9
  obtain ⟨F, hF⟩ : ∃ F, raw.take 200 = F := ⟨_, rfl⟩
  have hFb : Byt F := by rw [← hF]; exact HRAW.out.2.take 200
  have hF2 : F.length ≤ 200 := by rw [← hF, List.length_take]; omega
  rw [hF] at row9 ⊢
  have hsF : SlT .u8 5 B w2 AF kF F := (slT_of_own row9.own).mono hBW
  have hb2 : Below B w w2 := H1.out.2.2.trans (b9.mono hBW)
  have cL := ints_any d capd 20 lst w2 (Sli.below HLST.out.1 (by rw [HB.out]; exact hb2)) (by omega)
  rw [HNL.out] at cL
  have CL := Lib.hid cL
  have H2 : Hid (VRow B w2 ov vs ∧ (∀ v ∈ vs, Good v) ∧ SlT .u8 5 B w2 AF kF F ∧ Byt F ∧ Below B w w2) := ⟨H1.out.1.below b9, H1.out.2.1, hsF, hFb, hb2⟩
  have hBW2 : B ≤ w2.heap.size := by have := b9.size; omega
  clear h9 row9 b9 hF hFb hsF hb2 cL CF H1
  go_wp2_with fail
  refine CL.out.mono ?_
  rintro e w3 h9
  obtain ⟨AL, kL, rfl, row9, b9⟩ := row_of_new h9
  obtain ⟨L, hL⟩ : ∃ L, lst.take 20 = L := ⟨_, rfl⟩
  have hLb : I64 L := by rw [← hL]; exact HLST.out.2.take 20
  have hL2 : L.length ≤ 20 := by rw [← hL, List.length_take]; omega
  rw [hL] at row9 ⊢
  have hsL : SlT .i64 3 B w3 AL kL L := (slT_of_own row9.own).mono hBW2
  obtain ⟨css, hcl, hown, hat⟩ := (H2.out.1.below b9).ex
  have HO := Lib.hid hown
  have H3 := Lib.hid (And.intro hcl (And.intro hat (And.intro H2.out.2.1 (And.intro (H2.out.2.2.1.below b9) (And.intro H2.out.2.2.2.1 (And.intro hsL (And.intro hLb (H2.out.2.2.2.2.trans (b9.mono hBW2)))))))))
  have hBW3 : B ≤ w3.heap.size := by have := b9.size; omega
  clear h9 row9 b9 hL hLb hsL CL H2 hcl hown hat
  obtain ⟨nF, hnF⟩ : ∃ n, F.length = n := ⟨_, rfl⟩
  obtain ⟨nL, hnL⟩ : ∃ n, L.length = n := ⟨_, rfl⟩
  have HnF := Lib.hid hnF; have HnL := Lib.hid hnL
  rw [hnF] at hF2 ⊢
  rw [hnL] at hL2 ⊢
  clear hnF hnL
  go_wp2_with (at_builtin; refine wpList_append_own _ rfl _ _ 25 rfl B 28 iv _ 5 72 Try.underlying25 hiv hv0 hv1 hv2 rfl (by decide) ov vs.length css.flatten rfl (HO.out.alloc _) ⟨w3.heap.size, 0, none⟩ 5 5 [.int .i64 0, .int .u64 (u : Int), .int .i64 0, .slice none 0 0, .slice none 0 0, .int .i64 1, .int .u64 0, .int .i64 n, .slice none 0 0, .slice none 0 0, .int .i64 4, .int .u64 0, .int .i64 0, .slice AF nF kF, .slice none 0 0, .int .i64 5, .int .u64 0, .int .i64 0, .slice none 0 0, .slice AL nL kL, .int .i64 2, .int .u64 0, .int .i64 1, .slice none 0 0, .slice none 0 0] rfl rfl (World.news_of_block (cs := #[.int .i64 0, .int .u64 (u : Int), .int .i64 0, .slice none 0 0, .slice none 0 0, .int .i64 1, .int .u64 0, .int .i64 n, .slice none 0 0, .slice none 0 0, .int .i64 4, .int .u64 0, .int .i64 0, .slice AF nF kF, .slice none 0 0, .int .i64 5, .int .u64 0, .int .i64 0, .slice none 0 0, .slice AL nL kL, .int .i64 2, .int .u64 0, .int .i64 1, .slice none 0 0, .slice none 0 0]) (t := 28) (fr := (0, 0)) (World.alloc_heap_new w3 _)) (by simp [Value.oneCell']) (by unfold maxLen; omega) (by omega) (by simp; omega) ?_; intro v' w4 hown3 hgrow3 _; obtain ⟨A3, k3, rfl⟩ := own_slice hown3)
  obtain ⟨N, hN⟩ : ∃ N, vs.length + 5 = N := ⟨_, rfl⟩
  have H4 : Hid (VRow B w4 (.slice A3 N k3) (vs ++ [⟨0, u, 0, [], []⟩, ⟨1, 0, n, [], []⟩, ⟨4, 0, 0, F, []⟩, ⟨5, 0, 0, [], L⟩, ⟨2, 0, 1, [], []⟩]) ∧ Below B w w4) := by
    rw [← hN]
    refine ⟨vrow_append (ds := [[.int .i64 0, .int .u64 (u : Int), .int .i64 0, .slice none 0 0, .slice none 0 0], [.int .i64 1, .int .u64 0, .int .i64 n, .slice none 0 0, .slice none 0 0], [.int .i64 4, .int .u64 0, .int .i64 0, .slice AF nF kF, .slice none 0 0], [.int .i64 5, .int .u64 0, .int .i64 0, .slice none 0 0, .slice AL nL kL], [.int .i64 2, .int .u64 0, .int .i64 1, .slice none 0 0, .slice none 0 0]]) H3.out.1 HO.out H3.out.2.1 rfl ?_ hgrow3 rfl hown3,
      (H3.out.2.2.2.2.2.2.2.alloc hBW3 _).grown hgrow3 (by simp; omega) (fun g eg => (HO.out.lt g eg).1)⟩
    intro j v c h1 h2
    match j with
    | 0 => simp at h1 h2; subst h1 h2; exact ⟨none, 0, none, 0, rfl, SlT.nil_ _ _ _ _, SlT.nil_ _ _ _ _⟩
    | 1 => simp at h1 h2; subst h1 h2; exact ⟨none, 0, none, 0, rfl, SlT.nil_ _ _ _ _, SlT.nil_ _ _ _ _⟩
    | 2 => simp at h1 h2; subst h1 h2; exact ⟨AF, kF, none, 0, by simp [HnF.out], H3.out.2.2.2.1, SlT.nil_ _ _ _ _⟩
    | 3 => simp at h1 h2; subst h1 h2; exact ⟨none, 0, AL, kL, by simp [HnL.out], SlT.nil_ _ _ _ _, H3.out.2.2.2.2.2.1⟩
    | 4 => simp at h1 h2; subst h1 h2; exact ⟨none, 0, none, 0, rfl, SlT.nil_ _ _ _ _, SlT.nil_ _ _ _ _⟩
    | j + 5 => simp at h1
  have hgood : ∀ v ∈ vs ++ [(⟨0, u, 0, [], []⟩ : V), ⟨1, 0, n, [], []⟩, ⟨4, 0, 0, F, []⟩, ⟨5, 0, 0, [], L⟩, ⟨2, 0, 1, [], []⟩], Good v := by
    intro v hv
    rcases List.mem_append.1 hv with h1 | h1
    · exact H3.out.2.2.1 v h1
    · simp at h1
      rcases h1 with rfl | rfl | rfl | rfl | rfl
      · exact good_u hu
      · exact good_n hn1 hn2
      · exact good_b (.inr rfl) H3.out.2.2.2.2.1 (by rw [HnF.out]; exact hF2)
      · exact good_l H3.out.2.2.2.2.2.2.1 (by rw [HnL.out]; exact hL2)
      · exact good_t (.inr rfl)
  have hal : (vs ++ [(⟨0, u, 0, [], []⟩ : V), ⟨1, 0, n, [], []⟩, ⟨4, 0, 0, F, []⟩, ⟨5, 0, 0, [], L⟩, ⟨2, 0, 1, [], []⟩]).length = N := by rw [← hN]; simp
  generalize vs ++ [(⟨0, u, 0, [], []⟩ : V), ⟨1, 0, n, [], []⟩, ⟨4, 0, 0, F, []⟩, ⟨5, 0, 0, [], L⟩, ⟨2, 0, 1, [], []⟩] = all at H4 hgood hal
  have hN10 : N ≤ 13 := by omega
  have hel := encs_len hgood
  rw [hal] at hel
  have HGD := Lib.hid hgood; have HAL := Lib.hid hal; have HEL := Lib.hid (show (encs all).length ≤ 3000 by omega)
  rw [hN]
  obtain ⟨P, hP⟩ : ∃ P, w4.heap.size = P := ⟨_, rfl⟩
  have HP := Lib.hid hP
  have hBP : B ≤ P := by have := H4.out.2.size; have := HB.out; omega
  have W1 : Hid (Wr (w4.alloc (.cells #[.slice none 0 0] 32)) P P (encs (all.take 0)) ∧ Below P w4 (w4.alloc (.cells #[.slice none 0 0] 32))) := by
    rw [← hP]; exact ⟨by simpa [encs] using wr_new w4, below_new w4 _⟩
  clear hown3 hgrow3 HO H3 hN hgood hal hel HnF HnL hP
  rw [HP.out]
  go_loopw [13] (fun i wr => ∃ k : Nat, k ≤ N ∧ i = .int .i64 k ∧ Hid (Wr wr P P (encs (all.take k)) ∧ Below P w4 wr)) (fun i _ => N - (intOf i).toNat)
  case atStart => exact ⟨0, Nat.zero_le _, rfl, W1⟩
  case round =>
    obtain ⟨k, hk, rfl, HR⟩ := hrel
    by_cases hlt : k < N
    · have hvk : all[k]? = some (all[k]'(by rw [HAL.out]; exact hlt)) := List.getElem?_eq_getElem _
      generalize all[k]'(by rw [HAL.out]; exact hlt) = v at hvk
      obtain ⟨g, cap', ab, cb, al, cl, hA, hg1, hg2, hsb, hsl, q0, q1, q2, q3, q4⟩ := H4.out.1.at_ hvk
      have hgood := HGD.out v (List.mem_of_getElem? hvk)
      have hb2 := HR.out.2
      rw [HP.out] at hg2
      rw [← hb2.cell (p := ⟨g, k * 5, none⟩) hg2] at q0
      rw [← hb2.cell (p := ⟨g, k * 5 + 1, none⟩) hg2] at q1
      rw [← hb2.cell (p := ⟨g, k * 5 + 2, none⟩) hg2] at q2
      rw [← hb2.cell (p := ⟨g, k * 5 + 3, none⟩) hg2] at q3
      rw [← hb2.cell (p := ⟨g, k * 5 + 4, none⟩) hg2] at q4
      have hs := encs_snoc all k v hvk
      have hlen := Nat.le_trans (encs_take_le all k) HEL.out
      have hlen2 := Nat.le_trans (encs_take_le all (k + 1)) HEL.out
      have c1 := write_any P P v ab cb al cl (encs (all.take k)) wr HR.out.1 hgood.fit (by have := SliAt.below hsb.sli (w' := wr) (by rw [HP.out]; exact hb2); rwa [HP.out] at this) (by have := SliAt.below hsl.sli (w' := wr) (by rw [HP.out]; exact hb2); rwa [HP.out] at this) (by omega)
      rw [← hs] at c1
      have C1 := Lib.hid c1
      have hvt := VRow.take H4.out.1 (k + 1) (by rw [HAL.out]; omega) (by omega)
      have htl : (all.take (k + 1)).length = k + 1 := by rw [List.length_take, HAL.out]; omega
      have hgt : ∀ v ∈ all.take (k + 1), Fit v := fun v hv => (HGD.out v (List.mem_of_mem_take hv)).fit
      obtain ⟨T, hT⟩ : ∃ T, all.take (k + 1) = T := ⟨_, rfl⟩
      rw [hT] at hvt htl hgt hlen2 c1 hs
      have HT := Lib.hid hT
      obtain ⟨Y, hY⟩ : ∃ Y, encs T = Y := ⟨_, rfl⟩
      obtain ⟨nY, hnY⟩ : ∃ n, Y.length = n := ⟨_, rfl⟩
      have HYY := Lib.hid hY; have HnY := Lib.hid hnY
      rw [hY] at hlen2
      have cD := fun W hW => wdone_any P P Y W hW (by omega)
      have cE := fun W hW => rencode_any B A3 k3 T W (by rw [htl]; exact hvt.below (w' := W) hW) hgt (by rw [htl]; omega) (by rw [hY]; omega)
      rw [htl, hY] at cE
      have CD := Lib.hid cD; have CE := Lib.hid cE
      simp only [Value.slice.injEq] at hA
      obtain ⟨hA, -, -⟩ := hA
      have hNi : (k : Int) < (N : Int) := by omega
      clear hsb hsl hgood hb2 hs hlen c1 hvk hg1 hvt hgt hT hY hnY cD cE
      subst hA
      go_wp2_with fail
      refine C1.out.mono ?_
      rintro e w5 ⟨⟨_, rfl⟩, hw, hb⟩
      have H5 : Hid (Wr w5 P P Y ∧ Below P w4 w5) := ⟨by have := hw; rw [HT.out, HYY.out] at this; exact this, HR.out.2.trans hb⟩
      have hsz5 := hb.size
      clear hw hb q0 q1 q2 q3 q4
      have hcap3 : N ≤ k3 := by
        obtain ⟨_, _, hown, _⟩ := H4.out.1.ex
        rcases hown.2 with ⟨hv, _⟩ | ⟨g', cap', cur, hv, _, _, hc, _⟩
        · simp at hv
        · simp only [Value.slice.injEq] at hv
          obtain ⟨_, _, rfl⟩ := hv
          rw [HAL.out] at hc; exact hc
      have hP5 : P ≤ w5.heap.size := by have := H5.out.1.lt; omega
      have CD2 : Hid (∀ W, Below w5.heap.size w5 W → Calls Try.prog 16 #[.pointer (some ⟨P, 0, none⟩)] W fun e w' => ∃ A k, e = .returned (.slice A nY k) ∧ Sli .u8 w' A k Y ∧ Below W.heap.size W w' ∧ Below w5.heap.size w5 w') := by
        intro W hW
        refine (CD.out W (H5.out.1.below hW)).mono ?_
        intro e w' h
        obtain ⟨A, k, rfl, row, hb⟩ := row_of_new h
        exact ⟨A, k, by rw [HnY.out], row.sli, hb, hW.trans (hb.mono hW.size)⟩
      have CE2 : Hid (∀ W, Below w5.heap.size w5 W → Calls Try.prog 17 #[.slice (some ⟨g, 0, none⟩) (k + 1) k3] W fun e w' => ∃ A k, e = .returned (.slice A nY k) ∧ Sli .u8 w' A k Y ∧ Below W.heap.size W w' ∧ Below w5.heap.size w5 w') := by
        intro W hW
        refine (CE.out W (by rw [HP.out]; exact H5.out.2.trans (hW.mono hP5))).mono ?_
        intro e w' h
        obtain ⟨A, k, rfl, row, hb⟩ := row_of_new h
        exact ⟨A, k, by rw [HnY.out], row.sli, hb, hW.trans (hb.mono hW.size)⟩
      have CS2 : Hid (∀ W A k A' k', Sli .u8 W A k Y → Sli .u8 W A' k' Y → Below w5.heap.size w5 W → Calls Try.prog 15 #[.slice A nY k, .slice A' nY k'] W fun e w' => e = .returned (.bool true) ∧ Below w5.heap.size w5 w') := by
        intro W A k A' k' h1 h2 hW
        have c9 := sameBytes_any A A' k k' Y Y W h1 h2 (by omega) (by omega)
        simp only [decide_true] at c9
        rw [HnY.out] at c9
        refine c9.mono ?_
        rintro e w' ⟨rfl, hb⟩
        exact ⟨rfl, hW.trans (hb.mono hW.size)⟩
      have hci : (k : Int) + 1 ≤ (k3 : Int) := by omega
      have hwr : IntKind.i64.wrap ((k : Int) + 1) = (k : Int) + 1 := by simp [IntKind.wrap, IntKind.signed, IntKind.bits]; omega
      have htn : ((k : Int) + 1).toNat = k + 1 := by omega
      have hck : k + 1 ≤ k3 := by omega
      have hk0 : (0 : Int) ≤ (k : Int) + 1 := by omega
      clear CD CE
      go_wp2_with fail
      go_region_with (first | (go_at_call 16; refine (CD2.out _ (by first | exact (Below.refl _ _).drew | exact hbe2)).mono ?_; rintro e wd ⟨Ad, kd, rfl, hsd, hbd, hbd2⟩) | (go_at_call 17; refine (CE2.out _ (by first | exact (Below.refl _ _).drew | exact hbd2)).mono ?_; rintro e we ⟨Ae, ke, rfl, hse, hbe, hbe2⟩) | (go_at_call 15; refine (CS2.out _ _ _ _ _ (by first | exact hsd | exact Sli.below hsd hbe) (by first | exact hse | exact Sli.below hse hbd) (by first | exact hbe2 | exact hbd2)).mono ?_; rintro e wf ⟨rfl, hbf⟩; have H6 : Hid (Wr wf P P (encs (all.take (k + 1))) ∧ Below P w4 wf) := ⟨by rw [HT.out, HYY.out]; exact H5.out.1.below hbf, H5.out.2.trans (hbf.mono hP5)⟩; clear hbf))
      all_goals
        go_wp2
        go_roundw
        case rel => exact ⟨k + 1, by omega, by go_num, H6⟩
        case measure => simp [intOf]; omega
    · obtain rfl : N = k := by omega
      go_wp2_with fail
      refine (wlives_any _).mono ?_
      rintro e w9 ⟨rfl, hb9⟩
      have H9 : Hid (Below B w w9) := (H4.out.2.trans (HR.out.2.mono hBP)).trans (hb9.mono (by have := HR.out.1.lt; omega))
      clear hb9
      go_wp2
      go_ret
      exact ⟨rfl, by rw [HB.out]; exact H9.out⟩

theorem walk (a0 : Option Addr) (len0 cap0 : Nat) (z0 : List Int) (a1 : Int) (a2 : Int) (a3 : Option Addr) (len3 cap3 : Nat) (z3 : List Int) (a4 : Option Addr) (len4 cap4 : Nat) (z4 : List Int) (w : World) (w0 : IsRow .i64 w a0 len0 cap0 z0) (w1 : (Lit.int .u64 a1).wf = true) (w2 : (Lit.int .i64 a2).wf = true) (w3 : IsRow .u8 w a3 len3 cap3 z3) (w4 : IsRow .i64 w a4 len4 cap4 z4) :
    Calls Try.prog 3 #[.slice a0 len0 cap0, .int .u64 a1, .int .i64 a2, .slice a3 len3 cap3, .slice a4 len4 cap4] w fun e w' => e = .returned (.bool true) ∧ Below w.heap.size w w' := by
  obtain ⟨ls, rfl, hl0, hwl0⟩ := sli_of_isRow w0
  obtain ⟨raw, rfl, hl3, hwl3⟩ := sli_of_isRow w3
  obtain ⟨lst, rfl, hl4, hwl4⟩ := sli_of_isRow w4
  have h1 := wf_u64 w1
  obtain ⟨u, rfl⟩ : ∃ u : Nat, a1 = (u : Int) := ⟨a1.toNat, by omega⟩
  exact walkB a0 cap0 ls u a2 a3 cap3 raw a4 cap4 lst w hl0 (fun n hn => wf_i64 (hwl0 n hn)) (by omega) (wf_i64 w2).1 (wf_i64 w2).2 hl3 (byt_of_wf hwl3) hl4 (fun n hn => wf_i64 (hwl4 n hn))

/-! ### THE ROW's STEP: WRITTEN OUT: LEAVE IT -/
set_option maxRecDepth 100000 in
theorem lifted (os : Os) (started : os.Started) (H : Type) (enc : TypeId × Value → H) :
    ReturnsInHanded {} Try.checked os 3 .any (Rows.wireWritesSpec.pre6 enc Try.prog Try.f3 Rows.wireWritesRow.domain false) (Rows.wireWritesSpec.post enc Try.prog Try.f3 false true false false) := by
  refine returnsInHanded_of_change (C := Try.checked) own started (by kernel_rfl) Try.func3
    (ChangeSpec.witness6 (enc := enc) (C := Try.checked) false ⟨#[], #[.slice none 0 0, .int .u64 0, .int .i64 0, .slice none 0 0, .slice none 0 0], []⟩ 8 (by kernel_rfl) (by kernel_rfl) (by kernel_rfl) (by kernel_rfl)) ?_
  intro W base args ds gs before hval0 hW hcnd _
  have hval : ∀ (j : Nat) t v, Try.f3.params[j]? = some t → args[j]? = some v → Value.okWide Try.prog W .any base t v := hval0
  have hW' := hW
  obtain ⟨p, q, hA0, hV, rfl, hfz, hnd⟩ := hW
  have hA : DataW.TrodAll enc Try.prog W 0 (fun _ => true) true Try.f3.params.toList args.toList ds p := hA0
  rw [Try.params3] at hA hval
  obtain ⟨v0, vs0, d0, ds0, p0, q0, hargs, rfl, rfl, h0, r0⟩ := trodAll_cons hA
  obtain ⟨v1, vs1, d1, ds1, p1, q1, rfl, rfl, rfl, h1, r1⟩ := trodAll_cons r0
  obtain ⟨v2, vs2, d2, ds2, p2, q2, rfl, rfl, rfl, h2, r2⟩ := trodAll_cons r1
  obtain ⟨v3, vs3, d3, ds3, p3, q3, rfl, rfl, rfl, h3, r3⟩ := trodAll_cons r2
  obtain ⟨v4, vs4, d4, ds4, p4, q4, rfl, rfl, rfl, h4, r4⟩ := trodAll_cons r3
  obtain ⟨rfl, rfl, rfl⟩ := trodAll_nil r4
  obtain rfl : args = #[v0, v1, v2, v3, v4] := by cases args; simp_all
  obtain ⟨rfl, rfl⟩ := trodVars_none hV
  obtain ⟨a0, len0, cap0, rfl⟩ := okWide_slice Try.underlying22 (hval 0 22 v0 rfl rfl)
  have k0 := h0
  have lt0 : ∀ x ∈ p0, x.block < W.heap.size := by obtain ⟨m, hm⟩ := k0; exact DataW.trod_lt m _ _ _ hm
  obtain ⟨z0, w0⟩ : ∃ zs, IsRow .i64 W a0 len0 cap0 zs := by
    obtain ⟨fuel, hf⟩ := h0
    rcases open_ints Try.underlying22 Try.underlying3 (by kernel_rfl) hf with ⟨hcs, _⟩ | ⟨x, l, c, zs, hcs, _, hl, hm, hz, _, hcell, hwz⟩
    · simp [Value.cells] at hcs
      obtain ⟨rfl, rfl, rfl⟩ := hcs
      exact ⟨[], .inl ⟨rfl, rfl, rfl, rfl⟩⟩
    · simp [Value.cells] at hcs
      obtain ⟨rfl, rfl, rfl⟩ := hcs
      exact ⟨zs, .inr ⟨_, rfl, hl, hm, by simpa using hz, hcell, hwz⟩⟩
  obtain ⟨a1, rfl, rfl, rfl, w1⟩ := open_int Try.underlying23 (hval 1 23 v1 rfl rfl) h1
  obtain ⟨a2, rfl, rfl, rfl, w2⟩ := open_int Try.underlying3 (hval 2 3 v2 rfl rfl) h2
  obtain ⟨a3, len3, cap3, rfl⟩ := okWide_slice Try.underlying24 (hval 3 24 v3 rfl rfl)
  have k3 := h3
  have lt3 : ∀ x ∈ p3, x.block < W.heap.size := by obtain ⟨m, hm⟩ := k3; exact DataW.trod_lt m _ _ _ hm
  obtain ⟨z3, w3⟩ : ∃ zs, IsRow .u8 W a3 len3 cap3 zs := by
    obtain ⟨fuel, hf⟩ := h3
    rcases open_ints Try.underlying24 Try.underlying5 (by kernel_rfl) hf with ⟨hcs, _⟩ | ⟨x, l, c, zs, hcs, _, hl, hm, hz, _, hcell, hwz⟩
    · simp [Value.cells] at hcs
      obtain ⟨rfl, rfl, rfl⟩ := hcs
      exact ⟨[], .inl ⟨rfl, rfl, rfl, rfl⟩⟩
    · simp [Value.cells] at hcs
      obtain ⟨rfl, rfl, rfl⟩ := hcs
      exact ⟨zs, .inr ⟨_, rfl, hl, hm, by simpa using hz, hcell, hwz⟩⟩
  obtain ⟨a4, len4, cap4, rfl⟩ := okWide_slice Try.underlying22 (hval 4 22 v4 rfl rfl)
  have k4 := h4
  have lt4 : ∀ x ∈ p4, x.block < W.heap.size := by obtain ⟨m, hm⟩ := k4; exact DataW.trod_lt m _ _ _ hm
  obtain ⟨z4, w4⟩ : ∃ zs, IsRow .i64 W a4 len4 cap4 zs := by
    obtain ⟨fuel, hf⟩ := h4
    rcases open_ints Try.underlying22 Try.underlying3 (by kernel_rfl) hf with ⟨hcs, _⟩ | ⟨x, l, c, zs, hcs, _, hl, hm, hz, _, hcell, hwz⟩
    · simp [Value.cells] at hcs
      obtain ⟨rfl, rfl, rfl⟩ := hcs
      exact ⟨[], .inl ⟨rfl, rfl, rfl, rfl⟩⟩
    · simp [Value.cells] at hcs
      obtain ⟨rfl, rfl, rfl⟩ := hcs
      exact ⟨zs, .inr ⟨_, rfl, hl, hm, by simpa using hz, hcell, hwz⟩⟩
  clear hA0 hval0
  refine (walk a0 len0 cap0 z0 a1 a2 a3 len3 cap3 z3 a4 len4 cap4 z4 W w0 w1 w2 w3 w4).mono fun e W' ⟨he, bel⟩ => ?_
  subst he
  exact ⟨_, rfl, _, _, _, [], _, [], hW', trodAll_mk1 (shut_bool Try.underlying4 _), (trodAll_cons_mk (Below.trod laidOut (by kernel_rfl) (of_decide_eq_true (by kernel_rfl)) k0 bel lt0) (trodAll_cons_mk (shut_int Try.underlying23 w1) (trodAll_cons_mk (shut_int Try.underlying3 w2) (trodAll_cons_mk (Below.trod laidOut (by kernel_rfl) (of_decide_eq_true (by kernel_rfl)) k3 bel lt3) (trodAll_cons_mk (Below.trod laidOut (by kernel_rfl) (of_decide_eq_true (by kernel_rfl)) k4 bel lt4) trodAll_mk0))))), rfl, bel.frame _, fun h => by cases h⟩

theorem over : Rows.wireWritesRow.holds Try.pinned (OpenSpec.ofChange Rows.wireWritesSpec) :=
  OpenClaim.holds_of_wide 3 Try.f3 rfl rfl rfl rfl rfl rfl rfl ⟨rfl, rfl, rfl, rfl, rfl⟩ rfl rfl rfl rfl rfl (by kernel_rfl) Try.func3 (by kernel_rfl)
    (of_decide_eq_true (by kernel_rfl)) (by unfold Func.isWrapper; first | (rw [if_pos (by decide +kernel)]; kernel_rfl) | (rw [if_neg (by decide +kernel)]; exact ⟨rfl, rfl⟩))
    (fun os started H enc _ => lifted os started H enc)

/-- ████ THE STATEMENT ████ -/
theorem proved : Rows.WireWritesSaid := over
#print axioms proved
end Go.Proofs.Ytfnpnomfdfdonaa.wireWrites
