/- Round trip: for all sequences of values, reading the bytes of a Writer with the same sequence of methods returns the same values without an error (P2.6). It has no conditions. The frame below is the guide's shell. -/
import Derived.Test.YtfnpnomfdfdonaaRows
import Derived.Test.YtfnpnomfdfdonaaWLives
import Derived.Test.YtfnpnomfdfdonaaWSame
import Derived.Test.YtfnpnomfdfdonaaWBack
import Derived.Test.YtfnpnomfdfdonaaVals
import Derived.Test.YtfnpnomfdfdonaaWf
import Derived.WalkKit
import Derived.ProofKit
import Derived.OpenShut
import Derived.ShutString
import Derived.ChangeOld
import Derived.Below
namespace Go.Proofs.Ytfnpnomfdfdonaa.wireRound
open Go.ChangeShapes Go.WideShapes Go.ChangeAt Go.RowKit
open Go.ChangeMaps (open_string shut_string)
set_option linter.unusedVariables false

theorem own : ownKnob Try.prog.godebug = none := by kernel_rfl
theorem laidOut : laidOutB Try.prog = true := by kernel_rfl

set_option maxRecDepth 100000 in
set_option maxHeartbeats 4000000 in
theorem walkB (a : Option Addr) (cap : Nat) (ls : List Int) (u : Nat) (n : Int) (w : World) (h : Sli .i64 w a cap ls) (hi : I64 ls) (hu : u < 18446744073709551616) (hn1 : -9223372036854775808 ≤ n) (hn2 : n ≤ 9223372036854775807) :
    Calls Try.prog 5 #[.slice a ls.length cap, .int .u64 (u : Int), .int .i64 n] w fun e w' => e = .returned (.bool true) ∧ Below w.heap.size w w' := by
  obtain ⟨iv, hiv, hv0, hv1, hv2⟩ := info_parts info28
  obtain ⟨B, hB⟩ : ∃ B, w.heap.size = B := ⟨_, rfl⟩
  have c1 := vals_any a cap ls w h hi
  unfold ValsPost at c1
  rw [hB] at c1
  have C1 := Lib.hid c1; have HB := Lib.hid hB
  clear c1 h hi hB
  go_enter Try.func5, Try.ntmps5
  go_wp2_with fail
  refine C1.out.mono ?_
  rintro e w1 ⟨ov, vs, rfl, hvr, hvl, hvg, hbel⟩
  obtain ⟨css, hcl, hown, hat⟩ := hvr.ex
  have hBW : B ≤ w1.heap.size := by have := hbel.size; have := HB.out; omega
  have HO := Lib.hid hown; have HA := Lib.hid (And.intro hcl hat); have HG := Lib.hid (And.intro hvg hbel)
  clear hvr hvg hbel hcl hown hat C1
  go_wp2_with (at_builtin; refine wpList_append_own _ rfl _ _ 25 rfl B 28 iv _ 5 72 Try.underlying25 hiv hv0 hv1 hv2 rfl (by decide) ov vs.length css.flatten rfl (HO.out.alloc _) ⟨w1.heap.size, 0, none⟩ 2 2 [.int .i64 0, .int .u64 (u : Int), .int .i64 0, .slice none 0 0, .slice none 0 0, .int .i64 1, .int .u64 0, .int .i64 n, .slice none 0 0, .slice none 0 0] rfl rfl (World.news_of_block (cs := #[.int .i64 0, .int .u64 (u : Int), .int .i64 0, .slice none 0 0, .slice none 0 0, .int .i64 1, .int .u64 0, .int .i64 n, .slice none 0 0, .slice none 0 0]) (t := 28) (fr := (0, 0)) (World.alloc_heap_new w1 _)) (by simp [Value.oneCell']) (by unfold maxLen; omega) (by omega) (by simp; omega) ?_; intro v' w3 hown3 hgrow3 _; obtain ⟨A3, k3, rfl⟩ := own_slice hown3)
  obtain ⟨N, hN⟩ : ∃ N, vs.length + 2 = N := ⟨_, rfl⟩
  have H3 : Hid (VRow B w3 (.slice A3 N k3) (vs ++ [⟨0, u, 0, [], []⟩, ⟨1, 0, n, [], []⟩]) ∧ Below B w w3) := by
    rw [← hN]
    exact ⟨vrow_push2 (c := [.int .i64 0, .int .u64 (u : Int), .int .i64 0, .slice none 0 0, .slice none 0 0]) (d := [.int .i64 1, .int .u64 0, .int .i64 n, .slice none 0 0, .slice none 0 0]) HA.out.1 HO.out HA.out.2 ⟨none, 0, none, 0, rfl, SlT.nil_ _ _ _ _, SlT.nil_ _ _ _ _⟩ ⟨none, 0, none, 0, rfl, SlT.nil_ _ _ _ _, SlT.nil_ _ _ _ _⟩ hgrow3 hown3,
      (HG.out.2.alloc hBW _).grown hgrow3 (by simp; omega) (fun g eg => (HO.out.lt g eg).1)⟩
  have hgood : ∀ v ∈ vs ++ [(⟨0, u, 0, [], []⟩ : V), (⟨1, 0, n, [], []⟩ : V)], Good v := by
    intro v hv
    rcases List.mem_append.1 hv with h1 | h1
    · exact HG.out.1 v h1
    · simp at h1
      rcases h1 with rfl | rfl
      · exact good_u hu
      · exact good_n hn1 hn2
  have hal : (vs ++ [(⟨0, u, 0, [], []⟩ : V), (⟨1, 0, n, [], []⟩ : V)]).length = N := by rw [← hN]; simp
  generalize vs ++ [(⟨0, u, 0, [], []⟩ : V), ⟨1, 0, n, [], []⟩] = all at H3 hgood hal
  have hN10 : N ≤ 10 := by omega
  have hel := encs_len hgood
  rw [hal] at hel
  have c2 := encode_any B A3 k3 all w3 (by rw [hal]; exact H3.out.1) (fun v hv => (hgood v hv).fit) (by omega) (by omega)
  have c3 := fun a k W h => rread_any a k (encs all) W h (encs_byt hgood) (by omega)
  rw [hal] at c2
  obtain ⟨E, hE⟩ : ∃ E, encs all = E := ⟨_, rfl⟩
  rw [hE] at c2 c3
  have C2 := Lib.hid c2; have C3 := Lib.hid c3; have HGD := Lib.hid hgood; have HAL := Lib.hid hal; have HE := Lib.hid hE
  rw [hN]
  clear hown3 hgrow3 HO HA HG hN c2 c3 hgood hal hel hE
  refine C2.out.mono ?_
  rintro e w4 h4
  obtain ⟨A4, k4, rfl, row4, b4⟩ := row_of_new h4
  have hB3 : B ≤ w3.heap.size := by have := H3.out.2.size; have := HB.out; omega
  have H4 : Hid (VRow B w4 (.slice A3 N k3) all ∧ Below B w w4 ∧ Sli .u8 w4 A4 k4 E) := ⟨H3.out.1.below b4, H3.out.2.trans (b4.mono hB3), row4.sli⟩
  clear h4 row4 b4 H3 C2
  go_wp2_with fail
  refine (C3.out _ _ _ H4.out.2.2).mono ?_
  rintro e w5 ⟨p, rfl, hr, hb⟩
  obtain ⟨D, hD⟩ : ∃ D, w4.heap.size = D := ⟨_, rfl⟩
  rw [hD] at hr hb
  have hBD : B ≤ D := by have := H4.out.2.1.size; have := HB.out; omega
  have hDp : D ≤ p := hr.lt.1
  have HV : Hid (VRow B w4 (.slice A3 N k3) all) := H4.out.1
  have HBw : Hid (Below B w w4) := H4.out.2.1
  have H5 : Hid (Rd w5 D p (.ok (encs (all.drop 0))) ∧ Below D w4 w5) := by rw [List.drop_zero, HE.out]; exact ⟨hr, hb⟩
  have HD := Lib.hid hD
  clear hr hb H4 C3 hD HE
  go_wp2_with fail
  go_loopw [9] (fun i wr => ∃ k : Nat, k ≤ N ∧ i = .int .i64 k ∧ Hid (Rd wr D p (.ok (encs (all.drop k))) ∧ Below D w4 wr)) (fun i _ => N - (intOf i).toNat)
  case atStart => exact ⟨0, Nat.zero_le _, rfl, H5⟩
  case round =>
    obtain ⟨k, hk, rfl, HR⟩ := hrel
    by_cases hlt : k < N
    · have hvk : all[k]? = some (all[k]'(by rw [HAL.out]; exact hlt)) := List.getElem?_eq_getElem _
      generalize all[k]'(by rw [HAL.out]; exact hlt) = v at hvk
      obtain ⟨g, cap', ab, cb, al, cl, hA, hg1, hg2, hsb, hsl, q0, q1, q2, q3, q4⟩ := HV.out.at_ hvk
      have hgood := HGD.out v (List.mem_of_getElem? hvk)
      rw [HD.out] at hg2
      have hb2 := HR.out.2
      rw [← hb2.cell (p := ⟨g, k * 5, none⟩) hg2] at q0
      rw [← hb2.cell (p := ⟨g, k * 5 + 1, none⟩) hg2] at q1
      rw [← hb2.cell (p := ⟨g, k * 5 + 2, none⟩) hg2] at q2
      rw [← hb2.cell (p := ⟨g, k * 5 + 3, none⟩) hg2] at q3
      rw [← hb2.cell (p := ⟨g, k * 5 + 4, none⟩) hg2] at q4
      have c4 := read_any D p v.kind _ wr.drew (show Rd wr.drew D p _ from HR.out.1) hgood.k5
      rw [drop_step hvk, rdV_write hgood] at c4
      have hs : ∀ W, Below D w4 W → Sli .u8 W ab cb v.b ∧ Sli .i64 W al cl v.l := fun W hW => by
        rw [← HD.out] at hW
        exact ⟨Sli.below hsb.sli hW, Sli.below hsl.sli hW⟩
      have hbl := hgood.bl
      have hll := hgood.ll
      have C4 := Lib.hid c4; have HS := Lib.hid hs; have HQ := Lib.hid (And.intro q0 (And.intro q1 (And.intro q2 (And.intro q3 q4))))
      simp only [Value.slice.injEq] at hA
      obtain ⟨hA, -, -⟩ := hA
      have hNi : (k : Int) < (N : Int) := by omega
      have hk0 : (0 : Int) ≤ (k : Int) := by omega
      clear hgood hb2 c4 hs hsb hsl hvk
      subst hA
      go_wp2_with fail
      go_region_with (first | (go_at_call 22; refine C4.out.mono ?_; rintro e w6 ⟨ab', cb', al', cl', rfl, hb6, hl6, hr6, ho6⟩; have ho7 : Below D w4 w6 := HR.out.2.drew.trans (Only.below ho6 (by have := HR.out.1.lt; show D ≤ wr.heap.size; omega) (fun j e => by omega)); have e0 := ho6.block g (by have := HR.out.1.lt; show g < wr.heap.size; omega) (by omega); have z0 := (World.cell?_of_block (a := ⟨g, k * 5, none⟩) e0).trans HQ.out.1; have z1 := (World.cell?_of_block (a := ⟨g, k * 5 + 1, none⟩) e0).trans HQ.out.2.1; have z2 := (World.cell?_of_block (a := ⟨g, k * 5 + 2, none⟩) e0).trans HQ.out.2.2.1; have z3 := (World.cell?_of_block (a := ⟨g, k * 5 + 3, none⟩) e0).trans HQ.out.2.2.2.1; have z4 := (World.cell?_of_block (a := ⟨g, k * 5 + 4, none⟩) e0).trans HQ.out.2.2.2.2; have H6 := Lib.hid (And.intro hb6 (And.intro hl6 (And.intro hr6 ho7))); clear hb6 hl6 hr6 ho6 ho7 e0) | (go_at_call 21; refine (same_any v _ _ _ _ ab cb al cl _ H6.out.1.sli H6.out.2.1.sli (HS.out _ H6.out.2.2.2).1 (HS.out _ H6.out.2.2.2).2 (by omega) (by omega)).mono ?_; rintro e w7 ⟨rfl, hb7⟩; have H7 : Hid (Rd w7 D p (.ok (encs (all.drop (k + 1)))) ∧ Below D w4 w7) := ⟨H6.out.2.2.1.below hb7, H6.out.2.2.2.trans (hb7.mono (by have := H6.out.2.2.1.lt; omega))⟩; clear hb7))
      all_goals
        go_wp2
        go_roundw
        case rel => exact ⟨k + 1, by omega, by go_num, H7⟩
        case measure => simp [intOf]; omega
    · obtain rfl : N = k := by omega
      have H8 : Hid (Rd wr D p (.ok []) ∧ Below D w4 wr) := by
        have := HR.out
        rw [List.drop_eq_nil_of_le (by rw [HAL.out]; exact Nat.le_refl _)] at this
        exact this
      clear HR
      go_wp2_with fail
      refine (rend_any D p (.ok []) _ H8.out.1).mono ?_
      rintro e w9 ⟨rfl, rfl⟩
      go_wp2_with fail
      refine (wlives_any _).mono ?_
      rintro e w9 ⟨rfl, hb9⟩
      have H9 : Hid (Below B w w9) := (HBw.out.trans (H8.out.2.mono hBD)).trans (hb9.mono (by have := H8.out.1.lt; omega))
      clear hb9 H8
      go_wp2
      go_ret
      exact ⟨rfl, by rw [HB.out]; exact H9.out⟩

theorem walk (a0 : Option Addr) (len0 cap0 : Nat) (z0 : List Int) (a1 : Int) (a2 : Int) (w : World) (w0 : IsRow .i64 w a0 len0 cap0 z0) (w1 : (Lit.int .u64 a1).wf = true) (w2 : (Lit.int .i64 a2).wf = true) :
    Calls Try.prog 5 #[.slice a0 len0 cap0, .int .u64 a1, .int .i64 a2] w fun e w' => e = .returned (.bool true) ∧ Below w.heap.size w w' := by
  obtain ⟨ls, rfl, hl, hwl⟩ := sli_of_isRow w0
  have h1 := wf_u64 w1
  obtain ⟨u, rfl⟩ : ∃ u : Nat, a1 = (u : Int) := ⟨a1.toNat, by omega⟩
  exact walkB a0 cap0 ls u a2 w hl (fun n hn => wf_i64 (hwl n hn)) (by omega) (wf_i64 w2).1 (wf_i64 w2).2

/-! ### THE ROW's STEP: WRITTEN OUT: LEAVE IT -/
set_option maxRecDepth 100000 in
theorem lifted (os : Os) (started : os.Started) (H : Type) (enc : TypeId × Value → H) :
    ReturnsInHanded {} Try.checked os 5 .any (Rows.wireRoundSpec.pre6 enc Try.prog Try.f5 Rows.wireRoundRow.domain false) (Rows.wireRoundSpec.post enc Try.prog Try.f5 false true false false) := by
  refine returnsInHanded_of_change (C := Try.checked) own started (by kernel_rfl) Try.func5
    (ChangeSpec.witness6 (enc := enc) (C := Try.checked) false ⟨#[], #[.slice none 0 0, .int .u64 0, .int .i64 0], []⟩ 8 (by kernel_rfl) (by kernel_rfl) (by kernel_rfl) (by kernel_rfl)) ?_
  intro W base args ds gs before hval0 hW hcnd _
  have hval : ∀ (j : Nat) t v, Try.f5.params[j]? = some t → args[j]? = some v → Value.okWide Try.prog W .any base t v := hval0
  have hW' := hW
  obtain ⟨p, q, hA0, hV, rfl, hfz, hnd⟩ := hW
  have hA : DataW.TrodAll enc Try.prog W 0 (fun _ => true) true Try.f5.params.toList args.toList ds p := hA0
  rw [Try.params5] at hA hval
  obtain ⟨v0, vs0, d0, ds0, p0, q0, hargs, rfl, rfl, h0, r0⟩ := trodAll_cons hA
  obtain ⟨v1, vs1, d1, ds1, p1, q1, rfl, rfl, rfl, h1, r1⟩ := trodAll_cons r0
  obtain ⟨v2, vs2, d2, ds2, p2, q2, rfl, rfl, rfl, h2, r2⟩ := trodAll_cons r1
  obtain ⟨rfl, rfl, rfl⟩ := trodAll_nil r2
  obtain rfl : args = #[v0, v1, v2] := by cases args; simp_all
  obtain ⟨rfl, rfl⟩ := trodVars_none hV
  obtain ⟨a0, len0, cap0, rfl⟩ := okWide_slice Try.underlying22 (hval 0 22 v0 rfl rfl)
  have k0 := h0
  have lt0 : ∀ x ∈ p0, x.block < W.heap.size := by obtain ⟨m, hm⟩ := k0; exact DataW.trod_lt m _ _ _ hm
  obtain ⟨z0, w0⟩ : ∃ zs, IsRow .i64 W a0 len0 cap0 zs := by
    obtain ⟨fuel, hf⟩ := h0
    rcases open_ints Try.underlying22 Try.underlying3 (by kernel_rfl) hf with ⟨hcs, _⟩ | ⟨x, l, c, zs, hcs, _, hl, hm, hz, _, hcell, hwz⟩
    · simp [Value.cells] at hcs
      obtain ⟨rfl, rfl, rfl⟩ := hcs
      exact ⟨[], .inl ⟨rfl, rfl, rfl, rfl⟩⟩
    · simp [Value.cells] at hcs
      obtain ⟨rfl, rfl, rfl⟩ := hcs
      exact ⟨zs, .inr ⟨_, rfl, hl, hm, by simpa using hz, hcell, hwz⟩⟩
  obtain ⟨a1, rfl, rfl, rfl, w1⟩ := open_int Try.underlying23 (hval 1 23 v1 rfl rfl) h1
  obtain ⟨a2, rfl, rfl, rfl, w2⟩ := open_int Try.underlying3 (hval 2 3 v2 rfl rfl) h2
  clear hA0 hval0
  refine (walk a0 len0 cap0 z0 a1 a2 W w0 w1 w2).mono fun e W' ⟨he, bel⟩ => ?_
  subst he
  exact ⟨_, rfl, _, _, _, [], _, [], hW', trodAll_mk1 (shut_bool Try.underlying4 _), (trodAll_cons_mk (Below.trod laidOut (by kernel_rfl) (of_decide_eq_true (by kernel_rfl)) k0 bel lt0) (trodAll_cons_mk (shut_int Try.underlying23 w1) (trodAll_cons_mk (shut_int Try.underlying3 w2) trodAll_mk0))), rfl, bel.frame _, fun h => by cases h⟩

theorem over : Rows.wireRoundRow.holds Try.pinned (OpenSpec.ofChange Rows.wireRoundSpec) :=
  OpenClaim.holds_of_wide 5 Try.f5 rfl rfl rfl rfl rfl rfl rfl ⟨rfl, rfl, rfl, rfl, rfl⟩ rfl rfl rfl rfl rfl (by kernel_rfl) Try.func5 (by kernel_rfl)
    (of_decide_eq_true (by kernel_rfl)) (by unfold Func.isWrapper; first | (rw [if_pos (by decide +kernel)]; kernel_rfl) | (rw [if_neg (by decide +kernel)]; exact ⟨rfl, rfl⟩))
    (fun os started H enc _ => lifted os started H enc)

/-- ████ THE STATEMENT ████ -/
theorem proved : Rows.WireRoundSaid := over
#print axioms proved
end Go.Proofs.Ytfnpnomfdfdonaa.wireRound
