/- For all sequences of values and every proper prefix of their encoding, reading the values records ErrMore, which stays; with a further byte End returns ErrForm (P2.2, P2.8). It has no conditions. The frame below is the guide's shell. -/
import Derived.Test.YtfnpnomfdfdonaaRows
import Derived.Test.YtfnpnomfdfdonaaWLives
import Derived.Test.YtfnpnomfdfdonaaWSame
import Derived.Test.YtfnpnomfdfdonaaWBack
import Derived.Test.YtfnpnomfdfdonaaVals
import Derived.Test.YtfnpnomfdfdonaaAround2
import Derived.Test.YtfnpnomfdfdonaaFew2
import Derived.Test.YtfnpnomfdfdonaaWf
import Derived.WalkKit
import Derived.ProofKit
import Derived.OpenShut
import Derived.ShutString
import Derived.ChangeOld
import Derived.Below
namespace Go.Proofs.Ytfnpnomfdfdonaa.wirePrefix
open Go.ChangeShapes Go.WideShapes Go.ChangeAt Go.RowKit
open Go.ChangeMaps (open_string shut_string)
set_option linter.unusedVariables false

theorem own : ownKnob Try.prog.godebug = none := by kernel_rfl
theorem laidOut : laidOutB Try.prog = true := by kernel_rfl

/-- What WirePrefix holds in its loop. -/
structure PreInv (D1 p1 D2 p2 : Nat) (all : List V) (c : Int) (k : Nat) (w4 wr : World) : Prop where
  r1 : ∃ st, Rd wr D1 p1 st ∧ Pre all k st
  r2 : Rd wr D2 p2 (.ok (encs (all.drop k) ++ [c]))
  bl : Below D1 w4 wr
  o1 : p1 < D2

set_option maxRecDepth 100000 in
set_option maxHeartbeats 4000000 in
theorem walkB (a : Option Addr) (cap : Nat) (ls : List Int) (cut c : Int) (w : World) (h : Sli .i64 w a cap ls) (hi : I64 ls) (hn1 : -9223372036854775808 ≤ cut) (hn2 : cut ≤ 9223372036854775807) (hc0 : 0 ≤ c) (hc1 : c ≤ 255) :
    Calls Try.prog 7 #[.slice a ls.length cap, .int .i64 cut, .int .u8 c] w fun e w' => e = .returned (.bool true) ∧ Below w.heap.size w w' := by
  obtain ⟨i0, hi5, hz0, hz1, hz2⟩ := info_parts info5
  obtain ⟨B, hB⟩ : ∃ B, w.heap.size = B := ⟨_, rfl⟩
  have c1 := vals_any a cap ls w h hi
  unfold ValsPost at c1
  rw [hB] at c1
  have C1 := Lib.hid c1; have HB := Lib.hid hB
  clear c1 h hi hB
  go_enter Try.func7, Try.ntmps7
  go_wp2_with fail
  refine C1.out.mono ?_
  rintro e w1 ⟨ov, all, rfl, hvr, hvl, hvg, hbel⟩
  obtain ⟨A1, k1, rfl⟩ := hvr.slice
  obtain ⟨N, hN⟩ : ∃ N, all.length = N := ⟨_, rfl⟩
  have hel := encs_len hvg
  have hby := encs_byt hvg
  rw [hN] at hvl hel hvr ⊢
  have c2 := encode_any B A1 k1 all w1 (by rw [hN]; exact hvr) (fun v hv => (hvg v hv).fit) (by omega) (by omega)
  rw [hN] at c2
  obtain ⟨E, hE⟩ : ∃ E, encs all = E := ⟨_, rfl⟩
  rw [hE] at c2 hel hby
  obtain ⟨nE, hnE⟩ : ∃ n, E.length = n := ⟨_, rfl⟩
  rw [hnE] at hel
  have C2 := Lib.hid c2; have HGD := Lib.hid hvg; have HN := Lib.hid hN; have HE := Lib.hid hE; have HnE := Lib.hid hnE; have HBY := Lib.hid hby
  have H1 := Lib.hid (And.intro hvr hbel)
  clear c2 hvg hN hE hnE hby hvr hbel C1
  go_wp2_with fail
  refine C2.out.mono ?_
  rintro e w4 h4
  obtain ⟨A4, k4, rfl, row4, b4⟩ := row_of_new h4
  have hB3 : B ≤ w1.heap.size := by have := H1.out.2.size; have := HB.out; omega
  rw [HnE.out] at row4 ⊢
  have H4 : Hid (VRow B w4 (.slice A1 N k1) all ∧ Below B w w4 ∧ Sli .u8 w4 A4 k4 E) := ⟨H1.out.1.below b4, H1.out.2.trans (b4.mono hB3), row4.sli⟩
  clear h4 row4 b4 H1 C2
  by_cases hz : nE = 0
  · subst hz
    have hE0 : E = [] := List.eq_nil_of_length_eq_zero HnE.out
    have c3 := rread_any none 0 [] w4 ⟨by simp, by omega, fun _ => rfl, .inl rfl⟩ (by intro c hc; simp at hc) (by simp)
    have C3 := Lib.hid c3
    clear c3 hE0
    go_wp2_with fail
    refine C3.out.mono ?_
    rintro e w5 ⟨p, rfl, hr, hb⟩
    have H5 : Hid (Rd w5 w4.heap.size p (.ok []) ∧ Below B w w5) := ⟨hr, H4.out.2.1.trans (hb.mono (by have := H4.out.2.1.size; have := HB.out; omega))⟩
    clear hr hb
    go_wp2_with fail
    refine (rend_any _ p (.ok []) _ H5.out.1).mono ?_
    rintro e w9 ⟨rfl, rfl⟩
    go_wp2_with fail
    refine (wlives_any _).mono ?_
    rintro e w9 ⟨rfl, hb9⟩
    have H9 : Hid (Below B w w9) := H5.out.2.trans (hb9.mono (by have := H5.out.2.size; have := HB.out; omega))
    clear hb9 H5
    go_wp2
    go_ret
    exact ⟨rfl, by rw [HB.out]; exact H9.out⟩
  · have hz1' : 1 ≤ nE := by omega
    obtain ⟨A4', hA4⟩ : ∃ A, A4 = some A := by
      cases A4 with
      | none => have h1 := H4.out.2.2.nil rfl; have h2 := H4.out.2.2.le; rw [HnE.out] at h2; omega
      | some A => exact ⟨A, rfl⟩
    subst hA4
    have hcapE := H4.out.2.2.le
    have hmxE := H4.out.2.2.mx
    rw [HnE.out] at hcapE
    go_wp2_with fail
    refine (around_big cut nE _ hn1 hn2 hz1' (by omega)).mono ?_
    rintro e w' ⟨m, hm, rfl, rfl⟩
    have hT : Sli .u8 w4 (some A4') k4 (E.take m) := by
      have hs := H4.out.2.2
      refine ⟨by rw [List.length_take, HnE.out]; omega, hs.mx, (fun h => by cases h), ?_⟩
      rcases hs.cells with h0 | ⟨b, off, ha, hlt, hc⟩
      · exact .inl (by rw [h0]; simp)
      · refine .inr ⟨b, off, ha, hlt, fun j hj => ?_⟩
        rw [List.length_take] at hj
        rw [hc j (by omega), List.getElem?_take, if_pos (by omega)]
    have c3 := rread_any (some A4') k4 (E.take m) w4 hT (HBY.out.take m) (by rw [List.length_take]; omega)
    rw [List.length_take, HnE.out, Nat.min_eq_left (by omega)] at c3
    have C3 := Lib.hid c3
    clear c3 hT
    go_wp2_with fail
    refine C3.out.mono ?_
    rintro e w5 ⟨p1, rfl, hr1, hb5⟩
    obtain ⟨D1, hD1⟩ : ∃ D, w4.heap.size = D := ⟨_, rfl⟩
    rw [hD1] at hr1 hb5
    have HD1 := Lib.hid hD1
    have H5 := Lib.hid (And.intro hr1 hb5)
    have c4 := few_big (some A4') k4 nE E w5 (Sli.below H4.out.2.2 (by rw [hD1]; exact hb5)) (by omega)
    rw [List.take_of_length_le (by rw [HnE.out]; omega), HnE.out] at c4
    have C4 := Lib.hid c4
    clear hr1 hb5 c4 C3 hD1
    go_wp2_with fail
    refine C4.out.mono ?_
    rintro e w6 ⟨v6, rfl, hown6, hb6⟩
    rw [HnE.out] at hown6
    have HO6 := Lib.hid hown6
    have H6 : Hid (Rd w6 D1 p1 (.ok (E.take m)) ∧ Below D1 w4 w6 ∧ w5.heap.size ≤ w6.heap.size ∧ p1 < w5.heap.size ∧ D1 ≤ w5.heap.size) := ⟨H5.out.1.below hb6, H5.out.2.trans (hb6.mono (by have := H5.out.1.lt; omega)), hb6.size, H5.out.1.lt.2, by have := H5.out.1.lt; omega⟩
    have hsz56 := H6.out.2.2.1
    clear hown6 hb6 H5 C4
    go_wp2_with (at_builtin; refine wpList_append_own _ rfl _ _ 24 rfl w5.heap.size 5 i0 (.int .u8 0) 1 1 Try.underlying24 hi5 hz0 hz1 hz2 rfl (by decide) v6 nE (E.map (Value.int .u8)) rfl (HO6.out.alloc _) ⟨w6.heap.size, 0, none⟩ 1 1 [.int .u8 c] rfl rfl (cell_one_new _ _ _) (fun x hx => by simp at hx; subst hx; rfl) (by unfold maxLen; omega) (by omega) (by simp; omega) ?_; intro v7 w7 hown7 hgrow7 _; obtain ⟨g7, k7, rfl⟩ := ownsRow_succ hown7)
    have hlen7 : (E ++ [c]).length = nE + 1 := by rw [List.length_append, HnE.out]; rfl
    have hs7 : Sli .u8 w7 (some ⟨g7, 0, none⟩) k7 (E ++ [c]) := by
      have := row_of_own (k := .u8) (xs := E ++ [c]) (by rw [List.map_append]; exact hown7)
      exact this.sli
    have hb7 : Below w5.heap.size w6 w7 := ((Below.refl _ _).alloc hsz56 _).grown hgrow7 (by simp; omega) (fun g eg => (HO6.out.lt g eg).1)
    have hr7 : Rd w7 D1 p1 (.ok (E.take m)) := H6.out.1.keep (fun b _ h2 => hb7.block b (by have := H6.out.2.2.2.1; omega))
    have c5 := rread_any (some ⟨g7, 0, none⟩) k7 (E ++ [c]) w7 hs7 (byt_snoc HBY.out ⟨hc0, hc1⟩) (by rw [hlen7]; omega)
    rw [hlen7] at c5
    have C5 := Lib.hid c5
    have H7 : Hid (Rd w7 D1 p1 (.ok (E.take m)) ∧ Below D1 w4 w7) := ⟨hr7, H6.out.2.1.trans (hb7.mono H6.out.2.2.2.2)⟩
    clear hown7 hgrow7 hs7 hb7 hr7 c5 H6 HO6 hlen7
    go_wp2_with fail
    refine C5.out.mono ?_
    rintro e w8 ⟨p2, rfl, hr2, hb8⟩
    obtain ⟨D2, hD2⟩ : ∃ D, w7.heap.size = D := ⟨_, rfl⟩
    have HV : Hid (VRow B w4 (.slice A1 N k1) all) := H4.out.1
    have HBw : Hid (Below B w w4) := H4.out.2.1
    have hBD : B ≤ D1 := by have := H4.out.2.1.size; have := HB.out; have := HD1.out; omega
    have H8 : Hid (PreInv D1 p1 D2 p2 all c 0 w4 w8) := by
      have h1 := H7.out.1.lt
      have h2 := H7.out.2.size
      refine ⟨⟨_, H7.out.1.below hb8, .inr ⟨E.take m, E.drop m, rfl, by rw [List.drop_zero, HE.out, List.take_append_drop], ?_⟩⟩, by rw [List.drop_zero, HE.out, ← hD2]; exact hr2, H7.out.2.trans (hb8.mono (by omega)), by omega⟩
      intro h0
      have := congrArg List.length h0
      rw [List.length_drop, HnE.out] at this
      simp at this; omega
    clear hr2 hb8 hD2 H7 C5 H4 hcapE hmxE
    go_wp2_with fail
    go_loopw [12] (fun i wr => ∃ k : Nat, k ≤ N ∧ i = .int .i64 k ∧ Hid (PreInv D1 p1 D2 p2 all c k w4 wr)) (fun i _ => N - (intOf i).toNat)
    case atStart => exact ⟨0, Nat.zero_le _, rfl, H8⟩
    case round =>
      obtain ⟨k, hk, rfl, HR⟩ := hrel
      by_cases hlt : k < N
      · have hvk : all[k]? = some (all[k]'(by rw [HN.out]; exact hlt)) := List.getElem?_eq_getElem _
        generalize all[k]'(by rw [HN.out]; exact hlt) = v at hvk
        obtain ⟨g, cap', ab, cb, al, cl, hA, hg1, hg2, _, _, q0, _⟩ := HV.out.at_ hvk
        have hgood := HGD.out v (List.mem_of_getElem? hvk)
        rw [HD1.out] at hg2
        obtain ⟨st, hrd, hpre⟩ := HR.out.r1
        have ho1 := HR.out.o1
        have hlt1 := hrd.lt
        have hlt2 := HR.out.r2.lt
        have q0a := (HR.out.bl.cell (p := ⟨g, k * 5, none⟩) hg2).trans q0
        have c6 := read_any D1 p1 v.kind st wr hrd hgood.k5
        have c7 := fun W h => read_any D2 p2 v.kind (.ok (encs (all.drop k) ++ [c])) W h hgood.k5
        have hstep := hpre.step hvk hgood
        rw [drop_step hvk, List.append_assoc, rdV_write hgood] at c7
        have C6 := Lib.hid c6; have C7 := Lib.hid c7; have HST := Lib.hid hstep; have HQ0 := Lib.hid q0; have HRD := Lib.hid hrd
        have HDS := Lib.hid (drop_step hvk)
        simp only [Value.slice.injEq] at hA
        obtain ⟨hA, -, -⟩ := hA
        clear hgood hpre c6 c7 hstep hvk hrd q0
        subst hA
        go_wp2_with fail
        refine C6.out.mono ?_
        rintro e wa ⟨ab', cb', al', cl', rfl, _, _, hra, hoa⟩
        have q0b := (World.cell?_of_block (a := ⟨g, k * 5, none⟩) (hoa.block g (by omega) (by omega))).trans q0a
        have hr2a : Rd wa D2 p2 (.ok (enc v ++ (encs (all.drop (k + 1)) ++ [c]))) := by
          have := HR.out.r2.only hoa (fun b h1 h2 => by omega)
          rw [HDS.out, List.append_assoc] at this
          exact this
        have HA' := Lib.hid (And.intro hra (And.intro hr2a (HR.out.bl.trans (hoa.below (by omega) (fun j e => by omega)))))
        have hsza := hoa.size
        clear hra hoa hr2a q0a
        go_wp2_with fail
        refine (C7.out _ HA'.out.2.1).mono ?_
        rintro e wb ⟨ab'', cb'', al'', cl'', rfl, _, _, hrb, hob⟩
        have HB' : Hid (PreInv D1 p1 D2 p2 all c (k + 1) w4 wb) :=
          ⟨⟨_, HA'.out.1.only hob (fun b h1 h2 => by omega), HST.out⟩, hrb, HA'.out.2.2.trans (hob.below (by omega) (fun j e => by omega)), ho1⟩
        clear hrb hob q0b
        go_wp2
        go_roundw
        case rel => exact ⟨k + 1, by omega, by go_num, HB'⟩
        case measure => simp [intOf]; omega
      · obtain rfl : N = k := by omega
        have HF : Hid (Rd wr D1 p1 (.bad 3) ∧ Rd wr D2 p2 (.ok [c]) ∧ Below D1 w4 wr ∧ p1 < D2) := by
          obtain ⟨st, hrd, hpre⟩ := HR.out.r1
          rw [← HN.out] at hpre
          have := hpre.end_
          subst this
          have h2 := HR.out.r2
          rw [List.drop_eq_nil_of_le (by rw [HN.out]; exact Nat.le_refl _)] at h2
          exact ⟨hrd, by simpa [encs] using h2, HR.out.bl, HR.out.o1⟩
        clear HR
        go_wp2_with fail
        refine (rend_any D1 p1 (.bad 3) _ HF.out.1).mono ?_
        rintro e w9 ⟨rfl, rfl⟩
        go_wp2_with fail
        refine (rend_any D2 p2 (.ok [c]) _ HF.out.2.1).mono ?_
        rintro e w9 ⟨rfl, rfl⟩
        go_wp2_with fail
        refine (around_any cut 6 _ hn1 hn2 (by omega) (by omega)).mono ?_
        rintro e w9 ⟨kk, hkk, rfl, rfl⟩
        have c8 := read_any D1 p1 kk (.bad 3) wr HF.out.1 (by omega)
        rw [rdV_bad, rdV_bad_val kk 3 (by omega)] at c8
        have C8 := Lib.hid c8
        clear c8
        go_wp2_with fail
        refine C8.out.mono ?_
        rintro e wa ⟨ab', cb', al', cl', rfl, hb', hl', hra, hoa⟩
        have hbn := below_new wa (.cells #[.int .i64 (kk : Int), .int .u64 0, .int .i64 0, .slice ab' 0 cb', .slice al' 0 cl'] 28)
        have c9 := same_any ⟨kk, 0, 0, [], []⟩ ab' cb' al' cl' none 0 none 0 (wa.alloc (.cells #[.int .i64 (kk : Int), .int .u64 0, .int .i64 0, .slice ab' 0 cb', .slice al' 0 cl'] 28)) (Sli.below hb'.sli hbn) (Sli.below hl'.sli hbn) ⟨by simp, by omega, fun _ => rfl, .inl rfl⟩ ⟨by simp, by omega, fun _ => rfl, .inl rfl⟩ (by simp) (by simp)
        have C9 := Lib.hid c9
        have hlt1 := HF.out.1.lt
        have HA' : Hid (Rd (wa.alloc (.cells #[.int .i64 (kk : Int), .int .u64 0, .int .i64 0, .slice ab' 0 cb', .slice al' 0 cl'] 28)) D1 p1 (.bad 3) ∧ Below D1 w4 (wa.alloc (.cells #[.int .i64 (kk : Int), .int .u64 0, .int .i64 0, .slice ab' 0 cb', .slice al' 0 cl'] 28))) :=
          ⟨hra.below hbn, (HF.out.2.2.1.trans (hoa.below (by omega) (fun j e => by omega))).trans (hbn.mono (by have := hoa.size; omega))⟩
        clear hb' hl' hra hoa hbn c9
        go_wp2_with fail
        refine C9.out.mono ?_
        rintro e wb ⟨rfl, hbb⟩
        have HB' : Hid (Rd wb D1 p1 (.bad 3) ∧ Below D1 w4 wb) := ⟨HA'.out.1.below hbb, HA'.out.2.trans (hbb.mono (by have := HA'.out.1.lt; omega))⟩
        clear hbb
        go_wp2_with fail
        refine (rend_any D1 p1 (.bad 3) _ HB'.out.1).mono ?_
        rintro e w9 ⟨rfl, rfl⟩
        go_wp2_with fail
        refine (wlives_any _).mono ?_
        rintro e wc ⟨rfl, hbc⟩
        have HC : Hid (Below B w wc) := (HBw.out.trans (HB'.out.2.mono hBD)).trans (hbc.mono (by have := HB'.out.1.lt; omega))
        clear hbc
        go_wp2
        go_ret
        exact ⟨rfl, by rw [HB.out]; exact HC.out⟩

theorem walk (a0 : Option Addr) (len0 cap0 : Nat) (z0 : List Int) (a1 : Int) (a2 : Int) (w : World) (w0 : IsRow .i64 w a0 len0 cap0 z0) (w1 : (Lit.int .i64 a1).wf = true) (w2 : (Lit.int .u8 a2).wf = true) :
    Calls Try.prog 7 #[.slice a0 len0 cap0, .int .i64 a1, .int .u8 a2] w fun e w' => e = .returned (.bool true) ∧ Below w.heap.size w w' := by
  obtain ⟨ls, rfl, hl, hwl⟩ := sli_of_isRow w0
  exact walkB a0 cap0 ls a1 a2 w hl (fun n hn => wf_i64 (hwl n hn)) (wf_i64 w1).1 (wf_i64 w1).2 (wf_u8 w2).1 (wf_u8 w2).2

/-! ### THE ROW's STEP: WRITTEN OUT: LEAVE IT -/
set_option maxRecDepth 100000 in
theorem lifted (os : Os) (started : os.Started) (H : Type) (enc : TypeId × Value → H) :
    ReturnsInHanded {} Try.checked os 7 .any (Rows.wirePrefixSpec.pre6 enc Try.prog Try.f7 Rows.wirePrefixRow.domain false) (Rows.wirePrefixSpec.post enc Try.prog Try.f7 false true false false) := by
  refine returnsInHanded_of_change (C := Try.checked) own started (by kernel_rfl) Try.func7
    (ChangeSpec.witness6 (enc := enc) (C := Try.checked) false ⟨#[], #[.slice none 0 0, .int .i64 0, .int .u8 0], []⟩ 8 (by kernel_rfl) (by kernel_rfl) (by kernel_rfl) (by kernel_rfl)) ?_
  intro W base args ds gs before hval0 hW hcnd _
  have hval : ∀ (j : Nat) t v, Try.f7.params[j]? = some t → args[j]? = some v → Value.okWide Try.prog W .any base t v := hval0
  have hW' := hW
  obtain ⟨p, q, hA0, hV, rfl, hfz, hnd⟩ := hW
  have hA : DataW.TrodAll enc Try.prog W 0 (fun _ => true) true Try.f7.params.toList args.toList ds p := hA0
  rw [Try.params7] at hA hval
  obtain ⟨v0, vs0, d0, ds0, p0, q0, hargs, rfl, rfl, h0, r0⟩ := trodAll_cons hA
  obtain ⟨v1, vs1, d1, ds1, p1, q1, rfl, rfl, rfl, h1, r1⟩ := trodAll_cons r0
  obtain ⟨v2, vs2, d2, ds2, p2, q2, rfl, rfl, rfl, h2, r2⟩ := trodAll_cons r1
  obtain ⟨rfl, rfl, rfl⟩ := trodAll_nil r2
  obtain rfl : args = #[v0, v1, v2] := by cases args; simp_all
  obtain ⟨rfl, rfl⟩ := trodVars_none hV
  obtain ⟨a0, len0, cap0, rfl⟩ := okWide_slice Try.underlying22 (hval 0 22 v0 rfl rfl)
  have k0 := h0
  have lt0 : ∀ x ∈ p0, x.block < W.heap.size := by obtain ⟨m, hm⟩ := k0; exact DataW.trod_lt m _ _ _ hm
  obtain ⟨z0, w0⟩ : ∃ zs, IsRow .i64 W a0 len0 cap0 zs := by
    obtain ⟨fuel, hf⟩ := h0
    rcases open_ints Try.underlying22 Try.underlying3 (by kernel_rfl) hf with ⟨hcs, _⟩ | ⟨x, l, c, zs, hcs, _, hl, hm, hz, _, hcell, hwz⟩
    · simp [Value.cells] at hcs
      obtain ⟨rfl, rfl, rfl⟩ := hcs
      exact ⟨[], .inl ⟨rfl, rfl, rfl, rfl⟩⟩
    · simp [Value.cells] at hcs
      obtain ⟨rfl, rfl, rfl⟩ := hcs
      exact ⟨zs, .inr ⟨_, rfl, hl, hm, by simpa using hz, hcell, hwz⟩⟩
  obtain ⟨a1, rfl, rfl, rfl, w1⟩ := open_int Try.underlying3 (hval 1 3 v1 rfl rfl) h1
  obtain ⟨a2, rfl, rfl, rfl, w2⟩ := open_int Try.underlying5 (hval 2 5 v2 rfl rfl) h2
  clear hA0 hval0
  refine (walk a0 len0 cap0 z0 a1 a2 W w0 w1 w2).mono fun e W' ⟨he, bel⟩ => ?_
  subst he
  exact ⟨_, rfl, _, _, _, [], _, [], hW', trodAll_mk1 (shut_bool Try.underlying4 _), (trodAll_cons_mk (Below.trod laidOut (by kernel_rfl) (of_decide_eq_true (by kernel_rfl)) k0 bel lt0) (trodAll_cons_mk (shut_int Try.underlying3 w1) (trodAll_cons_mk (shut_int Try.underlying5 w2) trodAll_mk0))), rfl, bel.frame _, fun h => by cases h⟩

theorem over : Rows.wirePrefixRow.holds Try.pinned (OpenSpec.ofChange Rows.wirePrefixSpec) :=
  OpenClaim.holds_of_wide 7 Try.f7 rfl rfl rfl rfl rfl rfl rfl ⟨rfl, rfl, rfl, rfl, rfl⟩ rfl rfl rfl rfl rfl (by kernel_rfl) Try.func7 (by kernel_rfl)
    (of_decide_eq_true (by kernel_rfl)) (by unfold Func.isWrapper; first | (rw [if_pos (by decide +kernel)]; kernel_rfl) | (rw [if_neg (by decide +kernel)]; exact ⟨rfl, rfl⟩))
    (fun os started H enc _ => lifted os started H enc)

/-- ████ THE STATEMENT ████ -/
theorem proved : Rows.WirePrefixSaid := over
#print axioms proved
end Go.Proofs.Ytfnpnomfdfdonaa.wirePrefix
