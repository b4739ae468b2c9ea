/- For every two generated texts, the units of the joined text are the sum of the units, its lines are those of the first one followed by the later ones of the second one, and a position in the second one is found behind the first one (P3.8). It has no conditions. The frame below is the guide's shell. -/
import Derived.Test.YthjedecfpedjbaaRows
import Derived.Test.YthjedecfpedjbaaPLives
import Derived.Test.YthjedecfpedjbaaPText
import Derived.Test.YthjedecfpedjbaaPOrd
import Derived.Test.YthjedecfpedjbaaPJoin
import Derived.Test.YthjedecfpedjbaaShort
import Derived.Test.YthjedecfpedjbaaSameInts
import Derived.Test.YthjedecfpedjbaaWf
import Derived.Test.YthjedecfpedjbaaAround
import Derived.WalkKit
import Derived.ProofKit
import Derived.OpenShut
import Derived.ShutString
import Derived.ChangeOld
import Derived.Below
namespace Go.Proofs.Ythjedecfpedjbaa.positionParts
open Go.ChangeShapes Go.WideShapes Go.ChangeAt Go.RowKit
open Go.ChangeMaps (open_string shut_string)
set_option linter.unusedVariables false

theorem own : ownKnob Try.prog.godebug = none := by kernel_rfl
theorem laidOut : laidOutB Try.prog = true := by kernel_rfl

/-- The row that grows, and the row of the second text's lines. -/
def PtS (gX P : Nat) (w w4 wr : World) (ov : Value) (pre : List Int) : Prop := OutZ P w wr ov pre ∧ (∀ g, ov.ownBlock = some g → g ≠ gX) ∧ wr.heap[gX]? = w4.heap[gX]? ∧ gX < wr.heap.size
theorem PtS.push {gX P k : Nat} {w w4 wr w3 : World} {ov v' : Value} {pre E : List Int} {tmp : Obj} (h : PtS gX P w w4 wr ov pre) (hP : P ≤ wr.heap.size) (hown3 : w3.ownsRow P 3 1 v' k (pre.map (Value.int .i64) ++ E.map (Value.int .i64))) (hg : (wr.alloc tmp).grownBy w3 ov.ownBlock) (hat : v'.ownBlock = ov.ownBlock ∨ v'.ownBlock = some (wr.alloc tmp).heap.size) : PtS gX P w w4 w3 v' (pre ++ E) := by
  obtain ⟨h1, h2, h3, h4⟩ := h
  refine ⟨outz_step1 h1 hP hown3 hg, ?_, ?_, ?_⟩
  · intro g e
    rcases hat with h | h
    · exact h2 g (by rw [← h]; exact e)
    · rw [h] at e; simp at e; omega
  · rw [hg.block gX (by simp; omega) (fun e => h2 gX e.symm rfl), Below.heap_alloc wr _ gX h4]; exact h3
  · have := hg.size; simp at this; omega
set_option maxRecDepth 100000 in
set_option maxHeartbeats 8000000 in
theorem walkB (a a' : Option Addr) (cap cap' : Nat) (ls ls' : List Int) (w : World) (h : Sli .i64 w a cap ls) (hi : ∀ n ∈ ls, -9223372036854775808 ≤ n ∧ n ≤ 9223372036854775807) (h' : Sli .i64 w a' cap' ls') (hi' : ∀ n ∈ ls', -9223372036854775808 ≤ n ∧ n ≤ 9223372036854775807) (at_ : Int) (hat : -9223372036854775808 ≤ at_ ∧ at_ ≤ 9223372036854775807) :
    Calls Try.prog 9 #[.slice a ls.length cap, .slice a' ls'.length cap', .int .i64 at_] w fun e w' => e = .returned (.bool true) ∧ Below w.heap.size w w' := by
  obtain ⟨i3, hi3, hy0, hy1, hy2⟩ := info_parts info3
  obtain ⟨B, hB⟩ : ∃ B, w.heap.size = B := ⟨_, rfl⟩
  have c1 := rtext_any a cap ls w h hi
  have c2 : ∀ W, Below B w W → Calls Try.prog 13 #[.slice a' ls'.length cap'] W fun e w' => ∃ s, e = .returned (.string s) ∧ s.size ≤ 96 ∧ Whl (sb s) ∧ Below W.heap.size W w' := fun W hW => rtext_any a' cap' ls' W (Sli.below h' (by rw [hB]; exact hW)) hi'
  rw [hB] at c1
  have C1 := Lib.hid c1; have C2 := Lib.hid c2; have HB := Lib.hid hB
  clear c1 c2 h hi h' hi' hB
  go_enter Try.func9, Try.ntmps9
  go_wp2_with fail
  refine C1.out.mono ?_
  rintro e w1 ⟨S, rfl, hSl, hSw, hb1⟩
  have HS := Lib.hid hSw; have HB1 := Lib.hid hb1
  have z1 : B ≤ w1.heap.size := by have := hb1.size; have := HB.out; omega
  clear hSw hb1
  go_wp2_with fail
  refine (C2.out _ HB1.out).mono ?_
  rintro e w2 ⟨T, rfl, hTl, hTw, hb2⟩
  have HB2 : Hid (Below B w w2) := HB1.out.trans (hb2.mono z1)
  have z2 : B ≤ w2.heap.size := by have := HB2.out.size; have := HB.out; omega
  clear hb2 hTw
  obtain ⟨R, hR⟩ : ∃ R, S ++ T = R := ⟨_, rfl⟩
  have hRl : R.size ≤ 200 := by rw [← hR, ByteArray.size_append]; omega
  have hRs : sb R = sb S ++ sb T := by rw [← hR, sb_append]
  have HR := Lib.hid hR; have HRS := Lib.hid hRs
  have hu0 : unis (sb R) = unis (sb S) + unis (sb T) := by rw [hRs]; exact unis_join HS.out
  obtain ⟨uS, huS⟩ : ∃ u, unis (sb S) = u := ⟨_, rfl⟩
  obtain ⟨uT, huT⟩ : ∃ u, unis (sb T) = u := ⟨_, rfl⟩
  have hb3 : uS ≤ 1000 ∧ uT ≤ 1000 := by have h1 := unis_le (sb S); have h2 := unis_le (sb T); rw [sb_len] at h1 h2; omega
  obtain ⟨hb3a, hb3b⟩ := hb3
  have cU1 := fun W => punits_any R W (by omega)
  have cU2 := fun W => punits_any S W (by omega)
  have cU3 := fun W => punits_any T W (by omega)
  rw [hu0, huS, huT] at cU1
  rw [huS] at cU2
  rw [huT] at cU3
  have CU1 := Lib.hid cU1; have CU2 := Lib.hid cU2; have CU3 := Lib.hid cU3
  have hsum : S.size + T.size ≤ 9223372036854775807 := by omega
  clear hR hRs hu0 huS huT cU1 cU2 cU3
  go_wp2_with fail
  rw [show S ++ T = R from HR.out]
  refine (CU1.out _).mono ?_
  rintro e w3 ⟨rfl, b3⟩
  have HB3 : Hid (Below B w w3) := HB2.out.trans (b3.mono z2)
  have z3 : B ≤ w3.heap.size := by have := HB3.out.size; have := HB.out; omega
  clear b3
  go_wp2_with fail
  refine (CU2.out _).mono ?_
  rintro e w4 ⟨rfl, b4⟩
  have HB4 : Hid (Below B w w4) := HB3.out.trans (b4.mono z3)
  have z4 : B ≤ w4.heap.size := by have := HB4.out.size; have := HB.out; omega
  clear b4
  go_wp2_with fail
  refine (CU3.out _).mono ?_
  rintro e w5 ⟨rfl, b5⟩
  have HB5 : Hid (Below B w w5) := HB4.out.trans (b5.mono z4)
  have z5 : B ≤ w5.heap.size := by have := HB5.out.size; have := HB.out; omega
  have hq0 : (((uS + uT : Nat) : Int) != (uS : Int) + (uT : Int)) = false := by simp
  clear b5
  have cL1 := fun W => plines_any S W (by omega)
  have cL2 := fun W => plines_any T W (by omega)
  have cL3 := fun W => plines_any R W (by omega)
  obtain ⟨QS, hQS⟩ : ∃ Q, lns (sb S) = Q := ⟨_, rfl⟩
  obtain ⟨QT, hQT⟩ : ∃ Q, lns (sb T) = Q := ⟨_, rfl⟩
  have hQR : lns (sb R) = QS ++ QT.tail.map (fun x => (S.size : Int) + x) := by rw [HRS.out, lns_join, hQS, hQT, sb_len]
  have hQTb : ∀ i : Nat, -1 ≤ QT[i]?.getD 0 ∧ QT[i]?.getD 0 ≤ 100000 := by
    intro i
    by_cases hi : i < (lns (sb T)).length
    · obtain ⟨g, t, h1, h2, h3, _⟩ := line_at hi
      rw [sb_len] at h3
      rw [← hQT, h1]; omega
    · rw [← hQT, List.getElem?_eq_none (by omega)]; simp
  obtain ⟨nS, hnS⟩ : ∃ n, QS.length = n := ⟨_, rfl⟩
  obtain ⟨nT, hnT⟩ : ∃ n, QT.length = n := ⟨_, rfl⟩
  have hnS2 : nS ≤ 1000 := by have := lnsF_len 0 (sb S); rw [sb_len] at this; rw [← hnS, ← hQS]; simp [lns]; omega
  have hnT2 : nT ≤ 1000 := by have := lnsF_len 0 (sb T); rw [sb_len] at this; rw [← hnT, ← hQT]; simp [lns]; omega
  have hnT1 : 1 ≤ nT := by rw [← hnT, ← hQT]; simp [lns]
  rw [hQS] at cL1
  rw [hQT] at cL2
  have CL1 := Lib.hid cL1; have CL2 := Lib.hid cL2; have CL3 := Lib.hid cL3
  have HQR := Lib.hid hQR; have HQT := Lib.hid hQTb; have HNS := Lib.hid hnS; have HNT := Lib.hid hnT
  clear cL1 cL2 cL3 hQS hQT hQR hQTb hnS hnT
  go_wp2_with fail
  refine (CL1.out _).mono ?_
  rintro e w6 h2
  obtain ⟨A6, k6, rfl, row6, b6⟩ := row_of_new h2
  rw [HNS.out]
  have HROW6 := Lib.hid row6
  have HB6 : Hid (Below B w w6) := HB5.out.trans (b6.mono z5)
  have z6 : B ≤ w6.heap.size := by have := HB6.out.size; have := HB.out; omega
  clear h2 row6 b6
  go_wp2_with fail
  refine (CL2.out _).mono ?_
  rintro e w7 h2
  obtain ⟨A7, k7, rfl, row7, b7⟩ := row_of_new h2
  rw [HNT.out] at row7 ⊢
  have HB7 : Hid (Below B w w7) := HB6.out.trans (b7.mono z6)
  have z7 : B ≤ w7.heap.size := by have := HB7.out.size; have := HB.out; omega
  obtain ⟨gX, hA7, hgX1, hgX, _, _⟩ := row7.at_ (j := 0) (by omega)
  subst hA7
  have hcap := row7.sli.le
  have hmx := row7.sli.mx
  rw [HNT.out] at hcap
  have HCX : Hid (∀ i, i < nT → w7.cell? ⟨gX, i, none⟩ = some (.int .i64 (QT[i]?.getD 0))) := by
    intro i hi
    obtain ⟨g', hA', _, _, hck, _⟩ := row7.at_ (j := i) hi
    simp only [Option.some.injEq, Addr.mk.injEq, and_true] at hA'
    subst hA'
    exact hck
  have H0 : Hid (PtS gX B w w7 w7 (.slice A6 nS k6) QS) := by
    have hr := HROW6.out
    rw [HNS.out] at hr
    have h1 := (hr.below b7 (Nat.le_refl _)).own
    refine ⟨⟨?_, HB7.out⟩, fun g hg => by have := hr.lt g hg; omega, rfl, hgX⟩
    rw [HNS.out]
    refine ⟨h1.1, ?_⟩
    rcases h1.2 with hn | ⟨g, cp, cur, q1, q2, q3⟩
    · exact .inl hn
    · exact .inr ⟨g, cp, cur, q1, by omega, q3⟩
  clear h2 row7 b7
  go_wp2_with fail
  go_loopw [9, 11] (fun o q wr => ∃ (i : Nat) (ov : Value) (pre : List Int), 1 ≤ i ∧ i ≤ nT ∧ pre.length ≤ nS + i ∧ q = .int .i64 (i : Int) ∧ o = ov ∧ Hid (QS ++ QT.tail.map (fun x => (S.size : Int) + x) = pre ++ (QT.drop i).map (fun x => (S.size : Int) + x)) ∧ Hid (PtS gX B w w7 wr ov pre)) (fun _ q _ => nT - (intOf q).toNat)
  case atStart => exact ⟨1, _, QS, by omega, by omega, by rw [HNS.out]; omega, rfl, rfl, Lib.hid (by rw [List.drop_one]), H0⟩
  case round =>
    obtain ⟨i, ov, pre, hi1, hi, hpl, rfl, rfl, HI, HP⟩ := hrel
    by_cases hlt : i < nT
    · have hck : wr.cell? ⟨gX, i, none⟩ = some (.int .i64 (QT[i]?.getD 0)) := (World.cell?_of_block HP.out.2.2.1).trans (HCX.out i hlt)
      have hxb := HQT.out i
      have hI := HI.out
      rw [List.drop_eq_getElem_cons (by rw [HNT.out]; exact hlt)] at hI
      have hget : QT[i]'(by rw [HNT.out]; exact hlt) = QT[i]?.getD 0 := by rw [List.getElem?_eq_getElem (by rw [HNT.out]; exact hlt)]; rfl
      rw [hget, List.map_cons] at hI
      generalize QT[i]?.getD 0 = x at hck hxb hI
      obtain ⟨hx1, hx2⟩ := hxb
      have HI2 : Hid (QS ++ QT.tail.map (fun x => (S.size : Int) + x) = (pre ++ [(S.size : Int) + x]) ++ (QT.drop (i + 1)).map (fun x => (S.size : Int) + x)) := Lib.hid (by rw [hI]; simp)
      have hP2 : B ≤ wr.heap.size := by have := HP.out.1.2.size; have := HB.out; omega
      have hown := HP.out.1.1
      obtain ⟨N, hN⟩ : ∃ N, pre.length = N := ⟨_, rfl⟩
      rw [hN] at hown hpl
      have hNl : N ≤ 2000 := by omega
      have HO := Lib.hid hown; have HNN := Lib.hid hN
      clear hI hget hown hN
      go_wp2_with (at_builtin; refine wpList_append_own_at _ rfl _ _ 22 rfl B 3 i3 (.int .i64 0) 1 8 Try.underlying22 hi3 hy0 hy1 hy2 rfl (by decide) u9 N (pre.map (Value.int .i64)) rfl (HO.out.alloc _) ⟨wr.heap.size, 0, none⟩ 1 1 [.int .i64 ((S.size : Int) + x)] rfl rfl (cell_one_new _ _ _) (fun x hx => by simp at hx; subst hx; rfl) (by unfold maxLen; omega) (by omega) (by simp; omega) ?_; intro v' wg hown3 hgrow3 _ hat3; obtain ⟨A3, k3, rfl⟩ := own_slice hown3)
      have H3 : Hid (PtS gX B w w7 wg (.slice A3 (N + 1) k3) (pre ++ [(S.size : Int) + x])) := PtS.push (E := [(S.size : Int) + x]) HP.out hP2 hown3 hgrow3 hat3
      clear hown3 hgrow3 hat3
      go_wp2
      go_roundw
      case rel => exact ⟨i + 1, _, _, by omega, by omega, by have := HNN.out; simp; omega, by go_num, rfl, HI2, H3⟩
      case measure => simp [intOf]; omega
    · have hfin : lns (sb R) = pre := by
        have := HI.out
        rw [List.drop_eq_nil_of_le (by rw [HNT.out]; omega), List.map_nil, List.append_nil] at this
        rw [HQR.out, this]
      have hown := HP.out.1.1
      obtain ⟨A8, k8, hv8⟩ := own_slice hown
      subst hv8
      have HROW8 := Lib.hid (row_of_own hown)
      have HBr : Hid (Below B w wr) := HP.out.1.2
      have zr : B ≤ wr.heap.size := by have := HBr.out.size; have := HB.out; omega
      have hpl2 : pre.length ≤ 2000 := by omega
      have HF := Lib.hid hfin
      clear hown hfin
      go_wp2_with fail
      rw [show S ++ T = R from HR.out]
      refine (CL3.out _).mono ?_
      rintro e w9 h2
      obtain ⟨A9, k9, rfl, row9, b9⟩ := row_of_new h2
      rw [HF.out] at row9 ⊢
      have cSI := sameInts_any A9 A8 k9 k8 pre pre w9 row9.sli ((HROW8.out.below b9 (Nat.le_refl _)).sli.mono b9.size) (by omega) (by omega)
      simp only [decide_true] at cSI
      have CSI := Lib.hid cSI
      have HB9 : Hid (Below B w w9) := HBr.out.trans (b9.mono zr)
      have z9 : B ≤ w9.heap.size := by have := HB9.out.size; have := HB.out; omega
      clear h2 row9 b9 cSI
      go_wp2_with fail
      refine CSI.out.mono ?_
      rintro e w10 ⟨rfl, b10⟩
      have HB10 : Hid (Below B w w10) := HB9.out.trans (b10.mono z9)
      have z10 : B ≤ w10.heap.size := by have := HB10.out.size; have := HB.out; omega
      clear b10
      have cB := fun W => rborders_any T W (by omega)
      obtain ⟨Q, hQ⟩ : ∃ Q, bordI (sb T) = Q := ⟨_, rfl⟩
      obtain ⟨N, hN⟩ : ∃ N, Q.length = N := ⟨_, rfl⟩
      have hN1 : 1 ≤ N := by rw [← hN, ← hQ]; exact bordI_pos _
      have hN2 : N ≤ 1000 := by have := bordI_len (sb T); rw [sb_len] at this; rw [← hN, ← hQ]; omega
      have hQb : ∀ i : Nat, i < N → ∃ x U, Q[i]?.getD 0 = ((x : Nat) : Int) ∧ Bord (sb T) x U ∧ x ≤ T.size := by
        intro i hi
        obtain ⟨x, U, h1, h2⟩ := bordI_at (X := sb T) (i := i) (by rw [hQ, hN]; exact hi)
        have := h2.le
        rw [sb_len] at this
        exact ⟨x, U, by rw [← hQ]; exact h1, h2, by omega⟩
      rw [hQ] at cB
      have CB := Lib.hid cB; have HQ := Lib.hid hQb; have HN := Lib.hid hN
      clear cB hQ hN hQb
      go_wp2_with fail
      refine (CB.out _).mono ?_
      rintro e w11 h2
      obtain ⟨A11, k11, rfl, row11, b11⟩ := row_of_new h2
      rw [HN.out] at row11 ⊢
      obtain ⟨gB, hA11, _, hgB, _, _⟩ := row11.at_ (j := 0) (by omega)
      subst hA11
      have hcap11 := row11.sli.le
      have hmx11 := row11.sli.mx
      rw [HN.out] at hcap11
      have HB11 : Hid (Below B w w11) := HB10.out.trans (b11.mono z10)
      have z11 : B ≤ w11.heap.size := by have := HB11.out.size; have := HB.out; omega
      have HROW : Hid (∀ i, i < N → ∃ x U, Bord (sb T) x U ∧ x ≤ T.size ∧ w11.cell? ⟨gB, i, none⟩ = some (.int .i64 (x : Int))) := by
        intro i hi
        obtain ⟨x, U, h1, h2, h3⟩ := HQ.out i hi
        obtain ⟨g', hA', _, _, hck, _⟩ := row11.at_ (j := i) hi
        simp only [Option.some.injEq, Addr.mk.injEq, and_true] at hA'
        subst hA'
        rw [h1] at hck
        exact ⟨x, U, h2, h3, hck⟩
      clear h2 row11 b11
      go_wp2_with fail
      refine (around_any at_ N _ hat.1 hat.2 (by omega) (by omega)).mono ?_
      rintro e w' ⟨m, hm, rfl, rfl⟩
      obtain ⟨x, V, hbx, hx1, cx⟩ := HROW.out m hm
      have HBX := Lib.hid hbx
      have CA1 := Lib.hid (fun W => pat_any T (x : Int) W (by omega) (by omega) (by omega))
      have CA2 := Lib.hid (fun W => pat_any S (S.size : Int) W (by omega) (by omega) (by omega))
      have CA3 := Lib.hid (fun W => pat_any R ((S.size : Int) + (x : Int)) W (by omega) (by omega) (by omega))
      clear hbx
      go_wp2_with fail
      refine (CA1.out _).mono ?_
      rintro e w12 ⟨l, u, er, rfl, hsp, b12⟩
      obtain ⟨rfl, hpx⟩ := at_border hsp HBX.out
      have HPX := Lib.hid hpx
      have HB12 : Hid (Below B w (w12.alloc (.cells #[.int .i64 (l : Int), .int .i64 (u : Int)] 32))) := (HB11.out.trans (b12.mono z11)).alloc (by have := b12.size; omega) _
      have z12 : B ≤ w12.heap.size := by have := b12.size; omega
      have bl1 : Blk (w12.alloc (.cells #[.int .i64 (l : Int), .int .i64 (u : Int)] 32)) w12.heap.size 32 #[.int .i64 (l : Int), .int .i64 (u : Int)] := Blk.new _ _ _
      have HL1 := Lib.hid bl1
      have hub := hpx.2.2.unis_take
      have hul : u ≤ 1000 := by have h1 := unis_le (((sb T).drop (lf (sb T) x).2).take (x - (lf (sb T) x).2)); rw [List.length_take, List.length_drop, sb_len] at h1; omega
      have hll : l ≤ 1000 := by have h1 := (lf_le (sb T) x).2; have := hpx.2.1; omega
      clear b12 bl1 hsp hpx cx hub
      go_wp2_with fail
      refine (CA2.out _).mono ?_
      rintro e w13 ⟨L, U, er, rfl, hsp, b13⟩
      obtain ⟨rfl, hpa⟩ := at_border hsp (by have := Bord.full (sb S); rw [sb_len] at this; exact this)
      have HPA := Lib.hid hpa
      have s12 : w12.heap.size < w13.heap.size := by have := b13.size; simp at this; omega
      have HB13 : Hid (Below B w (w13.alloc (.cells #[.int .i64 (L : Int), .int .i64 (U : Int)] 32))) := (HB12.out.trans (b13.mono (by simp; omega))).alloc (by omega) _
      have HL1b := Lib.hid (HL1.out.same (b13.block _ HL1.out.lt))
      have bl2 : Blk (w13.alloc (.cells #[.int .i64 (L : Int), .int .i64 (U : Int)] 32)) w13.heap.size 32 #[.int .i64 (L : Int), .int .i64 (U : Int)] := Blk.new _ _ _
      have HL2 := Lib.hid bl2
      have hUl : U ≤ 1000 := by have h0 := hpa.2.2.unis_take; have h1 := unis_le (((sb S).drop (lf (sb S) S.size).2).take (S.size - (lf (sb S) S.size).2)); rw [List.length_take, List.length_drop, sb_len] at h1; omega
      have hLl : L ≤ 1000 := by have h1 := (lf_le (sb S) S.size).2; have := hpa.2.1; omega
      clear b13 bl2 hsp hpa
      go_wp2_with fail
      rw [show S ++ T = R from HR.out]
      refine (CA3.out _).mono ?_
      rintro e w14 ⟨l3, u3, er, rfl, hsp, b14⟩
      have hspR : AtSpec (sb R) ((S.size + x : Nat) : Int) l3 u3 er := by rw [Int.natCast_add]; exact hsp
      have hbR : Bord (sb R) (S.size + x) (unis (sb S) + V) := by
        have := Bord.join HS.out HBX.out
        rw [← HRS.out, sb_len] at this
        exact this
      obtain ⟨rfl, hpr⟩ := at_border hspR hbR
      have hpj := pos_join HS.out (by have := HPA.out; rw [← sb_len] at this; exact this) HPX.out
      rw [← HRS.out, sb_len] at hpj
      obtain ⟨e1, e2⟩ := hpr.det hpj
      have s13 : w13.heap.size < w14.heap.size := by have := b14.size; simp at this; omega
      have s14 : w12.heap.size < w14.heap.size := by omega
      have HB14 : Hid (Below B w (w14.alloc (.cells #[.int .i64 (l3 : Int), .int .i64 (u3 : Int)] 32))) := (HB13.out.trans (b14.mono (by simp; omega))).alloc (by omega) _
      have p0 := (b14.cell (p := ⟨w12.heap.size, 0, none⟩) (by simp; omega)).trans (World.cell?_of_block (Below.heap_alloc w13 (.cells #[.int .i64 (L : Int), .int .i64 (U : Int)] 32) w12.heap.size s12))
      have p1 := (b14.cell (p := ⟨w12.heap.size, 1, none⟩) (by simp; omega)).trans (World.cell?_of_block (Below.heap_alloc w13 (.cells #[.int .i64 (L : Int), .int .i64 (U : Int)] 32) w12.heap.size s12))
      have r0 := (b14.cell (p := ⟨w13.heap.size, 0, none⟩) (by simp)).trans (HL2.out.cell 0)
      have r1 := (b14.cell (p := ⟨w13.heap.size, 1, none⟩) (by simp)).trans (HL2.out.cell 1)
      have p0' := p0.trans (HL1b.out.cell 0)
      have p1' := p1.trans (HL1b.out.cell 1)
      simp at p0' p1' r0 r1
      clear hsp hspR hbR hpr hpj b14 p0 p1
      subst e1
      by_cases hl0 : l = 0
      · rw [if_pos hl0] at e2
        subst hl0 e2
        have hq1 : (((L + 0 : Nat) : Int) == (L : Int)) = true := by simp
        have hq2 : (((U + u : Nat) : Int) == (U : Int) + (u : Int)) = true := by simp
        go_wp2_with fail
        refine (plives_any _).mono ?_
        rintro e wf ⟨rfl, bf⟩
        have HFF : Hid (Below B w wf) := HB14.out.trans (bf.mono (by simp; omega))
        clear bf
        go_wp2
        go_ret
        exact ⟨rfl, by rw [HB.out]; exact HFF.out⟩
      · rw [if_neg hl0] at e2
        subst e2
        have hq0 : ((l : Int) == 0) = false := by simp; omega
        have hq1 : (((L + l : Nat) : Int) == (L : Int) + (l : Int)) = true := by simp
        have hq2 : ((u3 : Int) == (u3 : Int)) = true := by simp
        go_wp2_with fail
        refine (plives_any _).mono ?_
        rintro e wf ⟨rfl, bf⟩
        have HFF : Hid (Below B w wf) := HB14.out.trans (bf.mono (by simp; omega))
        clear bf
        go_wp2
        go_ret
        exact ⟨rfl, by rw [HB.out]; exact HFF.out⟩

theorem walk (a0 : Option Addr) (len0 cap0 : Nat) (z0 : List Int) (a1 : Option Addr) (len1 cap1 : Nat) (z1 : List Int) (a2 : Int) (w : World) (w0 : IsRow .i64 w a0 len0 cap0 z0) (w1 : IsRow .i64 w a1 len1 cap1 z1) (w2 : (Lit.int .i64 a2).wf = true) :
    Calls Try.prog 9 #[.slice a0 len0 cap0, .slice a1 len1 cap1, .int .i64 a2] w fun e w' => e = .returned (.bool true) ∧ Below w.heap.size w w' := by
  obtain ⟨ls, rfl, hl, hwl⟩ := sli_of_isRow w0
  obtain ⟨ls', rfl, hl', hwl'⟩ := sli_of_isRow w1
  exact walkB a0 a1 cap0 cap1 ls ls' w hl (fun n hn => wf_i64 (hwl n hn)) hl' (fun n hn => wf_i64 (hwl' n hn)) a2 (wf_i64 w2)

/-! ### THE ROW's STEP: WRITTEN OUT: LEAVE IT -/
set_option maxRecDepth 100000 in
theorem lifted (os : Os) (started : os.Started) (H : Type) (enc : TypeId × Value → H) :
    ReturnsInHanded {} Try.checked os 9 .any (Rows.positionPartsSpec.pre6 enc Try.prog Try.f9 Rows.positionPartsRow.domain false) (Rows.positionPartsSpec.post enc Try.prog Try.f9 false true false false) := by
  refine returnsInHanded_of_change (C := Try.checked) own started (by kernel_rfl) Try.func9
    (ChangeSpec.witness6 (enc := enc) (C := Try.checked) false ⟨#[], #[.slice none 0 0, .slice none 0 0, .int .i64 0], []⟩ 8 (by kernel_rfl) (by kernel_rfl) (by kernel_rfl) (by kernel_rfl)) ?_
  intro W base args ds gs before hval0 hW hcnd _
  have hval : ∀ (j : Nat) t v, Try.f9.params[j]? = some t → args[j]? = some v → Value.okWide Try.prog W .any base t v := hval0
  have hW' := hW
  obtain ⟨p, q, hA0, hV, rfl, hfz, hnd⟩ := hW
  have hA : DataW.TrodAll enc Try.prog W 0 (fun _ => true) true Try.f9.params.toList args.toList ds p := hA0
  rw [Try.params9] at hA hval
  obtain ⟨v0, vs0, d0, ds0, p0, q0, hargs, rfl, rfl, h0, r0⟩ := trodAll_cons hA
  obtain ⟨v1, vs1, d1, ds1, p1, q1, rfl, rfl, rfl, h1, r1⟩ := trodAll_cons r0
  obtain ⟨v2, vs2, d2, ds2, p2, q2, rfl, rfl, rfl, h2, r2⟩ := trodAll_cons r1
  obtain ⟨rfl, rfl, rfl⟩ := trodAll_nil r2
  obtain rfl : args = #[v0, v1, v2] := by cases args; simp_all
  obtain ⟨rfl, rfl⟩ := trodVars_none hV
  obtain ⟨a0, len0, cap0, rfl⟩ := okWide_slice Try.underlying22 (hval 0 22 v0 rfl rfl)
  have k0 := h0
  have lt0 : ∀ x ∈ p0, x.block < W.heap.size := by obtain ⟨m, hm⟩ := k0; exact DataW.trod_lt m _ _ _ hm
  obtain ⟨z0, w0⟩ : ∃ zs, IsRow .i64 W a0 len0 cap0 zs := by
    obtain ⟨fuel, hf⟩ := h0
    rcases open_ints Try.underlying22 Try.underlying3 (by kernel_rfl) hf with ⟨hcs, _⟩ | ⟨x, l, c, zs, hcs, _, hl, hm, hz, _, hcell, hwz⟩
    · simp [Value.cells] at hcs
      obtain ⟨rfl, rfl, rfl⟩ := hcs
      exact ⟨[], .inl ⟨rfl, rfl, rfl, rfl⟩⟩
    · simp [Value.cells] at hcs
      obtain ⟨rfl, rfl, rfl⟩ := hcs
      exact ⟨zs, .inr ⟨_, rfl, hl, hm, by simpa using hz, hcell, hwz⟩⟩
  obtain ⟨a1, len1, cap1, rfl⟩ := okWide_slice Try.underlying22 (hval 1 22 v1 rfl rfl)
  have k1 := h1
  have lt1 : ∀ x ∈ p1, x.block < W.heap.size := by obtain ⟨m, hm⟩ := k1; exact DataW.trod_lt m _ _ _ hm
  obtain ⟨z1, w1⟩ : ∃ zs, IsRow .i64 W a1 len1 cap1 zs := by
    obtain ⟨fuel, hf⟩ := h1
    rcases open_ints Try.underlying22 Try.underlying3 (by kernel_rfl) hf with ⟨hcs, _⟩ | ⟨x, l, c, zs, hcs, _, hl, hm, hz, _, hcell, hwz⟩
    · simp [Value.cells] at hcs
      obtain ⟨rfl, rfl, rfl⟩ := hcs
      exact ⟨[], .inl ⟨rfl, rfl, rfl, rfl⟩⟩
    · simp [Value.cells] at hcs
      obtain ⟨rfl, rfl, rfl⟩ := hcs
      exact ⟨zs, .inr ⟨_, rfl, hl, hm, by simpa using hz, hcell, hwz⟩⟩
  obtain ⟨a2, rfl, rfl, rfl, w2⟩ := open_int Try.underlying3 (hval 2 3 v2 rfl rfl) h2
  clear hA0 hval0
  refine (walk a0 len0 cap0 z0 a1 len1 cap1 z1 a2 W w0 w1 w2).mono fun e W' ⟨he, bel⟩ => ?_
  subst he
  exact ⟨_, rfl, _, _, _, [], _, [], hW', trodAll_mk1 (shut_bool Try.underlying4 _), (trodAll_cons_mk (Below.trod laidOut (by kernel_rfl) (of_decide_eq_true (by kernel_rfl)) k0 bel lt0) (trodAll_cons_mk (Below.trod laidOut (by kernel_rfl) (of_decide_eq_true (by kernel_rfl)) k1 bel lt1) (trodAll_cons_mk (shut_int Try.underlying3 w2) trodAll_mk0))), rfl, bel.frame _, fun h => by cases h⟩

theorem over : Rows.positionPartsRow.holds Try.pinned (OpenSpec.ofChange Rows.positionPartsSpec) :=
  OpenClaim.holds_of_wide 9 Try.f9 rfl rfl rfl rfl rfl rfl rfl ⟨rfl, rfl, rfl, rfl, rfl⟩ rfl rfl rfl rfl rfl (by kernel_rfl) Try.func9 (by kernel_rfl)
    (of_decide_eq_true (by kernel_rfl)) (by unfold Func.isWrapper; first | (rw [if_pos (by decide +kernel)]; kernel_rfl) | (rw [if_neg (by decide +kernel)]; exact ⟨rfl, rfl⟩))
    (fun os started H enc _ => lifted os started H enc)

/-- ████ THE STATEMENT ████ -/
theorem proved : Rows.PositionPartsSaid := over
#print axioms proved
end Go.Proofs.Ythjedecfpedjbaa.positionParts
