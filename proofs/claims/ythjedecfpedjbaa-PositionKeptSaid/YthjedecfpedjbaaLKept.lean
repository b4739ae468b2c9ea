/- For every generated text and every offset at which a character begins, the text and the position, written with package wire and read again, lead to the same offset, and the hash of the text before it is the same (P3.9). It has no conditions. The frame below is the guide's shell. -/
import Derived.Test.YthjedecfpedjbaaRows
import Derived.Test.YthjedecfpedjbaaPLives
import Derived.Test.YthjedecfpedjbaaPText
import Derived.Test.YthjedecfpedjbaaPOrd
import Derived.Test.YthjedecfpedjbaaShort
import Derived.Test.YthjedecfpedjbaaSameInts
import Derived.Test.YthjedecfpedjbaaWf
import Derived.Test.YthjedecfpedjbaaAround
import Derived.Test.YthjedecfpedjbaaBytes
import Derived.Test.YthjedecfpedjbaaVRead2
import Derived.Test.YthjedecfpedjbaaVRound
import Derived.WalkKit
import Derived.ProofKit
import Derived.OpenShut
import Derived.ShutString
import Derived.ChangeOld
import Derived.Below
namespace Go.Proofs.Ythjedecfpedjbaa.positionKept
open Go.ChangeShapes Go.WideShapes Go.ChangeAt Go.RowKit
open Go.ChangeMaps (open_string shut_string)
set_option linter.unusedVariables false

theorem own : ownKnob Try.prog.godebug = none := by kernel_rfl
theorem laidOut : laidOutB Try.prog = true := by kernel_rfl

def cvA : Op := Op.convert 9 54 (Operand.tmp 90)
def cvB : Op := Op.convert 9 54 (Operand.tmp 95)
theorem bs_sb (s : ByteArray) : bs (sb s) = s := by
  obtain ⟨⟨l⟩⟩ := s
  unfold bs sb
  simp only [List.map_map]
  have : List.map ((fun c => UInt8.ofNat c.toNat) ∘ fun (c : UInt8) => ((c.toNat : Nat) : Int)) l = l := by
    conv => rhs; rw [← List.map_id l]
    apply List.map_congr_left
    intro c _
    simp
  rw [this]
theorem wr_new (w : World) : Wr (w.alloc (.cells #[.slice none 0 0] 56)) w.heap.size w.heap.size [] :=
  ⟨.slice none 0 0, Boxed.new _ _ _, World.ownsRow_nil _ _ _ _, Nat.le_refl _⟩
/-- A string's bytes, as a slice in a new block. -/
theorem conv_new (s : ByteArray) (hs : s.size ≤ 1000) : ∃ (cc : World → Nat) (fw : World → World), ∀ W, (convert 9 54 (.string s)).run Try.prog W = .ok (.slice (some ⟨W.heap.size, 0, none⟩) s.size (cc W)) (fw W) ∧
    Below W.heap.size W (fw W) ∧ Sli .u8 (fw W) (some ⟨W.heap.size, 0, none⟩) (cc W) (sb s) := by
  refine ⟨fun W => grownCap W s.size 0 5, fun W => W.drew.alloc (.cells (bytesRow s (grownCap W s.size 0 5)) 5 ((bytesRow s (grownCap W s.size 0 5)).size, (bytesRow s (grownCap W s.size 0 5)).size + 1)), fun W => ⟨?_, ?_, ?_⟩⟩
  · exact run_bytes_of_string W 9 54 5 s Try.underlying9 Try.underlying54 Try.underlying5
  · exact (Below.refl _ _).drew.alloc (Nat.le_refl _) _
  · refine sli_string s _ _ _ 5 _ (grownCap_ge W s.size 0 5) ?_ (heap_alloc_new W.drew _)
    have := grownCap_le_maxLen W s.size 0 5 (by unfold maxLen; omega)
    unfold maxLen at this
    omega
set_option maxRecDepth 100000 in
set_option maxHeartbeats 8000000 in
theorem walkB (a : Option Addr) (cap : Nat) (ls : List Int) (w : World) (h : Sli .i64 w a cap ls) (hi : ∀ n ∈ ls, -9223372036854775808 ≤ n ∧ n ≤ 9223372036854775807) (at_ : Int) (hat : -9223372036854775808 ≤ at_ ∧ at_ ≤ 9223372036854775807) :
    Calls Try.prog 11 #[.slice a ls.length cap, .int .i64 at_] w fun e w' => e = .returned (.bool true) ∧ Below w.heap.size w w' := by
  obtain ⟨B, hB⟩ : ∃ B, w.heap.size = B := ⟨_, rfl⟩
  have c1 := rtext_any a cap ls w h hi
  rw [hB] at c1
  have C1 := Lib.hid c1; have HB := Lib.hid hB
  clear c1 h hi hB
  go_enter Try.func11, Try.ntmps11
  go_wp2_with fail
  refine C1.out.mono ?_
  rintro e w1 ⟨S, rfl, hSl, hSw, hb1⟩
  have HB1 := Lib.hid hb1
  have z1 : B ≤ w1.heap.size := by have := hb1.size; have := HB.out; omega
  clear hSw hb1
  have cB := fun W => rborders_any S W (by omega)
  obtain ⟨Q, hQ⟩ : ∃ Q, bordI (sb S) = Q := ⟨_, rfl⟩
  obtain ⟨N, hN⟩ : ∃ N, Q.length = N := ⟨_, rfl⟩
  have hN1 : 1 ≤ N := by rw [← hN, ← hQ]; exact bordI_pos _
  have hN2 : N ≤ 1000 := by have := bordI_len (sb S); rw [sb_len] at this; rw [← hN, ← hQ]; omega
  have hQb : ∀ i : Nat, i < N → ∃ x U, Q[i]?.getD 0 = ((x : Nat) : Int) ∧ Bord (sb S) x U ∧ x ≤ S.size := by
    intro i hi
    obtain ⟨x, U, h1, h2⟩ := bordI_at (X := sb S) (i := i) (by rw [hQ, hN]; exact hi)
    have := h2.le
    rw [sb_len] at this
    exact ⟨x, U, by rw [← hQ]; exact h1, h2, by omega⟩
  rw [hQ] at cB
  have CB := Lib.hid cB; have HQ := Lib.hid hQb; have HN := Lib.hid hN
  clear cB hQ hN hQb
  go_wp2_with fail
  refine (CB.out _).mono ?_
  rintro e w2 h2
  obtain ⟨A2, k2, rfl, row2, b2⟩ := row_of_new h2
  rw [HN.out] at row2 ⊢
  obtain ⟨gB, hA2, _, hgB, _, _⟩ := row2.at_ (j := 0) (by omega)
  subst hA2
  have hcap2 := row2.sli.le
  have hmx2 := row2.sli.mx
  rw [HN.out] at hcap2
  have HB2 : Hid (Below B w w2) := HB1.out.trans (b2.mono z1)
  have z2 : B ≤ w2.heap.size := by have := HB2.out.size; have := HB.out; omega
  have HROW : Hid (∀ i, i < N → ∃ x U, Bord (sb S) x U ∧ x ≤ S.size ∧ w2.cell? ⟨gB, i, none⟩ = some (.int .i64 (x : Int))) := by
    intro i hi
    obtain ⟨x, U, h1, h2, h3⟩ := HQ.out i hi
    obtain ⟨g', hA', _, _, hck, _⟩ := row2.at_ (j := i) hi
    simp only [Option.some.injEq, Addr.mk.injEq, and_true] at hA'
    subst hA'
    rw [h1] at hck
    exact ⟨x, U, h2, h3, hck⟩
  clear h2 row2 b2
  go_wp2_with fail
  refine (around_any at_ N _ hat.1 hat.2 (by omega) (by omega)).mono ?_
  rintro e w' ⟨m, hm, rfl, rfl⟩
  obtain ⟨x, V, hbx, hx1, cx⟩ := HROW.out m hm
  have HBX := Lib.hid hbx
  have CA1 := Lib.hid (fun W => pat_any S (x : Int) W (by omega) (by omega) (by omega))
  clear hbx
  go_wp2_with fail
  refine (CA1.out _).mono ?_
  rintro e w3 ⟨l, u, er, rfl, hsp, b3⟩
  obtain ⟨rfl, hpx⟩ := at_border hsp HBX.out
  have hOS : OffSpec (sb S) (l : Int) (u : Int) x 0 := .inl ⟨rfl, l, u, rfl, rfl, hpx⟩
  have hul : u ≤ 1000 := by have h0 := hpx.2.2.unis_take; have h1 := unis_le (((sb S).drop (lf (sb S) x).2).take (x - (lf (sb S) x).2)); rw [List.length_take, List.length_drop, sb_len] at h1; omega
  have hll : l ≤ 1000 := by have h1 := (lf_le (sb S) x).2; have := hpx.2.1; omega
  have HB3 : Hid (Below B w w3) := HB2.out.trans (b3.mono z2)
  have z3 : B ≤ w3.heap.size := by have := HB3.out.size; have := HB.out; omega
  obtain ⟨W1, hW1⟩ : ∃ W, w3.alloc (.cells #[.int .i64 (l : Int), .int .i64 (u : Int)] 32) = W := ⟨_, rfl⟩
  obtain ⟨p, hp⟩ : ∃ p, W1.heap.size = p := ⟨_, rfl⟩
  obtain ⟨W2, hW2⟩ : ∃ W, W1.alloc (.cells #[.slice none 0 0] 56) = W := ⟨_, rfl⟩
  obtain ⟨q, hq⟩ : ∃ q, w3.heap.size = q := ⟨_, rfl⟩
  have hpq : p = q + 1 := by rw [← hp, ← hW1, ← hq]; simp
  subst hpq
  have hbl : Blk W1 q 32 #[.int .i64 (l : Int), .int .i64 (u : Int)] := by rw [← hW1, ← hq]; exact Blk.new _ _ _
  have hw12 : Below (q + 1) W1 W2 := by rw [← hW2, ← hp]; exact (Below.refl _ _).alloc (Nat.le_refl _) _
  have hwr : Wr W2 (q + 1) (q + 1) [] := by rw [← hW2, ← hp]; exact wr_new W1
  have hB4 : Below B w W2 := by rw [← hW2]; exact (by rw [← hW1]; exact HB3.out.alloc z3 _ : Below B w W1).alloc (by omega) _
  have HPQ : Hid (∀ W, Below (q + 1) W2 W → W.cell? ⟨q, 0, none⟩ = some (.int .i64 (l : Int)) ∧ W.cell? ⟨q, 1, none⟩ = some (.int .i64 (u : Int))) := by
    intro W hW
    have h2 := hbl.same ((hw12.trans hW).block q (by omega))
    exact ⟨by simpa using h2.cell 0, by simpa using h2.cell 1⟩
  have z4 : B ≤ q + 1 := by omega
  have HB4 := Lib.hid hB4; have HWR := Lib.hid hwr; have HW1 := Lib.hid hW1; have HW2 := Lib.hid hW2; have HPP := Lib.hid hp; have HQQ := Lib.hid hq
  obtain ⟨Y1, hY1⟩ : ∃ Y, ([] : List Int) ++ (vU S.size ++ sb S) = Y := ⟨_, rfl⟩
  obtain ⟨Y2, hY2⟩ : ∃ Y, Y1 ++ vU (zz (l : Int)) = Y := ⟨_, rfl⟩
  obtain ⟨Z, hZ⟩ : ∃ Z, Y2 ++ vU (zz (u : Int)) = Z := ⟨_, rfl⟩
  have hzl := zz_lt (n := (l : Int)) (by omega) (by omega)
  have hzu := zz_lt (n := (u : Int)) (by omega) (by omega)
  have hv1 := vU_len10 (n := S.size) (by omega)
  have hv2 := vU_len10 hzl
  have hv3 := vU_len10 hzu
  have hY1l : Y1.length ≤ 200 := by rw [← hY1]; simp [sb_len]; omega
  have hY2l : Y2.length ≤ 220 := by rw [← hY2]; simp; omega
  have hZl : Z.length ≤ 240 := by rw [← hZ]; simp; omega
  have hZb : Byt Z := by
    rw [← hZ, ← hY2, ← hY1]
    intro c hc
    simp only [List.nil_append, List.mem_append] at hc
    rcases hc with ((hc | hc) | hc) | hc
    · exact vU_byt _ c hc
    · exact sb_byt S c hc
    · exact vU_byt _ c hc
    · exact vU_byt _ c hc
  have hZe : Z = vU (sb S).length ++ (sb S ++ (vU (zz (l : Int)) ++ (vU (zz (u : Int)) ++ []))) := by rw [← hZ, ← hY2, ← hY1, sb_len]; simp
  have hr1 : rdRaw (.ok Z) = (sb S, .ok (vU (zz (l : Int)) ++ (vU (zz (u : Int)) ++ []))) := by rw [hZe]; exact rdRaw_write (by rw [sb_len]; omega)
  have hr2 : rdI (.ok (vU (zz (l : Int)) ++ (vU (zz (u : Int)) ++ []))) = ((l : Int), .ok (vU (zz (u : Int)) ++ [])) := rdI_write (by omega) (by omega) _
  have hr3 : rdI (.ok (vU (zz (u : Int)) ++ [])) = ((u : Int), .ok []) := rdI_write (by omega) (by omega) _
  have CT := Lib.hid (fun W hW => by have := wtext_any (q + 1) (q + 1) S [] W hW (by omega) (by simp); rw [hY1] at this; exact this)
  have CI1 := Lib.hid (fun W hW => by have := wint_any (q + 1) (q + 1) (l : Int) Y1 W hW (by omega) (by omega) (by omega); rw [hY2] at this; exact this)
  have CI2 := Lib.hid (fun W hW => by have := wint_any (q + 1) (q + 1) (u : Int) Y2 W hW (by omega) (by omega) (by omega); rw [hZ] at this; exact this)
  have CO := Lib.hid (fun W => poff_at (s := S) (l := (l : Int)) (u := (u : Int)) (x : Int) rfl W (by omega) (by omega) (by omega) hOS)
  have HR1 := Lib.hid hr1; have HR2 := Lib.hid hr2; have HR3 := Lib.hid hr3; have HZB := Lib.hid hZb
  clear b3 hsp hpx hOS cx hW1 hp hW2 hq hbl hw12 hwr hB4 hY1 hY2 hZ hZe hr1 hr2 hr3 hZb hzl hzu hv1 hv2 hv3
  go_wp2_with fail
  rw [HQQ.out, show w3.alloc (.cells #[.int .i64 (l : Int), .int .i64 (u : Int)] 32) = W1 from HW1.out, show W1.alloc (.cells #[.slice none 0 0] 56) = W2 from HW2.out]
  refine (CT.out _ HWR.out).mono ?_
  rintro e w5 ⟨⟨v5, rfl⟩, hw5, b5⟩
  obtain ⟨c50, c51⟩ := HPQ.out _ b5
  have HW5 := Lib.hid hw5; have HB5 := Lib.hid b5
  clear hw5 b5
  go_wp2_with fail
  refine (CI1.out _ HW5.out).mono ?_
  rintro e w6 ⟨⟨v6, rfl⟩, hw6, b6⟩
  have HB6 : Hid (Below (q + 1) W2 w6) := HB5.out.trans b6
  obtain ⟨c60, c61⟩ := HPQ.out _ HB6.out
  have HW6 := Lib.hid hw6
  clear hw6 b6 c50 c51
  go_wp2_with fail
  refine (CI2.out _ HW6.out).mono ?_
  rintro e w7 ⟨⟨v7, rfl⟩, hw7, b7⟩
  have HB7 : Hid (Below (q + 1) W2 w7) := HB6.out.trans b7
  have cD := wdone_any (q + 1) (q + 1) Z w7 hw7 (by omega)
  have CD := Lib.hid cD
  have hz7 := hw7.lt.2
  clear hw7 b7 cD c60 c61
  go_wp2_with fail
  refine CD.out.mono ?_
  rintro e w8 h2
  obtain ⟨A8, k8, rfl, row8, b8⟩ := row_of_new h2
  have HB8 : Hid (Below (q + 1) W2 w8) := HB7.out.trans (b8.mono (by omega))
  have hz8 : q + 1 < w8.heap.size := by have := b8.size; omega
  have cR := rread_any A8 k8 Z w8 row8.sli HZB.out (by omega)
  have CR := Lib.hid cR
  clear h2 row8 b8 cR
  go_wp2_with fail
  refine CR.out.mono ?_
  rintro e w9 ⟨pr, rfl, hrd, b9⟩
  have HB9 : Hid (Below (q + 1) W2 w9) := HB8.out.trans (b9.mono (by omega))
  have hpr := hrd.lt
  have hz9 : q + 1 < w9.heap.size := by have := b9.size; omega
  have cX := rdtext_any _ pr _ w9 hrd
  rw [HR1.out] at cX
  simp only [bs_sb] at cX
  have CX := Lib.hid cX
  have hpr1 := hpr.1
  clear hrd b9 cX hpr
  go_wp2_with fail
  refine CX.out.mono ?_
  rintro e w10 ⟨rfl, hrd, o10⟩
  have HB10 : Hid (Below (q + 1) W2 w10) := HB9.out.trans (o10.below (by omega) (fun k hk => by omega))
  have hz10 : q + 1 < w10.heap.size := by have := o10.size; omega
  have cX := rint_any _ pr _ w10 hrd
  rw [HR2.out] at cX
  simp only at cX
  have CX2 := Lib.hid cX
  clear hrd o10 cX CX
  go_wp2_with fail
  refine CX2.out.mono ?_
  rintro e w11 ⟨rfl, hrd, o11⟩
  have HB11 : Hid (Below (q + 1) W2 w11) := HB10.out.trans (o11.below (by omega) (fun k hk => by omega))
  have hz11 : q + 1 < w11.heap.size := by have := o11.size; omega
  have cX := rint_any _ pr _ w11 hrd
  rw [HR3.out] at cX
  simp only at cX
  have CX3 := Lib.hid cX
  clear hrd o11 cX CX2
  go_wp2_with fail
  refine CX3.out.mono ?_
  rintro e w12 ⟨rfl, hrd, o12⟩
  have HB12 : Hid (Below (q + 1) W2 (w12.alloc (.cells #[.int .i64 (l : Int), .int .i64 (u : Int)] 32))) := (HB11.out.trans (o12.below (by omega) (fun k hk => by omega))).alloc (by have := o12.size; omega) _
  have HRD := Lib.hid (hrd.below ((Below.refl _ _).alloc (Nat.le_refl _) (.cells #[.int .i64 (l : Int), .int .i64 (u : Int)] 32)))
  have hz12 : q + 1 < w12.heap.size := by have := o12.size; omega
  clear hrd o12 CX3
  go_wp2_with fail
  refine (CO.out _).mono ?_
  rintro e w13 ⟨rfl, b13⟩
  have HB13 : Hid (Below (q + 1) W2 w13) := HB12.out.trans (b13.mono (by simp; omega))
  have hz13 : q + 1 < w13.heap.size := by have := b13.size; simp at this; omega
  have cE := rend_any _ pr _ w13 (HRD.out.below b13)
  rw [show rdEnd (.ok []) = 0 from rfl] at cE
  have CE := Lib.hid cE
  clear b13 cE
  have g1 : ¬ (x : Int) < 0 := by omega
  have g2 : ¬ (S.size : Int) < (x : Int) := by omega
  have g3 : (S.toList != S.toList) = false := by simp
  go_wp2_with fail
  refine CE.out.mono ?_
  rintro e w' ⟨rfl, rfl⟩
  go_wp2_with fail
  have hBB13 : Below B w w13 := HB4.out.trans (HB13.out.mono z4)
  have hBs : (S.extract 0 x).size = x := by rw [ByteArray.size_extract]; omega
  obtain ⟨cc, fw, hcv⟩ := conv_new (S.extract 0 x) (by omega)
  have hcv1 := fun W => (hcv W).1
  rw [hBs] at hcv1
  have HT : Hid (∀ W, Below W.heap.size W (fw W)) := fun W => (hcv W).2.1
  have HBf : Hid (∀ V, Below B w V → Below B w (fw V)) := fun V hV => hV.trans ((HT.out V).mono (by have := hV.size; have := HB.out; omega))
  obtain ⟨HH, hHH⟩ : ∃ H, U (bytesS (sb ⟨#[116, 101, 120, 116]⟩) (sb (S.extract 0 x))) = H := ⟨_, rfl⟩
  have KB : Hid (∀ (G : Nat) (W V : World), W.heap.size = G → Below (fw W).heap.size (fw W) V → Below B w V → Calls Try.prog 36 #[.string ⟨#[116, 101, 120, 116]⟩, .slice (some ⟨G, 0, none⟩) x (cc W)] V fun e w' => e = .returned (.int .u64 HH) ∧ Below V.heap.size V w' ∧ Below B w w') := by
    intro G W V hG h1 h2
    subst hG
    have hs := (hcv W).2.2.below h1
    have := bytes_any ⟨#[116, 101, 120, 116]⟩ (some ⟨W.heap.size, 0, none⟩) (cc W) (sb (S.extract 0 x)) V (by decide) (by rw [sb_len]; omega) hs.le hs.mx (sb_byt _) hs.cells
    rw [hHH, sb_len, hBs] at this
    refine this.mono ?_
    rintro e w' ⟨rfl, hb⟩
    exact ⟨rfl, hb, h2.trans (hb.mono (by have := h2.size; have := HB.out; omega))⟩
  have KL : Hid (∀ V, Below B w V → Calls Try.prog 19 #[] V fun e w' => e = .returned (.bool true) ∧ Below B w w') := by
    intro V h
    refine (plives_any V).mono ?_
    rintro e w' ⟨rfl, hb⟩
    exact ⟨rfl, h.trans (hb.mono (by have := h.size; have := HB.out; omega))⟩
  have b0 : Below B w w13.drew := hBB13.drew
  have hq1 : ((x : Int) == (x : Int)) = true := by simp
  have hq2 : (HH == HH) = true := by simp
  have g4 : (x : Int) ≤ (S.size : Int) := by omega
  clear hcv hBB13 hBs hHH
  have hcA : cvA = Op.convert 9 54 (Operand.tmp 90) := rfl
  have hcB : cvB = Op.convert 9 54 (Operand.tmp 95) := rfl
  rw [← hcA, ← hcB]
  go_region_held3 (fun _ => True) (trivial)
    (first
    | (go_at_call 36; refine (KB.out _ _ _ (by first | rfl | simp) (by first | exact Below.refl _ _ | exact bA | exact HT.out _ | exact (HT.out _).trans (bA.mono (HT.out _).size)) (by first | exact bbA | exact HBf.out _ bbA | exact HBf.out _ b0 | exact HBf.out _ (HBf.out _ b0))).mono ?_; rintro e wA ⟨rfl, bA, bbA⟩)
    | (go_at_call 19; refine (KL.out _ bbA).mono ?_; rintro e wf ⟨rfl, bbf⟩))
  all_goals
    have HF := Lib.hid bbf
    clear bbf
    go_wp2
    go_ret
    exact ⟨rfl, by rw [HB.out]; exact HF.out⟩

theorem walk (a0 : Option Addr) (len0 cap0 : Nat) (z0 : List Int) (a1 : Int) (w : World) (w0 : IsRow .i64 w a0 len0 cap0 z0) (w1 : (Lit.int .i64 a1).wf = true) :
    Calls Try.prog 11 #[.slice a0 len0 cap0, .int .i64 a1] w fun e w' => e = .returned (.bool true) ∧ Below w.heap.size w w' := by
  obtain ⟨ls, rfl, hl, hwl⟩ := sli_of_isRow w0
  exact walkB a0 cap0 ls w hl (fun n hn => wf_i64 (hwl n hn)) a1 (wf_i64 w1)

/-! ### THE ROW's STEP: WRITTEN OUT: LEAVE IT -/
set_option maxRecDepth 100000 in
theorem lifted (os : Os) (started : os.Started) (H : Type) (enc : TypeId × Value → H) :
    ReturnsInHanded {} Try.checked os 11 .any (Rows.positionKeptSpec.pre6 enc Try.prog Try.f11 Rows.positionKeptRow.domain false) (Rows.positionKeptSpec.post enc Try.prog Try.f11 false true false false) := by
  refine returnsInHanded_of_change (C := Try.checked) own started (by kernel_rfl) Try.func11
    (ChangeSpec.witness6 (enc := enc) (C := Try.checked) false ⟨#[], #[.slice none 0 0, .int .i64 0], []⟩ 8 (by kernel_rfl) (by kernel_rfl) (by kernel_rfl) (by kernel_rfl)) ?_
  intro W base args ds gs before hval0 hW hcnd _
  have hval : ∀ (j : Nat) t v, Try.f11.params[j]? = some t → args[j]? = some v → Value.okWide Try.prog W .any base t v := hval0
  have hW' := hW
  obtain ⟨p, q, hA0, hV, rfl, hfz, hnd⟩ := hW
  have hA : DataW.TrodAll enc Try.prog W 0 (fun _ => true) true Try.f11.params.toList args.toList ds p := hA0
  rw [Try.params11] at hA hval
  obtain ⟨v0, vs0, d0, ds0, p0, q0, hargs, rfl, rfl, h0, r0⟩ := trodAll_cons hA
  obtain ⟨v1, vs1, d1, ds1, p1, q1, rfl, rfl, rfl, h1, r1⟩ := trodAll_cons r0
  obtain ⟨rfl, rfl, rfl⟩ := trodAll_nil r1
  obtain rfl : args = #[v0, v1] := by cases args; simp_all
  obtain ⟨rfl, rfl⟩ := trodVars_none hV
  obtain ⟨a0, len0, cap0, rfl⟩ := okWide_slice Try.underlying22 (hval 0 22 v0 rfl rfl)
  have k0 := h0
  have lt0 : ∀ x ∈ p0, x.block < W.heap.size := by obtain ⟨m, hm⟩ := k0; exact DataW.trod_lt m _ _ _ hm
  obtain ⟨z0, w0⟩ : ∃ zs, IsRow .i64 W a0 len0 cap0 zs := by
    obtain ⟨fuel, hf⟩ := h0
    rcases open_ints Try.underlying22 Try.underlying3 (by kernel_rfl) hf with ⟨hcs, _⟩ | ⟨x, l, c, zs, hcs, _, hl, hm, hz, _, hcell, hwz⟩
    · simp [Value.cells] at hcs
      obtain ⟨rfl, rfl, rfl⟩ := hcs
      exact ⟨[], .inl ⟨rfl, rfl, rfl, rfl⟩⟩
    · simp [Value.cells] at hcs
      obtain ⟨rfl, rfl, rfl⟩ := hcs
      exact ⟨zs, .inr ⟨_, rfl, hl, hm, by simpa using hz, hcell, hwz⟩⟩
  obtain ⟨a1, rfl, rfl, rfl, w1⟩ := open_int Try.underlying3 (hval 1 3 v1 rfl rfl) h1
  clear hA0 hval0
  refine (walk a0 len0 cap0 z0 a1 W w0 w1).mono fun e W' ⟨he, bel⟩ => ?_
  subst he
  exact ⟨_, rfl, _, _, _, [], _, [], hW', trodAll_mk1 (shut_bool Try.underlying4 _), (trodAll_cons_mk (Below.trod laidOut (by kernel_rfl) (of_decide_eq_true (by kernel_rfl)) k0 bel lt0) (trodAll_cons_mk (shut_int Try.underlying3 w1) trodAll_mk0)), rfl, bel.frame _, fun h => by cases h⟩

theorem over : Rows.positionKeptRow.holds Try.pinned (OpenSpec.ofChange Rows.positionKeptSpec) :=
  OpenClaim.holds_of_wide 11 Try.f11 rfl rfl rfl rfl rfl rfl rfl ⟨rfl, rfl, rfl, rfl, rfl⟩ rfl rfl rfl rfl rfl (by kernel_rfl) Try.func11 (by kernel_rfl)
    (of_decide_eq_true (by kernel_rfl)) (by unfold Func.isWrapper; first | (rw [if_pos (by decide +kernel)]; kernel_rfl) | (rw [if_neg (by decide +kernel)]; exact ⟨rfl, rfl⟩))
    (fun os started H enc _ => lifted os started H enc)

/-- ████ THE STATEMENT ████ -/
theorem proved : Rows.PositionKeptSaid := over
#print axioms proved
end Go.Proofs.Ythjedecfpedjbaa.positionKept
