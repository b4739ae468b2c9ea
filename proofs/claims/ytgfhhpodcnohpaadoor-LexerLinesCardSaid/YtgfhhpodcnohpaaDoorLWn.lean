/- Tokens: the walk of LexerLines. Conditions: the tables lie in memory. -/
import Derived.Test.YtgfhhpodcnohpaaDoorLWl
import Derived.Test.YtgfhhpodcnohpaaDoorLLn
import Derived.BigRegion
namespace Go.Proofs.YtgfhhpodcnohpaaDoor
open Go.RowKit Go.Shelf
set_option linter.unusedVariables false

def adM : Op := Op.binOp .add 9 (Operand.tmp 34) (Operand.const (.string ⟨#[10]⟩)) 9
def adN : Op := Op.binOp .add 9 (Operand.tmp 35) (Operand.tmp 39) 9
set_option maxRecDepth 100000 in
set_option maxHeartbeats 16000000 in
theorem walkLines (s t : ByteArray) (a : Option Addr) (cap : Nat) (ls : List Int) (b : Option Addr) (capb : Nat) (ms : List Int) (w : World) (hT : LexW w) (hs : s.size ≤ 9223372036854775807) (ht : t.size ≤ 9223372036854775807)
    (h : Sli .i64 w a cap ls) (hi : ∀ n ∈ ls, -9223372036854775808 ≤ n ∧ n ≤ 9223372036854775807) (h2 : Sli .i64 w b capb ms) (hi2 : ∀ n ∈ ms, -9223372036854775808 ≤ n ∧ n ≤ 9223372036854775807) :
    Calls Tryd.prog 9 #[.string s, .string t, .slice a ls.length cap, .slice b ms.length capb] w fun e w' => e = .returned (.bool true) ∧ Below w.heap.size w w' := by
  have c1 := source_any a cap ls w h hi
  have c2 := fun W (hb : Below w.heap.size w W) => source_any b capb ms W (h2.below hb) hi2
  have C1 := Lib.hid c1
  have C2 := Lib.hid c2
  have HT := Lib.hid hT
  obtain ⟨S, hS⟩ : ∃ S, shS s 40 = S := ⟨_, rfl⟩
  have cS := fun W => short_any s 40 W hs (by omega)
  have hSl : S.size ≤ 40 := by rw [← hS]; exact shS_size s 40
  rw [hS] at cS
  have CS := Lib.hid cS
  obtain ⟨S2, hS2⟩ : ∃ S, shS t 40 = S := ⟨_, rfl⟩
  have cS2 := fun W => short_any t 40 W ht (by omega)
  have hSl2 : S2.size ≤ 40 := by rw [← hS2]; exact shS_size t 40
  rw [hS2] at cS2
  have CS2 := Lib.hid cS2
  clear c1 c2 h hi hT h2 hi2 cS hS cS2 hS2
  go_enter Tryd.func9, Tryd.ntmps9
  go_wp2_with fail
  refine (CS.out _).mono ?_
  rintro e w' ⟨rfl, rfl⟩
  go_wp2_with fail
  refine C1.out.mono ?_
  rintro e w1 ⟨T, rfl, hTl, hb1⟩
  obtain ⟨w2, hw2⟩ : ∃ W, w1.alloc (.cells #[.string S, .string T] 9) = W := ⟨_, rfl⟩
  have hA := twoT_new w1 S T (by omega) hTl
  have hbw := (Below.refl w1.heap.size w1).alloc (Nat.le_refl _) (.cells #[.string S, .string T] 9)
  rw [hw2] at hA hbw
  obtain ⟨X, hX⟩ : ∃ X, w1.heap.size = X := ⟨_, rfl⟩
  rw [hX] at hA
  obtain ⟨DA, hDA⟩ : ∃ D, (fun j => if j = 0 then S else T) = D := ⟨_, rfl⟩
  rw [hDA] at hA
  have HA := Lib.hid hA
  have HB2 := Lib.hid (hb1.trans (hbw.mono hb1.size))
  have HW2 := Lib.hid hw2
  have HX := Lib.hid hX
  clear hA hbw hw2 hX hb1 hDA
  go_wp2_with fail
  rw [HX.out, show w1.alloc (.cells #[.string S, .string T] 9) = w2 from HW2.out]
  refine (CS2.out _).mono ?_
  rintro e w' ⟨rfl, rfl⟩
  go_wp2_with fail
  refine (C2.out _ HB2.out).mono ?_
  rintro e w3 ⟨T2, rfl, hTl2, hb3⟩
  obtain ⟨w4, hw4⟩ : ∃ W, w3.alloc (.cells #[.string S2, .string T2] 9) = W := ⟨_, rfl⟩
  have hB := twoT_new w3 S2 T2 (by omega) hTl2
  have hbw := (Below.refl w3.heap.size w3).alloc (Nat.le_refl _) (.cells #[.string S2, .string T2] 9)
  rw [hw4] at hB hbw
  obtain ⟨Y, hY⟩ : ∃ Y, w3.heap.size = Y := ⟨_, rfl⟩
  rw [hY] at hB
  obtain ⟨DB, hDB⟩ : ∃ D, (fun j => if j = 0 then S2 else T2) = D := ⟨_, rfl⟩
  rw [hDB] at hB
  have HBB := Lib.hid hB
  have HA4 := Lib.hid ((HA.out.below hb3).below hbw)
  have HB4 := Lib.hid ((HB2.out.trans (hb3.mono HB2.out.size)).trans (hbw.mono (Nat.le_trans HB2.out.size hb3.size)))
  have HT4 := Lib.hid (HT.out.below HB4.out)
  have HW4 := Lib.hid hw4
  have HY := Lib.hid hY
  obtain ⟨i3, hi3, iy0, iy1, iy2⟩ := info_parts tinfo
  clear hB hbw hw4 hY hb3 hDB
  go_wp2_with fail
  rw [HY.out, show w3.alloc (.cells #[.string S2, .string T2] 9) = w4 from HW4.out]
  go_loopw [11] (fun i wr => ∃ j : Nat, j ≤ 2 ∧ i = .int .i64 j ∧ Hid (Below w4.heap.size w4 wr)) (fun i _ => 2 - (intOf i).toNat)
  case atStart => exact ⟨0, by omega, rfl, Below.refl _ _⟩
  case round =>
    obtain ⟨j, hj, rfl, HR⟩ := hrel
    by_cases hlt : j < 2
    · have hAr := HA4.out.below HR.out
      have hBr := HBB.out.below HR.out
      have hsa := hAr.size j hlt
      have hsb := hBr.size j hlt
      obtain ⟨xa, hxa0⟩ : ∃ x, DA j = x := ⟨_, rfl⟩
      obtain ⟨xb, hxb0⟩ : ∃ x, DB j = x := ⟨_, rfl⟩
      rw [hxa0] at hsa
      rw [hxb0] at hsb
      have HCA : Hid (∀ W, Below wr.heap.size wr W → W.cell? ⟨X, j, none⟩ = some (.string xa) ∧ W.cell? ⟨Y, j, none⟩ = some (.string xb)) := Lib.hid fun W hW => ⟨by rw [← hxa0]; exact (hAr.below hW).cell j hlt, by rw [← hxb0]; exact (hBr.below hW).cell j hlt⟩
      have hXY : X < wr.heap.size ∧ Y < wr.heap.size := ⟨hAr.lt, hBr.lt⟩
      have HTr := Lib.hid (HT4.out.t.below HR.out)
      obtain ⟨z, hz⟩ : ∃ z, xa ++ (⟨#[10]⟩ : ByteArray) ++ xb = z := ⟨_, rfl⟩
      have hz1 : (xa ++ (⟨#[10]⟩ : ByteArray)).size = xa.size + 1 := ByteArray.size_append
      have hzs : z.size = xa.size + 1 + xb.size := by rw [← hz, ByteArray.size_append, hz1]
      have hzb : sb z = sb xa ++ 10 :: sb xb := by
        rw [← hz, sb_append, sb_append, List.append_assoc]
        rfl
      have HZ := Lib.hid hz
      have htx := sol_text z
      have k0 := fun W h => ptoks_any z (by omega) W h
      have k1 := fun W h => ptoks_any xa (by omega) W h
      have k2 := fun W h => ptoks_any xb (by omega) W h
      have hl0 := lex_len (sb z).length (sb z) 0
      have hl1 := lex_len (sb xa).length (sb xa) 0
      have hl2 := lex_len (sb xb).length (sb xb) 0
      have hs0 := sol_len (lex (sb z) 0)
      have hs1 := sol_len (lex (sb xa) 0)
      have hs2 := sol_len (lex (sb xb) 0)
      have hsj := sol_join (sb xa) (sb xb)
      rw [← hzb, sb_len] at hsj
      rw [show lexF (sb z).length (sb z) 0 = lex (sb z) 0 from rfl, sb_len] at hl0
      rw [show lexF (sb xa).length (sb xa) 0 = lex (sb xa) 0 from rfl, sb_len] at hl1
      rw [show lexF (sb xb).length (sb xb) 0 = lex (sb xb) 0 from rfl, sb_len] at hl2
      obtain ⟨L0, hL0⟩ : ∃ L, lex (sb z) 0 = L := ⟨_, rfl⟩
      obtain ⟨L1, hL1⟩ : ∃ L, lex (sb xa) 0 = L := ⟨_, rfl⟩
      obtain ⟨L2, hL2⟩ : ∃ L, lex (sb xb) 0 = L := ⟨_, rfl⟩
      rw [hL0] at htx k0 hl0 hs0 hsj
      rw [hL1] at k1 hl1 hs1 hsj
      rw [hL2] at k2 hl2 hs2 hsj
      have r0 := fun u b1 W h => rsolid_any L0 u b1 W (by omega) h
      have r1 := fun u b1 W h => rsolid_any L1 u b1 W (by omega) h
      have r2 := fun u b1 W h => rsolid_any L2 u b1 W (by omega) h
      obtain ⟨LB, hLB⟩ : ∃ L, sol L0 = L := ⟨_, rfl⟩
      obtain ⟨W0, hW0⟩ : ∃ L, sol L1 = L := ⟨_, rfl⟩
      obtain ⟨M, hM⟩ : ∃ L, sol L2 = L := ⟨_, rfl⟩
      rw [hLB] at htx r0 hs0 hsj
      rw [hW0] at r1 hs1 hsj
      rw [hM] at r2 hs2 hsj
      unfold NewTs at k0 k1 k2 r0 r1 r2
      have K0 := Lib.hid k0; have K1 := Lib.hid k1; have K2 := Lib.hid k2
      have R0 := Lib.hid r0; have R1 := Lib.hid r1; have R2 := Lib.hid r2
      have HSJ := Lib.hid hsj
      have HTX := Lib.hid htx
      have HLS : Hid (LB.length ≤ 801 ∧ W0.length ≤ 400 ∧ M.length ≤ 400) := Lib.hid ⟨by omega, by omega, by omega⟩
      have HM2 : Hid (∀ t ∈ M, t.2.2 ≤ 400) := Lib.hid fun t ht => by
        rw [← hM, ← hL2] at ht
        have : ∀ (N : Nat) (l : List Int) (p : Nat), l.length ≤ N → ∀ t ∈ lex l p, t.2.2 ≤ p + l.length := by
          intro N
          induction N with
          | zero =>
            intro l p h
            have : l = [] := List.eq_nil_of_length_eq_zero (by omega)
            subst this
            intro t ht
            cases ht
          | succ N ih =>
            intro l p h
            by_cases h0 : l = []
            · subst h0; intro t ht; cases ht
            · have hp := fst_pos h0
              rw [lex_step h0]
              intro t ht
              rcases List.mem_cons.1 ht with rfl | ht
              · simp
              · have := ih (l.drop (fst_ l).2) (p + (fst_ l).2) (by rw [List.length_drop]; omega) t ht
                rw [List.length_drop] at this
                omega
        have := this _ (sb xb) 0 (Nat.le_refl _) t (sol_mem ht)
        rw [sb_len] at this
        omega
      have hjj : (j : Int) < 2 := by omega
      have hcat1 : xa.size + (⟨#[10]⟩ : ByteArray).size ≤ 9223372036854775807 := by show xa.size + 1 ≤ _; omega
      have hcat2 : (xa ++ (⟨#[10]⟩ : ByteArray)).size + xb.size ≤ 9223372036854775807 := by rw [hz1]; omega
      obtain ⟨q1, q2⟩ := HCA.out wr (Below.refl _ _)
      clear hAr hBr k0 k1 k2 r0 r1 r2 hL0 hL1 hL2 hLB hW0 hM hxa0 hxb0 hsj htx hz hzb hl0 hl1 hl2 hs0 hs1 hs2
      go_wp2_with fail
      have hcA : adM = Op.binOp .add 9 (Operand.tmp 34) (Operand.const (.string ⟨#[10]⟩)) 9 := rfl
      have hcB : adN = Op.binOp .add 9 (Operand.tmp 35) (Operand.tmp 39) 9 := rfl
      rw [← hcA, ← hcB]
      go_region_held3 (fun w' => w'.cell? ⟨X, j, none⟩ = some (.string xa) ∧ w'.cell? ⟨Y, j, none⟩ = some (.string xb)) (first | exact ⟨q1, q2⟩ | exact cD | exact cE)
        (first
        | (go_at_call 14; rw [HZ.out]; refine (K0.out _ (HTr.out.below (Below.refl _ _).drew)).mono ?_; rintro e w5 ⟨u5, rfl, hown5, hb5⟩; have bD : Below wr.heap.size wr w5 := (Below.refl wr.heap.size wr).drew.trans (hb5.mono (Nat.le_refl _)); have cD := HCA.out w5 bD; clear hb5)
        | (go_at_call 32; refine (R0.out _ _ _ hown5).mono ?_; rintro e w6 ⟨u6, rfl, hown6, hb6⟩; have bE : Below wr.heap.size wr w6 := bD.trans (hb6.mono bD.size); have cE := HCA.out w6 bE; have hP0 := bD.size; have hP1 := hb6.size; have HB6 := Lib.hid bE; have HO6 := Lib.hid hown6; clear hown6 hb6 bE hown5))
      have HT6 := Lib.hid (HTr.out.below HB6.out)
      go_wp2_with fail
      refine (K1.out _ HT6.out).mono ?_
      rintro e w7 ⟨u7, rfl, hown7, hb7⟩
      have HO7 := Lib.hid hown7
      have HT7 := Lib.hid (HT6.out.below hb7)
      have HB67 := Lib.hid hb7
      have hz7 := hb7.size
      clear hown7 hb7
      go_wp2_with fail
      refine (R1.out _ _ _ HO7.out).mono ?_
      rintro e w8 ⟨u8, rfl, hown8, hb8⟩
      have HO8 := Lib.hid hown8
      have HT8 := Lib.hid (HT7.out.below hb8)
      have HB68 := Lib.hid (HB67.out.trans (hb8.mono hz7))
      have hz8 := hb8.size
      obtain ⟨_, q4⟩ := HCA.out w8 (HB6.out.trans (HB68.out.mono HB6.out.size))
      clear hown8 hb8 HO7 q1 q2 cD bD
      go_wp2_with fail
      refine (K2.out _ HT8.out).mono ?_
      rintro e w9 ⟨u9, rfl, hown9, hb9⟩
      have HO9 := Lib.hid hown9
      have HB89 := Lib.hid hb9
      have hz9 := hb9.size
      clear hown9 hb9
      go_wp2_with fail
      refine (R2.out _ _ _ HO9.out).mono ?_
      rintro e w10 ⟨u10, rfl, hown10, hb10⟩
      obtain ⟨am, cm, rfl⟩ := own_slice hown10
      obtain ⟨nm, hnm⟩ : ∃ n, M.length = n := ⟨_, rfl⟩
      obtain ⟨nw, hnw⟩ : ∃ n, W0.length = n := ⟨_, rfl⟩
      obtain ⟨P1, hP1e⟩ : ∃ P, w6.heap.size = P := ⟨_, rfl⟩
      obtain ⟨P2, hP2e⟩ : ∃ P, w9.heap.size = P := ⟨_, rfl⟩
      obtain ⟨P3, hP3e⟩ : ∃ P, w10.heap.size = P := ⟨_, rfl⟩
      have hz10 := hb10.size
      have hB8T := HB89.out.trans (hb10.mono hz9)
      have HB610 : Hid (Below P1 w6 w10) := by rw [← hP1e]; exact HB68.out.trans (hB8T.mono HB68.out.size)
      have hgm : ∃ gm, 0 < nm → (am = some ⟨gm, 0, none⟩ ∧ P2 ≤ gm ∧ gm < P3 ∧ Mo M gm 0 w10) := by
        rcases Nat.eq_zero_or_pos nm with h | h
        · exact ⟨0, fun h' => by omega⟩
        · rcases hown10.2 with ⟨_, h0⟩ | ⟨g, cap, cur, hv, hg, _⟩
          · omega
          · simp only [Value.slice.injEq] at hv
            obtain ⟨rfl, _, rfl⟩ := hv
            exact ⟨g, fun _ => ⟨rfl, by omega, by rw [← hP3e]; exact (hown10.lt g rfl).2, mo_new hown10 rfl⟩⟩
      obtain ⟨gm, hgm⟩ := hgm
      have HGM := Lib.hid hgm
      have HOW : Hid (w10.ownsRow P1 31 3 u8 nw (tks W0)) := by
        have h1 := own_same HO8.out (fun g hg => hB8T.block g (HO8.out.lt g hg).2)
        rw [hnw] at h1
        exact town_base h1 (by omega)
      have HGW : Hid (∀ g, u8.ownBlock = some g → g < P2 ∨ P3 ≤ g) := Lib.hid fun g hg => .inl (by have := (HO8.out.lt g hg).2; omega)
      have HOU : Hid (∀ W, Below P1 w10 W → W.cell? ⟨X, j, none⟩ = some (.string xa)) := Lib.hid fun W hW => (HCA.out W (HB6.out.trans ((HB610.out.trans hW).mono (by rw [← hP1e]; exact HB6.out.size)))).1
      have HOB : Hid (∀ W, Below P1 w10 W → W.ownsRow w5.heap.size 31 3 u6 LB.length (tks LB)) := Lib.hid fun W hW => own_same HO6.out (fun g hg => (HB610.out.trans hW).block g (by rw [← hP1e]; exact (HO6.out.lt g hg).2))
      have HFI : Hid (∀ W, Below P1 w10 W → Below wr.heap.size wr W) := Lib.hid fun W hW => HB6.out.trans ((HB610.out.trans hW).mono (by rw [← hP1e]; exact HB6.out.size))
      have HNM := Lib.hid hnm
      have HNW := Lib.hid hnw
      rw [hnm] at HLS ⊢
      rw [hnw] at HLS
      have hLS1 := HLS.out.2.1
      have hLS2 := HLS.out.2.2
      have hP12 : P1 ≤ P2 := by omega
      have hP23 : P2 ≤ P3 := by omega
      have HP3 := Lib.hid hP3e
      clear hown10 hb10 hgm hnm hnw HO8 HO9 HB68 HB67 HB89 hB8T cE q4 hP1e hP2e hP3e
      go_wp2_with fail
      go_loopw [13, 15] (fun v13 v15 wr => ∃ k : Nat, v15 = .int .i64 (k : Int) ∧ k ≤ nm ∧ Hid (wr.ownsRow P1 31 3 v13 (nw + k) (tks (W0 ++ (M.take k).map (shf (xa.size + 1))))) ∧ Hid (∀ g, v13.ownBlock = some g → g < P2 ∨ P3 ≤ g) ∧ Hid (0 < nm → Mo M gm k wr) ∧ Hid (Below P1 w10 wr) ∧ P3 ≤ wr.heap.size) (fun _ v15 _ => nm - (intOf v15).toNat)
      case atStart => exact ⟨0, rfl, Nat.zero_le _, by rw [List.take_zero, List.map_nil, List.append_nil]; exact HOW, HGW, Lib.hid fun h => (HGM.out h).2.2.2, Below.refl _ _, by have := HP3.out; omega⟩
      case round =>
        obtain ⟨k, rfl, hk, HO, HG, HMo, HBl, hP3r⟩ := hrel
        obtain ⟨av, cv, hv⟩ := own_slice HO.out
        subst hv
        by_cases hkn : k < nm
        · obtain ⟨ham, hg2, hg3, _⟩ := HGM.out (by omega)
          subst ham
          obtain ⟨hf, hcs⟩ := HMo.out (by omega)
          obtain ⟨c0, c1, c2⟩ := hcs k (Nat.le_refl _) (by have := HNM.out; omega)
          have f2 := hf (k * 3 + 2)
          have hx2b := HM2.out _ (tg_mem (show k < M.length by have := HNM.out; omega))
          obtain ⟨x0, hx0⟩ : ∃ x, (tg M k).1 = x := ⟨_, rfl⟩
          obtain ⟨x1, hx1⟩ : ∃ x, tbs (tg M k).2.1 = x := ⟨_, rfl⟩
          obtain ⟨x2, hx2⟩ : ∃ x, (tg M k).2.2 = x := ⟨_, rfl⟩
          rw [hx0] at c0
          rw [hx1] at c1
          rw [hx2] at c2 hx2b
          have cxa := HOU.out wr HBl.out
          have hw1 : IntKind.i64.wrap ((x2 : Int) + (xa.size : Int)) = (x2 : Int) + (xa.size : Int) := by simp [IntKind.wrap, IntKind.signed, IntKind.bits]; omega
          have hw2 : IntKind.i64.wrap ((x2 : Int) + (xa.size : Int) + 1) = (x2 : Int) + (xa.size : Int) + 1 := by simp [IntKind.wrap, IntKind.signed, IntKind.bits]; omega
          have hkk : (k : Int) < (nm : Int) := by omega
          have hgz : gm < wr.heap.size := by omega
          have HX0 := Lib.hid hx0
          have HX1 := Lib.hid hx1
          have HX2 := Lib.hid hx2
          have HC0 := Lib.hid c0
          have HC1 := Lib.hid c1
          clear hf hcs hx0 hx1 hx2
          go_wp2_with fail
          go_region
          obtain ⟨V, hV⟩ : ∃ V, (wr.setCell ⟨gm, k * 3 + 2, none⟩ (.int .i64 ((x2 : Int) + (xa.size : Int) + 1))).drew = V := ⟨_, rfl⟩
          obtain ⟨y, hy⟩ : ∃ y : Int, (x2 : Int) + (xa.size : Int) + 1 = y := ⟨_, rfl⟩
          have d0 : V.cell? ⟨gm, k * 3, none⟩ = some (.int .i64 x0) := by rw [← hV]; exact mo_cell (by omega) HC0.out
          have d1 : V.cell? ⟨gm, k * 3 + 1, none⟩ = some (.string x1) := by rw [← hV]; exact mo_cell (by omega) HC1.out
          have d2 : V.cell? ⟨gm, k * 3 + 2, none⟩ = some (.int .i64 y) := by
            rw [← hV, ← hy]
            exact World.cell?_setCell_same wr ⟨gm, k * 3 + 2, none⟩ _ (by rw [c2])
          have HV := Lib.hid hV
          have HMV : Hid (Mo M gm (k + 1) V) := by rw [← hV]; exact ((HMo.out (by omega)).store _).keep rfl
          have HOV : Hid (V.ownsRow P1 31 3 (.slice av (nw + k) cv) (nw + k) (tks (W0 ++ (M.take k).map (shf (xa.size + 1))))) := own_same HO.out (fun g hg => by
            rw [← hV]
            exact Below.heap_setCell _ _ _ g (fun e => by have := HG.out g hg; try simp only at e; omega))
          have hg1 : P1 ≤ gm := by omega
          have HBV : Hid (Below P1 w10 V) := by rw [← hV]; exact (HBl.out.setCell (p := ⟨gm, k * 3 + 2, none⟩) hg1 _).drew
          have HVZ : Hid (V.heap.size = wr.heap.size) := Lib.hid (by rw [← hV]; simp [World.setCell])
          have hgV : gm < V.heap.size := by have := HVZ.out; omega
          have hP3V : P3 ≤ V.heap.size := by have := HVZ.out; omega
          have HTC : Hid (tks [shf (xa.size + 1) (tg M k)] = [.int .i64 x0, .string x1, .int .i64 y]) := by
            unfold Hid tks shf tkCs
            simp only [List.flatMap_cons, List.flatMap_nil, List.append_nil, HX0.out, HX1.out, HX2.out, List.cons.injEq, Value.int.injEq, true_and, and_true]
            omega
          have HMT : Hid ((M.take (k + 1)).map (shf (xa.size + 1)) = (M.take k).map (shf (xa.size + 1)) ++ [shf (xa.size + 1) (tg M k)]) := by
            have hkM : k < M.length := by have := HNM.out; omega
            unfold Hid tg
            rw [List.take_succ_eq_append_getElem hkM, List.map_append, List.getElem?_eq_getElem hkM]
            rfl
          obtain ⟨b5, nwt⟩ := tok_new V x0 x1 y
          obtain ⟨W5, hW5⟩ : ∃ W, V.alloc (.cells #[.int .i64 x0, .string x1, .int .i64 y] 31) = W := ⟨_, rfl⟩
          rw [hW5] at b5 nwt
          have HW5 := Lib.hid hW5
          have HNT := Lib.hid nwt
          have hsz5 := b5.size
          have hszw := HBV.out.size
          have HB5 : Hid (Below P1 w10 W5) := HBV.out.trans (b5.mono (by omega))
          have HO5 : Hid (W5.ownsRow P1 31 3 (.slice av (nw + k) cv) (nw + k) (tks (W0 ++ (M.take k).map (shf (xa.size + 1))))) := own_same HOV.out (fun g hg => b5.block g (HOV.out.lt g hg).2)
          have HM5 : Hid (Mo M gm (k + 1) W5) := HMV.out.keep (b5.block gm (by omega))
          have hbase : P1 ≤ W5.heap.size := by omega
          have HONE := Lib.hid (tok_one x0 x1 y)
          rw [HV.out]
          clear b5 nwt hW5 c0 c1 c2 f2 cxa hw1 hw2 hV hy
          go_wp2_with (at_builtin; rw [show V.alloc (.cells #[.int .i64 x0, .string x1, .int .i64 y] 31) = W5 from HW5.out]; refine wpList_append_own_at _ rfl _ _ 26 rfl P1 31 i3 (.agg #[.int .i64 0, .string ⟨#[]⟩, .int .i64 0]) 3 32 Tryd.underlying26 hi3 iy0 iy1 iy2 rfl (by decide) (.slice av (nw + k) cv) (nw + k) (tks (W0 ++ (M.take k).map (shf (xa.size + 1)))) rfl HO5.out ⟨V.heap.size, 0, none⟩ 1 1 [.int .i64 x0, .string x1, .int .i64 y] rfl rfl HNT.out HONE.out (by unfold maxLen; omega) (by omega) hbase ?_; intro v6 w16 hown6 hgrow6 hnn6 hat6)
          have HO6' : Hid (w16.ownsRow P1 31 3 v6 (nw + (k + 1)) (tks (W0 ++ (M.take (k + 1)).map (shf (xa.size + 1))))) := by
            rw [HMT.out, ← List.append_assoc, tks_app, HTC.out]; exact hown6
          have HB16 : Hid (Below P1 w10 w16) := HB5.out.grown hgrow6 hbase (fun g hg => (HO5.out.lt g hg).1)
          have HG6 : Hid (∀ g, v6.ownBlock = some g → g < P2 ∨ P3 ≤ g) := Lib.hid fun g hg => by
            rcases hat6 with h | h
            · exact HG.out g (by rw [← h]; exact hg)
            · rw [h] at hg
              simp only [Option.some.injEq] at hg
              omega
          have HM6 : Hid (0 < nm → Mo M gm (k + 1) w16) := Lib.hid fun _ => HM5.out.keep (hgrow6.block gm (by omega) (fun e => by have := HG.out gm e.symm; omega))
          have hz16 := hgrow6.size
          clear hown6 hgrow6 hnn6 hat6
          go_wp2
          go_roundw
          case rel => exact ⟨k + 1, by go_num, by omega, HO6', HG6, HM6, HB16, by omega⟩
          case measure => simp only [RowKit.intOf, Int.toNat_natCast]; omega
        · obtain rfl : nm = k := by omega
          have HLB : Hid (W0 ++ (M.take nm).map (shf (xa.size + 1)) = LB) := by
            have h1 := HNM.out
            unfold Hid
            rw [← h1, List.take_length, HSJ.out]
          have hOW : wr.ownsRow P1 31 3 (.slice av (nw + nm) cv) LB.length (tks LB) := by
            have h1 := HO.out
            rw [HLB.out] at h1
            have h2 : LB.length = nw + nm := by
              have := congrArg List.length HSJ.out
              rw [List.length_append, List.length_map] at this
              have h3 := HNM.out
              have h4 := HNW.out
              omega
            rw [h2]
            exact h1
          have HS9 := Lib.hid (rsame_any LB u6 (.slice av (nw + nm) cv) _ _ wr (by have := HLS.out.1; omega) (HOB.out wr HBl.out) hOW)
          have hkk : ¬ (nm : Int) < (nm : Int) := by omega
          clear hOW
          go_wp2_with fail
          refine HS9.out.mono ?_
          rintro e w17 ⟨rfl, hb17⟩
          have HB17 : Hid (Below P1 w10 w17) := HBl.out.trans (hb17.mono (by omega))
          have hO17 := HOB.out w17 HB17.out
          obtain ⟨nB, hnB⟩ : ∃ n, LB.length = n := ⟨_, rfl⟩
          obtain ⟨aB, cB, rfl, hclB⟩ := trow hO17 rfl
          rw [hnB] at hclB ⊢
          have HCLB := Lib.hid hclB
          have HNB := Lib.hid hnB
          have hnB8 := HLS.out.1
          rw [hnB] at hnB8
          have hw17 := hb17.size
          clear hb17 hO17 hclB hnB
          go_wp2_with fail
          go_loopw [16] (fun v16 wr => ∃ k : Nat, v16 = .int .i64 (k : Int) ∧ k ≤ nB ∧ Hid (Below P1 w10 wr) ∧ Hid (Below w17.heap.size w17 wr)) (fun v16 _ => nB - (intOf v16).toNat)
          case atStart => exact ⟨0, rfl, Nat.zero_le _, HB17, Below.refl _ _⟩
          case round =>
            obtain ⟨k3, rfl, hk3, HB3, HC3⟩ := hrel
            by_cases hk4 : k3 < nB
            · obtain ⟨g, hg0, hg, hcell⟩ := HCLB.out (by omega)
              subst hg0
              obtain ⟨_, c1, _⟩ := hcell wr (HC3.out.block g hg) k3 hk4
              obtain ⟨t1, t2⟩ := HTX.out k3 (by have := HNB.out; omega)
              obtain ⟨x1, hx1⟩ : ∃ x, tbs (tg LB k3).2.1 = x := ⟨_, rfl⟩
              rw [hx1] at c1 t1 t2
              have C9 := Lib.hid (rlines_none x1 (by omega) t2 wr)
              have hkk3 : (k3 : Int) < (nB : Int) := by omega
              have hz3 := HC3.out.size
              clear hcell hx1 t2
              go_wp2_with fail
              refine C9.out.mono ?_
              rintro e w18 ⟨a9, c9, rfl, hb18⟩
              have HB18 : Hid (Below P1 w10 w18) := HB3.out.trans (hb18.mono (by omega))
              have HC18 : Hid (Below w17.heap.size w17 w18) := HC3.out.trans (hb18.mono hz3)
              clear hb18
              go_wp2
              go_roundw
              case rel => exact ⟨k3 + 1, by go_num, by omega, HB18, HC18⟩
              case measure => simp only [RowKit.intOf, Int.toNat_natCast]; omega
            · obtain rfl : nB = k3 := by omega
              have hkk3 : ¬ (nB : Int) < (nB : Int) := by omega
              have HRI : Hid (Below w4.heap.size w4 wr) := HR.out.trans ((HFI.out wr HB3.out).mono HR.out.size)
              go_wp2
              go_roundw
              case rel => exact ⟨j + 1, by omega, by go_num, HRI⟩
              case measure => simp only [RowKit.intOf, Int.toNat_natCast]; omega
    · obtain rfl : 2 = j := by omega
      have HTR := Lib.hid (HT4.out.below HR.out)
      go_wp2_with fail
      refine (lives_any _ HTR.out).mono ?_
      rintro e wf ⟨rfl, hbf⟩
      have HFF : Hid (Below w.heap.size w wf) := (HB4.out.trans (HR.out.mono HB4.out.size)).trans (hbf.mono (by have := HR.out.size; have := HB4.out.size; omega))
      clear hbf
      go_wp2
      go_ret
      exact ⟨rfl, HFF.out⟩

end Go.Proofs.YtgfhhpodcnohpaaDoor
