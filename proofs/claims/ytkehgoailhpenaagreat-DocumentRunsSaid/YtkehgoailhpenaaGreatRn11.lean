/- Texts of one claim, put together: DCh, DLv0, DLv, DEdt, RDw, DHl, DHs, DHt, RDu, DFm, RDo, DSp. Each part says what it proves and under which conditions. -/
import Derived.Test.YtkehgoailhpenaaGreatRn10
import Derived.Shelf.SlIterI.Nil
import Derived.Shelf.SortM.Plain
import Derived.Shelf.SortM.SortNone
import Derived.Ground.GgzProg
import Derived.Ground.SlgmProg
import Derived.Test.YtkehgoailhpenaaGreatProg
import Derived.Laws.AppendOwnNone
import Derived.Deep.RegionWith

/- The contract of Chain. Conditions: at most 16 changes are asked for. -/
namespace Go.Proofs.YtkehgoailhpenaaGreat
open Go.RowKit Go.Shelf Go.Maps
set_option linter.unusedVariables false

/-- Blocks from lo on, but for that of a slice. -/
def offB (lo : Nat) (v : Value) (b : Nat) : Prop := lo ≤ b ∧ v.ownBlock ≠ some b
theorem cells_two (w : World) (x y : Value) (t : TypeId) : ∀ j u, ([x, y] : List Value)[j]? = some u → (w.alloc (.cells #[x, y] t)).cell? ((⟨w.heap.size, 0, none⟩ : Addr).add j) = some u := cells_news w [x, y] t

theorem chain_keep {lo n : Nat} {w wr W : World} {o : Value} {xs : List Value} {vs : List (Int × Value)} {cs : List (List PE)} (HO : wr.ownsRow lo 47 2 o n xs) (HV : Held1 (offB lo o) wr vs cs) (HR : Below lo w wr) (hb : Below wr.heap.size wr W) (hlo : lo ≤ wr.heap.size) :
    W.ownsRow lo 47 2 o n xs ∧ Held1 (offB lo o) W vs cs ∧ Below lo w W :=
  ⟨own_same HO (fun g hg => hb.block g (HO.lt g hg).2), HV.keep hb.size (fun b _ hlt => hb.block b hlt) (fun b h _ => h), HR.trans (hb.mono hlo)⟩
theorem chain_grow {lo : Nat} {W w6 : World} {o o' : Value} {vs : List (Int × Value)} {cs : List (List PE)} {p : List PE} {u : Value} (HV : Held1 (offB lo o) W vs cs) (hu : PsG (offB lo o) W u p) (hg : W.grownBy w6 o.ownBlock) (hat : o'.ownBlock = o.ownBlock ∨ o'.ownBlock = some W.heap.size) :
    Held1 (offB lo o') w6 (vs ++ [((cs.length : Int) + 1, u)]) (cs ++ [p]) :=
  (HV.snoc hu).keep hg.size (fun b hb hlt => hg.block b hlt (fun e => hb.2 e.symm)) (fun b hb hlt => ⟨hb.1, fun e => by
    rcases hat with h | h
    · exact hb.2 (h ▸ e)
    · rw [h] at e; simp at e; omega⟩)

set_option maxRecDepth 100000 in
set_option maxHeartbeats 8000000 in
theorem chain_any (a : Option Addr) (cap : Nat) (ls : List Int) (most : Nat) (w : World) (h : Sli .i64 w a cap ls) (hi : ∀ n ∈ ls, -9223372036854775808 ≤ n ∧ n ≤ 9223372036854775807) (hm : most ≤ 16) :
    Calls Tryz.prog 6 #[.slice a ls.length cap, .int .i64 (most : Int)] w fun e w' => ∃ S cs vs v, e = .returned (.tuple #[.string S, v]) ∧ S.size ≤ 96 ∧ Whl (sb S) ∧ cs.length ≤ most ∧ Fits S cs ∧ w'.ownsRow w.heap.size 47 2 v cs.length (cv vs) ∧ Held1 (offB w.heap.size v) w' vs cs ∧ Below w.heap.size w w' := by
  obtain ⟨i5, hi5, jy0, jy1, jy2⟩ := info_parts infoCh
  have cP := part_any a cap ls 0 12 w h (by omega) (by omega)
  have hPA : ∀ (i : Nat) W, i < 16 → Below w.heap.size w W → Calls Tryz.prog 30 #[.slice a ls.length cap, .int .i64 (12 + 10 * (i : Int)), .int .i64 16] W fun e w' => W = w' ∧ ∃ a' n' c', e = .returned (.slice a' n' c') ∧ SlI W.heap.size W a' n' ∧ n' ≤ c' ∧ c' ≤ 9223372036854775807 := fun i W hi' hW => by
    have := part_any a cap ls (12 + 10 * i) 16 W (h.below hW) (by omega) (by omega)
    rw [show ((12 + 10 * i : Nat) : Int) = 12 + 10 * (i : Int) by omega] at this
    refine this.mono ?_
    rintro e w' ⟨rfl, a', c', rfl, hs⟩
    exact ⟨rfl, a', _, c', rfl, SlI.of hs (fun n hn => hi n (List.mem_of_mem_drop (List.mem_of_mem_take hn))), hs.le, hs.mx⟩
  have hi2 : ∀ n ∈ (ls.drop 0).take 12, -9223372036854775808 ≤ n ∧ n ≤ 9223372036854775807 := fun n hn => hi n (List.mem_of_mem_drop (List.mem_of_mem_take hn))
  obtain ⟨L, hL⟩ : ∃ l, (ls.drop 0).take 12 = l := ⟨_, rfl⟩
  obtain ⟨N, hN⟩ : ∃ l, ls.length = l := ⟨_, rfl⟩
  have hNm : N ≤ 9223372036854775807 := by have := h.le; have := h.mx; omega
  obtain ⟨lo, hlo⟩ : ∃ l, w.heap.size = l := ⟨_, rfl⟩
  rw [hL] at cP hi2
  rw [hN] at cP hPA ⊢
  rw [hlo] at hPA ⊢
  have C1 := Lib.hid cP; have HPA := Lib.hid hPA; have HLO := Lib.hid hlo
  have HI2 := Lib.hid hi2
  clear h hi hi2 hL hN cP hPA hlo
  go_enter Tryz.func6, Tryz.ntmps6
  go_wp2_with fail
  refine C1.out.mono ?_
  rintro e w0 ⟨rfl, a1, c1, rfl, hs⟩
  have C2 := Lib.hid (rtext_any a1 c1 L w hs HI2.out)
  clear hs
  go_wp2_with fail
  refine C2.out.mono ?_
  rintro e w1 ⟨S, rfl, hSl, hSw, b1⟩
  rw [HLO.out] at b1
  have HB := Lib.hid b1; have HW := Lib.hid hSw
  clear b1 hSw
  go_wp2_with fail
  go_loopw [7, 8, 9] (fun s o q wr => ∃ (cs : List (List PE)) (vs : List (Int × Value)) (z : ByteArray) (i : Nat), s = .string z ∧ q = .int .i64 (i : Int) ∧ i ≤ most ∧ z.size ≤ 4096 ∧ Hid (cs.length = i) ∧ Hid (Fits S cs) ∧ Hid (endT S cs = z) ∧ Hid (wr.ownsRow lo 47 2 o i (cv vs)) ∧ Hid (Held1 (offB lo o) wr vs cs) ∧ Hid (Below lo w wr)) (fun _ _ q _ => most - (intOf q).toNat)
  case atStart => exact ⟨[], [], S, 0, rfl, rfl, by omega, by omega, Lib.hid rfl, Lib.hid trivial, Lib.hid rfl, Lib.hid (World.ownsRow_nil _ _ _ _), Lib.hid ⟨rfl, fun k hk => by simp at hk⟩, HB⟩
  case round =>
    obtain ⟨cs, vs, z, i, rfl, rfl, hcl, hz, HC, HF, HE, HO, HV, HR⟩ := hrel
    have hlr : lo ≤ wr.heap.size := by have := HR.out.size; have := HLO.out; omega
    have m1 : IntKind.i64.wrap (10 * (i : Int)) = 10 * (i : Int) := by simp [IntKind.wrap, IntKind.signed, IntKind.bits]; omega
    have m2 : IntKind.i64.wrap (12 + 10 * (i : Int)) = 12 + 10 * (i : Int) := by simp [IntKind.wrap, IntKind.signed, IntKind.bits]; omega
    have m3 : IntKind.i64.wrap ((i : Int) + 1) = (i : Int) + 1 := by simp [IntKind.wrap, IntKind.signed, IntKind.bits]; omega
    have HEND : Hid (∀ W, Below wr.heap.size wr W → ∃ S' cs' vs' v', (Ending.returned (.tuple #[.string S, u8]) = .returned (.tuple #[.string S', v'])) ∧ S'.size ≤ 96 ∧ Whl (sb S') ∧ cs'.length ≤ most ∧ Fits S' cs' ∧ W.ownsRow lo 47 2 v' cs'.length (cv vs') ∧ Held1 (offB lo v') W vs' cs' ∧ Below lo w W) := fun W hW => by
      obtain ⟨k1, k2, k3⟩ := chain_keep HO.out HV.out HR.out hW hlr
      exact ⟨S, cs, vs, u8, rfl, hSl, HW.out, by rw [HC.out]; exact hcl, HF.out, by rw [HC.out]; exact k1, k2, k3⟩
    by_cases hgo : i < most ∧ 12 + 10 * i < N
    · have g1 : (i : Int) < (most : Int) := by omega
      have g2 : 12 + 10 * (i : Int) < (N : Int) := by omega
      clear hgo
      go_wp2_with fail
      refine (HPA.out i wr (by omega) HR.out).mono ?_
      rintro e w2 ⟨rfl, a2, n2, c2, rfl, hsl, h2, h3⟩
      have CE := Lib.hid (edits_any z a2 n2 c2 wr (by omega) hsl h2 h3)
      clear hsl
      go_wp2_with fail
      refine CE.out.mono ?_
      rintro e w2 ⟨xs, v2, rfl, hx1, hx2, hx3, hown2, hb2⟩
      obtain ⟨hn2, ax, cx, rfl, hX⟩ := es_of_own hown2
      have CP := Lib.hid (posg_any z ax cx xs w2 (by omega) (by omega) hx2 (fun x hx => by have := (hx3 x hx).1; omega) hX)
      have hfx := fit_of hx2 (by omega) (fun e he => by have := (hx3 e he).1; omega)
      obtain ⟨nx, hnx⟩ : ∃ n, xs.length = n := ⟨_, rfl⟩
      have HNX := Lib.hid hnx; have HX := Lib.hid hX; have HX2 := Lib.hid hx2; have HFX := Lib.hid hfx
      have B2 : Hid (Below wr.heap.size wr w2) := hb2
      rw [hnx] at hx1
      simp only [hnx] at CP
      rw [hnx]
      clear hn2 hX hx2 hx3 hfx hnx hown2 hb2 CE
      go_wp2_with fail
      refine CP.out.mono ?_
      rintro e w3 hpos
      have hb3 : Below w2.heap.size w2 w3 := by
        rcases hpos with ⟨_, h⟩ | ⟨_, _, _, _, _, _, _, _, _, _, h⟩ <;> exact h
      have CA := rapply_any z ax cx xs w3 (by omega) (by have := HNX.out; omega) HFX.out (HX.out.on hb3)
      rw [HX2.out, HNX.out] at CA
      obtain ⟨t, ht⟩ : ∃ t, apS z xs = t := ⟨_, rfl⟩
      rw [ht] at CA
      have HCA := Lib.hid CA; have HT := Lib.hid ht
      have B3 : Hid (Below wr.heap.size wr w3) := B2.out.trans (hb3.mono B2.out.size)
      clear CA ht CP
      rcases hpos with ⟨rfl, _⟩ | ⟨pa, pc, ps, rfl, hp1, hp2, hp3, hp4, hp5, hp6, _⟩
      · clear hb3
        go_wp2_with fail
        refine HCA.out.mono ?_
        rintro e w4 ⟨rfl, b4⟩
        have HQ := HEND.out w4 (B3.out.trans (b4.mono B3.out.size))
        have HQ2 := Lib.hid HQ
        clear b4 HQ
        go_wp2_with fail
        go_ret2
        exact HQ2.out
      · obtain ⟨np, hnp⟩ : ∃ n, ps.length = n := ⟨_, rfl⟩
        obtain rfl : np = nx := by rw [← hnp, hp2]
        have HP := Lib.hid (And.intro hp1 (And.intro hp3 (And.intro hp4 (And.intro hp5 hp6))))
        have HNP := Lib.hid hnp
        rw [hnp]
        clear hb3 hp1 hp2 hp3 hp4 hp5 hp6 hnp
        go_wp2_with fail
        refine HCA.out.mono ?_
        rintro e w4 ⟨rfl, b4⟩
        have B4 : Hid (Below wr.heap.size wr w4) := B3.out.trans (b4.mono B3.out.size)
        have B34 : Hid (Below w3.heap.size w3 w4) := b4
        clear b4
        by_cases hbig : 4096 < t.size
        · have hb2 : (4096 : Int) < (t.size : Int) := by omega
          have HQ2 := Lib.hid (HEND.out w4 B4.out)
          clear hbig
          go_wp2_with fail
          go_ret2
          exact HQ2.out
        · have hb2 : ¬ (4096 : Int) < (t.size : Int) := by omega
          have hz4 : lo ≤ w4.heap.size := by have := B4.out.size; omega
          obtain ⟨k1, k2, k3⟩ := chain_keep HO.out HV.out HR.out B4.out hlr
          obtain ⟨W5, hW5⟩ : ∃ W, w4.alloc (.cells #[.int .i64 ((i : Int) + 1), .slice pa np pc] 47) = W := ⟨_, rfl⟩
          have b5 : Below w4.heap.size w4 W5 := by rw [← hW5]; exact (Below.refl _ _).alloc (Nat.le_refl _) _
          have z5 : lo ≤ W5.heap.size := by have := b5.size; omega
          have HCN : Hid (∀ j y, ([.int .i64 ((i : Int) + 1), .slice pa np pc] : List Value)[j]? = some y → W5.cell? ((⟨w4.heap.size, 0, none⟩ : Addr).add j) = some y) := by rw [← hW5]; exact cells_two w4 _ _ _
          obtain ⟨j1, j2, j3⟩ := chain_keep k1 k2 k3 b5 hz4
          have hpg : PsG (offB lo u8) W5 (.slice pa np pc) ps := by
            have h1 := PsG.of (G := offB lo u8) HP.out.1 (fun _ b hb => ⟨by have := HP.out.2.2.2.2 b hb; have := B2.out.size; omega, fun e => by have := HP.out.2.2.2.2 b hb; have := B2.out.size; have := (HO.out.lt b e).2; omega⟩)
            rw [HNP.out] at h1
            have b35 : Below w3.heap.size w3 W5 := B34.out.trans (b5.mono B34.out.size)
            exact h1.keep b35.size (fun b _ hlt => b35.block b hlt) (fun _ h => h)
          have HF1 : Hid (Fit1 z ps) := by
            obtain ⟨q1, q2, q3, q4, q5⟩ := HP.out
            exact ⟨q3, by rw [q4]; exact HX2.out, by rw [q4, HT.out]; omega, by rw [HNP.out]; omega, q2⟩
          have HJ1 := Lib.hid j1; have HJ2 := Lib.hid j2; have HJ3 := Lib.hid j3; have HPG := Lib.hid hpg; have HW5 := Lib.hid hW5
          have HTT : Hid (t = apS z (pL z ps)) := by rw [HP.out.2.2.2.1]; exact HT.out.symm
          clear k1 k2 k3 b5 j1 j2 j3 hpg hW5 hbig
          go_wp2_with (at_builtin; rw [show w4.alloc (.cells #[.int .i64 ((i : Int) + 1), .slice pa np pc] 47) = W5 from HW5.out]; refine wpList_append_own_at _ rfl _ _ 25 rfl lo 47 i5 (.agg #[.int .i64 0, .slice none 0 0]) 2 32 Tryz.underlying25 hi5 jy0 jy1 jy2 rfl (by decide) u8 i (cv vs) rfl HJ1.out ⟨w4.heap.size, 0, none⟩ 1 1 [.int .i64 ((i : Int) + 1), .slice pa np pc] rfl rfl HCN.out (fun x hx => by simp at hx; rcases hx with rfl | rfl <;> rfl) (by unfold maxLen; omega) (by omega) z5 ?_; intro v' w6 hown6 hgrow6 _ hat6)
          have hh := chain_grow HJ2.out HPG.out hgrow6 hat6
          have hbl := HJ3.out.grown hgrow6 z5 (fun g hg => (HJ1.out.lt g hg).1)
          have HO6 : Hid (w6.ownsRow lo 47 2 v' (i + 1) (cv (vs ++ [((i : Int) + 1, .slice pa np pc)]))) := by rw [cv_app]; exact hown6
          have HV6 : Hid (Held1 (offB lo v') w6 (vs ++ [((i : Int) + 1, .slice pa np pc)]) (cs ++ [ps])) := by rw [HC.out] at hh; exact hh
          have HB6 := Lib.hid hbl
          have HF6 : Hid (Fits S (cs ++ [ps])) := HF.out.snoc (by rw [HE.out]; exact HF1.out)
          have HE6 : Hid (endT S (cs ++ [ps]) = t) := by rw [HTT.out, ← HE.out]; exact endT_snoc _ _ _
          clear hh hbl hown6 hgrow6 hat6
          go_wp2
          go_roundw
          case rel => exact ⟨cs ++ [ps], _, t, i + 1, rfl, by go_num, by omega, by omega, Lib.hid (by rw [List.length_append, HC.out]; rfl), HF6, HE6, HO6, HV6, HB6⟩
          case measure => simp [intOf]; omega
    · have HQ2 := Lib.hid (HEND.out wr (Below.refl _ _))
      have hways : ¬ ((i : Int) < (most : Int)) ∨ ((i : Int) < (most : Int) ∧ ¬ (12 + 10 * (i : Int) < (N : Int))) := by omega
      clear hgo
      rcases hways with g1 | ⟨g1, g2⟩
      all_goals
        go_wp2_with fail
        go_ret2
        exact HQ2.out

end Go.Proofs.YtkehgoailhpenaaGreat

/- The example of the chapter on documents, in the words of the specification. It has no conditions. -/
namespace Go.Proofs.YtkehgoailhpenaaGreat
open Go.RowKit Go.Shelf Go.Maps
set_option linter.unusedVariables false

abbrev lvA : ByteArray := ⟨#[97, 98]⟩
abbrev lvB : ByteArray := ⟨#[97, 120, 98]⟩
abbrev lvC : ByteArray := ⟨#[97, 120, 98, 121]⟩
abbrev lvX : ByteArray := ⟨#[120]⟩
abbrev lvY : ByteArray := ⟨#[121]⟩
def lp1 : PE := ⟨0, 3, 0, 3, lvY⟩
def lp2 : PE := ⟨0, 1, 0, 1, lvX⟩
def le1 : Er := ⟨1, 1, lvX⟩
def le2 : Er := ⟨3, 3, lvY⟩
def le3 : Er := ⟨2, 2, lvY⟩
theorem lv_sbA : sb lvA = [97, 98] := by decide +kernel
theorem lv_sbB : sb lvB = [97, 120, 98] := by decide +kernel
theorem lv_posA : Pos [97, 98] 1 0 1 := ⟨⟨1, bord_of (n := 12) (by decide +kernel)⟩, by decide +kernel, by rw [show (lf [97, 98] 1).2 = 0 by decide +kernel]; exact bord_of (n := 12) (by decide +kernel)⟩
theorem lv_posB : Pos [97, 120, 98] 3 0 3 := ⟨⟨3, bord_of (n := 12) (by decide +kernel)⟩, by decide +kernel, by rw [show (lf [97, 120, 98] 3).2 = 0 by decide +kernel]; exact bord_of (n := 12) (by decide +kernel)⟩
theorem lv_ed2 : edD (sb lvA) lp2 = (⟨1, 1, lvX⟩, 0) := by
  rw [lv_sbA]
  exact edD_eq (ed_there lvX lv_posA lv_posA (Nat.le_refl _))
theorem lv_ed1 : edD (sb lvB) lp1 = (⟨3, 3, lvY⟩, 0) := by
  rw [lv_sbB]
  exact edD_eq (ed_there lvY lv_posB lv_posB (Nat.le_refl _))
theorem lv_pE2 : pE lvA [lp2] = 0 ∧ pL lvA [lp2] = [le1] := by
  have h : pE lvA [lp2] = 0 := by
    unfold pE
    rw [if_neg (by decide)]
    simp only [pE0, lv_ed2, if_true]
  refine ⟨h, ?_⟩
  unfold pL
  rw [if_pos h]
  simp only [List.map_cons, List.map_nil, lv_ed2]
  rfl
theorem lv_pE1 : pE lvB [lp1] = 0 ∧ pL lvB [lp1] = [le2] := by
  have h : pE lvB [lp1] = 0 := by
    unfold pE
    rw [if_neg (by decide)]
    simp only [pE0, lv_ed1, if_true]
  refine ⟨h, ?_⟩
  unfold pL
  rw [if_pos h]
  simp only [List.map_cons, List.map_nil, lv_ed1]
  rfl
def lvS0 : DS := newS lvA 3
def lvS1 : DS := ⟨3, [(lvA, [])], [(5, [lp1])]⟩
def lvS2 : DS := ⟨4, [(lvA, [le1]), (lvB, [])], [(5, [lp1])]⟩
def lvS3 : DS := ⟨5, [(lvA, [le1]), (lvB, [le2]), (lvC, [])], []⟩
theorem lv_r1 : rcvF lvS0 5 [lp1] = ((0, 0), lvS1) := by
  have h1 : chkE lvS0 5 [lp1].length = 0 := by decide +kernel
  have h2 : lvS0.v + 1 < 5 := by decide +kernel
  unfold rcvF
  rw [h1, if_neg (by simp), if_pos h2]
  rfl
theorem lv_apl2 : aplE lvS1 [lp2] = 0 ∧ aplS lvS1 [lp2] = lvS2 := by
  have ht : lvS1.text = lvA := by kernel_rfl
  unfold aplE aplS
  rw [ht, lv_pE2.1, lv_pE2.2, if_pos rfl]
  exact ⟨by decide +kernel, by kernel_rfl⟩
theorem lv_apl1 : aplE (dropH lvS2) [lp1] = 0 ∧ aplS (dropH lvS2) [lp1] = lvS3 := by
  have ht : (dropH lvS2).text = lvB := by kernel_rfl
  unfold aplE aplS
  rw [ht, lv_pE1.1, lv_pE1.2, if_pos rfl]
  exact ⟨by decide +kernel, by kernel_rfl⟩
theorem lv_hld : hldF 1 lvS2 = (1, lvS3) := by
  have h1 : lvS2.v + 1 ∈ lvS2.hs.map Prod.fst := by decide +kernel
  have h2 : lookH lvS2.hs (lvS2.v + 1) = [lp1] := by kernel_rfl
  simp only [hldF]
  rw [if_pos h1, h2, if_pos lv_apl1.1, lv_apl1.2]
theorem lv_r2 : rcvF lvS1 4 [lp2] = ((2, 0), lvS3) := by
  have h1 : chkE lvS1 4 [lp2].length = 0 := by decide +kernel
  have h2 : ¬ lvS1.v + 1 < 4 := by decide +kernel
  unfold rcvF
  rw [h1, if_neg (by simp), if_neg h2, lv_apl2.1, if_neg (by simp), lv_apl2.2, show lvS1.hs.length = 1 from rfl, lv_hld]
  rfl
theorem lv_r3 : rcvF lvS3 4 [lp2] = ((0, 8), lvS3) := by
  have h1 : chkE lvS3 4 [lp2].length = 8 := by decide +kernel
  unfold rcvF
  rw [h1, if_pos (by decide)]
theorem lv_snc : SncOk lvA [] (nexts lvS3 0) [le1, le3] := by
  have h0 : nexts lvS3 0 = [[le1], [le2]] := by kernel_rfl
  have h1 : cmS lvA [] [le1] = [le1] := by kernel_rfl
  have h2 : cmS lvA [le1] [le2] = [le1, le3] := by kernel_rfl
  have f1 : le1.Fit := ⟨by decide, by decide, by decide, by decide, by decide⟩
  have f3 : le3.Fit := ⟨by decide, by decide, by decide, by decide, by decide⟩
  rw [h0]
  refine ⟨by decide +kernel, by decide +kernel, by decide +kernel, ?_, by rw [h1]; decide, ?_⟩
  · rw [h1]; intro e he; simp only [List.mem_singleton] at he; subst he; exact f1
  rw [h1]
  refine ⟨by decide +kernel, by decide +kernel, by decide +kernel, ?_, by rw [h2]; decide, h2⟩
  rw [h2]
  intro e he
  simp only [List.mem_cons, List.not_mem_nil, or_false] at he
  rcases he with rfl | rfl
  · exact f1
  · exact f3

end Go.Proofs.YtkehgoailhpenaaGreat

/- The documented example holds. It has no conditions. -/
namespace Go.Proofs.YtkehgoailhpenaaGreat
open Go.RowKit Go.Shelf Go.Maps
set_option linter.unusedVariables false

/-- One edit by positions in a new block. -/
theorem ps_one (w : World) (p : PE) : PS (w.alloc (.cells p.vals.toArray 78)).heap.size (w.alloc (.cells p.vals.toArray 78)) (some ⟨w.heap.size, 0, none⟩) 1 [p] := by
  refine ⟨Nat.le_refl _, by omega, .inr ⟨w.heap.size, 0, rfl, by simp, fun k hk i hi => ?_⟩⟩
  obtain rfl : k = 0 := by simp at hk; exact hk
  rw [(Blk.new w 78 p.vals.toArray).cell]
  simp [pG]
theorem es_two (w : World) (x y : Er) : ES (w.alloc (.cells (rv [x, y]).toArray 84)).heap.size (w.alloc (.cells (rv [x, y]).toArray 84)) (some ⟨w.heap.size, 0, none⟩) 2 [x, y] := by
  refine ⟨Nat.le_refl _, by omega, (fun h => by cases h), .inr ⟨w.heap.size, 0, rfl, by simp, fun k hk i hi => ?_⟩⟩
  rw [(Blk.new w 84 (rv [x, y]).toArray).cell, List.getElem?_toArray, Nat.zero_add]
  exact rv_get [x, y] k i hk hi
theorem lp_fit (p : PE) (h : p = lp1 ∨ p = lp2) : p.fit ∧ p.t.size ≤ 100000 := by
  rcases h with rfl | rfl <;> exact ⟨⟨⟨by decide, by decide⟩, ⟨by decide, by decide⟩, ⟨by decide, by decide⟩, ⟨by decide, by decide⟩⟩, by decide⟩

/-- What lay when the example began lies as it lay. -/
structure LvO (w W : World) (T : Nat → Prop) : Prop where
  b : Below w.heap.size w W
  t : ∀ b, T b → w.heap.size ≤ b
theorem LvO.below {w W W' : World} {T : Nat → Prop} (h : LvO w W T) (hb : Below W.heap.size W W') : LvO w W' T := ⟨h.b.trans (hb.mono h.b.size), h.t⟩
theorem LvO.step {w W W' : World} {T G T' G' : Nat → Prop} (h : LvO w W T) (k : Stp T G T' G' W W') : LvO w W' T' :=
  ⟨h.b.trans (k.below h.b.size h.t), fun b hb => (k.t b hb).elim (h.t b) (fun e => by have := h.b.size; omega)⟩

set_option maxRecDepth 100000 in
set_option maxHeartbeats 4000000 in
theorem lives_any (w : World) : Calls Tryz.prog 22 #[] w fun e w' => e = .returned (.bool true) ∧ Below w.heap.size w w' := by
  have CN := Lib.hid (new_any lvA 3 w)
  have hE : newE lvA 3 = 0 := by decide +kernel
  rw [hE] at CN
  have HCR : Hid (∀ (T G : Nat → Prop) (p : Nat) (s s' : DS) (cv : Int) (q : PE) (x y : Int) (W : World) (a : Option Addr), DocI T G W p s → (cv = 5 ∨ cv = 4) → (q = lp1 ∨ q = lp2) → PS W.heap.size W a 1 [q] → rcvF s cv [q] = ((x, y), s') →
      Calls Tryz.prog 17 #[.pointer (some ⟨p, 0, none⟩), .agg #[.int .i64 cv, .slice a 1 1]] W fun e w' => e = .returned (.tuple #[.int .i64 x, .int .i64 y]) ∧ ∃ T' G', DocI T' G' w' p s' ∧ Stp T G T' G' W w') := fun T G p s s' cv q x y W a hd hc hq hp hr => by
    have := receive_any T G p s W hd cv (by rcases hc with rfl | rfl <;> decide) (by rcases hc with rfl | rfl <;> decide) a 1 [q] hp (by simp) (fun r h => by simp only [List.mem_singleton] at h; subst h; exact lp_fit r hq)
    rw [hr] at this
    exact this
  clear hE
  go_enter Tryz.func22, Tryz.ntmps22
  go_wp2_with fail
  refine CN.out.mono ?_
  rintro e w1 hw
  obtain ⟨p, rfl, hd1, b1⟩ : ∃ p, e = .returned (.tuple #[.pointer (some ⟨p, 0, none⟩), .int .i64 0]) ∧ DocI (newB w w1) (fun _ => False) w1 p lvS0 ∧ Below w.heap.size w w1 := by
    rcases hw with ⟨h, _⟩ | ⟨_, p, h1, h2, h3⟩
    · exact absurd rfl h
    · exact ⟨p, h1, h2, h3⟩
  have HL1 : Hid (LvO w w1 (newB w w1)) := ⟨b1, fun b hb => hb.1⟩
  have HD1 := Lib.hid hd1
  clear hw hd1 b1
  obtain ⟨W1, hW1⟩ : ∃ W, w1.alloc (.cells lp1.vals.toArray 78) = W := ⟨_, rfl⟩
  have k1 : Below w1.heap.size w1 W1 := by rw [← hW1]; exact (Below.refl _ _).alloc (Nat.le_refl _) _
  have C1 := HCR.out _ _ p lvS0 lvS1 5 lp1 0 0 W1 (some ⟨w1.heap.size, 0, none⟩) (HD1.out.below k1) (.inl rfl) (.inl rfl) (by rw [← hW1]; exact ps_one w1 lp1) lv_r1
  have HC1 := Lib.hid C1; have HK1 := Lib.hid k1; have HW1 : Hid (w1.alloc (.cells #[.int .i64 0, .int .i64 3, .int .i64 0, .int .i64 3, .string ⟨#[121]⟩] 78) = W1) := hW1
  clear C1 k1 hW1
  go_wp2_with fail
  rw [HW1.out]
  refine HC1.out.mono ?_
  rintro e w2 ⟨rfl, T2, G2, hd2, hs2⟩
  have HL2 : Hid (LvO w w2 T2) := (HL1.out.below HK1.out).step hs2
  have HD2 := Lib.hid hd2
  clear hd2 hs2 HC1 HW1 HK1
  obtain ⟨q, hq⟩ : ∃ q, w2.heap.size = q := ⟨_, rfl⟩
  obtain ⟨W2, hW2⟩ : ∃ W, w2.alloc (.cells lp2.vals.toArray 78) = W := ⟨_, rfl⟩
  obtain ⟨W3, hW3⟩ : ∃ W, W2.alloc (.cells #[.int .i64 4, .slice (some ⟨q, 0, none⟩) 1 1] 47) = W := ⟨_, rfl⟩
  have z2 : W2.heap.size = q + 1 := by rw [← hW2, ← hq]; simp
  have k2 : Below w2.heap.size w2 W2 := by rw [← hW2]; exact (Below.refl _ _).alloc (Nat.le_refl _) _
  have k3 : Below W2.heap.size W2 W3 := by rw [← hW3]; exact (Below.refl _ _).alloc (Nat.le_refl _) _
  have kc : Blk W3 (q + 1) 47 #[.int .i64 4, .slice (some ⟨q, 0, none⟩) 1 1] := by rw [← hW3, ← z2]; exact Blk.new _ _ _
  have hp2 : PS W2.heap.size W2 (some ⟨q, 0, none⟩) 1 [lp2] := by rw [← hW2, ← hq]; exact ps_one w2 lp2
  have k23 : Below w2.heap.size w2 W3 := k2.trans (k3.mono k2.size)
  have hp3 := hp2.on k3
  have C2 := HCR.out _ _ p lvS1 lvS3 4 lp2 2 0 W3 (some ⟨q, 0, none⟩) (HD2.out.below k23) (.inr rfl) (.inr rfl) hp3 lv_r2
  have u0 := kc.cell 0
  have u1 := kc.cell 1
  simp only [List.getElem?_toArray, List.getElem?_cons_zero, List.getElem?_cons_succ] at u0 u1
  have HC2 := Lib.hid C2; have HK23 := Lib.hid k23; have HKC := Lib.hid kc; have HP3 := Lib.hid hp3
  have HW3 : Hid ((w2.alloc (.cells #[.int .i64 0, .int .i64 1, .int .i64 0, .int .i64 1, .string ⟨#[120]⟩] 78)).alloc (.cells #[.int .i64 4, .slice (some ⟨q, 0, none⟩) 1 1] 47) = W3) := by rw [← hW3, ← hW2]; rfl
  have HTQ : Hid (∀ b, T2 b → b < q) := fun b hb => by rw [← hq]; exact HD2.out.lt b hb
  have hzq : q + 2 = W3.heap.size := by rw [← hW3]; simp [z2]
  have HZQ := Lib.hid hzq
  clear C2 k23 kc hp3 hp2 k3 k2 z2 hW3 hW2 hzq
  go_wp2_with fail
  rw [HW3.out]
  refine HC2.out.mono ?_
  rintro e w4 ⟨rfl, T4, G4, hd4, hs4⟩
  have hzz := hs4.only.size
  have hbk : ∀ b, q ≤ b → b < W3.heap.size → w4.heap[b]? = W3.heap[b]? := fun b h1 h2 => hs4.only.block b h2 (fun hT => by have := HTQ.out b hT; omega)
  have hz9 := HZQ.out
  have v0 : w4.cell? ⟨q + 1, 0, none⟩ = some (.int .i64 4) := by rw [← u0]; simp only [World.cell?, hbk (q + 1) (by omega) (by omega)]
  have v1 : w4.cell? ⟨q + 1, 1, none⟩ = some (.slice (some ⟨q, 0, none⟩) 1 1) := by rw [← u1]; simp only [World.cell?, hbk (q + 1) (by omega) (by omega)]
  have hp4 : PS w4.heap.size w4 (some ⟨q, 0, none⟩) 1 [lp2] := by
    have h1 := (PsG.of (G := fun b => b = q) HP3.out (fun _ b hb => by obtain ⟨_, hb⟩ := hb; cases hb; rfl)).keep (G' := fun b => b = q) hzz (fun b hb hlt => by subst hb; exact hbk b (Nat.le_refl _) hlt) (fun _ h => h)
    obtain ⟨a', c', e1, e2⟩ := h1.ps
    simp only [Value.slice.injEq, true_and] at e1
    obtain ⟨rfl, rfl⟩ := e1
    exact e2
  have C3 := HCR.out _ _ p lvS3 lvS3 4 lp2 0 8 w4 (some ⟨q, 0, none⟩) hd4 (.inr rfl) (.inr rfl) hp4 lv_r3
  have HC3 := Lib.hid C3
  have HL4 : Hid (LvO w w4 T4) := (HL2.out.below HK23.out).step hs4
  clear C3 hp4 hbk hzz hz9 hs4 hd4 u0 u1 HC2 HW3
  go_wp2_with fail
  refine HC3.out.mono ?_
  rintro e w5 ⟨rfl, T5, G5, hd5, hs5⟩
  have HL5 : Hid (LvO w w5 T5) := HL4.out.step hs5
  have HD5 := Lib.hid hd5
  have C4 := Lib.hid (since_any T5 G5 p lvS3 w5 hd5 3 (by decide) (by decide) (by decide +kernel) 0 (by decide +kernel) (by decide) [le1, le3] lv_snc)
  clear hd5 hs5 HC3 v0 v1
  go_wp2_with fail
  refine C4.out.mono ?_
  rintro e w6 ⟨a6, c6, rfl, hE6, b6⟩
  have HE6 := Lib.hid hE6; have B56 := Lib.hid b6
  have C5 := Lib.hid (text_any T5 G5 p lvS3 w6 (HD5.out.below b6))
  have htx : lvS3.text = ⟨#[97, 120, 98, 121]⟩ := by kernel_rfl
  rw [htx] at C5
  have HL6 : Hid (LvO w w6 T5) := HL5.out.below b6
  clear hE6 b6 htx
  go_wp2_with fail
  refine C5.out.mono ?_
  rintro e w7 ⟨rfl, b7⟩
  have B67 := Lib.hid b7
  have HL7 : Hid (LvO w w7 T5) := HL6.out.below b7
  clear b7
  obtain ⟨W8, hW8⟩ : ∃ W, w7.alloc (.cells (rv [le1, le3]).toArray 84) = W := ⟨_, rfl⟩
  have k8 : Below w7.heap.size w7 W8 := by rw [← hW8]; exact (Below.refl _ _).alloc (Nat.le_refl _) _
  have C6 := Lib.hid (same_any a6 (some ⟨w7.heap.size, 0, none⟩) c6 2 [le1, le3] W8 (by decide) ((HE6.out.on B67.out).on k8) (by rw [← hW8]; exact es_two w7 le1 le3))
  have HL8 : Hid (LvO w W8 T5) := HL7.out.below k8
  have HW8 : Hid (w7.alloc (.cells #[.int .i64 1, .int .i64 1, .string ⟨#[120]⟩, .int .i64 2, .int .i64 2, .string ⟨#[121]⟩] 84) = W8) := hW8
  clear k8 hW8
  go_wp2_with fail
  rw [HW8.out]
  refine C6.out.mono ?_
  rintro e w9 ⟨rfl, b9⟩
  have HL9 : Hid (LvO w w9 T5) := HL8.out.below b9
  clear b9
  go_wp2_with fail
  go_ret
  exact ⟨rfl, HL9.out.b⟩

end Go.Proofs.YtkehgoailhpenaaGreat

/- The contract of Edit. It has no condition on how many states are remembered. -/
namespace Go.Proofs.YtkehgoailhpenaaGreat
open Go.RowKit Go.Shelf Go.Maps
set_option linter.unusedVariables false

/-- The error of an edit of the server. -/
def edtE (s : DS) (es : List Er) : Int := if 0 < s.hs.length then 23 else if s.v = 1099511627776 then 5 else advE s es

set_option maxRecDepth 100000 in
set_option maxHeartbeats 4000000 in
theorem edit_any (T G : Nat → Prop) (p : Nat) (s : DS) (w : World) (h : DocI T G w p s) (a : Option Addr) (cap : Nat) (es : List Er) (hE : ES w.heap.size w a cap es) (hn : es.length ≤ 1000) (hf : ∀ e ∈ es, e.Fit) :
    Calls Tryz.prog 14 #[.pointer (some ⟨p, 0, none⟩), .slice a es.length cap] w fun e w' =>
      (edtE s es ≠ 0 ∧ e = .returned (.tuple #[.int .i64 0, .int .i64 (edtE s es)]) ∧ Below w.heap.size w w') ∨
      (edtE s es = 0 ∧ e = .returned (.tuple #[.int .i64 (s.v + 1), .int .i64 0]) ∧ ∃ T' G', DocI T' G' w' p (advS s es) ∧ Stp T G T' G' w w') := by
  have hv0 := h.ok.v0
  have hv1 := h.ok.v1
  obtain ⟨g, cp, m, n', D, _, _, c0, _, c2, hm, hh, hTm, hpW⟩ := h.full
  have hlen := hm.len Tryz.underlying70 3
  rw [hh.size] at hlen
  obtain ⟨R, hR⟩ : ∃ r, edtE s es = r := ⟨_, rfl⟩
  have hRE : R = if 0 < s.hs.length then 23 else if s.v = 1099511627776 then 5 else advE s es := by rw [← hR]; rfl
  rw [hR]
  have HAD : Hid (s.v + 1 ≤ 1099511627776 → ∀ W, Below w.heap.size w W → ∀ a' c', ES W.heap.size W a' c' es → (∀ b, blkOf a' b → ¬ T b) → _) := Lib.hid (fun hv W hW a' c' hEs hT => advance_any T G p s W (h.below hW) hv a' c' es hEs hn hf hT)
  have HCL := Lib.hid (clonee_any a cap es w (by omega) hE)
  have HTL : Hid (∀ b, T b → b < w.heap.size) := h.lt
  obtain ⟨n, hn'⟩ : ∃ n, es.length = n := ⟨_, rfl⟩
  rw [hn'] at HAD HCL ⊢
  obtain ⟨H, hH⟩ : ∃ n, s.hs.length = n := ⟨_, rfl⟩
  rw [hH] at hlen hRE
  obtain ⟨S2, hS2⟩ : ∃ q, advS s es = q := ⟨_, rfl⟩
  obtain ⟨A, hA⟩ : ∃ q, advE s es = q := ⟨_, rfl⟩
  have hS2v : S2.v = s.v + 1 := by rw [← hS2]; rfl
  rw [hS2, hA] at HAD
  rw [hA] at hRE
  rw [hS2]
  obtain ⟨v, hv⟩ : ∃ v, s.v = v := ⟨_, rfl⟩
  rw [hv] at hv0 hv1 c0 hRE hS2v HAD ⊢
  have HRE := Lib.hid hRE; have HSV := Lib.hid hS2v
  clear h hm hh hE hf hR hRE hn' hH hS2 hA hv hS2v
  by_cases h1 : 0 < H
  · have h2 : (0 : Int) < (H : Int) := by omega
    have hr := HRE.out
    rw [if_pos h1] at hr
    subst hr
    go_enter Tryz.func14, Tryz.ntmps14
    go_wp2_with fail
    go_ret2
    first | exact .inl ⟨by decide, rfl, Below.refl _ _⟩ | exact ⟨rfl, Below.refl _ _⟩
  obtain rfl : H = 0 := by omega
  by_cases h3 : v = 1099511627776
  · have hr := HRE.out
    rw [if_neg (by omega), if_pos h3] at hr
    subst hr
    subst h3
    go_enter Tryz.func14, Tryz.ntmps14
    go_wp2_with fail
    go_ret2
    first | exact .inl ⟨by decide, rfl, Below.refl _ _⟩ | exact ⟨rfl, Below.refl _ _⟩
  have hr := HRE.out
  rw [if_neg (by omega), if_neg h3] at hr
  subst hr
  have hvb : (v == 1099511627776) = false := by simp [h3]
  have HA := HAD.out (by omega)
  have HAD2 := Lib.hid HA
  clear HA HAD h3
  go_enter Tryz.func14, Tryz.ntmps14
  go_wp2_with fail
  refine HCL.out.mono ?_
  rintro e w1 ⟨a1, c1, rfl, hE1, hf1, b1⟩
  have B1 := Lib.hid b1; have HF1 := Lib.hid hf1
  have HC := Lib.hid (HAD2.out w1 b1 a1 c1 hE1 (fun b hb hT => by have := hf1 b hb; have := HTL.out b hT; omega))
  clear b1 hf1 hE1
  go_wp2_with fail
  refine HC.out.mono ?_
  rintro e w2 ⟨rfl, hw⟩
  have HW := Lib.hid hw
  clear hw
  by_cases h5 : R = 0
  · subst h5
    have hX : ∃ T' G', DocI T' G' w2 p S2 ∧ Stp T G T' G' w w2 := by
      rcases HW.out with ⟨q, _⟩ | ⟨_, q2, q3⟩
      · exact absurd rfl q
      · have hz := B1.out.size
        refine ⟨_, _, q2, (Only.of_below B1.out).trans q3, fun b hb => hb.imp id (fun h => by omega), fun b hb => hb.imp id (fun h => HF1.out b h.2)⟩
    obtain ⟨T2, G2, hd2, hs2⟩ := hX
    obtain ⟨g2, cp2, m2, n2, D2, _, _, d0, _⟩ := hd2.full
    rw [HSV.out] at d0
    have HD2 := Lib.hid hd2; have HS2 := Lib.hid hs2
    clear hd2 hs2
    go_wp2_with fail
    go_ret2
    first | exact .inr ⟨trivial, rfl, T2, G2, HD2.out, HS2.out⟩ | exact ⟨rfl, T2, G2, HD2.out, HS2.out⟩ | exact .inr ⟨rfl, rfl, T2, G2, HD2.out, HS2.out⟩
  · have hq : (R != 0) = true := by simp [h5]
    have H5 := Lib.hid h5
    have hX : Below w.heap.size w w2 := by
      rcases HW.out with ⟨_, q2⟩ | ⟨q, _⟩
      · exact B1.out.trans (q2.mono B1.out.size)
      · exact absurd q h5
    have HX := Lib.hid hX
    clear hX h5
    go_wp2_with fail
    go_ret2
    exact .inl ⟨H5.out, rfl, HX.out⟩

end Go.Proofs.YtkehgoailhpenaaGreat

/- The walk of DocumentRemembers. It has no conditions. -/
namespace Go.Proofs.YtkehgoailhpenaaGreat
open Go.RowKit Go.Shelf Go.Maps
set_option linter.unusedVariables false

theorem ch_at {B : Nat} {W : World} {vs : List (Int × Value)} {cs : List (List PE)} {i : Nat} (hV : Held1 (fun b => b < B) W vs cs) (hi : i < cs.length) {ap : Option Addr} {np cp : Nat} (he : (cG vs i).2 = .slice ap np cp) : np = cs[i].length ∧ PS W.heap.size W ap cp cs[i] ∧ (cs[i].length ≠ 0 → ∀ b, blkOf ap b → b < B) := by
  obtain ⟨_, a, cap, h1, h2, h3, h5⟩ := hV.2 i hi
  rw [List.getElem?_eq_getElem hi] at h1 h2 h5
  simp only [Option.getD_some] at h1 h2 h5
  rw [he] at h1
  simp only [Value.slice.injEq] at h1
  obtain ⟨rfl, rfl, rfl⟩ := h1
  refine ⟨rfl, ⟨h2, h3, ?_⟩, fun h0 b hb => ?_⟩
  · rcases h5 with h5 | ⟨b, off, k1, k2, k3, k4⟩
    · exact .inl h5
    · exact .inr ⟨b, off, k1, k3, k4⟩
  · obtain ⟨b', off, k1, k2, k3, k4⟩ := h5.resolve_left h0
    obtain ⟨off', k5⟩ := hb
    rw [k1] at k5
    cases k5
    exact k2
theorem rem_rcv1 {T G : Nat → Prop} {p B : Nat} {s : DS} {W : World} {S : ByteArray} {vs : List (Int × Value)} {cs : List (List PE)} {i : Nat} (hD : DocI T G W p s) (hF : Fits S cs) (hn : cs.length ≤ 16) (hV : Held1 (fun b => b < B) W vs cs) (hi : i < cs.length) {ap : Option Addr} {np cp : Nat} (he : (cG vs i).2 = .slice ap np cp) :
    Calls Tryz.prog 17 #[.pointer (some ⟨p, 0, none⟩), .agg #[.int .i64 ((i : Int) + 1), .slice ap np cp]] W fun e w' => (∃ n e', e = .returned (.tuple #[.int .i64 n, .int .i64 e'])) ∧ ∃ T' G', DocI T' G' w' p (rcvF s ((i : Int) + 1) cs[i]).2 ∧ Stp T G T' G' W w' := by
  obtain ⟨rfl, h2, h3⟩ := ch_at hV hi he
  obtain ⟨m1, m2⟩ := hF.mem hi
  exact (receive_any T G p s W hD ((i : Int) + 1) (by omega) (by omega) ap cp cs[i] h2 (by omega) m2).mono (fun e w' ⟨g1, g2⟩ => ⟨⟨_, _, g1⟩, g2⟩)
theorem rem_rcv2 {T G : Nat → Prop} {p B : Nat} {r : RS} {W : World} {S : ByteArray} {vs : List (Int × Value)} {cs : List (List PE)} {i : Nat} (hD : RDocI T G W p r) (hl : r.h.length ≤ 850) (hlow : ∀ b, b < B → G b) (hF : Fits S cs) (hn : cs.length ≤ 16) (hV : Held1 (fun b => b < B) W vs cs) (hi : i < cs.length) {ap : Option Addr} {np cp : Nat} (he : (cG vs i).2 = .slice ap np cp) :
    Calls Tryz.prog 18 #[.pointer (some ⟨p, 0, none⟩), .agg #[.int .i64 ((i : Int) + 1), .slice ap np cp]] W fun e w' => (∃ n e', e = .returned (.tuple #[.int .i64 n, .int .i64 e'])) ∧ ∃ T' G', RDocI T' G' w' p (rrcvF r ((i : Int) + 1) cs[i]).2 ∧ Stp T G T' G' W w' := by
  obtain ⟨rfl, h2, h3⟩ := ch_at hV hi he
  obtain ⟨m1, m2⟩ := hF.mem hi
  exact (rreceive_any T G p r W hD hl ((i : Int) + 1) (by omega) (by omega) ap cp cs[i] h2 (by omega) m2 (fun h0 b hb => hlow b (h3 h0 b hb))).mono (fun e w' ⟨g1, g2⟩ => ⟨⟨_, _, g1⟩, g2⟩)

/-- Both documents, in memory and in step. -/
structure Dos (B : Nat) (W : World) (pd pr : Nat) (T G T2 G2 : Nat → Prop) (s : DS) (r : RS) (m : Nat) : Prop where
  two : Two s r
  d : DocI T G W pd s
  rd : RDocI T2 G2 W pr r
  sep : Sep2 B W T G T2 G2
  len : r.h.length ≤ m
theorem Dos.below {B : Nat} {W W' : World} {pd pr : Nat} {T G T2 G2 : Nat → Prop} {s : DS} {r : RS} {m : Nat} (h : Dos B W pd pr T G T2 G2 s r m) (hb : Below W.heap.size W W') : Dos B W' pd pr T G T2 G2 s r m :=
  ⟨h.two, h.d.below hb, h.rd.below hb, h.sep.below hb.size, h.len⟩
theorem es_keep2 {w w' : World} {a : Option Addr} {cap : Nat} {es : List Er} (h : ES w.heap.size w a cap es) (hz : w.heap.size ≤ w'.heap.size) (hb : ∀ b, blkOf a b → b < w.heap.size → w'.heap[b]? = w.heap[b]?) : ES w'.heap.size w' a cap es := by
  refine ⟨h.le, h.mx, h.nil, ?_⟩
  rcases h.cells with h5 | ⟨b, off, k1, k3, k4⟩
  · exact .inl h5
  · refine .inr ⟨b, off, k1, by omega, fun k hk i hi => ?_⟩
    rw [← k4 k hk i hi]
    simp only [World.cell?, hb b ⟨off, k1⟩ k3]
/-- A new list of edits joins what the reference's document may keep. -/
theorem Dos.give {B : Nat} {W W' : World} {pd pr : Nat} {T G T2 G2 : Nat → Prop} {s : DS} {r : RS} {m : Nat} (h : Dos B W pd pr T G T2 G2 s r m) (hb : Below W.heap.size W W') {a : Option Addr} {cap : Nat} {es : List Er} (hE : ES W'.heap.size W' a cap es) (hnew : ∀ b, blkOf a b → W.heap.size ≤ b) : Dos B W' pd pr T G T2 (addG G2 es.length a) s r m := by
  have hz := hb.size
  have hlt : ∀ b, addG G2 es.length a b → b < W'.heap.size := fun b hb' => by
    rcases hb' with q | ⟨q1, q2⟩
    · have := h.rd.glt b q; omega
    · exact es_lt hE q1 q2
  refine ⟨h.two, h.d.below hb, (h.rd.below hb).monoG (fun b hb' => .inl hb') hlt (fun b hT hg => ?_), ⟨by have := h.sep.z; omega, h.sep.t, h.sep.t2, fun b hT => ⟨(h.sep.a b hT).1, fun hg => ?_⟩, h.sep.a2, fun b hb' => ?_, fun b hb' => .inl (h.sep.lo b hb')⟩, h.len⟩
  · rcases hg with q | ⟨_, q⟩
    · exact h.rd.apart b hT q
    · have := hnew b q; have := h.rd.lt b hT; omega
  · rcases hg with q | ⟨_, q⟩
    · exact (h.sep.a b hT).2 q
    · have := hnew b q; have := h.d.lt b hT; omega
  · rcases hb' with q | q | q | q
    · have := h.sep.lt b (.inl q); omega
    · have := h.sep.lt b (.inr (.inl q)); omega
    · have := h.sep.lt b (.inr (.inr (.inl q))); omega
    · exact hlt b q
theorem AtP.yes {w w' : World} {K : Prop} {t : ByteArray} {e : Ending} (h : AtP w K t e w') (hK : K) : e = .returned (.tuple #[.string t, .int .i64 0]) ∧ Below w.heap.size w w' := ⟨(h.2.resolve_left (fun q => q.1 hK)).2, h.1⟩
theorem AtP.no {w w' : World} {K : Prop} {t : ByteArray} {e : Ending} (h : AtP w K t e w') (hK : ¬ K) : e = .returned (.tuple #[.string ⟨#[]⟩, .int .i64 7]) ∧ Below w.heap.size w w' := ⟨(h.2.resolve_right (fun q => hK q.1)).2, h.1⟩
theorem SncP.yes {w w' : World} {K : Prop} {t u : ByteArray} {L : List (List Er)} {e : Ending} (h : SncP w K t u L e w') (hK : K) : ∃ R a cap, SncR t u [] L R ∧ e = .returned (.tuple #[.slice a R.length cap, .int .i64 0]) ∧ ES w'.heap.size w' a cap R ∧ Below w.heap.size w w' := by
  obtain ⟨R, a, cap, q1, q2, q3⟩ := (h.2.resolve_left (fun q => q.1 hK)).2
  exact ⟨R, a, cap, q1, q2, q3, h.1⟩
theorem SncP.no {w w' : World} {K : Prop} {t u : ByteArray} {L : List (List Er)} {e : Ending} (h : SncP w K t u L e w') (hK : ¬ K) : e = .returned (.tuple #[.slice none 0 0, .int .i64 7]) ∧ Below w.heap.size w w' := ⟨(h.2.resolve_right (fun q => hK q.1)).2, h.1⟩
/-- The state of the law's last loop. -/
structure RemR (w wr : World) (q : Value) : Prop where
  ex : ∃ (j : Nat), q = .int .i64 ((j : Int) - 2) ∧ j ≤ 28 ∧ Hid (Below w.heap.size w wr)
theorem redE_len {r : RS} {es : List Er} (h : redE r es = 0) : becE r es = 0 := by
  unfold redE at h
  split at h
  · omega
  · split at h
    · omega
    · exact h

end Go.Proofs.YtkehgoailhpenaaGreat

/- The library's contracts of slices.Sorted, maps.Keys and slices.Sort laid at this program: its own functions and types are those of the contracts. No conditions. -/
namespace Go.Proofs.YtkehgoailhpenaaGreat
open Go.RowKit Go.Shelf Go.Maps Go.Sort
def Hs.keysA_ren : Go.Shelf.Ren := ⟨fun | 7 => 51 | 10 => 69 | n => n, fun | 23 => 70 | 26 => 3 | 3 => 45 | 28 => 92 | 0 => 0 | 27 => 91 | 33 => 119 | 4 => 4 | n => n, fun | n => n⟩
theorem Hs.keysA : Go.Proofs.SlLaysZI.n7 Tryz.prog Hs.keysA_ren := {
  mixed := by kernel_rfl
  f7 := ⟨Tryz.f51.name, by decide, Tryz.func51.trans (congrArg some (by kernel_rfl))⟩
  f10 := ⟨Tryz.f69.name, by decide, Tryz.func69.trans (congrArg some (by kernel_rfl))⟩
  t0 := Tryz.underlying0
  a0 := Tryz.isAgg0
  z0 := Tryz.sizeOf0
  v0 := Tryz.zeroValue0
  t4 := Tryz.underlying4
  a4 := Tryz.isAgg4
  z4 := Tryz.sizeOf4
  v4 := Tryz.zeroValue4
  t23 := Tryz.underlying70
  a23 := Tryz.isAgg70
  z23 := Tryz.sizeOf70
  v23 := Tryz.zeroValue70
  t26 := Tryz.underlying3
  a26 := Tryz.isAgg3
  z26 := Tryz.sizeOf3
  v26 := Tryz.zeroValue3
  t27 := Tryz.underlying91
  a27 := Tryz.isAgg91
  z27 := Tryz.sizeOf91
  v27 := Tryz.zeroValue91
  t28 := Tryz.underlying92
  a28 := Tryz.isAgg92
  z28 := Tryz.sizeOf92
  v28 := Tryz.zeroValue92
  t33 := Tryz.underlying119
  a33 := Tryz.isAgg119
  z33 := Tryz.sizeOf119
  v33 := Tryz.zeroValue119 }
def Hs.sortedA_ren : Go.Shelf.Ren := ⟨fun | 6 => 50 | 8 => 67 | 9 => 68 | 11 => 84 | 13 => 86 | 12 => 85 | 23 => 105 | 24 => 106 | 14 => 96 | 15 => 97 | 16 => 98 | 17 => 99 | 18 => 100 | 19 => 101 | 20 => 102 | 21 => 103 | 22 => 104 | 25 => 113 | 26 => 114 | 27 => 115 | 28 => 116 | 29 => 117 | 30 => 118 | 31 => 121 | n => n, fun | 26 => 3 | 28 => 92 | 24 => 22 | 0 => 0 | 3 => 3 | 37 => 137 | 48 => 158 | 50 => 160 | 4 => 4 | 40 => 150 | 39 => 149 | 45 => 155 | 5 => 5 | 9 => 9 | 51 => 167 | 55 => 171 | 57 => 174 | 58 => 142 | 33 => 119 | n => n, fun | n => n⟩
theorem Hs.sortedA : Go.Proofs.SlLaysZI.n6 Tryz.prog Hs.sortedA_ren := {
  mixed := by kernel_rfl
  f6 := ⟨Tryz.f50.name, by decide, Tryz.func50.trans (congrArg some (by kernel_rfl))⟩
  f8 := ⟨Tryz.f67.name, by decide, Tryz.func67.trans (congrArg some (by kernel_rfl))⟩
  f11 := ⟨Tryz.f84.name, by decide, Tryz.func84.trans (congrArg some (by kernel_rfl))⟩
  t0 := Tryz.underlying0
  a0 := Tryz.isAgg0
  z0 := Tryz.sizeOf0
  v0 := Tryz.zeroValue0
  t24 := Tryz.underlying22
  a24 := Tryz.isAgg22
  z24 := Tryz.sizeOf22
  v24 := Tryz.zeroValue22
  t26 := Tryz.underlying3
  a26 := Tryz.isAgg3
  z26 := Tryz.sizeOf3
  v26 := Tryz.zeroValue3
  t28 := Tryz.underlying92
  a28 := Tryz.isAgg92
  z28 := Tryz.sizeOf92
  v28 := Tryz.zeroValue92
  i26 := by kernel_rfl }
def Hs.sortA_ren : Go.Shelf.Ren := ⟨fun | 5 => 68 | 8 => 86 | 7 => 85 | 19 => 105 | 20 => 106 | 10 => 96 | 11 => 97 | 12 => 98 | 13 => 99 | 14 => 100 | 15 => 101 | 16 => 102 | 17 => 103 | 18 => 104 | 30 => 113 | 31 => 114 | 32 => 115 | 33 => 116 | 34 => 117 | 35 => 118 | 40 => 121 | n => n, fun | 23 => 22 | 25 => 3 | 3 => 3 | 32 => 137 | 22 => 22 | 0 => 0 | 44 => 158 | 46 => 160 | 4 => 4 | 36 => 150 | 35 => 149 | 41 => 155 | 5 => 5 | 9 => 9 | 53 => 167 | 57 => 171 | 63 => 174 | 64 => 142 | n => n, fun | n => n⟩
theorem Hs.sortA : Go.Proofs.SlLaysM.n5 Tryz.prog Hs.sortA_ren := {
  mixed := by kernel_rfl
  f5 := ⟨Tryz.f68.name, by decide, Tryz.func68.trans (congrArg some (by kernel_rfl))⟩
  f7 := ⟨Tryz.f85.name, by decide, Tryz.func85.trans (congrArg some (by kernel_rfl))⟩
  f8 := Tryz.func86.trans (congrArg some (by kernel_rfl))
  f10 := ⟨Tryz.f96.name, by decide, Tryz.func96.trans (congrArg some (by kernel_rfl))⟩
  f11 := ⟨Tryz.f97.name, by decide, Tryz.func97.trans (congrArg some (by kernel_rfl))⟩
  f12 := ⟨Tryz.f98.name, by decide, Tryz.func98.trans (congrArg some (by kernel_rfl))⟩
  f13 := ⟨Tryz.f99.name, by decide, Tryz.func99.trans (congrArg some (by kernel_rfl))⟩
  f14 := ⟨Tryz.f100.name, by decide, Tryz.func100.trans (congrArg some (by kernel_rfl))⟩
  f15 := ⟨Tryz.f101.name, by decide, Tryz.func101.trans (congrArg some (by kernel_rfl))⟩
  f16 := ⟨Tryz.f102.name, by decide, Tryz.func102.trans (congrArg some (by kernel_rfl))⟩
  f17 := ⟨Tryz.f103.name, by decide, Tryz.func103.trans (congrArg some (by kernel_rfl))⟩
  f18 := ⟨Tryz.f104.name, by decide, Tryz.func104.trans (congrArg some (by kernel_rfl))⟩
  f19 := Tryz.func105.trans (congrArg some (by kernel_rfl))
  f20 := Tryz.func106.trans (congrArg some (by kernel_rfl))
  f30 := ⟨Tryz.f113.name, by decide, Tryz.func113.trans (congrArg some (by kernel_rfl))⟩
  f31 := Tryz.func114.trans (congrArg some (by kernel_rfl))
  f32 := Tryz.func115.trans (congrArg some (by kernel_rfl))
  f33 := ⟨Tryz.f116.name, by decide, Tryz.func116.trans (congrArg some (by kernel_rfl))⟩
  f34 := ⟨Tryz.f117.name, by decide, Tryz.func117.trans (congrArg some (by kernel_rfl))⟩
  f35 := ⟨Tryz.f118.name, by decide, Tryz.func118.trans (congrArg some (by kernel_rfl))⟩
  f40 := ⟨Tryz.f121.name, by decide, Tryz.func121.trans (congrArg some (by kernel_rfl))⟩
  t0 := Tryz.underlying0
  a0 := Tryz.isAgg0
  z0 := Tryz.sizeOf0
  v0 := Tryz.zeroValue0
  t3 := Tryz.underlying3
  a3 := Tryz.isAgg3
  z3 := Tryz.sizeOf3
  v3 := Tryz.zeroValue3
  t4 := Tryz.underlying4
  a4 := Tryz.isAgg4
  z4 := Tryz.sizeOf4
  v4 := Tryz.zeroValue4
  t5 := Tryz.underlying5
  a5 := Tryz.isAgg5
  z5 := Tryz.sizeOf5
  v5 := Tryz.zeroValue5
  t9 := Tryz.underlying9
  a9 := Tryz.isAgg9
  z9 := Tryz.sizeOf9
  v9 := Tryz.zeroValue9
  t22 := Tryz.underlying22
  a22 := Tryz.isAgg22
  z22 := Tryz.sizeOf22
  v22 := Tryz.zeroValue22
  t23 := Tryz.underlying22
  a23 := Tryz.isAgg22
  z23 := Tryz.sizeOf22
  v23 := Tryz.zeroValue22
  t25 := Tryz.underlying3
  a25 := Tryz.isAgg3
  z25 := Tryz.sizeOf3
  v25 := Tryz.zeroValue3
  t32 := Tryz.underlying137
  a32 := Tryz.isAgg137
  z32 := Tryz.sizeOf137
  v32 := Tryz.zeroValue137
  t35 := Tryz.underlying149
  a35 := Tryz.isAgg149
  z35 := Tryz.sizeOf149
  v35 := Tryz.zeroValue149
  t36 := Tryz.underlying150
  a36 := Tryz.isAgg150
  z36 := Tryz.sizeOf150
  v36 := Tryz.zeroValue150
  t41 := Tryz.underlying155
  a41 := Tryz.isAgg155
  z41 := Tryz.sizeOf155
  v41 := Tryz.zeroValue155
  t44 := Tryz.underlying158
  a44 := Tryz.isAgg158
  z44 := Tryz.sizeOf158
  v44 := Tryz.zeroValue158
  t46 := Tryz.underlying160
  a46 := Tryz.isAgg160
  z46 := Tryz.sizeOf160
  v46 := Tryz.zeroValue160
  t53 := Tryz.underlying167
  a53 := Tryz.isAgg167
  z53 := Tryz.sizeOf167
  v53 := Tryz.zeroValue167
  t57 := Tryz.underlying171
  a57 := Tryz.isAgg171
  z57 := Tryz.sizeOf171
  v57 := Tryz.zeroValue171
  t63 := Tryz.underlying174
  a63 := Tryz.isAgg174
  z63 := Tryz.sizeOf174
  v63 := Tryz.zeroValue174
  t64 := Tryz.underlying142
  a64 := Tryz.isAgg142
  z64 := Tryz.sizeOf142
  v64 := Tryz.zeroValue142 }
end Go.Proofs.YtkehgoailhpenaaGreat

/- The contract of Held. It has no conditions. -/
namespace Go.Proofs.YtkehgoailhpenaaGreat
open Go.RowKit Go.Shelf Go.Maps Go.Sort
set_option linter.unusedVariables false


/-- slices.Sort's two contracts at this dump, at the fence that asks nothing. -/
theorem Hs.sortsA (m : Nat) : AnyZI.SortsIn Tryz.prog Hs.sortedA_ren Fence.wide m :=
  ⟨fun blk off cap ss W hH hblk hsz => callsIn_wide.2 (AnyM.slices_Sort_int Hs.sortA blk off cap ss W hH hblk hsz),
   fun p cap W => callsIn_wide.2 (AnyM.slices_Sort_int_none Hs.sortA p cap W)⟩

set_option maxHeartbeats 4000000 in
theorem held_any (T G : Nat → Prop) (p : Nat) (s : DS) (w : World) (h : DocI T G w p s) :
    Calls Tryz.prog 21 #[.pointer (some ⟨p, 0, none⟩)] w fun e w' => ∃ (v : Value) (ss : List Int) (D : DataW Value), e = .returned v ∧ HeldOk G w D s.hs ∧ (∃ m, w.ownsMap Tryz.prog 3 RH m (Maps.size D) D) ∧ ss.Perm (intKeys D) ∧
      w'.ownsRow w.heap.size 3 1 v ss.length ((ss.mergeSort (fun x y => decide (x ≤ y))).map encZ) ∧ (v = .slice none 0 0 ↔ ss = []) ∧ Below w.heap.size w w' := by
  obtain ⟨g, cp, b, n', D0, _, _, _, _, c2, hown, hh, hTm, hpW⟩ := h.full
  have hl16 := h.ok.hlen
  have hsz := hh.size
  have hmax : Maps.size D0 ≤ maxLen := by unfold maxLen; omega
  have hbytes : Maps.size D0 * 8 ≤ 140737488355328 := by omega
  have HO := Lib.hid hown; have HH := Lib.hid hh
  refine (callsIn_wide (n := 6)).1 ?_
  have hbl := hown.lt
  have hseq : SeqGives Fence.wide 2 Tryz.prog 69 #[.pointer (some ⟨w.heap.size, 0, none⟩)] encZ (fun ss => ss.Perm (intKeys D0)) (Maps.size D0) (w.alloc (.cells #[.map (some b)] 70)) :=
    AnyZI.keys_gives (ρ := Hs.keysA_ren) { Hs.keysA with } Fence.wide _ trivial rfl (by omega) w.heap.size b (Maps.size D0) D0 _ (by simp) (by simp) (by
      obtain ⟨es, clock, hb, Ft, hs, hD⟩ := hown
      exact ⟨es, clock, (Below.heap_alloc _ _ b hbl).trans hb, Ft, hs, hD⟩)
  have cK : ∀ mb W, CallsIn Fence.wide 5 Tryz.prog 51 #[.map mb] W fun e w' => e = .returned (.func (.func 69) #[] #[.pointer (some ⟨W.heap.size, 0, none⟩)]) ∧ w' = W.alloc (.cells #[.map mb] 70) := fun mb W => AnyZI.keys_in Hs.keysA Fence.wide 5 trivial rfl mb W
  have cS := AnyZI.sorted_in Hs.sortedA Fence.wide 5 trivial trivial trivial trivial rfl (by omega) (Hs.sortsA _) (enters_of Tryz.func68 (by kernel_rfl) rfl) 69 #[.pointer (some ⟨w.heap.size, 0, none⟩)] trivial (enters_of Tryz.func69 (by kernel_rfl) rfl) _ _ hmax hbytes _ hseq
  change CallsIn _ _ Tryz.prog 50 _ _ _ at cS
  have hfK : Fence.wide.fn 51 := trivial
  have hfS : Fence.wide.fn 50 := trivial
  refine callsIn_of_wp Tryz.func21 rfl trivial ?_ rfl
  simp only [Tryz.ntmps21, List.size_toArray, List.length_cons, List.length_nil, Nat.reduceAdd, Nat.reduceSub, Array.replicate_succ, Array.replicate_zero, List.push_toArray, List.append_toArray, List.nil_append, List.cons_append]
  gi_wp2_with (first
    | (gi_at_call 51; refine (cK _ _).mono ?_; rintro e w' ⟨rfl, rfl⟩)
    | (gi_at_call 50; refine cS.mono ?_; rintro e w' ⟨v, ss, rfl, hS, hrow, hnil, hb⟩))
  go_ret
  exact ⟨v, ss, D0, rfl, HH.out, ⟨b, HO.out⟩, hS, ownsRow_base_a hrow (by simp), hnil, ((Below.refl _ w).alloc (Nat.le_refl _) _).trans (hb.mono (by simp))⟩

end Go.Proofs.YtkehgoailhpenaaGreat

/- What Held answers, in the words of the document's state. It has no conditions. -/
namespace Go.Proofs.YtkehgoailhpenaaGreat
open Go.RowKit Go.Shelf Go.Maps Go.Sort
set_option linter.unusedVariables false

/-- The versions of the held changes, ascending. -/
def heldL (s : DS) : List Int := (s.hs.map Prod.fst).mergeSort leI
theorem heldL_len (s : DS) : (heldL s).length = s.hs.length := by unfold heldL; rw [List.length_mergeSort, List.length_map]
theorem held_perm {G : Nat → Prop} {w : World} {D : DataW Value} {hs : List (Int × List PE)} {m : Nat} (hh : HeldOk G w D hs) (hm : w.ownsMap Tryz.prog 3 RH m (Maps.size D) D) : (hs.map Prod.fst).Perm (intKeys D) := by
  have h : CollectedI D (fun _ => false) (hs.map Prod.fst) := ⟨hh.nodup, fun x => by have := hh.keys x; unfold kI at this; rw [this]; simp⟩
  exact h.perm hm keyInt Tryz.underlying3 (fun _ => rfl)
theorem held_all (T G : Nat → Prop) (p : Nat) (s : DS) (w : World) (h : DocI T G w p s) :
    Calls Tryz.prog 21 #[.pointer (some ⟨p, 0, none⟩)] w fun e w' => ∃ (a : Option Addr) (cap : Nat), e = .returned (.slice a s.hs.length cap) ∧
      w'.ownsRow w.heap.size 3 1 (.slice a s.hs.length cap) s.hs.length ((heldL s).map encZ) ∧ Below w.heap.size w w' := by
  refine (held_any T G p s w h).mono ?_
  rintro e w' ⟨v, ss, D, rfl, hh, ⟨m, hm⟩, hp, hrow, _, hb⟩
  have h1 := held_perm hh hm
  have h2 : ss.Perm (s.hs.map Prod.fst) := hp.trans h1.symm
  have h3 : ss.mergeSort leI = heldL s := by
    refine List.Perm.eq_of_pairwise (le := fun a b => leI a b = true) ?_ ?_ ?_ ((List.mergeSort_perm ss leI).trans (h2.trans (List.mergeSort_perm (s.hs.map Prod.fst) leI).symm))
    · intro a b _ _ h1 h2
      simp only [leI, decide_eq_true_eq] at h1 h2
      omega
    · exact List.pairwise_mergeSort (fun a b c h1 h2 => by simp only [leI, decide_eq_true_eq] at *; omega) (fun a b => by simp only [leI, Bool.or_eq_true, decide_eq_true_eq]; omega) ss
    · exact List.pairwise_mergeSort (fun a b c h1 h2 => by simp only [leI, decide_eq_true_eq] at *; omega) (fun a b => by simp only [leI, Bool.or_eq_true, decide_eq_true_eq]; omega) _
  have h4 : ss.length = s.hs.length := by rw [h2.length_eq, List.length_map]
  rw [show (fun x y : Int => decide (x ≤ y)) = leI from rfl, h3, h4] at hrow
  obtain ⟨a, c, rfl⟩ := own_slice hrow
  exact ⟨a, c, rfl, hrow, hb⟩

end Go.Proofs.YtkehgoailhpenaaGreat

/- The contract of the reference's Versions. It has no conditions. -/
namespace Go.Proofs.YtkehgoailhpenaaGreat
open Go.RowKit Go.Shelf Go.Maps Go.Sort
set_option linter.unusedVariables false

/-- How many elements from the beginning are smaller. -/
def ltc (xs : List Int) (x : Int) : Nat := (xs.takeWhile (fun y => decide (y < x))).length
def insV (xs : List Int) (x : Int) : List Int := xs.take (ltc xs x) ++ [x] ++ xs.drop (ltc xs x)
def versV (l : List Int) : List Int := l.foldl insV []
theorem take_ltc (xs : List Int) (x : Int) : xs.take (ltc xs x) = xs.takeWhile (fun y => decide (y < x)) := by
  induction xs with
  | nil => rfl
  | cons y l ih =>
    unfold ltc at ih ⊢
    rw [List.takeWhile_cons]
    split
    · rw [List.length_cons, List.take_succ_cons, ih]
    · rfl
theorem drop_ltc (xs : List Int) (x : Int) : xs.drop (ltc xs x) = xs.dropWhile (fun y => decide (y < x)) := by
  induction xs with
  | nil => rfl
  | cons y l ih =>
    unfold ltc at ih ⊢
    rw [List.takeWhile_cons, List.dropWhile_cons]
    split
    · rw [List.length_cons, List.drop_succ_cons, ih]
    · rfl
theorem ltc_le (xs : List Int) (x : Int) : ltc xs x ≤ xs.length := by
  have := congrArg List.length (take_ltc xs x)
  rw [List.length_take] at this
  unfold ltc at this ⊢
  omega
theorem insV_len (xs : List Int) (x : Int) : (insV xs x).length = xs.length + 1 := by
  have := ltc_le xs x
  unfold insV
  simp
  omega
theorem insV_perm (xs : List Int) (x : Int) : (insV xs x).Perm (x :: xs) := by
  unfold insV
  have h : (xs.take (ltc xs x) ++ x :: xs.drop (ltc xs x)).Perm (x :: (xs.take (ltc xs x) ++ xs.drop (ltc xs x))) := List.perm_middle
  rw [List.take_append_drop] at h
  simpa using h
theorem insV_sorted {xs : List Int} (h : xs.Pairwise (· ≤ ·)) (x : Int) : (insV xs x).Pairwise (· ≤ ·) := by
  have hm : ∀ y ∈ xs.dropWhile (fun y => decide (y < x)), x ≤ y := by
    induction xs with
    | nil => simp
    | cons y l ih =>
      rw [List.pairwise_cons] at h
      intro z hz
      rw [List.dropWhile_cons] at hz
      split at hz
      · exact ih h.2 z hz
      · rename_i hy
        have hxy : x ≤ y := by simpa using hy
        rcases List.mem_cons.1 hz with rfl | hz
        · exact hxy
        · have := h.1 z hz; omega
  have hl : ∀ y ∈ xs.takeWhile (fun y => decide (y < x)), y < x := by
    clear h hm
    induction xs with
    | nil => simp
    | cons z l ih =>
      intro y hy
      rw [List.takeWhile_cons] at hy
      split at hy
      · rename_i hz
        rcases List.mem_cons.1 hy with rfl | hy
        · simpa using hz
        · exact ih y hy
      · simp at hy
  have hsp : (xs.takeWhile (fun y => decide (y < x)) ++ xs.dropWhile (fun y => decide (y < x))).Pairwise (· ≤ ·) := by rw [List.takeWhile_append_dropWhile]; exact h
  rw [List.pairwise_append] at hsp
  obtain ⟨h1, h2, h3⟩ := hsp
  unfold insV
  rw [take_ltc, drop_ltc, List.append_assoc, List.pairwise_append]
  refine ⟨h1, ?_, fun a ha b hb => ?_⟩
  · rw [List.singleton_append, List.pairwise_cons]
    exact ⟨hm, h2⟩
  · rcases List.mem_append.1 hb with hb | hb
    · simp at hb; subst hb; have := hl a ha; omega
    · exact h3 a ha b hb
theorem versV_ok : ∀ (l acc : List Int), acc.Pairwise (· ≤ ·) → (l.foldl insV acc).Perm (acc ++ l) ∧ (l.foldl insV acc).Pairwise (· ≤ ·)
  | [], acc, h => ⟨by simp, h⟩
  | x :: l, acc, h => by
    obtain ⟨q1, q2⟩ := versV_ok l (insV acc x) (insV_sorted h x)
    refine ⟨q1.trans ?_, q2⟩
    refine ((insV_perm acc x).append_right l).trans ?_
    show (x :: (acc ++ l)).Perm (acc ++ x :: l)
    exact List.perm_middle.symm
theorem versV_held (s : DS) : versV (s.hs.map Prod.fst) = heldL s := by
  obtain ⟨q1, q2⟩ := versV_ok (s.hs.map Prod.fst) [] List.Pairwise.nil
  refine List.Perm.eq_of_pairwise (le := fun a b => leI a b = true) ?_ ?_ ?_ (q1.trans (by rw [List.nil_append]; exact (List.mergeSort_perm (s.hs.map Prod.fst) leI).symm))
  · intro a b _ _ h1 h2
    simp only [leI, decide_eq_true_eq] at h1 h2
    omega
  · exact q2.imp (fun h => by simpa [leI] using h)
  · exact List.pairwise_mergeSort (fun a b c h1 h2 => by simp only [leI, decide_eq_true_eq] at *; omega) (fun a b => by simp only [leI, Bool.or_eq_true, decide_eq_true_eq]; omega) _
theorem versV_snoc (l : List Int) (x : Int) : versV (l ++ [x]) = insV (versV l) x := by unfold versV; rw [List.foldl_append]; rfl
theorem ltc_eq : ∀ (xs : List Int) (x : Int) (k : Nat), (∀ j, j < k → (xs[j]?.getD x) < x) → k ≤ xs.length → (k = xs.length ∨ ¬ (xs[k]?.getD x) < x) → ltc xs x = k
  | [], x, k, _, h2, _ => by
    have : k = 0 := by simpa using h2
    subst this; rfl
  | y :: l, x, 0, _, _, h3 => by
    have hy : ¬ y < x := by
      rcases h3 with h3 | h3
      · simp at h3
      · simpa using h3
    unfold ltc
    rw [List.takeWhile_cons, if_neg (by simpa using hy)]; rfl
  | y :: l, x, k + 1, h1, h2, h3 => by
    have hy : y < x := by have := h1 0 (by omega); simpa using this
    have ih := ltc_eq l x k (fun j hj => by have := h1 (j + 1) (by omega); simpa using this) (by simpa using h2) (by simpa using h3)
    unfold ltc at ih ⊢
    rw [List.takeWhile_cons, if_pos (by simpa using hy), List.length_cons, ih]
theorem rowz_news {w : World} {lo g n cap : Nat} {xs : List Int} (h : w.ownsRow lo 3 1 (.slice (some ⟨g, 0, none⟩) n cap) n (xs.map encZ)) (hn : xs.length = n) :
    (∀ r, ∀ j u, ((xs.take r).map encZ)[j]? = some u → w.cell? ((⟨g, 0, none⟩ : Addr).add j) = some u) ∧ (∀ r, ∀ j u, ((xs.drop r).map encZ)[j]? = some u → w.cell? ((⟨g, r, none⟩ : Addr).add j) = some u) := by
  have hl : (xs.map encZ).length = n := by rw [List.length_map, hn]
  refine ⟨fun r j u hj => ?_, fun r j u hj => ?_⟩
  · rw [List.map_take, List.getElem?_take] at hj
    split at hj
    · have hlt := (List.getElem?_eq_some_iff.1 hj).1
      rw [addr_add, Nat.zero_add, h.cellAt j (by omega), hj]
    · cases hj
  · rw [List.map_drop, List.getElem?_drop] at hj
    have hlt := (List.getElem?_eq_some_iff.1 hj).1
    rw [addr_add, h.cellAt (r + j) (by omega), hj]
theorem encZ_one (l : List Int) : ∀ u ∈ l.map encZ, u.oneCell' = true := by
  intro u hu
  obtain ⟨x, _, rfl⟩ := List.mem_map.1 hu
  rfl

set_option maxRecDepth 100000 in
set_option maxHeartbeats 8000000 in
theorem rversions_any (T G : Nat → Prop) (p : Nat) (r : RS) (w : World) (h : RDocI T G w p r) :
    Calls Tryz.prog 42 #[.pointer (some ⟨p, 0, none⟩)] w fun e w' => ∃ (a : Option Addr) (cap : Nat), e = .returned (.slice a r.hs.length cap) ∧
      w'.ownsRow w.heap.size 3 1 (.slice a r.hs.length cap) r.hs.length ((versV (r.hs.map Prod.fst)).map encZ) ∧ Below w.heap.size w w' := by
  obtain ⟨i3, hi3, iy0, iy1, iy2⟩ := info_parts info3
  have hl := h.ok.hlen
  obtain ⟨vT, vE, vH, us, hv, h1, h2, h3, h4, h5, h6, h7⟩ := h.mem
  have c3 := h1.cell 3
  simp only [List.getElem?_toArray, List.getElem?_cons_zero, List.getElem?_cons_succ] at c3
  obtain ⟨ks, hks⟩ : ∃ ks, r.hs.map Prod.fst = ks := ⟨_, rfl⟩
  obtain ⟨n, hn⟩ : ∃ n, r.hs.length = n := ⟨_, rfl⟩
  have hkl : ks.length = n := by rw [← hks, List.length_map, hn]
  have hvl : hv.length = n := by rw [h6.1, hn]
  rw [hn] at h5 hl
  obtain ⟨z1, av, cv9, rfl, hVS, z2, z3⟩ := vs_of_own h5
  rw [hvl] at c3
  have hplt := h1.lt
  obtain ⟨lo, hlo⟩ : ∃ l, w.heap.size = l := ⟨_, rfl⟩
  have HC : Hid (∀ W, Below lo w W → W.cell? ⟨p, 3, none⟩ = some (.slice av n cv9) ∧ ∀ i, i < n → ∃ b off, av = some ⟨b, off, none⟩ ∧ W.cell? ⟨b, off + i * 2, none⟩ = some (.int .i64 (ks[i]?.getD 0))) := fun W hW => by
    rw [← hlo] at hW
    refine ⟨(hW.cell (p := ⟨p, 3, none⟩) hplt).trans c3, fun i hi => ?_⟩
    obtain ⟨b, off, q1, q2, q3⟩ := hVS.cells.resolve_left (by omega)
    have h8 := (q3 i (by omega)).1
    have hi' : i < r.hs.length := by omega
    rw [(h6.2 i _ (List.getElem?_eq_getElem hi')).1] at h8
    refine ⟨b, off, q1, (hW.cell (p := ⟨b, off + i * 2, none⟩) q2).trans ?_⟩
    rw [h8, ← hks, List.getElem?_map, List.getElem?_eq_getElem hi']; rfl
  rw [hks, hn, hlo]
  have HKL := Lib.hid hkl; have HLO := Lib.hid hlo
  have hll : lo ≤ w.heap.size := by omega
  have HB0 : Hid (Below lo w w) := Lib.hid (by rw [← hlo]; exact Below.refl _ _)
  clear h h1 h2 h3 h4 h5 h6 h7 hn hvl hVS c3 hks hkl hlo z1 z2 z3 hplt
  go_enter Tryz.func42, Tryz.ntmps42
  go_wp2_with fail
  go_loopw [3, 4] (fun o q wr => ∃ (i c : Nat) (a : Option Addr), o = .slice a i c ∧ q = .int .i64 (i : Int) ∧ i ≤ n ∧ (i = 0 → a = none ∧ c = 0) ∧ Hid (wr.ownsRow lo 3 1 (.slice a i c) i ((versV (ks.take i)).map encZ)) ∧ Hid (Below lo w wr)) (fun _ q _ => n - (intOf q).toNat)
  case atStart => exact ⟨0, 0, none, rfl, rfl, by omega, fun _ => ⟨rfl, rfl⟩, Lib.hid (World.ownsRow_nil _ _ _ _), HB0⟩
  case round =>
    obtain ⟨i, c, a, rfl, rfl, hi, ha0, HO, HB⟩ := hrel
    obtain ⟨c3, hcs⟩ := HC.out wr HB.out
    by_cases hin : i < n
    · have hin2 : (i : Int) < (n : Int) := by omega
      have m1 : IntKind.i64.wrap ((i : Int) + 1) = (i : Int) + 1 := by simp [IntKind.wrap, IntKind.signed, IntKind.bits]; omega
      obtain ⟨b, off, rfl, c4⟩ := hcs i hin
      obtain ⟨x, hx⟩ : ∃ x, ks[i]?.getD 0 = x := ⟨_, rfl⟩
      rw [hx] at c4
      obtain ⟨xs, hxs⟩ : ∃ xs, versV (ks.take i) = xs := ⟨_, rfl⟩
      have hsn : versV (ks.take (i + 1)) = insV xs x := by
        have hik : i < ks.length := by rw [HKL.out]; exact hin
        rw [List.take_succ_eq_append_getElem hik, versV_snoc, hxs, ← hx, List.getElem?_eq_getElem hik]; rfl
      have HSN := Lib.hid hsn
      rw [hxs] at HO
      have hxl : xs.length = i := by have := HO.out.1; rw [List.length_map] at this; omega
      have HXL := Lib.hid hxl
      clear hcs hx hxs hsn hxl
      by_cases hi0 : i = 0
      · obtain ⟨rfl, rfl⟩ := ha0 hi0
        subst hi0
        have hx0 : xs = [] := List.eq_nil_of_length_eq_zero HXL.out
        have HREL : Hid (∀ v6 w6, w6.ownsRow lo 3 1 v6 1 [.int .i64 x] → Below lo w w6 → ∃ (i' c' : Nat) (a' : Option Addr), v6 = .slice a' i' c' ∧ Value.int .i64 1 = .int .i64 (i' : Int) ∧ i' ≤ n ∧ (i' = 0 → a' = none ∧ c' = 0) ∧ Hid (w6.ownsRow lo 3 1 (.slice a' i' c') i' ((versV (ks.take i')).map encZ)) ∧ Hid (Below lo w w6)) := fun v6 w6 h1 h2 => by
          obtain ⟨a6, c6, rfl⟩ := own_slice h1
          have h3 := HSN.out
          rw [hx0] at h3
          exact ⟨1, c6, a6, rfl, rfl, by omega, fun h => by omega, by rw [show ks.take 1 = ks.take (0 + 1) from rfl, h3]; exact h1, h2⟩
        have hpW : Hid (∀ V, Below wr.heap.size wr V → V.cell? ⟨p, 3, none⟩ = some (.slice (some ⟨b, off, none⟩) n cv9) ∧ V.cell? ⟨b, off, none⟩ = some (.int .i64 x) ∧ Below lo w V ∧ lo ≤ V.heap.size) := fun V hV => by
          have hb := HB.out.trans (hV.mono (by have := HB.out.size; omega))
          obtain ⟨q1, q2⟩ := HC.out V hb
          obtain ⟨b', off', e, q3⟩ := q2 0 hin
          cases e
          have h9 := (HC.out wr HB.out).2 0 hin
          obtain ⟨b'', off'', e, q4⟩ := h9
          cases e
          have q5 : wr.cell? ⟨b, off + 0 * 2, none⟩ = some (.int .i64 x) := c4
          rw [q5] at q4
          rw [← q4] at q3
          exact ⟨q1, by simpa using q3, hb, by have := hb.size; omega⟩
        obtain ⟨wA, rfl⟩ : ∃ V : World, V = wr := ⟨_, rfl⟩
        clear ha0 hx0 c4 HO
        have hin3 : (0 : Int) < (n : Int) := by omega
        simp only [Int.natCast_zero] at *
        go_wp2_with fail
        clear c3
        go_loopw [5] (fun q wr => q = .int .i64 0 ∧ Hid (Below wA.heap.size wA wr)) (fun _ _ => 0)
        case atStart => exact ⟨rfl, Lib.hid (Below.refl _ _)⟩
        case round =>
          obtain ⟨rfl, HR⟩ := hrel
          obtain ⟨d3, d4, _, _⟩ := hpW.out wr HR.out
          go_wp2_with fail
          go_quiet (fail)
          obtain ⟨W, hW⟩ : ∃ V, wr.drewN nq = V := ⟨_, rfl⟩
          have HBW : Hid (Below wA.heap.size wA W) := Lib.hid (by rw [← hW]; exact below_drewN HR.out _)
          obtain ⟨e3, e4, hbw, hlw⟩ := hpW.out W HBW.out
          have HLW := Lib.hid hbw
          have HCN := Lib.hid (cell_one_new W (.int .i64 x) 3)
          rw [hW]
          clear hW d3 d4 hbw
          go_wp2_with (first
            | (at_builtin; refine wpList_append_own_none rfl _ _ 22 rfl lo 3 i3 1 Tryz.underlying22 hi3 (.slice none 0 0) 0 [] rfl (World.ownsRow_nil _ _ _ _) rfl ?_)
            | (at_builtin; refine wpList_append_own_at _ rfl _ _ 22 rfl lo 3 i3 (.int .i64 0) 1 8 Tryz.underlying22 hi3 iy0 iy1 iy2 rfl (by decide) (.slice none 0 0) 0 [] rfl (World.ownsRow_nil _ _ _ _) ⟨W.heap.size, 0, none⟩ 1 1 [.int .i64 x] rfl rfl HCN.out (fun x hx => by simp at hx; subst hx; rfl) (by unfold maxLen; omega) (by omega) (by simp; omega) ?_; intro v5 w5 hown5 hgrow5 hnn5 hat5; rw [Nat.zero_add, List.nil_append] at hown5; have hb5 := (HLW.out.alloc (by omega) (.cells #[.int .i64 x] 3)).grown hgrow5 (by simp; omega) (fun g hg => by cases hg); have HQ := Lib.hid (HREL.out v5 w5 hown5 hb5); have HO5 := Lib.hid hown5; clear hown5 hgrow5 hnn5 hat5 hb5)
            | (at_builtin; refine wpList_append_own_none rfl _ _ 22 rfl lo 3 i3 1 Tryz.underlying22 hi3 v5 1 [.int .i64 x] rfl HO5.out rfl ?_))
          exact ⟨HQ.out, by simp [intOf]; omega⟩
      · obtain ⟨g, rfl⟩ : ∃ g, a = some ⟨g, 0, none⟩ := by
          obtain ⟨y, hy⟩ : ∃ y, i = y + 1 := ⟨i - 1, by omega⟩
          have h1 := HO.out
          rw [hy] at h1
          obtain ⟨g, cp, h2⟩ := ownsRow_succ h1
          simp only [Value.slice.injEq] at h2
          exact ⟨g, h2.1⟩
        obtain ⟨z1, a', c', hveq, hSl⟩ := sli_of_own (k := .i64) (zs := xs) HO.out
        have hic : i ≤ c := by have := hSl.le; have := HXL.out; simp only [Value.slice.injEq] at hveq; omega
        have hcm : c ≤ 9223372036854775807 := by have := hSl.mx; simp only [Value.slice.injEq] at hveq; omega
        clear z1 hveq hSl
        have hgl := (HO.out.lt g rfl).2
        have HROW : Hid (∀ V, Below wr.heap.size wr V → V.cell? ⟨p, 3, none⟩ = some (.slice (some ⟨b, off, none⟩) n cv9) ∧ V.cell? ⟨b, off + i * 2, none⟩ = some (.int .i64 x) ∧ Below lo w V ∧ lo ≤ V.heap.size ∧ (∀ j, j < i → V.cell? ⟨g, j, none⟩ = some (.int .i64 (xs[j]?.getD x))) ∧ (∀ r, ∀ j u, ((xs.take r).map encZ)[j]? = some u → V.cell? ((⟨g, 0, none⟩ : Addr).add j) = some u) ∧ (∀ r, ∀ j u, ((xs.drop r).map encZ)[j]? = some u → V.cell? ((⟨g, r, none⟩ : Addr).add j) = some u)) := fun V hV => by
          have hb := HB.out.trans (hV.mono (by have := HB.out.size; omega))
          obtain ⟨q1, q2⟩ := HC.out V hb
          obtain ⟨b', off', e, q3⟩ := q2 i hin
          cases e
          obtain ⟨b'', off'', e, q4⟩ := (HC.out wr HB.out).2 i hin
          cases e
          rw [c4] at q4
          rw [← q4] at q3
          have hrow : V.ownsRow lo 3 1 (.slice (some ⟨g, 0, none⟩) i c) i (xs.map encZ) := own_same HO.out (fun g' hg => hV.block g' (HO.out.lt g' hg).2)
          obtain ⟨n1, n2⟩ := rowz_news hrow HXL.out
          refine ⟨q1, q3, hb, by have := hb.size; omega, fun j hj => ?_, n1, n2⟩
          have hj' : j < xs.length := by rw [HXL.out]; exact hj
          rw [hrow.cellAt j (by omega), List.getElem?_map, List.getElem?_eq_getElem hj']; rfl
        have HREL : Hid (∀ v6 w6 k, k = ltc xs x → w6.ownsRow lo 3 1 v6 (k + 1 + (i - k)) (((xs.take k).map encZ ++ [.int .i64 x]) ++ (xs.drop k).map encZ) → Below lo w w6 → ∃ (i' c' : Nat) (a' : Option Addr), v6 = .slice a' i' c' ∧ Value.int .i64 ((i : Int) + 1) = .int .i64 (i' : Int) ∧ i' ≤ n ∧ (i' = 0 → a' = none ∧ c' = 0) ∧ Hid (w6.ownsRow lo 3 1 (.slice a' i' c') i' ((versV (ks.take i')).map encZ)) ∧ Hid (Below lo w w6)) := fun v6 w6 k hk h1 h2 => by
          have hle := ltc_le xs x
          rw [HXL.out] at hle
          rw [show k + 1 + (i - k) = i + 1 by omega] at h1
          obtain ⟨a6, c6, rfl⟩ := own_slice h1
          have h3 : ((xs.take k).map encZ ++ [.int .i64 x]) ++ (xs.drop k).map encZ = (insV xs x).map encZ := by
            unfold insV; rw [← hk, List.map_append, List.map_append]; rfl
          rw [h3, ← HSN.out] at h1
          exact ⟨i + 1, c6, a6, rfl, by go_num, by omega, fun h => by omega, h1, h2⟩
        have hxl := HXL.out
        obtain ⟨wA, rfl⟩ : ∃ V : World, V = wr := ⟨_, rfl⟩
        have hiN : i ≤ 16 := by omega
        clear ha0 c4 HO hxl
        go_wp2_with fail
        clear c3
        go_loopw [5] (fun q wr => ∃ k : Nat, q = .int .i64 (k : Int) ∧ k ≤ i ∧ Hid (∀ j, j < k → (xs[j]?.getD x) < x) ∧ Hid (Below wA.heap.size wA wr)) (fun q _ => i - (intOf q).toNat)
        case atStart => exact ⟨0, rfl, by omega, Lib.hid (fun j h => by omega), Lib.hid (Below.refl _ _)⟩
        case round =>
          obtain ⟨k, rfl, hk, HJ, HR⟩ := hrel
          obtain ⟨d3, d4, z1, z2, d5, z3, z4⟩ := HROW.out wr HR.out
          have mk : IntKind.i64.wrap ((k : Int) + 1) = (k : Int) + 1 := by simp [IntKind.wrap, IntKind.signed, IntKind.bits]; omega
          obtain ⟨y, hy⟩ : ∃ y, xs[k]?.getD x = y := ⟨_, rfl⟩
          by_cases hgo : k < i ∧ y < x
          · obtain ⟨g1, g2⟩ := hgo
            have d6 := d5 k g1
            rw [hy] at d6
            have t1 : decide ((k : Int) < (i : Int)) = true := by simp; omega
            have t2 : decide (y < x) = true := by simp [g2]
            have HJ2 : Hid (∀ j, j < k + 1 → (xs[j]?.getD x) < x) := fun j hj => by
              by_cases e : j = k
              · subst e; rw [hy]; exact g2
              · exact HJ.out j (by omega)
            have hki : (k : Int) < (i : Int) := by omega
            clear z1 z2 z3 z4 d5 hy
            go_wp2_with fail
            go_quiet (fail)
            have HR2 : Hid (Below wA.heap.size wA (wr.drewN nq)) := below_drewN HR.out _
            go_wp2
            go_roundw
            case rel => exact ⟨k + 1, by go_num, by omega, HJ2, HR2⟩
            case measure => simp [intOf]; omega
          · have hlt : ltc xs x = k := ltc_eq xs x k HJ.out (by rw [HXL.out]; exact hk) (by
              rw [HXL.out, hy]
              by_cases e : k = i
              · exact .inl e
              · exact .inr (fun h => hgo ⟨by omega, h⟩))
            have HLT := Lib.hid hlt.symm
            have hways : k = i ∨ (k < i ∧ ¬ y < x) := by
              by_cases e : k = i
              · exact .inl e
              · exact .inr ⟨by omega, fun h => hgo ⟨by omega, h⟩⟩
            clear hgo hlt z1 z2 z3 z4
            rcases hways with e | ⟨g1, g2⟩
            · have t1 : decide ((k : Int) < (i : Int)) = false := by simp; omega
              have t1n : decide (k < i) = false := by simp; omega
              clear d5 hy e
              go_wp2_with fail
              go_quiet (fail)
              obtain ⟨W, hW⟩ : ∃ V, wr.drewN nq = V := ⟨_, rfl⟩
              have HBW : Hid (Below wA.heap.size wA W) := Lib.hid (by rw [← hW]; exact below_drewN HR.out _)
              obtain ⟨e3, e4, hbw, hlw, z5, hn1, hn2⟩ := HROW.out W HBW.out
              have HN1 := Lib.hid (hn1 k)
              have hzW := HBW.out.size
              have hkc : (k : Int) ≤ (c : Int) := by omega
              have hki2 : (k : Int) ≤ (i : Int) := by omega
              have hkc2 : (i : Int) ≤ (c : Int) := by omega
              have HL1 : Hid (((xs.take k).map encZ).length = k * 1) := by show _ = _; rw [List.length_map, List.length_take, HXL.out]; omega
              have HL2 : Hid (((xs.drop k).map encZ).length = (i - k) * 1) := by show _ = _; rw [List.length_map, List.length_drop, HXL.out]; omega
              rw [hW]
              clear hW hbw z5 hn1 hn2
              have HK3 : Hid (∀ (v3 : Value) (w3 : World), w3.ownsRow lo 3 1 v3 k ((xs.take k).map encZ) → W.grownBy w3 (Value.slice none 0 0).ownBlock → (v3.ownBlock = (Value.slice none 0 0).ownBlock ∨ v3.ownBlock = some W.heap.size) → Hid (World.ownsRow (w3.alloc (.cells #[.int .i64 x] 3)) lo 3 1 v3 k ((xs.take k).map encZ)) ∧ Hid (∀ j u, ([.int .i64 x] : List Value)[j]? = some u → World.cell? (w3.alloc (.cells #[.int .i64 x] 3)) ((⟨w3.heap.size, 0, none⟩ : Addr).add j) = some u) ∧ w3.cell? ⟨p, 3, none⟩ = some (.slice (some ⟨b, off, none⟩) n cv9) ∧ w3.cell? ⟨b, off + i * 2, none⟩ = some (.int .i64 x) ∧ lo ≤ w3.heap.size ∧ Hid (Below wA.heap.size wA w3 ∧ ∀ b, v3.ownBlock = some b → W.heap.size ≤ b)) := fun v3 w3 ho hg ha => by
                have b3 : Below wA.heap.size wA w3 := HBW.out.grown hg hzW (fun g hg => by cases hg)
                obtain ⟨q1, q2, q3, q4, _⟩ := HROW.out w3 b3
                refine ⟨ho.alloc _, cell_one_new w3 (.int .i64 x) 3, q1, q2, q4, b3, fun b hb => ?_⟩
                rcases ha with e | e
                · rw [hb] at e; cases e
                · rw [hb] at e; cases e; exact Nat.le_refl _
              have HK5 : Hid (∀ (v3 : Value) (w3 : World) (v5 : Value) (w5 : World), (Below wA.heap.size wA w3 ∧ ∀ b, v3.ownBlock = some b → W.heap.size ≤ b) → (World.alloc w3 (.cells #[.int .i64 x] 3)).grownBy w5 v3.ownBlock → Hid (∀ j u, ((xs.drop k).map encZ)[j]? = some u → w5.cell? ((⟨g, k, none⟩ : Addr).add j) = some u) ∧ lo ≤ w5.heap.size ∧ Hid (Below lo w w5)) := fun v3 w3 v5 w5 h3 hg => by
                have b4 := h3.1.alloc h3.1.size (.cells #[.int .i64 x] 3)
                have b5 : Below wA.heap.size wA w5 := b4.grown hg b4.size (fun g hg => by have := h3.2 g hg; omega)
                obtain ⟨_, _, q3, q4, _, _, q6⟩ := HROW.out w5 b5
                exact ⟨q6 k, q4, q3⟩
              by_cases hcr : c = k
              · obtain rfl : k = i := by omega
                subst hcr
                have HDR0 : Hid ((xs.drop c).map encZ = []) := List.eq_nil_of_length_eq_zero (by rw [HL2.out]; omega)
                go_wp2_with (first
                  | (at_builtin; refine wpList_append_own_at _ rfl _ _ 22 rfl lo 3 i3 (.int .i64 0) 1 8 Tryz.underlying22 hi3 iy0 iy1 iy2 rfl (by decide) (.slice none 0 0) 0 [] rfl (World.ownsRow_nil _ _ _ _) ⟨g, 0, none⟩ c _ ((xs.take c).map encZ) rfl HL1.out HN1.out (encZ_one _) (by unfold maxLen; omega) (by omega) hlw ?_; intro v3 w3 hown3 hgrow3 hnn3 hat3; rw [Nat.zero_add, List.nil_append] at hown3; obtain ⟨HO4, HCN, c3w, c4w, hl3, HX3⟩ := HK3.out v3 w3 hown3 hgrow3 hat3; clear hown3 hgrow3 hnn3 hat3)
                  | (at_builtin; refine wpList_append_own_at _ rfl _ _ 22 rfl lo 3 i3 (.int .i64 0) 1 8 Tryz.underlying22 hi3 iy0 iy1 iy2 rfl (by decide) v3 c ((xs.take c).map encZ) rfl HO4.out ⟨w3.heap.size, 0, none⟩ 1 1 [.int .i64 x] rfl rfl HCN.out (fun x hx => by simp at hx; subst hx; rfl) (by unfold maxLen; omega) (by omega) (by simp; omega) ?_; intro v5 w5 hown5 hgrow5 hnn5 hat5; obtain ⟨HN5, hl5, HX5⟩ := HK5.out v3 w3 v5 w5 HX3.out hgrow5; obtain ⟨a5, c5, rfl⟩ := own_slice hown5; have HO5 := Lib.hid hown5; clear hown5 hgrow5 hnn5 hat5)
                  | (at_builtin; refine wpList_append_own_at _ rfl _ _ 22 rfl lo 3 i3 (.int .i64 0) 1 8 Tryz.underlying22 hi3 iy0 iy1 iy2 rfl (by decide) (.slice a5 (c + 1) c5) (c + 1) ((xs.take c).map encZ ++ [.int .i64 x]) rfl HO5.out _ 0 _ [] rfl rfl (fun j u h => by simp at h) (fun x hx => by simp at hx) (by unfold maxLen; omega) (by omega) hl5 ?_; intro v6 w6 hown6 hgrow6 hnn6 hat6; have HQ := Lib.hid (And.intro hown6 (HX5.out.grown hgrow6 hl5 (fun g hg => (HO5.out.lt g hg).1))); clear hown6 hgrow6 hnn6 hat6))
                have hq := HREL.out _ _ c HLT.out (by rw [HDR0.out, show c + 1 + (c - c) = c + 1 + 0 by omega]; exact HQ.out.1) HQ.out.2
                exact ⟨hq, by simp [intOf]; omega⟩
              · have hcr2 : ¬ (c : Int) = (k : Int) := by omega
                go_wp2_with (first
                  | (at_builtin; refine wpList_append_own_at _ rfl _ _ 22 rfl lo 3 i3 (.int .i64 0) 1 8 Tryz.underlying22 hi3 iy0 iy1 iy2 rfl (by decide) (.slice none 0 0) 0 [] rfl (World.ownsRow_nil _ _ _ _) ⟨g, 0, none⟩ k _ ((xs.take k).map encZ) rfl HL1.out HN1.out (encZ_one _) (by unfold maxLen; omega) (by omega) hlw ?_; intro v3 w3 hown3 hgrow3 hnn3 hat3; rw [Nat.zero_add, List.nil_append] at hown3; obtain ⟨HO4, HCN, c3w, c4w, hl3, HX3⟩ := HK3.out v3 w3 hown3 hgrow3 hat3; clear hown3 hgrow3 hnn3 hat3)
                  | (at_builtin; refine wpList_append_own_at _ rfl _ _ 22 rfl lo 3 i3 (.int .i64 0) 1 8 Tryz.underlying22 hi3 iy0 iy1 iy2 rfl (by decide) v3 k ((xs.take k).map encZ) rfl HO4.out ⟨w3.heap.size, 0, none⟩ 1 1 [.int .i64 x] rfl rfl HCN.out (fun x hx => by simp at hx; subst hx; rfl) (by unfold maxLen; omega) (by omega) (by simp; omega) ?_; intro v5 w5 hown5 hgrow5 hnn5 hat5; obtain ⟨HN5, hl5, HX5⟩ := HK5.out v3 w3 v5 w5 HX3.out hgrow5; obtain ⟨a5, c5, rfl⟩ := own_slice hown5; have HO5 := Lib.hid hown5; clear hown5 hgrow5 hnn5 hat5)
                  | (at_builtin; refine wpList_append_own_at _ rfl _ _ 22 rfl lo 3 i3 (.int .i64 0) 1 8 Tryz.underlying22 hi3 iy0 iy1 iy2 rfl (by decide) (.slice a5 (k + 1) c5) (k + 1) ((xs.take k).map encZ ++ [.int .i64 x]) rfl HO5.out ⟨g, k, none⟩ (i - k) (c - k) ((xs.drop k).map encZ) rfl HL2.out HN5.out (encZ_one _) (by unfold maxLen; omega) (by omega) hl5 ?_; intro v6 w6 hown6 hgrow6 hnn6 hat6; have HQ := Lib.hid (And.intro hown6 (HX5.out.grown hgrow6 hl5 (fun g hg => (HO5.out.lt g hg).1))); clear hown6 hgrow6 hnn6 hat6))
                have hq := HREL.out _ _ k HLT.out HQ.out.1 HQ.out.2
                exact ⟨hq, by simp [intOf]; omega⟩
            · have d6 := d5 k g1
              rw [hy] at d6
              have t1 : decide ((k : Int) < (i : Int)) = true := by simp; omega
              have t2 : decide (y < x) = false := by simp; omega
              have hki : (k : Int) < (i : Int) := by omega
              clear d5 hy
              go_wp2_with fail
              go_quiet (fail)
              obtain ⟨W, hW⟩ : ∃ V, wr.drewN nq = V := ⟨_, rfl⟩
              have HBW : Hid (Below wA.heap.size wA W) := Lib.hid (by rw [← hW]; exact below_drewN HR.out _)
              obtain ⟨e3, e4, hbw, hlw, z5, hn1, hn2⟩ := HROW.out W HBW.out
              have HN1 := Lib.hid (hn1 k)
              have hzW := HBW.out.size
              have hkc : (k : Int) ≤ (c : Int) := by omega
              have hki2 : (k : Int) ≤ (i : Int) := by omega
              have hkc2 : (i : Int) ≤ (c : Int) := by omega
              have HL1 : Hid (((xs.take k).map encZ).length = k * 1) := by show _ = _; rw [List.length_map, List.length_take, HXL.out]; omega
              have HL2 : Hid (((xs.drop k).map encZ).length = (i - k) * 1) := by show _ = _; rw [List.length_map, List.length_drop, HXL.out]; omega
              rw [hW]
              clear hW hbw z5 hn1 hn2
              have HK3 : Hid (∀ (v3 : Value) (w3 : World), w3.ownsRow lo 3 1 v3 k ((xs.take k).map encZ) → W.grownBy w3 (Value.slice none 0 0).ownBlock → (v3.ownBlock = (Value.slice none 0 0).ownBlock ∨ v3.ownBlock = some W.heap.size) → Hid (World.ownsRow (w3.alloc (.cells #[.int .i64 x] 3)) lo 3 1 v3 k ((xs.take k).map encZ)) ∧ Hid (∀ j u, ([.int .i64 x] : List Value)[j]? = some u → World.cell? (w3.alloc (.cells #[.int .i64 x] 3)) ((⟨w3.heap.size, 0, none⟩ : Addr).add j) = some u) ∧ w3.cell? ⟨p, 3, none⟩ = some (.slice (some ⟨b, off, none⟩) n cv9) ∧ w3.cell? ⟨b, off + i * 2, none⟩ = some (.int .i64 x) ∧ lo ≤ w3.heap.size ∧ Hid (Below wA.heap.size wA w3 ∧ ∀ b, v3.ownBlock = some b → W.heap.size ≤ b)) := fun v3 w3 ho hg ha => by
                have b3 : Below wA.heap.size wA w3 := HBW.out.grown hg hzW (fun g hg => by cases hg)
                obtain ⟨q1, q2, q3, q4, _⟩ := HROW.out w3 b3
                refine ⟨ho.alloc _, cell_one_new w3 (.int .i64 x) 3, q1, q2, q4, b3, fun b hb => ?_⟩
                rcases ha with e | e
                · rw [hb] at e; cases e
                · rw [hb] at e; cases e; exact Nat.le_refl _
              have HK5 : Hid (∀ (v3 : Value) (w3 : World) (v5 : Value) (w5 : World), (Below wA.heap.size wA w3 ∧ ∀ b, v3.ownBlock = some b → W.heap.size ≤ b) → (World.alloc w3 (.cells #[.int .i64 x] 3)).grownBy w5 v3.ownBlock → Hid (∀ j u, ((xs.drop k).map encZ)[j]? = some u → w5.cell? ((⟨g, k, none⟩ : Addr).add j) = some u) ∧ lo ≤ w5.heap.size ∧ Hid (Below lo w w5)) := fun v3 w3 v5 w5 h3 hg => by
                have b4 := h3.1.alloc h3.1.size (.cells #[.int .i64 x] 3)
                have b5 : Below wA.heap.size wA w5 := b4.grown hg b4.size (fun g hg => by have := h3.2 g hg; omega)
                obtain ⟨_, _, q3, q4, _, _, q6⟩ := HROW.out w5 b5
                exact ⟨q6 k, q4, q3⟩
              by_cases hcr : c = k
              · exfalso; omega
              · have hcr2 : ¬ (c : Int) = (k : Int) := by omega
                go_wp2_with (first
                  | (at_builtin; refine wpList_append_own_at _ rfl _ _ 22 rfl lo 3 i3 (.int .i64 0) 1 8 Tryz.underlying22 hi3 iy0 iy1 iy2 rfl (by decide) (.slice none 0 0) 0 [] rfl (World.ownsRow_nil _ _ _ _) ⟨g, 0, none⟩ k _ ((xs.take k).map encZ) rfl HL1.out HN1.out (encZ_one _) (by unfold maxLen; omega) (by omega) hlw ?_; intro v3 w3 hown3 hgrow3 hnn3 hat3; rw [Nat.zero_add, List.nil_append] at hown3; obtain ⟨HO4, HCN, c3w, c4w, hl3, HX3⟩ := HK3.out v3 w3 hown3 hgrow3 hat3; clear hown3 hgrow3 hnn3 hat3)
                  | (at_builtin; refine wpList_append_own_at _ rfl _ _ 22 rfl lo 3 i3 (.int .i64 0) 1 8 Tryz.underlying22 hi3 iy0 iy1 iy2 rfl (by decide) v3 k ((xs.take k).map encZ) rfl HO4.out ⟨w3.heap.size, 0, none⟩ 1 1 [.int .i64 x] rfl rfl HCN.out (fun x hx => by simp at hx; subst hx; rfl) (by unfold maxLen; omega) (by omega) (by simp; omega) ?_; intro v5 w5 hown5 hgrow5 hnn5 hat5; obtain ⟨HN5, hl5, HX5⟩ := HK5.out v3 w3 v5 w5 HX3.out hgrow5; obtain ⟨a5, c5, rfl⟩ := own_slice hown5; have HO5 := Lib.hid hown5; clear hown5 hgrow5 hnn5 hat5)
                  | (at_builtin; refine wpList_append_own_at _ rfl _ _ 22 rfl lo 3 i3 (.int .i64 0) 1 8 Tryz.underlying22 hi3 iy0 iy1 iy2 rfl (by decide) (.slice a5 (k + 1) c5) (k + 1) ((xs.take k).map encZ ++ [.int .i64 x]) rfl HO5.out ⟨g, k, none⟩ (i - k) (c - k) ((xs.drop k).map encZ) rfl HL2.out HN5.out (encZ_one _) (by unfold maxLen; omega) (by omega) hl5 ?_; intro v6 w6 hown6 hgrow6 hnn6 hat6; have HQ := Lib.hid (And.intro hown6 (HX5.out.grown hgrow6 hl5 (fun g hg => (HO5.out.lt g hg).1))); clear hown6 hgrow6 hnn6 hat6))
                have hq := HREL.out _ _ k HLT.out HQ.out.1 HQ.out.2
                exact ⟨hq, by simp [intOf]; omega⟩
    · have hin2 : ¬ ((i : Int) < (n : Int)) := by omega
      obtain rfl : i = n := by omega
      have hall : ks.take i = ks := List.take_of_length_le (Nat.le_of_eq HKL.out)
      rw [hall] at HO
      clear hall ha0 hcs
      go_wp2_with fail
      go_ret
      exact ⟨a, c, rfl, HO.out, HB.out⟩

end Go.Proofs.YtkehgoailhpenaaGreat

/- What a document shows behind a change or an edit: mathematics, no conditions. -/
namespace Go.Proofs.YtkehgoailhpenaaGreat
open Go.RowKit Go.Shelf Go.Maps
set_option linter.unusedVariables false

theorem hldF_v : ∀ (f : Nat) (s : DS), (hldF f s).2.v = s.v + ((hldF f s).1 : Int) := by
  intro f
  induction f with
  | zero => intro s; simp [hldF]
  | succ f ih =>
    intro s
    simp only [hldF]
    split
    · split
      · have h1 := ih (aplS (dropH s) (lookH s.hs (s.v + 1)))
        rw [aplS_v] at h1
        have h2 : (dropH s).v = s.v := rfl
        show (hldF f (aplS (dropH s) (lookH s.hs (s.v + 1)))).2.v = s.v + (((hldF f (aplS (dropH s) (lookH s.hs (s.v + 1)))).1 + 1 : Nat) : Int)
        omega
      · simp [dropH]
    · simp
/-- A change that is refused changes nothing; one that is taken makes as many versions as it says. -/
theorem rcv_cases (s : DS) (cv : Int) (ps : List PE) : ∃ r1 r2 s2, rcvF s cv ps = ((r1, r2), s2) ∧ ((r2 ≠ 0 ∧ r1 = 0 ∧ s2 = s) ∨ (r2 = 0 ∧ 0 ≤ r1 ∧ s2.v = s.v + r1)) := by
  unfold rcvF
  by_cases h1 : chkE s cv ps.length = 0
  · rw [if_neg (by simpa using h1)]
    by_cases h2 : s.v + 1 < cv
    · rw [if_pos h2]
      exact ⟨0, 0, _, rfl, .inr ⟨rfl, by omega, by show s.v = _; omega⟩⟩
    · rw [if_neg h2]
      by_cases h3 : aplE s ps = 0
      · rw [if_neg (by simpa using h3)]
        exact ⟨_, 0, _, rfl, .inr ⟨rfl, by omega, by rw [hldF_v, aplS_v]; omega⟩⟩
      · rw [if_pos h3]
        exact ⟨0, _, _, rfl, .inl ⟨h3, rfl, rfl⟩⟩
  · rw [if_pos h1]
    exact ⟨0, _, _, rfl, .inl ⟨h1, rfl, rfl⟩⟩
theorem edt_zero {s : DS} {es : List Er} (h : edtE s es = 0) : vErr (s.text.size : Int) es = 0 := by
  unfold edtE at h
  split at h
  · omega
  · split at h
    · omega
    · unfold advE at h
      split at h
      · assumption
      · exact h
theorem advS_text (s : DS) (es : List Er) : (advS s es).text = apS s.text es := by
  show (((remS (s.ss.set (s.ss.length - 1) (s.text, es)) (apS s.text es)).getLast?).getD (⟨#[]⟩, [])).1 = _
  rw [remS_text]; rfl
theorem Only.step {N T G T' G' : Nat → Prop} {A W W' : World} (h : Only N A W) (k : Stp T G T' G' W W') (hT : ∀ b, T b → N b ∨ A.heap.size ≤ b) : Only N A W' := by
  have hz := h.size
  exact ⟨k.only.os.trans h.os, k.only.tape.trans h.tape, k.only.output.trans h.output, Nat.le_trans h.size k.only.size, fun b hb hn => (k.only.block b (by omega) (fun hT' => (hT b hT').elim hn (fun e => by omega))).trans (h.block b hb hn)⟩

end Go.Proofs.YtkehgoailhpenaaGreat

/- Both documents in step, call by call. Conditions: at most 850 versions. -/
namespace Go.Proofs.YtkehgoailhpenaaGreat
open Go.RowKit Go.Shelf Go.Maps
set_option linter.unusedVariables false

/-- The two documents in memory: D are the blocks in which they were made, W0 the world behind that; the lists that the changes hold lie below it. -/
structure Mid (D : Nat → Prop) (W0 W : World) (pd pr : Nat) (T G T2 G2 : Nat → Prop) (s : DS) (r : RS) (m : Nat) : Prop where
  d : DocI T G W pd s
  rd : RDocI T2 G2 W pr r
  only : Only D W0 W
  t : ∀ b, T b → D b ∨ W0.heap.size ≤ b
  t2 : ∀ b, T2 b → D b ∨ W0.heap.size ≤ b
  a : ∀ b, T b → ¬ T2 b ∧ ¬ G2 b
  a2 : ∀ b, T2 b → ¬ G b
  lo : ∀ b, b < W0.heap.size → ¬ D b → G2 b
  len : r.h.length ≤ m
theorem Mid.below {D : Nat → Prop} {W0 W W' : World} {pd pr : Nat} {T G T2 G2 : Nat → Prop} {s : DS} {r : RS} {m : Nat} (h : Mid D W0 W pd pr T G T2 G2 s r m) (hb : Below W.heap.size W W') : Mid D W0 W' pd pr T G T2 G2 s r m :=
  ⟨h.d.below hb, h.rd.below hb, h.only.trans (Only.of_below hb), h.t, h.t2, h.a, h.a2, h.lo, h.len⟩
theorem Mid.mono {D : Nat → Prop} {W0 W : World} {pd pr : Nat} {T G T2 G2 : Nat → Prop} {s : DS} {r : RS} {m m' : Nat} (h : Mid D W0 W pd pr T G T2 G2 s r m) (hm : m ≤ m') : Mid D W0 W pd pr T G T2 G2 s r m' :=
  ⟨h.d, h.rd, h.only, h.t, h.t2, h.a, h.a2, h.lo, Nat.le_trans h.len hm⟩
theorem Mid.one {D : Nat → Prop} {W0 W W' : World} {pd pr : Nat} {T G T2 G2 T' G' : Nat → Prop} {s s' : DS} {r : RS} {m : Nat} (h : Mid D W0 W pd pr T G T2 G2 s r m) (hd : DocI T' G' W' pd s') (k : Stp T G T' G' W W') : Mid D W0 W' pd pr T' G' T2 G2 s' r m := by
  have hz := k.only.size
  have h0 := h.only.size
  refine ⟨hd, h.rd.apartFrom k (fun b hb hT => hb.elim (fun q => (h.a b hT).1 q) (fun q => (h.a b hT).2 q)), h.only.step k h.t, fun b hb => (k.t b hb).elim (h.t b) (fun e => .inr (by omega)), h.t2, fun b hb => ?_, fun b hb hg => ?_, h.lo, h.len⟩
  · rcases k.t b hb with e | e
    · exact h.a b e
    · exact ⟨fun q => by have := h.rd.lt b q; omega, fun q => by have := h.rd.glt b q; omega⟩
  · rcases k.g b hg with e | e
    · exact h.a2 b hb e
    · have := h.rd.lt b hb; omega
theorem Mid.two {D : Nat → Prop} {W0 W W' : World} {pd pr : Nat} {T G T2 G2 T' G' : Nat → Prop} {s : DS} {r r' : RS} {m m' : Nat} (h : Mid D W0 W pd pr T G T2 G2 s r m) (hr : RDocI T' G' W' pr r') (k : Stp T2 G2 T' G' W W') (hm : r'.h.length ≤ m') : Mid D W0 W' pd pr T G T' (fun b => G' b ∨ (b < W0.heap.size ∧ ¬ D b)) s r' m' := by
  have hz := k.only.size
  have h0 := h.only.size
  have ht2 : ∀ b, T' b → D b ∨ W0.heap.size ≤ b := fun b hb => (k.t b hb).elim (h.t2 b) (fun e => .inr (by omega))
  refine ⟨h.d.apartFrom k (fun b hb hT => hb.elim (fun q => (h.a b q).1 hT) (fun q => h.a2 b hT q)), hr.monoG (fun b hb => .inl hb) (fun b hb => hb.elim (hr.glt b) (fun q => by omega)) (fun b hb hg => ?_), h.only.step k h.t2, h.t, ht2, fun b hb => ⟨fun q => ?_, fun q => ?_⟩, fun b hb hg => ?_, fun b h1 h2 => .inr ⟨h1, h2⟩, hm⟩
  · rcases hg with hg | ⟨q1, q2⟩
    · exact hr.apart b hb hg
    · rcases ht2 b hb with e | e
      · exact q2 e
      · omega
  · rcases k.t b q with e | e
    · exact (h.a b hb).1 e
    · have := h.d.lt b hb; omega
  · rcases q with q | ⟨q1, q2⟩
    · rcases k.g b q with e | e
      · exact (h.a b hb).2 e
      · have := h.d.lt b hb; omega
    · rcases h.t b hb with e | e
      · exact q2 e
      · omega
  · rcases k.t b hb with e | e
    · exact h.a2 b e hg
    · have := h.d.glt b hg; omega
/-- A new list of edits joins what the reference's document may keep. -/
theorem Mid.give {D : Nat → Prop} {W0 W W' : World} {pd pr : Nat} {T G T2 G2 : Nat → Prop} {s : DS} {r : RS} {m : Nat} (h : Mid D W0 W pd pr T G T2 G2 s r m) (hb : Below W.heap.size W W') {a : Option Addr} {cap : Nat} {es : List Er} (hE : ES W'.heap.size W' a cap es) (hnew : ∀ b, blkOf a b → W.heap.size ≤ b) : Mid D W0 W' pd pr T G T2 (addG G2 es.length a) s r m := by
  have hz := hb.size
  have hlt : ∀ b, addG G2 es.length a b → b < W'.heap.size := fun b hb' => by
    rcases hb' with q | ⟨q1, q2⟩
    · have := h.rd.glt b q; omega
    · exact es_lt hE q1 q2
  have h' := h.below hb
  refine ⟨h'.d, h'.rd.monoG (fun b hb' => .inl hb') hlt (fun b hT hg => ?_), h'.only, h.t, h.t2, fun b hT => ⟨(h.a b hT).1, fun hg => ?_⟩, h.a2, fun b h1 h2 => .inl (h.lo b h1 h2), h.len⟩
  · rcases hg with q | ⟨_, q⟩
    · exact h.rd.apart b hT q
    · have := hnew b q; have := h.rd.lt b hT; omega
  · rcases hg with q | ⟨_, q⟩
    · exact (h.a b hT).2 q
    · have := hnew b q; have := h.d.lt b hT; omega

/-- The two documents do the same with a change. -/
theorem mid_rcv1 {D : Nat → Prop} {W0 W : World} {pd pr : Nat} {T G T2 G2 : Nat → Prop} {s : DS} {r : RS} {m : Nat} (h : Mid D W0 W pd pr T G T2 G2 s r m) {k : Int} {ps : List PE} (hk : I64n k) {a : Option Addr} {cap : Nat} (hP : PS W.heap.size W a cap ps) (hn : ps.length ≤ 64) (hf : ∀ q ∈ ps, q.fit ∧ q.t.size ≤ 100000) :
    Calls Tryz.prog 17 #[.pointer (some ⟨pd, 0, none⟩), .agg #[.int .i64 k, .slice a ps.length cap]] W fun e w' => e = .returned (.tuple #[.int .i64 (rcvF s k ps).1.1, .int .i64 (rcvF s k ps).1.2]) ∧ ∃ T' G', Mid D W0 w' pd pr T' G' T2 G2 (rcvF s k ps).2 r m := by
  refine (receive_any T G pd s W h.d k hk.1 hk.2 a cap ps hP (by omega) hf).mono ?_
  rintro e w' ⟨rfl, T', G', q1, q2⟩
  exact ⟨rfl, T', G', h.one q1 q2⟩
theorem mid_rcv2 {D : Nat → Prop} {W0 W : World} {pd pr : Nat} {T G T2 G2 : Nat → Prop} {s : DS} {r : RS} {m : Nat} (h : Mid D W0 W pd pr T G T2 G2 s r m) (hm : m ≤ 850) {k : Int} {ps : List PE} (hk : I64n k) {a : Option Addr} {cap : Nat} (hP : PS W.heap.size W a cap ps) (hn : ps.length ≤ 64) (hf : ∀ q ∈ ps, q.fit ∧ q.t.size ≤ 100000) (hlo : ps.length ≠ 0 → ∀ b, blkOf a b → b < W0.heap.size ∧ ¬ D b) :
    Calls Tryz.prog 18 #[.pointer (some ⟨pr, 0, none⟩), .agg #[.int .i64 k, .slice a ps.length cap]] W fun e w' => e = .returned (.tuple #[.int .i64 (rrcvF r k ps).1.1, .int .i64 (rrcvF r k ps).1.2]) ∧ ∃ T' G', Mid D W0 w' pd pr T G T' G' s (rrcvF r k ps).2 (m + 17) := by
  refine (rreceive_any T2 G2 pr r W h.rd (by have := h.len; omega) k hk.1 hk.2 a cap ps hP (by omega) hf (fun h0 b hb => h.lo b (hlo h0 b hb).1 (hlo h0 b hb).2)).mono ?_
  rintro e w' ⟨rfl, T', G', q1, q2⟩
  exact ⟨rfl, T', _, h.two q1 q2 (by have := rrcv_len r k ps; have := h.len; have := h.rd.ok.hlen; omega)⟩
/-- What an Edit answers, and the states behind it. -/
def edN (s : DS) (E : Int) : Int := if E = 0 then s.v + 1 else 0
def edS (s : DS) (es : List Er) (E : Int) : DS := if E = 0 then advS s es else s
def edR (r : RS) (es : List Er) (E : Int) : RS := if E = 0 then becS r es else r
theorem mid_edt1 {D : Nat → Prop} {W0 W : World} {pd pr : Nat} {T G T2 G2 : Nat → Prop} {s : DS} {r : RS} {m : Nat} (h : Mid D W0 W pd pr T G T2 G2 s r m) {es : List Er} {a : Option Addr} {cap : Nat} (hE : ES W.heap.size W a cap es) (hn : es.length ≤ 1000) (hf : ∀ e ∈ es, e.Fit) (hT : ∀ b, blkOf a b → ¬ T b) :
    Calls Tryz.prog 14 #[.pointer (some ⟨pd, 0, none⟩), .slice a es.length cap] W fun e w' => e = .returned (.tuple #[.int .i64 (edN s (edtE s es)), .int .i64 (edtE s es)]) ∧ ∃ T' G', Mid D W0 w' pd pr T' G' T2 G2 (edS s es (edtE s es)) r m ∧ ES w'.heap.size w' a cap es := by
  refine (edit_any T G pd s W h.d a cap es hE hn hf).mono ?_
  rintro e w' hw
  rcases hw with ⟨q1, rfl, q3⟩ | ⟨q1, rfl, T', G', q3, q4⟩
  · unfold edN edS
    rw [if_neg q1, if_neg q1]
    exact ⟨rfl, T, G, h.below q3, hE.on q3⟩
  · unfold edN edS
    rw [if_pos q1, if_pos q1, q1]
    exact ⟨rfl, T', G', h.one q3 q4, es_keep2 hE q4.only.size (fun b hb hlt => q4.only.block b hlt (hT b hb))⟩
theorem mid_edt2 {D : Nat → Prop} {W0 W : World} {pd pr : Nat} {T G T2 G2 : Nat → Prop} {s : DS} {r : RS} {m : Nat} {es : List Er} {a : Option Addr} {cap : Nat} (h : Mid D W0 W pd pr T G T2 (addG G2 es.length a) s r m) (hm : m ≤ 850) (hE : ES W.heap.size W a cap es) (hn : es.length ≤ 1000) (hf : ∀ e ∈ es, e.Fit) (hT : ∀ b, blkOf a b → ¬ T2 b) :
    Calls Tryz.prog 15 #[.pointer (some ⟨pr, 0, none⟩), .slice a es.length cap] W fun e w' => e = .returned (.tuple #[.int .i64 (if redE r es = 0 then r.v + 1 else 0), .int .i64 (redE r es)]) ∧ ∃ T' G', Mid D W0 w' pd pr T G T' G' s (edR r es (redE r es)) (m + 1) := by
  refine (redit_any T2 _ pr r W h.rd (by have := h.len; omega) a cap es hE hn hf hT).mono ?_
  rintro e w' hw
  rcases hw with ⟨q1, rfl, q3⟩ | ⟨q1, rfl, T', q3, q4, q5⟩
  · unfold edR
    rw [if_neg q1, if_neg q1]
    exact ⟨rfl, T2, _, (h.below q3).mono (by omega)⟩
  · unfold edR
    rw [if_pos q1, if_pos q1, q1]
    have hs : Stp T2 (addG G2 es.length a) T' (addG (addG G2 es.length a) es.length a) W w' := ⟨q4, q5, fun b hb => by
      rcases hb with q | q
      · exact .inl q
      · exact .inl (.inr q)⟩
    exact ⟨rfl, T', _, h.two q3 hs (by show (r.h ++ _).length ≤ _; rw [List.length_append, List.length_singleton]; have := h.len; omega)⟩
theorem two_edt {s : DS} {r : RS} (h : Two s r) (es : List Er) : edtE s es = redE r es ∧ edN s (edtE s es) = (if redE r es = 0 then r.v + 1 else 0) ∧ Two (edS s es (edtE s es)) (edR r es (redE r es)) := by
  have e : edtE s es = redE r es := h.sim.edtE es
  refine ⟨e, ?_, ?_⟩
  · unfold edN; rw [e, h.sim.v]
  · unfold edS edR
    rw [e]
    split
    · rename_i hz
      exact h.adv (redE_len hz)
    · exact h

set_option maxRecDepth 100000 in
set_option maxHeartbeats 4000000 in
theorem samed_any {D : Nat → Prop} {W0 w : World} {pd pr : Nat} {T G T2 G2 : Nat → Prop} {s : DS} {r : RS} {m : Nat} (h : Mid D W0 w pd pr T G T2 G2 s r m) (h2 : Two s r) :
    Calls Tryz.prog 16 #[.pointer (some ⟨pd, 0, none⟩), .pointer (some ⟨pr, 0, none⟩)] w fun e w' => e = .returned (.bool true) ∧ Below w.heap.size w w' := by
  obtain ⟨t, ht⟩ : ∃ t, s.text = t := ⟨_, rfl⟩
  obtain ⟨v, hv⟩ : ∃ v, s.v = v := ⟨_, rfl⟩
  obtain ⟨L, hL⟩ : ∃ l, heldL s = l := ⟨_, rfl⟩
  obtain ⟨n, hn⟩ : ∃ l, s.hs.length = l := ⟨_, rfl⟩
  have hLn : L.length = n := by rw [← hL, heldL_len, hn]
  have hn16 : n ≤ 16 := by rw [← hn]; exact h.d.ok.hlen
  have C1 := fun W (hW : Below w.heap.size w W) => text_any T G pd s W (h.d.below hW)
  have C2 := fun W (hW : Below w.heap.size w W) => rtxt_any T2 G2 pr r W (h.rd.below hW)
  have C3 := fun W (hW : Below w.heap.size w W) => version_any T G pd s W (h.d.below hW)
  have C4 := fun W (hW : Below w.heap.size w W) => rversion_any T2 G2 pr r W (h.rd.below hW)
  have C5 : ∀ W, Below w.heap.size w W → Calls Tryz.prog 21 #[.pointer (some ⟨pd, 0, none⟩)] W fun e w' => ∃ a c, e = .returned (.slice a n c) ∧ Sli .i64 w' a c L ∧ Below W.heap.size W w' := fun W hW => by
    have := held_all T G pd s W (h.d.below hW)
    rw [hn, hL] at this
    refine this.mono ?_
    rintro e w' ⟨a, c, rfl, hrow, hb⟩
    obtain ⟨_, a', c', hv, hs⟩ := sli_of_own (k := .i64) (zs := L) hrow
    rw [hLn] at hv
    simp only [Value.slice.injEq] at hv
    obtain ⟨rfl, -, rfl⟩ := hv
    exact ⟨a, c, rfl, hs, hb⟩
  have C6 : ∀ W, Below w.heap.size w W → Calls Tryz.prog 42 #[.pointer (some ⟨pr, 0, none⟩)] W fun e w' => ∃ a c, e = .returned (.slice a n c) ∧ Sli .i64 w' a c L ∧ Below W.heap.size W w' := fun W hW => by
    have := rversions_any T2 G2 pr r W (h.rd.below hW)
    rw [← h2.sim.hs, versV_held, hn, hL] at this
    refine this.mono ?_
    rintro e w' ⟨a, c, rfl, hrow, hb⟩
    obtain ⟨_, a', c', hv, hs⟩ := sli_of_own (k := .i64) (zs := L) hrow
    rw [hLn] at hv
    simp only [Value.slice.injEq] at hv
    obtain ⟨rfl, -, rfl⟩ := hv
    exact ⟨a, c, rfl, hs, hb⟩
  have C7 : ∀ W a c a' c', Sli .i64 W a c L → Sli .i64 W a' c' L → Calls Tryz.prog 24 #[.slice a n c, .slice a' n c'] W fun e w' => e = .returned (.bool true) ∧ Below W.heap.size W w' := fun W a c a' c' k k' => by
    have := sameInts_any a a' c c' L L W k k' (by omega) (by omega)
    rwa [hLn, show decide (L = L) = true by simp] at this
  rw [← h2.sim.t, ht] at C2
  rw [← h2.sim.v, hv] at C4
  rw [ht] at C1
  rw [hv] at C3
  have H1 := Lib.hid C1; have H2 := Lib.hid C2; have H3 := Lib.hid C3; have H4 := Lib.hid C4; have H5 := Lib.hid C5; have H6 := Lib.hid C6; have H7 := Lib.hid C7
  have q1 : (t.toList == t.toList) = true := by simp
  have q2 : (v == v) = true := by simp
  clear h h2 C1 C2 C3 C4 C5 C6 C7 ht hv hL hn hLn
  go_enter Tryz.func16, Tryz.ntmps16
  go_wp2_with fail
  refine (H1.out w (Below.refl _ _)).mono ?_
  rintro e w1 ⟨rfl, b1⟩
  have B1 := Lib.hid b1
  clear b1
  go_wp2_with fail
  refine (H2.out w1 B1.out).mono ?_
  rintro e w2 ⟨rfl, b2⟩
  have B2 : Hid (Below w.heap.size w w2) := B1.out.trans (b2.mono B1.out.size)
  clear b2
  go_wp2_with fail
  refine (H3.out w2 B2.out).mono ?_
  rintro e w3 ⟨rfl, rfl⟩
  go_wp2_with fail
  refine (H4.out w2 B2.out).mono ?_
  rintro e w3 ⟨rfl, b3⟩
  have B3 : Hid (Below w.heap.size w w3) := B2.out.trans (b3.mono B2.out.size)
  clear b3
  go_wp2_with fail
  refine (H5.out w3 B3.out).mono ?_
  rintro e w4 ⟨a4, c4, rfl, s4, b4⟩
  have B4 : Hid (Below w.heap.size w w4) := B3.out.trans (b4.mono B3.out.size)
  have S4 := Lib.hid s4
  clear b4 s4
  go_wp2_with fail
  refine (H6.out w4 B4.out).mono ?_
  rintro e w5 ⟨a5, c5, rfl, s5, b5⟩
  have B5 : Hid (Below w.heap.size w w5) := B4.out.trans (b5.mono B4.out.size)
  have HC := Lib.hid (H7.out w5 a4 c4 a5 c5 (Sli.below S4.out b5) s5)
  clear b5 s5
  go_wp2_with fail
  refine HC.out.mono ?_
  rintro e w6 ⟨rfl, b6⟩
  have B6 : Hid (Below w.heap.size w w6) := B5.out.trans (b6.mono B5.out.size)
  clear b6
  go_wp2_with fail
  go_ret
  exact ⟨rfl, B6.out⟩

end Go.Proofs.YtkehgoailhpenaaGreat

/- The contract of Spoilt. Conditions: at most 20 changes, of versions from 1 to 100 and at most five edits. -/
namespace Go.Proofs.YtkehgoailhpenaaGreat
open Go.RowKit Go.Shelf Go.Maps
set_option linter.unusedVariables false

def qPE (l u : Int) : PE := ⟨l, u, l, u, ⟨#[113]⟩⟩

theorem qPE_ok {pl pu : Int} (h1 : I64n pl) (h2 : I64n pu) : (qPE pl pu).fit ∧ (qPE pl pu).t.size ≤ 100000 := ⟨⟨h1, h2, h1, h2⟩, by show (1 : Nat) ≤ _; omega⟩
/-- One change in two new blocks. -/
theorem spoil_lit (W : World) (h pl pu : Int) (G : Nat → Prop) (hG : ∀ b, W.heap.size ≤ b → G b) : VS ((W.alloc (.cells (qPE pl pu).vals.toArray 78)).alloc (.cells #[.int .i64 h, .slice (some ⟨W.heap.size, 0, none⟩) 1 1] 47)).heap.size ((W.alloc (.cells (qPE pl pu).vals.toArray 78)).alloc (.cells #[.int .i64 h, .slice (some ⟨W.heap.size, 0, none⟩) 1 1] 47)) (some ⟨(W.alloc (.cells (qPE pl pu).vals.toArray 78)).heap.size, 0, none⟩) 1 [(h, .slice (some ⟨W.heap.size, 0, none⟩) 1 1)] ∧
    HeldA G ((W.alloc (.cells (qPE pl pu).vals.toArray 78)).alloc (.cells #[.int .i64 h, .slice (some ⟨W.heap.size, 0, none⟩) 1 1] 47)) [(h, .slice (some ⟨W.heap.size, 0, none⟩) 1 1)] [(h, [qPE pl pu])] ∧
    Below W.heap.size W ((W.alloc (.cells (qPE pl pu).vals.toArray 78)).alloc (.cells #[.int .i64 h, .slice (some ⟨W.heap.size, 0, none⟩) 1 1] 47)) := by
  obtain ⟨W1, hW1⟩ : ∃ V, W.alloc (.cells (qPE pl pu).vals.toArray 78) = V := ⟨_, rfl⟩
  obtain ⟨W2, hW2⟩ : ∃ V, W1.alloc (.cells #[.int .i64 h, .slice (some ⟨W.heap.size, 0, none⟩) 1 1] 47) = V := ⟨_, rfl⟩
  have hps : PS W1.heap.size W1 (some ⟨W.heap.size, 0, none⟩) 1 [qPE pl pu] := by rw [← hW1]; exact ps_one W (qPE pl pu)
  have b1 : Below W.heap.size W W1 := by rw [← hW1]; exact (Below.refl _ _).alloc (Nat.le_refl _) _
  have b2 : Below W1.heap.size W1 W2 := by rw [← hW2]; exact (Below.refl _ _).alloc (Nat.le_refl _) _
  have k2 : Blk W2 W1.heap.size 47 #[.int .i64 h, .slice (some ⟨W.heap.size, 0, none⟩) 1 1] := by rw [← hW2]; exact Blk.new _ _ _
  rw [hW1, hW2]
  refine ⟨⟨Nat.le_refl _, by omega, (fun h => by cases h), .inr ⟨W1.heap.size, 0, rfl, k2.lt, fun k hk => ?_⟩⟩, ⟨rfl, fun k x hk => ?_⟩, b1.trans (b2.mono b1.size)⟩
  · obtain rfl : k = 0 := by simp at hk; exact hk
    exact ⟨k2.cell 0, k2.cell 1⟩
  · cases k with
    | zero =>
      cases hk
      exact ⟨rfl, PsG.of (hps.on b2) (fun _ b hb => hG b (by obtain ⟨_, hb⟩ := hb; cases hb; exact Nat.le_refl _))⟩
    | succ k => simp at hk
theorem cv_set1 : ∀ (us : List (Int × Value)) (k : Nat) (h : k < us.length) (x : Int), (cv us).set (k * 2) (.int .i64 x) = cv (us.set k (x, (cG us k).2)) := by
  intro us
  induction us with
  | nil => intro k h; simp at h
  | cons y us ih =>
    intro k h x
    have e : cv (y :: us) = Value.int .i64 y.1 :: y.2 :: cv us := rfl
    rw [e]
    cases k with
    | zero => rfl
    | succ k =>
      have := ih k (by simpa using h) x
      rw [show (k + 1) * 2 = (k * 2) + 1 + 1 by omega, List.set_cons_succ, List.set_cons_succ, this]
      rfl
theorem cv_set2 : ∀ (us : List (Int × Value)) (k : Nat) (h : k < us.length) (u : Value), (cv us).set (k * 2 + 1) u = cv (us.set k ((cG us k).1, u)) := by
  intro us
  induction us with
  | nil => intro k h; simp at h
  | cons y us ih =>
    intro k h u
    have e : cv (y :: us) = Value.int .i64 y.1 :: y.2 :: cv us := rfl
    rw [e]
    cases k with
    | zero => rfl
    | succ k =>
      have := ih k (by simpa using h) u
      rw [show (k + 1) * 2 + 1 = (k * 2 + 1) + 1 + 1 by omega, List.set_cons_succ, List.set_cons_succ, this]
      rfl
/-- The row of changes behind a store of a version or of edits, as a slice in memory. -/
theorem spoil_row {G : Nat → Prop} {w : World} {lo g n cap : Nat} {vs : List (Int × Value)} {As : List (Int × List PE)} (h : w.ownsRow lo 47 2 (.slice (some ⟨g, 0, none⟩) n cap) n (cv vs)) (hA : HeldA G w vs As) (hn : vs.length = n) : As.length = n ∧ VS w.heap.size w (some ⟨g, 0, none⟩) cap vs := by
  obtain ⟨_, a', c', hv, hs, _⟩ := vs_of_own h
  simp only [Value.slice.injEq] at hv
  obtain ⟨rfl, _, rfl⟩ := hv
  exact ⟨by rw [← hA.1]; exact hn, hs⟩

/-- Nothing is appended: a nil slice, whatever its capacity. -/
theorem append_nil_any {P : Program} {w : World} {ops : Array Oper} {rest : List Oper} {o : Oper} {a : Act} {Q : Exit → Act → World → Prop} (hgd : o.guard = none) (s x : Operand) (t : TypeId) (ho : o.op = .call { callee := .builtin .append, args := #[s, x], argTypes := #[t, t] })
    (base : Nat) (e : TypeId) (i : TypeInfo) (size : Nat) (ht : P.underlying t = some (.slice e)) (hi : P.info? e = some i) (v : Value) (n : Nat) (xs : List Value) (hs : a.eval s = v) (hown : w.ownsRow base e size v n xs) (c : Nat) (hx : a.eval x = .slice none 0 c)
    (h : wpList P ops Q rest (a.put o.dst v) w) : wpList P ops Q (o :: rest) a w := by
  refine wpList_plain hgd fun K hK => ?_
  have hrun : (Builtin.append_ #[t, t] o.type #[v, .slice none 0 c]).run P w = .ok v w := by
    rcases hown.2 with ⟨rfl, rfl⟩ | ⟨g, cap, cur, rfl, _, _, hnc, _⟩
    · simp [Builtin.append_, run_underlying ht, sizeOf, typeInfo, hi, Builtin.lenOf, Builtin.firstCells]
    · simp [Builtin.append_, run_underlying ht, sizeOf, typeInfo, hi, Builtin.lenOf, Builtin.firstCells, hnc, storeCells]
  unfold Oper.wp
  simp [execOp, ho, resolve, invoke, builtin, hs, hx, hrun, Result.andThen]
  exact hK _ _ h
/-- One change of the copied row is another. -/
theorem spoil_fin {G G' : Nat → Prop} {w W : World} {lo B g n cap i : Nat} {vs : List (Int × Value)} {As : List (Int × List PE)} {z : Int} {u : Value} {ps : List PE} (hA : HeldA G w vs As) (hlo : w.heap.size = lo) (hB : Below lo w W) (hn : vs.length = n) (hn20 : n ≤ 20) (hi : i < n) (hrow : W.ownsRow B 47 2 (.slice (some ⟨g, 0, none⟩) n cap) n (cv (vs.set i (z, u)))) (hg : lo ≤ g) (hu : PsG G' W u ps) (hGG : ∀ b, G b → G' b) (hok : ChSm As) (hz : I64n z) (hps : ps.length ≤ 64 ∧ ∀ q ∈ ps, q.fit ∧ q.t.size ≤ 100000) :
    ∃ vs' As', Ending.returned (.slice (some ⟨g, 0, none⟩) n cap) = .returned (.slice (some ⟨g, 0, none⟩) As'.length cap) ∧ VS W.heap.size W (some ⟨g, 0, none⟩) cap vs' ∧ (∀ b, blkOf (some ⟨g, 0, none⟩) b → lo ≤ b) ∧ HeldA G' W vs' As' ∧ ChOk As' ∧ As'.length ≤ 21 ∧ Below lo w W := by
  have hl := hA.1
  obtain ⟨hq, a', c', hv, hs, _⟩ := vs_of_own hrow
  simp only [Value.slice.injEq] at hv
  obtain ⟨rfl, _, rfl⟩ := hv
  have hAW : HeldA G' W vs As := hA.keep (by have := hB.size; omega) (fun b _ hlt => hB.block b (by omega)) hGG
  refine ⟨_, As.set i (z, ps), by rw [List.length_set, ← hl, hn], hs, (fun b hb => by obtain ⟨_, hb⟩ := hb; cases hb; exact hg), hAW.set (by omega) hu, hok.ok.set ⟨hz, hps⟩, by rw [List.length_set]; omega, hB⟩

set_option maxRecDepth 100000 in
set_option maxHeartbeats 8000000 in
theorem spoilt_any (a : Option Addr) (cap : Nat) (vs : List (Int × Value)) (As : List (Int × List PE)) (x h pl pu : Int) (w : World) (hV : VS w.heap.size w a cap vs) (G : Nat → Prop) (hA : HeldA G w vs As) (hn : vs.length ≤ 20) (hok : ChSm As) (hx : I64n x) (hh : I64n h) (hp1 : I64n pl) (hp2 : I64n pu) :
    Calls Tryz.prog 9 #[.slice a vs.length cap, .int .i64 x, .int .i64 h, .agg #[.int .i64 pl, .int .i64 pu]] w fun e w' => ∃ a' c' vs' As', e = .returned (.slice a' As'.length c') ∧ VS w'.heap.size w' a' c' vs' ∧ (∀ b, blkOf a' b → w.heap.size ≤ b) ∧ HeldA (fun b => G b ∨ w.heap.size ≤ b) w' vs' As' ∧ ChOk As' ∧ As'.length ≤ 21 ∧ Below w.heap.size w w' := by
  obtain ⟨i5, hi5, jy0, jy1, jy2⟩ := info_parts infoCh
  obtain ⟨i6, hi6, jz0, jz1, jz2⟩ := info_parts infoPE
  have hvl := hV.le
  have hvm := hV.mx
  obtain ⟨n, hn'⟩ : ∃ n, vs.length = n := ⟨_, rfl⟩
  obtain ⟨lo, hlo⟩ : ∃ l, w.heap.size = l := ⟨_, rfl⟩
  have hcells := hV.cells
  have hnil := hV.nil
  rw [hn'] at hn hvl hcells ⊢
  rw [hlo] at hcells ⊢
  obtain ⟨W0, hW0⟩ : ∃ W, w.alloc (.cells #[.int .i64 pl, .int .i64 pu] 24) = W := ⟨_, rfl⟩
  have b0 : Below lo w W0 := by rw [← hW0, ← hlo]; exact (Below.refl _ _).alloc (Nat.le_refl _) _
  have k0 : Blk W0 lo 24 #[.int .i64 pl, .int .i64 pu] := by rw [← hW0, ← hlo]; exact Blk.new _ _ _
  have z0 : W0.heap.size = lo + 1 := by rw [← hW0, ← hlo]; simp
  have HPP : Hid (∀ W, Below W0.heap.size W0 W → W.cell? ⟨lo, 0, none⟩ = some (.int .i64 pl) ∧ W.cell? ⟨lo, 1, none⟩ = some (.int .i64 pu)) := fun W hW => by
    have hk := k0.same (hW.block lo (by omega))
    have c0 := hk.cell 0
    have c1 := hk.cell 1
    simp only [List.getElem?_toArray, List.getElem?_cons_zero, List.getElem?_cons_succ] at c0 c1
    exact ⟨c0, c1⟩
  have hP0 := HPP.out W0 (Below.refl _ _)
  obtain ⟨e0, e1⟩ := hP0
  obtain ⟨G', hG'⟩ : ∃ K : Nat → Prop, (fun b => G b ∨ lo ≤ b) = K := ⟨_, rfl⟩
  rw [hG']
  have hGG : ∀ b, G b ∨ lo ≤ b → G' b := fun b hb => by rw [← hG']; exact hb
  by_cases h0 : n = 0
  · subst h0
    have HLIT : Hid (∀ V, Below W0.heap.size W0 V → VS ((V.alloc (.cells (qPE pl pu).vals.toArray 78)).alloc (.cells #[.int .i64 h, .slice (some ⟨V.heap.size, 0, none⟩) 1 1] 47)).heap.size ((V.alloc (.cells (qPE pl pu).vals.toArray 78)).alloc (.cells #[.int .i64 h, .slice (some ⟨V.heap.size, 0, none⟩) 1 1] 47)) (some ⟨(V.alloc (.cells (qPE pl pu).vals.toArray 78)).heap.size, 0, none⟩) 1 [(h, .slice (some ⟨V.heap.size, 0, none⟩) 1 1)] ∧ (∀ b, blkOf (some ⟨(V.alloc (.cells (qPE pl pu).vals.toArray 78)).heap.size, 0, none⟩) b → lo ≤ b) ∧ HeldA G' ((V.alloc (.cells (qPE pl pu).vals.toArray 78)).alloc (.cells #[.int .i64 h, .slice (some ⟨V.heap.size, 0, none⟩) 1 1] 47)) [(h, .slice (some ⟨V.heap.size, 0, none⟩) 1 1)] [(h, [qPE pl pu])] ∧ ChOk [(h, [qPE pl pu])] ∧ [(h, [qPE pl pu])].length ≤ 21 ∧ Below lo w ((V.alloc (.cells (qPE pl pu).vals.toArray 78)).alloc (.cells #[.int .i64 h, .slice (some ⟨V.heap.size, 0, none⟩) 1 1] 47))) := fun V hV => by
      have hzV := hV.size
      obtain ⟨l1, l2, l3⟩ := spoil_lit V h pl pu G' (fun b hb => hGG b (.inr (by omega)))
      refine ⟨l1, (fun b hb => by obtain ⟨_, hb⟩ := hb; cases hb; simp; omega), l2, ?_, by simp, (b0.trans (hV.mono (by omega))).trans (l3.mono (by omega))⟩
      intro y hy
      simp only [List.mem_singleton] at hy
      subst hy
      exact ⟨hh, by simp, fun q hq => by simp only [List.mem_singleton] at hq; subst hq; exact qPE_ok hp1 hp2⟩
    have HLO := Lib.hid hlo
    clear hV hA hok hn' hcells hlo b0 k0 z0 hG' hGG
    subst hW0
    cases a with
    | none =>
      obtain rfl : cap = 0 := hnil rfl
      go_enter Tryz.func9, Tryz.ntmps9
      go_wp2_with (at_builtin; refine wpList_append_own_none rfl _ _ 25 rfl lo 47 i5 2 Tryz.underlying25 hi5 (.slice none 0 0) 0 [] rfl (World.ownsRow_nil _ _ _ _) rfl ?_)
      go_ret
      have HQ := HLIT.out _ (Below.refl _ _)
      simp only [World.size_alloc, show (qPE pl pu).vals.toArray = #[.int .i64 pl, .int .i64 pu, .int .i64 pl, .int .i64 pu, .string ⟨#[113]⟩] from rfl] at HQ
      refine ⟨_, 1, [(h, .slice (some ⟨w.heap.size + 1, 0, none⟩) 1 1)], [(h, [qPE pl pu])], rfl, ?_⟩
      simp only [World.size_alloc]
      exact HQ
    | some ad =>
      go_enter Tryz.func9, Tryz.ntmps9
      go_wp2_with (at_builtin; refine wpList_append_own_at _ rfl _ _ 25 rfl lo 47 i5 (.agg #[.int .i64 0, .slice none 0 0]) 2 32 Tryz.underlying25 hi5 jy0 jy1 jy2 rfl (by decide) (.slice none 0 0) 0 [] rfl (World.ownsRow_nil _ _ _ _) ad 0 cap [] rfl rfl (fun j u h => by simp at h) (fun x hx => by simp at hx) (by unfold maxLen; omega) (by omega) (by simp; have := HLO.out; omega) ?_; intro v' w6 hown6 hgrow6 hn6 hat6; obtain rfl := hn6.2 ⟨rfl, rfl⟩; have B6 := (Below.refl _ _).grown hgrow6 (Nat.le_refl _) (fun g hg => by cases hg); obtain ⟨f0, f1⟩ := HPP.out w6 B6; rw [← HLO.out] at f0 f1; clear hown6 hgrow6 hn6 hat6)
      go_ret
      have HQ := HLIT.out w6 B6
      simp only [World.size_alloc, show (qPE pl pu).vals.toArray = #[.int .i64 pl, .int .i64 pu, .int .i64 pl, .int .i64 pu, .string ⟨#[113]⟩] from rfl] at HQ
      refine ⟨_, 1, [(h, .slice (some ⟨w6.heap.size, 0, none⟩) 1 1)], [(h, [qPE pl pu])], rfl, ?_⟩
      simp only [World.size_alloc]
      exact HQ
  · obtain ⟨b, off, rfl, hb, hc⟩ := hcells.resolve_left h0
    have hnews : ∀ j u, (cv vs)[j]? = some u → W0.cell? ((⟨b, off, none⟩ : Addr).add j) = some u := vscells_at (fun k hk => by
      obtain ⟨q1, q2⟩ := hc k (by rw [← hn']; exact hk)
      exact ⟨(b0.cell (p := ⟨b, off + k * 2, none⟩) hb).trans q1, (b0.cell (p := ⟨b, off + k * 2 + 1, none⟩) hb).trans q2⟩)
    have hlen2 : (cv vs).length = n * 2 := by rw [cv_len, hn']
    have HNW := Lib.hid hnews; have HL2 := Lib.hid hlen2; have HOK := Lib.hid hA.ok; have HLO := Lib.hid hlo; have HN := Lib.hid hn'; have HA := Lib.hid hA; have HB0 := Lib.hid b0; have HZ0 := Lib.hid z0; have HSM := Lib.hid hok; have HGG := Lib.hid hGG
    have hnpos : 0 < n := by omega
    have hal : As.length = n := by rw [← hA.1]; exact hn'
    have CA1 := fun W => around_any x n W hx.1 hx.2 (by omega) (by omega)
    have CA2 := fun W => around_any h 3 W hh.1 hh.2 (by omega) (by omega)
    have HA1 := Lib.hid CA1; have HA2 := Lib.hid CA2
    have HLA := Lib.hid hal
    have HW0 := Lib.hid hW0
    clear hV hA hok hn' hcells hlo hc hnews hlen2 hnil h0 b0 k0 z0 hG' hGG hal CA1 CA2 e0 e1 hW0
    go_enter Tryz.func9, Tryz.ntmps9
    go_wp2_with (at_builtin; rw [show w.alloc (.cells #[.int .i64 pl, .int .i64 pu] 24) = W0 from HW0.out]; refine wpList_append_own_at _ rfl _ _ 25 rfl (lo + 1) 47 i5 (.agg #[.int .i64 0, .slice none 0 0]) 2 32 Tryz.underlying25 hi5 jy0 jy1 jy2 rfl (by decide) (.slice none 0 0) 0 [] rfl (World.ownsRow_nil _ _ _ _) ⟨b, off, none⟩ n cap (cv vs) rfl HL2.out HNW.out HOK.out.one (by unfold maxLen; omega) (by omega) (by have := HZ0.out; omega) ?_; intro v' w1 hown hgrow _ hat; obtain ⟨av, cv9, rfl⟩ := own_slice hown)
    rw [Nat.zero_add, List.nil_append] at hown
    have b01 : Below W0.heap.size W0 w1 := (Below.refl _ _).grown hgrow (Nat.le_refl _) (fun g hg => by cases hg)
    obtain ⟨g, hvv⟩ : ∃ g, av = some ⟨g, 0, none⟩ := by
      obtain ⟨m, hm⟩ : ∃ m, n = m + 1 := ⟨n - 1, by omega⟩
      have h1 := hown
      rw [hm] at h1
      obtain ⟨g, cp, h2⟩ := ownsRow_succ h1
      simp only [Value.slice.injEq] at h2
      exact ⟨g, h2.1⟩
    subst hvv
    have HO1 := Lib.hid hown; have HB1 : Hid (Below lo w w1) := HB0.out.trans (b01.mono (by have := HB0.out.size; have := HLO.out; omega))
    have HP1 : Hid (Below W0.heap.size W0 w1) := b01
    have HA9 : Hid (HeldA G w1 vs As) := HA.out.on (by rw [HLO.out]; exact HB1.out)
    clear hown hgrow b01 hat
    refine (HA1.out w1).mono ?_
    rintro e w' ⟨i, hi, rfl, rfl⟩
    go_wp2_with fail
    refine (HA2.out w1).mono ?_
    rintro e w' ⟨r, hr, rfl, rfl⟩
    have hi2 : (i : Int) < (n : Int) := by omega
    have hvl9 : vs.length = n := HN.out
    have hgl := (HO1.out.lt g rfl)
    obtain ⟨y, hy⟩ : ∃ y, As[i]? = some y := ⟨_, List.getElem?_eq_getElem (by rw [HLA.out]; exact hi)⟩
    obtain ⟨vi, hvi⟩ : ∃ z, (cG vs i).1 = z := ⟨_, rfl⟩
    have hyv := (HA9.out.2 i y hy).1
    have hyp := (HA9.out.2 i y hy).2
    rw [hvi] at hyv
    obtain ⟨⟨s1, s2⟩, s3, s4⟩ := HSM.out y (List.mem_of_getElem? hy)
    rw [← hyv] at s1 s2
    obtain ⟨ai, ci, ei, hps⟩ := hyp.ps
    obtain ⟨x1, x2⟩ := cv_get vs i (by omega)
    have hcl := cv_len vs
    have c1 := HO1.out.cellAt (i * 2) (by omega)
    have c2 := HO1.out.cellAt (i * 2 + 1) (by omega)
    rw [x1, hvi] at c1; rw [x2, ei] at c2
    have f1 : w1.frozen? ⟨g, i * 2, none⟩ = false := HO1.out.frozenAt _
    have f2 : w1.frozen? ⟨g, i * 2 + 1, none⟩ = false := HO1.out.frozenAt _
    have hz1 : lo ≤ w1.heap.size := by have := HB1.out.size; have := HLO.out; omega
    have hyG : ∀ W, Below lo w W → PsG G' W (.slice ai y.2.length ci) y.2 := fun W hW => by
      have h1 := (HA.out.2 i y hy).2
      rw [ei] at h1
      exact h1.keep (by have := hW.size; omega) (fun b _ hlt => hW.block b (by rw [← HLO.out]; exact hlt)) (fun b hb => HGG.out b (.inl hb))
    have HVER : Hid (∀ z W, I64n z → W.heap = (w1.setCell ⟨g, i * 2, none⟩ (.int .i64 z)).heap → Below lo w W → W.ownsRow (lo + 1) 47 2 (.slice (some ⟨g, 0, none⟩) n cv9) n ((cv vs).set (i * 2) (.int .i64 z)) → ∃ vs' As', Ending.returned (.slice (some ⟨g, 0, none⟩) n cv9) = .returned (.slice (some ⟨g, 0, none⟩) As'.length cv9) ∧ VS W.heap.size W (some ⟨g, 0, none⟩) cv9 vs' ∧ (∀ b, blkOf (some ⟨g, 0, none⟩) b → lo ≤ b) ∧ HeldA G' W vs' As' ∧ ChOk As' ∧ As'.length ≤ 21 ∧ Below lo w W) := fun z W hz _ hW hrow => by
      rw [cv_set1 vs i (by omega), ei] at hrow
      exact spoil_fin HA.out HLO.out hW hvl9 hn hi hrow (by omega) (hyG W hW) (fun b hb => HGG.out b (.inl hb)) HSM.out hz ⟨by omega, s4⟩
    have HEDS : Hid (∀ u ps W, Below lo w W → PsG G' W u ps → (ps.length ≤ 64 ∧ ∀ q ∈ ps, q.fit ∧ q.t.size ≤ 100000) → W.ownsRow (lo + 1) 47 2 (.slice (some ⟨g, 0, none⟩) n cv9) n ((cv vs).set (i * 2 + 1) u) → ∃ vs' As', Ending.returned (.slice (some ⟨g, 0, none⟩) n cv9) = .returned (.slice (some ⟨g, 0, none⟩) As'.length cv9) ∧ VS W.heap.size W (some ⟨g, 0, none⟩) cv9 vs' ∧ (∀ b, blkOf (some ⟨g, 0, none⟩) b → lo ≤ b) ∧ HeldA G' W vs' As' ∧ ChOk As' ∧ As'.length ≤ 21 ∧ Below lo w W) := fun u ps W hW hu hps hrow => by
      rw [cv_set2 vs i (by omega), hvi] at hrow
      exact spoil_fin HA.out HLO.out hW hvl9 hn hi hrow (by omega) hu (fun b hb => HGG.out b (.inl hb)) HSM.out ⟨by omega, by omega⟩ hps
    have hr3 : r = 0 ∨ r = 1 ∨ r = 2 := by omega
    have HPSi := Lib.hid (And.intro hps (And.intro s3 (And.intro s4 hyG)))
    obtain ⟨ni, hni⟩ : ∃ x, y.2.length = x := ⟨_, rfl⟩
    rw [hni] at c2
    have HNI := Lib.hid hni
    have hgl1 : lo ≤ g := by omega
    clear hr x1 x2 hcl hy hyv hyp s3 s4 ei hps hvi hni hyG hvl9
    rcases hr3 with rfl | rfl | rfl
    · obtain ⟨Q, hQ⟩ : ∃ q, h.tdiv 3 = q := ⟨_, rfl⟩
      have hQb : I64n Q ∧ IntKind.i64.wrap Q = Q := by
        have h9 : -9223372036854775808 ≤ Q ∧ Q ≤ 9223372036854775807 := by
          rw [← hQ]
          rcases Int.le_total 0 h with h0 | h0
          · rw [Int.tdiv_eq_ediv_of_nonneg h0]; have := hh.2; omega
          · have e : h.tdiv 3 = -((-h) / 3) := by rw [← Int.tdiv_eq_ediv_of_nonneg (by omega : 0 ≤ -h), Int.neg_tdiv]; omega
            rw [e]; have := hh.1; omega
        exact ⟨h9, by simp [IntKind.wrap, IntKind.signed, IntKind.bits]; omega⟩
      have hQw := hQb.2
      have HBD : Hid (∀ W, Calls Tryz.prog 34 #[.int .i64 Q, .int .i64 20] W (InBound 20 W)) := fun W => bound_any Q 20 W hQb.1.1 hQb.1.2 (by omega)
      have d1 : w1.drew.cell? ⟨g, i * 2, none⟩ = some (.int .i64 vi) := c1
      have d2 : w1.drew.frozen? ⟨g, i * 2, none⟩ = false := f1
      have HRW : Hid (∀ z, (w1.drew.setCell ⟨g, i * 2, none⟩ (.int .i64 z)).ownsRow (lo + 1) 47 2 (.slice (some ⟨g, 0, none⟩) n cv9) n ((cv vs).set (i * 2) (.int .i64 z))) := fun z => (World.ownsRow.stored (w := w1.drew) HO1.out (i * 2) (.int .i64 z)).1
      clear hQb
      go_wp2_with fail
      go_region_with (go_at_call 34; refine (HBD.out _).mono ?_; rintro e w5 ⟨kb, kb1, kb2, rfl, rfl⟩; have hwr : IntKind.i64.wrap (vi + kb) = vi + kb := (by simp [IntKind.wrap, IntKind.signed, IntKind.bits]; omega))
      all_goals
        have HQ := Lib.hid (HVER.out (vi + kb) (w1.drew.setCell ⟨g, i * 2, none⟩ (.int .i64 (vi + kb))) ⟨by omega, by omega⟩ rfl (HB1.out.drew.setCell (p := ⟨g, i * 2, none⟩) hgl1 _) (HRW.out _))
        go_wp2_with fail
        go_ret
        exact ⟨_, _, HQ.out⟩
    · have hrow := (HO1.out.stored (i * 2) (.int .i64 h)).1
      have HQ := Lib.hid (HVER.out h _ hh rfl (HB1.out.setCell (p := ⟨g, i * 2, none⟩) hgl1 _) hrow)
      clear hrow
      go_wp2_with fail
      go_ret
      exact ⟨_, _, HQ.out⟩
    · obtain ⟨ps, hpsq⟩ : ∃ q, y.2 = q := ⟨_, rfl⟩
      rw [hpsq] at HPSi HNI
      have hni5 : ni ≤ 5 := by have := HPSi.out.2.1; have := HNI.out; omega
      have hpl : (pv ps).length = ni * 5 := by rw [pv_len, HNI.out]
      have HPL := Lib.hid hpl
      have HK7 : Hid (∀ v7 w7, w7.ownsRow w1.heap.size 78 5 v7 ni (pv ps) → Below w1.heap.size w1 w7 →
          w7.cell? ⟨w.heap.size, 0, none⟩ = some (.int .i64 pl) ∧ w7.cell? ⟨w.heap.size, 1, none⟩ = some (.int .i64 pu) ∧ Hid (World.ownsRow (w7.alloc (.cells #[.int .i64 pl, .int .i64 pu, .int .i64 pl, .int .i64 pu, .string ⟨#[113]⟩] 78)) w1.heap.size 78 5 v7 ni (pv ps)) ∧ Hid (Below w1.heap.size w1 (w7.alloc (.cells #[.int .i64 pl, .int .i64 pu, .int .i64 pl, .int .i64 pu, .string ⟨#[113]⟩] 78))) ∧ w1.heap.size ≤ (w7.alloc (.cells #[.int .i64 pl, .int .i64 pu, .int .i64 pl, .int .i64 pu, .string ⟨#[113]⟩] 78)).heap.size) := fun v7 w7 h1 h2 => by
        obtain ⟨q0, q1⟩ := HPP.out w7 (HP1.out.trans (h2.mono HP1.out.size))
        rw [← HLO.out] at q0 q1
        have h3 := h2.alloc h2.size (.cells #[.int .i64 pl, .int .i64 pu, .int .i64 pl, .int .i64 pu, .string ⟨#[113]⟩] 78)
        exact ⟨q0, q1, h1.alloc _, h3, h3.size⟩
      have HK9 : Hid (∀ v7 W8 v9 w9, World.ownsRow W8 w1.heap.size 78 5 v7 ni (pv ps) → Below w1.heap.size w1 W8 → w9.ownsRow w1.heap.size 78 5 v9 (ni + 1) (pv ps ++ [.int .i64 pl, .int .i64 pu, .int .i64 pl, .int .i64 pu, .string ⟨#[113]⟩]) → W8.grownBy w9 v7.ownBlock →
          ∃ a9 c9, v9 = .slice a9 (ni + 1) c9 ∧ w9.cell? ⟨g, i * 2 + 1, none⟩ = some (.slice ai ni ci) ∧ w9.frozen? ⟨g, i * 2 + 1, none⟩ = false ∧ Hid (∃ vs' As', Ending.returned (.slice (some ⟨g, 0, none⟩) n cv9) = .returned (.slice (some ⟨g, 0, none⟩) As'.length cv9) ∧ VS (w9.setCell ⟨g, i * 2 + 1, none⟩ (.slice a9 (ni + 1) c9)).heap.size (w9.setCell ⟨g, i * 2 + 1, none⟩ (.slice a9 (ni + 1) c9)) (some ⟨g, 0, none⟩) cv9 vs' ∧ (∀ b, blkOf (some ⟨g, 0, none⟩) b → lo ≤ b) ∧ HeldA G' (w9.setCell ⟨g, i * 2 + 1, none⟩ (.slice a9 (ni + 1) c9)) vs' As' ∧ ChOk As' ∧ As'.length ≤ 21 ∧ Below lo w (w9.setCell ⟨g, i * 2 + 1, none⟩ (.slice a9 (ni + 1) c9)))) := fun v7 W8 v9 w9 h1 h2 h3 h4 => by
        have hb9 : Below w1.heap.size w1 w9 := h2.grown h4 h2.size (fun q hq => (h1.lt q hq).1)
        have hrow : w9.ownsRow (lo + 1) 47 2 (.slice (some ⟨g, 0, none⟩) n cv9) n (cv vs) := own_same HO1.out (fun q hq => hb9.block q (HO1.out.lt q hq).2)
        have e9 : pv ps ++ [.int .i64 pl, .int .i64 pu, .int .i64 pl, .int .i64 pu, .string ⟨#[113]⟩] = pv (ps ++ [qPE pl pu]) := by unfold pv; rw [List.flatMap_append]; rfl
        rw [e9] at h3
        obtain ⟨hl9, a9, c9, rfl, hP9, hb9b⟩ := ps_of_own h3
        have hl9' : (ps ++ [qPE pl pu]).length = ni + 1 := hl9.symm
        have hlw : lo ≤ w9.heap.size := by have := hb9.size; omega
        have hbW : Below lo w (w9.setCell ⟨g, i * 2 + 1, none⟩ (.slice a9 (ni + 1) c9)) := (HB1.out.trans (hb9.mono hz1)).setCell (p := ⟨g, i * 2 + 1, none⟩) hgl1 _
        have hst := (hrow.stored (i * 2 + 1) (.slice a9 (ni + 1) c9)).1
        have hgr := (hrow.stored (i * 2 + 1) (.slice a9 (ni + 1) c9)).2
        have hps9 : PsG G' (w9.setCell ⟨g, i * 2 + 1, none⟩ (.slice a9 (ni + 1) c9)) (.slice a9 (ni + 1) c9) (ps ++ [qPE pl pu]) := by
          have h5 := PsG.of (G := fun b => w1.heap.size ≤ b) hP9 (fun _ b hb => hb9b b hb)
          rw [hl9'] at h5
          exact h5.keep hgr.size (fun b hb hlt => hgr.block b hlt (fun e => by cases e; have := (HO1.out.lt g rfl).2; omega)) (fun b hb => HGG.out b (.inr (by omega)))
        refine ⟨a9, c9, by rw [hl9'], (hb9.cell (p := ⟨g, i * 2 + 1, none⟩) (HO1.out.lt g rfl).2).trans c2, hrow.frozenAt _, ?_⟩
        refine HEDS.out _ (ps ++ [qPE pl pu]) _ hbW hps9 ⟨by omega, fun q hq => ?_⟩ hst
        rcases List.mem_append.1 hq with h6 | h6
        · exact HPSi.out.2.2.1 q h6
        · simp only [List.mem_singleton] at h6; subst h6; exact qPE_ok hp1 hp2
      have HON := Lib.hid (World.ownsRow_nil w1 w1.heap.size 78 5)
      have HONE : Hid (∀ x ∈ ([.int .i64 pl, .int .i64 pu, .int .i64 pl, .int .i64 pu, .string ⟨#[113]⟩] : List Value), x.oneCell' = true) := Lib.hid (fun x hx => by simp at hx; rcases hx with rfl | rfl | rfl | rfl | rfl <;> rfl)
      clear hpsq hpl
      cases ai with
      | none =>
        have hn0 : ni = 0 := by
          rcases HPSi.out.1.cells with h9 | ⟨_, _, h9, _⟩
          · have := HNI.out; rw [← this]; exact h9
          · cases h9
        subst hn0
        have hps0 : ps = [] := List.eq_nil_of_length_eq_zero HNI.out
        subst hps0
        obtain ⟨e0, e1, HO8, HB8, z8⟩ := HK7.out (.slice none 0 0) w1 HON.out (Below.refl _ _)
        go_wp2_with (first
          | (at_builtin; refine append_nil_any rfl _ _ 45 rfl w1.heap.size 78 i6 5 Tryz.underlying45 hi6 (.slice none 0 0) 0 [] rfl HON.out ci rfl ?_)
          | (at_builtin; refine wpList_append_own_at _ rfl _ _ 45 rfl w1.heap.size 78 i6 (.agg #[.int .i64 0, .int .i64 0, .int .i64 0, .int .i64 0, .string ⟨#[]⟩]) 5 48 Tryz.underlying45 hi6 jz0 jz1 jz2 rfl (by decide) (.slice none 0 0) 0 (pv []) rfl HO8.out ⟨w1.heap.size, 0, none⟩ 1 1 [.int .i64 pl, .int .i64 pu, .int .i64 pl, .int .i64 pu, .string ⟨#[113]⟩] rfl rfl (cells_news w1 [.int .i64 pl, .int .i64 pu, .int .i64 pl, .int .i64 pu, .string ⟨#[113]⟩] _) HONE.out (by unfold maxLen; omega) (by omega) z8 ?_; intro v9 w9 hown9 hgrow9 _ _; obtain ⟨a9, c9, rfl, g1, g2, HQ⟩ := HK9.out _ _ v9 w9 HO8.out HB8.out hown9 hgrow9; clear hown9 hgrow9))
        go_ret
        exact ⟨_, _, HQ.out⟩
      | some ad =>
        have hc : ∀ j u, (pv ps)[j]? = some u → w1.cell? (ad.add j) = some u := by
          rcases HPSi.out.1.cells with h9 | ⟨b9, off9, h9, _, hc9⟩
          · intro j u hj
            have := (List.getElem?_eq_some_iff.1 hj).1
            have := HPL.out; have := HNI.out
            omega
          · cases h9
            exact pscells_at (B := 0) (cap := ci) hc9
        have HC9 := Lib.hid hc
        clear hc
        go_wp2_with (first
          | (at_builtin; refine wpList_append_own_at _ rfl _ _ 45 rfl w1.heap.size 78 i6 (.agg #[.int .i64 0, .int .i64 0, .int .i64 0, .int .i64 0, .string ⟨#[]⟩]) 5 48 Tryz.underlying45 hi6 jz0 jz1 jz2 rfl (by decide) (.slice none 0 0) 0 [] rfl HON.out ad ni ci (pv ps) rfl HPL.out HC9.out (PE_one ps) (by unfold maxLen; omega) (by omega) (Nat.le_refl _) ?_; intro v7 w7 hown7 hgrow7 _ _; rw [Nat.zero_add, List.nil_append] at hown7; have B7 := (Below.refl w1.heap.size w1).grown hgrow7 (Nat.le_refl _) (fun g hg => by cases hg); obtain ⟨e0, e1, HO8, HB8, z8⟩ := HK7.out v7 w7 hown7 B7; clear hown7 hgrow7)
          | (at_builtin; refine wpList_append_own_at _ rfl _ _ 45 rfl w1.heap.size 78 i6 (.agg #[.int .i64 0, .int .i64 0, .int .i64 0, .int .i64 0, .string ⟨#[]⟩]) 5 48 Tryz.underlying45 hi6 jz0 jz1 jz2 rfl (by decide) v7 ni (pv ps) rfl HO8.out ⟨w7.heap.size, 0, none⟩ 1 1 [.int .i64 pl, .int .i64 pu, .int .i64 pl, .int .i64 pu, .string ⟨#[113]⟩] rfl rfl (cells_news w7 [.int .i64 pl, .int .i64 pu, .int .i64 pl, .int .i64 pu, .string ⟨#[113]⟩] _) HONE.out (by unfold maxLen; omega) (by omega) z8 ?_; intro v9 w9 hown9 hgrow9 _ _; obtain ⟨a9, c9, rfl, g1, g2, HQ⟩ := HK9.out _ _ v9 w9 HO8.out HB8.out hown9 hgrow9; clear hown9 hgrow9))
        go_ret
        exact ⟨_, _, HQ.out⟩

end Go.Proofs.YtkehgoailhpenaaGreat
