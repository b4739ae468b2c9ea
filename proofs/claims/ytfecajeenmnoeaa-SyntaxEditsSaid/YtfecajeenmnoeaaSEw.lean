/- The walk of SyntaxEdits. It has no conditions. -/
import Derived.Test.YtfecajeenmnoeaaSEn
import Derived.Test.YtfecajeenmnoeaaSRo
import Derived.Test.YtfecajeenmnoeaaSLi
namespace Go.Proofs.Ytfecajeenmnoeaa
open Go.RowKit Go.Shelf
set_option linter.unusedVariables false

theorem slJ_toE {w w' : World} {a : Option Addr} {n : Nat} (h : SlJ w.heap.size w a n) (hb : Below w.heap.size w w') : SlJ w'.heap.size w' a n := by
  rcases h.below hb with h0 | ⟨b, off, ha, hlt, hc⟩
  · exact .inl h0
  · exact .inr ⟨b, off, ha, by have := hb.size; omega, hc⟩

set_option maxRecDepth 100000 in
set_option maxHeartbeats 16000000 in
theorem walkSEdits (a0 : Option Addr) (c0 : Nat) (ls : List Int) (a1 : Option Addr) (c1 : Nat) (ms : List Int) (a2 : Option Addr) (c2 : Nat) (ks : List Int) (w : World) (hl : Sli .i64 w a0 c0 ls) (hwl : ∀ n ∈ ls, -9223372036854775808 ≤ n ∧ n ≤ 9223372036854775807) (hm : Sli .i64 w a1 c1 ms) (hwm : ∀ n ∈ ms, -9223372036854775808 ≤ n ∧ n ≤ 9223372036854775807) (hk : Sli .i64 w a2 c2 ks) (hwk : ∀ n ∈ ks, -9223372036854775808 ≤ n ∧ n ≤ 9223372036854775807) :
    Calls Try.prog 10 #[.slice a0 ls.length c0, .slice a1 ms.length c1, .slice a2 ks.length c2] w fun e w' => e = .returned (.bool true) ∧ Below w.heap.size w w' := by
  have hlle := hl.le
  have hlmx := hl.mx
  have hkle := hk.le
  have hkmx := hk.mx
  have HTR0 : Hid (∀ W, Below w.heap.size w W → Calls Try.prog 12 #[.slice a0 ls.length c0] W (TreeP W)) := fun W hW => Tree_any a0 ls.length c0 hlle hlmx W (slJ_toE (SlJ.of hl hwl) hW)
  have HTR2 : Hid (∀ W, Below w.heap.size w W → Calls Try.prog 12 #[.slice a2 ks.length c2] W (TreeP W)) := fun W hW => Tree_any a2 ks.length c2 hkle hkmx W (slJ_toE (SlJ.of hk hwk) hW)
  have HMJ : Hid (∀ W, Below w.heap.size w W → SlJ W.heap.size W a1 ms.length) := fun W hW => slJ_toE (SlJ.of hm hwm) hW
  have hmle := hm.le
  have hmmx := hm.mx
  obtain ⟨ln, hln⟩ : ∃ z, ls.length = z := ⟨_, rfl⟩
  obtain ⟨mn, hmn⟩ : ∃ z, ms.length = z := ⟨_, rfl⟩
  obtain ⟨kn, hkn⟩ : ∃ z, ks.length = z := ⟨_, rfl⟩
  rw [hln] at HTR0
  rw [hkn] at HTR2
  rw [hmn] at HMJ hmle
  rw [hln, hmn, hkn]
  have HB1 : Hid (Below w.heap.size w w) := Below.refl _ _
  clear hl hwl hm hwm hk hwk hln hmn hkn hlle hlmx hkle hkmx
  go_enter Try.func10, Try.ntmps10
  go_wp2_with fail
  refine (HTR0.out w HB1.out).mono ?_
  rintro e w2 ⟨n, na, nn, nc, rfl, hkv, hsm, _, b2⟩
  obtain ⟨w3, hw3⟩ : ∃ W, w2.alloc (.cells (ndc n na nn nc) 25) = W := ⟨_, rfl⟩
  have b23 : Below w2.heap.size w2 w3 := by rw [← hw3]; exact (Below.refl _ _).alloc (Nat.le_refl _) _
  have k3 : Blk w3 w2.heap.size 25 (ndc n na nn nc) := by rw [← hw3]; exact Blk.new _ _ _
  have hkv3 := hkv.on b23
  have bp : Below w.heap.size w w3 := b2.trans (b23.mono b2.size)
  have HBw3 : Hid (Below w.heap.size w w3) := HB1.out.trans (bp.mono HB1.out.size)
  obtain ⟨qn, hqn⟩ : ∃ q, w2.heap.size = q := ⟨_, rfl⟩
  rw [hqn] at k3
  obtain ⟨ni, hi⟩ : ∃ z, n.id = z := ⟨_, rfl⟩
  obtain ⟨nk, hk⟩ : ∃ z, n.kind = z := ⟨_, rfl⟩
  obtain ⟨nt, ht⟩ : ∃ z, n.text = z := ⟨_, rfl⟩
  unfold ndc at hw3 k3
  rw [hi, hk, ht] at hw3 k3
  have HN_n := Lib.hid (And.intro hi (And.intro hk ht)); have HK_n := Lib.hid hkv3; have HB_n := Lib.hid k3; have HW_n := Lib.hid hw3; have HQ_n := Lib.hid hqn
  have hc1 := hsm.cnt
  have hc2 : n.cnt ≤ 3125 := hc1
  have hc3 := hsm.pw
  have HC_n : Hid (n.cnt ≤ 50000 ∧ n.pw ≤ 50000 ∧ n.tidy) := ⟨by omega, by omega, hsm.tidy⟩
  unfold ndv
  rw [hi, hk, ht]
  clear hkv hsm b2 b23 k3 hkv3 bp hi hk ht hw3 hqn hc1 hc2 hc3
  go_wp2_with fail
  rw [HW_n.out, HQ_n.out]
  refine (HTR2.out w3 HBw3.out).mono ?_
  rintro e w4 ⟨b, ba, bn, bc, rfl, hkv, hsm, _, b2⟩
  obtain ⟨w8, hw3⟩ : ∃ W, w4.alloc (.cells (ndc b ba bn bc) 25) = W := ⟨_, rfl⟩
  have b23 : Below w4.heap.size w4 w8 := by rw [← hw3]; exact (Below.refl _ _).alloc (Nat.le_refl _) _
  have k3 : Blk w8 w4.heap.size 25 (ndc b ba bn bc) := by rw [← hw3]; exact Blk.new _ _ _
  have hkv3 := hkv.on b23
  have bp : Below w3.heap.size w3 w8 := b2.trans (b23.mono b2.size)
  have HBw8 : Hid (Below w.heap.size w w8) := HBw3.out.trans (bp.mono HBw3.out.size)
  obtain ⟨qb, hqb⟩ : ∃ q, w4.heap.size = q := ⟨_, rfl⟩
  rw [hqb] at k3
  obtain ⟨bi, hi⟩ : ∃ z, b.id = z := ⟨_, rfl⟩
  obtain ⟨bk, hk⟩ : ∃ z, b.kind = z := ⟨_, rfl⟩
  obtain ⟨bt, ht⟩ : ∃ z, b.text = z := ⟨_, rfl⟩
  unfold ndc at hw3 k3
  rw [hi, hk, ht] at hw3 k3
  have HN_b := Lib.hid (And.intro hi (And.intro hk ht)); have HK_b := Lib.hid hkv3; have HB_b := Lib.hid k3; have HW_b := Lib.hid hw3; have HQ_b := Lib.hid hqb
  have hc1 := hsm.cnt
  have hc2 : b.cnt ≤ 3125 := hc1
  have hc3 := hsm.pw
  have HC_b : Hid (b.cnt ≤ 50000 ∧ b.pw ≤ 50000 ∧ b.tidy) := ⟨by omega, by omega, hsm.tidy⟩
  have HB_n8 := Lib.hid (HB_n.out.same (bp.block _ HB_n.out.lt))
  have HK_n8 := Lib.hid (HK_n.out.on bp)
  unfold ndv
  rw [hi, hk, ht]
  have HNX : Hid (∀ V, Below w8.heap.size w8 V → V.cell? ⟨qn, 0, none⟩ = some (.int .i64 ni) ∧ V.cell? ⟨qn, 1, none⟩ = some (.int .i64 nk) ∧ V.cell? ⟨qn, 2, none⟩ = some (.string nt) ∧ V.cell? ⟨qn, 3, none⟩ = some (.slice na nn nc) ∧ V.cell? ⟨qb, 0, none⟩ = some (.int .i64 bi) ∧ V.cell? ⟨qb, 1, none⟩ = some (.int .i64 bk) ∧ V.cell? ⟨qb, 2, none⟩ = some (.string bt) ∧ V.cell? ⟨qb, 3, none⟩ = some (.slice ba bn bc)) := fun V hV => by
    have h1 := HB_n8.out.same (hV.block qn HB_n8.out.lt)
    have h2 := HB_b.out.same (hV.block qb HB_b.out.lt)
    exact ⟨h1.cell 0, h1.cell 1, h1.cell 2, h1.cell 3, h2.cell 0, h2.cell 1, h2.cell 2, h2.cell 3⟩
  have HRO : Hid (∀ W, Below w8.heap.size w8 W → Calls Try.prog 16 #[.agg #[.int .i64 ni, .int .i64 nk, .string nt, .slice na nn nc], .slice a1 mn c1] W fun e w' => ∃ (pa : Option Addr) (L pc : Nat) (zs : List Int), e = .returned (.slice pa L pc) ∧ zs.length = L ∧ L ≤ 3 ∧ Sli .i64 w' pa pc zs ∧ Below W.heap.size W w') := fun W hW => by
    have := route_any n na nn nc a1 mn c1 W _ (HK_n8.out.on hW) (HMJ.out W (HBw8.out.trans (hW.mono HBw8.out.size))) hmle hmmx
    unfold ndv at this
    rw [HN_n.out.1, HN_n.out.2.1, HN_n.out.2.2] at this
    refine this.mono ?_
    rintro e w' ⟨zs, hz, hrow⟩
    obtain ⟨pa, pc, h1, h2, h3⟩ := newSli_of_row hrow
    exact ⟨pa, zs.length, pc, zs, h1, rfl, hz, h2, h3⟩
  have HTN : Hid (∀ W, Below w8.heap.size w8 W → Calls Try.prog 31 #[.agg #[.int .i64 ni, .int .i64 nk, .string nt, .slice na nn nc]] W fun e w' => e = .returned (.string (cat n.lf)) ∧ Below W.heap.size W w') := fun W hW => by
    have := text_any n na nn nc W _ (HK_n8.out.on hW) (by have := HC_n.out.1; omega) (by have := HC_n.out.2.1; omega) HC_n.out.2.2
    unfold ndv at this
    rw [HN_n.out.1, HN_n.out.2.1, HN_n.out.2.2] at this
    exact this
  have HTB : Hid (∀ W, Below w8.heap.size w8 W → Calls Try.prog 31 #[.agg #[.int .i64 bi, .int .i64 bk, .string bt, .slice ba bn bc]] W fun e w' => e = .returned (.string (cat b.lf)) ∧ Below W.heap.size W w') := fun W hW => by
    have := text_any b ba bn bc W _ (HK_b.out.on hW) (by have := HC_b.out.1; omega) (by have := HC_b.out.2.1; omega) HC_b.out.2.2
    unfold ndv at this
    rw [HN_b.out.1, HN_b.out.2.1, HN_b.out.2.2] at this
    exact this
  have hn8 := HB_n8.out
  have p0 := hn8.cell 0
  have p1 := hn8.cell 1
  have p2 := hn8.cell 2
  have p3 := hn8.cell 3
  simp only [List.getElem?_toArray, List.getElem?_cons_zero, List.getElem?_cons_succ] at p0 p1 p2 p3
  rw [← hw3] at p0 p1 p2 p3
  clear hkv hsm b2 b23 k3 hkv3 bp hi hk ht hw3 hqb hc1 hc2 hc3 hn8
  go_wp2_with fail
  rw [HW_b.out, HQ_b.out]
  refine (HRO.out w8 (Below.refl _ _)).mono ?_
  rintro e w6 ⟨pa, L, pc, zs, rfl, hL, hL3, hsl, b6⟩
  clear p0 p1 p2 p3
  obtain ⟨p0, p1, p2, p3, _, _, _, _⟩ := HNX.out w6 b6
  have HSL : Hid (∀ V, Below w6.heap.size w6 V → Sli .i64 V pa pc zs) := fun V hV => hsl.below hV
  have HB6 := Lib.hid b6
  cases hg : getN n zs with
  | none =>
    have HGE : Hid (Calls Try.prog 30 #[.agg #[.int .i64 ni, .int .i64 nk, .string nt, .slice na nn nc], .slice pa L pc] w6 fun e w' => e = .returned (.tuple #[.agg #[.int .i64 0, .int .i64 0, .string ⟨#[]⟩, .slice none 0 0], .int .i64 0, .bool false]) ∧ Below w6.heap.size w6 w') := by
      have := pget_any n na nn nc pa pc zs w6 _ (HK_n8.out.on b6) (by have := HC_n.out.1; omega) (by have := HC_n.out.2.1; omega) hsl (by omega)
      unfold ndv at this
      rw [HN_n.out.1, HN_n.out.2.1, HN_n.out.2.2, hL] at this
      refine this.mono ?_
      rintro e w' ⟨hb, ⟨x, o, u, c, h1, _⟩ | ⟨_, h1⟩⟩
      · rw [hg] at h1; cases h1
      · exact ⟨h1, hb⟩
    have HRE : Hid (∀ W, Below w6.heap.size w6 W → Calls Try.prog 29 #[.agg #[.int .i64 ni, .int .i64 nk, .string nt, .slice na nn nc], .slice pa L pc, .agg #[.int .i64 bi, .int .i64 bk, .string bt, .slice ba bn bc]] W fun e w' => e = .returned (.tuple #[.agg #[.int .i64 0, .int .i64 0, .string ⟨#[]⟩, .slice none 0 0], .bool false]) ∧ Below W.heap.size W w') := fun W hW => by
      have hw8 := HB6.out.trans (hW.mono HB6.out.size)
      have := preplace_any n na nn nc pa pc zs b ba bn bc W _ _ (HK_n8.out.on hw8) (HK_b.out.on hw8) (by have := HC_n.out.1; omega) (by have := HC_n.out.2.1; omega) (by have := HC_b.out.1; omega) (HSL.out W hW) (by omega)
      unfold ndv at this
      rw [HN_n.out.1, HN_n.out.2.1, HN_n.out.2.2, HN_b.out.1, HN_b.out.2.1, HN_b.out.2.2, hL] at this
      refine this.mono ?_
      rintro e w' ⟨hb, ⟨y, u, c, h1, _⟩ | ⟨_, h1⟩⟩
      · rw [(replN_none zs n b).2 hg] at h1; cases h1
      · exact ⟨h1, hb⟩
    clear hsl b6 hg hL
    go_wp2_with fail
    refine HGE.out.mono ?_
    rintro e w9 ⟨rfl, b9⟩
    have bz : Below w6.heap.size w6 (w9.alloc (.cells #[.int .i64 0, .int .i64 0, .string ⟨#[]⟩, .slice none 0 0] 25)) := b9.alloc b9.size _
    have HR9 := Lib.hid (HRE.out _ bz)
    clear p0 p1 p2 p3
    obtain ⟨p0, p1, p2, p3, r0, r1, r2, r3⟩ := HNX.out _ (HB6.out.trans (bz.mono HB6.out.size))
    have HBZ := Lib.hid bz
    clear b9 bz
    go_wp2_with fail
    refine HR9.out.mono ?_
    rintro e w11 ⟨rfl, b11⟩
    have HB11 : Hid (Below w.heap.size w w11) := HBw8.out.trans ((HB6.out.trans ((HBZ.out.trans (b11.mono HBZ.out.size)).mono HB6.out.size)).mono HBw8.out.size)
    have HBA : Hid (Below w.heap.size w (w11.alloc (.cells #[.int .i64 0, .int .i64 0, .string ⟨#[]⟩, .slice none 0 0] 25))) := HB11.out.alloc HB11.out.size _
    clear b11 p0 p1 p2 p3 r0 r1 r2 r3
    go_wp2_with fail
    refine (lives_any _).mono ?_
    rintro e w12 ⟨rfl, b12⟩
    have HF := Lib.hid (HBA.out.trans (b12.mono HBA.out.size))
    clear b12
    go_wp2
    go_ret
    exact ⟨rfl, HF.out⟩
  | some xo =>
    obtain ⟨x, o⟩ := xo
    obtain ⟨y, hy⟩ := replN_some (b := b) hg
    have HPK := Lib.hid (edits_pack n b y x o zs HC_n.out.2.2 HC_b.out.2.2 hg hy HC_n.out.2.1 HC_b.out.2.1)
    have hbd := getN_bd _ _ _ _ hg
    have htx := getN_tidy _ _ _ _ HC_n.out.2.2 hg
    have hsz := replN_sz zs n b y hy
    have hxw : x.pw = (cat x.lf).size := by rw [cat_size, pw_lf x htx]
    have hcn := HC_n.out
    have hcb := HC_b.out
    have hxp : o + (cat x.lf).size ≤ 50000 := by omega
    have HGE : Hid (Calls Try.prog 30 #[.agg #[.int .i64 ni, .int .i64 nk, .string nt, .slice na nn nc], .slice pa L pc] w6 fun e w' => ∃ (u : Option Addr) (c : Nat), e = .returned (.tuple #[.agg #[.int .i64 x.id, .int .i64 x.kind, .string x.text, .slice u x.kids.length c], .int .i64 (o : Int), .bool true]) ∧ KV (fun _ => True) w' u x.kids.length c x.kids ∧ Below w6.heap.size w6 w') := by
      have := pget_any n na nn nc pa pc zs w6 _ (HK_n8.out.on b6) (by omega) (by omega) hsl (by omega)
      unfold ndv at this
      rw [HN_n.out.1, HN_n.out.2.1, HN_n.out.2.2, hL] at this
      refine this.mono ?_
      rintro e w' ⟨hb, ⟨x', o', u, c, h1, h2, h3⟩ | ⟨h1, _⟩⟩
      · rw [hg] at h1; cases h1
        exact ⟨u, c, h2, h3.keep (Nat.le_refl _) (fun _ _ _ => rfl) (fun _ _ _ => trivial), hb⟩
      · rw [hg] at h1; cases h1
    have HRE : Hid (∀ W, Below w6.heap.size w6 W → Calls Try.prog 29 #[.agg #[.int .i64 ni, .int .i64 nk, .string nt, .slice na nn nc], .slice pa L pc, .agg #[.int .i64 bi, .int .i64 bk, .string bt, .slice ba bn bc]] W fun e w' => ∃ (u : Option Addr) (c : Nat), e = .returned (.tuple #[.agg #[.int .i64 y.id, .int .i64 y.kind, .string y.text, .slice u y.kids.length c], .bool true]) ∧ KV (fun _ => True) w' u y.kids.length c y.kids ∧ Below W.heap.size W w') := fun W hW => by
      have hw8 := HB6.out.trans (hW.mono HB6.out.size)
      have := preplace_any n na nn nc pa pc zs b ba bn bc W _ _ (HK_n8.out.on hw8) (HK_b.out.on hw8) (by omega) (by omega) (by omega) (HSL.out W hW) (by omega)
      unfold ndv at this
      rw [HN_n.out.1, HN_n.out.2.1, HN_n.out.2.2, HN_b.out.1, HN_b.out.2.1, HN_b.out.2.2, hL] at this
      refine this.mono ?_
      rintro e w' ⟨hb, ⟨y', u, c, h1, h2, h3⟩ | ⟨h1, _⟩⟩
      · rw [hy] at h1; cases h1
        exact ⟨u, c, h2, h3.keep (Nat.le_refl _) (fun _ _ _ => rfl) (fun _ _ _ => trivial), hb⟩
      · rw [hy] at h1; cases h1
    have HWO : Hid (∀ (W : World) (u : Option Addr) (c : Nat), KV (fun _ => True) W u x.kids.length c x.kids → Calls Try.prog 34 #[.agg #[.int .i64 x.id, .int .i64 x.kind, .string x.text, .slice u x.kids.length c]] W fun e w' => e = .returned (.int .i64 ((cat x.lf).size : Int)) ∧ Below W.heap.size W w') := fun W u c h => by
      have := pwidth_any x u _ c W _ h (by omega) (by omega)
      rw [hxw] at this
      exact this
    have HTY : Hid (∀ (W : World) (u : Option Addr) (c : Nat), KV (fun _ => True) W u y.kids.length c y.kids → Calls Try.prog 31 #[.agg #[.int .i64 y.id, .int .i64 y.kind, .string y.text, .slice u y.kids.length c]] W fun e w' => e = .returned (.string (cat y.lf)) ∧ Below W.heap.size W w') := fun W u c h => text_any y u _ c W _ h (by omega) (by omega) (hsz.2.2 hcn.2.2 hcb.2.2)
    obtain ⟨s, hs⟩ : ∃ s, cat n.lf = s := ⟨_, rfl⟩
    obtain ⟨sb0, hsb⟩ : ∃ s, cat b.lf = s := ⟨_, rfl⟩
    obtain ⟨sy, hsy⟩ : ∃ s, cat y.lf = s := ⟨_, rfl⟩
    obtain ⟨so, hso⟩ : ∃ s, cat x.lf = s := ⟨_, rfl⟩
    rw [hs, hsb, hsy, hso] at HPK
    rw [hs] at HTN
    rw [hsb] at HTB
    rw [hsy] at HTY
    rw [hso] at HWO hxp
    obtain ⟨zs0, hz0⟩ : ∃ z, so.size = z := ⟨_, rfl⟩
    rw [hz0] at HWO hxp
    obtain ⟨xi, hxi⟩ : ∃ z, x.id = z := ⟨_, rfl⟩
    obtain ⟨xk, hxk⟩ : ∃ z, x.kind = z := ⟨_, rfl⟩
    obtain ⟨xt, hxt⟩ : ∃ z, x.text = z := ⟨_, rfl⟩
    obtain ⟨nx, hnx⟩ : ∃ z, x.kids.length = z := ⟨_, rfl⟩
    obtain ⟨yi, hyi⟩ : ∃ z, y.id = z := ⟨_, rfl⟩
    obtain ⟨yk, hyk⟩ : ∃ z, y.kind = z := ⟨_, rfl⟩
    obtain ⟨yt, hyt⟩ : ∃ z, y.text = z := ⟨_, rfl⟩
    obtain ⟨ny, hny⟩ : ∃ z, y.kids.length = z := ⟨_, rfl⟩
    simp only [hxi, hxk, hxt, hnx] at HGE HWO
    simp only [hyi, hyk, hyt, hny] at HRE HTY
    have HSO := Lib.hid hz0
    have m5 : IntKind.i64.wrap ((o : Int) + (zs0 : Int)) = ((o + zs0 : Nat) : Int) := by simp [IntKind.wrap, IntKind.signed, IntKind.bits]; omega
    have q1 : (sy.toList == sy.toList) = true := by simp
    clear hsl b6 hg hL hy hbd htx hsz hxw hcn hcb hxp hs hsb hsy hso hxi hxk hxt hnx hyi hyk hyt hny hz0
    go_wp2_with fail
    refine HGE.out.mono ?_
    rintro e w9 ⟨ux, cx, rfl, hkx, b9⟩
    obtain ⟨w10, hw10⟩ : ∃ W, w9.alloc (.cells #[.int .i64 xi, .int .i64 xk, .string xt, .slice ux nx cx] 25) = W := ⟨_, rfl⟩
    have b910 : Below w9.heap.size w9 w10 := by rw [← hw10]; exact (Below.refl _ _).alloc (Nat.le_refl _) _
    have k10 : Blk w10 w9.heap.size 25 #[.int .i64 xi, .int .i64 xk, .string xt, .slice ux nx cx] := by rw [← hw10]; exact Blk.new _ _ _
    have b10 : Below w6.heap.size w6 w10 := b9.trans (b910.mono b9.size)
    have HR10 := Lib.hid (HRE.out w10 b10)
    clear p0 p1 p2 p3
    obtain ⟨p0, p1, p2, p3, r0, r1, r2, r3⟩ := HNX.out w10 (HB6.out.trans (b10.mono HB6.out.size))
    rw [← hw10] at p0 p1 p2 p3 r0 r1 r2 r3
    obtain ⟨qo, hqo⟩ : ∃ q, w9.heap.size = q := ⟨_, rfl⟩
    rw [hqo] at k10
    have HW10 := Lib.hid hw10; have HQO := Lib.hid hqo; have HKO := Lib.hid k10; have HKX := Lib.hid (hkx.on b910); have HB10 := Lib.hid b10
    clear hkx b9 b910 k10 b10 hw10 hqo
    go_wp2_with fail
    rw [HW10.out, HQO.out]
    refine HR10.out.mono ?_
    rintro e w11 ⟨uy, cy, rfl, hky, b11⟩
    obtain ⟨w12, hw12⟩ : ∃ W, w11.alloc (.cells #[.int .i64 yi, .int .i64 yk, .string yt, .slice uy ny cy] 25) = W := ⟨_, rfl⟩
    have b112 : Below w11.heap.size w11 w12 := by rw [← hw12]; exact (Below.refl _ _).alloc (Nat.le_refl _) _
    have k12 : Blk w12 w11.heap.size 25 #[.int .i64 yi, .int .i64 yk, .string yt, .slice uy ny cy] := by rw [← hw12]; exact Blk.new _ _ _
    have b1012 : Below w10.heap.size w10 w12 := b11.trans (b112.mono b11.size)
    have HB12 : Hid (Below w8.heap.size w8 w12) := HB6.out.trans ((HB10.out.trans (b1012.mono HB10.out.size)).mono HB6.out.size)
    have HKO12 := Lib.hid (HKO.out.same (b1012.block qo HKO.out.lt))
    have HKX12 := Lib.hid (HKX.out.on b1012)
    clear p0 p1 p2 p3 r0 r1 r2 r3
    obtain ⟨p0, p1, p2, p3, _, _, _, _⟩ := HNX.out w12 HB12.out
    rw [← hw12] at p0 p1 p2 p3
    obtain ⟨qy, hqy⟩ : ∃ q, w11.heap.size = q := ⟨_, rfl⟩
    rw [hqy] at k12
    have HW12 := Lib.hid hw12; have HQY := Lib.hid hqy; have HKY := Lib.hid k12; have HKYV := Lib.hid (hky.on b112)
    clear hky b11 b112 k12 b1012 hw12 hqy
    go_wp2_with fail
    rw [HW12.out, HQY.out]
    refine (HTN.out w12 HB12.out).mono ?_
    rintro e w13 ⟨rfl, b13⟩
    have HB13 : Hid (Below w12.heap.size w12 w13) := b13
    have HS9 : Hid (∀ V, Below w13.heap.size w13 V → V.cell? ⟨qo, 0, none⟩ = some (.int .i64 xi) ∧ V.cell? ⟨qo, 1, none⟩ = some (.int .i64 xk) ∧ V.cell? ⟨qo, 2, none⟩ = some (.string xt) ∧ V.cell? ⟨qo, 3, none⟩ = some (.slice ux nx cx) ∧ V.cell? ⟨qb, 0, none⟩ = some (.int .i64 bi) ∧ V.cell? ⟨qb, 1, none⟩ = some (.int .i64 bk) ∧ V.cell? ⟨qb, 2, none⟩ = some (.string bt) ∧ V.cell? ⟨qb, 3, none⟩ = some (.slice ba bn bc)) := fun V hV => by
      have hv12 := HB13.out.trans (hV.mono HB13.out.size)
      have h1 := HKO12.out.same (hv12.block qo HKO12.out.lt)
      obtain ⟨_, _, _, _, r0, r1, r2, r3⟩ := HNX.out V (HB12.out.trans (hv12.mono HB12.out.size))
      exact ⟨h1.cell 0, h1.cell 1, h1.cell 2, h1.cell 3, r0, r1, r2, r3⟩
    have b0 : Below w13.heap.size w13 w13.drew := (Below.refl _ _).drew
    have hS0 := HS9.out w13.drew b0
    clear b13 p0 p1 p2 p3
    go_wp2_with fail
    refine wp_region_held (S := (fun V : World => V.cell? ⟨qo, 0, none⟩ = some (.int .i64 xi) ∧ V.cell? ⟨qo, 1, none⟩ = some (.int .i64 xk) ∧ V.cell? ⟨qo, 2, none⟩ = some (.string xt) ∧ V.cell? ⟨qo, 3, none⟩ = some (.slice ux nx cx) ∧ V.cell? ⟨qb, 0, none⟩ = some (.int .i64 bi) ∧ V.cell? ⟨qb, 1, none⟩ = some (.int .i64 bk) ∧ V.cell? ⟨qb, 2, none⟩ = some (.string bt) ∧ V.cell? ⟨qb, 3, none⟩ = some (.slice ba bn bc))) (by kernel_rfl) ?_
    change wpAnyH _ _ _ _ _ _ _ _ (World.drew _)
    refine takeH (i := 0) (d := (some 59)) (v := ?_) rfl rfl (by kernel_rfl) (by kernel_rfl) (by kernel_rfl) (fun _ _ _ h => h) (Or.inl ⟨by kernel_rfl, ?_⟩) hS0 ?_
    rotate_left
    focus (intro w hSw; (try dsimp only at hSw); go_simp; first | done | with_reducible rfl)
    try simp only [Act.put]
    try simp only [List.setIfInBounds_toArray]
    try simp only [List.set_cons_succ]
    try simp only [List.set_cons_zero]
    refine takeH (i := 1) (d := (some 60)) (v := ?_) rfl rfl (by kernel_rfl) (by kernel_rfl) (by kernel_rfl) (fun _ _ _ h => h) (Or.inl ⟨by kernel_rfl, ?_⟩) hS0 ?_
    rotate_left
    focus (intro w hSw; (try dsimp only at hSw); go_simp; first | done | with_reducible rfl)
    try simp only [Act.put]
    try simp only [List.setIfInBounds_toArray]
    try simp only [List.set_cons_succ]
    try simp only [List.set_cons_zero]
    refine takeH (i := 2) (d := (some 61)) (v := ?_) rfl rfl (by kernel_rfl) (by kernel_rfl) (by kernel_rfl) (fun _ _ _ h => h) (Or.inl ⟨by kernel_rfl, ?_⟩) hS0 ?_
    rotate_left
    focus (intro w hSw; (try dsimp only at hSw); go_simp; first | done | with_reducible rfl)
    try simp only [Act.put]
    try simp only [List.setIfInBounds_toArray]
    try simp only [List.set_cons_succ]
    try simp only [List.set_cons_zero]
    refine takeH (i := 3) (d := (some 62)) (v := ?_) rfl rfl (by kernel_rfl) (by kernel_rfl) (by kernel_rfl) (fun _ _ _ h => h) (Or.inl ⟨by kernel_rfl, ?_⟩) hS0 ?_
    rotate_left
    focus (intro w hSw; (try dsimp only at hSw); go_simp; first | done | with_reducible rfl)
    try simp only [Act.put]
    try simp only [List.setIfInBounds_toArray]
    try simp only [List.set_cons_succ]
    try simp only [List.set_cons_zero]
    refine takeH (i := 6) (d := (some 65)) (v := ?_) rfl rfl (by kernel_rfl) (by kernel_rfl) (by kernel_rfl) (fun _ _ _ h => h) (Or.inl ⟨by kernel_rfl, ?_⟩) hS0 ?_
    rotate_left
    focus (intro w hSw; (try dsimp only at hSw); go_simp; first | done | with_reducible rfl)
    try simp only [Act.put]
    try simp only [List.setIfInBounds_toArray]
    try simp only [List.set_cons_succ]
    try simp only [List.set_cons_zero]
    refine wpAnyH_ready (rs := [4]) (by kernel_rfl) (by simp) ?_
    refine AllReadyH.cons (o := _) rfl (fun K' hK => ?_) AllReadyH.nil
    go_simp
    go_at_call 34
    refine (HWO.out w13.drew ux cx (HKX12.out.on (HB13.out.trans (b0.mono HB13.out.size)))).mono ?_
    rintro e v1 ⟨rfl, bq1⟩
    have b1 : Below w13.heap.size w13 v1 := b0.trans (bq1.mono b0.size)
    have hS1 := HS9.out v1 b1
    try go_simp
    refine hK.out _ _ hS1 (fun hHeld => ?_)
    clear hK K' hHeld
    try simp only [Act.put]
    try simp only [List.setIfInBounds_toArray]
    try simp only [List.set_cons_succ]
    try simp only [List.set_cons_zero]
    refine takeH (i := 5) (d := (some 64)) (v := ?_) rfl rfl (by kernel_rfl) (by kernel_rfl) (by kernel_rfl) (fun _ _ _ h => h) (Or.inl ⟨by kernel_rfl, ?_⟩) hS1 ?_
    rotate_left
    focus (intro w hSw; (try dsimp only at hSw); go_simp; first | done | with_reducible rfl)
    try simp only [Act.put]
    try simp only [List.setIfInBounds_toArray]
    try simp only [List.set_cons_succ]
    try simp only [List.set_cons_zero]
    refine wpAnyH_ready (rs := [7]) (by kernel_rfl) (by simp) ?_
    refine AllReadyH.cons (o := _) rfl (fun K' hK => ?_) AllReadyH.nil
    go_simp
    go_at_call 31
    refine (HTB.out v1 (HB12.out.trans ((HB13.out.trans (b1.mono HB13.out.size)).mono HB12.out.size))).mono ?_
    rintro e v2 ⟨rfl, bq2⟩
    have b2 : Below w13.heap.size w13 v2 := b1.trans (bq2.mono b1.size)
    have hS2 := HS9.out v2 b2
    try go_simp
    refine hK.out _ _ hS2 (fun hHeld => ?_)
    clear hK K' hHeld
    try simp only [Act.put]
    try simp only [List.setIfInBounds_toArray]
    try simp only [List.set_cons_succ]
    try simp only [List.set_cons_zero]
    refine takeH (i := 8) (d := (some 67)) (v := ?_) rfl rfl (by kernel_rfl) (by kernel_rfl) (by kernel_rfl) (fun _ _ _ h => h) (Or.inl ⟨by kernel_rfl, ?_⟩) hS2 ?_
    rotate_left
    focus (intro w hSw; (try dsimp only at hSw); go_simp; first | done | with_reducible rfl)
    try simp only [Act.put]
    try simp only [List.setIfInBounds_toArray]
    try simp only [List.set_cons_succ]
    try simp only [List.set_cons_zero]
    refine wpAnyH_ready (rs := [9]) (by kernel_rfl) (by simp) ?_
    refine AllReadyH.cons (o := _) rfl (fun K' hK => ?_) AllReadyH.nil
    go_simp
    have b3 : Below w13.heap.size w13 (v2.alloc (.cells #[.int .i64 (o : Int), .int .i64 ((o + zs0 : Nat) : Int), .string sb0] 64)) := b2.alloc b2.size _
    have hS3 := HS9.out _ b3
    refine hK.out _ _ hS3 (fun hHeld => ?_)
    clear hK K' hHeld
    try simp only [Act.put]
    try simp only [List.setIfInBounds_toArray]
    try simp only [List.set_cons_succ]
    try simp only [List.set_cons_zero]
    refine wpAnyH_ready (rs := [10]) (by kernel_rfl) (by simp) ?_
    refine AllReadyH.cons (o := _) rfl (fun K' hK => ?_) AllReadyH.nil
    go_simp
    go_at_call 35
    have HA1 := HPK.out.app1 v2
    rw [HSO.out] at HA1
    refine HA1.mono ?_
    rintro e v4 ⟨rfl, bq4⟩
    have b4 : Below w13.heap.size w13 v4 := b3.trans (bq4.mono b3.size)
    have hS4 := HS9.out v4 b4
    try go_simp
    refine hK.out _ _ hS4 (fun hHeld => ?_)
    clear hK K' hHeld
    try simp only [Act.put]
    try simp only [List.setIfInBounds_toArray]
    try simp only [List.set_cons_succ]
    try simp only [List.set_cons_zero]
    refine takeH (i := 11) (d := (some 58)) (v := ?_) rfl rfl (by kernel_rfl) (by kernel_rfl) (by kernel_rfl) (fun _ _ _ h => h) (Or.inl ⟨by kernel_rfl, ?_⟩) hS4 ?_
    rotate_left
    focus (intro w hSw; (try dsimp only at hSw); go_simp; first | done | with_reducible rfl)
    try simp only [Act.put]
    try simp only [List.setIfInBounds_toArray]
    try simp only [List.set_cons_succ]
    try simp only [List.set_cons_zero]
    refine takeH (i := 12) (d := (some 70)) (v := ?_) rfl rfl (by kernel_rfl) (by kernel_rfl) (by kernel_rfl) (fun _ _ _ h => h) (Or.inl ⟨by kernel_rfl, ?_⟩) hS4 ?_
    rotate_left
    focus (intro w hSw; (try dsimp only at hSw); go_simp; first | done | with_reducible rfl)
    try simp only [Act.put]
    try simp only [List.setIfInBounds_toArray]
    try simp only [List.set_cons_succ]
    try simp only [List.set_cons_zero]
    refine takeH (i := 13) (d := (some 71)) (v := ?_) rfl rfl (by kernel_rfl) (by kernel_rfl) (by kernel_rfl) (fun _ _ _ h => h) (Or.inl ⟨by kernel_rfl, ?_⟩) hS4 ?_
    rotate_left
    focus (intro w hSw; (try dsimp only at hSw); go_simp; first | done | with_reducible rfl)
    try simp only [Act.put]
    try simp only [List.setIfInBounds_toArray]
    try simp only [List.set_cons_succ]
    try simp only [List.set_cons_zero]
    refine takeH (i := 14) (d := (some 16)) (v := ?_) rfl rfl (by kernel_rfl) (by kernel_rfl) (by kernel_rfl) (fun _ _ _ h => h) (Or.inl ⟨by kernel_rfl, ?_⟩) hS4 ?_
    rotate_left
    focus (intro w hSw; (try dsimp only at hSw); go_simp; first | done | with_reducible rfl)
    try simp only [Act.put]
    try simp only [List.setIfInBounds_toArray]
    try simp only [List.set_cons_succ]
    try simp only [List.set_cons_zero]
    refine takeH (i := 15) (d := (some 17)) (v := ?_) rfl rfl (by kernel_rfl) (by kernel_rfl) (by kernel_rfl) (fun _ _ _ h => h) (Or.inl ⟨by kernel_rfl, ?_⟩) hS4 ?_
    rotate_left
    focus (intro w hSw; (try dsimp only at hSw); go_simp; first | done | with_reducible rfl)
    try simp only [Act.put]
    try simp only [List.setIfInBounds_toArray]
    try simp only [List.set_cons_succ]
    try simp only [List.set_cons_zero]
    refine wpAnyH_done (by kernel_rfl) ?_ _
    have HB4 : Hid (Below w12.heap.size w12 v4) := HB13.out.trans (b4.mono HB13.out.size)
    have hky4 := HKY.out.same (HB4.out.block qy HKY.out.lt)
    have z0 := hky4.cell 0
    have z1 := hky4.cell 1
    have z2 := hky4.cell 2
    have z3 := hky4.cell 3
    simp only [List.getElem?_toArray, List.getElem?_cons_zero, List.getElem?_cons_succ] at z0 z1 z2 z3
    have HKY4 := Lib.hid hky4
    clear HA1 bq1 bq2 bq4 b0 b1 b2 b3 b4 hS0 hS1 hS2 hS3 hS4 hky4
    go_wp2_with fail
    refine (HTY.out v4 uy cy (HKYV.out.on HB4.out)).mono ?_
    rintro e v5 ⟨rfl, b5⟩
    have HB5 := Lib.hid b5
    clear b5 z0 z1 z2 z3
    go_wp2_with fail
    refine (HPK.out.diff v5).mono ?_
    rintro e v6 ⟨ad, Ld, cd, rfl, b6, HAP⟩
    have HB6' : Hid (Below v4.heap.size v4 v6) := HB5.out.trans (b6.mono HB5.out.size)
    have HA2 := Lib.hid (HAP.out v6 (Below.refl _ _))
    clear b6
    go_wp2_with fail
    refine HA2.out.mono ?_
    rintro e v7 ⟨rfl, b7⟩
    have HB7 : Hid (Below v4.heap.size v4 v7) := HB6'.out.trans (b7.mono HB6'.out.size)
    have hky7 := HKY4.out.same (HB7.out.block qy HKY4.out.lt)
    have z0 := hky7.cell 0
    have z1 := hky7.cell 1
    have z2 := hky7.cell 2
    have z3 := hky7.cell 3
    simp only [List.getElem?_toArray, List.getElem?_cons_zero, List.getElem?_cons_succ] at z0 z1 z2 z3
    have HB127 : Hid (Below w12.heap.size w12 v7) := HB4.out.trans (HB7.out.mono HB4.out.size)
    clear b7 hky7
    go_wp2_with fail
    refine (HTY.out v7 uy cy (HKYV.out.on HB127.out)).mono ?_
    rintro e v8 ⟨rfl, b8⟩
    have HB8 : Hid (Below w.heap.size w v8) := HBw8.out.trans ((HB12.out.trans ((HB127.out.trans (b8.mono HB127.out.size)).mono HB12.out.size)).mono HBw8.out.size)
    clear b8 z0 z1 z2 z3
    go_wp2_with fail
    refine (lives_any v8).mono ?_
    rintro e v9 ⟨rfl, b9⟩
    have HF := Lib.hid (HB8.out.trans (b9.mono HB8.out.size))
    clear b9
    go_wp2
    go_ret
    exact ⟨rfl, HF.out⟩

end Go.Proofs.Ytfecajeenmnoeaa
