/- Texts of one claim, put together: DLv0, DLv. Each part says what it proves and under which conditions. -/
import Derived.Test.YtkehgoailhpenaaPB08

/- The example of the chapter on documents, in the words of the specification. It has no conditions. -/
namespace Go.Proofs.Ytkehgoailhpenaa
open Go.RowKit Go.Shelf Go.Maps
set_option linter.unusedVariables false

abbrev lvA : ByteArray := ⟨#[97, 98]⟩
abbrev lvB : ByteArray := ⟨#[97, 120, 98]⟩
abbrev lvC : ByteArray := ⟨#[97, 120, 98, 121]⟩
abbrev lvX : ByteArray := ⟨#[120]⟩
abbrev lvY : ByteArray := ⟨#[121]⟩
def lp1 : PE := ⟨0, 3, 0, 3, lvY⟩
def lp2 : PE := ⟨0, 1, 0, 1, lvX⟩
def le1 : Er := ⟨1, 1, lvX⟩
def le2 : Er := ⟨3, 3, lvY⟩
def le3 : Er := ⟨2, 2, lvY⟩
theorem lv_sbA : sb lvA = [97, 98] := by decide +kernel
theorem lv_sbB : sb lvB = [97, 120, 98] := by decide +kernel
theorem lv_posA : Pos [97, 98] 1 0 1 := ⟨⟨1, bord_of (n := 12) (by decide +kernel)⟩, by decide +kernel, by rw [show (lf [97, 98] 1).2 = 0 by decide +kernel]; exact bord_of (n := 12) (by decide +kernel)⟩
theorem lv_posB : Pos [97, 120, 98] 3 0 3 := ⟨⟨3, bord_of (n := 12) (by decide +kernel)⟩, by decide +kernel, by rw [show (lf [97, 120, 98] 3).2 = 0 by decide +kernel]; exact bord_of (n := 12) (by decide +kernel)⟩
theorem lv_ed2 : edD (sb lvA) lp2 = (⟨1, 1, lvX⟩, 0) := by
  rw [lv_sbA]
  exact edD_eq (ed_there lvX lv_posA lv_posA (Nat.le_refl _))
theorem lv_ed1 : edD (sb lvB) lp1 = (⟨3, 3, lvY⟩, 0) := by
  rw [lv_sbB]
  exact edD_eq (ed_there lvY lv_posB lv_posB (Nat.le_refl _))
theorem lv_pE2 : pE lvA [lp2] = 0 ∧ pL lvA [lp2] = [le1] := by
  have h : pE lvA [lp2] = 0 := by
    unfold pE
    rw [if_neg (by decide)]
    simp only [pE0, lv_ed2, if_true]
  refine ⟨h, ?_⟩
  unfold pL
  rw [if_pos h]
  simp only [List.map_cons, List.map_nil, lv_ed2]
  rfl
theorem lv_pE1 : pE lvB [lp1] = 0 ∧ pL lvB [lp1] = [le2] := by
  have h : pE lvB [lp1] = 0 := by
    unfold pE
    rw [if_neg (by decide)]
    simp only [pE0, lv_ed1, if_true]
  refine ⟨h, ?_⟩
  unfold pL
  rw [if_pos h]
  simp only [List.map_cons, List.map_nil, lv_ed1]
  rfl
def lvS0 : DS := newS lvA 3
def lvS1 : DS := ⟨3, [(lvA, [])], [(5, [lp1])]⟩
def lvS2 : DS := ⟨4, [(lvA, [le1]), (lvB, [])], [(5, [lp1])]⟩
def lvS3 : DS := ⟨5, [(lvA, [le1]), (lvB, [le2]), (lvC, [])], []⟩
theorem lv_r1 : rcvF lvS0 5 [lp1] = ((0, 0), lvS1) := by
  have h1 : chkE lvS0 5 [lp1].length = 0 := by decide +kernel
  have h2 : lvS0.v + 1 < 5 := by decide +kernel
  unfold rcvF
  rw [h1, if_neg (by simp), if_pos h2]
  rfl
theorem lv_apl2 : aplE lvS1 [lp2] = 0 ∧ aplS lvS1 [lp2] = lvS2 := by
  have ht : lvS1.text = lvA := by kernel_rfl
  unfold aplE aplS
  rw [ht, lv_pE2.1, lv_pE2.2, if_pos rfl]
  exact ⟨by decide +kernel, by kernel_rfl⟩
theorem lv_apl1 : aplE (dropH lvS2) [lp1] = 0 ∧ aplS (dropH lvS2) [lp1] = lvS3 := by
  have ht : (dropH lvS2).text = lvB := by kernel_rfl
  unfold aplE aplS
  rw [ht, lv_pE1.1, lv_pE1.2, if_pos rfl]
  exact ⟨by decide +kernel, by kernel_rfl⟩
theorem lv_hld : hldF 1 lvS2 = (1, lvS3) := by
  have h1 : lvS2.v + 1 ∈ lvS2.hs.map Prod.fst := by decide +kernel
  have h2 : lookH lvS2.hs (lvS2.v + 1) = [lp1] := by kernel_rfl
  simp only [hldF]
  rw [if_pos h1, h2, if_pos lv_apl1.1, lv_apl1.2]
theorem lv_r2 : rcvF lvS1 4 [lp2] = ((2, 0), lvS3) := by
  have h1 : chkE lvS1 4 [lp2].length = 0 := by decide +kernel
  have h2 : ¬ lvS1.v + 1 < 4 := by decide +kernel
  unfold rcvF
  rw [h1, if_neg (by simp), if_neg h2, lv_apl2.1, if_neg (by simp), lv_apl2.2, show lvS1.hs.length = 1 from rfl, lv_hld]
  rfl
theorem lv_r3 : rcvF lvS3 4 [lp2] = ((0, 8), lvS3) := by
  have h1 : chkE lvS3 4 [lp2].length = 8 := by decide +kernel
  unfold rcvF
  rw [h1, if_pos (by decide)]
theorem lv_snc : SncOk lvA [] (nexts lvS3 0) [le1, le3] := by
  have h0 : nexts lvS3 0 = [[le1], [le2]] := by kernel_rfl
  have h1 : cmS lvA [] [le1] = [le1] := by kernel_rfl
  have h2 : cmS lvA [le1] [le2] = [le1, le3] := by kernel_rfl
  have f1 : le1.Fit := ⟨by decide, by decide, by decide, by decide, by decide⟩
  have f3 : le3.Fit := ⟨by decide, by decide, by decide, by decide, by decide⟩
  rw [h0]
  refine ⟨by decide +kernel, by decide +kernel, by decide +kernel, ?_, by rw [h1]; decide, ?_⟩
  · rw [h1]; intro e he; simp only [List.mem_singleton] at he; subst he; exact f1
  rw [h1]
  refine ⟨by decide +kernel, by decide +kernel, by decide +kernel, ?_, by rw [h2]; decide, h2⟩
  rw [h2]
  intro e he
  simp only [List.mem_cons, List.not_mem_nil, or_false] at he
  rcases he with rfl | rfl
  · exact f1
  · exact f3

end Go.Proofs.Ytkehgoailhpenaa

/- The documented example holds. It has no conditions. -/
namespace Go.Proofs.Ytkehgoailhpenaa
open Go.RowKit Go.Shelf Go.Maps
set_option linter.unusedVariables false

/-- One edit by positions in a new block. -/
theorem ps_one (w : World) (p : PE) : PS (w.alloc (.cells p.vals.toArray 59)).heap.size (w.alloc (.cells p.vals.toArray 59)) (some ⟨w.heap.size, 0, none⟩) 1 [p] := by
  refine ⟨Nat.le_refl _, by omega, .inr ⟨w.heap.size, 0, rfl, by simp, fun k hk i hi => ?_⟩⟩
  obtain rfl : k = 0 := by simp at hk; exact hk
  rw [(Blk.new w 59 p.vals.toArray).cell]
  simp [pG]
theorem es_two (w : World) (x y : Er) : ES (w.alloc (.cells (rv [x, y]).toArray 82)).heap.size (w.alloc (.cells (rv [x, y]).toArray 82)) (some ⟨w.heap.size, 0, none⟩) 2 [x, y] := by
  refine ⟨Nat.le_refl _, by omega, (fun h => by cases h), .inr ⟨w.heap.size, 0, rfl, by simp, fun k hk i hi => ?_⟩⟩
  rw [(Blk.new w 82 (rv [x, y]).toArray).cell, List.getElem?_toArray, Nat.zero_add]
  exact rv_get [x, y] k i hk hi
theorem lp_fit (p : PE) (h : p = lp1 ∨ p = lp2) : p.fit ∧ p.t.size ≤ 100000 := by
  rcases h with rfl | rfl <;> exact ⟨⟨⟨by decide, by decide⟩, ⟨by decide, by decide⟩, ⟨by decide, by decide⟩, ⟨by decide, by decide⟩⟩, by decide⟩

/-- What lay when the example began lies as it lay. -/
structure LvO (w W : World) (T : Nat → Prop) : Prop where
  b : Below w.heap.size w W
  t : ∀ b, T b → w.heap.size ≤ b
theorem LvO.below {w W W' : World} {T : Nat → Prop} (h : LvO w W T) (hb : Below W.heap.size W W') : LvO w W' T := ⟨h.b.trans (hb.mono h.b.size), h.t⟩
theorem LvO.step {w W W' : World} {T G T' G' : Nat → Prop} (h : LvO w W T) (k : Stp T G T' G' W W') : LvO w W' T' :=
  ⟨h.b.trans (k.below h.b.size h.t), fun b hb => (k.t b hb).elim (h.t b) (fun e => by have := h.b.size; omega)⟩

set_option maxRecDepth 100000 in
set_option maxHeartbeats 4000000 in
theorem lives_any (w : World) : Calls Try.prog 14 #[] w fun e w' => e = .returned (.bool true) ∧ Below w.heap.size w w' := by
  have CN := Lib.hid (new_any lvA 3 w)
  have hE : newE lvA 3 = 0 := by decide +kernel
  rw [hE] at CN
  have HCR : Hid (∀ (T G : Nat → Prop) (p : Nat) (s s' : DS) (cv : Int) (q : PE) (x y : Int) (W : World) (a : Option Addr), DocI T G W p s → (cv = 5 ∨ cv = 4) → (q = lp1 ∨ q = lp2) → PS W.heap.size W a 1 [q] → rcvF s cv [q] = ((x, y), s') →
      Calls Try.prog 9 #[.pointer (some ⟨p, 0, none⟩), .agg #[.int .i64 cv, .slice a 1 1]] W fun e w' => e = .returned (.tuple #[.int .i64 x, .int .i64 y]) ∧ ∃ T' G', DocI T' G' w' p s' ∧ Stp T G T' G' W w') := fun T G p s s' cv q x y W a hd hc hq hp hr => by
    have := receive_any T G p s W hd cv (by rcases hc with rfl | rfl <;> decide) (by rcases hc with rfl | rfl <;> decide) a 1 [q] hp (by simp) (fun r h => by simp only [List.mem_singleton] at h; subst h; exact lp_fit r hq)
    rw [hr] at this
    exact this
  clear hE
  go_enter Try.func14, Try.ntmps14
  go_wp2_with fail
  refine CN.out.mono ?_
  rintro e w1 hw
  obtain ⟨p, rfl, hd1, b1⟩ : ∃ p, e = .returned (.tuple #[.pointer (some ⟨p, 0, none⟩), .int .i64 0]) ∧ DocI (newB w w1) (fun _ => False) w1 p lvS0 ∧ Below w.heap.size w w1 := by
    rcases hw with ⟨h, _⟩ | ⟨_, p, h1, h2, h3⟩
    · exact absurd rfl h
    · exact ⟨p, h1, h2, h3⟩
  have HL1 : Hid (LvO w w1 (newB w w1)) := ⟨b1, fun b hb => hb.1⟩
  have HD1 := Lib.hid hd1
  clear hw hd1 b1
  obtain ⟨W1, hW1⟩ : ∃ W, w1.alloc (.cells lp1.vals.toArray 59) = W := ⟨_, rfl⟩
  have k1 : Below w1.heap.size w1 W1 := by rw [← hW1]; exact (Below.refl _ _).alloc (Nat.le_refl _) _
  have C1 := HCR.out _ _ p lvS0 lvS1 5 lp1 0 0 W1 (some ⟨w1.heap.size, 0, none⟩) (HD1.out.below k1) (.inl rfl) (.inl rfl) (by rw [← hW1]; exact ps_one w1 lp1) lv_r1
  have HC1 := Lib.hid C1; have HK1 := Lib.hid k1; have HW1 : Hid (w1.alloc (.cells #[.int .i64 0, .int .i64 3, .int .i64 0, .int .i64 3, .string ⟨#[121]⟩] 59) = W1) := hW1
  clear C1 k1 hW1
  go_wp2_with fail
  rw [HW1.out]
  refine HC1.out.mono ?_
  rintro e w2 ⟨rfl, T2, G2, hd2, hs2⟩
  have HL2 : Hid (LvO w w2 T2) := (HL1.out.below HK1.out).step hs2
  have HD2 := Lib.hid hd2
  clear hd2 hs2 HC1 HW1 HK1
  obtain ⟨q, hq⟩ : ∃ q, w2.heap.size = q := ⟨_, rfl⟩
  obtain ⟨W2, hW2⟩ : ∃ W, w2.alloc (.cells lp2.vals.toArray 59) = W := ⟨_, rfl⟩
  obtain ⟨W3, hW3⟩ : ∃ W, W2.alloc (.cells #[.int .i64 4, .slice (some ⟨q, 0, none⟩) 1 1] 34) = W := ⟨_, rfl⟩
  have z2 : W2.heap.size = q + 1 := by rw [← hW2, ← hq]; simp
  have k2 : Below w2.heap.size w2 W2 := by rw [← hW2]; exact (Below.refl _ _).alloc (Nat.le_refl _) _
  have k3 : Below W2.heap.size W2 W3 := by rw [← hW3]; exact (Below.refl _ _).alloc (Nat.le_refl _) _
  have kc : Blk W3 (q + 1) 34 #[.int .i64 4, .slice (some ⟨q, 0, none⟩) 1 1] := by rw [← hW3, ← z2]; exact Blk.new _ _ _
  have hp2 : PS W2.heap.size W2 (some ⟨q, 0, none⟩) 1 [lp2] := by rw [← hW2, ← hq]; exact ps_one w2 lp2
  have k23 : Below w2.heap.size w2 W3 := k2.trans (k3.mono k2.size)
  have hp3 := hp2.on k3
  have C2 := HCR.out _ _ p lvS1 lvS3 4 lp2 2 0 W3 (some ⟨q, 0, none⟩) (HD2.out.below k23) (.inr rfl) (.inr rfl) hp3 lv_r2
  have u0 := kc.cell 0
  have u1 := kc.cell 1
  simp only [List.getElem?_toArray, List.getElem?_cons_zero, List.getElem?_cons_succ] at u0 u1
  have HC2 := Lib.hid C2; have HK23 := Lib.hid k23; have HKC := Lib.hid kc; have HP3 := Lib.hid hp3
  have HW3 : Hid ((w2.alloc (.cells #[.int .i64 0, .int .i64 1, .int .i64 0, .int .i64 1, .string ⟨#[120]⟩] 59)).alloc (.cells #[.int .i64 4, .slice (some ⟨q, 0, none⟩) 1 1] 34) = W3) := by rw [← hW3, ← hW2]; rfl
  have HTQ : Hid (∀ b, T2 b → b < q) := fun b hb => by rw [← hq]; exact HD2.out.lt b hb
  have hzq : q + 2 = W3.heap.size := by rw [← hW3]; simp [z2]
  have HZQ := Lib.hid hzq
  clear C2 k23 kc hp3 hp2 k3 k2 z2 hW3 hW2 hzq
  go_wp2_with fail
  rw [HW3.out]
  refine HC2.out.mono ?_
  rintro e w4 ⟨rfl, T4, G4, hd4, hs4⟩
  have hzz := hs4.only.size
  have hbk : ∀ b, q ≤ b → b < W3.heap.size → w4.heap[b]? = W3.heap[b]? := fun b h1 h2 => hs4.only.block b h2 (fun hT => by have := HTQ.out b hT; omega)
  have hz9 := HZQ.out
  have v0 : w4.cell? ⟨q + 1, 0, none⟩ = some (.int .i64 4) := by rw [← u0]; simp only [World.cell?, hbk (q + 1) (by omega) (by omega)]
  have v1 : w4.cell? ⟨q + 1, 1, none⟩ = some (.slice (some ⟨q, 0, none⟩) 1 1) := by rw [← u1]; simp only [World.cell?, hbk (q + 1) (by omega) (by omega)]
  have hp4 : PS w4.heap.size w4 (some ⟨q, 0, none⟩) 1 [lp2] := by
    have h1 := (PsG.of (G := fun b => b = q) HP3.out (fun _ b hb => by obtain ⟨_, hb⟩ := hb; cases hb; rfl)).keep (G' := fun b => b = q) hzz (fun b hb hlt => by subst hb; exact hbk b (Nat.le_refl _) hlt) (fun _ h => h)
    obtain ⟨a', c', e1, e2⟩ := h1.ps
    simp only [Value.slice.injEq, true_and] at e1
    obtain ⟨rfl, rfl⟩ := e1
    exact e2
  have C3 := HCR.out _ _ p lvS3 lvS3 4 lp2 0 8 w4 (some ⟨q, 0, none⟩) hd4 (.inr rfl) (.inr rfl) hp4 lv_r3
  have HC3 := Lib.hid C3
  have HL4 : Hid (LvO w w4 T4) := (HL2.out.below HK23.out).step hs4
  clear C3 hp4 hbk hzz hz9 hs4 hd4 u0 u1 HC2 HW3
  go_wp2_with fail
  refine HC3.out.mono ?_
  rintro e w5 ⟨rfl, T5, G5, hd5, hs5⟩
  have HL5 : Hid (LvO w w5 T5) := HL4.out.step hs5
  have HD5 := Lib.hid hd5
  have C4 := Lib.hid (since_any T5 G5 p lvS3 w5 hd5 3 (by decide) (by decide) (by decide +kernel) 0 (by decide +kernel) (by decide) [le1, le3] lv_snc)
  clear hd5 hs5 HC3 v0 v1
  go_wp2_with fail
  refine C4.out.mono ?_
  rintro e w6 ⟨a6, c6, rfl, hE6, b6⟩
  have HE6 := Lib.hid hE6; have B56 := Lib.hid b6
  have C5 := Lib.hid (text_any T5 G5 p lvS3 w6 (HD5.out.below b6))
  have htx : lvS3.text = ⟨#[97, 120, 98, 121]⟩ := by kernel_rfl
  rw [htx] at C5
  have HL6 : Hid (LvO w w6 T5) := HL5.out.below b6
  clear hE6 b6 htx
  go_wp2_with fail
  refine C5.out.mono ?_
  rintro e w7 ⟨rfl, b7⟩
  have B67 := Lib.hid b7
  have HL7 : Hid (LvO w w7 T5) := HL6.out.below b7
  clear b7
  obtain ⟨W8, hW8⟩ : ∃ W, w7.alloc (.cells (rv [le1, le3]).toArray 82) = W := ⟨_, rfl⟩
  have k8 : Below w7.heap.size w7 W8 := by rw [← hW8]; exact (Below.refl _ _).alloc (Nat.le_refl _) _
  have C6 := Lib.hid (same_any a6 (some ⟨w7.heap.size, 0, none⟩) c6 2 [le1, le3] W8 (by decide) ((HE6.out.on B67.out).on k8) (by rw [← hW8]; exact es_two w7 le1 le3))
  have HL8 : Hid (LvO w W8 T5) := HL7.out.below k8
  have HW8 : Hid (w7.alloc (.cells #[.int .i64 1, .int .i64 1, .string ⟨#[120]⟩, .int .i64 2, .int .i64 2, .string ⟨#[121]⟩] 82) = W8) := hW8
  clear k8 hW8
  go_wp2_with fail
  rw [HW8.out]
  refine C6.out.mono ?_
  rintro e w9 ⟨rfl, b9⟩
  have HL9 : Hid (LvO w w9 T5) := HL8.out.below b9
  clear b9
  go_wp2_with fail
  go_ret
  exact ⟨rfl, HL9.out.b⟩

end Go.Proofs.Ytkehgoailhpenaa
