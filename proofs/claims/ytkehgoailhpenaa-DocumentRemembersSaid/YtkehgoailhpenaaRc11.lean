/- Texts of one claim, put together: DLv0, DLv, DEdt, RDw. Each part says what it proves and under which conditions. -/
import Derived.Test.YtkehgoailhpenaaRc10

/- The example of the chapter on documents, in the words of the specification. It has no conditions. -/
namespace Go.Proofs.Ytkehgoailhpenaa
open Go.RowKit Go.Shelf Go.Maps
set_option linter.unusedVariables false

abbrev lvA : ByteArray := ⟨#[97, 98]⟩
abbrev lvB : ByteArray := ⟨#[97, 120, 98]⟩
abbrev lvC : ByteArray := ⟨#[97, 120, 98, 121]⟩
abbrev lvX : ByteArray := ⟨#[120]⟩
abbrev lvY : ByteArray := ⟨#[121]⟩
def lp1 : PE := ⟨0, 3, 0, 3, lvY⟩
def lp2 : PE := ⟨0, 1, 0, 1, lvX⟩
def le1 : Er := ⟨1, 1, lvX⟩
def le2 : Er := ⟨3, 3, lvY⟩
def le3 : Er := ⟨2, 2, lvY⟩
theorem lv_sbA : sb lvA = [97, 98] := by decide +kernel
theorem lv_sbB : sb lvB = [97, 120, 98] := by decide +kernel
theorem lv_posA : Pos [97, 98] 1 0 1 := ⟨⟨1, bord_of (n := 12) (by decide +kernel)⟩, by decide +kernel, by rw [show (lf [97, 98] 1).2 = 0 by decide +kernel]; exact bord_of (n := 12) (by decide +kernel)⟩
theorem lv_posB : Pos [97, 120, 98] 3 0 3 := ⟨⟨3, bord_of (n := 12) (by decide +kernel)⟩, by decide +kernel, by rw [show (lf [97, 120, 98] 3).2 = 0 by decide +kernel]; exact bord_of (n := 12) (by decide +kernel)⟩
theorem lv_ed2 : edD (sb lvA) lp2 = (⟨1, 1, lvX⟩, 0) := by
  rw [lv_sbA]
  exact edD_eq (ed_there lvX lv_posA lv_posA (Nat.le_refl _))
theorem lv_ed1 : edD (sb lvB) lp1 = (⟨3, 3, lvY⟩, 0) := by
  rw [lv_sbB]
  exact edD_eq (ed_there lvY lv_posB lv_posB (Nat.le_refl _))
theorem lv_pE2 : pE lvA [lp2] = 0 ∧ pL lvA [lp2] = [le1] := by
  have h : pE lvA [lp2] = 0 := by
    unfold pE
    rw [if_neg (by decide)]
    simp only [pE0, lv_ed2, if_true]
  refine ⟨h, ?_⟩
  unfold pL
  rw [if_pos h]
  simp only [List.map_cons, List.map_nil, lv_ed2]
  rfl
theorem lv_pE1 : pE lvB [lp1] = 0 ∧ pL lvB [lp1] = [le2] := by
  have h : pE lvB [lp1] = 0 := by
    unfold pE
    rw [if_neg (by decide)]
    simp only [pE0, lv_ed1, if_true]
  refine ⟨h, ?_⟩
  unfold pL
  rw [if_pos h]
  simp only [List.map_cons, List.map_nil, lv_ed1]
  rfl
def lvS0 : DS := newS lvA 3
def lvS1 : DS := ⟨3, [(lvA, [])], [(5, [lp1])]⟩
def lvS2 : DS := ⟨4, [(lvA, [le1]), (lvB, [])], [(5, [lp1])]⟩
def lvS3 : DS := ⟨5, [(lvA, [le1]), (lvB, [le2]), (lvC, [])], []⟩
theorem lv_r1 : rcvF lvS0 5 [lp1] = ((0, 0), lvS1) := by
  have h1 : chkE lvS0 5 [lp1].length = 0 := by decide +kernel
  have h2 : lvS0.v + 1 < 5 := by decide +kernel
  unfold rcvF
  rw [h1, if_neg (by simp), if_pos h2]
  rfl
theorem lv_apl2 : aplE lvS1 [lp2] = 0 ∧ aplS lvS1 [lp2] = lvS2 := by
  have ht : lvS1.text = lvA := by kernel_rfl
  unfold aplE aplS
  rw [ht, lv_pE2.1, lv_pE2.2, if_pos rfl]
  exact ⟨by decide +kernel, by kernel_rfl⟩
theorem lv_apl1 : aplE (dropH lvS2) [lp1] = 0 ∧ aplS (dropH lvS2) [lp1] = lvS3 := by
  have ht : (dropH lvS2).text = lvB := by kernel_rfl
  unfold aplE aplS
  rw [ht, lv_pE1.1, lv_pE1.2, if_pos rfl]
  exact ⟨by decide +kernel, by kernel_rfl⟩
theorem lv_hld : hldF 1 lvS2 = (1, lvS3) := by
  have h1 : lvS2.v + 1 ∈ lvS2.hs.map Prod.fst := by decide +kernel
  have h2 : lookH lvS2.hs (lvS2.v + 1) = [lp1] := by kernel_rfl
  simp only [hldF]
  rw [if_pos h1, h2, if_pos lv_apl1.1, lv_apl1.2]
theorem lv_r2 : rcvF lvS1 4 [lp2] = ((2, 0), lvS3) := by
  have h1 : chkE lvS1 4 [lp2].length = 0 := by decide +kernel
  have h2 : ¬ lvS1.v + 1 < 4 := by decide +kernel
  unfold rcvF
  rw [h1, if_neg (by simp), if_neg h2, lv_apl2.1, if_neg (by simp), lv_apl2.2, show lvS1.hs.length = 1 from rfl, lv_hld]
  rfl
theorem lv_r3 : rcvF lvS3 4 [lp2] = ((0, 8), lvS3) := by
  have h1 : chkE lvS3 4 [lp2].length = 8 := by decide +kernel
  unfold rcvF
  rw [h1, if_pos (by decide)]
theorem lv_snc : SncOk lvA [] (nexts lvS3 0) [le1, le3] := by
  have h0 : nexts lvS3 0 = [[le1], [le2]] := by kernel_rfl
  have h1 : cmS lvA [] [le1] = [le1] := by kernel_rfl
  have h2 : cmS lvA [le1] [le2] = [le1, le3] := by kernel_rfl
  have f1 : le1.Fit := ⟨by decide, by decide, by decide, by decide, by decide⟩
  have f3 : le3.Fit := ⟨by decide, by decide, by decide, by decide, by decide⟩
  rw [h0]
  refine ⟨by decide +kernel, by decide +kernel, by decide +kernel, ?_, by rw [h1]; decide, ?_⟩
  · rw [h1]; intro e he; simp only [List.mem_singleton] at he; subst he; exact f1
  rw [h1]
  refine ⟨by decide +kernel, by decide +kernel, by decide +kernel, ?_, by rw [h2]; decide, h2⟩
  rw [h2]
  intro e he
  simp only [List.mem_cons, List.not_mem_nil, or_false] at he
  rcases he with rfl | rfl
  · exact f1
  · exact f3

end Go.Proofs.Ytkehgoailhpenaa

/- The documented example holds. It has no conditions. -/
namespace Go.Proofs.Ytkehgoailhpenaa
open Go.RowKit Go.Shelf Go.Maps
set_option linter.unusedVariables false

/-- One edit by positions in a new block. -/
theorem ps_one (w : World) (p : PE) : PS (w.alloc (.cells p.vals.toArray 59)).heap.size (w.alloc (.cells p.vals.toArray 59)) (some ⟨w.heap.size, 0, none⟩) 1 [p] := by
  refine ⟨Nat.le_refl _, by omega, .inr ⟨w.heap.size, 0, rfl, by simp, fun k hk i hi => ?_⟩⟩
  obtain rfl : k = 0 := by simp at hk; exact hk
  rw [(Blk.new w 59 p.vals.toArray).cell]
  simp [pG]
theorem es_two (w : World) (x y : Er) : ES (w.alloc (.cells (rv [x, y]).toArray 82)).heap.size (w.alloc (.cells (rv [x, y]).toArray 82)) (some ⟨w.heap.size, 0, none⟩) 2 [x, y] := by
  refine ⟨Nat.le_refl _, by omega, (fun h => by cases h), .inr ⟨w.heap.size, 0, rfl, by simp, fun k hk i hi => ?_⟩⟩
  rw [(Blk.new w 82 (rv [x, y]).toArray).cell, List.getElem?_toArray, Nat.zero_add]
  exact rv_get [x, y] k i hk hi
theorem lp_fit (p : PE) (h : p = lp1 ∨ p = lp2) : p.fit ∧ p.t.size ≤ 100000 := by
  rcases h with rfl | rfl <;> exact ⟨⟨⟨by decide, by decide⟩, ⟨by decide, by decide⟩, ⟨by decide, by decide⟩, ⟨by decide, by decide⟩⟩, by decide⟩

/-- What lay when the example began lies as it lay. -/
structure LvO (w W : World) (T : Nat → Prop) : Prop where
  b : Below w.heap.size w W
  t : ∀ b, T b → w.heap.size ≤ b
theorem LvO.below {w W W' : World} {T : Nat → Prop} (h : LvO w W T) (hb : Below W.heap.size W W') : LvO w W' T := ⟨h.b.trans (hb.mono h.b.size), h.t⟩
theorem LvO.step {w W W' : World} {T G T' G' : Nat → Prop} (h : LvO w W T) (k : Stp T G T' G' W W') : LvO w W' T' :=
  ⟨h.b.trans (k.below h.b.size h.t), fun b hb => (k.t b hb).elim (h.t b) (fun e => by have := h.b.size; omega)⟩

set_option maxRecDepth 100000 in
set_option maxHeartbeats 4000000 in
theorem lives_any (w : World) : Calls Try.prog 14 #[] w fun e w' => e = .returned (.bool true) ∧ Below w.heap.size w w' := by
  have CN := Lib.hid (new_any lvA 3 w)
  have hE : newE lvA 3 = 0 := by decide +kernel
  rw [hE] at CN
  have HCR : Hid (∀ (T G : Nat → Prop) (p : Nat) (s s' : DS) (cv : Int) (q : PE) (x y : Int) (W : World) (a : Option Addr), DocI T G W p s → (cv = 5 ∨ cv = 4) → (q = lp1 ∨ q = lp2) → PS W.heap.size W a 1 [q] → rcvF s cv [q] = ((x, y), s') →
      Calls Try.prog 9 #[.pointer (some ⟨p, 0, none⟩), .agg #[.int .i64 cv, .slice a 1 1]] W fun e w' => e = .returned (.tuple #[.int .i64 x, .int .i64 y]) ∧ ∃ T' G', DocI T' G' w' p s' ∧ Stp T G T' G' W w') := fun T G p s s' cv q x y W a hd hc hq hp hr => by
    have := receive_any T G p s W hd cv (by rcases hc with rfl | rfl <;> decide) (by rcases hc with rfl | rfl <;> decide) a 1 [q] hp (by simp) (fun r h => by simp only [List.mem_singleton] at h; subst h; exact lp_fit r hq)
    rw [hr] at this
    exact this
  clear hE
  go_enter Try.func14, Try.ntmps14
  go_wp2_with fail
  refine CN.out.mono ?_
  rintro e w1 hw
  obtain ⟨p, rfl, hd1, b1⟩ : ∃ p, e = .returned (.tuple #[.pointer (some ⟨p, 0, none⟩), .int .i64 0]) ∧ DocI (newB w w1) (fun _ => False) w1 p lvS0 ∧ Below w.heap.size w w1 := by
    rcases hw with ⟨h, _⟩ | ⟨_, p, h1, h2, h3⟩
    · exact absurd rfl h
    · exact ⟨p, h1, h2, h3⟩
  have HL1 : Hid (LvO w w1 (newB w w1)) := ⟨b1, fun b hb => hb.1⟩
  have HD1 := Lib.hid hd1
  clear hw hd1 b1
  obtain ⟨W1, hW1⟩ : ∃ W, w1.alloc (.cells lp1.vals.toArray 59) = W := ⟨_, rfl⟩
  have k1 : Below w1.heap.size w1 W1 := by rw [← hW1]; exact (Below.refl _ _).alloc (Nat.le_refl _) _
  have C1 := HCR.out _ _ p lvS0 lvS1 5 lp1 0 0 W1 (some ⟨w1.heap.size, 0, none⟩) (HD1.out.below k1) (.inl rfl) (.inl rfl) (by rw [← hW1]; exact ps_one w1 lp1) lv_r1
  have HC1 := Lib.hid C1; have HK1 := Lib.hid k1; have HW1 : Hid (w1.alloc (.cells #[.int .i64 0, .int .i64 3, .int .i64 0, .int .i64 3, .string ⟨#[121]⟩] 59) = W1) := hW1
  clear C1 k1 hW1
  go_wp2_with fail
  rw [HW1.out]
  refine HC1.out.mono ?_
  rintro e w2 ⟨rfl, T2, G2, hd2, hs2⟩
  have HL2 : Hid (LvO w w2 T2) := (HL1.out.below HK1.out).step hs2
  have HD2 := Lib.hid hd2
  clear hd2 hs2 HC1 HW1 HK1
  obtain ⟨q, hq⟩ : ∃ q, w2.heap.size = q := ⟨_, rfl⟩
  obtain ⟨W2, hW2⟩ : ∃ W, w2.alloc (.cells lp2.vals.toArray 59) = W := ⟨_, rfl⟩
  obtain ⟨W3, hW3⟩ : ∃ W, W2.alloc (.cells #[.int .i64 4, .slice (some ⟨q, 0, none⟩) 1 1] 34) = W := ⟨_, rfl⟩
  have z2 : W2.heap.size = q + 1 := by rw [← hW2, ← hq]; simp
  have k2 : Below w2.heap.size w2 W2 := by rw [← hW2]; exact (Below.refl _ _).alloc (Nat.le_refl _) _
  have k3 : Below W2.heap.size W2 W3 := by rw [← hW3]; exact (Below.refl _ _).alloc (Nat.le_refl _) _
  have kc : Blk W3 (q + 1) 34 #[.int .i64 4, .slice (some ⟨q, 0, none⟩) 1 1] := by rw [← hW3, ← z2]; exact Blk.new _ _ _
  have hp2 : PS W2.heap.size W2 (some ⟨q, 0, none⟩) 1 [lp2] := by rw [← hW2, ← hq]; exact ps_one w2 lp2
  have k23 : Below w2.heap.size w2 W3 := k2.trans (k3.mono k2.size)
  have hp3 := hp2.on k3
  have C2 := HCR.out _ _ p lvS1 lvS3 4 lp2 2 0 W3 (some ⟨q, 0, none⟩) (HD2.out.below k23) (.inr rfl) (.inr rfl) hp3 lv_r2
  have u0 := kc.cell 0
  have u1 := kc.cell 1
  simp only [List.getElem?_toArray, List.getElem?_cons_zero, List.getElem?_cons_succ] at u0 u1
  have HC2 := Lib.hid C2; have HK23 := Lib.hid k23; have HKC := Lib.hid kc; have HP3 := Lib.hid hp3
  have HW3 : Hid ((w2.alloc (.cells #[.int .i64 0, .int .i64 1, .int .i64 0, .int .i64 1, .string ⟨#[120]⟩] 59)).alloc (.cells #[.int .i64 4, .slice (some ⟨q, 0, none⟩) 1 1] 34) = W3) := by rw [← hW3, ← hW2]; rfl
  have HTQ : Hid (∀ b, T2 b → b < q) := fun b hb => by rw [← hq]; exact HD2.out.lt b hb
  have hzq : q + 2 = W3.heap.size := by rw [← hW3]; simp [z2]
  have HZQ := Lib.hid hzq
  clear C2 k23 kc hp3 hp2 k3 k2 z2 hW3 hW2 hzq
  go_wp2_with fail
  rw [HW3.out]
  refine HC2.out.mono ?_
  rintro e w4 ⟨rfl, T4, G4, hd4, hs4⟩
  have hzz := hs4.only.size
  have hbk : ∀ b, q ≤ b → b < W3.heap.size → w4.heap[b]? = W3.heap[b]? := fun b h1 h2 => hs4.only.block b h2 (fun hT => by have := HTQ.out b hT; omega)
  have hz9 := HZQ.out
  have v0 : w4.cell? ⟨q + 1, 0, none⟩ = some (.int .i64 4) := by rw [← u0]; simp only [World.cell?, hbk (q + 1) (by omega) (by omega)]
  have v1 : w4.cell? ⟨q + 1, 1, none⟩ = some (.slice (some ⟨q, 0, none⟩) 1 1) := by rw [← u1]; simp only [World.cell?, hbk (q + 1) (by omega) (by omega)]
  have hp4 : PS w4.heap.size w4 (some ⟨q, 0, none⟩) 1 [lp2] := by
    have h1 := (PsG.of (G := fun b => b = q) HP3.out (fun _ b hb => by obtain ⟨_, hb⟩ := hb; cases hb; rfl)).keep (G' := fun b => b = q) hzz (fun b hb hlt => by subst hb; exact hbk b (Nat.le_refl _) hlt) (fun _ h => h)
    obtain ⟨a', c', e1, e2⟩ := h1.ps
    simp only [Value.slice.injEq, true_and] at e1
    obtain ⟨rfl, rfl⟩ := e1
    exact e2
  have C3 := HCR.out _ _ p lvS3 lvS3 4 lp2 0 8 w4 (some ⟨q, 0, none⟩) hd4 (.inr rfl) (.inr rfl) hp4 lv_r3
  have HC3 := Lib.hid C3
  have HL4 : Hid (LvO w w4 T4) := (HL2.out.below HK23.out).step hs4
  clear C3 hp4 hbk hzz hz9 hs4 hd4 u0 u1 HC2 HW3
  go_wp2_with fail
  refine HC3.out.mono ?_
  rintro e w5 ⟨rfl, T5, G5, hd5, hs5⟩
  have HL5 : Hid (LvO w w5 T5) := HL4.out.step hs5
  have HD5 := Lib.hid hd5
  have C4 := Lib.hid (since_any T5 G5 p lvS3 w5 hd5 3 (by decide) (by decide) (by decide +kernel) 0 (by decide +kernel) (by decide) [le1, le3] lv_snc)
  clear hd5 hs5 HC3 v0 v1
  go_wp2_with fail
  refine C4.out.mono ?_
  rintro e w6 ⟨a6, c6, rfl, hE6, b6⟩
  have HE6 := Lib.hid hE6; have B56 := Lib.hid b6
  have C5 := Lib.hid (text_any T5 G5 p lvS3 w6 (HD5.out.below b6))
  have htx : lvS3.text = ⟨#[97, 120, 98, 121]⟩ := by kernel_rfl
  rw [htx] at C5
  have HL6 : Hid (LvO w w6 T5) := HL5.out.below b6
  clear hE6 b6 htx
  go_wp2_with fail
  refine C5.out.mono ?_
  rintro e w7 ⟨rfl, b7⟩
  have B67 := Lib.hid b7
  have HL7 : Hid (LvO w w7 T5) := HL6.out.below b7
  clear b7
  obtain ⟨W8, hW8⟩ : ∃ W, w7.alloc (.cells (rv [le1, le3]).toArray 82) = W := ⟨_, rfl⟩
  have k8 : Below w7.heap.size w7 W8 := by rw [← hW8]; exact (Below.refl _ _).alloc (Nat.le_refl _) _
  have C6 := Lib.hid (same_any a6 (some ⟨w7.heap.size, 0, none⟩) c6 2 [le1, le3] W8 (by decide) ((HE6.out.on B67.out).on k8) (by rw [← hW8]; exact es_two w7 le1 le3))
  have HL8 : Hid (LvO w W8 T5) := HL7.out.below k8
  have HW8 : Hid (w7.alloc (.cells #[.int .i64 1, .int .i64 1, .string ⟨#[120]⟩, .int .i64 2, .int .i64 2, .string ⟨#[121]⟩] 82) = W8) := hW8
  clear k8 hW8
  go_wp2_with fail
  rw [HW8.out]
  refine C6.out.mono ?_
  rintro e w9 ⟨rfl, b9⟩
  have HL9 : Hid (LvO w w9 T5) := HL8.out.below b9
  clear b9
  go_wp2_with fail
  go_ret
  exact ⟨rfl, HL9.out.b⟩

end Go.Proofs.Ytkehgoailhpenaa

/- The contract of Edit. It has no condition on how many states are remembered. -/
namespace Go.Proofs.Ytkehgoailhpenaa
open Go.RowKit Go.Shelf Go.Maps
set_option linter.unusedVariables false

/-- The error of an edit of the server. -/
def edtE (s : DS) (es : List Er) : Int := if 0 < s.hs.length then 23 else if s.v = 1099511627776 then 5 else advE s es

set_option maxRecDepth 100000 in
set_option maxHeartbeats 4000000 in
theorem edit_any (T G : Nat → Prop) (p : Nat) (s : DS) (w : World) (h : DocI T G w p s) (a : Option Addr) (cap : Nat) (es : List Er) (hE : ES w.heap.size w a cap es) (hn : es.length ≤ 1000) (hf : ∀ e ∈ es, e.Fit) :
    Calls Try.prog 20 #[.pointer (some ⟨p, 0, none⟩), .slice a es.length cap] w fun e w' =>
      (edtE s es ≠ 0 ∧ e = .returned (.tuple #[.int .i64 0, .int .i64 (edtE s es)]) ∧ Below w.heap.size w w') ∨
      (edtE s es = 0 ∧ e = .returned (.tuple #[.int .i64 (s.v + 1), .int .i64 0]) ∧ ∃ T' G', DocI T' G' w' p (advS s es) ∧ Stp T G T' G' w w') := by
  have hv0 := h.ok.v0
  have hv1 := h.ok.v1
  obtain ⟨g, cp, m, n', D, _, _, c0, _, c2, hm, hh, hTm, hpW⟩ := h.full
  have hlen := hm.len Try.underlying70 3
  rw [hh.size] at hlen
  obtain ⟨R, hR⟩ : ∃ r, edtE s es = r := ⟨_, rfl⟩
  have hRE : R = if 0 < s.hs.length then 23 else if s.v = 1099511627776 then 5 else advE s es := by rw [← hR]; rfl
  rw [hR]
  have HAD : Hid (s.v + 1 ≤ 1099511627776 → ∀ W, Below w.heap.size w W → ∀ a' c', ES W.heap.size W a' c' es → (∀ b, blkOf a' b → ¬ T b) → _) := Lib.hid (fun hv W hW a' c' hEs hT => advance_any T G p s W (h.below hW) hv a' c' es hEs hn hf hT)
  have HCL := Lib.hid (clonee_any a cap es w (by omega) hE)
  have HTL : Hid (∀ b, T b → b < w.heap.size) := h.lt
  obtain ⟨n, hn'⟩ : ∃ n, es.length = n := ⟨_, rfl⟩
  rw [hn'] at HAD HCL ⊢
  obtain ⟨H, hH⟩ : ∃ n, s.hs.length = n := ⟨_, rfl⟩
  rw [hH] at hlen hRE
  obtain ⟨S2, hS2⟩ : ∃ q, advS s es = q := ⟨_, rfl⟩
  obtain ⟨A, hA⟩ : ∃ q, advE s es = q := ⟨_, rfl⟩
  have hS2v : S2.v = s.v + 1 := by rw [← hS2]; rfl
  rw [hS2, hA] at HAD
  rw [hA] at hRE
  rw [hS2]
  obtain ⟨v, hv⟩ : ∃ v, s.v = v := ⟨_, rfl⟩
  rw [hv] at hv0 hv1 c0 hRE hS2v HAD ⊢
  have HRE := Lib.hid hRE; have HSV := Lib.hid hS2v
  clear h hm hh hE hf hR hRE hn' hH hS2 hA hv hS2v
  by_cases h1 : 0 < H
  · have h2 : (0 : Int) < (H : Int) := by omega
    have hr := HRE.out
    rw [if_pos h1] at hr
    subst hr
    go_enter Try.func20, Try.ntmps20
    go_wp2_with fail
    go_ret2
    first | exact .inl ⟨by decide, rfl, Below.refl _ _⟩ | exact ⟨rfl, Below.refl _ _⟩
  obtain rfl : H = 0 := by omega
  by_cases h3 : v = 1099511627776
  · have hr := HRE.out
    rw [if_neg (by omega), if_pos h3] at hr
    subst hr
    subst h3
    go_enter Try.func20, Try.ntmps20
    go_wp2_with fail
    go_ret2
    first | exact .inl ⟨by decide, rfl, Below.refl _ _⟩ | exact ⟨rfl, Below.refl _ _⟩
  have hr := HRE.out
  rw [if_neg (by omega), if_neg h3] at hr
  subst hr
  have hvb : (v == 1099511627776) = false := by simp [h3]
  have HA := HAD.out (by omega)
  have HAD2 := Lib.hid HA
  clear HA HAD h3
  go_enter Try.func20, Try.ntmps20
  go_wp2_with fail
  refine HCL.out.mono ?_
  rintro e w1 ⟨a1, c1, rfl, hE1, hf1, b1⟩
  have B1 := Lib.hid b1; have HF1 := Lib.hid hf1
  have HC := Lib.hid (HAD2.out w1 b1 a1 c1 hE1 (fun b hb hT => by have := hf1 b hb; have := HTL.out b hT; omega))
  clear b1 hf1 hE1
  go_wp2_with fail
  refine HC.out.mono ?_
  rintro e w2 ⟨rfl, hw⟩
  have HW := Lib.hid hw
  clear hw
  by_cases h5 : R = 0
  · subst h5
    have hX : ∃ T' G', DocI T' G' w2 p S2 ∧ Stp T G T' G' w w2 := by
      rcases HW.out with ⟨q, _⟩ | ⟨_, q2, q3⟩
      · exact absurd rfl q
      · have hz := B1.out.size
        refine ⟨_, _, q2, (Only.of_below B1.out).trans q3, fun b hb => hb.imp id (fun h => by omega), fun b hb => hb.imp id (fun h => HF1.out b h.2)⟩
    obtain ⟨T2, G2, hd2, hs2⟩ := hX
    obtain ⟨g2, cp2, m2, n2, D2, _, _, d0, _⟩ := hd2.full
    rw [HSV.out] at d0
    have HD2 := Lib.hid hd2; have HS2 := Lib.hid hs2
    clear hd2 hs2
    go_wp2_with fail
    go_ret2
    first | exact .inr ⟨trivial, rfl, T2, G2, HD2.out, HS2.out⟩ | exact ⟨rfl, T2, G2, HD2.out, HS2.out⟩ | exact .inr ⟨rfl, rfl, T2, G2, HD2.out, HS2.out⟩
  · have hq : (R != 0) = true := by simp [h5]
    have H5 := Lib.hid h5
    have hX : Below w.heap.size w w2 := by
      rcases HW.out with ⟨_, q2⟩ | ⟨q, _⟩
      · exact B1.out.trans (q2.mono B1.out.size)
      · exact absurd q h5
    have HX := Lib.hid hX
    clear hX h5
    go_wp2_with fail
    go_ret2
    exact .inl ⟨H5.out, rfl, HX.out⟩

end Go.Proofs.Ytkehgoailhpenaa

/- The walk of DocumentRemembers. It has no conditions. -/
namespace Go.Proofs.Ytkehgoailhpenaa
open Go.RowKit Go.Shelf Go.Maps
set_option linter.unusedVariables false

theorem ch_at {B : Nat} {W : World} {vs : List (Int × Value)} {cs : List (List PE)} {i : Nat} (hV : Held1 (fun b => b < B) W vs cs) (hi : i < cs.length) {ap : Option Addr} {np cp : Nat} (he : (cG vs i).2 = .slice ap np cp) : np = cs[i].length ∧ PS W.heap.size W ap cp cs[i] ∧ (cs[i].length ≠ 0 → ∀ b, blkOf ap b → b < B) := by
  obtain ⟨_, a, cap, h1, h2, h3, h5⟩ := hV.2 i hi
  rw [List.getElem?_eq_getElem hi] at h1 h2 h5
  simp only [Option.getD_some] at h1 h2 h5
  rw [he] at h1
  simp only [Value.slice.injEq] at h1
  obtain ⟨rfl, rfl, rfl⟩ := h1
  refine ⟨rfl, ⟨h2, h3, ?_⟩, fun h0 b hb => ?_⟩
  · rcases h5 with h5 | ⟨b, off, k1, k2, k3, k4⟩
    · exact .inl h5
    · exact .inr ⟨b, off, k1, k3, k4⟩
  · obtain ⟨b', off, k1, k2, k3, k4⟩ := h5.resolve_left h0
    obtain ⟨off', k5⟩ := hb
    rw [k1] at k5
    cases k5
    exact k2
theorem rem_rcv1 {T G : Nat → Prop} {p B : Nat} {s : DS} {W : World} {S : ByteArray} {vs : List (Int × Value)} {cs : List (List PE)} {i : Nat} (hD : DocI T G W p s) (hF : Fits S cs) (hn : cs.length ≤ 16) (hV : Held1 (fun b => b < B) W vs cs) (hi : i < cs.length) {ap : Option Addr} {np cp : Nat} (he : (cG vs i).2 = .slice ap np cp) :
    Calls Try.prog 9 #[.pointer (some ⟨p, 0, none⟩), .agg #[.int .i64 ((i : Int) + 1), .slice ap np cp]] W fun e w' => (∃ n e', e = .returned (.tuple #[.int .i64 n, .int .i64 e'])) ∧ ∃ T' G', DocI T' G' w' p (rcvF s ((i : Int) + 1) cs[i]).2 ∧ Stp T G T' G' W w' := by
  obtain ⟨rfl, h2, h3⟩ := ch_at hV hi he
  obtain ⟨m1, m2⟩ := hF.mem hi
  exact (receive_any T G p s W hD ((i : Int) + 1) (by omega) (by omega) ap cp cs[i] h2 (by omega) m2).mono (fun e w' ⟨g1, g2⟩ => ⟨⟨_, _, g1⟩, g2⟩)
theorem rem_rcv2 {T G : Nat → Prop} {p B : Nat} {r : RS} {W : World} {S : ByteArray} {vs : List (Int × Value)} {cs : List (List PE)} {i : Nat} (hD : RDocI T G W p r) (hl : r.h.length ≤ 850) (hlow : ∀ b, b < B → G b) (hF : Fits S cs) (hn : cs.length ≤ 16) (hV : Held1 (fun b => b < B) W vs cs) (hi : i < cs.length) {ap : Option Addr} {np cp : Nat} (he : (cG vs i).2 = .slice ap np cp) :
    Calls Try.prog 16 #[.pointer (some ⟨p, 0, none⟩), .agg #[.int .i64 ((i : Int) + 1), .slice ap np cp]] W fun e w' => (∃ n e', e = .returned (.tuple #[.int .i64 n, .int .i64 e'])) ∧ ∃ T' G', RDocI T' G' w' p (rrcvF r ((i : Int) + 1) cs[i]).2 ∧ Stp T G T' G' W w' := by
  obtain ⟨rfl, h2, h3⟩ := ch_at hV hi he
  obtain ⟨m1, m2⟩ := hF.mem hi
  exact (rreceive_any T G p r W hD hl ((i : Int) + 1) (by omega) (by omega) ap cp cs[i] h2 (by omega) m2 (fun h0 b hb => hlow b (h3 h0 b hb))).mono (fun e w' ⟨g1, g2⟩ => ⟨⟨_, _, g1⟩, g2⟩)

/-- Both documents, in memory and in step. -/
structure Dos (B : Nat) (W : World) (pd pr : Nat) (T G T2 G2 : Nat → Prop) (s : DS) (r : RS) (m : Nat) : Prop where
  two : Two s r
  d : DocI T G W pd s
  rd : RDocI T2 G2 W pr r
  sep : Sep2 B W T G T2 G2
  len : r.h.length ≤ m
theorem Dos.below {B : Nat} {W W' : World} {pd pr : Nat} {T G T2 G2 : Nat → Prop} {s : DS} {r : RS} {m : Nat} (h : Dos B W pd pr T G T2 G2 s r m) (hb : Below W.heap.size W W') : Dos B W' pd pr T G T2 G2 s r m :=
  ⟨h.two, h.d.below hb, h.rd.below hb, h.sep.below hb.size, h.len⟩
theorem es_keep2 {w w' : World} {a : Option Addr} {cap : Nat} {es : List Er} (h : ES w.heap.size w a cap es) (hz : w.heap.size ≤ w'.heap.size) (hb : ∀ b, blkOf a b → b < w.heap.size → w'.heap[b]? = w.heap[b]?) : ES w'.heap.size w' a cap es := by
  refine ⟨h.le, h.mx, h.nil, ?_⟩
  rcases h.cells with h5 | ⟨b, off, k1, k3, k4⟩
  · exact .inl h5
  · refine .inr ⟨b, off, k1, by omega, fun k hk i hi => ?_⟩
    rw [← k4 k hk i hi]
    simp only [World.cell?, hb b ⟨off, k1⟩ k3]
/-- A new list of edits joins what the reference's document may keep. -/
theorem Dos.give {B : Nat} {W W' : World} {pd pr : Nat} {T G T2 G2 : Nat → Prop} {s : DS} {r : RS} {m : Nat} (h : Dos B W pd pr T G T2 G2 s r m) (hb : Below W.heap.size W W') {a : Option Addr} {cap : Nat} {es : List Er} (hE : ES W'.heap.size W' a cap es) (hnew : ∀ b, blkOf a b → W.heap.size ≤ b) : Dos B W' pd pr T G T2 (addG G2 es.length a) s r m := by
  have hz := hb.size
  have hlt : ∀ b, addG G2 es.length a b → b < W'.heap.size := fun b hb' => by
    rcases hb' with q | ⟨q1, q2⟩
    · have := h.rd.glt b q; omega
    · exact es_lt hE q1 q2
  refine ⟨h.two, h.d.below hb, (h.rd.below hb).monoG (fun b hb' => .inl hb') hlt (fun b hT hg => ?_), ⟨by have := h.sep.z; omega, h.sep.t, h.sep.t2, fun b hT => ⟨(h.sep.a b hT).1, fun hg => ?_⟩, h.sep.a2, fun b hb' => ?_, fun b hb' => .inl (h.sep.lo b hb')⟩, h.len⟩
  · rcases hg with q | ⟨_, q⟩
    · exact h.rd.apart b hT q
    · have := hnew b q; have := h.rd.lt b hT; omega
  · rcases hg with q | ⟨_, q⟩
    · exact (h.sep.a b hT).2 q
    · have := hnew b q; have := h.d.lt b hT; omega
  · rcases hb' with q | q | q | q
    · have := h.sep.lt b (.inl q); omega
    · have := h.sep.lt b (.inr (.inl q)); omega
    · have := h.sep.lt b (.inr (.inr (.inl q))); omega
    · exact hlt b q
theorem rem_at {B : Nat} {W : World} {pd pr : Nat} {T G T2 G2 : Nat → Prop} {s : DS} {r : RS} {m : Nat} (h : Dos B W pd pr T G T2 G2 s r m) (x : Int) (hx : -9223372036854775808 ≤ x ∧ x ≤ 9223372036854775807) : ∃ (K : Prop) (t : ByteArray) (L : List (List Er)), (K → ChF t L ∧ endF t L = r.text ∧ t.size ≤ 4096) ∧
    (∀ W', Below W.heap.size W W' → Calls Try.prog 22 #[.pointer (some ⟨pd, 0, none⟩), .int .i64 x] W' (AtP W' K t)) ∧
    (∀ W', Below W.heap.size W W' → Calls Try.prog 23 #[.pointer (some ⟨pr, 0, none⟩), .int .i64 x] W' (AtP W' K t)) ∧
    (∀ W', Below W.heap.size W W' → Calls Try.prog 24 #[.pointer (some ⟨pd, 0, none⟩), .int .i64 x] W' (SncP W' K t r.text L)) ∧
    (x ≤ 9000000000000000000 → ∀ W', Below W.heap.size W W' → Calls Try.prog 25 #[.pointer (some ⟨pr, 0, none⟩), .int .i64 x] W' (SncP W' K t r.text L)) := by
  obtain ⟨k, t, L, q1, q2, q3, q4, q5⟩ := h.two.at h.rd.ok.text x
  refine ⟨Kn r x, t, L, q2, fun W' hW => ?_, fun W' hW => ?_, fun W' hW => ?_, fun hx9 W' hW => ?_⟩
  · have := at2_any T G pd s W' (h.d.below hW) x hx.1 hx.2 k q3 t (fun hh => by obtain ⟨hk, q, _⟩ := q4 hh; exact ⟨hk, q⟩)
    rwa [show (oldS s ≤ x ∧ x ≤ s.v) = Kn r x from propext q1] at this
  · refine (rdat_any T2 G2 pr r W' (h.rd.below hW) x ⟨hx.1, hx.2⟩).mono ?_
    rintro e w' ⟨b, hw⟩
    refine ⟨b, ?_⟩
    rcases hw with ⟨w1, w2⟩ | ⟨w1, k', hk', w2, w3⟩
    · exact .inl ⟨w1, w2⟩
    · obtain ⟨k2, hk2, w4, w5, _⟩ := q5 w1
      obtain rfl : k' = k2 := by omega
      exact .inr ⟨w1, by rw [w3, w5]⟩
  · have := since2_any T G pd s W' (h.d.below hW) x hx.1 hx.2 k q3 t L q4
    rwa [show (oldS s ≤ x ∧ x ≤ s.v) = Kn r x from propext q1, h.two.sim.t] at this
  · exact rsince_any T2 G2 pr r W' (h.rd.below hW) x ⟨hx.1, hx.2⟩ hx9 t L q5
theorem AtP.yes {w w' : World} {K : Prop} {t : ByteArray} {e : Ending} (h : AtP w K t e w') (hK : K) : e = .returned (.tuple #[.string t, .int .i64 0]) ∧ Below w.heap.size w w' := ⟨(h.2.resolve_left (fun q => q.1 hK)).2, h.1⟩
theorem AtP.no {w w' : World} {K : Prop} {t : ByteArray} {e : Ending} (h : AtP w K t e w') (hK : ¬ K) : e = .returned (.tuple #[.string ⟨#[]⟩, .int .i64 7]) ∧ Below w.heap.size w w' := ⟨(h.2.resolve_right (fun q => hK q.1)).2, h.1⟩
theorem SncP.yes {w w' : World} {K : Prop} {t u : ByteArray} {L : List (List Er)} {e : Ending} (h : SncP w K t u L e w') (hK : K) : ∃ R a cap, SncR t u [] L R ∧ e = .returned (.tuple #[.slice a R.length cap, .int .i64 0]) ∧ ES w'.heap.size w' a cap R ∧ Below w.heap.size w w' := by
  obtain ⟨R, a, cap, q1, q2, q3⟩ := (h.2.resolve_left (fun q => q.1 hK)).2
  exact ⟨R, a, cap, q1, q2, q3, h.1⟩
theorem SncP.no {w w' : World} {K : Prop} {t u : ByteArray} {L : List (List Er)} {e : Ending} (h : SncP w K t u L e w') (hK : ¬ K) : e = .returned (.tuple #[.slice none 0 0, .int .i64 7]) ∧ Below w.heap.size w w' := ⟨(h.2.resolve_right (fun q => hK q.1)).2, h.1⟩
/-- The state of the law's last loop. -/
structure RemR (w wr : World) (q : Value) : Prop where
  ex : ∃ (j : Nat), q = .int .i64 ((j : Int) - 2) ∧ j ≤ 28 ∧ Hid (Below w.heap.size w wr)
theorem redE_len {r : RS} {es : List Er} (h : redE r es = 0) : becE r es = 0 := by
  unfold redE at h
  split at h
  · omega
  · split at h
    · omega
    · exact h

set_option maxRecDepth 100000 in
set_option maxHeartbeats 8000000 in
theorem walkDRem (a0 : Option Addr) (cap0 : Nat) (ls : List Int) (a1 : Option Addr) (cap1 : Nat) (ns : List Int) (aro : Int) (w : World)
    (h0 : Sli .i64 w a0 cap0 ls) (hi0 : ∀ n ∈ ls, -9223372036854775808 ≤ n ∧ n ≤ 9223372036854775807) (h1 : Sli .i64 w a1 cap1 ns) (hi1 : ∀ n ∈ ns, -9223372036854775808 ≤ n ∧ n ≤ 9223372036854775807) (h2 : -9223372036854775808 ≤ aro ∧ aro ≤ 9223372036854775807) :
    Calls Try.prog 4 #[.slice a0 ls.length cap0, .slice a1 ns.length cap1, .int .i64 aro] w fun e w' => e = .returned (.bool true) ∧ Below w.heap.size w w' := by
  have cC := chain_any a0 cap0 ls 8 w h0 hi0 (by omega)
  obtain ⟨n0, hn0⟩ : ∃ n, ls.length = n := ⟨_, rfl⟩
  obtain ⟨n1, hn1⟩ : ∃ n, ns.length = n := ⟨_, rfl⟩
  have hsl : SlI w.heap.size w a1 n1 := by have := SlI.of h1 hi1; rwa [hn1] at this
  have hc1 : n1 ≤ cap1 := by have := h1.le; omega
  have hm1 := h1.mx
  rw [hn0] at cC ⊢
  rw [hn1]
  have CC := Lib.hid cC; have HSL := Lib.hid hsl
  clear cC h0 hi0 h1 hi1 hsl hn0 hn1
  go_enter Try.func4, Try.ntmps4
  go_wp2_with fail
  refine CC.out.mono ?_
  rintro e w1 ⟨S, cs, vs, v, rfl, hSz, _, hcl, hF, hown, hV, hb1⟩
  obtain ⟨n, hn⟩ : ∃ n, cs.length = n := ⟨_, rfl⟩
  have hvn : vs.length = n := by rw [hV.1, hn]
  obtain ⟨z1, ac, cc, rfl, hVS, z2, z3⟩ := vs_of_own hown
  rw [hvn]
  rw [hn] at hcl
  have HVO := Lib.hid hV.ok
  have H1 := Lib.hid hb1; have HF := Lib.hid hF; have HN := Lib.hid hn; have HVN := Lib.hid hvn
  have hV1 : Held1 (fun b => b < w1.heap.size) w1 vs cs := hV.keep (Nat.le_refl _) (fun _ _ _ => rfl) (fun b _ hlt => hlt)
  have HCH : Hid (∀ W, Below w1.heap.size w1 W → VS w1.heap.size W ac cc vs ∧ Held1 (fun b => b < w1.heap.size) W vs cs) := fun W hW =>
    ⟨hVS.keep (fun b _ hlt => hW.block b hlt), hV1.keep hW.size (fun b _ hlt => hW.block b hlt) (fun b hb _ => hb)⟩
  have hE : newE S 0 = 0 := by unfold newE; rw [if_neg (by omega), if_neg (by omega)]
  have HNW : Hid (∀ W, Calls Try.prog 8 #[.string S, .int .i64 0] W fun e w' => ∃ p, e = .returned (.tuple #[.pointer (some ⟨p, 0, none⟩), .int .i64 0]) ∧ DocI (newB W w') (fun _ => False) w' p (newS S 0) ∧ Below W.heap.size W w') := fun W => (new_any S 0 W).mono (by
    rintro e w' hw
    rcases hw with ⟨h, _⟩ | ⟨_, p, h1, h2, h3⟩
    · exact absurd hE h
    · exact ⟨p, by rw [h1], h2, h3⟩)
  have HNR : Hid (∀ W, Calls Try.prog 15 #[.string S, .int .i64 0] W fun e w' => ∃ p, e = .returned (.tuple #[.pointer (some ⟨p, 0, none⟩), .int .i64 0]) ∧ RDocI (newB W w') (fun _ => False) w' p (rnewS S 0) ∧ Below W.heap.size W w') := fun W => (rnew_any S 0 W).mono (by
    rintro e w' hw
    rcases hw with ⟨h, _⟩ | ⟨_, p, h1, h2, h3⟩
    · exact absurd hE h
    · exact ⟨p, by rw [h1], h2, h3⟩)
  have htwo : Two (newS S 0) (rnewS S 0) := Two.new S 0
  obtain ⟨s0, hs0⟩ : ∃ s, newS S 0 = s := ⟨_, rfl⟩
  obtain ⟨r0, hr0⟩ : ∃ s, rnewS S 0 = s := ⟨_, rfl⟩
  have hr1 : r0.h.length ≤ 1 := by rw [← hr0]; exact Nat.le_refl _
  simp only [hs0, hr0] at HNW HNR
  rw [hs0, hr0] at htwo
  have HTW := Lib.hid htwo
  clear hV hV1 hVS hown hb1 hF hn hvn CC z1 z2 z3 hE hs0 hr0 htwo
  go_wp2_with fail
  refine (HNW.out w1).mono ?_
  rintro e w2 ⟨pd, rfl, hd, b2⟩
  have HD2 := Lib.hid hd; have HB2 := Lib.hid b2
  clear hd b2 HNW
  go_wp2_with fail
  refine (HNR.out w2).mono ?_
  rintro e w3 ⟨pr, rfl, hr, b3⟩
  have HB3 : Hid (Below w1.heap.size w1 w3) := HB2.out.trans (b3.mono HB2.out.size)
  have HDS3 : Hid (Dos w1.heap.size w3 pd pr (newB w1 w2) (fun _ => False) (newB w2 w3) (fun b => b < w1.heap.size) s0 r0 (1 + 17 * 0)) := by
    have z2 := HB2.out.size
    have z3 := b3.size
    refine ⟨HTW.out, HD2.out.below b3, hr.monoG (fun b hb => hb.elim) (fun b hb => by omega) (fun b hb hlt => by have := hb.1; omega), ⟨by omega, fun b hb => hb.1, fun b hb => by have := hb.1; omega, fun b hb => ⟨fun q => by have := hb.2; have := q.1; omega, fun q => by have := hb.1; omega⟩, fun b _ h => h, fun b hb => ?_, fun b hb => hb⟩, hr1⟩
    rcases hb with hb | hb | hb | hb
    · have := hb.2; omega
    · exact hb.elim
    · exact hb.2
    · omega
  have hncc : n ≤ 8 := hcl
  clear hr b3 HNR HTW hr1
  go_wp2_with fail
  go_loopw [13] (fun q wr => ∃ (i : Nat) (s : DS) (r : RS) (T G T2 G2 : Nat → Prop), q = .int .i64 (i : Int) ∧ i ≤ n ∧ Hid (Dos w1.heap.size wr pd pr T G T2 G2 s r (1 + 17 * i)) ∧ Hid (Below w1.heap.size w1 wr)) (fun q _ => n - (intOf q).toNat)
  case atStart => exact ⟨0, s0, r0, _, _, _, _, rfl, by omega, HDS3, HB3⟩
  case round =>
    obtain ⟨i, s, r, T, G, T2, G2, rfl, hi, HD, HB⟩ := hrel
    have m1 : IntKind.i64.wrap ((i : Int) + 1) = (i : Int) + 1 := by simp [IntKind.wrap, IntKind.signed, IntKind.bits]; omega
    by_cases hin : i < n
    · have hin2 : (i : Int) < (n : Int) := by omega
      have hiv : i < vs.length := by rw [HVN.out]; exact hin
      have hic : i < cs.length := by rw [HN.out]; exact hin
      obtain ⟨hu, hh⟩ := HCH.out wr HB.out
      obtain ⟨ap, np, cp, he⟩ := HVO.out _ (cG_mem hiv)
      have hx := (hh.2 i hic).1
      obtain ⟨b, off, hac, hblt, hcell⟩ := hu.cells.resolve_left (by omega)
      obtain ⟨c1, c2⟩ := hcell i hiv
      rw [hx] at c1; rw [he] at c2
      have HE := Lib.hid he
      have HR1 := Lib.hid (rem_rcv1 HD.out.d HF.out (by rw [HN.out]; omega) hh hic he)
      have HC5 : Hid (∀ W, Below w1.heap.size w1 W → W.cell? ⟨b, off + i * 2, none⟩ = some (.int .i64 ((i : Int) + 1)) ∧ W.cell? ⟨b, off + i * 2 + 1, none⟩ = some (.slice ap np cp)) := fun W hW => by
        obtain ⟨hu5, hh5⟩ := HCH.out W hW
        obtain ⟨b', off', hac', _, hcell'⟩ := hu5.cells.resolve_left (by omega)
        rw [hac] at hac'; cases hac'
        have := hcell' i hiv
        rw [hx, HE.out] at this
        exact this
      subst hac
      clear hu hh hcell he hx hblt
      go_wp2_with fail
      refine HR1.out.mono ?_
      rintro e w5 ⟨⟨x1, x2, rfl⟩, T', G', hd, hs⟩
      have HB5 : Hid (Below w1.heap.size w1 w5) := HB.out.trans (hs.below HD.out.sep.z HD.out.sep.t)
      have hRr := HD.out.rd.kept HD.out.sep hs
      have hS5 := HD.out.sep.one hs (fun b hb => hb.elim (hd.lt b) (hd.glt b))
      have HR5 := Lib.hid hRr; have HS5 := Lib.hid hS5; have HDd := Lib.hid hd
      have HR2 := Lib.hid (rem_rcv2 hRr (by have := HD.out.len; omega) hS5.lo HF.out (by rw [HN.out]; omega) (HCH.out w5 HB5.out).2 hic HE.out)
      obtain ⟨d1, d2⟩ := HC5.out w5 HB5.out
      clear hd hs hRr hS5 HR1 c1 c2
      go_wp2_with fail
      refine HR2.out.mono ?_
      rintro e w6 ⟨⟨x3, x4, rfl⟩, T3, G3, hr6, hs6⟩
      have HDS6 : Hid (Dos w1.heap.size w6 pd pr T' G' T3 (fun b => G3 b ∨ b < w1.heap.size) (rcvF s ((i : Int) + 1) cs[i]).2 (rrcvF r ((i : Int) + 1) cs[i]).2 (1 + 17 * (i + 1))) :=
        ⟨HD.out.two.rcv _ _, HDd.out.kept HS5.out hs6, hr6.lowG HS5.out hs6, HS5.out.two hs6 (fun b hb => hb.elim (hr6.lt b) (hr6.glt b)), by have := rrcv_len r ((i : Int) + 1) cs[i]; have := HD.out.len; have := HD.out.rd.ok.hlen; omega⟩
      have HB6 : Hid (Below w1.heap.size w1 w6) := HB5.out.trans (hs6.below HS5.out.z HS5.out.t2)
      clear hr6 hs6 HR2 d1 d2
      go_wp2
      go_roundw
      case rel => exact ⟨i + 1, _, _, T', G', T3, _, by go_num, by omega, HDS6, HB6⟩
      case measure => simp [intOf]; omega
    · have hin2 : ¬ ((i : Int) < (n : Int)) := by omega
      have HD0 : Hid (Dos w1.heap.size wr pd pr T G T2 G2 s r (137 + 0)) := ⟨HD.out.two, HD.out.d, HD.out.rd, HD.out.sep, by have := HD.out.len; omega⟩
      have HPK : Hid (∀ W, Below w1.heap.size w1 W → Calls Try.prog 17 #[.slice a1 n1 cap1, .int .i64 0, .int .i64 16] W (Index 16 W)) := fun W hW => pick_any w.heap.size a1 n1 cap1 0 16 W (HSL.out.below (H1.out.trans (hW.mono H1.out.size))) hc1 hm1 (by omega) (by omega) (by omega)
      have HED : Hid (∀ t W, Below w1.heap.size w1 W → t.size ≤ 4096 → Calls Try.prog 18 #[.string t, .slice a1 n1 cap1] W (MadeB t W)) := fun t W hW ht => edits_any t a1 n1 cap1 W (by omega) (HSL.out.on (H1.out.trans (hW.mono H1.out.size))) hc1 hm1
      clear hin hi m1 HD
      go_wp2_with fail
      go_loopw [14] (fun q wr => ∃ (i : Nat) (s : DS) (r : RS) (T G T2 G2 : Nat → Prop), q = .int .i64 (i : Int) ∧ i ≤ 16 ∧ Hid (Dos w1.heap.size wr pd pr T G T2 G2 s r (137 + i)) ∧ Hid (Below w1.heap.size w1 wr)) (fun q _ => 16 - (intOf q).toNat)
      case atStart => exact ⟨0, s, r, T, G, T2, G2, rfl, by omega, HD0, HB⟩
      clear HD0 HB
      case round =>
        obtain ⟨i, s, r, T, G, T2, G2, rfl, hi, HD, HB⟩ := hrel
        have m1 : IntKind.i64.wrap ((i : Int) + 1) = (i : Int) + 1 := by simp [IntKind.wrap, IntKind.signed, IntKind.bits]; omega
        go_wp2_with fail
        refine (HPK.out wr HB.out).mono ?_
        rintro e w' ⟨k, hk, rfl, rfl⟩
        by_cases hin : i < k
        · have hin2 : (i : Int) < (k : Int) := by omega
          have HTX := Lib.hid (rtxt_any T2 G2 pr r wr HD.out.rd)
          have htz := HD.out.rd.tsize
          obtain ⟨t, ht⟩ : ∃ t, r.text = t := ⟨_, rfl⟩
          rw [ht] at HTX htz
          have HT := Lib.hid ht
          clear ht
          go_wp2_with fail
          refine HTX.out.mono ?_
          rintro e w5 ⟨rfl, b5⟩
          have HD5 := Lib.hid (HD.out.below b5)
          have HB5 : Hid (Below w1.heap.size w1 w5) := HB.out.trans (b5.mono HB.out.size)
          clear b5 HTX
          go_wp2_with fail
          refine (HED.out t w5 HB5.out htz).mono ?_
          rintro e w6 ⟨es, v, rfl, hel, hev, hex, hown6, b6⟩
          obtain ⟨z1, ax, cx, rfl, hE6, hnew6⟩ := es_of_own2 hown6
          have HB6 : Hid (Below w1.heap.size w1 w6) := HB5.out.trans (b6.mono HB5.out.size)
          have HD6 := Lib.hid (HD5.out.give b6 hE6 hnew6)
          have hfit := fit_of hev (by omega) (fun e he => by have := (hex e he).1; omega)
          have HE6 := Lib.hid hE6; have HFT := Lib.hid hfit; have HNW6 := Lib.hid hnew6; have HLT6 : Hid (∀ b, T2 b → b < w5.heap.size) := HD5.out.rd.lt
          have HC1 := Lib.hid (edit_any T G pd s w6 HD6.out.d ax cx es hE6 (by omega) hfit)
          have hED : edtE s es = redE r es := HD6.out.two.sim.edtE es
          obtain ⟨R, hR⟩ : ∃ x, redE r es = x := ⟨_, rfl⟩
          rw [hED, hR] at HC1
          have HR := Lib.hid hR
          obtain ⟨ne, hne⟩ : ∃ x, es.length = x := ⟨_, rfl⟩
          have HNE := Lib.hid hne
          rw [hne] at HC1 ⊢
          clear hown6 hE6 hnew6 hex hev b6 hfit hED hR hne z1
          go_wp2_with fail
          refine HC1.out.mono ?_
          rintro e w7 hw
          rcases hw with ⟨hR0, rfl, b7⟩ | ⟨hR0, rfl, T', G', hd7, hs7⟩
          · have HD7 := Lib.hid (HD6.out.below b7)
            have HB7 : Hid (Below w1.heap.size w1 w7) := HB6.out.trans (b7.mono HB6.out.size)
            have hc2 := redit_any T2 _ pr r w7 HD7.out.rd (by have := HD7.out.len; omega) ax cx es (HE6.out.on b7) (by omega) HFT.out (fun b hb hT => by have := HNW6.out b hb; have := HLT6.out b hT; omega)
            rw [HR.out, HNE.out] at hc2
            have HC2 := Lib.hid hc2
            have HR0 := Lib.hid hR0
            clear hc2 b7 hR0
            go_wp2_with fail
            refine HC2.out.mono ?_
            rintro e w8 hw
            obtain ⟨_, rfl, b8⟩ := hw.resolve_right (fun q => HR0.out q.1)
            have HD8 : Hid (Dos w1.heap.size w8 pd pr T G T2 (addG G2 es.length ax) s r (137 + (i + 1))) := by
              have := HD7.out.below b8
              exact ⟨this.two, this.d, this.rd, this.sep, by have := this.len; omega⟩
            have HB8 : Hid (Below w1.heap.size w1 w8) := HB7.out.trans (b8.mono HB7.out.size)
            clear hw b8 HC2
            go_wp2
            go_roundw
            case rel => exact ⟨i + 1, s, r, T, G, T2, _, by go_num, by omega, HD8, HB8⟩
            case measure => simp [intOf]; omega
          · have HB7 : Hid (Below w1.heap.size w1 w7) := HB6.out.trans (hs7.below HD6.out.sep.z HD6.out.sep.t)
            have hz7 := hs7.only.size
            have hRr := HD6.out.rd.kept HD6.out.sep hs7
            have HS7 := Lib.hid (HD6.out.sep.one hs7 (fun b hb => hb.elim (hd7.lt b) (hd7.glt b)))
            have hE7 : ES w7.heap.size w7 ax cx es := es_keep2 HE6.out hz7 (fun b hb hlt => hs7.only.block b hlt (fun hT => by have := HNW6.out b hb; have := HD5.out.d.lt b hT; omega))
            have hc2 := redit_any T2 _ pr r w7 hRr (by have := HD6.out.len; omega) ax cx es hE7 (by omega) HFT.out (fun b hb hT => by have := HNW6.out b hb; have := HLT6.out b hT; omega)
            rw [HR.out, HNE.out] at hc2
            have HC2 := Lib.hid hc2
            have HD7 := Lib.hid hd7
            have HR0 := Lib.hid hR0
            have HRr := Lib.hid hRr
            clear hc2 hd7 hs7 hR0 hE7 hRr hz7
            go_wp2_with fail
            refine HC2.out.mono ?_
            rintro e w8 hw
            obtain ⟨_, rfl, T3, hr8, ho8, ht8⟩ := hw.resolve_left (fun q => q.1 HR0.out)
            have hs8 : Stp T2 (addG G2 es.length ax) T3 (addG (addG G2 ne ax) ne ax) w7 w8 := ⟨ho8, ht8, fun b hb => by
              rw [HNE.out]
              rcases hb with q | q
              · exact .inl q
              · exact .inl (.inr q)⟩
            have HD8 : Hid (Dos w1.heap.size w8 pd pr T' G' T3 (fun b => addG (addG G2 ne ax) ne ax b ∨ b < w1.heap.size) (advS s es) (becS r es) (137 + (i + 1))) :=
              ⟨HD6.out.two.adv (redE_len (HR.out.trans HR0.out)), HD7.out.kept HS7.out hs8, hr8.lowG HS7.out hs8, HS7.out.two hs8 (fun b hb => hb.elim (hr8.lt b) (hr8.glt b)), by show (r.h ++ _).length ≤ _; rw [List.length_append, List.length_singleton]; have := HD6.out.len; omega⟩
            have HB8 : Hid (Below w1.heap.size w1 w8) := HB7.out.trans (hs8.below HS7.out.z HS7.out.t2)
            clear hw hr8 ho8 ht8 hs8 HC2
            go_wp2
            go_roundw
            case rel => exact ⟨i + 1, _, _, T', G', T3, _, by go_num, by omega, HD8, HB8⟩
            case measure => simp [intOf]; omega
        · have hin2 : ¬ ((i : Int) < (k : Int)) := by omega
          have hdf : decide (i < k) = false := by simp; omega
          clear hin hi m1 hk HPK HED
          obtain ⟨wB, rfl⟩ : ∃ V : World, V = wr := ⟨_, rfl⟩
          obtain ⟨U, hU⟩ : ∃ u, r.text = u := ⟨_, rfl⟩
          have hUz := HD.out.rd.tsize
          rw [hU] at hUz
          have hsU : s.text = U := by rw [HD.out.two.sim.t]; exact hU
          have HTD : Hid (∀ W, Below wB.heap.size wB W → Calls Try.prog 11 #[.pointer (some ⟨pd, 0, none⟩)] W fun e w' => e = .returned (.string U) ∧ Below W.heap.size W w') := fun W hW => by
            have := text_any T G pd s W (HD.out.d.below hW)
            rwa [hsU] at this
          have HAT := Lib.hid (fun x hx => rem_at HD.out x hx)
          rw [hU] at HAT
          have HSM : Hid (∀ W a c a' c' R, R.length ≤ 1000 → ES W.heap.size W a c R → ES W.heap.size W a' c' R → Calls Try.prog 26 #[.slice a R.length c, .slice a' R.length c'] W fun e w' => e = .returned (.bool true) ∧ Below W.heap.size W w') := fun W a c a' c' R hR h h' => same_any a a' c c' R W hR h h'
          have HZ : Hid (w1.heap.size ≤ wB.heap.size) := HB.out.size
          have qU : (U.toList != U.toList) = false := by simp
          have qE : (([] : List UInt8) != ([] : List UInt8)) = false := by simp
          clear hU hsU HD
          go_wp2_with fail
          go_loopw [16] (fun q wr => RemR wB wr q) (fun q _ => 28 - (intOf q + 2).toNat)
          case atStart => exact ⟨⟨0, rfl, by omega, Lib.hid (Below.refl _ _)⟩⟩
          case round =>
            obtain ⟨⟨j, rfl, hj, HX⟩⟩ := hrel
            have m1 : IntKind.i64.wrap ((j : Int) - 2 + 1) = (j : Int) - 2 + 1 := by simp [IntKind.wrap, IntKind.signed, IntKind.bits]; omega
            by_cases hin : j < 28
            · have hin2 : (j : Int) - 2 < 26 := by omega
              obtain ⟨K, t, L, hK, cA, cB, cC, cD⟩ := HAT.out ((j : Int) - 2) (by omega)
              have HA := Lib.hid cA; have HB2 := Lib.hid cB; have HC := Lib.hid cC; have HD2 := Lib.hid (cD (by omega))
              have HK := Lib.hid hK
              clear cA cB cC cD hK
              by_cases hk : K
              · have HKK := Lib.hid hk
                have qt : (t.toList != t.toList) = false := by simp
                obtain ⟨hch, hend, htz⟩ := HK.out hk
                have HCH := Lib.hid (And.intro hch hend)
                clear hk hch hend
                go_wp2_with fail
                refine (HA.out wr HX.out).mono ?_
                rintro e w5 hw
                obtain ⟨rfl, b5⟩ := hw.yes HKK.out
                have HX5 : Hid (Below wB.heap.size wB w5) := HX.out.trans (b5.mono HX.out.size)
                clear hw b5
                go_wp2_with fail
                refine (HB2.out w5 HX5.out).mono ?_
                rintro e w6 hw
                obtain ⟨rfl, b6⟩ := hw.yes HKK.out
                have HX6 : Hid (Below wB.heap.size wB w6) := HX5.out.trans (b6.mono HX5.out.size)
                clear hw b6
                go_wp2_with fail
                refine (HC.out w6 HX6.out).mono ?_
                rintro e w7 hw
                obtain ⟨R, aR, cR, hsn, rfl, hE7, b7⟩ := hw.yes HKK.out
                have HX7 : Hid (Below wB.heap.size wB w7) := HX6.out.trans (b7.mono HX6.out.size)
                have HSN := Lib.hid hsn; have HE7 := Lib.hid hE7
                clear hw b7 hsn hE7
                go_wp2_with fail
                refine (HD2.out w7 HX7.out).mono ?_
                rintro e w8 hw
                obtain ⟨R2, aQ, cQ, hsn2, rfl, hE8, b8⟩ := hw.yes HKK.out
                obtain rfl : R2 = R := hsn2.det HSN.out
                obtain ⟨g1, g2, g3, g4⟩ := HSN.out.all HCH.out.1 HCH.out.2 hUz
                have HX8 : Hid (Below wB.heap.size wB w8) := HX7.out.trans (b8.mono HX7.out.size)
                have HES := Lib.hid (And.intro (HE7.out.on b8) hE8)
                have hfit := fit_of g1 (by omega) (fun e he => by have := g4 e he; omega)
                have HFT := Lib.hid hfit
                have HCS := Lib.hid (HSM.out w8 aR cR aQ cQ R2 (by omega) HES.out.1 HES.out.2)
                have HAP : Hid (∀ W, Below w8.heap.size w8 W → Calls Try.prog 27 #[.string t, .slice aR R2.length cR] W fun e w' => e = .returned (.tuple #[.string U, .int .i64 0]) ∧ Below W.heap.size W w') := fun W hW => by
                  have := papply_any t aR cR R2 W (by omega) (by omega) HFT.out (HES.out.1.on hW)
                  rwa [g1, g2] at this
                obtain ⟨nR, hnR⟩ : ∃ x, R2.length = x := ⟨_, rfl⟩
                rw [hnR] at HCS HAP ⊢
                clear hw b8 hsn2 hE8 g1 g2 g3 g4 hfit hnR
                go_wp2_with fail
                refine HCS.out.mono ?_
                rintro e w9 ⟨rfl, b9⟩
                have HX9 : Hid (Below wB.heap.size wB w9) := HX8.out.trans (b9.mono HX8.out.size)
                have HAP9 := Lib.hid (HAP.out w9 b9)
                clear b9
                go_wp2_with fail
                refine HAP9.out.mono ?_
                rintro e w10 ⟨rfl, b10⟩
                have HX10 : Hid (Below wB.heap.size wB w10) := HX9.out.trans (b10.mono HX9.out.size)
                clear b10
                go_wp2_with fail
                refine (HTD.out w10 HX10.out).mono ?_
                rintro e w11 ⟨rfl, b11⟩
                have HX11 : Hid (Below wB.heap.size wB w11) := HX10.out.trans (b11.mono HX10.out.size)
                clear b11
                go_wp2
                go_roundw
                case rel =>
                  have hv : (Value.int .i64 ((j : Int) - 2 + 1)) = .int .i64 (((j + 1 : Nat) : Int) - 2) := by rw [show (j : Int) - 2 + 1 = ((j + 1 : Nat) : Int) - 2 by omega]
                  exact ⟨⟨j + 1, hv, by omega, HX11⟩⟩
                case measure => simp [intOf]; omega
              · have HKK := Lib.hid hk
                clear hk
                go_wp2_with fail
                refine (HA.out wr HX.out).mono ?_
                rintro e w5 hw
                obtain ⟨rfl, b5⟩ := hw.no HKK.out
                have HX5 : Hid (Below wB.heap.size wB w5) := HX.out.trans (b5.mono HX.out.size)
                clear hw b5
                go_wp2_with fail
                refine (HB2.out w5 HX5.out).mono ?_
                rintro e w6 hw
                obtain ⟨rfl, b6⟩ := hw.no HKK.out
                have HX6 : Hid (Below wB.heap.size wB w6) := HX5.out.trans (b6.mono HX5.out.size)
                clear hw b6
                go_wp2_with fail
                refine (HC.out w6 HX6.out).mono ?_
                rintro e w7 hw
                obtain ⟨rfl, b7⟩ := hw.no HKK.out
                have HX7 : Hid (Below wB.heap.size wB w7) := HX6.out.trans (b7.mono HX6.out.size)
                clear hw b7
                go_wp2_with fail
                refine (HD2.out w7 HX7.out).mono ?_
                rintro e w8 hw
                obtain ⟨rfl, b8⟩ := hw.no HKK.out
                have HX8 : Hid (Below wB.heap.size wB w8) := HX7.out.trans (b8.mono HX7.out.size)
                have HCS := Lib.hid (HSM.out w8 none 0 none 0 [] (by simp) (ES.none _ _) (ES.none _ _))
                clear hw b8
                go_wp2_with fail
                refine HCS.out.mono ?_
                rintro e w9 ⟨rfl, b9⟩
                have HX9 : Hid (Below wB.heap.size wB w9) := HX8.out.trans (b9.mono HX8.out.size)
                clear b9
                go_wp2
                go_roundw
                case rel =>
                  have hv : (Value.int .i64 ((j : Int) - 2 + 1)) = .int .i64 (((j + 1 : Nat) : Int) - 2) := by rw [show (j : Int) - 2 + 1 = ((j + 1 : Nat) : Int) - 2 by omega]
                  exact ⟨⟨j + 1, hv, by omega, HX9⟩⟩
                case measure => simp [intOf]; omega
            · have hin2 : ¬ ((j : Int) - 2 < 26) := by omega
              obtain ⟨K, t, L, hK, cA, cB, cC, cD⟩ := HAT.out aro h2
              have HA := Lib.hid cA; have HB2 := Lib.hid cB
              clear cA cB cC cD hK
              by_cases hk : K
              · have HKK := Lib.hid hk
                clear hk
                go_wp2_with fail
                refine (HA.out wr HX.out).mono ?_
                rintro e w5 hw
                obtain ⟨rfl, b5⟩ := hw.yes HKK.out
                have HX5 : Hid (Below wB.heap.size wB w5) := HX.out.trans (b5.mono HX.out.size)
                clear hw b5
                go_wp2_with fail
                refine (HB2.out w5 HX5.out).mono ?_
                rintro e w6 hw
                obtain ⟨rfl, b6⟩ := hw.yes HKK.out
                have HX6 : Hid (Below wB.heap.size wB w6) := HX5.out.trans (b6.mono HX5.out.size)
                clear hw b6
                go_wp2_with fail
                refine (lives_any w6).mono ?_
                rintro e w7 ⟨rfl, b7⟩
                have HX7 : Hid (Below w.heap.size w w7) := H1.out.trans ((HB.out.trans ((HX6.out.trans (b7.mono HX6.out.size)).mono HB.out.size)).mono H1.out.size)
                clear b7
                go_wp2
                go_ret
                exact ⟨rfl, HX7.out⟩
              · have HKK := Lib.hid hk
                clear hk
                go_wp2_with fail
                refine (HA.out wr HX.out).mono ?_
                rintro e w5 hw
                obtain ⟨rfl, b5⟩ := hw.no HKK.out
                have HX5 : Hid (Below wB.heap.size wB w5) := HX.out.trans (b5.mono HX.out.size)
                clear hw b5
                go_wp2_with fail
                refine (HB2.out w5 HX5.out).mono ?_
                rintro e w6 hw
                obtain ⟨rfl, b6⟩ := hw.no HKK.out
                have HX6 : Hid (Below wB.heap.size wB w6) := HX5.out.trans (b6.mono HX5.out.size)
                clear hw b6
                go_wp2_with fail
                refine (lives_any w6).mono ?_
                rintro e w7 ⟨rfl, b7⟩
                have HX7 : Hid (Below w.heap.size w w7) := H1.out.trans ((HB.out.trans ((HX6.out.trans (b7.mono HX6.out.size)).mono HB.out.size)).mono H1.out.size)
                clear b7
                go_wp2
                go_ret
                exact ⟨rfl, HX7.out⟩

end Go.Proofs.Ytkehgoailhpenaa
