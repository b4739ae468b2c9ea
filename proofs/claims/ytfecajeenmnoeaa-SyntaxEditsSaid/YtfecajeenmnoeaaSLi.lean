/- SLi, with the texts that only it needs in front of it: SEx. It has no conditions. -/
import Derived.Test.YtfecajeenmnoeaaSGe
import Derived.Test.YtfecajeenmnoeaaSameInts

/- The tree of the documented examples. It has no conditions. -/
namespace Go.Proofs.Ytfecajeenmnoeaa
open Go.RowKit Go.Shelf
set_option linter.unusedVariables false

/-- The tree of the documented examples. -/
def exT : Nd := .mk 0 37 ⟨#[]⟩ [.mk 0 50 ⟨#[]⟩ [.mk 0 2 ⟨#[97]⟩ []], .mk 0 6 ⟨#[43]⟩ [], .mk 0 49 ⟨#[]⟩ [.mk 0 0 ⟨#[32]⟩ [], .mk 0 4 ⟨#[49]⟩ []]]

set_option maxRecDepth 100000 in
set_option maxHeartbeats 4000000 in
theorem example_any (w : World) :
    Calls Try.prog 48 #[] w fun e w' => ∃ a, e = .returned (ndv exT a 3 3) ∧ KV (fun b => w.heap.size ≤ b) w' a 3 3 exT.kids ∧ Below w.heap.size w w' := by
  go_enter Try.func48, Try.ntmps48
  go_wp2_with fail
  obtain ⟨q, hq⟩ : ∃ q, w.heap.size = q := ⟨_, rfl⟩
  rw [hq]
  obtain ⟨v0, h0⟩ : ∃ c : Array Value, c = #[.int .i64 0, .int .i64 37, .string ⟨#[]⟩, .slice (some ⟨q + 1 + 1 + 1 + 1 + 1, 0, none⟩) 3 3] := ⟨_, rfl⟩
  obtain ⟨v1, h1⟩ : ∃ c : Array Value, c = #[.int .i64 0, .int .i64 2, .string ⟨#[97]⟩, .slice none 0 0] := ⟨_, rfl⟩
  obtain ⟨v2, h2⟩ : ∃ c : Array Value, c = #[.int .i64 0, .int .i64 50, .string ⟨#[]⟩, .slice (some ⟨q + 1, 0, none⟩) 1 1] := ⟨_, rfl⟩
  obtain ⟨v3, h3⟩ : ∃ c : Array Value, c = #[.int .i64 0, .int .i64 0, .string ⟨#[32]⟩, .slice none 0 0, .int .i64 0, .int .i64 4, .string ⟨#[49]⟩, .slice none 0 0] := ⟨_, rfl⟩
  obtain ⟨v4, h4⟩ : ∃ c : Array Value, c = #[.int .i64 0, .int .i64 49, .string ⟨#[]⟩, .slice (some ⟨q + 1 + 1 + 1, 0, none⟩) 2 2] := ⟨_, rfl⟩
  obtain ⟨v5, h5⟩ : ∃ c : Array Value, c = #[.int .i64 0, .int .i64 50, .string ⟨#[]⟩, .slice (some ⟨q + 1, 0, none⟩) 1 1, .int .i64 0, .int .i64 6, .string ⟨#[43]⟩, .slice none 0 0, .int .i64 0, .int .i64 49, .string ⟨#[]⟩, .slice (some ⟨q + 1 + 1 + 1, 0, none⟩) 2 2] := ⟨_, rfl⟩
  rw [← h0, ← h1, ← h2, ← h3, ← h4, ← h5]
  obtain ⟨W, hW⟩ : ∃ W, (((((w.alloc (.cells v0 25)).alloc (.cells v1 25)).alloc (.cells v2 25)).alloc (.cells v3 25)).alloc (.cells v4 25)).alloc (.cells v5 25) = W := ⟨_, rfl⟩
  have k0 : Blk W q 25 v0 := by rw [← hW, ← hq]; exact (((((Blk.new w _ _).alloc _).alloc _).alloc _).alloc _).alloc _
  have k1 : Blk W (q + 1) 25 v1 := by
    have := Blk.new (w.alloc (.cells v0 25)) 25 v1
    simp only [World.size_alloc, hq] at this
    rw [← hW]; exact (((this.alloc _).alloc _).alloc _).alloc _
  have k3 : Blk W (q + 1 + 1 + 1) 25 v3 := by
    have := Blk.new (((w.alloc (.cells v0 25)).alloc (.cells v1 25)).alloc (.cells v2 25)) 25 v3
    simp only [World.size_alloc, hq] at this
    rw [← hW]; exact (this.alloc _).alloc _
  have k5 : Blk W (q + 1 + 1 + 1 + 1 + 1) 25 v5 := by
    have := Blk.new (((((w.alloc (.cells v0 25)).alloc (.cells v1 25)).alloc (.cells v2 25)).alloc (.cells v3 25)).alloc (.cells v4 25)) 25 v5
    simp only [World.size_alloc, hq] at this
    rw [← hW]; exact this
  have hb : Below q w W := by
    rw [← hW, ← hq]
    exact ((((((Below.refl _ w).alloc (Nat.le_refl _) _).alloc (by simp) _).alloc (by simp; omega) _).alloc (by simp; omega) _).alloc (by simp; omega) _).alloc (by simp; omega) _
  rw [hW]
  have r0 := k0.cell 0
  have r1 := k0.cell 1
  have r2 := k0.cell 2
  have r3 := k0.cell 3
  have kz1 := k1.lt
  have kz3 := k3.lt
  have kz5 := k5.lt
  subst h0 h1 h3 h5
  simp only [List.getElem?_toArray, List.getElem?_cons_zero, List.getElem?_cons_succ] at r0 r1 r2 r3
  refine bodyPost_ret (v := .agg #[.int .i64 0, .int .i64 37, .string ⟨#[]⟩, .slice (some ⟨q + 1 + 1 + 1 + 1 + 1, 0, none⟩) 3 3]) (by simp [results, Try.results48, go_sem, r0, r1, r2, r3]) rfl ?_
  refine ⟨_, rfl, ?_, hb⟩
  refine .cons (fun k => if k = 0 then some ⟨q + 1, 0, none⟩ else if k = 1 then none else some ⟨q + 1 + 1 + 1, 0, none⟩) (fun k => if k = 0 then 1 else if k = 1 then 0 else 2) (fun k => if k = 0 then 1 else if k = 1 then 0 else 2) rfl (by omega) (by omega) (by omega) kz5 (by omega) (fun k hk => ?_) (fun k hk => ?_)
  · match k, hk with
    | 0, _ => exact ⟨k5.cell 0, k5.cell 1, k5.cell 2, k5.cell 3⟩
    | 1, _ => exact ⟨k5.cell 4, k5.cell 5, k5.cell 6, k5.cell 7⟩
    | 2, _ => exact ⟨k5.cell 8, k5.cell 9, k5.cell 10, k5.cell 11⟩
  · match k, hk with
    | 0, _ =>
      refine KV.cons (fun _ => none) (fun _ => 0) (fun _ => 0) rfl (by simp) (by simp) (by simp) kz1 (by omega) (fun k hk => ?_) (fun k hk => ?_)
      · match k, hk with
        | 0, _ => exact ⟨k1.cell 0, k1.cell 1, k1.cell 2, k1.cell 3⟩
      · match k, hk with
        | 0, _ => exact .nil (fun _ => rfl) (by omega)
    | 1, _ => exact .nil (fun _ => rfl) (by simp)
    | 2, _ =>
      refine KV.cons (fun _ => none) (fun _ => 0) (fun _ => 0) rfl (by simp) (by simp) (by simp) kz3 (by omega) (fun k hk => ?_) (fun k hk => ?_)
      · match k, hk with
        | 0, _ => exact ⟨k3.cell 0, k3.cell 1, k3.cell 2, k3.cell 3⟩
        | 1, _ => exact ⟨k3.cell 4, k3.cell 5, k3.cell 6, k3.cell 7⟩
      · match k, hk with
        | 0, _ => exact .nil (fun _ => rfl) (by omega)
        | 1, _ => exact .nil (fun _ => rfl) (by omega)

theorem ex_lspots : lspots exT = [⟨[0, 0], .mk 0 2 ⟨#[97]⟩ [], 0⟩, ⟨[1], .mk 0 6 ⟨#[43]⟩ [], 1⟩, ⟨[2, 0], .mk 0 0 ⟨#[32]⟩ [], 2⟩, ⟨[2, 1], .mk 0 4 ⟨#[49]⟩ [], 3⟩] := by
  simp [lspots, exT, spots, spotsL, Nd.leaf, Nd.kind, Nd.pw, pws, ByteArray.size]
theorem ex_cnt : exT.cnt = 7 := by simp [exT, Nd.cnt, cnts]
theorem ex_dep : exT.dep = 3 := by simp [exT, Nd.dep, deps]
theorem ex_pw : exT.pw = 4 := by simp [exT, Nd.pw, pws, ByteArray.size]
theorem ex_text : bs (ltx (lspots exT)) = ⟨#[97, 43, 32, 49]⟩ := by
  rw [ex_lspots]; rfl
theorem ex_get : getN exT [2] = some (.mk 0 49 ⟨#[]⟩ [.mk 0 0 ⟨#[32]⟩ [], .mk 0 4 ⟨#[49]⟩ []], 2) := by
  simp [getN, exT, Nd.kids, pws, Nd.pw, ByteArray.size]
theorem ex_path2 {w w' : World} {e : Ending} (h : PathP exT 2 w e w') : ∃ a c, e = .returned (.tuple #[.slice a 2 c, .bool true]) ∧ Sli .i64 w' a c [2, 0] ∧ Below w.heap.size w w' := by
  obtain ⟨hb, ⟨k, s, v, h1, h2, h3, rfl, h5⟩ | ⟨h1, rfl⟩⟩ := h
  · rw [ex_lspots] at h1 h2
    have hs : s = ⟨[2, 0], .mk 0 0 ⟨#[32]⟩ [], 2⟩ := by
      match k, h1 with
      | 0, h1 => simp at h1; subst h1; simp [Hit, Nd.text, ByteArray.size] at h3
      | 1, h1 => simp at h1; subst h1; simp [Hit, Nd.text, ByteArray.size] at h3
      | 2, h1 => simp at h1; exact h1.symm
      | 3, h1 => simp at h1; subst h1; simp [Hit, Nd.text, ByteArray.size] at h3
      | n + 4, h1 => simp at h1
    subst hs
    obtain ⟨_, a, c, rfl, hs⟩ := sli_of_own (zs := [2, 0]) (by simpa [ints] using h5)
    exact ⟨a, c, rfl, hs, hb⟩
  · exact absurd ⟨by simp, by simp [Nd.text, ByteArray.size]⟩ (h1 ⟨[2, 0], .mk 0 0 ⟨#[32]⟩ [], 2⟩ (by rw [ex_lspots]; simp))
theorem ex_path4 {w w' : World} {e : Ending} (h : PathP exT 4 w e w') : e = .returned (.tuple #[.slice none 0 0, .bool false]) ∧ Below w.heap.size w w' := by
  obtain ⟨hb, ⟨k, s, v, h1, h2, h3, rfl, h5⟩ | ⟨h1, rfl⟩⟩ := h
  · rw [ex_lspots] at h1
    exfalso
    match k, h1 with
    | 0, h1 => simp at h1; subst h1; simp [Hit, Nd.text, ByteArray.size] at h3
    | 1, h1 => simp at h1; subst h1; simp [Hit, Nd.text, ByteArray.size] at h3
    | 2, h1 => simp at h1; subst h1; simp [Hit, Nd.text, ByteArray.size] at h3
    | 3, h1 => simp at h1; subst h1; simp [Hit, Nd.text, ByteArray.size] at h3
    | n + 4, h1 => simp at h1
  · exact ⟨rfl, hb⟩

end Go.Proofs.Ytfecajeenmnoeaa

/- The documented examples hold. It has no conditions. -/
namespace Go.Proofs.Ytfecajeenmnoeaa
open Go.RowKit Go.Shelf
set_option linter.unusedVariables false

set_option maxRecDepth 100000 in
set_option maxHeartbeats 4000000 in
theorem lives_any (w : World) : Calls Try.prog 14 #[] w fun e w' => e = .returned (.bool true) ∧ Below w.heap.size w w' := by
  have HE := Lib.hid (example_any w)
  go_enter Try.func14, Try.ntmps14
  go_wp2_with fail
  refine HE.out.mono ?_
  rintro e w2 ⟨a, rfl, hk2, b2⟩
  obtain ⟨W3, hW3⟩ : ∃ W, w2.alloc (.cells (ndc exT a 3 3) 25) = W := ⟨_, rfl⟩
  have b3 : Below w2.heap.size w2 W3 := by rw [← hW3]; exact (Below.refl _ _).alloc (Nat.le_refl _) _
  have k3 : Blk W3 w2.heap.size 25 (ndc exT a 3 3) := by rw [← hW3]; exact Blk.new _ _ _
  have hk3 := hk2.on b3
  obtain ⟨q, hq⟩ : ∃ q, w2.heap.size = q := ⟨_, rfl⟩
  rw [hq] at k3
  have HX : Hid (∀ W, Below W3.heap.size W3 W → W.cell? ⟨q, 0, none⟩ = some (.int .i64 0) ∧ W.cell? ⟨q, 1, none⟩ = some (.int .i64 37) ∧ W.cell? ⟨q, 2, none⟩ = some (.string ⟨#[]⟩) ∧ W.cell? ⟨q, 3, none⟩ = some (.slice a 3 3) ∧ KV (fun b => w.heap.size ≤ b) W a 3 3 exT.kids ∧ Below w.heap.size w W ∧ q < W.heap.size) := fun W hW => by
    have kk := k3.same (hW.block q k3.lt)
    exact ⟨kk.cell 0, kk.cell 1, kk.cell 2, kk.cell 3, hk3.on hW, (b2.trans (b3.mono b2.size)).trans (hW.mono (by have := b2.size; have := b3.size; omega)), kk.lt⟩
  have HPA : Hid (∀ (o : Int) W, -9223372036854775808 ≤ o → o ≤ 9223372036854775807 → Below W3.heap.size W3 W → Calls Try.prog 33 #[.agg #[.int .i64 0, .int .i64 37, .string ⟨#[]⟩, .slice a 3 3], .int .i64 o] W (PathP exT o W)) := fun o W h1 h2 hW =>
    ppath_any exT a 3 3 o W _ (HX.out W hW).2.2.2.2.1 (by rw [ex_cnt]; omega) (by rw [ex_pw]; omega) ⟨h1, h2⟩
  have HTX : Hid (∀ W, Below W3.heap.size W3 W → Calls Try.prog 31 #[.agg #[.int .i64 0, .int .i64 37, .string ⟨#[]⟩, .slice a 3 3]] W fun e w' => e = .returned (.string ⟨#[97, 43, 32, 49]⟩) ∧ Below W.heap.size W w') := fun W hW => by
    have := ptext_any exT a 3 3 W _ (HX.out W hW).2.2.2.2.1 (by rw [ex_cnt]; omega) (by rw [ex_pw]; omega)
    rw [ex_text] at this
    exact this
  have HCO : Hid (∀ W, Below W3.heap.size W3 W → Calls Try.prog 38 #[.agg #[.int .i64 0, .int .i64 37, .string ⟨#[]⟩, .slice a 3 3]] W fun e w' => e = .returned (.int .i64 7) ∧ Below W.heap.size W w') := fun W hW => by
    have := pcount_any exT a 3 3 W _ (HX.out W hW).2.2.2.2.1 (by rw [ex_cnt]; omega) (by rw [ex_pw]; omega)
    rw [ex_cnt] at this
    exact this
  have HDE : Hid (∀ W, Below W3.heap.size W3 W → Calls Try.prog 40 #[.agg #[.int .i64 0, .int .i64 37, .string ⟨#[]⟩, .slice a 3 3]] W fun e w' => e = .returned (.int .i64 3) ∧ Below W.heap.size W w') := fun W hW => by
    have := pdepth_any exT a 3 3 W _ (HX.out W hW).2.2.2.2.1 (by rw [ex_cnt]; omega) (by rw [ex_pw]; omega)
    rw [ex_dep] at this
    exact this
  have HGE : Hid (∀ W (b c : Nat), Below W3.heap.size W3 W → Sli .i64 W (some ⟨b, 0, none⟩) c [2] → Calls Try.prog 30 #[.agg #[.int .i64 0, .int .i64 37, .string ⟨#[]⟩, .slice a 3 3], .slice (some ⟨b, 0, none⟩) 1 c] W fun e w' => ∃ a' c', e = .returned (.tuple #[.agg #[.int .i64 0, .int .i64 49, .string ⟨#[]⟩, .slice a' 2 c'], .int .i64 2, .bool true]) ∧ Below W.heap.size W w') := fun W b c hW hs => by
    refine (pget_any exT a 3 3 (some ⟨b, 0, none⟩) c [2] W _ (HX.out W hW).2.2.2.2.1 (by rw [ex_cnt]; omega) (by rw [ex_pw]; omega) hs (by simp)).mono ?_
    rintro e w' ⟨hb, ⟨x, o, a', c', hg, rfl, _⟩ | ⟨hg, _⟩⟩
    · rw [ex_get] at hg
      simp only [Option.some.injEq, Prod.mk.injEq] at hg
      obtain ⟨rfl, rfl⟩ := hg
      exact ⟨a', c', rfl, hb⟩
    · rw [ex_get] at hg; cases hg
  have HW3 : Hid (w2.alloc (.cells #[.int .i64 0, .int .i64 37, .string ⟨#[]⟩, .slice a 3 3] 25) = W3) := hW3
  have HQ := Lib.hid hq
  clear hk2 b2 hW3 b3 k3 hk3 hq
  go_wp2_with fail
  rw [show exT.id = 0 from rfl, show exT.kind = 37 from rfl, show exT.text = ⟨#[]⟩ from rfl, HW3.out, HQ.out]
  refine (HPA.out 2 W3 (by omega) (by omega) (Below.refl _ _)).mono ?_
  rintro e w4 h4
  obtain ⟨pa, pc, rfl, hs4, b4⟩ := ex_path2 h4
  obtain ⟨c0, c1, c2, c3, _, _, _⟩ := HX.out w4 b4
  have HS4 := Lib.hid hs4
  have HB4 := Lib.hid b4
  clear h4 hs4 b4
  go_wp2_with fail
  refine (HPA.out 4 w4 (by omega) (by omega) HB4.out).mono ?_
  rintro e w5 h5
  obtain ⟨rfl, b5'⟩ := ex_path4 h5
  have b5 : Below W3.heap.size W3 w5 := HB4.out.trans (b5'.mono HB4.out.size)
  have HS5 : Hid (Sli .i64 w5 pa pc [2, 0]) := HS4.out.below b5'
  obtain ⟨c0, c1, c2, c3, _, _, _⟩ := HX.out w5 b5
  have HB5 := Lib.hid b5
  clear h5 b5' b5 HS4
  obtain ⟨W6, hW6⟩ : ∃ W, w5.alloc (.cells #[.int .i64 2] 3) = W := ⟨_, rfl⟩
  have b6' : Below w5.heap.size w5 W6 := by rw [← hW6]; exact (Below.refl _ _).alloc (Nat.le_refl _) _
  have k6 : Blk W6 w5.heap.size 3 #[.int .i64 2] := by rw [← hW6]; exact Blk.new _ _ _
  have b6 : Below W3.heap.size W3 W6 := HB5.out.trans (b6'.mono HB5.out.size)
  have HS6 : Hid (Sli .i64 W6 pa pc [2, 0]) := HS5.out.below b6'
  have hsl : Sli .i64 W6 (some ⟨w5.heap.size, 0, none⟩) 1 [2] := ⟨by simp, by omega, (fun h => by cases h), .inr ⟨w5.heap.size, 0, rfl, k6.lt, fun j hj => by
    obtain rfl : j = 0 := by simp at hj; omega
    exact k6.cell 0⟩⟩
  have HG6 := Lib.hid (HGE.out W6 w5.heap.size 1 b6 hsl)
  have HB6 := Lib.hid b6
  have HW6 := Lib.hid hW6
  clear b6' k6 b6 hsl HS5 hW6
  go_wp2_with fail
  rw [HW6.out]
  refine HG6.out.mono ?_
  rintro e w7 ⟨ga, gc, rfl, b7'⟩
  have b7 : Below W3.heap.size W3 w7 := HB6.out.trans (b7'.mono HB6.out.size)
  have HS7 : Hid (Sli .i64 w7 pa pc [2, 0]) := HS6.out.below b7'
  obtain ⟨W8, hW8⟩ : ∃ W, w7.alloc (.cells #[.int .i64 0, .int .i64 49, .string ⟨#[]⟩, .slice ga 2 gc] 25) = W := ⟨_, rfl⟩
  have b8' : Below w7.heap.size w7 W8 := by rw [← hW8]; exact (Below.refl _ _).alloc (Nat.le_refl _) _
  have k8 : Blk W8 w7.heap.size 25 #[.int .i64 0, .int .i64 49, .string ⟨#[]⟩, .slice ga 2 gc] := by rw [← hW8]; exact Blk.new _ _ _
  have b8 : Below W3.heap.size W3 W8 := b7.trans (b8'.mono b7.size)
  have HS8 : Hid (Sli .i64 W8 pa pc [2, 0]) := HS7.out.below b8'
  obtain ⟨c0, c1, c2, c3, _, _, hq8⟩ := HX.out W8 b8
  rw [← hW8] at c0 c1 c2 c3
  have HB8 := Lib.hid b8
  have HK8 := Lib.hid k8
  have HW8 := Lib.hid hW8
  clear b7' b7 b8' k8 b8 HS7 HS6 hW8
  go_wp2_with fail
  rw [HW8.out]
  refine (HTX.out W8 HB8.out).mono ?_
  rintro e w9 ⟨rfl, b9'⟩
  have b9 : Below W3.heap.size W3 w9 := HB8.out.trans (b9'.mono HB8.out.size)
  have HS9 : Hid (Sli .i64 w9 pa pc [2, 0]) := HS8.out.below b9'
  have HK9 := Lib.hid (HK8.out.same (b9'.block _ HK8.out.lt))
  obtain ⟨c0, c1, c2, c3, _, _, _⟩ := HX.out w9 b9
  have HB9 := Lib.hid b9
  clear b9' b9
  go_wp2_with fail
  refine (HCO.out w9 HB9.out).mono ?_
  rintro e w10 ⟨rfl, b10'⟩
  have b10 : Below W3.heap.size W3 w10 := HB9.out.trans (b10'.mono HB9.out.size)
  have HS10 : Hid (Sli .i64 w10 pa pc [2, 0]) := HS9.out.below b10'
  have HK10 := Lib.hid (HK9.out.same (b10'.block _ HK9.out.lt))
  obtain ⟨c0, c1, c2, c3, _, _, _⟩ := HX.out w10 b10
  have HB10 := Lib.hid b10
  clear b10' b10
  go_wp2_with fail
  refine (HDE.out w10 HB10.out).mono ?_
  rintro e w11 ⟨rfl, b11'⟩
  have b11 : Below W3.heap.size W3 w11 := HB10.out.trans (b11'.mono HB10.out.size)
  have HS11 : Hid (Sli .i64 w11 pa pc [2, 0]) := HS10.out.below b11'
  have HK11 := Lib.hid (HK10.out.same (b11'.block _ HK10.out.lt))
  obtain ⟨W12, hW12⟩ : ∃ W, w11.alloc (.cells #[.int .i64 2, .int .i64 0] 3) = W := ⟨_, rfl⟩
  have b12' : Below w11.heap.size w11 W12 := by rw [← hW12]; exact (Below.refl _ _).alloc (Nat.le_refl _) _
  have k12 : Blk W12 w11.heap.size 3 #[.int .i64 2, .int .i64 0] := by rw [← hW12]; exact Blk.new _ _ _
  have b12 : Below W3.heap.size W3 W12 := b11.trans (b12'.mono b11.size)
  have hs12 : Sli .i64 W12 pa pc [2, 0] := HS11.out.below b12'
  have HK12 := Lib.hid (HK11.out.same (b12'.block _ HK11.out.lt))
  have hsl : Sli .i64 W12 (some ⟨w11.heap.size, 0, none⟩) 2 [2, 0] := ⟨by simp, by omega, (fun h => by cases h), .inr ⟨w11.heap.size, 0, rfl, k12.lt, fun j hj => by
    match j, hj with
    | 0, _ => exact k12.cell 0
    | 1, _ => exact k12.cell 1⟩⟩
  have HSI : Hid (Calls Try.prog 27 #[.slice pa 2 pc, .slice (some ⟨w11.heap.size, 0, none⟩) 2 2] W12 fun e w' => e = .returned (.bool true) ∧ Below W12.heap.size W12 w') := by
    have := sameInts_any pa (some ⟨w11.heap.size, 0, none⟩) pc 2 [2, 0] [2, 0] W12 hs12 hsl (by simp) (by simp)
    rw [decide_eq_true rfl] at this
    exact this
  have HB12 := Lib.hid b12
  have HW12 := Lib.hid hW12
  clear b11' b11 b12' k12 b12 hs12 hsl hW12
  go_wp2_with fail
  rw [HW12.out]
  refine HSI.out.mono ?_
  rintro e w13 ⟨rfl, b13'⟩
  have b13 : Below W3.heap.size W3 w13 := HB12.out.trans (b13'.mono HB12.out.size)
  have d1 := (HK12.out.same (b13'.block _ HK12.out.lt)).cell 1
  simp only [List.getElem?_toArray, List.getElem?_cons_zero, List.getElem?_cons_succ] at d1
  have HF := Lib.hid (HX.out w13 b13).2.2.2.2.2.1
  clear b13' b13
  go_wp2
  go_ret
  exact ⟨rfl, HF.out⟩

end Go.Proofs.Ytfecajeenmnoeaa
