/- The law's texts: for tidy trees it returns true. Conditions: trees of at most 100000 nodes and 1000000 bytes. -/
import Derived.Test.YtfecajeenmnoeaaSOp
import Derived.Test.YtfecajeenmnoeaaSCm
import Derived.Test.YtfecajeenmnoeaaSLe
import Derived.Test.YtfecajeenmnoeaaSTk
import Derived.Test.YtfecajeenmnoeaaSTd
import Derived.Test.YtfecajeenmnoeaaSTx
import Derived.Test.YtfecajeenmnoeaaSCo
import Derived.Test.YtfecajeenmnoeaaSWi
import Derived.Test.YtfecajeenmnoeaaSDp
import Derived.Test.YtfecajeenmnoeaaSNo
namespace Go.Proofs.Ytfecajeenmnoeaa
open Go.RowKit Go.Shelf
set_option linter.unusedVariables false

theorem newTk_a {w w' : World} {l : List (Int × ByteArray × Nat)} {u : Value} (h : NewTk w l u w') : ∃ a c, u = .slice a l.length c ∧ TkA w' a l := by
  have hrow := h.1
  obtain ⟨a, c, rfl⟩ := own_slice hrow
  refine ⟨a, c, rfl, ?_⟩
  by_cases h0 : l.length = 0
  · exact .inl (List.eq_nil_of_length_eq_zero h0)
  · obtain ⟨m, hm⟩ : ∃ m, l.length = m + 1 := ⟨l.length - 1, by omega⟩
    have h1 := hrow
    rw [hm] at h1
    obtain ⟨g, cp, h2⟩ := ownsRow_succ h1
    simp only [Value.slice.injEq] at h2
    obtain ⟨rfl, _, rfl⟩ := h2
    have hlt := (hrow.lt g rfl).2
    refine .inr ⟨g, 0, rfl, hlt, fun k hk => ?_⟩
    obtain ⟨t0, t1, t2⟩ := tkv_get l k hk
    exact ⟨by rw [Nat.zero_add, hrow.cellAt (k * 3) (by omega), t0], by rw [Nat.zero_add, hrow.cellAt (k * 3 + 1) (by omega), t1], by rw [Nat.zero_add, hrow.cellAt (k * 3 + 2) (by omega), t2]⟩

set_option maxRecDepth 100000 in
set_option maxHeartbeats 8000000 in
theorem texts_any (t : Nd) (a : Option Addr) (n cap : Nat) (w : World) (G : Nat → Prop) (hK : KV G w a n cap t.kids) (htd : t.tidy) (hc : t.cnt ≤ 100000) (hw : t.pw ≤ 1000000) :
    Calls Try.prog 11 #[ndv t a n cap] w fun e w' => e = .returned (.bool true) ∧ Below w.heap.size w w' := by
  obtain ⟨q, hq⟩ : ∃ q, w.heap.size = q := ⟨_, rfl⟩
  obtain ⟨w2, hw2⟩ : ∃ W, w.alloc (.cells (ndc t a n cap) 25) = W := ⟨_, rfl⟩
  have b2 : Below w.heap.size w w2 := by rw [← hw2]; exact (Below.refl _ _).alloc (Nat.le_refl _) _
  have k2 : Blk w2 q 25 (ndc t a n cap) := by rw [← hw2, ← hq]; exact Blk.new _ _ _
  have hkv2 := hK.on b2
  have hpl := pw_lf t htd
  have hwl : wid t.lf ≤ 1000000 := by omega
  have HS : Hid (∀ W, Below w2.heap.size w2 W → W.cell? ⟨q, 0, none⟩ = some (.int .i64 t.id) ∧ W.cell? ⟨q, 1, none⟩ = some (.int .i64 t.kind) ∧ W.cell? ⟨q, 2, none⟩ = some (.string t.text) ∧ W.cell? ⟨q, 3, none⟩ = some (.slice a n cap)) := fun W hW => by
    have kk := k2.same (hW.block q k2.lt)
    exact ⟨kk.cell 0, kk.cell 1, kk.cell 2, kk.cell 3⟩
  obtain ⟨ST, hST⟩ : ∃ z, cat t.lf = z := ⟨_, rfl⟩
  obtain ⟨T, hT⟩ : ∃ z, toks t.lf 0 = z := ⟨_, rfl⟩
  have hsz : t.pw = ST.size := by rw [hpl, ← hST, cat_size]
  have hall : t.all.length = t.cnt := t.all_len
  have HRT : Hid (∀ W, Below w2.heap.size w2 W → Calls Try.prog 37 #[ndv t a n cap] W fun e w' => e = .returned (.string ST) ∧ Below W.heap.size W w') := fun W hW => by rw [← hST]; exact rText_any t a n cap W _ (hkv2.on hW) hc hwl
  have HTX : Hid (∀ W, Below w2.heap.size w2 W → Calls Try.prog 31 #[ndv t a n cap] W fun e w' => e = .returned (.string ST) ∧ Below W.heap.size W w') := fun W hW => by rw [← hST, ← text_cat t htd]; exact ptext_any t a n cap W _ (hkv2.on hW) hc (by omega)
  have HWI : Hid (∀ W, Below w2.heap.size w2 W → Calls Try.prog 34 #[ndv t a n cap] W fun e w' => e = .returned (.int .i64 (ST.size : Int)) ∧ Below W.heap.size W w') := fun W hW => by rw [← hsz]; exact pwidth_any t a n cap W _ (hkv2.on hW) hc (by omega)
  have HCN : Hid (∀ W, Below w2.heap.size w2 W → Calls Try.prog 38 #[ndv t a n cap] W fun e w' => e = .returned (.int .i64 (t.cnt : Int)) ∧ Below W.heap.size W w') := fun W hW => pcount_any t a n cap W _ (hkv2.on hW) hc (by omega)
  have HNO : Hid (∀ W, Below w2.heap.size w2 W → Calls Try.prog 39 #[ndv t a n cap] W fun e w' => ∃ un uc, e = .returned (.slice un t.cnt uc) ∧ Below W.heap.size W w') := fun W hW => (rnodes_any t.dep t a n cap W _ (Nat.le_refl _) (hkv2.on hW) hc).mono (by
    rintro e w' ⟨u, rfl, vs, ho, _, hb⟩
    obtain ⟨un, uc, rfl⟩ := own_slice ho
    exact ⟨un, uc, by rw [hall], hb⟩)
  have HDE : Hid (∀ W, Below w2.heap.size w2 W → Calls Try.prog 40 #[ndv t a n cap] W fun e w' => e = .returned (.int .i64 (t.dep : Int)) ∧ Below W.heap.size W w') := fun W hW => pdepth_any t a n cap W _ (hkv2.on hW) hc (by omega)
  have HRD : Hid (∀ W, Below w2.heap.size w2 W → Calls Try.prog 41 #[ndv t a n cap] W fun e w' => e = .returned (.int .i64 (t.dep : Int)) ∧ Below W.heap.size W w') := fun W hW => rdepth_any t.dep t a n cap W _ (Nat.le_refl _) (hkv2.on hW) hc
  have HLE : Hid (∀ W, Below w2.heap.size w2 W → Calls Try.prog 32 #[ndv t a n cap] W fun e w' => ∃ ua ca, e = .returned (.slice ua T.length ca) ∧ TkA w' ua T ∧ Below W.heap.size W w') := fun W hW => (show Calls Try.prog 32 #[ndv t a n cap] W fun e w' => ∃ u, e = .returned u ∧ NewTk W T u w' by rw [← hT, show toks t.lf 0 = ltk (lspots t) from (lspots_toks t htd).symm]; exact pleaves_any t a n cap W _ (hkv2.on hW) hc (by omega)).mono (by
    rintro e w' ⟨u, rfl, hu⟩
    obtain ⟨ua, ca, rfl, h⟩ := newTk_a hu
    exact ⟨ua, ca, rfl, h, hu.2⟩)
  have HRL : Hid (∀ W, Below w2.heap.size w2 W → Calls Try.prog 43 #[ndv t a n cap] W fun e w' => ∃ ua ca, e = .returned (.slice ua T.length ca) ∧ TkA w' ua T ∧ Below W.heap.size W w') := fun W hW => (show Calls Try.prog 43 #[ndv t a n cap] W fun e w' => ∃ u, e = .returned u ∧ NewTk W T u w' by rw [← hT]; exact rLeaves_any t a n cap W _ (hkv2.on hW) hc hwl).mono (by
    rintro e w' ⟨u, rfl, hu⟩
    obtain ⟨ua, ca, rfl, h⟩ := newTk_a hu
    exact ⟨ua, ca, rfl, h, hu.2⟩)
  have htl : T.length ≤ 100000 := by
    rw [← hT, toks_len]
    have h1 := congrArg List.length (lspots_toks t htd)
    rw [List.length_map, toks_len] at h1
    rw [← h1]
    have := lspots_len t
    omega
  have HSK : Hid (∀ (ua ub : Option Addr) (ca cb : Nat) (W : World), TkA W ua T → TkA W ub T → Calls Try.prog 42 #[.slice ua T.length ca, .slice ub T.length cb] W fun e w' => e = .returned (.bool true) ∧ Below W.heap.size W w') := fun ua ub ca cb W h1 h2 => by
    have := sameTk_any ua ub ca cb T T W h1 h2 htl
    rw [decide_eq_true rfl] at this
    exact this
  obtain ⟨id, hid⟩ : ∃ x, t.id = x := ⟨_, rfl⟩
  obtain ⟨kd, hkd⟩ : ∃ x, t.kind = x := ⟨_, rfl⟩
  obtain ⟨tx, htx⟩ : ∃ x, t.text = x := ⟨_, rfl⟩
  obtain ⟨N, hN⟩ : ∃ x, t.cnt = x := ⟨_, rfl⟩
  obtain ⟨D, hD⟩ : ∃ x, t.dep = x := ⟨_, rfl⟩
  obtain ⟨tl, htl'⟩ : ∃ x, T.length = x := ⟨_, rfl⟩
  unfold ndv at HRT HTX HWI HCN HNO HDE HRD HLE HRL
  unfold ndc at hw2
  rw [hid, hkd, htx] at HRT HTX HWI HCN HNO HDE HRD HLE HRL HS hw2
  rw [hN] at HCN HNO
  rw [hD] at HDE HRD
  rw [htl'] at HLE HRL HSK
  have HW2 := Lib.hid hw2; have HQ := Lib.hid hq; have HB2 := Lib.hid b2
  unfold ndv
  rw [hid, hkd, htx]
  clear hK htd hc hw hq hw2 b2 k2 hkv2 hpl hwl hST hT hsz hall htl hid hkd htx hN hD htl'
  go_enter Try.func11, Try.ntmps11
  go_wp2_with fail
  rw [HW2.out, HQ.out]
  refine (HRT.out w2 (Below.refl _ _)).mono ?_
  rintro e w3 ⟨rfl, b3⟩
  have hS0 := HS.out w3.drew b3.drew
  go_wp2_with fail
  refine wp_region_held (S := (fun V : World => V.cell? ⟨q, 0, none⟩ = some (.int .i64 id) ∧ V.cell? ⟨q, 1, none⟩ = some (.int .i64 kd) ∧ V.cell? ⟨q, 2, none⟩ = some (.string tx) ∧ V.cell? ⟨q, 3, none⟩ = some (.slice a n cap))) (by kernel_rfl) ?_
  change wpAnyH _ _ _ _ _ _ _ _ (World.drew _)
  refine takeH (i := 0) (d := (some 6)) (v := ?_) rfl rfl (by kernel_rfl) (by kernel_rfl) (by kernel_rfl) (fun _ _ _ h => h) (Or.inl ⟨by kernel_rfl, ?_⟩) hS0 ?_
  rotate_left
  focus (intro w hSw; (try dsimp only at hSw); go_simp; first | done | with_reducible rfl)
  try simp only [Act.put]
  try simp only [List.setIfInBounds_toArray]
  try simp only [List.set_cons_succ]
  try simp only [List.set_cons_zero]
  refine takeH (i := 2) (d := (some 8)) (v := ?_) rfl rfl (by kernel_rfl) (by kernel_rfl) (by kernel_rfl) (fun _ _ _ h => h) (Or.inl ⟨by kernel_rfl, ?_⟩) hS0 ?_
  rotate_left
  focus (intro w hSw; (try dsimp only at hSw); go_simp; first | done | with_reducible rfl)
  try simp only [Act.put]
  try simp only [List.setIfInBounds_toArray]
  try simp only [List.set_cons_succ]
  try simp only [List.set_cons_zero]
  refine wpAnyH_ready (rs := [1]) (by kernel_rfl) (by simp) ?_
  refine AllReadyH.cons (o := _) rfl (fun K hK => ?_) AllReadyH.nil
  go_simp
  go_at_call 31
  refine (HTX.out w3.drew b3.drew).mono ?_
  rintro e wa ⟨rfl, bwa'⟩; have b3d := b3.drew; have bwa : Below w2.heap.size w2 wa := b3d.trans (bwa'.mono b3d.size); have hSwa := HS.out wa bwa
  try go_simp
  refine hK.out _ _ hSwa (fun hHeld => ?_)
  clear hK K hHeld
  try simp only [Act.put]
  try simp only [List.setIfInBounds_toArray]
  try simp only [List.set_cons_succ]
  try simp only [List.set_cons_zero]
  refine takeH (i := 3) (d := (some 9)) (v := ?_) rfl rfl (by kernel_rfl) (by kernel_rfl) (by kernel_rfl) (fun _ _ _ h => h) (Or.inl ⟨by kernel_rfl, ?_⟩) hSwa ?_
  rotate_left
  focus (intro w hSw; (try dsimp only at hSw); go_simp; first | done | with_reducible rfl)
  try simp only [Act.put]
  try simp only [List.setIfInBounds_toArray]
  try simp only [List.set_cons_succ]
  try simp only [List.set_cons_zero]
  refine takeH (i := 4) (d := (some 10)) (v := ?_) rfl rfl (by kernel_rfl) (by kernel_rfl) (by kernel_rfl) (fun _ _ _ h => h) (Or.inl ⟨by kernel_rfl, ?_⟩) hSwa ?_
  rotate_left
  focus (intro w hSw; (try dsimp only at hSw); go_simp; first | done | with_reducible rfl)
  try simp only [Act.put]
  try simp only [List.setIfInBounds_toArray]
  try simp only [List.set_cons_succ]
  try simp only [List.set_cons_zero]
  refine takeH (i := 5) (d := (some 11)) (v := ?_) rfl rfl (by kernel_rfl) (by kernel_rfl) (by kernel_rfl) (fun _ _ _ h => h) (Or.inl ⟨by kernel_rfl, ?_⟩) hSwa ?_
  rotate_left
  focus (intro w hSw; (try dsimp only at hSw); go_simp; first | done | with_reducible rfl)
  try simp only [Act.put]
  try simp only [List.setIfInBounds_toArray]
  try simp only [List.set_cons_succ]
  try simp only [List.set_cons_zero]
  refine takeH (i := 7) (d := (some 13)) (v := ?_) rfl rfl (by kernel_rfl) (by kernel_rfl) (by kernel_rfl) (fun _ _ _ h => h) (Or.inl ⟨by kernel_rfl, ?_⟩) hSwa ?_
  rotate_left
  focus (intro w hSw; (try dsimp only at hSw); go_simp; first | done | with_reducible rfl)
  try simp only [Act.put]
  try simp only [List.setIfInBounds_toArray]
  try simp only [List.set_cons_succ]
  try simp only [List.set_cons_zero]
  refine takeH (i := 8) (d := (some 14)) (v := ?_) rfl rfl (by kernel_rfl) (by kernel_rfl) (by kernel_rfl) (fun _ _ _ h => h) (Or.inl ⟨by kernel_rfl, ?_⟩) hSwa ?_
  rotate_left
  focus (intro w hSw; (try dsimp only at hSw); go_simp; first | done | with_reducible rfl)
  try simp only [Act.put]
  try simp only [List.setIfInBounds_toArray]
  try simp only [List.set_cons_succ]
  try simp only [List.set_cons_zero]
  refine wpAnyH_ready (rs := [6]) (by kernel_rfl) (by simp) ?_
  refine AllReadyH.cons (o := _) rfl (fun K hK => ?_) AllReadyH.nil
  go_simp
  go_at_call 34
  refine (HWI.out wa bwa).mono ?_
  rintro e wb ⟨rfl, bwb'⟩; have bwb : Below w2.heap.size w2 wb := bwa.trans (bwb'.mono bwa.size); have hSwb := HS.out wb bwb
  try go_simp
  refine hK.out _ _ hSwb (fun hHeld => ?_)
  clear hK K hHeld
  try simp only [Act.put]
  try simp only [List.setIfInBounds_toArray]
  try simp only [List.set_cons_succ]
  try simp only [List.set_cons_zero]
  refine takeH (i := 9) (d := (some 15)) (v := ?_) rfl rfl (by kernel_rfl) (by kernel_rfl) (by kernel_rfl) (fun _ _ _ h => h) (Or.inl ⟨by kernel_rfl, ?_⟩) hSwb ?_
  rotate_left
  focus (intro w hSw; (try dsimp only at hSw); go_simp; first | done | with_reducible rfl)
  try simp only [Act.put]
  try simp only [List.setIfInBounds_toArray]
  try simp only [List.set_cons_succ]
  try simp only [List.set_cons_zero]
  refine takeH (i := 10) (d := (some 16)) (v := ?_) rfl rfl (by kernel_rfl) (by kernel_rfl) (by kernel_rfl) (fun _ _ _ h => h) (Or.inl ⟨by kernel_rfl, ?_⟩) hSwb ?_
  rotate_left
  focus (intro w hSw; (try dsimp only at hSw); go_simp; first | done | with_reducible rfl)
  try simp only [Act.put]
  try simp only [List.setIfInBounds_toArray]
  try simp only [List.set_cons_succ]
  try simp only [List.set_cons_zero]
  refine takeH (i := 11) (d := (some 17)) (v := ?_) rfl rfl (by kernel_rfl) (by kernel_rfl) (by kernel_rfl) (fun _ _ _ h => h) (Or.inl ⟨by kernel_rfl, ?_⟩) hSwb ?_
  rotate_left
  focus (intro w hSw; (try dsimp only at hSw); go_simp; first | done | with_reducible rfl)
  try simp only [Act.put]
  try simp only [List.setIfInBounds_toArray]
  try simp only [List.set_cons_succ]
  try simp only [List.set_cons_zero]
  refine takeH (i := 12) (d := (some 18)) (v := ?_) rfl rfl (by kernel_rfl) (by kernel_rfl) (by kernel_rfl) (fun _ _ _ h => h) (Or.inl ⟨by kernel_rfl, ?_⟩) hSwb ?_
  rotate_left
  focus (intro w hSw; (try dsimp only at hSw); go_simp; first | done | with_reducible rfl)
  try simp only [Act.put]
  try simp only [List.setIfInBounds_toArray]
  try simp only [List.set_cons_succ]
  try simp only [List.set_cons_zero]
  refine takeH (i := 14) (d := (some 20)) (v := ?_) rfl rfl (by kernel_rfl) (by kernel_rfl) (by kernel_rfl) (fun _ _ _ h => h) (Or.inl ⟨by kernel_rfl, ?_⟩) hSwb ?_
  rotate_left
  focus (intro w hSw; (try dsimp only at hSw); go_simp; first | done | with_reducible rfl)
  try simp only [Act.put]
  try simp only [List.setIfInBounds_toArray]
  try simp only [List.set_cons_succ]
  try simp only [List.set_cons_zero]
  refine wpAnyH_ready (rs := [13]) (by kernel_rfl) (by simp) ?_
  refine AllReadyH.cons (o := _) rfl (fun K hK => ?_) AllReadyH.nil
  go_simp
  go_at_call 38
  refine (HCN.out wb bwb).mono ?_
  rintro e wc ⟨rfl, bwc'⟩; have bwc : Below w2.heap.size w2 wc := bwb.trans (bwc'.mono bwb.size); have hSwc := HS.out wc bwc
  try go_simp
  refine hK.out _ _ hSwc (fun hHeld => ?_)
  clear hK K hHeld
  try simp only [Act.put]
  try simp only [List.setIfInBounds_toArray]
  try simp only [List.set_cons_succ]
  try simp only [List.set_cons_zero]
  refine wpAnyH_ready (rs := [15]) (by kernel_rfl) (by simp) ?_
  refine AllReadyH.cons (o := _) rfl (fun K hK => ?_) AllReadyH.nil
  go_simp
  go_at_call 39
  refine (HNO.out wc bwc).mono ?_
  rintro e wd ⟨un, uc, rfl, bwd'⟩; have bwd : Below w2.heap.size w2 wd := bwc.trans (bwd'.mono bwc.size); have hSwd := HS.out wd bwd
  try go_simp
  refine hK.out _ _ hSwd (fun hHeld => ?_)
  clear hK K hHeld
  try simp only [Act.put]
  try simp only [List.setIfInBounds_toArray]
  try simp only [List.set_cons_succ]
  try simp only [List.set_cons_zero]
  refine takeH (i := 16) (d := (some 22)) (v := ?_) rfl rfl (by kernel_rfl) (by kernel_rfl) (by kernel_rfl) (fun _ _ _ h => h) (Or.inl ⟨by kernel_rfl, ?_⟩) hSwd ?_
  rotate_left
  focus (intro w hSw; (try dsimp only at hSw); go_simp; first | done | with_reducible rfl)
  try simp only [Act.put]
  try simp only [List.setIfInBounds_toArray]
  try simp only [List.set_cons_succ]
  try simp only [List.set_cons_zero]
  refine takeH (i := 17) (d := (some 23)) (v := ?_) rfl rfl (by kernel_rfl) (by kernel_rfl) (by kernel_rfl) (fun _ _ _ h => h) (Or.inl ⟨by kernel_rfl, ?_⟩) hSwd ?_
  rotate_left
  focus (intro w hSw; (try dsimp only at hSw); go_simp; first | done | with_reducible rfl)
  try simp only [Act.put]
  try simp only [List.setIfInBounds_toArray]
  try simp only [List.set_cons_succ]
  try simp only [List.set_cons_zero]
  refine takeH (i := 18) (d := (some 24)) (v := ?_) rfl rfl (by kernel_rfl) (by kernel_rfl) (by kernel_rfl) (fun _ _ _ h => h) (Or.inl ⟨by kernel_rfl, ?_⟩) hSwd ?_
  rotate_left
  focus (intro w hSw; (try dsimp only at hSw); go_simp; first | done | with_reducible rfl)
  try simp only [Act.put]
  try simp only [List.setIfInBounds_toArray]
  try simp only [List.set_cons_succ]
  try simp only [List.set_cons_zero]
  refine takeH (i := 19) (d := (some 25)) (v := ?_) rfl rfl (by kernel_rfl) (by kernel_rfl) (by kernel_rfl) (fun _ _ _ h => h) (Or.inl ⟨by kernel_rfl, ?_⟩) hSwd ?_
  rotate_left
  focus (intro w hSw; (try dsimp only at hSw); go_simp; first | done | with_reducible rfl)
  try simp only [Act.put]
  try simp only [List.setIfInBounds_toArray]
  try simp only [List.set_cons_succ]
  try simp only [List.set_cons_zero]
  refine takeH (i := 20) (d := (some 26)) (v := ?_) rfl rfl (by kernel_rfl) (by kernel_rfl) (by kernel_rfl) (fun _ _ _ h => h) (Or.inl ⟨by kernel_rfl, ?_⟩) hSwd ?_
  rotate_left
  focus (intro w hSw; (try dsimp only at hSw); go_simp; first | done | with_reducible rfl)
  try simp only [Act.put]
  try simp only [List.setIfInBounds_toArray]
  try simp only [List.set_cons_succ]
  try simp only [List.set_cons_zero]
  refine takeH (i := 22) (d := (some 28)) (v := ?_) rfl rfl (by kernel_rfl) (by kernel_rfl) (by kernel_rfl) (fun _ _ _ h => h) (Or.inl ⟨by kernel_rfl, ?_⟩) hSwd ?_
  rotate_left
  focus (intro w hSw; (try dsimp only at hSw); go_simp; first | done | with_reducible rfl)
  try simp only [Act.put]
  try simp only [List.setIfInBounds_toArray]
  try simp only [List.set_cons_succ]
  try simp only [List.set_cons_zero]
  refine wpAnyH_ready (rs := [21]) (by kernel_rfl) (by simp) ?_
  refine AllReadyH.cons (o := _) rfl (fun K hK => ?_) AllReadyH.nil
  go_simp
  go_at_call 40
  refine (HDE.out wd bwd).mono ?_
  rintro e we ⟨rfl, bwe'⟩; have bwe : Below w2.heap.size w2 we := bwd.trans (bwe'.mono bwd.size); have hSwe := HS.out we bwe
  try go_simp
  refine hK.out _ _ hSwe (fun hHeld => ?_)
  clear hK K hHeld
  try simp only [Act.put]
  try simp only [List.setIfInBounds_toArray]
  try simp only [List.set_cons_succ]
  try simp only [List.set_cons_zero]
  refine wpAnyH_ready (rs := [23]) (by kernel_rfl) (by simp) ?_
  refine AllReadyH.cons (o := _) rfl (fun K hK => ?_) AllReadyH.nil
  go_simp
  go_at_call 41
  refine (HRD.out we bwe).mono ?_
  rintro e wf ⟨rfl, bwf'⟩; have bwf : Below w2.heap.size w2 wf := bwe.trans (bwf'.mono bwe.size); have hSwf := HS.out wf bwf
  try go_simp
  refine hK.out _ _ hSwf (fun hHeld => ?_)
  clear hK K hHeld
  try simp only [Act.put]
  try simp only [List.setIfInBounds_toArray]
  try simp only [List.set_cons_succ]
  try simp only [List.set_cons_zero]
  refine takeH (i := 24) (d := (some 30)) (v := ?_) rfl rfl (by kernel_rfl) (by kernel_rfl) (by kernel_rfl) (fun _ _ _ h => h) (Or.inl ⟨by kernel_rfl, ?_⟩) hSwf ?_
  rotate_left
  focus (intro w hSw; (try dsimp only at hSw); go_simp; first | done | with_reducible rfl)
  try simp only [Act.put]
  try simp only [List.setIfInBounds_toArray]
  try simp only [List.set_cons_succ]
  try simp only [List.set_cons_zero]
  refine takeH (i := 25) (d := (some 31)) (v := ?_) rfl rfl (by kernel_rfl) (by kernel_rfl) (by kernel_rfl) (fun _ _ _ h => h) (Or.inl ⟨by kernel_rfl, ?_⟩) hSwf ?_
  rotate_left
  focus (intro w hSw; (try dsimp only at hSw); go_simp; first | done | with_reducible rfl)
  try simp only [Act.put]
  try simp only [List.setIfInBounds_toArray]
  try simp only [List.set_cons_succ]
  try simp only [List.set_cons_zero]
  refine wpAnyH_done (by kernel_rfl) ?_ _
  have hT0 := HS.out wf.drew bwf.drew
  clear hS0 hSwa hSwb hSwc hSwd hSwe hSwf bwa' bwb' bwc' bwd' bwe' bwf'
  go_wp2_with fail
  refine wp_region_held (S := (fun V : World => V.cell? ⟨q, 0, none⟩ = some (.int .i64 id) ∧ V.cell? ⟨q, 1, none⟩ = some (.int .i64 kd) ∧ V.cell? ⟨q, 2, none⟩ = some (.string tx) ∧ V.cell? ⟨q, 3, none⟩ = some (.slice a n cap))) (by kernel_rfl) ?_
  change wpAnyH _ _ _ _ _ _ _ _ (World.drew _)
  refine takeH (i := 0) (d := (some 32)) (v := ?_) rfl rfl (by kernel_rfl) (by kernel_rfl) (by kernel_rfl) (fun _ _ _ h => h) (Or.inl ⟨by kernel_rfl, ?_⟩) hT0 ?_
  rotate_left
  focus (intro w hSw; (try dsimp only at hSw); go_simp; first | done | with_reducible rfl)
  try simp only [Act.put]
  try simp only [List.setIfInBounds_toArray]
  try simp only [List.set_cons_succ]
  try simp only [List.set_cons_zero]
  refine takeH (i := 2) (d := (some 34)) (v := ?_) rfl rfl (by kernel_rfl) (by kernel_rfl) (by kernel_rfl) (fun _ _ _ h => h) (Or.inl ⟨by kernel_rfl, ?_⟩) hT0 ?_
  rotate_left
  focus (intro w hSw; (try dsimp only at hSw); go_simp; first | done | with_reducible rfl)
  try simp only [Act.put]
  try simp only [List.setIfInBounds_toArray]
  try simp only [List.set_cons_succ]
  try simp only [List.set_cons_zero]
  refine wpAnyH_ready (rs := [1]) (by kernel_rfl) (by simp) ?_
  refine AllReadyH.cons (o := _) rfl (fun K hK => ?_) AllReadyH.nil
  go_simp
  go_at_call 32
  refine (HLE.out wf.drew bwf.drew).mono ?_
  rintro e wg ⟨ua, ca, rfl, ta, bwg'⟩; have bfd := bwf.drew; have bwg : Below w2.heap.size w2 wg := bfd.trans (bwg'.mono bfd.size); have hSwg := HS.out wg bwg
  try go_simp
  refine hK.out _ _ hSwg (fun hHeld => ?_)
  clear hK K hHeld
  try simp only [Act.put]
  try simp only [List.setIfInBounds_toArray]
  try simp only [List.set_cons_succ]
  try simp only [List.set_cons_zero]
  refine wpAnyH_ready (rs := [3]) (by kernel_rfl) (by simp) ?_
  refine AllReadyH.cons (o := _) rfl (fun K hK => ?_) AllReadyH.nil
  go_simp
  go_at_call 43
  refine (HRL.out wg bwg).mono ?_
  rintro e wh ⟨ub, cb, rfl, tb, bwh'⟩; have bwh : Below w2.heap.size w2 wh := bwg.trans (bwh'.mono bwg.size); have hSwh := HS.out wh bwh; replace ta := ta.on bwh'
  try go_simp
  refine hK.out _ _ hSwh (fun hHeld => ?_)
  clear hK K hHeld
  try simp only [Act.put]
  try simp only [List.setIfInBounds_toArray]
  try simp only [List.set_cons_succ]
  try simp only [List.set_cons_zero]
  refine wpAnyH_ready (rs := [4]) (by kernel_rfl) (by simp) ?_
  refine AllReadyH.cons (o := _) rfl (fun K hK => ?_) AllReadyH.nil
  go_simp
  go_at_call 42
  refine (HSK.out ua ub ca cb wh ta tb).mono ?_
  rintro e wi ⟨rfl, bwi'⟩; have bwi : Below w2.heap.size w2 wi := bwh.trans (bwi'.mono bwh.size); have hSwi := HS.out wi bwi
  try go_simp
  refine hK.out _ _ hSwi (fun hHeld => ?_)
  clear hK K hHeld
  try simp only [Act.put]
  try simp only [List.setIfInBounds_toArray]
  try simp only [List.set_cons_succ]
  try simp only [List.set_cons_zero]
  refine takeH (i := 5) (d := (some 2)) (v := ?_) rfl rfl (by kernel_rfl) (by kernel_rfl) (by kernel_rfl) (fun _ _ _ h => h) (Or.inl ⟨by kernel_rfl, ?_⟩) hSwi ?_
  rotate_left
  focus (intro w hSw; (try dsimp only at hSw); go_simp; first | done | with_reducible rfl)
  try simp only [Act.put]
  try simp only [List.setIfInBounds_toArray]
  try simp only [List.set_cons_succ]
  try simp only [List.set_cons_zero]
  refine wpAnyH_done (by kernel_rfl) ?_ _
  have HF := Lib.hid (HB2.out.trans (bwi.mono HB2.out.size))
  clear hT0 hSwg hSwh hSwi ta tb bwg bwg' bwh bwh' bwi bwi' bfd
  go_wp2
  go_ret
  exact ⟨rfl, HF.out⟩

end Go.Proofs.Ytfecajeenmnoeaa
