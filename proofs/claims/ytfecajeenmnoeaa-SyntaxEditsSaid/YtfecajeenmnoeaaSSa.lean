/- The reference's Same of equal trees. Conditions: trees of at most 100000 nodes. -/
import Derived.Test.YtfecajeenmnoeaaSEq
import Derived.Test.YtfecajeenmnoeaaSId
import Derived.Test.YtfecajeenmnoeaaSameInts
import Derived.Test.YtfecajeenmnoeaaRegH
namespace Go.Proofs.Ytfecajeenmnoeaa
open Go.RowKit Go.Shelf
set_option linter.unusedVariables false

mutual
theorem Nd.eqv_refl : ∀ t : Nd, t.eqv t = true
  | .mk _ _ _ ks => by rw [Nd.eqv, eqvs_refl ks]; simp
theorem eqvs_refl : ∀ l : List Nd, eqvs l l = true
  | [] => by rw [eqvs]
  | x :: l => by rw [eqvs, Nd.eqv_refl x, eqvs_refl l]; rfl
end
/-- The IDs in preorder. -/
def zid (t : Nd) : List Int := t.all.map Nd.id
theorem rids_sli (t : Nd) (a : Option Addr) (n cap : Nat) (w : World) (G : Nat → Prop) (hK : KV G w a n cap t.kids) (hc : t.cnt ≤ 100000) :
    Calls Try.prog 28 #[ndv t a n cap] w fun e w' => ∃ u c, e = .returned (.slice u (zid t).length c) ∧ Sli .i64 w' u c (zid t) ∧ Below w.heap.size w w' := by
  refine (rids_any t a n cap w G hK hc).mono ?_
  rintro e w' ⟨u, rfl, ho, hb⟩
  obtain ⟨_, a', c', rfl, hs⟩ := sli_of_own (zs := zid t) (show w'.ownsRow w.heap.size 3 1 u t.all.length ((zid t).map (Value.int .i64)) by rw [zid, List.map_map]; exact ho)
  exact ⟨a', c', rfl, hs, hb⟩

set_option maxRecDepth 100000 in
set_option maxHeartbeats 4000000 in
theorem same_any (t : Nd) (a : Option Addr) (n cap : Nat) (a' : Option Addr) (n' cap' : Nat) (w : World) (G : Nat → Prop) (hK : KV G w a n cap t.kids) (hK' : KV G w a' n' cap' t.kids) (hc : t.cnt ≤ 100000) :
    Calls Try.prog 26 #[ndv t a n cap, ndv t a' n' cap'] w fun e w' => e = .returned (.bool true) ∧ Below w.heap.size w w' := by
  obtain ⟨q, hq⟩ : ∃ q, w.heap.size = q := ⟨_, rfl⟩
  obtain ⟨W2, hW2⟩ : ∃ W, (w.alloc (.cells (ndc t a n cap) 25)).alloc (.cells (ndc t a' n' cap') 25) = W := ⟨_, rfl⟩
  have b2 : Below q w W2 := by rw [← hW2, ← hq]; exact ((Below.refl _ _).alloc (Nat.le_refl _) _).alloc (by simp) _
  have k1 : Blk W2 q 25 (ndc t a n cap) := by rw [← hW2, ← hq]; exact (Blk.new _ _ _).alloc _
  have k2 : Blk W2 (q + 1) 25 (ndc t a' n' cap') := by
    rw [← hW2, ← hq]
    have := Blk.new (w.alloc (.cells (ndc t a n cap) 25)) 25 (ndc t a' n' cap')
    rw [World.size_alloc] at this
    exact this
  have s2 : W2.heap.size = q + 2 := by rw [← hW2, ← hq]; simp
  have HV : ∀ W, Below W2.heap.size W2 W → Below w.heap.size w W := fun W hW => by rw [hq]; exact b2.trans (hW.mono (by omega))
  have HEQ : Hid (∀ W, Below W2.heap.size W2 W → Calls Try.prog 22 #[ndv t a n cap, ndv t a' n' cap'] W fun e w' => e = .returned (.bool true) ∧ Below W.heap.size W w') := fun W hW => by
    have := requal_any t.dep t t a n cap a' n' cap' W G (Nat.le_refl _) (hK.on (HV W hW)) (hK'.on (HV W hW)) hc hc
    rw [t.eqv_refl] at this
    exact this
  have HID1 : Hid (∀ W, Below W2.heap.size W2 W → Calls Try.prog 28 #[ndv t a n cap] W fun e w' => ∃ u c, e = .returned (.slice u (zid t).length c) ∧ Sli .i64 w' u c (zid t) ∧ Below W.heap.size W w') := fun W hW => rids_sli t a n cap W G (hK.on (HV W hW)) hc
  have HID2 : Hid (∀ W, Below W2.heap.size W2 W → Calls Try.prog 28 #[ndv t a' n' cap'] W fun e w' => ∃ u c, e = .returned (.slice u (zid t).length c) ∧ Sli .i64 w' u c (zid t) ∧ Below W.heap.size W w') := fun W hW => rids_sli t a' n' cap' W G (hK'.on (HV W hW)) hc
  have HSI : Hid (∀ (u1 u2 : Option Addr) (c1 c2 : Nat) W, Sli .i64 W u1 c1 (zid t) → Sli .i64 W u2 c2 (zid t) → Below W2.heap.size W2 W → Calls Try.prog 27 #[.slice u1 (zid t).length c1, .slice u2 (zid t).length c2] W fun e w' => e = .returned (.bool true) ∧ Below W.heap.size W w') := fun u1 u2 c1 c2 W h1 h2 _ => by
    have hl : (zid t).length ≤ 100000 := by rw [zid, List.length_map, t.all_len]; exact hc
    have := sameInts_any u1 u2 c1 c2 (zid t) (zid t) W h1 h2 hl hl
    rw [decide_eq_true rfl] at this
    exact this
  obtain ⟨id, hid⟩ : ∃ x, t.id = x := ⟨_, rfl⟩
  obtain ⟨kd, hkd⟩ : ∃ x, t.kind = x := ⟨_, rfl⟩
  obtain ⟨tx, htx⟩ : ∃ x, t.text = x := ⟨_, rfl⟩
  obtain ⟨zl, hzl⟩ : ∃ x, (zid t).length = x := ⟨_, rfl⟩
  unfold ndv at HEQ HID1 HID2
  unfold ndv
  unfold ndc at k1 k2 hW2
  rw [hzl] at HID1 HID2 HSI
  rw [hid, hkd, htx] at HEQ HID1 HID2 k1 k2 hW2 ⊢
  have HS : Hid (∀ W, Below W2.heap.size W2 W → ( W.cell? ⟨q, 0, none⟩ = some (.int .i64 id) ∧ W.cell? ⟨q, 1, none⟩ = some (.int .i64 kd) ∧ W.cell? ⟨q, 2, none⟩ = some (.string tx) ∧ W.cell? ⟨q, 3, none⟩ = some (.slice a n cap) ∧ W.cell? ⟨q + 1, 0, none⟩ = some (.int .i64 id) ∧ W.cell? ⟨q + 1, 1, none⟩ = some (.int .i64 kd) ∧ W.cell? ⟨q + 1, 2, none⟩ = some (.string tx) ∧ W.cell? ⟨q + 1, 3, none⟩ = some (.slice a' n' cap'))) := fun W hW => by
    have e1 := k1.same (hW.block q k1.lt)
    have e2 := k2.same (hW.block _ k2.lt)
    exact ⟨e1.cell 0, e1.cell 1, e1.cell 2, e1.cell 3, e2.cell 0, e2.cell 1, e2.cell 2, e2.cell 3⟩
  have hS0 := HS.out W2.drew (Below.refl _ _).drew
  have HW2 := Lib.hid hW2; have HQ := Lib.hid hq; have HB2 := Lib.hid b2; have HS2 := Lib.hid s2
  clear hK hK' hc hW2 b2 k1 k2 s2 HV hid hkd htx hzl hq
  go_enter Try.func26, Try.ntmps26
  go_wp2_with fail
  rw [HW2.out, HQ.out]
  refine wp_region_held (S := (fun V : World => V.cell? ⟨q, 0, none⟩ = some (.int .i64 id) ∧ V.cell? ⟨q, 1, none⟩ = some (.int .i64 kd) ∧ V.cell? ⟨q, 2, none⟩ = some (.string tx) ∧ V.cell? ⟨q, 3, none⟩ = some (.slice a n cap) ∧ V.cell? ⟨q + 1, 0, none⟩ = some (.int .i64 id) ∧ V.cell? ⟨q + 1, 1, none⟩ = some (.int .i64 kd) ∧ V.cell? ⟨q + 1, 2, none⟩ = some (.string tx) ∧ V.cell? ⟨q + 1, 3, none⟩ = some (.slice a' n' cap'))) (by kernel_rfl) ?_
  change wpAnyH _ _ _ _ _ _ _ _ (World.drew _)
  refine takeH (i := 0) (d := some 5) (v := ?_) rfl rfl (by kernel_rfl) (by kernel_rfl) (by kernel_rfl) (fun _ _ _ h => h) (Or.inl ⟨by kernel_rfl, ?_⟩) hS0 ?_
  rotate_left
  focus (intro w hSw; (try dsimp only at hSw); go_simp; first | done | with_reducible rfl)
  try simp only [Act.put]
  try simp only [List.setIfInBounds_toArray]
  try simp only [List.set_cons_succ]
  try simp only [List.set_cons_zero]
  refine takeH (i := 1) (d := some 6) (v := ?_) rfl rfl (by kernel_rfl) (by kernel_rfl) (by kernel_rfl) (fun _ _ _ h => h) (Or.inl ⟨by kernel_rfl, ?_⟩) hS0 ?_
  rotate_left
  focus (intro w hSw; (try dsimp only at hSw); go_simp; first | done | with_reducible rfl)
  try simp only [Act.put]
  try simp only [List.setIfInBounds_toArray]
  try simp only [List.set_cons_succ]
  try simp only [List.set_cons_zero]
  refine wpAnyH_ready (rs := [2]) (by kernel_rfl) (by simp) ?_
  refine AllReadyH.cons (o := _) rfl (fun K hK => ?_) AllReadyH.nil
  go_simp
  go_at_call 22
  refine (HEQ.out _ (Below.refl _ _).drew).mono ?_
  rintro e w3 ⟨rfl, b3'⟩; have b3 : Below W2.heap.size W2 w3 := (Below.refl _ W2).drew.trans b3'; have hS3 := HS.out w3 b3
  try go_simp
  refine hK.out _ _ hS3 (fun hHeld => ?_)
  clear hK K hHeld
  try simp only [Act.put]
  try simp only [List.setIfInBounds_toArray]
  try simp only [List.set_cons_succ]
  try simp only [List.set_cons_zero]
  refine takeH (i := 3) (d := some 8) (v := ?_) rfl rfl (by kernel_rfl) (by kernel_rfl) (by kernel_rfl) (fun _ _ _ h => h) (Or.inl ⟨by kernel_rfl, ?_⟩) hS3 ?_
  rotate_left
  focus (intro w hSw; (try dsimp only at hSw); go_simp; first | done | with_reducible rfl)
  try simp only [Act.put]
  try simp only [List.setIfInBounds_toArray]
  try simp only [List.set_cons_succ]
  try simp only [List.set_cons_zero]
  refine takeH (i := 4) (d := some 9) (v := ?_) rfl rfl (by kernel_rfl) (by kernel_rfl) (by kernel_rfl) (fun _ _ _ h => h) (Or.inl ⟨by kernel_rfl, ?_⟩) hS3 ?_
  rotate_left
  focus (intro w hSw; (try dsimp only at hSw); go_simp; first | done | with_reducible rfl)
  try simp only [Act.put]
  try simp only [List.setIfInBounds_toArray]
  try simp only [List.set_cons_succ]
  try simp only [List.set_cons_zero]
  refine takeH (i := 6) (d := some 11) (v := ?_) rfl rfl (by kernel_rfl) (by kernel_rfl) (by kernel_rfl) (fun _ _ _ h => h) (Or.inl ⟨by kernel_rfl, ?_⟩) hS3 ?_
  rotate_left
  focus (intro w hSw; (try dsimp only at hSw); go_simp; first | done | with_reducible rfl)
  try simp only [Act.put]
  try simp only [List.setIfInBounds_toArray]
  try simp only [List.set_cons_succ]
  try simp only [List.set_cons_zero]
  refine wpAnyH_ready (rs := [5]) (by kernel_rfl) (by simp) ?_
  refine AllReadyH.cons (o := _) rfl (fun K hK => ?_) AllReadyH.nil
  go_simp
  go_at_call 28
  refine (HID1.out w3 b3).mono ?_
  rintro e w4 ⟨u1, c1, rfl, hs1, bw4'⟩; have bw4 : Below W2.heap.size W2 w4 := b3.trans (bw4'.mono b3.size); have hSw4 := HS.out w4 bw4
  try go_simp
  refine hK.out _ _ hSw4 (fun hHeld => ?_)
  clear hK K hHeld
  try simp only [Act.put]
  try simp only [List.setIfInBounds_toArray]
  try simp only [List.set_cons_succ]
  try simp only [List.set_cons_zero]
  refine wpAnyH_ready (rs := [7]) (by kernel_rfl) (by simp) ?_
  refine AllReadyH.cons (o := _) rfl (fun K hK => ?_) AllReadyH.nil
  go_simp
  go_at_call 28
  refine (HID2.out w4 bw4).mono ?_
  rintro e w5 ⟨u2, c2, rfl, hs2, bw5'⟩; have bw5 : Below W2.heap.size W2 w5 := bw4.trans (bw5'.mono bw4.size); have hSw5 := HS.out w5 bw5; replace hs1 := hs1.below bw5'
  try go_simp
  refine hK.out _ _ hSw5 (fun hHeld => ?_)
  clear hK K hHeld
  try simp only [Act.put]
  try simp only [List.setIfInBounds_toArray]
  try simp only [List.set_cons_succ]
  try simp only [List.set_cons_zero]
  refine wpAnyH_ready (rs := [8]) (by kernel_rfl) (by simp) ?_
  refine AllReadyH.cons (o := _) rfl (fun K hK => ?_) AllReadyH.nil
  go_simp
  go_at_call 27
  refine (HSI.out u1 u2 c1 c2 w5 hs1 hs2 bw5).mono ?_
  rintro e w6 ⟨rfl, b6'⟩; have b6 : Below W2.heap.size W2 w6 := bw5.trans (b6'.mono bw5.size); have hS6 := HS.out w6 b6
  try go_simp
  refine hK.out _ _ hS6 (fun hHeld => ?_)
  clear hK K hHeld
  try simp only [Act.put]
  try simp only [List.setIfInBounds_toArray]
  try simp only [List.set_cons_succ]
  try simp only [List.set_cons_zero]
  refine takeH (i := 9) (d := some 14) (v := ?_) rfl rfl (by kernel_rfl) (by kernel_rfl) (by kernel_rfl) (fun _ _ _ h => h) (Or.inl ⟨by kernel_rfl, ?_⟩) hS6 ?_
  rotate_left
  focus (intro w hSw; (try dsimp only at hSw); go_simp; first | done | with_reducible rfl)
  try simp only [Act.put]
  try simp only [List.setIfInBounds_toArray]
  try simp only [List.set_cons_succ]
  try simp only [List.set_cons_zero]
  refine takeH (i := 10) (d := some 4) (v := ?_) rfl rfl (by kernel_rfl) (by kernel_rfl) (by kernel_rfl) (fun _ _ _ h => h) (Or.inl ⟨by kernel_rfl, ?_⟩) hS6 ?_
  rotate_left
  focus (intro w hSw; (try dsimp only at hSw); go_simp; first | done | with_reducible rfl)
  try simp only [Act.put]
  try simp only [List.setIfInBounds_toArray]
  try simp only [List.set_cons_succ]
  try simp only [List.set_cons_zero]
  refine wpAnyH_done (by kernel_rfl) ?_ _
  have HF := Lib.hid (HB2.out.trans (b6.mono (by have := HS2.out; omega)))
  clear hs1 hs2 b3' b3 hS3 b6' b6 hS6 hSw4 hSw5 bw4' bw4 bw5' bw5 hS0
  go_wp2
  go_ret
  exact ⟨rfl, by rw [HQ.out]; exact HF.out⟩

end Go.Proofs.Ytfecajeenmnoeaa
