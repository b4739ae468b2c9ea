/- The walk of SyntaxGet. It has no conditions. -/
import Derived.Test.YtfecajeenmnoeaaSGs
import Derived.Test.YtfecajeenmnoeaaSRo
import Derived.Test.YtfecajeenmnoeaaSLi
import Derived.Test.YtfecajeenmnoeaaInts
namespace Go.Proofs.Ytfecajeenmnoeaa
open Go.RowKit Go.Shelf
set_option linter.unusedVariables false

theorem SlJ.mono {B B' : Nat} {w : World} {a : Option Addr} {n : Nat} (h : SlJ B w a n) (hb : B ≤ B') : SlJ B' w a n := by
  rcases h with h0 | ⟨b, off, ha, hlt, hc⟩
  · exact .inl h0
  · exact .inr ⟨b, off, ha, by omega, hc⟩
theorem SlJ.to {w w' : World} {a : Option Addr} {n : Nat} (h : SlJ w.heap.size w a n) (hb : Below w.heap.size w w') : SlJ w'.heap.size w' a n := (h.below hb).mono hb.size

set_option maxRecDepth 100000 in
set_option maxHeartbeats 4000000 in
theorem walkSGet (a0 : Option Addr) (c0 : Nat) (ls : List Int) (a1 : Option Addr) (c1 : Nat) (ms : List Int) (a2 : Option Addr) (c2 : Nat) (ps : List Int) (w : World) (hl : Sli .i64 w a0 c0 ls) (hwl : ∀ n ∈ ls, -9223372036854775808 ≤ n ∧ n ≤ 9223372036854775807) (hm : Sli .i64 w a1 c1 ms) (hwm : ∀ n ∈ ms, -9223372036854775808 ≤ n ∧ n ≤ 9223372036854775807) (hp : Sli .i64 w a2 c2 ps) :
    Calls Try.prog 5 #[.slice a0 ls.length c0, .slice a1 ms.length c1, .slice a2 ps.length c2] w fun e w' => e = .returned (.bool true) ∧ Below w.heap.size w w' := by
  have HTR := Lib.hid (Tree_any a0 ls.length c0 hl.le hl.mx w (SlJ.of hl hwl))
  have hmj := SlJ.of hm hwm
  have hmle := hm.le
  have hmmx := hm.mx
  have HP := Lib.hid hp
  have HM := Lib.hid hmj
  obtain ⟨ln, hln⟩ : ∃ z, ls.length = z := ⟨_, rfl⟩
  obtain ⟨mn, hmn⟩ : ∃ z, ms.length = z := ⟨_, rfl⟩
  rw [hln] at HTR
  rw [hmn] at HM hmle
  rw [hln, hmn]
  clear hl hwl hm hwm hp hln hmn hmj
  have HIN0 : Hid (∀ W, Below w.heap.size w W → Calls Try.prog 18 #[.slice a2 ps.length c2, .int .i64 4] W (NewRow .i64 3 W (ps.take 4))) := fun W hW => ints_any a2 c2 4 ps W (HP.out.below hW) (by omega)
  obtain ⟨pn, hpn⟩ : ∃ z, ps.length = z := ⟨_, rfl⟩
  rw [hpn] at HIN0 ⊢
  have HPN := Lib.hid hpn
  clear hpn
  go_enter Try.func5, Try.ntmps5
  go_wp2_with fail
  refine HTR.out.mono ?_
  rintro e w1 ⟨t, a, n, cap, rfl, hkv, hsm, _, b1⟩
  obtain ⟨w2, hw2⟩ : ∃ W, w1.alloc (.cells (ndc t a n cap) 25) = W := ⟨_, rfl⟩
  have b2' : Below w1.heap.size w1 w2 := by rw [← hw2]; exact (Below.refl _ _).alloc (Nat.le_refl _) _
  have k2 : Blk w2 w1.heap.size 25 (ndc t a n cap) := by rw [← hw2]; exact Blk.new _ _ _
  have b2 : Below w.heap.size w w2 := b1.trans (b2'.mono b1.size)
  have hkv2 := hkv.on b2'
  have hcnt := hsm.cnt
  have hpw := hsm.pw
  have hcnt' : t.cnt ≤ 3125 := hcnt
  have htd := hsm.tidy
  obtain ⟨q, hq⟩ : ∃ q, w1.heap.size = q := ⟨_, rfl⟩
  rw [hq] at k2
  have HS : Hid (∀ W, Below w2.heap.size w2 W → W.cell? ⟨q, 0, none⟩ = some (.int .i64 t.id) ∧ W.cell? ⟨q, 1, none⟩ = some (.int .i64 t.kind) ∧ W.cell? ⟨q, 2, none⟩ = some (.string t.text) ∧ W.cell? ⟨q, 3, none⟩ = some (.slice a n cap)) := fun W hW => by
    have kk := k2.same (hW.block q k2.lt)
    exact ⟨kk.cell 0, kk.cell 1, kk.cell 2, kk.cell 3⟩
  have HRO := Lib.hid (route_any t a n cap a1 mn c1 w2 _ hkv2 (HM.out.to b2) hmle hmmx)
  have HGE : Hid (∀ W (pa : Option Addr) (pc : Nat) (zs : List Int), Sli .i64 W pa pc zs → zs.length ≤ 3 → Below w2.heap.size w2 W → Calls Try.prog 17 #[ndv t a n cap, .slice pa zs.length pc] W fun e w' => e = .returned (.bool true) ∧ Below W.heap.size W w') := fun W pa pc zs hs hz hW => gets_any t a n cap pa pc zs W _ (hkv2.on hW) (by omega) (by omega) htd hs (by omega)
  have HGE2 : Hid (∀ W (pa : Option Addr) (pc : Nat), Sli .i64 W pa pc (ps.take 4) → Below w2.heap.size w2 W → Calls Try.prog 17 #[ndv t a n cap, .slice pa (ps.take 4).length pc] W fun e w' => e = .returned (.bool true) ∧ Below W.heap.size W w') := fun W pa pc hs hW => gets_any t a n cap pa pc (ps.take 4) W _ (hkv2.on hW) (by omega) (by omega) htd hs (by rw [List.length_take]; omega)
  have HIN : Hid (∀ W, Below w2.heap.size w2 W → Calls Try.prog 18 #[.slice a2 pn c2, .int .i64 4] W fun e w' => ∃ pa pc, e = .returned (.slice pa (ps.take 4).length pc) ∧ Sli .i64 w' pa pc (ps.take 4) ∧ Below W.heap.size W w') := fun W hW => (HIN0.out W (b2.trans (hW.mono b2.size))).mono fun e w' h => newSli_of_row h
  obtain ⟨id, hid⟩ : ∃ x, t.id = x := ⟨_, rfl⟩
  obtain ⟨kd, hkd⟩ : ∃ x, t.kind = x := ⟨_, rfl⟩
  obtain ⟨tx, htx⟩ : ∃ x, t.text = x := ⟨_, rfl⟩
  obtain ⟨p4, hp4⟩ : ∃ x, (ps.take 4).length = x := ⟨_, rfl⟩
  unfold ndv at HRO HGE HGE2
  unfold ndc at hw2
  rw [hid, hkd, htx] at HRO HGE HGE2 HS hw2
  rw [hp4] at HGE2 HIN
  have HW2 := Lib.hid hw2; have HQ := Lib.hid hq; have HB2 := Lib.hid b2
  clear hkv hsm b1 b2' k2 hkv2 hcnt hpw hcnt' htd hw2 hq b2
  unfold ndv
  rw [hid, hkd, htx]
  clear hid hkd htx hp4
  go_wp2_with fail
  rw [HW2.out, HQ.out]
  refine HRO.out.mono ?_
  rintro e w4 ⟨zs, hz3, hrow⟩
  obtain ⟨pa, pc, rfl, hs4, b4⟩ := newSli_of_row hrow
  have hs4 : Sli .i64 w4.drew pa pc zs := ⟨hs4.le, hs4.mx, hs4.nil, hs4.cells⟩
  have hS0 := HS.out w4.drew b4.drew
  clear hrow
  obtain ⟨zl, hzl⟩ : ∃ z, zs.length = z := ⟨_, rfl⟩
  have HGE1 := HGE.out w4.drew pa pc zs hs4 hz3 b4.drew
  rw [hzl] at HGE1 ⊢
  have HGE1 := Lib.hid HGE1
  clear hzl hs4
  go_wp2_with fail
  refine wp_region_held (S := (fun V : World => V.cell? ⟨q, 0, none⟩ = some (.int .i64 id) ∧ V.cell? ⟨q, 1, none⟩ = some (.int .i64 kd) ∧ V.cell? ⟨q, 2, none⟩ = some (.string tx) ∧ V.cell? ⟨q, 3, none⟩ = some (.slice a n cap))) (by kernel_rfl) ?_
  change wpAnyH _ _ _ _ _ _ _ _ (World.drew _)
  refine takeH (i := 0) (d := (some 14)) (v := ?_) rfl rfl (by kernel_rfl) (by kernel_rfl) (by kernel_rfl) (fun _ _ _ h => h) (Or.inl ⟨by kernel_rfl, ?_⟩) hS0 ?_
  rotate_left
  focus (intro w hSw; (try dsimp only at hSw); go_simp; first | done | with_reducible rfl)
  try simp only [Act.put]
  try simp only [List.setIfInBounds_toArray]
  try simp only [List.set_cons_succ]
  try simp only [List.set_cons_zero]
  refine takeH (i := 1) (d := (some 15)) (v := ?_) rfl rfl (by kernel_rfl) (by kernel_rfl) (by kernel_rfl) (fun _ _ _ h => h) (Or.inl ⟨by kernel_rfl, ?_⟩) hS0 ?_
  rotate_left
  focus (intro w hSw; (try dsimp only at hSw); go_simp; first | done | with_reducible rfl)
  try simp only [Act.put]
  try simp only [List.setIfInBounds_toArray]
  try simp only [List.set_cons_succ]
  try simp only [List.set_cons_zero]
  refine wpAnyH_ready (rs := [2]) (by kernel_rfl) (by simp) ?_
  refine AllReadyH.cons (o := _) rfl (fun K hK => ?_) AllReadyH.nil
  go_simp
  go_at_call 17
  refine (HGE1.out).mono ?_
  rintro e w5 ⟨rfl, bw5'⟩; have b4d := b4.drew; have bw5 : Below w2.heap.size w2 w5 := b4d.trans (bw5'.mono b4d.size); have hSw5 := HS.out w5 bw5
  try go_simp
  refine hK.out _ _ hSw5 (fun hHeld => ?_)
  clear hK K hHeld
  try simp only [Act.put]
  try simp only [List.setIfInBounds_toArray]
  try simp only [List.set_cons_succ]
  try simp only [List.set_cons_zero]
  refine takeH (i := 3) (d := (some 17)) (v := ?_) rfl rfl (by kernel_rfl) (by kernel_rfl) (by kernel_rfl) (fun _ _ _ h => h) (Or.inl ⟨by kernel_rfl, ?_⟩) hSw5 ?_
  rotate_left
  focus (intro w hSw; (try dsimp only at hSw); go_simp; first | done | with_reducible rfl)
  try simp only [Act.put]
  try simp only [List.setIfInBounds_toArray]
  try simp only [List.set_cons_succ]
  try simp only [List.set_cons_zero]
  refine takeH (i := 4) (d := (some 18)) (v := ?_) rfl rfl (by kernel_rfl) (by kernel_rfl) (by kernel_rfl) (fun _ _ _ h => h) (Or.inl ⟨by kernel_rfl, ?_⟩) hSw5 ?_
  rotate_left
  focus (intro w hSw; (try dsimp only at hSw); go_simp; first | done | with_reducible rfl)
  try simp only [Act.put]
  try simp only [List.setIfInBounds_toArray]
  try simp only [List.set_cons_succ]
  try simp only [List.set_cons_zero]
  refine takeH (i := 5) (d := (some 19)) (v := ?_) rfl rfl (by kernel_rfl) (by kernel_rfl) (by kernel_rfl) (fun _ _ _ h => h) (Or.inl ⟨by kernel_rfl, ?_⟩) hSw5 ?_
  rotate_left
  focus (intro w hSw; (try dsimp only at hSw); go_simp; first | done | with_reducible rfl)
  try simp only [Act.put]
  try simp only [List.setIfInBounds_toArray]
  try simp only [List.set_cons_succ]
  try simp only [List.set_cons_zero]
  refine wpAnyH_ready (rs := [6]) (by kernel_rfl) (by simp) ?_
  refine AllReadyH.cons (o := _) rfl (fun K hK => ?_) AllReadyH.nil
  go_simp
  go_at_call 18
  refine (HIN.out w5 bw5).mono ?_
  rintro e w6 ⟨pa2, pc2, rfl, hs6, bw6'⟩; have bw6 : Below w2.heap.size w2 w6 := bw5.trans (bw6'.mono bw5.size); have hSw6 := HS.out w6 bw6
  try go_simp
  refine hK.out _ _ hSw6 (fun hHeld => ?_)
  clear hK K hHeld
  try simp only [Act.put]
  try simp only [List.setIfInBounds_toArray]
  try simp only [List.set_cons_succ]
  try simp only [List.set_cons_zero]
  refine wpAnyH_ready (rs := [7]) (by kernel_rfl) (by simp) ?_
  refine AllReadyH.cons (o := _) rfl (fun K hK => ?_) AllReadyH.nil
  go_simp
  go_at_call 17
  refine (HGE2.out w6 pa2 pc2 hs6 bw6).mono ?_
  rintro e w7 ⟨rfl, bw7'⟩; have bw7 : Below w2.heap.size w2 w7 := bw6.trans (bw7'.mono bw6.size); have hSw7 := HS.out w7 bw7
  try go_simp
  refine hK.out _ _ hSw7 (fun hHeld => ?_)
  clear hK K hHeld
  try simp only [Act.put]
  try simp only [List.setIfInBounds_toArray]
  try simp only [List.set_cons_succ]
  try simp only [List.set_cons_zero]
  refine takeH (i := 8) (d := (some 22)) (v := ?_) rfl rfl (by kernel_rfl) (by kernel_rfl) (by kernel_rfl) (fun _ _ _ h => h) (Or.inl ⟨by kernel_rfl, ?_⟩) hSw7 ?_
  rotate_left
  focus (intro w hSw; (try dsimp only at hSw); go_simp; first | done | with_reducible rfl)
  try simp only [Act.put]
  try simp only [List.setIfInBounds_toArray]
  try simp only [List.set_cons_succ]
  try simp only [List.set_cons_zero]
  refine takeH (i := 9) (d := (some 23)) (v := ?_) rfl rfl (by kernel_rfl) (by kernel_rfl) (by kernel_rfl) (fun _ _ _ h => h) (Or.inl ⟨by kernel_rfl, ?_⟩) hSw7 ?_
  rotate_left
  focus (intro w hSw; (try dsimp only at hSw); go_simp; first | done | with_reducible rfl)
  try simp only [Act.put]
  try simp only [List.setIfInBounds_toArray]
  try simp only [List.set_cons_succ]
  try simp only [List.set_cons_zero]
  refine wpAnyH_ready (rs := [10]) (by kernel_rfl) (by simp) ?_
  refine AllReadyH.cons (o := _) rfl (fun K hK => ?_) AllReadyH.nil
  go_simp
  go_at_call 14
  refine (lives_any w7).mono ?_
  rintro e w8 ⟨rfl, bw8'⟩; have bw8 : Below w2.heap.size w2 w8 := bw7.trans (bw8'.mono bw7.size); have hSw8 := HS.out w8 bw8
  try go_simp
  refine hK.out _ _ hSw8 (fun hHeld => ?_)
  clear hK K hHeld
  try simp only [Act.put]
  try simp only [List.setIfInBounds_toArray]
  try simp only [List.set_cons_succ]
  try simp only [List.set_cons_zero]
  refine takeH (i := 11) (d := (some 25)) (v := ?_) rfl rfl (by kernel_rfl) (by kernel_rfl) (by kernel_rfl) (fun _ _ _ h => h) (Or.inl ⟨by kernel_rfl, ?_⟩) hSw8 ?_
  rotate_left
  focus (intro w hSw; (try dsimp only at hSw); go_simp; first | done | with_reducible rfl)
  try simp only [Act.put]
  try simp only [List.setIfInBounds_toArray]
  try simp only [List.set_cons_succ]
  try simp only [List.set_cons_zero]
  refine takeH (i := 12) (d := (some 6)) (v := ?_) rfl rfl (by kernel_rfl) (by kernel_rfl) (by kernel_rfl) (fun _ _ _ h => h) (Or.inl ⟨by kernel_rfl, ?_⟩) hSw8 ?_
  rotate_left
  focus (intro w hSw; (try dsimp only at hSw); go_simp; first | done | with_reducible rfl)
  try simp only [Act.put]
  try simp only [List.setIfInBounds_toArray]
  try simp only [List.set_cons_succ]
  try simp only [List.set_cons_zero]
  refine wpAnyH_done (by kernel_rfl) ?_ _
  have HF := Lib.hid (HB2.out.trans (bw8.mono HB2.out.size))
  clear bw8 bw8' bw7 bw7' bw6 bw6' bw5 bw5' hSw5 hSw6 hSw7 hSw8 hS0 b4 b4d hs6
  go_wp2
  go_ret
  exact ⟨rfl, HF.out⟩

end Go.Proofs.Ytfecajeenmnoeaa
