/- The walk of SyntaxNumber. It has no conditions. -/
import Derived.Test.YtfecajeenmnoeaaSNm
import Derived.Test.YtfecajeenmnoeaaSLi
import Derived.Test.YtfecajeenmnoeaaSTt
import Derived.Test.YtfecajeenmnoeaaBound
namespace Go.Proofs.Ytfecajeenmnoeaa
open Go.RowKit Go.Shelf
set_option linter.unusedVariables false

set_option maxRecDepth 100000 in
set_option maxHeartbeats 8000000 in
theorem walkSNum (a0 : Option Addr) (c0 : Nat) (ls : List Int) (x : Int) (w : World) (hl : Sli .i64 w a0 c0 ls) (hwl : ∀ n ∈ ls, -9223372036854775808 ≤ n ∧ n ≤ 9223372036854775807) (hx : -9223372036854775808 ≤ x ∧ x ≤ 9223372036854775807) :
    Calls Try.prog 7 #[.slice a0 ls.length c0, .int .i64 x] w fun e w' => e = .returned (.bool true) ∧ Below w.heap.size w w' := by
  have HTR := Lib.hid (Tree_any a0 ls.length c0 hl.le hl.mx w (SlJ.of hl hwl))
  obtain ⟨ln, hln⟩ : ∃ z, ls.length = z := ⟨_, rfl⟩
  rw [hln] at HTR ⊢
  have HBO : Hid (∀ W, Calls Try.prog 23 #[.int .i64 x, .int .i64 1000000] W (InBound 1000000 W)) := fun W => bound_any x 1000000 W hx.1 hx.2 (by omega)
  clear hl hwl hln hx
  go_enter Try.func7, Try.ntmps7
  go_wp2_with fail
  refine HTR.out.mono ?_
  rintro e w1 ⟨t, a, n, cap, rfl, hkv, hsm, _, b1⟩
  obtain ⟨w2, hw2⟩ : ∃ W, w1.alloc (.cells (ndc t a n cap) 25) = W := ⟨_, rfl⟩
  have b2' : Below w1.heap.size w1 w2 := by rw [← hw2]; exact (Below.refl _ _).alloc (Nat.le_refl _) _
  have k2 : Blk w2 w1.heap.size 25 (ndc t a n cap) := by rw [← hw2]; exact Blk.new _ _ _
  have b2 : Below w.heap.size w w2 := b1.trans (b2'.mono b1.size)
  have hkv2 : KV (fun _ => True) w2 a n cap t.kids := (hkv.on b2').keep (Nat.le_refl _) (fun _ _ _ => rfl) (fun _ _ _ => trivial)
  have hcnt := hsm.cnt
  have hpw := hsm.pw
  have hcnt' : t.cnt ≤ 3125 := hcnt
  have hpw' : t.pw ≤ 1000000000 := by omega
  obtain ⟨q, hq⟩ : ∃ q, w1.heap.size = q := ⟨_, rfl⟩
  rw [hq] at k2
  obtain ⟨id, hid⟩ : ∃ z, t.id = z := ⟨_, rfl⟩
  obtain ⟨kd, hkd⟩ : ∃ z, t.kind = z := ⟨_, rfl⟩
  obtain ⟨tx, htx⟩ : ∃ z, t.text = z := ⟨_, rfl⟩
  obtain ⟨N, hN⟩ : ∃ z, t.cnt = z := ⟨_, rfl⟩
  have HPN : Hid (∀ f : Int, -1000000 ≤ f → f ≤ 1000000 → Calls Try.prog 24 #[ndv t a n cap, .int .i64 f] w2 (NumP t f n w2)) := fun f h1 h2 => pnumber_any t a n cap f w2 _ hkv2 (by omega) hpw' (by omega) (by omega)
  have HRN : Hid (∀ (f : Int) (W : World), -1000000 ≤ f → f ≤ 1000000 → Below w2.heap.size w2 W → Calls Try.prog 20 #[ndv t a n cap, .int .i64 f] W (NumP t f n W)) := fun f W h1 h2 hW => rnumber_any t.dep t a n cap f W _ (Nat.le_refl _) (hkv2.on hW) (by omega) (by omega) (by omega)
  have HT := Lib.hid (And.intro hid (And.intro hkd (And.intro htx hN)))
  have HK2 := Lib.hid k2; have HKV2 := Lib.hid hkv2; have HQ := Lib.hid hq; have HB2 := Lib.hid b2; have HPW := Lib.hid hpw'; have HW2 := Lib.hid hw2
  have HCN : Hid (N ≤ 3125) := by rw [← hN]; exact hcnt'
  unfold ndv at HPN HRN
  rw [hid, hkd, htx] at HPN HRN
  unfold ndc at HW2 HK2
  rw [hid, hkd, htx] at HW2 HK2
  unfold ndv
  rw [hid, hkd, htx]
  clear hkv hsm b1 b2' k2 b2 hkv2 hcnt hpw hcnt' hpw' hq hid hkd htx hN hw2
  go_wp2_with fail
  rw [HW2.out]
  refine (HBO.out _).mono ?_
  rintro e w2' ⟨f, hf1, hf2, rfl, rfl⟩
  have m0 : -1000000 ≤ f := hf1
  have m00 : f ≤ 1000000 := hf2
  clear hf1 hf2
  obtain ⟨e0, e1, e2, e3⟩ : w2.cell? ⟨q, 0, none⟩ = some (.int .i64 id) ∧ w2.cell? ⟨q, 1, none⟩ = some (.int .i64 kd) ∧ w2.cell? ⟨q, 2, none⟩ = some (.string tx) ∧ w2.cell? ⟨q, 3, none⟩ = some (.slice a n cap) := ⟨HK2.out.cell 0, HK2.out.cell 1, HK2.out.cell 2, HK2.out.cell 3⟩
  rw [HQ.out]
  go_wp2_with fail
  refine (HPN.out f m0 m00).mono ?_
  rintro e w3 ⟨a3, c3, rfl, hkv3, b3⟩
  obtain ⟨h1, h2, h3, h4⟩ := HT.out
  rw [h2, h3, h4]
  obtain ⟨w4, hw4⟩ : ∃ W, w3.alloc (.cells #[.int .i64 f, .int .i64 kd, .string tx, .slice a3 n c3] 25) = W := ⟨_, rfl⟩
  obtain ⟨q3, hq3⟩ : ∃ z, w3.heap.size = z := ⟨_, rfl⟩
  have b4' : Below q3 w3 w4 := by rw [← hw4, ← hq3]; exact (Below.refl _ _).alloc (Nat.le_refl _) _
  have k4 : Blk w4 q3 25 #[.int .i64 f, .int .i64 kd, .string tx, .slice a3 n c3] := by rw [← hw4, ← hq3]; exact Blk.new _ _ _
  have b4 : Below w2.heap.size w2 w4 := b3.trans (b4'.mono (by rw [← hq3]; exact b3.size))
  have hkv4 : KV (fun _ => True) w4 a3 n c3 (t.num f).kids := (hkv3.on (by rw [hq3]; exact b4')).keep (Nat.le_refl _) (fun _ _ _ => rfl) (fun _ _ _ => trivial)
  have HK4 := Lib.hid k4; have HKV4 := Lib.hid hkv4; have HQ3 := Lib.hid hq3; have HB4 := Lib.hid b4; have HW4 := Lib.hid hw4
  have u2 : Blk w4 q 25 #[.int .i64 id, .int .i64 kd, .string tx, .slice a n cap] := HK2.out.same (b4.block q HK2.out.lt)
  have u3 : Blk w3 q 25 #[.int .i64 id, .int .i64 kd, .string tx, .slice a n cap] := HK2.out.same (b3.block q HK2.out.lt)
  clear e0 e1 e2 e3
  obtain ⟨e0, e1, e2, e3⟩ : w3.cell? ⟨q, 0, none⟩ = some (.int .i64 id) ∧ w3.cell? ⟨q, 1, none⟩ = some (.int .i64 kd) ∧ w3.cell? ⟨q, 2, none⟩ = some (.string tx) ∧ w3.cell? ⟨q, 3, none⟩ = some (.slice a n cap) := ⟨u3.cell 0, u3.cell 1, u3.cell 2, u3.cell 3⟩
  have hlt3 : q < w3.heap.size := u3.lt
  clear hkv3 b3 b4' k4 b4 hkv4 hq3 hw4 h1 h2 h3 h4 u2 u3
  go_wp2_with fail
  rw [HW4.out, HQ3.out]
  refine (HRN.out f w4 m0 m00 HB4.out).mono ?_
  rintro e w5 ⟨a5, c5, rfl, hkv5, b5⟩
  obtain ⟨h1, h2, h3, h4⟩ := HT.out
  rw [h2, h3, h4]
  obtain ⟨w6, hw6⟩ : ∃ W, w5.alloc (.cells #[.int .i64 f, .int .i64 kd, .string tx, .slice a5 n c5] 25) = W := ⟨_, rfl⟩
  obtain ⟨q5, hq5⟩ : ∃ z, w5.heap.size = z := ⟨_, rfl⟩
  have b6' : Below q5 w5 w6 := by rw [← hw6, ← hq5]; exact (Below.refl _ _).alloc (Nat.le_refl _) _
  have k6 : Blk w6 q5 25 #[.int .i64 f, .int .i64 kd, .string tx, .slice a5 n c5] := by rw [← hw6, ← hq5]; exact Blk.new _ _ _
  have b6 : Below w4.heap.size w4 w6 := b5.trans (b6'.mono (by rw [← hq5]; exact b5.size))
  have b26 : Below w2.heap.size w2 w6 := HB4.out.trans (b6.mono HB4.out.size)
  have hkv6 : KV (fun _ => True) w6 a5 n c5 (t.num f).kids := (hkv5.on (by rw [hq5]; exact b6')).keep (Nat.le_refl _) (fun _ _ _ => rfl) (fun _ _ _ => trivial)
  have hkv46 := HKV4.out.on b6
  have hkv26 := HKV2.out.on b26
  have k46 := HK4.out.same (b6.block _ HK4.out.lt)
  have k26 := HK2.out.same (b26.block _ HK2.out.lt)
  have hc1 : (t.num f).cnt ≤ 100000 := by rw [num_cnt, h4]; have := HCN.out; omega
  have hc2 : t.cnt ≤ 100000 := by rw [h4]; have := HCN.out; omega
  have hw1 : (t.num f).pw ≤ 1000000000 := by rw [num_pw]; exact HPW.out
  have hnd : ndv (t.num f) a3 n c3 = .agg #[.int .i64 f, .int .i64 kd, .string tx, .slice a3 n c3] := by unfold ndv; rw [t.num_eq f, ← h2, ← h3]; rfl
  have hnd5 : ndv (t.num f) a5 n c5 = .agg #[.int .i64 f, .int .i64 kd, .string tx, .slice a5 n c5] := by unfold ndv; rw [t.num_eq f, ← h2, ← h3]; rfl
  have hnt : ndv t a n cap = .agg #[.int .i64 id, .int .i64 kd, .string tx, .slice a n cap] := by unfold ndv; rw [h1, h2, h3]
  have HS6 : Hid (∀ W, Below w6.heap.size w6 W → W.cell? ⟨q, 0, none⟩ = some (.int .i64 id) ∧ W.cell? ⟨q, 1, none⟩ = some (.int .i64 kd) ∧ W.cell? ⟨q, 2, none⟩ = some (.string tx) ∧ W.cell? ⟨q, 3, none⟩ = some (.slice a n cap) ∧ W.cell? ⟨q3, 0, none⟩ = some (.int .i64 f) ∧ W.cell? ⟨q3, 1, none⟩ = some (.int .i64 kd) ∧ W.cell? ⟨q3, 2, none⟩ = some (.string tx) ∧ W.cell? ⟨q3, 3, none⟩ = some (.slice a3 n c3) ∧ W.cell? ⟨q5, 0, none⟩ = some (.int .i64 f) ∧ W.cell? ⟨q5, 1, none⟩ = some (.int .i64 kd) ∧ W.cell? ⟨q5, 2, none⟩ = some (.string tx) ∧ W.cell? ⟨q5, 3, none⟩ = some (.slice a5 n c5)) := fun W hW => by
    have g1 := k26.same (hW.block _ k26.lt)
    have g2 := k46.same (hW.block _ k46.lt)
    have g3 := k6.same (hW.block _ k6.lt)
    exact ⟨g1.cell 0, g1.cell 1, g1.cell 2, g1.cell 3, g2.cell 0, g2.cell 1, g2.cell 2, g2.cell 3, g3.cell 0, g3.cell 1, g3.cell 2, g3.cell 3⟩
  have HPI3 : Hid (∀ W, Below w6.heap.size w6 W → Calls Try.prog 25 #[.agg #[.int .i64 f, .int .i64 kd, .string tx, .slice a3 n c3]] W fun e w' => ∃ u c, e = .returned (.slice u N c) ∧ Sli .i64 w' u c (seqI f N) ∧ Below W.heap.size W w') := fun W hW => by
    have := pids_sli (t.num f) a3 n c3 W _ (hkv46.on hW) hc1 hw1
    rw [show zid (t.num f) = seqI f N by rw [zid, zid_num, h4], seqI_len, hnd] at this
    exact this
  have HSA6 : Hid (∀ W, Below w6.heap.size w6 W → Calls Try.prog 26 #[.agg #[.int .i64 f, .int .i64 kd, .string tx, .slice a3 n c3], .agg #[.int .i64 f, .int .i64 kd, .string tx, .slice a5 n c5]] W fun e w' => e = .returned (.bool true) ∧ Below W.heap.size W w') := fun W hW => by
    have := same_any (t.num f) a3 n c3 a5 n c5 W _ (hkv46.on hW) (hkv6.on hW) hc1
    rw [hnd, hnd5] at this
    exact this
  have HRE6 : Hid (∀ W, Below w6.heap.size w6 W → Calls Try.prog 22 #[.agg #[.int .i64 f, .int .i64 kd, .string tx, .slice a3 n c3], .agg #[.int .i64 id, .int .i64 kd, .string tx, .slice a n cap]] W fun e w' => e = .returned (.bool true) ∧ Below W.heap.size W w') := fun W hW => by
    have := requal_any (t.num f).dep (t.num f) t a3 n c3 a n cap W _ (Nat.le_refl _) (hkv46.on hW) (hkv26.on hW) hc1 hc2
    rw [hnd, hnt, num_eqv] at this
    exact this
  obtain ⟨ZL, hZL⟩ : ∃ z, zid t = z := ⟨_, rfl⟩
  obtain ⟨zl, hzl⟩ : ∃ z, ZL.length = z := ⟨_, rfl⟩
  have hzl2 : zl ≤ 100000 := by rw [← hzl, ← hZL, zid, List.length_map, t.all_len]; exact hc2
  have HPI6 : Hid (∀ W, Below w6.heap.size w6 W → Calls Try.prog 25 #[.agg #[.int .i64 id, .int .i64 kd, .string tx, .slice a n cap]] W fun e w' => ∃ u c, e = .returned (.slice u zl c) ∧ Sli .i64 w' u c ZL ∧ Below W.heap.size W w') := fun W hW => by
    have := pids_sli t a n cap W _ (hkv26.on hW) hc2 HPW.out
    rw [hZL, hzl, hnt] at this
    exact this
  have HRI6 : Hid (∀ W, Below w6.heap.size w6 W → Calls Try.prog 28 #[.agg #[.int .i64 id, .int .i64 kd, .string tx, .slice a n cap]] W fun e w' => ∃ u c, e = .returned (.slice u zl c) ∧ Sli .i64 w' u c ZL ∧ Below W.heap.size W w') := fun W hW => by
    have := rids_sli t a n cap W _ (hkv26.on hW) hc2
    rw [hZL, hzl, hnt] at this
    exact this
  have HSI6 : Hid (∀ (u1 u2 : Option Addr) (c1 c2 : Nat) (W : World), Sli .i64 W u1 c1 ZL → Sli .i64 W u2 c2 ZL → Calls Try.prog 27 #[.slice u1 zl c1, .slice u2 zl c2] W fun e w' => e = .returned (.bool true) ∧ Below W.heap.size W w') := fun u1 u2 c1 c2 W g1 g2 => by
    have := sameInts_any u1 u2 c1 c2 ZL ZL W g1 g2 (by omega) (by omega)
    rw [decide_eq_true rfl, hzl] at this
    exact this
  have HB6 : Hid (Below w.heap.size w w6) := HB2.out.trans (b26.mono HB2.out.size)
  have HQ5 := Lib.hid hq5; have HW6 := Lib.hid hw6
  have k45 := HK4.out.same (b5.block _ HK4.out.lt)
  obtain ⟨g0, g1, g2, g3⟩ : w5.cell? ⟨q3, 0, none⟩ = some (.int .i64 f) ∧ w5.cell? ⟨q3, 1, none⟩ = some (.int .i64 kd) ∧ w5.cell? ⟨q3, 2, none⟩ = some (.string tx) ∧ w5.cell? ⟨q3, 3, none⟩ = some (.slice a3 n c3) := ⟨k45.cell 0, k45.cell 1, k45.cell 2, k45.cell 3⟩
  have hlt5 : q3 < w5.heap.size := k45.lt
  have m1 : IntKind.i64.wrap (f + (N : Int)) = f + (N : Int) := by have := HCN.out; simp [IntKind.wrap, IntKind.signed, IntKind.bits]; omega
  clear hkv5 b5 b6' k6 b6 b26 hkv6 hkv46 hkv26 k46 k26 k45 hc1 hc2 hw1 hnd hnd5 hnt hZL hzl hzl2 hq5 hw6 h1 h2 h3 h4 e0 e1 e2 e3
  go_wp2_with fail
  rw [HW6.out, HQ5.out]
  refine (HPI3.out w6 (Below.refl _ _)).mono ?_
  rintro e w7 ⟨ui, ci, rfl, hsi, b7⟩
  have HS : Hid (∀ W, Below w7.heap.size w7 W → W.cell? ⟨q, 0, none⟩ = some (.int .i64 id) ∧ W.cell? ⟨q, 1, none⟩ = some (.int .i64 kd) ∧ W.cell? ⟨q, 2, none⟩ = some (.string tx) ∧ W.cell? ⟨q, 3, none⟩ = some (.slice a n cap) ∧ W.cell? ⟨q3, 0, none⟩ = some (.int .i64 f) ∧ W.cell? ⟨q3, 1, none⟩ = some (.int .i64 kd) ∧ W.cell? ⟨q3, 2, none⟩ = some (.string tx) ∧ W.cell? ⟨q3, 3, none⟩ = some (.slice a3 n c3) ∧ W.cell? ⟨q5, 0, none⟩ = some (.int .i64 f) ∧ W.cell? ⟨q5, 1, none⟩ = some (.int .i64 kd) ∧ W.cell? ⟨q5, 2, none⟩ = some (.string tx) ∧ W.cell? ⟨q5, 3, none⟩ = some (.slice a5 n c5)) := fun W hW => HS6.out W (b7.trans (hW.mono b7.size))
  have HSAME : Hid (∀ W, Below w7.heap.size w7 W → Calls Try.prog 26 #[.agg #[.int .i64 f, .int .i64 kd, .string tx, .slice a3 n c3], .agg #[.int .i64 f, .int .i64 kd, .string tx, .slice a5 n c5]] W fun e w' => e = .returned (.bool true) ∧ Below W.heap.size W w') := fun W hW => HSA6.out W (b7.trans (hW.mono b7.size))
  have HREQ : Hid (∀ W, Below w7.heap.size w7 W → Calls Try.prog 22 #[.agg #[.int .i64 f, .int .i64 kd, .string tx, .slice a3 n c3], .agg #[.int .i64 id, .int .i64 kd, .string tx, .slice a n cap]] W fun e w' => e = .returned (.bool true) ∧ Below W.heap.size W w') := fun W hW => HRE6.out W (b7.trans (hW.mono b7.size))
  have HPI : Hid (∀ W, Below w7.heap.size w7 W → Calls Try.prog 25 #[.agg #[.int .i64 id, .int .i64 kd, .string tx, .slice a n cap]] W fun e w' => ∃ u c, e = .returned (.slice u zl c) ∧ Sli .i64 w' u c ZL ∧ Below W.heap.size W w') := fun W hW => HPI6.out W (b7.trans (hW.mono b7.size))
  have HRI : Hid (∀ W, Below w7.heap.size w7 W → Calls Try.prog 28 #[.agg #[.int .i64 id, .int .i64 kd, .string tx, .slice a n cap]] W fun e w' => ∃ u c, e = .returned (.slice u zl c) ∧ Sli .i64 w' u c ZL ∧ Below W.heap.size W w') := fun W hW => HRI6.out W (b7.trans (hW.mono b7.size))
  have HSI : Hid (∀ (u1 u2 : Option Addr) (c1 c2 : Nat) (W : World), Sli .i64 W u1 c1 ZL → Sli .i64 W u2 c2 ZL → Below w7.heap.size w7 W → Calls Try.prog 27 #[.slice u1 zl c1, .slice u2 zl c2] W fun e w' => e = .returned (.bool true) ∧ Below W.heap.size W w') := fun u1 u2 c1 c2 W g1 g2 _ => HSI6.out u1 u2 c1 c2 W g1 g2
  have HB7 : Hid (Below w.heap.size w w7) := HB6.out.trans (b7.mono HB6.out.size)
  have HROW := Lib.hid hsi
  have hS0 := HS.out w7.drew (Below.refl _ w7).drew
  clear b7 hsi g0 g1 g2 g3
  go_wp2_with fail
  refine wp_region_held (S := (fun V : World => V.cell? ⟨q, 0, none⟩ = some (.int .i64 id) ∧ V.cell? ⟨q, 1, none⟩ = some (.int .i64 kd) ∧ V.cell? ⟨q, 2, none⟩ = some (.string tx) ∧ V.cell? ⟨q, 3, none⟩ = some (.slice a n cap) ∧ V.cell? ⟨q3, 0, none⟩ = some (.int .i64 f) ∧ V.cell? ⟨q3, 1, none⟩ = some (.int .i64 kd) ∧ V.cell? ⟨q3, 2, none⟩ = some (.string tx) ∧ V.cell? ⟨q3, 3, none⟩ = some (.slice a3 n c3) ∧ V.cell? ⟨q5, 0, none⟩ = some (.int .i64 f) ∧ V.cell? ⟨q5, 1, none⟩ = some (.int .i64 kd) ∧ V.cell? ⟨q5, 2, none⟩ = some (.string tx) ∧ V.cell? ⟨q5, 3, none⟩ = some (.slice a5 n c5))) (by kernel_rfl) ?_
  change wpAnyH _ _ _ _ _ _ _ _ (World.drew _)
  refine takeH (i := 0) (d := (some 31)) (v := ?_) rfl rfl (by kernel_rfl) (by kernel_rfl) (by kernel_rfl) (fun _ _ _ h => h) (Or.inl ⟨by kernel_rfl, ?_⟩) hS0 ?_
  rotate_left
  focus (intro w hSw; (try dsimp only at hSw); go_simp; first | done | with_reducible rfl)
  try simp only [Act.put]
  try simp only [List.setIfInBounds_toArray]
  try simp only [List.set_cons_succ]
  try simp only [List.set_cons_zero]
  refine takeH (i := 1) (d := (some 32)) (v := ?_) rfl rfl (by kernel_rfl) (by kernel_rfl) (by kernel_rfl) (fun _ _ _ h => h) (Or.inl ⟨by kernel_rfl, ?_⟩) hS0 ?_
  rotate_left
  focus (intro w hSw; (try dsimp only at hSw); go_simp; first | done | with_reducible rfl)
  try simp only [Act.put]
  try simp only [List.setIfInBounds_toArray]
  try simp only [List.set_cons_succ]
  try simp only [List.set_cons_zero]
  refine takeH (i := 2) (d := (some 33)) (v := ?_) rfl rfl (by kernel_rfl) (by kernel_rfl) (by kernel_rfl) (fun _ _ _ h => h) (Or.inl ⟨by kernel_rfl, ?_⟩) hS0 ?_
  rotate_left
  focus (intro w hSw; (try dsimp only at hSw); go_simp; first | done | with_reducible rfl)
  try simp only [Act.put]
  try simp only [List.setIfInBounds_toArray]
  try simp only [List.set_cons_succ]
  try simp only [List.set_cons_zero]
  refine takeH (i := 3) (d := (some 34)) (v := ?_) rfl rfl (by kernel_rfl) (by kernel_rfl) (by kernel_rfl) (fun _ _ _ h => h) (Or.inl ⟨by kernel_rfl, ?_⟩) hS0 ?_
  rotate_left
  focus (intro w hSw; (try dsimp only at hSw); go_simp; first | done | with_reducible rfl)
  try simp only [Act.put]
  try simp only [List.setIfInBounds_toArray]
  try simp only [List.set_cons_succ]
  try simp only [List.set_cons_zero]
  refine takeH (i := 4) (d := (some 35)) (v := ?_) rfl rfl (by kernel_rfl) (by kernel_rfl) (by kernel_rfl) (fun _ _ _ h => h) (Or.inl ⟨by kernel_rfl, ?_⟩) hS0 ?_
  rotate_left
  focus (intro w hSw; (try dsimp only at hSw); go_simp; first | done | with_reducible rfl)
  try simp only [Act.put]
  try simp only [List.setIfInBounds_toArray]
  try simp only [List.set_cons_succ]
  try simp only [List.set_cons_zero]
  refine takeH (i := 5) (d := (some 36)) (v := ?_) rfl rfl (by kernel_rfl) (by kernel_rfl) (by kernel_rfl) (fun _ _ _ h => h) (Or.inl ⟨by kernel_rfl, ?_⟩) hS0 ?_
  rotate_left
  focus (intro w hSw; (try dsimp only at hSw); go_simp; first | done | with_reducible rfl)
  try simp only [Act.put]
  try simp only [List.setIfInBounds_toArray]
  try simp only [List.set_cons_succ]
  try simp only [List.set_cons_zero]
  refine wpAnyH_ready (rs := [6]) (by kernel_rfl) (by simp) ?_
  refine AllReadyH.cons (o := _) rfl (fun K hK => ?_) AllReadyH.nil
  go_simp
  go_at_call 26
  refine (HSAME.out w7.drew (Below.refl _ w7).drew).mono ?_
  rintro e wa ⟨rfl, bwa'⟩; have b7d := (Below.refl w7.heap.size w7).drew; have bwa : Below w7.heap.size w7 wa := b7d.trans (bwa'.mono b7d.size); have hSwa := HS.out wa bwa
  try go_simp
  refine hK.out _ _ hSwa (fun hHeld => ?_)
  clear hK K hHeld
  try simp only [Act.put]
  try simp only [List.setIfInBounds_toArray]
  try simp only [List.set_cons_succ]
  try simp only [List.set_cons_zero]
  refine takeH (i := 7) (d := (some 38)) (v := ?_) rfl rfl (by kernel_rfl) (by kernel_rfl) (by kernel_rfl) (fun _ _ _ h => h) (Or.inl ⟨by kernel_rfl, ?_⟩) hSwa ?_
  rotate_left
  focus (intro w hSw; (try dsimp only at hSw); go_simp; first | done | with_reducible rfl)
  try simp only [Act.put]
  try simp only [List.setIfInBounds_toArray]
  try simp only [List.set_cons_succ]
  try simp only [List.set_cons_zero]
  refine takeH (i := 8) (d := (some 39)) (v := ?_) rfl rfl (by kernel_rfl) (by kernel_rfl) (by kernel_rfl) (fun _ _ _ h => h) (Or.inl ⟨by kernel_rfl, ?_⟩) hSwa ?_
  rotate_left
  focus (intro w hSw; (try dsimp only at hSw); go_simp; first | done | with_reducible rfl)
  try simp only [Act.put]
  try simp only [List.setIfInBounds_toArray]
  try simp only [List.set_cons_succ]
  try simp only [List.set_cons_zero]
  refine takeH (i := 9) (d := (some 40)) (v := ?_) rfl rfl (by kernel_rfl) (by kernel_rfl) (by kernel_rfl) (fun _ _ _ h => h) (Or.inl ⟨by kernel_rfl, ?_⟩) hSwa ?_
  rotate_left
  focus (intro w hSw; (try dsimp only at hSw); go_simp; first | done | with_reducible rfl)
  try simp only [Act.put]
  try simp only [List.setIfInBounds_toArray]
  try simp only [List.set_cons_succ]
  try simp only [List.set_cons_zero]
  refine takeH (i := 10) (d := (some 41)) (v := ?_) rfl rfl (by kernel_rfl) (by kernel_rfl) (by kernel_rfl) (fun _ _ _ h => h) (Or.inl ⟨by kernel_rfl, ?_⟩) hSwa ?_
  rotate_left
  focus (intro w hSw; (try dsimp only at hSw); go_simp; first | done | with_reducible rfl)
  try simp only [Act.put]
  try simp only [List.setIfInBounds_toArray]
  try simp only [List.set_cons_succ]
  try simp only [List.set_cons_zero]
  refine takeH (i := 11) (d := (some 42)) (v := ?_) rfl rfl (by kernel_rfl) (by kernel_rfl) (by kernel_rfl) (fun _ _ _ h => h) (Or.inl ⟨by kernel_rfl, ?_⟩) hSwa ?_
  rotate_left
  focus (intro w hSw; (try dsimp only at hSw); go_simp; first | done | with_reducible rfl)
  try simp only [Act.put]
  try simp only [List.setIfInBounds_toArray]
  try simp only [List.set_cons_succ]
  try simp only [List.set_cons_zero]
  refine wpAnyH_ready (rs := [12]) (by kernel_rfl) (by simp) ?_
  refine AllReadyH.cons (o := _) rfl (fun K hK => ?_) AllReadyH.nil
  go_simp
  go_at_call 22
  refine (HREQ.out wa bwa).mono ?_
  rintro e wb ⟨rfl, bwb'⟩; have bwb : Below w7.heap.size w7 wb := bwa.trans (bwb'.mono bwa.size); have hSwb := HS.out wb bwb
  try go_simp
  refine hK.out _ _ hSwb (fun hHeld => ?_)
  clear hK K hHeld
  try simp only [Act.put]
  try simp only [List.setIfInBounds_toArray]
  try simp only [List.set_cons_succ]
  try simp only [List.set_cons_zero]
  refine takeH (i := 13) (d := (some 44)) (v := ?_) rfl rfl (by kernel_rfl) (by kernel_rfl) (by kernel_rfl) (fun _ _ _ h => h) (Or.inl ⟨by kernel_rfl, ?_⟩) hSwb ?_
  rotate_left
  focus (intro w hSw; (try dsimp only at hSw); go_simp; first | done | with_reducible rfl)
  try simp only [Act.put]
  try simp only [List.setIfInBounds_toArray]
  try simp only [List.set_cons_succ]
  try simp only [List.set_cons_zero]
  refine takeH (i := 14) (d := (some 45)) (v := ?_) rfl rfl (by kernel_rfl) (by kernel_rfl) (by kernel_rfl) (fun _ _ _ h => h) (Or.inl ⟨by kernel_rfl, ?_⟩) hSwb ?_
  rotate_left
  focus (intro w hSw; (try dsimp only at hSw); go_simp; first | done | with_reducible rfl)
  try simp only [Act.put]
  try simp only [List.setIfInBounds_toArray]
  try simp only [List.set_cons_succ]
  try simp only [List.set_cons_zero]
  refine takeH (i := 15) (d := (some 46)) (v := ?_) rfl rfl (by kernel_rfl) (by kernel_rfl) (by kernel_rfl) (fun _ _ _ h => h) (Or.inl ⟨by kernel_rfl, ?_⟩) hSwb ?_
  rotate_left
  focus (intro w hSw; (try dsimp only at hSw); go_simp; first | done | with_reducible rfl)
  try simp only [Act.put]
  try simp only [List.setIfInBounds_toArray]
  try simp only [List.set_cons_succ]
  try simp only [List.set_cons_zero]
  refine takeH (i := 16) (d := (some 47)) (v := ?_) rfl rfl (by kernel_rfl) (by kernel_rfl) (by kernel_rfl) (fun _ _ _ h => h) (Or.inl ⟨by kernel_rfl, ?_⟩) hSwb ?_
  rotate_left
  focus (intro w hSw; (try dsimp only at hSw); go_simp; first | done | with_reducible rfl)
  try simp only [Act.put]
  try simp only [List.setIfInBounds_toArray]
  try simp only [List.set_cons_succ]
  try simp only [List.set_cons_zero]
  refine takeH (i := 18) (d := (some 49)) (v := ?_) rfl rfl (by kernel_rfl) (by kernel_rfl) (by kernel_rfl) (fun _ _ _ h => h) (Or.inl ⟨by kernel_rfl, ?_⟩) hSwb ?_
  rotate_left
  focus (intro w hSw; (try dsimp only at hSw); go_simp; first | done | with_reducible rfl)
  try simp only [Act.put]
  try simp only [List.setIfInBounds_toArray]
  try simp only [List.set_cons_succ]
  try simp only [List.set_cons_zero]
  refine wpAnyH_ready (rs := [17]) (by kernel_rfl) (by simp) ?_
  refine AllReadyH.cons (o := _) rfl (fun K hK => ?_) AllReadyH.nil
  go_simp
  go_at_call 25
  refine (HPI.out wb bwb).mono ?_
  rintro e wc ⟨u1, c1, rfl, hs1, bwc'⟩; have bwc : Below w7.heap.size w7 wc := bwb.trans (bwc'.mono bwb.size); have hSwc := HS.out wc bwc
  try go_simp
  refine hK.out _ _ hSwc (fun hHeld => ?_)
  clear hK K hHeld
  try simp only [Act.put]
  try simp only [List.setIfInBounds_toArray]
  try simp only [List.set_cons_succ]
  try simp only [List.set_cons_zero]
  refine wpAnyH_ready (rs := [19]) (by kernel_rfl) (by simp) ?_
  refine AllReadyH.cons (o := _) rfl (fun K hK => ?_) AllReadyH.nil
  go_simp
  go_at_call 28
  refine (HRI.out wc bwc).mono ?_
  rintro e wd ⟨u2, c2, rfl, hs2, bwd'⟩; have bwd : Below w7.heap.size w7 wd := bwc.trans (bwd'.mono bwc.size); have hSwd := HS.out wd bwd; replace hs1 := hs1.below bwd'
  try go_simp
  refine hK.out _ _ hSwd (fun hHeld => ?_)
  clear hK K hHeld
  try simp only [Act.put]
  try simp only [List.setIfInBounds_toArray]
  try simp only [List.set_cons_succ]
  try simp only [List.set_cons_zero]
  refine wpAnyH_ready (rs := [20]) (by kernel_rfl) (by simp) ?_
  refine AllReadyH.cons (o := _) rfl (fun K hK => ?_) AllReadyH.nil
  go_simp
  go_at_call 27
  refine (HSI.out u1 u2 c1 c2 wd hs1 hs2 bwd).mono ?_
  rintro e we ⟨rfl, bwe'⟩; have bwe : Below w7.heap.size w7 we := bwd.trans (bwe'.mono bwd.size); have hSwe := HS.out we bwe
  try go_simp
  refine hK.out _ _ hSwe (fun hHeld => ?_)
  clear hK K hHeld
  try simp only [Act.put]
  try simp only [List.setIfInBounds_toArray]
  try simp only [List.set_cons_succ]
  try simp only [List.set_cons_zero]
  refine takeH (i := 21) (d := (some 52)) (v := ?_) rfl rfl (by kernel_rfl) (by kernel_rfl) (by kernel_rfl) (fun _ _ _ h => h) (Or.inl ⟨by kernel_rfl, ?_⟩) hSwe ?_
  rotate_left
  focus (intro w hSw; (try dsimp only at hSw); go_simp; first | done | with_reducible rfl)
  try simp only [Act.put]
  try simp only [List.setIfInBounds_toArray]
  try simp only [List.set_cons_succ]
  try simp only [List.set_cons_zero]
  refine takeH (i := 22) (d := (some 53)) (v := ?_) rfl rfl (by kernel_rfl) (by kernel_rfl) (by kernel_rfl) (fun _ _ _ h => h) (Or.inl ⟨by kernel_rfl, ?_⟩) hSwe ?_
  rotate_left
  focus (intro w hSw; (try dsimp only at hSw); go_simp; first | done | with_reducible rfl)
  try simp only [Act.put]
  try simp only [List.setIfInBounds_toArray]
  try simp only [List.set_cons_succ]
  try simp only [List.set_cons_zero]
  refine takeH (i := 23) (d := (some 54)) (v := ?_) rfl rfl (by kernel_rfl) (by kernel_rfl) (by kernel_rfl) (fun _ _ _ h => h) (Or.inl ⟨by kernel_rfl, ?_⟩) hSwe ?_
  rotate_left
  focus (intro w hSw; (try dsimp only at hSw); go_simp; first | done | with_reducible rfl)
  try simp only [Act.put]
  try simp only [List.setIfInBounds_toArray]
  try simp only [List.set_cons_succ]
  try simp only [List.set_cons_zero]
  refine takeH (i := 24) (d := (some 55)) (v := ?_) rfl rfl (by kernel_rfl) (by kernel_rfl) (by kernel_rfl) (fun _ _ _ h => h) (Or.inl ⟨by kernel_rfl, ?_⟩) hSwe ?_
  rotate_left
  focus (intro w hSw; (try dsimp only at hSw); go_simp; first | done | with_reducible rfl)
  try simp only [Act.put]
  try simp only [List.setIfInBounds_toArray]
  try simp only [List.set_cons_succ]
  try simp only [List.set_cons_zero]
  refine takeH (i := 25) (d := (some 56)) (v := ?_) rfl rfl (by kernel_rfl) (by kernel_rfl) (by kernel_rfl) (fun _ _ _ h => h) (Or.inl ⟨by kernel_rfl, ?_⟩) hSwe ?_
  rotate_left
  focus (intro w hSw; (try dsimp only at hSw); go_simp; first | done | with_reducible rfl)
  try simp only [Act.put]
  try simp only [List.setIfInBounds_toArray]
  try simp only [List.set_cons_succ]
  try simp only [List.set_cons_zero]
  refine takeH (i := 26) (d := (some 57)) (v := ?_) rfl rfl (by kernel_rfl) (by kernel_rfl) (by kernel_rfl) (fun _ _ _ h => h) (Or.inl ⟨by kernel_rfl, ?_⟩) hSwe ?_
  rotate_left
  focus (intro w hSw; (try dsimp only at hSw); go_simp; first | done | with_reducible rfl)
  try simp only [Act.put]
  try simp only [List.setIfInBounds_toArray]
  try simp only [List.set_cons_succ]
  try simp only [List.set_cons_zero]
  refine takeH (i := 27) (d := (some 58)) (v := ?_) rfl rfl (by kernel_rfl) (by kernel_rfl) (by kernel_rfl) (fun _ _ _ h => h) (Or.inl ⟨by kernel_rfl, ?_⟩) hSwe ?_
  rotate_left
  focus (intro w hSw; (try dsimp only at hSw); go_simp; first | done | with_reducible rfl)
  try simp only [Act.put]
  try simp only [List.setIfInBounds_toArray]
  try simp only [List.set_cons_succ]
  try simp only [List.set_cons_zero]
  refine takeH (i := 28) (d := (some 59)) (v := ?_) rfl rfl (by kernel_rfl) (by kernel_rfl) (by kernel_rfl) (fun _ _ _ h => h) (Or.inl ⟨by kernel_rfl, ?_⟩) hSwe ?_
  rotate_left
  focus (intro w hSw; (try dsimp only at hSw); go_simp; first | done | with_reducible rfl)
  try simp only [Act.put]
  try simp only [List.setIfInBounds_toArray]
  try simp only [List.set_cons_succ]
  try simp only [List.set_cons_zero]
  refine takeH (i := 29) (d := (some 60)) (v := ?_) rfl rfl (by kernel_rfl) (by kernel_rfl) (by kernel_rfl) (fun _ _ _ h => h) (Or.inl ⟨by kernel_rfl, ?_⟩) hSwe ?_
  rotate_left
  focus (intro w hSw; (try dsimp only at hSw); go_simp; first | done | with_reducible rfl)
  try simp only [Act.put]
  try simp only [List.setIfInBounds_toArray]
  try simp only [List.set_cons_succ]
  try simp only [List.set_cons_zero]
  refine takeH (i := 30) (d := (some 61)) (v := ?_) rfl rfl (by kernel_rfl) (by kernel_rfl) (by kernel_rfl) (fun _ _ _ h => h) (Or.inl ⟨by kernel_rfl, ?_⟩) hSwe ?_
  rotate_left
  focus (intro w hSw; (try dsimp only at hSw); go_simp; first | done | with_reducible rfl)
  try simp only [Act.put]
  try simp only [List.setIfInBounds_toArray]
  try simp only [List.set_cons_succ]
  try simp only [List.set_cons_zero]
  refine wpAnyH_done (by kernel_rfl) ?_ _
  have HF := Lib.hid (HB7.out.trans (bwe.mono HB7.out.size))
  have HR8 := Lib.hid (HROW.out.cells.below bwe)
  have HZ8 := Lib.hid bwe.size
  clear hs1 hs2 bwa' bwa bwb' bwb bwc' bwc bwd' bwd bwe' bwe b7d hS0 hSwa hSwb hSwc hSwd hSwe
  go_wp2_with fail
  go_loopw [12] (fun g wr => ∃ i : Nat, i ≤ N ∧ g = .int .i64 (i : Int) ∧ Hid (Below we.heap.size we wr)) (fun g _ => N - (intOf g).toNat)
  case atStart => exact ⟨0, Nat.zero_le _, rfl, Below.refl _ _⟩
  case round =>
    obtain ⟨i, hi, rfl, HBR⟩ := hrel
    by_cases hlt : i < N
    · have hr := HR8.out
      rcases hr.below (HBR.out.mono HZ8.out) with h | ⟨b1, o1, h1, _, hc1⟩
      · exact absurd (congrArg List.length h) (by rw [seqI_len]; simp; omega)
      have hk1 := hc1 i (by rw [seqI_len]; omega)
      rw [seqI_get N f i hlt] at hk1
      have hk2 : wr.cell? ⟨b1, o1 + i, none⟩ = some (.int .i64 (f + (i : Int))) := by simpa using hk1
      have m2 : IntKind.i64.wrap (f + (i : Int)) = f + (i : Int) := by have := HCN.out; simp [IntKind.wrap, IntKind.signed, IntKind.bits]; omega
      subst h1
      clear hr hc1 hk1
      go_wp2
      have hcn : N ≤ 3125 := HCN.out
      have m3 : wrap64 ((i : Int) + 1) = ((i + 1 : Nat) : Int) := by rw [Go.IntWalk.wrap64_in _ (by omega)]; omega
      go_roundw
      case rel => exact ⟨i + 1, hlt, by rw [m3], HBR⟩
      case measure => rw [m3]; clear m3 m2 m1; simp only [intOf, Int.toNat_natCast]; exact Nat.sub_succ_lt_self N i hlt
    · have hin : i = N := by omega
      subst hin
      go_wp2_with fail
      refine (lives_any wr).mono ?_
      rintro e w9 ⟨rfl, b9⟩
      go_wp2
      go_ret
      exact ⟨rfl, HF.out.trans ((HBR.out.mono HF.out.size).trans (b9.mono (by have := HF.out.size; have := HBR.out.size; omega)))⟩

end Go.Proofs.Ytfecajeenmnoeaa
