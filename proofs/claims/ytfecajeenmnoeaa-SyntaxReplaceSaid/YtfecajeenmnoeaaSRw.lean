/- The walk of SyntaxReplace. It has no conditions. -/
import Derived.Test.YtfecajeenmnoeaaSRz
import Derived.Test.YtfecajeenmnoeaaSRo
import Derived.Test.YtfecajeenmnoeaaSLi
import Derived.Test.YtfecajeenmnoeaaInts
import Derived.Test.YtfecajeenmnoeaaSTy
import Derived.Test.YtfecajeenmnoeaaSOp
namespace Go.Proofs.Ytfecajeenmnoeaa
open Go.RowKit Go.Shelf
set_option linter.unusedVariables false

theorem slJ_toR {w w' : World} {a : Option Addr} {n : Nat} (h : SlJ w.heap.size w a n) (hb : Below w.heap.size w w') : SlJ w'.heap.size w' a n := by
  rcases h.below hb with h0 | ⟨b, off, ha, hlt, hc⟩
  · exact .inl h0
  · exact .inr ⟨b, off, ha, by have := hb.size; omega, hc⟩

set_option maxRecDepth 100000 in
set_option maxHeartbeats 16000000 in
theorem walkSRepl (a0 : Option Addr) (c0 : Nat) (ls : List Int) (a1 : Option Addr) (c1 : Nat) (ms : List Int) (a2 : Option Addr) (c2 : Nat) (ps : List Int) (b : Nd) (ba : Option Addr) (bn bc : Nat) (w : World) (hl : Sli .i64 w a0 c0 ls) (hwl : ∀ n ∈ ls, -9223372036854775808 ≤ n ∧ n ≤ 9223372036854775807) (hm : Sli .i64 w a1 c1 ms) (hwm : ∀ n ∈ ms, -9223372036854775808 ≤ n ∧ n ≤ 9223372036854775807) (hp : Sli .i64 w a2 c2 ps) (hn : IsNd w b ba bn bc) :
    Calls Try.prog 8 #[.slice a0 ls.length c0, .slice a1 ms.length c1, .slice a2 ps.length c2, .agg #[.int .i64 b.id, .int .i64 b.kind, .string b.text, .slice ba bn bc]] w fun e w' => e = .returned (.bool true) ∧ Below w.heap.size w w' := by
  obtain ⟨q, hq⟩ : ∃ q, w.heap.size = q := ⟨_, rfl⟩
  obtain ⟨w1, hw1⟩ : ∃ W, w.alloc (.cells #[.int .i64 b.id, .int .i64 b.kind, .string b.text, .slice ba bn bc] 25) = W := ⟨_, rfl⟩
  have b1 : Below w.heap.size w w1 := by rw [← hw1]; exact (Below.refl _ _).alloc (Nat.le_refl _) _
  have k1 : Blk w1 q 25 #[.int .i64 b.id, .int .i64 b.kind, .string b.text, .slice ba bn bc] := by rw [← hw1, ← hq]; exact Blk.new _ _ _
  have HTR := Lib.hid (Tree_any a0 ls.length c0 hl.le hl.mx w1 (slJ_toR (SlJ.of hl hwl) b1))
  have HTD : Hid (∀ W, Below w.heap.size w W → Calls Try.prog 13 #[.agg #[.int .i64 b.id, .int .i64 b.kind, .string b.text, .slice ba bn bc], .int .i64 3] W (TidyP 3 W)) := fun W hW => tidy_any _ 2 3 b ba bn bc W rfl (by omega) hn.1 (hn.2.on hW)
  have HMJ : Hid (∀ W, Below w.heap.size w W → SlJ W.heap.size W a1 ms.length) := fun W hW => slJ_toR (SlJ.of hm hwm) hW
  have hmle := hm.le
  have hmmx := hm.mx
  have HIN : Hid (∀ W, Below w.heap.size w W → Calls Try.prog 18 #[.slice a2 ps.length c2, .int .i64 4] W fun e w' => ∃ pa pc, e = .returned (.slice pa (ps.take 4).length pc) ∧ Sli .i64 w' pa pc (ps.take 4) ∧ Below W.heap.size W w') := fun W hW => (ints_any a2 c2 4 ps W (hp.below hW) (by omega)).mono fun e w' h => newSli_of_row h
  have hl4 : (ps.take 4).length ≤ 4 := by rw [List.length_take]; omega
  obtain ⟨p4, hp4⟩ : ∃ z, ps.take 4 = z := ⟨_, rfl⟩
  rw [hp4] at HIN hl4
  obtain ⟨L4, hL4⟩ : ∃ z, p4.length = z := ⟨_, rfl⟩
  rw [hL4] at HIN hl4
  obtain ⟨ln, hln⟩ : ∃ z, ls.length = z := ⟨_, rfl⟩
  obtain ⟨mn, hmn⟩ : ∃ z, ms.length = z := ⟨_, rfl⟩
  obtain ⟨pn, hpn⟩ : ∃ z, ps.length = z := ⟨_, rfl⟩
  obtain ⟨bi, hbi⟩ : ∃ x, b.id = x := ⟨_, rfl⟩
  obtain ⟨bk, hbk⟩ : ∃ x, b.kind = x := ⟨_, rfl⟩
  obtain ⟨bt, hbt⟩ : ∃ x, b.text = x := ⟨_, rfl⟩
  rw [hln] at HTR
  rw [hmn] at HMJ hmle
  rw [hpn] at HIN
  rw [hln, hmn, hpn]
  rw [hbi, hbk, hbt] at hw1 k1 HTD
  rw [hbi, hbk, hbt]
  have HW1 := Lib.hid hw1; have HQ := Lib.hid hq; have HB1 := Lib.hid b1; have HK1 := Lib.hid k1; have HL4 := Lib.hid hL4
  clear hl hwl hm hwm hp hn hq hw1 b1 k1 hln hmn hpn hbi hbk hbt hp4 hL4
  go_enter Try.func8, Try.ntmps8
  go_wp2_with fail
  rw [HW1.out, HQ.out]
  refine HTR.out.mono ?_
  rintro e w2 ⟨t, ta, tn, tc, rfl, hkv, hsm, _, b2⟩
  obtain ⟨w3, hw3⟩ : ∃ W, w2.alloc (.cells (ndc t ta tn tc) 25) = W := ⟨_, rfl⟩
  have b23 : Below w2.heap.size w2 w3 := by rw [← hw3]; exact (Below.refl _ _).alloc (Nat.le_refl _) _
  have k3 : Blk w3 w2.heap.size 25 (ndc t ta tn tc) := by rw [← hw3]; exact Blk.new _ _ _
  have hkv3 := hkv.on b23
  have hz12 := b2.size
  have hz01 := HB1.out.size
  have bw3 : Below w.heap.size w w3 := (HB1.out.trans (b2.mono hz01)).trans (b23.mono (by omega))
  have kq3 := (HK1.out.same (b2.block q HK1.out.lt)).same (b23.block q (by have := HK1.out.lt; omega))
  have e0 := kq3.cell 0
  have e1 := kq3.cell 1
  have e2 := kq3.cell 2
  have e3 := kq3.cell 3
  simp only [List.getElem?_toArray, List.getElem?_cons_zero, List.getElem?_cons_succ] at e0 e1 e2 e3
  rw [← hw3] at e0 e1 e2 e3
  have HTD3 := Lib.hid (HTD.out w3 bw3)
  have hcnt := hsm.cnt
  have hpw := hsm.pw
  have hcnt' : t.cnt ≤ 3125 := hcnt
  have hct : t.cnt ≤ 50000 := by omega
  have hptt : t.pw ≤ 1000000 := by omega
  obtain ⟨qn, hqn⟩ : ∃ q, w2.heap.size = q := ⟨_, rfl⟩
  rw [hqn] at k3
  have HCT := Lib.hid (And.intro hct hptt)
  have HKT := Lib.hid hkv3; have HK3 := Lib.hid k3; have HBW3 := Lib.hid bw3; have HQN := Lib.hid hqn
  obtain ⟨ti, hti⟩ : ∃ z, t.id = z := ⟨_, rfl⟩
  obtain ⟨tk, htk⟩ : ∃ z, t.kind = z := ⟨_, rfl⟩
  obtain ⟨tt, htt⟩ : ∃ z, t.text = z := ⟨_, rfl⟩
  unfold ndc at hw3 e0 e1 e2 e3 HK3
  rw [hti, htk, htt] at hw3 e0 e1 e2 e3 HK3
  have HTN := Lib.hid (And.intro hti (And.intro htk htt))
  unfold ndv
  rw [hti, htk, htt]
  have HW3 := Lib.hid hw3
  clear hkv hsm b2 b23 k3 hkv3 hz12 hz01 bw3 kq3 hcnt hpw hcnt' hct hptt hqn hti htk htt hw3
  go_wp2_with fail
  rw [HW3.out, HQN.out]
  refine HTD3.out.mono ?_
  rintro e w4 ⟨x, xa, xn, xc, rfl, hkv4, hsm4, b4⟩
  obtain ⟨w5, hw5⟩ : ∃ W, w4.alloc (.cells (ndc x xa xn xc) 25) = W := ⟨_, rfl⟩
  have b45 : Below w4.heap.size w4 w5 := by rw [← hw5]; exact (Below.refl _ _).alloc (Nat.le_refl _) _
  have k5 : Blk w5 w4.heap.size 25 (ndc x xa xn xc) := by rw [← hw5]; exact Blk.new _ _ _
  have hkv5 := hkv4.on b45
  have hz34 := b4.size
  have b35 : Below w3.heap.size w3 w5 := b4.trans (b45.mono hz34)
  have kn5 := HK3.out.same (b35.block qn HK3.out.lt)
  have d0 := kn5.cell 0
  have d1 := kn5.cell 1
  have d2 := kn5.cell 2
  have d3 := kn5.cell 3
  simp only [List.getElem?_toArray, List.getElem?_cons_zero, List.getElem?_cons_succ] at d0 d1 d2 d3
  have hcnt := hsm4.cnt
  have hpw := hsm4.pw
  have hcnt' : x.cnt ≤ 125 := hcnt
  have hcx : x.cnt ≤ 50000 := by omega
  have hpx : x.pw ≤ 1000000 := by omega
  have HCX := Lib.hid (And.intro hcx hpx)
  have bw5 : Below w.heap.size w w5 := HBW3.out.trans (b35.mono HBW3.out.size)
  have HRO := Lib.hid (route_any t ta tn tc a1 mn c1 w5 _ (HKT.out.on b35) (HMJ.out w5 bw5) hmle hmmx)
  obtain ⟨qx, hqx⟩ : ∃ q, w4.heap.size = q := ⟨_, rfl⟩
  rw [hqx] at k5
  have HKT5 := Lib.hid (HKT.out.on b35); have HKX := Lib.hid hkv5; have HK5 := Lib.hid k5; have HKN5 := Lib.hid kn5; have HBW5 := Lib.hid bw5; have HQX := Lib.hid hqx
  obtain ⟨xi, hxi⟩ : ∃ z, x.id = z := ⟨_, rfl⟩
  obtain ⟨xk, hxk⟩ : ∃ z, x.kind = z := ⟨_, rfl⟩
  obtain ⟨xt, hxt⟩ : ∃ z, x.text = z := ⟨_, rfl⟩
  unfold ndc at hw5 HK5
  unfold ndv at HRO
  rw [HTN.out.1, HTN.out.2.1, HTN.out.2.2] at HRO
  rw [hxi, hxk, hxt] at hw5 HK5
  have HXN := Lib.hid (And.intro hxi (And.intro hxk hxt))
  rw [← hw5] at d0 d1 d2 d3
  unfold ndv
  rw [hxi, hxk, hxt]
  have HW5 := Lib.hid hw5
  clear hkv4 hsm4 b4 b45 k5 hkv5 hz34 b35 kn5 hcnt hpw hcnt' hcx hpx bw5 hqx hxi hxk hxt hw5 e0 e1 e2 e3
  go_wp2_with fail
  rw [HW5.out, HQX.out]
  refine HRO.out.mono ?_
  rintro e w6 ⟨zs0, hz3, hrow⟩
  obtain ⟨pa0, pc0, rfl, hs6, b6⟩ := newSli_of_row hrow
  have bw6 : Below w.heap.size w w6 := HBW5.out.trans (b6.mono HBW5.out.size)
  have HIN6 := Lib.hid (HIN.out w6 bw6)
  obtain ⟨L0, hL0⟩ : ∃ z, zs0.length = z := ⟨_, rfl⟩
  rw [hL0] at hz3 ⊢
  have HS6 := Lib.hid hs6; have HB6 := Lib.hid b6; have HBW6 := Lib.hid bw6; have HL0 := Lib.hid hL0
  clear hrow hs6 b6 bw6 hL0 d0 d1 d2 d3
  go_wp2_with fail
  refine HIN6.out.mono ?_
  rintro e w7 ⟨pa1, pc1, rfl, hs7, b7⟩
  obtain ⟨w8, hw8⟩ : ∃ W, w7.alloc (.cells #[.slice pa0 L0 pc0, .slice pa1 L4 pc1] 22) = W := ⟨_, rfl⟩
  have b78 : Below w7.heap.size w7 w8 := by rw [← hw8]; exact (Below.refl _ _).alloc (Nat.le_refl _) _
  have k8 : Blk w8 w7.heap.size 22 #[.slice pa0 L0 pc0, .slice pa1 L4 pc1] := by rw [← hw8]; exact Blk.new _ _ _
  have hz6 := HB6.out.size
  have hz7 := b7.size
  have b58 : Below w5.heap.size w5 w8 := (HB6.out.trans (b7.mono hz6)).trans (b78.mono (by omega))
  have bw8 : Below w.heap.size w w8 := HBW5.out.trans (b58.mono HBW5.out.size)
  have kn8 := HKN5.out.same (b58.block qn HKN5.out.lt)
  have kx8 := HK5.out.same (b58.block qx HK5.out.lt)
  have hkt8 := HKT5.out.on b58
  have hkx8 := HKX.out.on b58
  have hsA : Sli .i64 w8 pa0 pc0 zs0 := (HS6.out.below b7).below b78
  have hsB : Sli .i64 w8 pa1 pc1 p4 := hs7.below b78
  obtain ⟨qp, hqp⟩ : ∃ q, w7.heap.size = q := ⟨_, rfl⟩
  rw [hqp] at k8
  have HRD : Hid (∀ i, i < 2 → ∃ (pa : Option Addr) (L pc : Nat) (zs : List Int), (∀ W, Below w8.heap.size w8 W → W.cell? ⟨qp, i, none⟩ = some (.slice pa L pc)) ∧ (∀ W, Below w8.heap.size w8 W → Sli .i64 W pa pc zs) ∧ zs.length = L ∧ L ≤ 1000) := fun i hi => by
    match i, hi with
    | 0, _ => exact ⟨pa0, L0, pc0, zs0, fun W hW => (k8.same (hW.block qp k8.lt)).cell 0, fun W hW => hsA.below hW, HL0.out, by omega⟩
    | 1, _ => exact ⟨pa1, L4, pc1, p4, fun W hW => (k8.same (hW.block qp k8.lt)).cell 1, fun W hW => hsB.below hW, HL4.out, by omega⟩
  have HNX : Hid (∀ V, Below w8.heap.size w8 V → V.cell? ⟨qn, 0, none⟩ = some (.int .i64 ti) ∧ V.cell? ⟨qn, 1, none⟩ = some (.int .i64 tk) ∧ V.cell? ⟨qn, 2, none⟩ = some (.string tt) ∧ V.cell? ⟨qn, 3, none⟩ = some (.slice ta tn tc) ∧ V.cell? ⟨qx, 0, none⟩ = some (.int .i64 xi) ∧ V.cell? ⟨qx, 1, none⟩ = some (.int .i64 xk) ∧ V.cell? ⟨qx, 2, none⟩ = some (.string xt) ∧ V.cell? ⟨qx, 3, none⟩ = some (.slice xa xn xc)) := fun V hV => by
    have h1 := kn8.same (hV.block qn kn8.lt)
    have h2 := kx8.same (hV.block qx kx8.lt)
    exact ⟨h1.cell 0, h1.cell 1, h1.cell 2, h1.cell 3, h2.cell 0, h2.cell 1, h2.cell 2, h2.cell 3⟩
  have HPK0 := fun (zs : List Int) (hz : zs.length ≤ 1000) => repl_pack t x ta xa tn tc xn xc zs w8 _ _ hkt8 hkx8 HCT.out.1 HCX.out.1 HCT.out.2 HCX.out.2 hz
  unfold ndv at HPK0
  rw [HTN.out.1, HTN.out.2.1, HTN.out.2.2, HXN.out.1, HXN.out.2.1, HXN.out.2.2] at HPK0
  have HPK := Lib.hid HPK0
  have HBW8 := Lib.hid bw8; have HW8 := Lib.hid hw8; have HQP := Lib.hid hqp
  clear hs7 b7 b78 k8 hz6 hz7 b58 bw8 kn8 kx8 hkt8 hkx8 hsA hsB hqp hw8 HPK0
  go_wp2_with fail
  rw [HW8.out, HQP.out]
  go_loopw [12] (fun g wr => ∃ i : Nat, g = .int .i64 (i : Int) ∧ i ≤ 2 ∧ Hid (Below w8.heap.size w8 wr)) (fun g _ => 2 - (intOf g).toNat)
  case atStart => exact ⟨0, rfl, by omega, Lib.hid (Below.refl _ _)⟩
  case round =>
    obtain ⟨i, rfl, hi, HR⟩ := hrel
    have m1 : IntKind.i64.wrap ((i : Int) + 1) = (i : Int) + 1 := by simp [IntKind.wrap, IntKind.signed, IntKind.bits]; omega
    by_cases hin : i < 2
    · have hin2 : (i : Int) < 2 := by omega
      obtain ⟨pa, L, pc, zs, hcell, hsli, hL, hL5⟩ := HRD.out i hin
      obtain ⟨yi, yk, yt, ny, ky, ok, ki, kk, kt, nk, kks, o, th, hpk⟩ := HPK.out zs (by omega)
      rw [hL] at hpk
      have HSX : Hid (∀ V, Below w8.heap.size w8 V → V.cell? ⟨qn, 0, none⟩ = some (.int .i64 ti) ∧ V.cell? ⟨qn, 1, none⟩ = some (.int .i64 tk) ∧ V.cell? ⟨qn, 2, none⟩ = some (.string tt) ∧ V.cell? ⟨qn, 3, none⟩ = some (.slice ta tn tc) ∧ V.cell? ⟨qx, 0, none⟩ = some (.int .i64 xi) ∧ V.cell? ⟨qx, 1, none⟩ = some (.int .i64 xk) ∧ V.cell? ⟨qx, 2, none⟩ = some (.string xt) ∧ V.cell? ⟨qx, 3, none⟩ = some (.slice xa xn xc) ∧ V.cell? ⟨qp, i, none⟩ = some (.slice pa L pc)) := fun V hV => by
        obtain ⟨h0, h1, h2, h3, h4, h5, h6, h7⟩ := HNX.out V hV
        exact ⟨h0, h1, h2, h3, h4, h5, h6, h7, hcell V hV⟩
      have HPR : Hid (∀ W, Below w8.heap.size w8 W → Calls Try.prog 29 #[.agg #[.int .i64 ti, .int .i64 tk, .string tt, .slice ta tn tc], .slice pa L pc, .agg #[.int .i64 xi, .int .i64 xk, .string xt, .slice xa xn xc]] W fun e w' => ∃ u c, e = .returned (.tuple #[.agg #[.int .i64 yi, .int .i64 yk, .string yt, .slice u ny c], .bool ok]) ∧ KV (fun j => j < w8.heap.size ∨ W.heap.size ≤ j) w' u ny c ky ∧ Below W.heap.size W w') := fun W hW => (hpk.prog W pa pc hW (hsli W hW)).mono (by rintro e w' ⟨u, c, h1, h2, h3⟩; exact ⟨u, c, by simpa using h1, h2, h3⟩)
      have HRF : Hid (∀ W, Below w8.heap.size w8 W → Calls Try.prog 19 #[.agg #[.int .i64 ti, .int .i64 tk, .string tt, .slice ta tn tc], .slice pa L pc, .agg #[.int .i64 xi, .int .i64 xk, .string xt, .slice xa xn xc]] W fun e w' => ∃ u c, e = .returned (.tuple #[.agg #[.int .i64 yi, .int .i64 yk, .string yt, .slice u ny c], .bool ok]) ∧ KV (fun j => j < w8.heap.size ∨ W.heap.size ≤ j) w' u ny c ky ∧ Below W.heap.size W w') := fun W hW => (hpk.ref W pa pc hW (hsli W hW)).mono (by rintro e w' ⟨u, c, h1, h2, h3⟩; exact ⟨u, c, by simpa using h1, h2, h3⟩)
      have HSM : Hid (∀ (W : World) (u u' : Option Addr) (c c' : Nat), KV (fun _ => True) W u ny c ky → KV (fun _ => True) W u' ny c' ky → Calls Try.prog 26 #[.agg #[.int .i64 yi, .int .i64 yk, .string yt, .slice u ny c], .agg #[.int .i64 yi, .int .i64 yk, .string yt, .slice u' ny c']] W fun e w' => e = .returned (.bool true) ∧ Below W.heap.size W w') := hpk.same
      have HGT : Hid (∀ (W : World) (u : Option Addr) (c : Nat), Below w8.heap.size w8 W → KV (fun _ => True) W u ny c ky → Calls Try.prog 30 #[.agg #[.int .i64 yi, .int .i64 yk, .string yt, .slice u ny c], .slice pa L pc] W fun e w' => ∃ u c, e = .returned (.tuple #[.agg #[.int .i64 ki, .int .i64 kk, .string kt, .slice u nk c], .int .i64 (o : Int), .bool th]) ∧ KV (fun j => j < w8.heap.size ∨ W.heap.size ≤ j) w' u nk c kks ∧ Below W.heap.size W w') := fun W u c hW hk => (hpk.get W u c pa pc hk (hsli W hW)).mono (by rintro e w' ⟨u, c, h1, h2, h3⟩; exact ⟨u, c, by simpa using h1, h2, h3⟩)
      have HPT : Hid (ok = true → th = true ∧ ∀ (W : World) (u : Option Addr) (c : Nat), Below w8.heap.size w8 W → KV (fun _ => True) W u nk c kks → Calls Try.prog 26 #[.agg #[.int .i64 ki, .int .i64 kk, .string kt, .slice u nk c], .agg #[.int .i64 xi, .int .i64 xk, .string xt, .slice xa xn xc]] W fun e w' => e = .returned (.bool true) ∧ Below W.heap.size W w') := hpk.put
      have HCE := Lib.hid hcell
      clear hcell hsli hL hpk
      go_wp2_with fail
      refine wp_region_held (S := (fun V : World => V.cell? ⟨qn, 0, none⟩ = some (.int .i64 ti) ∧ V.cell? ⟨qn, 1, none⟩ = some (.int .i64 tk) ∧ V.cell? ⟨qn, 2, none⟩ = some (.string tt) ∧ V.cell? ⟨qn, 3, none⟩ = some (.slice ta tn tc) ∧ V.cell? ⟨qx, 0, none⟩ = some (.int .i64 xi) ∧ V.cell? ⟨qx, 1, none⟩ = some (.int .i64 xk) ∧ V.cell? ⟨qx, 2, none⟩ = some (.string xt) ∧ V.cell? ⟨qx, 3, none⟩ = some (.slice xa xn xc) ∧ V.cell? ⟨qp, i, none⟩ = some (.slice pa L pc))) (by kernel_rfl) ?_
      change wpAnyH _ _ _ _ _ _ _ _ (World.drew _)
      have hS0 := HSX.out wr.drew HR.out.drew
      refine takeH (i := 0) (d := (some 35)) (v := ?_) rfl rfl (by kernel_rfl) (by kernel_rfl) (by kernel_rfl) (fun _ _ _ h => h) (Or.inl ⟨by kernel_rfl, ?_⟩) hS0 ?_
      rotate_left
      focus (intro w hSw; (try dsimp only at hSw); go_simp; first | done | with_reducible rfl)
      try simp only [Act.put]
      try simp only [List.setIfInBounds_toArray]
      try simp only [List.set_cons_succ]
      try simp only [List.set_cons_zero]
      refine takeH (i := 1) (d := (some 36)) (v := ?_) rfl rfl (by kernel_rfl) (by kernel_rfl) (by kernel_rfl) (fun _ _ _ h => h) (Or.inl ⟨by kernel_rfl, ?_⟩) hS0 ?_
      rotate_left
      focus (intro w hSw; (try dsimp only at hSw); go_simp; first | done | with_reducible rfl)
      try simp only [Act.put]
      try simp only [List.setIfInBounds_toArray]
      try simp only [List.set_cons_succ]
      try simp only [List.set_cons_zero]
      refine takeH (i := 2) (d := (some 37)) (v := ?_) rfl rfl (by kernel_rfl) (by kernel_rfl) (by kernel_rfl) (fun _ _ _ h => h) (Or.inl ⟨by kernel_rfl, ?_⟩) hS0 ?_
      rotate_left
      focus (intro w hSw; (try dsimp only at hSw); go_simp; first | done | with_reducible rfl)
      try simp only [Act.put]
      try simp only [List.setIfInBounds_toArray]
      try simp only [List.set_cons_succ]
      try simp only [List.set_cons_zero]
      refine takeH (i := 3) (d := (some 38)) (v := ?_) rfl rfl (by kernel_rfl) (by kernel_rfl) (by kernel_rfl) (fun _ _ _ h => h) (Or.inl ⟨by kernel_rfl, ?_⟩) hS0 ?_
      rotate_left
      focus (intro w hSw; (try dsimp only at hSw); go_simp; first | done | with_reducible rfl)
      try simp only [Act.put]
      try simp only [List.setIfInBounds_toArray]
      try simp only [List.set_cons_succ]
      try simp only [List.set_cons_zero]
      refine takeH (i := 4) (d := (some 39)) (v := ?_) rfl rfl (by kernel_rfl) (by kernel_rfl) (by kernel_rfl) (fun _ _ _ h => h) (Or.inl ⟨by kernel_rfl, ?_⟩) hS0 ?_
      rotate_left
      focus (intro w hSw; (try dsimp only at hSw); go_simp; first | done | with_reducible rfl)
      try simp only [Act.put]
      try simp only [List.setIfInBounds_toArray]
      try simp only [List.set_cons_succ]
      try simp only [List.set_cons_zero]
      refine takeH (i := 5) (d := (some 40)) (v := ?_) rfl rfl (by kernel_rfl) (by kernel_rfl) (by kernel_rfl) (fun _ _ _ h => h) (Or.inl ⟨by kernel_rfl, ?_⟩) hS0 ?_
      rotate_left
      focus (intro w hSw; (try dsimp only at hSw); go_simp; first | done | with_reducible rfl)
      try simp only [Act.put]
      try simp only [List.setIfInBounds_toArray]
      try simp only [List.set_cons_succ]
      try simp only [List.set_cons_zero]
      refine wpAnyH_ready (rs := [6, 10]) (by kernel_rfl) (by simp) ?_
      refine AllReadyH.cons (o := _) rfl (fun K' hK => ?_) (AllReadyH.cons (o := _) rfl (fun K' hK => ?_) AllReadyH.nil)
      focus
        go_simp
        go_at_call 29
        refine (HPR.out wr.drew HR.out.drew).mono ?_
        rintro e w6 ⟨ua, ca, rfl, hky, b6⟩
        have b26 : Below w8.heap.size w8 w6 := HR.out.drew.trans (b6.mono HR.out.drew.size)
        have hS6 := HSX.out w6 b26
        try go_simp
        refine hK.out _ _ hS6 (fun hHeld => ?_)
        clear hK K' hHeld
        try simp only [Act.put]
        try simp only [List.setIfInBounds_toArray]
        try simp only [List.set_cons_succ]
        try simp only [List.set_cons_zero]
        refine takeH (i := 7) (d := (some 34)) (v := ?_) rfl rfl (by kernel_rfl) (by kernel_rfl) (by kernel_rfl) (fun _ _ _ h => h) (Or.inl ⟨by kernel_rfl, ?_⟩) hS6 ?_
        rotate_left
        focus (intro w hSw; (try dsimp only at hSw); go_simp; first | done | with_reducible rfl)
        try simp only [Act.put]
        try simp only [List.setIfInBounds_toArray]
        try simp only [List.set_cons_succ]
        try simp only [List.set_cons_zero]
        refine takeH (i := 8) (d := (some 42)) (v := ?_) rfl rfl (by kernel_rfl) (by kernel_rfl) (by kernel_rfl) (fun _ _ _ h => h) (Or.inl ⟨by kernel_rfl, ?_⟩) hS6 ?_
        rotate_left
        focus (intro w hSw; (try dsimp only at hSw); go_simp; first | done | with_reducible rfl)
        try simp only [Act.put]
        try simp only [List.setIfInBounds_toArray]
        try simp only [List.set_cons_succ]
        try simp only [List.set_cons_zero]
        refine takeH (i := 9) (d := (some 43)) (v := ?_) rfl rfl (by kernel_rfl) (by kernel_rfl) (by kernel_rfl) (fun _ _ _ h => h) (Or.inl ⟨by kernel_rfl, ?_⟩) hS6 ?_
        rotate_left
        focus (intro w hSw; (try dsimp only at hSw); go_simp; first | done | with_reducible rfl)
        try simp only [Act.put]
        try simp only [List.setIfInBounds_toArray]
        try simp only [List.set_cons_succ]
        try simp only [List.set_cons_zero]
        refine wpAnyH_ready (rs := [10]) (by kernel_rfl) (by simp) ?_
        refine AllReadyH.cons (o := _) rfl (fun K' hK => ?_) AllReadyH.nil
        go_simp
        have b27 : Below w8.heap.size w8 (w6.alloc (.cells #[.int .i64 0, .int .i64 0, .string ⟨#[]⟩, .slice none 0 0] 25)) := b26.alloc b26.size _
        have hS7 := HSX.out _ b27
        refine hK.out _ _ hS7 (fun hHeld => ?_)
        clear hK K' hHeld
        try simp only [Act.put]
        try simp only [List.setIfInBounds_toArray]
        try simp only [List.set_cons_succ]
        try simp only [List.set_cons_zero]
        refine wpAnyH_ready (rs := [11]) (by kernel_rfl) (by simp) ?_
        refine AllReadyH.cons (o := _) rfl (fun K' hK => ?_) AllReadyH.nil
        go_simp
        obtain ⟨Wa, hW8⟩ : ∃ W, w6.alloc (.cells #[.int .i64 yi, .int .i64 yk, .string yt, .slice ua ny ca] 25) = W := ⟨_, rfl⟩
        have HBA : Hid (Below w8.heap.size w8 Wa) := by show Below _ _ _; rw [← hW8]; exact b26.alloc b26.size _
        have HNA : Hid (Below wr.heap.size wr Wa) := by show Below _ _ _; rw [← hW8]; exact ((Below.refl _ wr).drew.trans b6).alloc b6.size _
        rw [hW8]
        have HRA : Hid (Blk Wa w6.heap.size 25 #[.int .i64 yi, .int .i64 yk, .string yt, .slice ua ny ca]) := by show Blk _ _ _ _; rw [← hW8]; exact Blk.new _ _ _
        have HKA : Hid (KV (fun _ => True) Wa ua ny ca ky) := by
          show KV _ _ _ _ _ _
          rw [← hW8]
          exact hky.keep (by simp) (fun j _ hj => Below.heap_alloc _ _ j hj) (fun _ _ _ => trivial)
        have hS8 := HSX.out Wa HBA.out
        refine hK.out _ _ hS8 (fun hHeld => ?_)
        clear hK K' hHeld
        try simp only [Act.put]
        try simp only [List.setIfInBounds_toArray]
        try simp only [List.set_cons_succ]
        try simp only [List.set_cons_zero]
        refine takeH (i := 12) (d := (some 14)) (v := ?_) rfl rfl (by kernel_rfl) (by kernel_rfl) (by kernel_rfl) (fun _ _ _ h => h) (Or.inl ⟨by kernel_rfl, ?_⟩) hS8 ?_
        rotate_left
        focus (intro w hSw; (try dsimp only at hSw); go_simp; first | done | with_reducible rfl)
        try simp only [Act.put]
        try simp only [List.setIfInBounds_toArray]
        try simp only [List.set_cons_succ]
        try simp only [List.set_cons_zero]
        refine wpAnyH_done (by kernel_rfl) ?_ _
        obtain ⟨ra, hr8⟩ : ∃ r, w6.heap.size = r := ⟨_, rfl⟩
        rw [hr8] at HRA ⊢
        clear b6 b26 b27 hS0 hS6 hS7 hS8 hky hW8 hr8
      rotate_left
      focus
        go_simp
        have b25 : Below w8.heap.size w8 (wr.drew.alloc (.cells #[.int .i64 0, .int .i64 0, .string ⟨#[]⟩, .slice none 0 0] 25)) := HR.out.drew.alloc HR.out.drew.size _
        have hS5 := HSX.out _ b25
        refine hK.out _ _ hS5 (fun hHeld => ?_)
        clear hK K' hHeld
        try simp only [Act.put]
        try simp only [List.setIfInBounds_toArray]
        try simp only [List.set_cons_succ]
        try simp only [List.set_cons_zero]
        refine wpAnyH_ready (rs := [6]) (by kernel_rfl) (by simp) ?_
        refine AllReadyH.cons (o := _) rfl (fun K' hK => ?_) AllReadyH.nil
        go_simp
        go_at_call 29
        refine (HPR.out _ b25).mono ?_
        rintro e w6 ⟨ua, ca, rfl, hky, b6⟩
        have b26 : Below w8.heap.size w8 w6 := b25.trans (b6.mono b25.size)
        have hS6 := HSX.out w6 b26
        have kr : Blk w6 wr.heap.size 25 #[.int .i64 0, .int .i64 0, .string ⟨#[]⟩, .slice none 0 0] := (Blk.new wr.drew 25 #[.int .i64 0, .int .i64 0, .string ⟨#[]⟩, .slice none 0 0]).same (b6.block wr.heap.size (by simp))
        try go_simp
        refine hK.out _ _ hS6 (fun hHeld => ?_)
        clear hK K' hHeld
        try simp only [Act.put]
        try simp only [List.setIfInBounds_toArray]
        try simp only [List.set_cons_succ]
        try simp only [List.set_cons_zero]
        refine takeH (i := 7) (d := (some 34)) (v := ?_) rfl rfl (by kernel_rfl) (by kernel_rfl) (by kernel_rfl) (fun _ _ _ h => h) (Or.inl ⟨by kernel_rfl, ?_⟩) hS6 ?_
        rotate_left
        focus (intro w hSw; (try dsimp only at hSw); go_simp; first | done | with_reducible rfl)
        try simp only [Act.put]
        try simp only [List.setIfInBounds_toArray]
        try simp only [List.set_cons_succ]
        try simp only [List.set_cons_zero]
        refine takeH (i := 8) (d := (some 42)) (v := ?_) rfl rfl (by kernel_rfl) (by kernel_rfl) (by kernel_rfl) (fun _ _ _ h => h) (Or.inl ⟨by kernel_rfl, ?_⟩) hS6 ?_
        rotate_left
        focus (intro w hSw; (try dsimp only at hSw); go_simp; first | done | with_reducible rfl)
        try simp only [Act.put]
        try simp only [List.setIfInBounds_toArray]
        try simp only [List.set_cons_succ]
        try simp only [List.set_cons_zero]
        refine takeH (i := 9) (d := (some 43)) (v := ?_) rfl rfl (by kernel_rfl) (by kernel_rfl) (by kernel_rfl) (fun _ _ _ h => h) (Or.inl ⟨by kernel_rfl, ?_⟩) hS6 ?_
        rotate_left
        focus (intro w hSw; (try dsimp only at hSw); go_simp; first | done | with_reducible rfl)
        try simp only [Act.put]
        try simp only [List.setIfInBounds_toArray]
        try simp only [List.set_cons_succ]
        try simp only [List.set_cons_zero]
        refine wpAnyH_ready (rs := [11]) (by kernel_rfl) (by simp) ?_
        refine AllReadyH.cons (o := _) rfl (fun K' hK => ?_) AllReadyH.nil
        have r0 := kr.cell 0
        have r1 := kr.cell 1
        have r2 := kr.cell 2
        have r3 := kr.cell 3
        have s0 := kr.frozen 0
        have s1 := kr.frozen 1
        have s2 := kr.frozen 2
        have s3 := kr.frozen 3
        simp only [List.getElem?_toArray, List.getElem?_cons_zero, List.getElem?_cons_succ] at r0 r1 r2 r3
        go_simp
        obtain ⟨Wa, hW8⟩ : ∃ W, ((((w6.setCell ⟨wr.heap.size, 0, none⟩ (.int .i64 yi)).setCell ⟨wr.heap.size, 1, none⟩ (.int .i64 yk)).setCell ⟨wr.heap.size, 2, none⟩ (.string yt)).setCell ⟨wr.heap.size, 3, none⟩ (.slice ua ny ca)) = W := ⟨_, rfl⟩
        have HBA : Hid (Below w8.heap.size w8 Wa) := by show Below _ _ _; rw [← hW8]; exact ((((b26.setCell (p := ⟨wr.heap.size, 0, none⟩) (HR.out.size) _).setCell (p := ⟨wr.heap.size, 1, none⟩) (HR.out.size) _).setCell (p := ⟨wr.heap.size, 2, none⟩) (HR.out.size) _).setCell (p := ⟨wr.heap.size, 3, none⟩) (HR.out.size) _)
        have HNA : Hid (Below wr.heap.size wr Wa) := by
          show Below _ _ _
          rw [← hW8]
          have hq : Below wr.heap.size wr w6 := ((Below.refl _ wr).drew.alloc (Nat.le_refl _) _).trans (b6.mono (by simp))
          exact ((((hq.setCell (p := ⟨wr.heap.size, 0, none⟩) (Nat.le_refl _) _).setCell (p := ⟨wr.heap.size, 1, none⟩) (Nat.le_refl _) _).setCell (p := ⟨wr.heap.size, 2, none⟩) (Nat.le_refl _) _).setCell (p := ⟨wr.heap.size, 3, none⟩) (Nat.le_refl _) _)
        rw [hW8]
        have HRA : Hid (Blk Wa wr.heap.size 25 #[.int .i64 yi, .int .i64 yk, .string yt, .slice ua ny ca]) := by show Blk _ _ _ _; rw [← hW8]; simpa using (((kr.set 0 (.int .i64 yi)).set 1 (.int .i64 yk)).set 2 (.string yt)).set 3 (.slice ua ny ca)
        have HKA : Hid (KV (fun _ => True) Wa ua ny ca ky) := by
          show KV _ _ _ _ _ _
          obtain ⟨hbb, hss⟩ := set4 w6 wr.heap.size 0 (.int .i64 yi) (.int .i64 yk) (.string yt) (.slice ua ny ca)
          simp only [Nat.zero_add] at hbb hss
          have hsz : (wr.drew.alloc (.cells #[.int .i64 0, .int .i64 0, .string ⟨#[]⟩, .slice none 0 0] 25)).heap.size = wr.heap.size + 1 := by rw [World.size_alloc]; rfl
          have hz0 := HR.out.size
          rw [hsz] at hky
          rw [← hW8]
          exact hky.keep (by rw [hss]; exact Nat.le_refl _) (fun j hj _ => hbb j (by rcases hj with h | h <;> omega)) (fun _ _ _ => trivial)
        have hS8 := HSX.out Wa HBA.out
        refine hK.out _ _ hS8 (fun hHeld => ?_)
        clear hK K' hHeld
        try simp only [Act.put]
        try simp only [List.setIfInBounds_toArray]
        try simp only [List.set_cons_succ]
        try simp only [List.set_cons_zero]
        refine takeH (i := 12) (d := (some 14)) (v := ?_) rfl rfl (by kernel_rfl) (by kernel_rfl) (by kernel_rfl) (fun _ _ _ h => h) (Or.inl ⟨by kernel_rfl, ?_⟩) hS8 ?_
        rotate_left
        focus (intro w hSw; (try dsimp only at hSw); go_simp; first | done | with_reducible rfl)
        try simp only [Act.put]
        try simp only [List.setIfInBounds_toArray]
        try simp only [List.set_cons_succ]
        try simp only [List.set_cons_zero]
        refine wpAnyH_done (by kernel_rfl) ?_ _
        obtain ⟨ra, hr8⟩ : ∃ r, wr.heap.size = r := ⟨_, rfl⟩
        rw [hr8] at HRA ⊢
        clear b6 b26 b25 hS0 hS5 hS6 hS8 hky hW8 hr8 kr r0 r1 r2 r3 s0 s1 s2 s3
      all_goals
        go_wp2_with fail
        refine wp_region_held (S := (fun V : World => V.cell? ⟨qn, 0, none⟩ = some (.int .i64 ti) ∧ V.cell? ⟨qn, 1, none⟩ = some (.int .i64 tk) ∧ V.cell? ⟨qn, 2, none⟩ = some (.string tt) ∧ V.cell? ⟨qn, 3, none⟩ = some (.slice ta tn tc) ∧ V.cell? ⟨qx, 0, none⟩ = some (.int .i64 xi) ∧ V.cell? ⟨qx, 1, none⟩ = some (.int .i64 xk) ∧ V.cell? ⟨qx, 2, none⟩ = some (.string xt) ∧ V.cell? ⟨qx, 3, none⟩ = some (.slice xa xn xc) ∧ V.cell? ⟨qp, i, none⟩ = some (.slice pa L pc))) (by kernel_rfl) ?_
        change wpAnyH _ _ _ _ _ _ _ _ (World.drew _)
        have hS0 := HSX.out Wa.drew HBA.out.drew
        refine takeH (i := 0) (d := (some 45)) (v := ?_) rfl rfl (by kernel_rfl) (by kernel_rfl) (by kernel_rfl) (fun _ _ _ h => h) (Or.inl ⟨by kernel_rfl, ?_⟩) hS0 ?_
        rotate_left
        focus (intro w hSw; (try dsimp only at hSw); go_simp; first | done | with_reducible rfl)
        try simp only [Act.put]
        try simp only [List.setIfInBounds_toArray]
        try simp only [List.set_cons_succ]
        try simp only [List.set_cons_zero]
        refine takeH (i := 1) (d := (some 46)) (v := ?_) rfl rfl (by kernel_rfl) (by kernel_rfl) (by kernel_rfl) (fun _ _ _ h => h) (Or.inl ⟨by kernel_rfl, ?_⟩) hS0 ?_
        rotate_left
        focus (intro w hSw; (try dsimp only at hSw); go_simp; first | done | with_reducible rfl)
        try simp only [Act.put]
        try simp only [List.setIfInBounds_toArray]
        try simp only [List.set_cons_succ]
        try simp only [List.set_cons_zero]
        refine takeH (i := 2) (d := (some 47)) (v := ?_) rfl rfl (by kernel_rfl) (by kernel_rfl) (by kernel_rfl) (fun _ _ _ h => h) (Or.inl ⟨by kernel_rfl, ?_⟩) hS0 ?_
        rotate_left
        focus (intro w hSw; (try dsimp only at hSw); go_simp; first | done | with_reducible rfl)
        try simp only [Act.put]
        try simp only [List.setIfInBounds_toArray]
        try simp only [List.set_cons_succ]
        try simp only [List.set_cons_zero]
        refine takeH (i := 3) (d := (some 48)) (v := ?_) rfl rfl (by kernel_rfl) (by kernel_rfl) (by kernel_rfl) (fun _ _ _ h => h) (Or.inl ⟨by kernel_rfl, ?_⟩) hS0 ?_
        rotate_left
        focus (intro w hSw; (try dsimp only at hSw); go_simp; first | done | with_reducible rfl)
        try simp only [Act.put]
        try simp only [List.setIfInBounds_toArray]
        try simp only [List.set_cons_succ]
        try simp only [List.set_cons_zero]
        refine takeH (i := 4) (d := (some 49)) (v := ?_) rfl rfl (by kernel_rfl) (by kernel_rfl) (by kernel_rfl) (fun _ _ _ h => h) (Or.inl ⟨by kernel_rfl, ?_⟩) hS0 ?_
        rotate_left
        focus (intro w hSw; (try dsimp only at hSw); go_simp; first | done | with_reducible rfl)
        try simp only [Act.put]
        try simp only [List.setIfInBounds_toArray]
        try simp only [List.set_cons_succ]
        try simp only [List.set_cons_zero]
        refine takeH (i := 5) (d := (some 50)) (v := ?_) rfl rfl (by kernel_rfl) (by kernel_rfl) (by kernel_rfl) (fun _ _ _ h => h) (Or.inl ⟨by kernel_rfl, ?_⟩) hS0 ?_
        rotate_left
        focus (intro w hSw; (try dsimp only at hSw); go_simp; first | done | with_reducible rfl)
        try simp only [Act.put]
        try simp only [List.setIfInBounds_toArray]
        try simp only [List.set_cons_succ]
        try simp only [List.set_cons_zero]
        refine wpAnyH_ready (rs := [6, 10]) (by kernel_rfl) (by simp) ?_
        refine AllReadyH.cons (o := _) rfl (fun K' hK => ?_) (AllReadyH.cons (o := _) rfl (fun K' hK => ?_) AllReadyH.nil)
        focus
          go_simp
          go_at_call 19
          refine (HRF.out Wa.drew HBA.out.drew).mono ?_
          rintro e w6 ⟨ub, cb, rfl, hky, b6⟩
          have b26 : Below w8.heap.size w8 w6 := HBA.out.drew.trans (b6.mono HBA.out.drew.size)
          have hS6 := HSX.out w6 b26
          try go_simp
          refine hK.out _ _ hS6 (fun hHeld => ?_)
          clear hK K' hHeld
          try simp only [Act.put]
          try simp only [List.setIfInBounds_toArray]
          try simp only [List.set_cons_succ]
          try simp only [List.set_cons_zero]
          refine takeH (i := 7) (d := (some 44)) (v := ?_) rfl rfl (by kernel_rfl) (by kernel_rfl) (by kernel_rfl) (fun _ _ _ h => h) (Or.inl ⟨by kernel_rfl, ?_⟩) hS6 ?_
          rotate_left
          focus (intro w hSw; (try dsimp only at hSw); go_simp; first | done | with_reducible rfl)
          try simp only [Act.put]
          try simp only [List.setIfInBounds_toArray]
          try simp only [List.set_cons_succ]
          try simp only [List.set_cons_zero]
          refine takeH (i := 8) (d := (some 52)) (v := ?_) rfl rfl (by kernel_rfl) (by kernel_rfl) (by kernel_rfl) (fun _ _ _ h => h) (Or.inl ⟨by kernel_rfl, ?_⟩) hS6 ?_
          rotate_left
          focus (intro w hSw; (try dsimp only at hSw); go_simp; first | done | with_reducible rfl)
          try simp only [Act.put]
          try simp only [List.setIfInBounds_toArray]
          try simp only [List.set_cons_succ]
          try simp only [List.set_cons_zero]
          refine takeH (i := 9) (d := (some 53)) (v := ?_) rfl rfl (by kernel_rfl) (by kernel_rfl) (by kernel_rfl) (fun _ _ _ h => h) (Or.inl ⟨by kernel_rfl, ?_⟩) hS6 ?_
          rotate_left
          focus (intro w hSw; (try dsimp only at hSw); go_simp; first | done | with_reducible rfl)
          try simp only [Act.put]
          try simp only [List.setIfInBounds_toArray]
          try simp only [List.set_cons_succ]
          try simp only [List.set_cons_zero]
          refine wpAnyH_ready (rs := [10]) (by kernel_rfl) (by simp) ?_
          refine AllReadyH.cons (o := _) rfl (fun K' hK => ?_) AllReadyH.nil
          go_simp
          have b27 : Below w8.heap.size w8 (w6.alloc (.cells #[.int .i64 0, .int .i64 0, .string ⟨#[]⟩, .slice none 0 0] 25)) := b26.alloc b26.size _
          have hS7 := HSX.out _ b27
          refine hK.out _ _ hS7 (fun hHeld => ?_)
          clear hK K' hHeld
          try simp only [Act.put]
          try simp only [List.setIfInBounds_toArray]
          try simp only [List.set_cons_succ]
          try simp only [List.set_cons_zero]
          refine wpAnyH_ready (rs := [11]) (by kernel_rfl) (by simp) ?_
          refine AllReadyH.cons (o := _) rfl (fun K' hK => ?_) AllReadyH.nil
          go_simp
          obtain ⟨Wb, hW8⟩ : ∃ W, w6.alloc (.cells #[.int .i64 yi, .int .i64 yk, .string yt, .slice ub ny cb] 25) = W := ⟨_, rfl⟩
          have HBB : Hid (Below w8.heap.size w8 Wb) := by show Below _ _ _; rw [← hW8]; exact b26.alloc b26.size _
          have HNB : Hid (Below Wa.heap.size Wa Wb) := by show Below _ _ _; rw [← hW8]; exact ((Below.refl _ Wa).drew.trans b6).alloc b6.size _
          rw [hW8]
          have HRB : Hid (Blk Wb w6.heap.size 25 #[.int .i64 yi, .int .i64 yk, .string yt, .slice ub ny cb]) := by show Blk _ _ _ _; rw [← hW8]; exact Blk.new _ _ _
          have HKB : Hid (KV (fun _ => True) Wb ub ny cb ky) := by
            show KV _ _ _ _ _ _
            rw [← hW8]
            exact hky.keep (by simp) (fun j _ hj => Below.heap_alloc _ _ j hj) (fun _ _ _ => trivial)
          have hS8 := HSX.out Wb HBB.out
          refine hK.out _ _ hS8 (fun hHeld => ?_)
          clear hK K' hHeld
          try simp only [Act.put]
          try simp only [List.setIfInBounds_toArray]
          try simp only [List.set_cons_succ]
          try simp only [List.set_cons_zero]
          refine takeH (i := 12) (d := (some 16)) (v := ?_) rfl rfl (by kernel_rfl) (by kernel_rfl) (by kernel_rfl) (fun _ _ _ h => h) (Or.inl ⟨by kernel_rfl, ?_⟩) hS8 ?_
          rotate_left
          focus (intro w hSw; (try dsimp only at hSw); go_simp; first | done | with_reducible rfl)
          try simp only [Act.put]
          try simp only [List.setIfInBounds_toArray]
          try simp only [List.set_cons_succ]
          try simp only [List.set_cons_zero]
          refine wpAnyH_done (by kernel_rfl) ?_ _
          obtain ⟨rb, hr8⟩ : ∃ r, w6.heap.size = r := ⟨_, rfl⟩
          rw [hr8] at HRB ⊢
          clear b6 b26 b27 hS0 hS6 hS7 hS8 hky hW8 hr8
        rotate_left
        focus
          go_simp
          have b25 : Below w8.heap.size w8 (Wa.drew.alloc (.cells #[.int .i64 0, .int .i64 0, .string ⟨#[]⟩, .slice none 0 0] 25)) := HBA.out.drew.alloc HBA.out.drew.size _
          have hS5 := HSX.out _ b25
          refine hK.out _ _ hS5 (fun hHeld => ?_)
          clear hK K' hHeld
          try simp only [Act.put]
          try simp only [List.setIfInBounds_toArray]
          try simp only [List.set_cons_succ]
          try simp only [List.set_cons_zero]
          refine wpAnyH_ready (rs := [6]) (by kernel_rfl) (by simp) ?_
          refine AllReadyH.cons (o := _) rfl (fun K' hK => ?_) AllReadyH.nil
          go_simp
          go_at_call 19
          refine (HRF.out _ b25).mono ?_
          rintro e w6 ⟨ub, cb, rfl, hky, b6⟩
          have b26 : Below w8.heap.size w8 w6 := b25.trans (b6.mono b25.size)
          have hS6 := HSX.out w6 b26
          have kr : Blk w6 Wa.heap.size 25 #[.int .i64 0, .int .i64 0, .string ⟨#[]⟩, .slice none 0 0] := (Blk.new Wa.drew 25 #[.int .i64 0, .int .i64 0, .string ⟨#[]⟩, .slice none 0 0]).same (b6.block Wa.heap.size (by simp))
          try go_simp
          refine hK.out _ _ hS6 (fun hHeld => ?_)
          clear hK K' hHeld
          try simp only [Act.put]
          try simp only [List.setIfInBounds_toArray]
          try simp only [List.set_cons_succ]
          try simp only [List.set_cons_zero]
          refine takeH (i := 7) (d := (some 44)) (v := ?_) rfl rfl (by kernel_rfl) (by kernel_rfl) (by kernel_rfl) (fun _ _ _ h => h) (Or.inl ⟨by kernel_rfl, ?_⟩) hS6 ?_
          rotate_left
          focus (intro w hSw; (try dsimp only at hSw); go_simp; first | done | with_reducible rfl)
          try simp only [Act.put]
          try simp only [List.setIfInBounds_toArray]
          try simp only [List.set_cons_succ]
          try simp only [List.set_cons_zero]
          refine takeH (i := 8) (d := (some 52)) (v := ?_) rfl rfl (by kernel_rfl) (by kernel_rfl) (by kernel_rfl) (fun _ _ _ h => h) (Or.inl ⟨by kernel_rfl, ?_⟩) hS6 ?_
          rotate_left
          focus (intro w hSw; (try dsimp only at hSw); go_simp; first | done | with_reducible rfl)
          try simp only [Act.put]
          try simp only [List.setIfInBounds_toArray]
          try simp only [List.set_cons_succ]
          try simp only [List.set_cons_zero]
          refine takeH (i := 9) (d := (some 53)) (v := ?_) rfl rfl (by kernel_rfl) (by kernel_rfl) (by kernel_rfl) (fun _ _ _ h => h) (Or.inl ⟨by kernel_rfl, ?_⟩) hS6 ?_
          rotate_left
          focus (intro w hSw; (try dsimp only at hSw); go_simp; first | done | with_reducible rfl)
          try simp only [Act.put]
          try simp only [List.setIfInBounds_toArray]
          try simp only [List.set_cons_succ]
          try simp only [List.set_cons_zero]
          refine wpAnyH_ready (rs := [11]) (by kernel_rfl) (by simp) ?_
          refine AllReadyH.cons (o := _) rfl (fun K' hK => ?_) AllReadyH.nil
          have r0 := kr.cell 0
          have r1 := kr.cell 1
          have r2 := kr.cell 2
          have r3 := kr.cell 3
          have s0 := kr.frozen 0
          have s1 := kr.frozen 1
          have s2 := kr.frozen 2
          have s3 := kr.frozen 3
          simp only [List.getElem?_toArray, List.getElem?_cons_zero, List.getElem?_cons_succ] at r0 r1 r2 r3
          go_simp
          obtain ⟨Wb, hW8⟩ : ∃ W, ((((w6.setCell ⟨Wa.heap.size, 0, none⟩ (.int .i64 yi)).setCell ⟨Wa.heap.size, 1, none⟩ (.int .i64 yk)).setCell ⟨Wa.heap.size, 2, none⟩ (.string yt)).setCell ⟨Wa.heap.size, 3, none⟩ (.slice ub ny cb)) = W := ⟨_, rfl⟩
          have HBB : Hid (Below w8.heap.size w8 Wb) := by show Below _ _ _; rw [← hW8]; exact ((((b26.setCell (p := ⟨Wa.heap.size, 0, none⟩) (HBA.out.size) _).setCell (p := ⟨Wa.heap.size, 1, none⟩) (HBA.out.size) _).setCell (p := ⟨Wa.heap.size, 2, none⟩) (HBA.out.size) _).setCell (p := ⟨Wa.heap.size, 3, none⟩) (HBA.out.size) _)
          have HNB : Hid (Below Wa.heap.size Wa Wb) := by
            show Below _ _ _
            rw [← hW8]
            have hq : Below Wa.heap.size Wa w6 := ((Below.refl _ Wa).drew.alloc (Nat.le_refl _) _).trans (b6.mono (by simp))
            exact ((((hq.setCell (p := ⟨Wa.heap.size, 0, none⟩) (Nat.le_refl _) _).setCell (p := ⟨Wa.heap.size, 1, none⟩) (Nat.le_refl _) _).setCell (p := ⟨Wa.heap.size, 2, none⟩) (Nat.le_refl _) _).setCell (p := ⟨Wa.heap.size, 3, none⟩) (Nat.le_refl _) _)
          rw [hW8]
          have HRB : Hid (Blk Wb Wa.heap.size 25 #[.int .i64 yi, .int .i64 yk, .string yt, .slice ub ny cb]) := by show Blk _ _ _ _; rw [← hW8]; simpa using (((kr.set 0 (.int .i64 yi)).set 1 (.int .i64 yk)).set 2 (.string yt)).set 3 (.slice ub ny cb)
          have HKB : Hid (KV (fun _ => True) Wb ub ny cb ky) := by
            show KV _ _ _ _ _ _
            obtain ⟨hbb, hss⟩ := set4 w6 Wa.heap.size 0 (.int .i64 yi) (.int .i64 yk) (.string yt) (.slice ub ny cb)
            simp only [Nat.zero_add] at hbb hss
            have hsz : (Wa.drew.alloc (.cells #[.int .i64 0, .int .i64 0, .string ⟨#[]⟩, .slice none 0 0] 25)).heap.size = Wa.heap.size + 1 := by rw [World.size_alloc]; rfl
            have hz0 := HBA.out.size
            rw [hsz] at hky
            rw [← hW8]
            exact hky.keep (by rw [hss]; exact Nat.le_refl _) (fun j hj _ => hbb j (by rcases hj with h | h <;> omega)) (fun _ _ _ => trivial)
          have hS8 := HSX.out Wb HBB.out
          refine hK.out _ _ hS8 (fun hHeld => ?_)
          clear hK K' hHeld
          try simp only [Act.put]
          try simp only [List.setIfInBounds_toArray]
          try simp only [List.set_cons_succ]
          try simp only [List.set_cons_zero]
          refine takeH (i := 12) (d := (some 16)) (v := ?_) rfl rfl (by kernel_rfl) (by kernel_rfl) (by kernel_rfl) (fun _ _ _ h => h) (Or.inl ⟨by kernel_rfl, ?_⟩) hS8 ?_
          rotate_left
          focus (intro w hSw; (try dsimp only at hSw); go_simp; first | done | with_reducible rfl)
          try simp only [Act.put]
          try simp only [List.setIfInBounds_toArray]
          try simp only [List.set_cons_succ]
          try simp only [List.set_cons_zero]
          refine wpAnyH_done (by kernel_rfl) ?_ _
          obtain ⟨rb, hr8⟩ : ∃ r, Wa.heap.size = r := ⟨_, rfl⟩
          rw [hr8] at HRB ⊢
          clear b6 b26 b25 hS0 hS5 hS6 hS8 hky hW8 hr8 kr r0 r1 r2 r3 s0 s1 s2 s3
        all_goals
          have HKA2 := Lib.hid (HKA.out.on HNB.out)
          have HRA2 := Lib.hid (HRA.out.same (HNB.out.block ra HRA.out.lt))
          have p0 := HRA2.out.cell 0
          have p1 := HRA2.out.cell 1
          have p2 := HRA2.out.cell 2
          have p3 := HRA2.out.cell 3
          have q0 := HRB.out.cell 0
          have q1 := HRB.out.cell 1
          have q2 := HRB.out.cell 2
          have q3 := HRB.out.cell 3
          simp only [List.getElem?_toArray, List.getElem?_cons_zero, List.getElem?_cons_succ] at p0 p1 p2 p3 q0 q1 q2 q3
          go_wp2_with fail
          refine (HSM.out Wb ua ub ca cb HKA2.out HKB.out).mono ?_
          rintro e wc ⟨rfl, b9⟩
          have HBC : Hid (Below w8.heap.size w8 wc) := HBB.out.trans (b9.mono HBB.out.size)
          have HKC := Lib.hid (HKA2.out.on b9)
          have HRC := Lib.hid (HRA2.out.same (b9.block ra HRA2.out.lt))
          have HSC : Hid (∀ V, Below wc.heap.size wc V → V.cell? ⟨ra, 0, none⟩ = some (.int .i64 yi) ∧ V.cell? ⟨ra, 1, none⟩ = some (.int .i64 yk) ∧ V.cell? ⟨ra, 2, none⟩ = some (.string yt) ∧ V.cell? ⟨ra, 3, none⟩ = some (.slice ua ny ca) ∧ V.cell? ⟨qp, i, none⟩ = some (.slice pa L pc)) := fun V hV => by
            have h1 := HRC.out.same (hV.block ra HRC.out.lt)
            exact ⟨h1.cell 0, h1.cell 1, h1.cell 2, h1.cell 3, HCE.out V (HBC.out.trans (hV.mono HBC.out.size))⟩
          have HGC : Hid (∀ W, Below wc.heap.size wc W → Calls Try.prog 30 #[.agg #[.int .i64 yi, .int .i64 yk, .string yt, .slice ua ny ca], .slice pa L pc] W fun e w' => ∃ u c, e = .returned (.tuple #[.agg #[.int .i64 ki, .int .i64 kk, .string kt, .slice u nk c], .int .i64 (o : Int), .bool th]) ∧ KV (fun j => j < w8.heap.size ∨ W.heap.size ≤ j) w' u nk c kks ∧ Below W.heap.size W w') := fun W hW => HGT.out W ua ca (HBC.out.trans (hW.mono HBC.out.size)) (HKC.out.on hW)
          have HB0 := Lib.hid (Below.refl wc.heap.size wc)
          clear b9 p0 p1 p2 p3 q0 q1 q2 q3
          go_wp2_with fail
          refine wp_region_held (S := (fun V : World => V.cell? ⟨ra, 0, none⟩ = some (.int .i64 yi) ∧ V.cell? ⟨ra, 1, none⟩ = some (.int .i64 yk) ∧ V.cell? ⟨ra, 2, none⟩ = some (.string yt) ∧ V.cell? ⟨ra, 3, none⟩ = some (.slice ua ny ca) ∧ V.cell? ⟨qp, i, none⟩ = some (.slice pa L pc))) (by kernel_rfl) ?_
          change wpAnyH _ _ _ _ _ _ _ _ (World.drew _)
          have hS0 := HSC.out wc.drew HB0.out.drew
          refine takeH (i := 0) (d := (some 64)) (v := ?_) rfl rfl (by kernel_rfl) (by kernel_rfl) (by kernel_rfl) (fun _ _ _ h => h) (Or.inl ⟨by kernel_rfl, ?_⟩) hS0 ?_
          rotate_left
          focus (intro w hSw; (try dsimp only at hSw); go_simp; first | done | with_reducible rfl)
          try simp only [Act.put]
          try simp only [List.setIfInBounds_toArray]
          try simp only [List.set_cons_succ]
          try simp only [List.set_cons_zero]
          refine takeH (i := 1) (d := (some 65)) (v := ?_) rfl rfl (by kernel_rfl) (by kernel_rfl) (by kernel_rfl) (fun _ _ _ h => h) (Or.inl ⟨by kernel_rfl, ?_⟩) hS0 ?_
          rotate_left
          focus (intro w hSw; (try dsimp only at hSw); go_simp; first | done | with_reducible rfl)
          try simp only [Act.put]
          try simp only [List.setIfInBounds_toArray]
          try simp only [List.set_cons_succ]
          try simp only [List.set_cons_zero]
          refine takeH (i := 2) (d := (some 66)) (v := ?_) rfl rfl (by kernel_rfl) (by kernel_rfl) (by kernel_rfl) (fun _ _ _ h => h) (Or.inl ⟨by kernel_rfl, ?_⟩) hS0 ?_
          rotate_left
          focus (intro w hSw; (try dsimp only at hSw); go_simp; first | done | with_reducible rfl)
          try simp only [Act.put]
          try simp only [List.setIfInBounds_toArray]
          try simp only [List.set_cons_succ]
          try simp only [List.set_cons_zero]
          refine takeH (i := 3) (d := (some 67)) (v := ?_) rfl rfl (by kernel_rfl) (by kernel_rfl) (by kernel_rfl) (fun _ _ _ h => h) (Or.inl ⟨by kernel_rfl, ?_⟩) hS0 ?_
          rotate_left
          focus (intro w hSw; (try dsimp only at hSw); go_simp; first | done | with_reducible rfl)
          try simp only [Act.put]
          try simp only [List.setIfInBounds_toArray]
          try simp only [List.set_cons_succ]
          try simp only [List.set_cons_zero]
          refine takeH (i := 4) (d := (some 68)) (v := ?_) rfl rfl (by kernel_rfl) (by kernel_rfl) (by kernel_rfl) (fun _ _ _ h => h) (Or.inl ⟨by kernel_rfl, ?_⟩) hS0 ?_
          rotate_left
          focus (intro w hSw; (try dsimp only at hSw); go_simp; first | done | with_reducible rfl)
          try simp only [Act.put]
          try simp only [List.setIfInBounds_toArray]
          try simp only [List.set_cons_succ]
          try simp only [List.set_cons_zero]
          refine wpAnyH_ready (rs := [5, 10]) (by kernel_rfl) (by simp) ?_
          refine AllReadyH.cons (o := _) rfl (fun K' hK => ?_) (AllReadyH.cons (o := _) rfl (fun K' hK => ?_) AllReadyH.nil)
          focus
            go_simp
            go_at_call 30
            refine (HGC.out wc.drew HB0.out.drew).mono ?_
            rintro e w6 ⟨uk, ck, rfl, hky, b6⟩
            have b26 : Below wc.heap.size wc w6 := HB0.out.drew.trans (b6.mono HB0.out.drew.size)
            have hS6 := HSC.out w6 b26
            try go_simp
            refine hK.out _ _ hS6 (fun hHeld => ?_)
            clear hK K' hHeld
            try simp only [Act.put]
            try simp only [List.setIfInBounds_toArray]
            try simp only [List.set_cons_succ]
            try simp only [List.set_cons_zero]
            refine takeH (i := 6) (d := (some 63)) (v := ?_) rfl rfl (by kernel_rfl) (by kernel_rfl) (by kernel_rfl) (fun _ _ _ h => h) (Or.inl ⟨by kernel_rfl, ?_⟩) hS6 ?_
            rotate_left
            focus (intro w hSw; (try dsimp only at hSw); go_simp; first | done | with_reducible rfl)
            try simp only [Act.put]
            try simp only [List.setIfInBounds_toArray]
            try simp only [List.set_cons_succ]
            try simp only [List.set_cons_zero]
            refine takeH (i := 7) (d := (some 70)) (v := ?_) rfl rfl (by kernel_rfl) (by kernel_rfl) (by kernel_rfl) (fun _ _ _ h => h) (Or.inl ⟨by kernel_rfl, ?_⟩) hS6 ?_
            rotate_left
            focus (intro w hSw; (try dsimp only at hSw); go_simp; first | done | with_reducible rfl)
            try simp only [Act.put]
            try simp only [List.setIfInBounds_toArray]
            try simp only [List.set_cons_succ]
            try simp only [List.set_cons_zero]
            refine takeH (i := 8) (d := (some 71)) (v := ?_) rfl rfl (by kernel_rfl) (by kernel_rfl) (by kernel_rfl) (fun _ _ _ h => h) (Or.inl ⟨by kernel_rfl, ?_⟩) hS6 ?_
            rotate_left
            focus (intro w hSw; (try dsimp only at hSw); go_simp; first | done | with_reducible rfl)
            try simp only [Act.put]
            try simp only [List.setIfInBounds_toArray]
            try simp only [List.set_cons_succ]
            try simp only [List.set_cons_zero]
            refine takeH (i := 9) (d := (some 72)) (v := ?_) rfl rfl (by kernel_rfl) (by kernel_rfl) (by kernel_rfl) (fun _ _ _ h => h) (Or.inl ⟨by kernel_rfl, ?_⟩) hS6 ?_
            rotate_left
            focus (intro w hSw; (try dsimp only at hSw); go_simp; first | done | with_reducible rfl)
            try simp only [Act.put]
            try simp only [List.setIfInBounds_toArray]
            try simp only [List.set_cons_succ]
            try simp only [List.set_cons_zero]
            refine wpAnyH_ready (rs := [10]) (by kernel_rfl) (by simp) ?_
            refine AllReadyH.cons (o := _) rfl (fun K' hK => ?_) AllReadyH.nil
            go_simp
            have b27 : Below wc.heap.size wc (w6.alloc (.cells #[.int .i64 0, .int .i64 0, .string ⟨#[]⟩, .slice none 0 0] 25)) := b26.alloc b26.size _
            have hS7 := HSC.out _ b27
            refine hK.out _ _ hS7 (fun hHeld => ?_)
            clear hK K' hHeld
            try simp only [Act.put]
            try simp only [List.setIfInBounds_toArray]
            try simp only [List.set_cons_succ]
            try simp only [List.set_cons_zero]
            refine wpAnyH_ready (rs := [11]) (by kernel_rfl) (by simp) ?_
            refine AllReadyH.cons (o := _) rfl (fun K' hK => ?_) AllReadyH.nil
            go_simp
            obtain ⟨Wk, hW8⟩ : ∃ W, w6.alloc (.cells #[.int .i64 ki, .int .i64 kk, .string kt, .slice uk nk ck] 25) = W := ⟨_, rfl⟩
            have HBK : Hid (Below wc.heap.size wc Wk) := by show Below _ _ _; rw [← hW8]; exact b26.alloc b26.size _
            have HNK : Hid (Below wc.heap.size wc Wk) := by show Below _ _ _; rw [← hW8]; exact ((Below.refl _ wc).drew.trans b6).alloc b6.size _
            rw [hW8]
            have HRK : Hid (Blk Wk w6.heap.size 25 #[.int .i64 ki, .int .i64 kk, .string kt, .slice uk nk ck]) := by show Blk _ _ _ _; rw [← hW8]; exact Blk.new _ _ _
            have HKK : Hid (KV (fun _ => True) Wk uk nk ck kks) := by
              show KV _ _ _ _ _ _
              rw [← hW8]
              exact hky.keep (by simp) (fun j _ hj => Below.heap_alloc _ _ j hj) (fun _ _ _ => trivial)
            have hS8 := HSC.out Wk HBK.out
            refine hK.out _ _ hS8 (fun hHeld => ?_)
            clear hK K' hHeld
            try simp only [Act.put]
            try simp only [List.setIfInBounds_toArray]
            try simp only [List.set_cons_succ]
            try simp only [List.set_cons_zero]
            refine takeH (i := 12) (d := (some 18)) (v := ?_) rfl rfl (by kernel_rfl) (by kernel_rfl) (by kernel_rfl) (fun _ _ _ h => h) (Or.inl ⟨by kernel_rfl, ?_⟩) hS8 ?_
            rotate_left
            focus (intro w hSw; (try dsimp only at hSw); go_simp; first | done | with_reducible rfl)
            try simp only [Act.put]
            try simp only [List.setIfInBounds_toArray]
            try simp only [List.set_cons_succ]
            try simp only [List.set_cons_zero]
            refine takeH (i := 13) (d := (some 19)) (v := ?_) rfl rfl (by kernel_rfl) (by kernel_rfl) (by kernel_rfl) (fun _ _ _ h => h) (Or.inl ⟨by kernel_rfl, ?_⟩) hS8 ?_
            rotate_left
            focus (intro w hSw; (try dsimp only at hSw); go_simp; first | done | with_reducible rfl)
            try simp only [Act.put]
            try simp only [List.setIfInBounds_toArray]
            try simp only [List.set_cons_succ]
            try simp only [List.set_cons_zero]
            refine wpAnyH_done (by kernel_rfl) ?_ _
            obtain ⟨rk, hr8⟩ : ∃ r, w6.heap.size = r := ⟨_, rfl⟩
            rw [hr8] at HRK ⊢
            clear b6 b26 b27 hS0 hS6 hS7 hS8 hky hW8 hr8
          rotate_left
          focus
            go_simp
            have b25 : Below wc.heap.size wc (wc.drew.alloc (.cells #[.int .i64 0, .int .i64 0, .string ⟨#[]⟩, .slice none 0 0] 25)) := HB0.out.drew.alloc HB0.out.drew.size _
            have hS5 := HSC.out _ b25
            refine hK.out _ _ hS5 (fun hHeld => ?_)
            clear hK K' hHeld
            try simp only [Act.put]
            try simp only [List.setIfInBounds_toArray]
            try simp only [List.set_cons_succ]
            try simp only [List.set_cons_zero]
            refine wpAnyH_ready (rs := [5]) (by kernel_rfl) (by simp) ?_
            refine AllReadyH.cons (o := _) rfl (fun K' hK => ?_) AllReadyH.nil
            go_simp
            go_at_call 30
            refine (HGC.out _ b25).mono ?_
            rintro e w6 ⟨uk, ck, rfl, hky, b6⟩
            have b26 : Below wc.heap.size wc w6 := b25.trans (b6.mono b25.size)
            have hS6 := HSC.out w6 b26
            have kr : Blk w6 wc.heap.size 25 #[.int .i64 0, .int .i64 0, .string ⟨#[]⟩, .slice none 0 0] := (Blk.new wc.drew 25 #[.int .i64 0, .int .i64 0, .string ⟨#[]⟩, .slice none 0 0]).same (b6.block wc.heap.size (by simp))
            try go_simp
            refine hK.out _ _ hS6 (fun hHeld => ?_)
            clear hK K' hHeld
            try simp only [Act.put]
            try simp only [List.setIfInBounds_toArray]
            try simp only [List.set_cons_succ]
            try simp only [List.set_cons_zero]
            refine takeH (i := 6) (d := (some 63)) (v := ?_) rfl rfl (by kernel_rfl) (by kernel_rfl) (by kernel_rfl) (fun _ _ _ h => h) (Or.inl ⟨by kernel_rfl, ?_⟩) hS6 ?_
            rotate_left
            focus (intro w hSw; (try dsimp only at hSw); go_simp; first | done | with_reducible rfl)
            try simp only [Act.put]
            try simp only [List.setIfInBounds_toArray]
            try simp only [List.set_cons_succ]
            try simp only [List.set_cons_zero]
            refine takeH (i := 7) (d := (some 70)) (v := ?_) rfl rfl (by kernel_rfl) (by kernel_rfl) (by kernel_rfl) (fun _ _ _ h => h) (Or.inl ⟨by kernel_rfl, ?_⟩) hS6 ?_
            rotate_left
            focus (intro w hSw; (try dsimp only at hSw); go_simp; first | done | with_reducible rfl)
            try simp only [Act.put]
            try simp only [List.setIfInBounds_toArray]
            try simp only [List.set_cons_succ]
            try simp only [List.set_cons_zero]
            refine takeH (i := 8) (d := (some 71)) (v := ?_) rfl rfl (by kernel_rfl) (by kernel_rfl) (by kernel_rfl) (fun _ _ _ h => h) (Or.inl ⟨by kernel_rfl, ?_⟩) hS6 ?_
            rotate_left
            focus (intro w hSw; (try dsimp only at hSw); go_simp; first | done | with_reducible rfl)
            try simp only [Act.put]
            try simp only [List.setIfInBounds_toArray]
            try simp only [List.set_cons_succ]
            try simp only [List.set_cons_zero]
            refine takeH (i := 9) (d := (some 72)) (v := ?_) rfl rfl (by kernel_rfl) (by kernel_rfl) (by kernel_rfl) (fun _ _ _ h => h) (Or.inl ⟨by kernel_rfl, ?_⟩) hS6 ?_
            rotate_left
            focus (intro w hSw; (try dsimp only at hSw); go_simp; first | done | with_reducible rfl)
            try simp only [Act.put]
            try simp only [List.setIfInBounds_toArray]
            try simp only [List.set_cons_succ]
            try simp only [List.set_cons_zero]
            refine wpAnyH_ready (rs := [11]) (by kernel_rfl) (by simp) ?_
            refine AllReadyH.cons (o := _) rfl (fun K' hK => ?_) AllReadyH.nil
            have r0 := kr.cell 0
            have r1 := kr.cell 1
            have r2 := kr.cell 2
            have r3 := kr.cell 3
            have s0 := kr.frozen 0
            have s1 := kr.frozen 1
            have s2 := kr.frozen 2
            have s3 := kr.frozen 3
            simp only [List.getElem?_toArray, List.getElem?_cons_zero, List.getElem?_cons_succ] at r0 r1 r2 r3
            go_simp
            obtain ⟨Wk, hW8⟩ : ∃ W, ((((w6.setCell ⟨wc.heap.size, 0, none⟩ (.int .i64 ki)).setCell ⟨wc.heap.size, 1, none⟩ (.int .i64 kk)).setCell ⟨wc.heap.size, 2, none⟩ (.string kt)).setCell ⟨wc.heap.size, 3, none⟩ (.slice uk nk ck)) = W := ⟨_, rfl⟩
            have HBK : Hid (Below wc.heap.size wc Wk) := by show Below _ _ _; rw [← hW8]; exact ((((b26.setCell (p := ⟨wc.heap.size, 0, none⟩) (HB0.out.size) _).setCell (p := ⟨wc.heap.size, 1, none⟩) (HB0.out.size) _).setCell (p := ⟨wc.heap.size, 2, none⟩) (HB0.out.size) _).setCell (p := ⟨wc.heap.size, 3, none⟩) (HB0.out.size) _)
            have HNK : Hid (Below wc.heap.size wc Wk) := by
              show Below _ _ _
              rw [← hW8]
              have hq : Below wc.heap.size wc w6 := ((Below.refl _ wc).drew.alloc (Nat.le_refl _) _).trans (b6.mono (by simp))
              exact ((((hq.setCell (p := ⟨wc.heap.size, 0, none⟩) (Nat.le_refl _) _).setCell (p := ⟨wc.heap.size, 1, none⟩) (Nat.le_refl _) _).setCell (p := ⟨wc.heap.size, 2, none⟩) (Nat.le_refl _) _).setCell (p := ⟨wc.heap.size, 3, none⟩) (Nat.le_refl _) _)
            rw [hW8]
            have HRK : Hid (Blk Wk wc.heap.size 25 #[.int .i64 ki, .int .i64 kk, .string kt, .slice uk nk ck]) := by show Blk _ _ _ _; rw [← hW8]; simpa using (((kr.set 0 (.int .i64 ki)).set 1 (.int .i64 kk)).set 2 (.string kt)).set 3 (.slice uk nk ck)
            have HKK : Hid (KV (fun _ => True) Wk uk nk ck kks) := by
              show KV _ _ _ _ _ _
              obtain ⟨hbb, hss⟩ := set4 w6 wc.heap.size 0 (.int .i64 ki) (.int .i64 kk) (.string kt) (.slice uk nk ck)
              simp only [Nat.zero_add] at hbb hss
              have hsz : (wc.drew.alloc (.cells #[.int .i64 0, .int .i64 0, .string ⟨#[]⟩, .slice none 0 0] 25)).heap.size = wc.heap.size + 1 := by rw [World.size_alloc]; rfl
              have hz0 := HBC.out.size
              rw [hsz] at hky
              rw [← hW8]
              exact hky.keep (by rw [hss]; exact Nat.le_refl _) (fun j hj _ => hbb j (by rcases hj with h | h <;> omega)) (fun _ _ _ => trivial)
            have hS8 := HSC.out Wk HBK.out
            refine hK.out _ _ hS8 (fun hHeld => ?_)
            clear hK K' hHeld
            try simp only [Act.put]
            try simp only [List.setIfInBounds_toArray]
            try simp only [List.set_cons_succ]
            try simp only [List.set_cons_zero]
            refine takeH (i := 12) (d := (some 18)) (v := ?_) rfl rfl (by kernel_rfl) (by kernel_rfl) (by kernel_rfl) (fun _ _ _ h => h) (Or.inl ⟨by kernel_rfl, ?_⟩) hS8 ?_
            rotate_left
            focus (intro w hSw; (try dsimp only at hSw); go_simp; first | done | with_reducible rfl)
            try simp only [Act.put]
            try simp only [List.setIfInBounds_toArray]
            try simp only [List.set_cons_succ]
            try simp only [List.set_cons_zero]
            refine takeH (i := 13) (d := (some 19)) (v := ?_) rfl rfl (by kernel_rfl) (by kernel_rfl) (by kernel_rfl) (fun _ _ _ h => h) (Or.inl ⟨by kernel_rfl, ?_⟩) hS8 ?_
            rotate_left
            focus (intro w hSw; (try dsimp only at hSw); go_simp; first | done | with_reducible rfl)
            try simp only [Act.put]
            try simp only [List.setIfInBounds_toArray]
            try simp only [List.set_cons_succ]
            try simp only [List.set_cons_zero]
            refine wpAnyH_done (by kernel_rfl) ?_ _
            obtain ⟨rk, hr8⟩ : ∃ r, wc.heap.size = r := ⟨_, rfl⟩
            rw [hr8] at HRK ⊢
            clear b6 b26 b25 hS0 hS5 hS6 hS8 hky hW8 hr8 kr r0 r1 r2 r3 s0 s1 s2 s3
          all_goals
            have HBK8 : Hid (Below w8.heap.size w8 Wk) := HBC.out.trans (HBK.out.mono HBC.out.size)
            cases hok : ok with
            | false =>
              go_wp2
              go_roundw
              case rel => exact ⟨i + 1, by go_num, by omega, HBK8⟩
              case measure => simp [intOf]; omega
            | true =>
              obtain ⟨hth, hsame⟩ := HPT.out hok
              have HSE := Lib.hid (hsame Wk uk ck HBK8.out HKK.out)
              have p0 := HRK.out.cell 0
              have p1 := HRK.out.cell 1
              have p2 := HRK.out.cell 2
              have p3 := HRK.out.cell 3
              simp only [List.getElem?_toArray, List.getElem?_cons_zero, List.getElem?_cons_succ] at p0 p1 p2 p3
              obtain ⟨_, _, _, _, x0, x1, x2, x3⟩ := HNX.out Wk HBK8.out
              clear hsame
              rw [hth]
              go_wp2_with fail
              refine HSE.out.mono ?_
              rintro e wz ⟨rfl, bz⟩
              have HBZ : Hid (Below w8.heap.size w8 wz) := HBK8.out.trans (bz.mono HBK8.out.size)
              clear bz
              go_wp2
              go_roundw
              case rel => exact ⟨i + 1, by go_num, by omega, HBZ⟩
              case measure => simp [intOf]; omega
    · have hin2 : ¬ ((i : Int) < 2) := by omega
      go_wp2_with fail
      refine (lives_any wr).mono ?_
      rintro e wz ⟨rfl, bz⟩
      have HF := Lib.hid (HBW8.out.trans ((HR.out.trans (bz.mono HR.out.size)).mono HBW8.out.size))
      clear bz
      go_wp2
      go_ret
      exact ⟨rfl, HF.out⟩

end Go.Proofs.Ytfecajeenmnoeaa
