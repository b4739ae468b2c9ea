/- The contract of common. Conditions: offsets and sizes of at most 2^40. -/
import Derived.Test.YtfhpllcdlejfjaaECm
import Derived.Deep.RegionHeld3
import Derived.BigRegion
import Derived.Lib.MinMax
namespace Go.Proofs.Ytfhpllcdlejfjaa
open Go.RowKit Go.Shelf
set_option linter.unusedVariables false

/-- Five cells, read off a block. -/
theorem cells5 {W : World} {b t : Nat} {v0 v1 v2 v3 v4 : Value} (h : Blk W b t #[v0, v1, v2, v3, v4]) :
    W.cell? ⟨b, 0, none⟩ = some v0 ∧ W.cell? ⟨b, 1, none⟩ = some v1 ∧ W.cell? ⟨b, 2, none⟩ = some v2 ∧ W.cell? ⟨b, 3, none⟩ = some v3 ∧ W.cell? ⟨b, 4, none⟩ = some v4 :=
  ⟨by simpa using h.cell 0, by simpa using h.cell 1, by simpa using h.cell 2, by simpa using h.cell 3, by simpa using h.cell 4⟩

set_option maxRecDepth 100000 in
set_option maxHeartbeats 4000000 in
theorem common_any (p1 p2 : Pc) (w : World) (hf1 : 0 ≤ p1.f ∧ p1.f ≤ 1099511627776) (hq1 : 0 ≤ p1.q ∧ p1.q ≤ 1099511627776) (hx1 : p1.x.size ≤ 1099511627776) (hf2 : 0 ≤ p2.f ∧ p2.f ≤ 1099511627776) (ht2 : 0 ≤ p2.t ∧ p2.t ≤ 1099511627776) (hq2 : 0 ≤ p2.q ∧ p2.q ≤ 1099511627776) :
    Calls Try.prog 65 #[p1.val, p2.val] w fun e w' => e = .returned (comm p1 p2).val ∧ Below w.heap.size w w' := by
  have CE := Lib.hid (fun W => end_any p1 W (by omega) (by omega))
  obtain ⟨R, hR⟩ : ∃ R, comm p1 p2 = R := ⟨_, rfl⟩
  obtain ⟨f1, t1, q1, x1, k1⟩ := p1
  obtain ⟨f2, t2, q2, x2, k2⟩ := p2
  simp only [Pc.val] at hf1 hq1 hx1 hf2 ht2 hq2 CE ⊢
  rw [hR]
  unfold comm at hR
  simp only at hR
  obtain ⟨st, hst⟩ : ∃ z, max q1 f2 = z := ⟨_, rfl⟩
  obtain ⟨n1, hn1⟩ : ∃ z : Int, q1 + (x1.size : Int) = z := ⟨_, rfl⟩
  obtain ⟨en, hen⟩ : ∃ z, min n1 t2 = z := ⟨_, rfl⟩
  rw [hst, hn1, hen] at hR
  rw [hn1] at CE
  obtain ⟨B, hB⟩ : ∃ B, w.heap.size = B := ⟨_, rfl⟩
  obtain ⟨W, hW⟩ : ∃ W, ((w.alloc (.cells #[.int .i64 f1, .int .i64 t1, .int .i64 q1, .string x1, .bool k1] 74)).alloc (.cells #[.int .i64 f2, .int .i64 t2, .int .i64 q2, .string x2, .bool k2] 74)).alloc (.cells #[.int .i64 0, .int .i64 0, .int .i64 0, .string ⟨#[]⟩, .bool false] 74) = W := ⟨_, rfl⟩
  have b1 : Blk W B 74 #[.int .i64 f1, .int .i64 t1, .int .i64 q1, .string x1, .bool k1] := by rw [← hW, ← hB]; exact ((Blk.new _ _ _).alloc _).alloc _
  have b2 : Blk W (B + 1) 74 #[.int .i64 f2, .int .i64 t2, .int .i64 q2, .string x2, .bool k2] := by
    rw [← hW, ← hB]
    have := Blk.new (w.alloc (.cells #[.int .i64 f1, .int .i64 t1, .int .i64 q1, .string x1, .bool k1] 74)) 74 #[.int .i64 f2, .int .i64 t2, .int .i64 q2, .string x2, .bool k2]
    rw [World.size_alloc] at this
    exact this.alloc _
  have b3 : Blk W (B + 1 + 1) 74 #[.int .i64 0, .int .i64 0, .int .i64 0, .string ⟨#[]⟩, .bool false] := by
    rw [← hW, ← hB]
    have := Blk.new ((w.alloc (.cells #[.int .i64 f1, .int .i64 t1, .int .i64 q1, .string x1, .bool k1] 74)).alloc (.cells #[.int .i64 f2, .int .i64 t2, .int .i64 q2, .string x2, .bool k2] 74)) 74 #[.int .i64 0, .int .i64 0, .int .i64 0, .string ⟨#[]⟩, .bool false]
    rw [World.size_alloc, World.size_alloc] at this
    exact this
  have HB3 := Lib.hid b3
  have sW : W.heap.size = B + 3 := by rw [← hW, ← hB]; simp
  have bl : Below B w W := by rw [← hW, ← hB]; exact (((Below.refl _ _).alloc (Nat.le_refl _) _).alloc (by simp) _).alloc (by simp; omega) _
  have HS : Hid (∀ V, Below (B + 2) W V → (V.cell? ⟨B, 0, none⟩ = some (.int .i64 f1) ∧ V.cell? ⟨B, 1, none⟩ = some (.int .i64 t1) ∧ V.cell? ⟨B, 2, none⟩ = some (.int .i64 q1) ∧ V.cell? ⟨B, 3, none⟩ = some (.string x1) ∧ V.cell? ⟨B, 4, none⟩ = some (.bool k1)) ∧
      (V.cell? ⟨B + 1, 0, none⟩ = some (.int .i64 f2) ∧ V.cell? ⟨B + 1, 1, none⟩ = some (.int .i64 t2) ∧ V.cell? ⟨B + 1, 2, none⟩ = some (.int .i64 q2) ∧ V.cell? ⟨B + 1, 3, none⟩ = some (.string x2) ∧ V.cell? ⟨B + 1, 4, none⟩ = some (.bool k2))) := fun V hV =>
    ⟨cells5 (b1.same (hV.block B (by omega))), cells5 (b2.same (hV.block (B + 1) (by omega)))⟩
  obtain ⟨⟨c0, c1, c2, c3, c4⟩, d0, d1, d2, d3, d4⟩ := HS.out W (Below.refl _ _)
  have HW := Lib.hid hW; have HB := Lib.hid hB; have HBL := Lib.hid bl
  have g1 : 0 ≤ st ∧ st ≤ 1099511627776 := by omega
  have g2 : 0 ≤ en ∧ en ≤ 1099511627776 := by omega
  have HR := Lib.hid hR
  clear hW hB b1 b2 b3 bl hR
  rw [← HW.out] at c0 c1 c2 c3 c4 d0 d1 d2 d3 d4
  rw [← HB.out] at c0 c1 c2 c3 c4 d0 d1 d2 d3 d4
  go_enter Try.func65, Try.ntmps65
  go_wp2_with fail
  rw [HW.out, HB.out]
  have hB2 : Below (B + 2) W W.drew := (Below.refl _ _).drew
  have z2 : B + 2 ≤ W.drew.heap.size := by show B + 2 ≤ W.heap.size; omega
  have cA := HS.out W.drew hB2
  go_region_held3 (fun V : World => (V.cell? ⟨B, 0, none⟩ = some (.int .i64 f1) ∧ V.cell? ⟨B, 1, none⟩ = some (.int .i64 t1) ∧ V.cell? ⟨B, 2, none⟩ = some (.int .i64 q1) ∧ V.cell? ⟨B, 3, none⟩ = some (.string x1) ∧ V.cell? ⟨B, 4, none⟩ = some (.bool k1)) ∧
      (V.cell? ⟨B + 1, 0, none⟩ = some (.int .i64 f2) ∧ V.cell? ⟨B + 1, 1, none⟩ = some (.int .i64 t2) ∧ V.cell? ⟨B + 1, 2, none⟩ = some (.int .i64 q2) ∧ V.cell? ⟨B + 1, 3, none⟩ = some (.string x2) ∧ V.cell? ⟨B + 1, 4, none⟩ = some (.bool k2))) (first | exact cA | exact cB)
    (first | (go_at_call 47; refine (CE.out _).mono ?_; rintro e w1 ⟨rfl, b1⟩; have hB1 := hB2.trans (b1.mono z2); have cB := HS.out w1 hB1))
  have b4 := HB3.out.same (b1.block (B + 1 + 1) (by show B + 1 + 1 < W.heap.size; omega))
  have hw1 : Below B w w1 := HBL.out.trans (hB1.mono (by omega))
  have z1 : B + 3 ≤ w1.heap.size := by have := b1.size; have h2 : W.drew.heap.size = W.heap.size := rfl; omega
  obtain ⟨e0, e1, e2, e3, e4⟩ := cells5 b4
  have HCB := Lib.hid cB
  obtain ⟨⟨c0, c1, c2, c3, c4⟩, d0, d1, d2, d3, d4⟩ := cB
  have HW1 := Lib.hid hw1; have HBW := Lib.hid b4
  clear cA b1 hB2 hB1 hw1 b4
  obtain ⟨sk, hsk⟩ : ∃ z, st - q1 = z := ⟨_, rfl⟩
  have HEND : Hid (∀ v0 v1 v2 v3 v4 : Value, Blk (((((w1.setCell ⟨B + 1 + 1, 0, none⟩ v0).setCell ⟨B + 1 + 1, 1, none⟩ v1).setCell ⟨B + 1 + 1, 2, none⟩ v2).setCell ⟨B + 1 + 1, 3, none⟩ v3).setCell ⟨B + 1 + 1, 4, none⟩ v4) (B + 1 + 1) 74 #[v0, v1, v2, v3, v4] ∧ Below w.heap.size w (((((w1.setCell ⟨B + 1 + 1, 0, none⟩ v0).setCell ⟨B + 1 + 1, 1, none⟩ v1).setCell ⟨B + 1 + 1, 2, none⟩ v2).setCell ⟨B + 1 + 1, 3, none⟩ v3).setCell ⟨B + 1 + 1, 4, none⟩ v4)) := by
    intro v0 v1 v2 v3 v4
    refine ⟨by simpa using ((((HBW.out.set 0 v0).set 1 v1).set 2 v2).set 3 v3).set 4 v4, ?_⟩
    rw [HB.out]
    exact ((((HW1.out.setCell (p := ⟨B + 1 + 1, 0, none⟩) (by show B ≤ B + 1 + 1; omega) _).setCell (p := ⟨B + 1 + 1, 1, none⟩) (by show B ≤ B + 1 + 1; omega) _).setCell (p := ⟨B + 1 + 1, 2, none⟩) (by show B ≤ B + 1 + 1; omega) _).setCell (p := ⟨B + 1 + 1, 3, none⟩) (by show B ≤ B + 1 + 1; omega) _).setCell (p := ⟨B + 1 + 1, 4, none⟩) (by show B ≤ B + 1 + 1; omega) _
  by_cases hk : k1 = true ∧ k2 = true ∧ st < en
  · obtain ⟨rfl, rfl, hlt⟩ := hk
    have hge : ¬ en ≤ st := by omega
    have s1 : 0 ≤ sk := by omega
    have s2 : sk + en - st ≤ x1.size := by omega
    have s3 : sk ≤ sk + en - st := by omega
    have hR := HR.out
    rw [if_pos ⟨rfl, rfl, hlt⟩, hsk] at hR
    go_wp2_with fail
    have cS := HCB.out
    have wr : ∀ z : Int, -9223372036854775808 ≤ z → z ≤ 9223372036854775807 → IntKind.i64.wrap z = z := by intro z a b; simp [IntKind.wrap, IntKind.signed, IntKind.bits]; omega
    have w1' := wr sk (by omega) (by omega)
    have w2 := wr (sk + en) (by omega) (by omega)
    have w3 := wr (sk + en - st) (by omega) (by omega)
    have w4 := wr (f1 + sk) (by omega) (by omega)
    have w5 := wr (f1 + sk + en) (by omega) (by omega)
    have w6 := wr (f1 + sk + en - st) (by omega) (by omega)
    have w7 := wr (q2 + st) (by omega) (by omega)
    have w8 := wr (q2 + st - f2) (by omega) (by omega)
    clear wr
    have y0 := HBW.out.frozen 0
    have y1 := HBW.out.frozen 1
    have y2 := HBW.out.frozen 2
    have y3 := HBW.out.frozen 3
    have y4 := HBW.out.frozen 4
    clear cS
    go_region
    go_wp2_with fail
    obtain ⟨k0, hbl⟩ := HEND.out (.int .i64 (f1 + sk)) (.int .i64 (f1 + sk + en - st)) (.int .i64 (q2 + st - f2)) (.string (x1.extract sk.toNat (sk + en - st).toNat)) (.bool true)
    obtain ⟨k0, k1, k2, k3, k4⟩ := cells5 k0
    refine bodyPost_ret (v := R.val) (by simp [results, Try.results65, go_sem, k0, k1, k2, k3, k4, ← hR, Pc.val]) rfl ?_
    exact ⟨rfl, hbl.drew⟩
  · have hR := HR.out
    rw [if_neg hk] at hR
    have y0 := HBW.out.frozen 0
    have y1 := HBW.out.frozen 1
    have y2 := HBW.out.frozen 2
    have y3 := HBW.out.frozen 3
    have y4 := HBW.out.frozen 4
    cases k1 with
    | false =>
      go_wp2_with fail
      obtain ⟨k0, hbl⟩ := HEND.out (.int .i64 0) (.int .i64 0) (.int .i64 0) (.string ⟨#[]⟩) (.bool false)
      obtain ⟨k0, k1, k2, k3, k4⟩ := cells5 k0
      refine bodyPost_ret (v := R.val) (by simp [results, Try.results65, go_sem, k0, k1, k2, k3, k4, ← hR, Pc.val]) rfl ?_
      exact ⟨rfl, hbl⟩
    | true =>
      cases k2 with
      | false =>
        go_wp2_with fail
        obtain ⟨k0, hbl⟩ := HEND.out (.int .i64 0) (.int .i64 0) (.int .i64 0) (.string ⟨#[]⟩) (.bool false)
        obtain ⟨k0, k1, k2, k3, k4⟩ := cells5 k0
        refine bodyPost_ret (v := R.val) (by simp [results, Try.results65, go_sem, k0, k1, k2, k3, k4, ← hR, Pc.val]) rfl ?_
        exact ⟨rfl, hbl⟩
      | true =>
        have hge : en ≤ st := by
          have : ¬ st < en := fun h => hk ⟨rfl, rfl, h⟩
          omega
        go_wp2_with fail
        obtain ⟨k0, hbl⟩ := HEND.out (.int .i64 0) (.int .i64 0) (.int .i64 0) (.string ⟨#[]⟩) (.bool false)
        obtain ⟨k0, k1, k2, k3, k4⟩ := cells5 k0
        refine bodyPost_ret (v := R.val) (by simp [results, Try.results65, go_sem, k0, k1, k2, k3, k4, ← hR, Pc.val]) rfl ?_
        exact ⟨rfl, hbl⟩

end Go.Proofs.Ytfhpllcdlejfjaa
