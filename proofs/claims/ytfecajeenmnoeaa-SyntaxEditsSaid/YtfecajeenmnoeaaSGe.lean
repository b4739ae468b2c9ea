/- The program's Get. Conditions: trees of at most 100000 nodes and 1000000000 bytes, paths of at most 100000 indices. -/
import Derived.Test.YtfecajeenmnoeaaSFi
namespace Go.Proofs.Ytfecajeenmnoeaa
open Go.RowKit Go.Shelf
set_option linter.unusedVariables false

/-- What Get hands back. -/
def GetP (t : Nd) (zs : List Int) (w : World) (e : Ending) (w' : World) : Prop := Below w.heap.size w w' ∧
  ((∃ (x : Nd) (o : Nat) (a : Option Addr) (c : Nat), getN t zs = some (x, o) ∧ e = .returned (.tuple #[ndv x a x.kids.length c, .int .i64 (o : Int), .bool true]) ∧ KV (fun b => w.heap.size ≤ b) w' a x.kids.length c x.kids) ∨
   (getN t zs = none ∧ e = .returned (.tuple #[.agg #[.int .i64 0, .int .i64 0, .string ⟨#[]⟩, .slice none 0 0], .int .i64 0, .bool false])))

set_option maxRecDepth 100000 in
set_option maxHeartbeats 4000000 in
theorem pget_any (t : Nd) (a : Option Addr) (n cap : Nat) (pa : Option Addr) (pc : Nat) (zs : List Int) (w : World) (G : Nat → Prop) (hK : KV G w a n cap t.kids) (hc : t.cnt ≤ 100000) (hw : t.pw ≤ 1000000000) (hp : Sli .i64 w pa pc zs) (hz : zs.length ≤ 100000) :
    Calls Try.prog 30 #[ndv t a n cap, .slice pa zs.length pc] w (GetP t zs w) := by
  obtain ⟨q, hq⟩ : ∃ q, w.heap.size = q := ⟨_, rfl⟩
  obtain ⟨W2, hW2⟩ : ∃ W, (w.alloc (.cells (ndc t a n cap) 25)).alloc (.cells #[.int .i64 0, .int .i64 0, .string ⟨#[]⟩, .slice none 0 0] 25) = W := ⟨_, rfl⟩
  have b2 : Below q w W2 := by rw [← hW2, ← hq]; exact ((Below.refl _ _).alloc (Nat.le_refl _) _).alloc (by simp) _
  have k1 : Blk W2 q 25 (ndc t a n cap) := by rw [← hW2, ← hq]; exact (Blk.new _ _ _).alloc _
  have k2 : Blk W2 (q + 1) 25 #[.int .i64 0, .int .i64 0, .string ⟨#[]⟩, .slice none 0 0] := by
    rw [← hW2, ← hq]
    have := Blk.new (w.alloc (.cells (ndc t a n cap) 25)) 25 #[.int .i64 0, .int .i64 0, .string ⟨#[]⟩, .slice none 0 0]
    rw [World.size_alloc] at this
    exact this
  have s2 : W2.heap.size = q + 2 := by rw [← hW2, ← hq]; simp
  obtain ⟨ad, had, hTA⟩ := root_ta hK (by rw [hq]; exact b2) k1
  have HFI := Lib.hid (pfind_any ad t pa pc zs W2 hTA (hp.below (by rw [hq]; exact b2)) hz hc hw)
  obtain ⟨pn, hpn⟩ : ∃ z, zs.length = z := ⟨_, rfl⟩
  rw [had] at HFI
  rw [hpn] at HFI ⊢
  obtain ⟨id, hid⟩ : ∃ x, t.id = x := ⟨_, rfl⟩
  obtain ⟨kd, hkd⟩ : ∃ x, t.kind = x := ⟨_, rfl⟩
  obtain ⟨tx, htx⟩ : ∃ x, t.text = x := ⟨_, rfl⟩
  unfold ndv ndc at *
  rw [hid, hkd, htx] at hW2 ⊢
  have HW2 := Lib.hid hW2; have HQ := Lib.hid hq; have HK2 := Lib.hid k2; have HB2 := Lib.hid b2; have HS2 := Lib.hid s2; have HTA := Lib.hid hTA; have HC := Lib.hid hc
  clear hK hc hw hp hz hW2 b2 k1 k2 s2 hid hkd htx hq had hTA hpn
  go_enter Try.func30, Try.ntmps30
  go_wp2_with fail
  rw [HW2.out, HQ.out]
  refine HFI.out.mono ?_
  rintro e w3 ⟨b3, ⟨x, o, fa, fn, fc, hg, rfl⟩ | ⟨hg, rfl⟩⟩
  · have hTx := TA.get zs t [] x o (HTA.out.on b3) hg
    rw [List.nil_append] at hTx
    obtain ⟨b, f, ka, kc, had, hb, hkv, _, hcell⟩ := hTx.cells
    obtain ⟨W4, hW4⟩ : ∃ W, w3.alloc (.cells #[.pointer (some ⟨b, f, none⟩), .slice fa fn fc, .int .i64 (o : Int)] 84) = W := ⟨_, rfl⟩
    have b4 : Below w3.heap.size w3 W4 := by rw [← hW4]; exact (Below.refl _ _).alloc (Nat.le_refl _) _
    have k4 : Blk W4 w3.heap.size 84 #[.pointer (some ⟨b, f, none⟩), .slice fa fn fc, .int .i64 (o : Int)] := by rw [← hW4]; exact Blk.new _ _ _
    have s4 : w3.heap.size < W4.heap.size := by rw [← hW4]; simp
    have hz3 := b3.size
    have hs2 := HS2.out
    have hkq : Blk W4 (q + 1) 25 #[.int .i64 0, .int .i64 0, .string ⟨#[]⟩, .slice none 0 0] := (HK2.out.same (b3.block _ HK2.out.lt)).same (b4.block _ (by omega))
    have hbx := getN_bd _ t x o hg
    have hCC := HC.out
    have HCL := Lib.hid (clone_any x.dep x ka x.kids.length kc W4.drew (fun _ => True) (Nat.le_refl _) ((hkv.on b4).keep (Nat.le_refl _) (fun _ _ _ => rfl) (fun _ h _ => h)) (by omega))
    obtain ⟨d0, d1, d2, d3⟩ := hcell W4 (b4.block b hb)
    have g0 := k4.cell 0
    have g2 := k4.cell 2
    simp only [List.getElem?_toArray, List.getElem?_cons_zero, List.getElem?_cons_succ] at g0 g2
    have HB4 : Hid (Below q w W4) := (HB2.out.trans (b3.mono (by omega))).trans (b4.mono (by omega))
    have HFIN : Hid (∀ (a' : Option Addr) (c' : Nat) (w6 : World), KI x.dep w6 W4.drew.heap.size w6.heap.size a' x.kids.length c' x.kids → Below W4.drew.heap.size W4.drew w6 →
        Blk w6 (q + 1) 25 #[.int .i64 0, .int .i64 0, .string ⟨#[]⟩, .slice none 0 0] ∧ w6.cell? ⟨w3.heap.size, 0, none⟩ = some (.pointer (some ⟨b, f, none⟩)) ∧ w6.cell? ⟨w3.heap.size, 2, none⟩ = some (.int .i64 (o : Int)) ∧
        Blk ((((w6.setCell ⟨q + 1, 0, none⟩ (.int .i64 x.id)).setCell ⟨q + 1, 1, none⟩ (.int .i64 x.kind)).setCell ⟨q + 1, 2, none⟩ (.string x.text)).setCell ⟨q + 1, 3, none⟩ (.slice a' x.kids.length c')) (q + 1) 25 (ndc x a' x.kids.length c') ∧
        GetP t zs w (.returned (.tuple #[ndv x a' x.kids.length c', .int .i64 (o : Int), .bool true])) ((((w6.setCell ⟨q + 1, 0, none⟩ (.int .i64 x.id)).setCell ⟨q + 1, 1, none⟩ (.int .i64 x.kind)).setCell ⟨q + 1, 2, none⟩ (.string x.text)).setCell ⟨q + 1, 3, none⟩ (.slice a' x.kids.length c'))) := fun a' c' w6 hki b6 => by
      have b6' : Below W4.heap.size W4 w6 := (Below.refl _ W4).drew.trans b6
      have hkq6 := hkq.same (b6'.block _ hkq.lt)
      have k46 := k4.same (b6'.block _ k4.lt)
      obtain ⟨hbb, hss⟩ := set4 w6 (q + 1) 0 (.int .i64 x.id) (.int .i64 x.kind) (.string x.text) (.slice a' x.kids.length c')
      simp only [Nat.zero_add] at hbb hss
      refine ⟨hkq6, k46.cell 0, k46.cell 2, by simpa using (((hkq6.set 0 (.int .i64 x.id)).set 1 (.int .i64 x.kind)).set 2 (.string x.text)).set 3 (.slice a' x.kids.length c'), ?_, .inl ⟨x, o, a', c', hg, rfl, ?_⟩⟩
      · rw [HQ.out]
        exact ((((HB4.out.trans (b6'.mono (by omega))).setCell (p := ⟨q + 1, 0, none⟩) (by show q ≤ q + 1; omega) _).setCell (p := ⟨q + 1, 1, none⟩) (by show q ≤ q + 1; omega) _).setCell (p := ⟨q + 1, 2, none⟩) (by show q ≤ q + 1; omega) _).setCell (p := ⟨q + 1, 3, none⟩) (by show q ≤ q + 1; omega) _
      · have h1 : q + 2 ≤ W4.drew.heap.size := by show q + 2 ≤ W4.heap.size; omega
        rw [HQ.out]
        exact (hki.kv x.dep (G := fun b => q + 2 ≤ b) (fun b hb _ => by omega)).keep (by omega) (fun b hb _ => hbb b (by omega)) (fun b hb _ => by omega)
    obtain ⟨kn, hkn⟩ : ∃ v, x.kids.length = v := ⟨_, rfl⟩
    obtain ⟨xi, hxi⟩ : ∃ v, x.id = v := ⟨_, rfl⟩
    obtain ⟨xk, hxk⟩ : ∃ v, x.kind = v := ⟨_, rfl⟩
    obtain ⟨xt, hxt⟩ : ∃ v, x.text = v := ⟨_, rfl⟩
    have hadf : (ad (nat zs)).1 = b ∧ (ad (nat zs)).2 = f := by rw [had]; exact ⟨rfl, rfl⟩
    rw [hadf.1, hadf.2]
    unfold ndv ndc at HFIN
    unfold ndv at HCL
    rw [hkn] at d3 HCL HFIN
    rw [hxi] at d0 HCL HFIN
    rw [hxk] at d1 HCL HFIN
    rw [hxt] at d2 HCL HFIN
    have hne1 : ¬ (q + 1 = w3.heap.size) := by omega
    have hne2 : ¬ (w3.heap.size = q + 1) := by omega
    have HW4 := Lib.hid hW4
    clear hTx had hkv hcell hW4 b4 k4 hkq hbx hCC hkn hxi hxk hxt hadf hg b3 hz3 hs2
    go_wp2_with fail
    rw [HW4.out]
    go_region_law (first | (go_simp; go_at_call 54; refine HCL.out.mono ?_; rintro e w6 ⟨a', c', rfl, hki, b6⟩; obtain ⟨hk6, x0, x2, hn6⟩ := HFIN.out a' c' w6 hki b6; have y0 := hk6.cell 0; have y1 := hk6.cell 1; have y2 := hk6.cell 2; have y3 := hk6.cell 3; have f0 := hk6.frozen 0; have f1 := hk6.frozen 1; have f2 := hk6.frozen 2; have f3 := hk6.frozen 3; have HN6 := Lib.hid hn6; simp only [List.getElem?_toArray, List.getElem?_cons_zero, List.getElem?_cons_succ] at y0 y1 y2 y3; clear hki b6 hk6 hn6))
    all_goals
      obtain ⟨hz, hfin⟩ := HN6.out
      have z0 := hz.cell 0
      have z1 := hz.cell 1
      have z2 := hz.cell 2
      have z3 := hz.cell 3
      simp only [List.getElem?_toArray, List.getElem?_cons_zero, List.getElem?_cons_succ] at z0 z1 z2 z3
      have HF := Lib.hid hfin
      clear hz hfin
      go_wp2_with fail
      refine bodyPost_ret (v := .tuple #[.agg #[.int .i64 xi, .int .i64 xk, .string xt, .slice a' kn c'], .int .i64 (o : Int), .bool true]) (by simp [results, Try.results30, go_sem, z0, z1, z2, z3]) rfl HF.out
  · obtain ⟨W4, hW4⟩ : ∃ W, w3.alloc (.cells #[.pointer none, .slice none 0 0, .int .i64 0] 84) = W := ⟨_, rfl⟩
    have b4 : Below w3.heap.size w3 W4 := by rw [← hW4]; exact (Below.refl _ _).alloc (Nat.le_refl _) _
    have hz3 := b3.size
    have hs2 := HS2.out
    have hkq : Blk W4 (q + 1) 25 #[.int .i64 0, .int .i64 0, .string ⟨#[]⟩, .slice none 0 0] := (HK2.out.same (b3.block _ HK2.out.lt)).same (b4.block _ (by omega))
    have hfin : GetP t zs w (.returned (.tuple #[.agg #[.int .i64 0, .int .i64 0, .string ⟨#[]⟩, .slice none 0 0], .int .i64 0, .bool false])) ((((W4.setCell ⟨q + 1, 0, none⟩ (.int .i64 0)).setCell ⟨q + 1, 1, none⟩ (.int .i64 0)).setCell ⟨q + 1, 2, none⟩ (.string ⟨#[]⟩)).setCell ⟨q + 1, 3, none⟩ (.slice none 0 0)) := by
      refine ⟨?_, .inr ⟨hg, rfl⟩⟩
      rw [HQ.out]
      exact (((((HB2.out.trans (b3.mono (by omega))).trans (b4.mono (by omega))).setCell (p := ⟨q + 1, 0, none⟩) (by show q ≤ q + 1; omega) _).setCell (p := ⟨q + 1, 1, none⟩) (by show q ≤ q + 1; omega) _).setCell (p := ⟨q + 1, 2, none⟩) (by show q ≤ q + 1; omega) _).setCell (p := ⟨q + 1, 3, none⟩) (by show q ≤ q + 1; omega) _
    have hz : Blk ((((W4.setCell ⟨q + 1, 0, none⟩ (.int .i64 0)).setCell ⟨q + 1, 1, none⟩ (.int .i64 0)).setCell ⟨q + 1, 2, none⟩ (.string ⟨#[]⟩)).setCell ⟨q + 1, 3, none⟩ (.slice none 0 0)) (q + 1) 25 #[.int .i64 0, .int .i64 0, .string ⟨#[]⟩, .slice none 0 0] := by simpa using (((hkq.set 0 (.int .i64 0)).set 1 (.int .i64 0)).set 2 (.string ⟨#[]⟩)).set 3 (.slice none 0 0)
    have y0 := hkq.cell 0
    have y1 := hkq.cell 1
    have y2 := hkq.cell 2
    have y3 := hkq.cell 3
    have f0 := hkq.frozen 0
    have f1 := hkq.frozen 1
    have f2 := hkq.frozen 2
    have f3 := hkq.frozen 3
    simp only [List.getElem?_toArray, List.getElem?_cons_zero, List.getElem?_cons_succ] at y0 y1 y2 y3
    have HZ := Lib.hid hz; have HF := Lib.hid hfin
    clear hkq hfin hz b4 b3 hz3 hs2
    subst hW4
    go_wp2_with fail
    have z0 := HZ.out.cell 0
    have z1 := HZ.out.cell 1
    have z2 := HZ.out.cell 2
    have z3 := HZ.out.cell 3
    simp only [List.getElem?_toArray, List.getElem?_cons_zero, List.getElem?_cons_succ] at z0 z1 z2 z3
    refine bodyPost_ret (v := .tuple #[.agg #[.int .i64 0, .int .i64 0, .string ⟨#[]⟩, .slice none 0 0], .int .i64 0, .bool false]) (by simp [results, Try.results30, go_sem, z0, z1, z2, z3]) rfl HF.out

end Go.Proofs.Ytfecajeenmnoeaa
