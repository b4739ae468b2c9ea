/- The law's gets: both Gets agree. Conditions: tidy trees of at most 100000 nodes and 1000000 bytes, paths of at most 100000 indices. -/
import Derived.Test.YtfecajeenmnoeaaSRg
import Derived.Test.YtfecajeenmnoeaaSSa
namespace Go.Proofs.Ytfecajeenmnoeaa
open Go.RowKit Go.Shelf
set_option linter.unusedVariables false

set_option maxRecDepth 100000 in
set_option maxHeartbeats 4000000 in
theorem gets_any (t : Nd) (a : Option Addr) (n cap : Nat) (pa : Option Addr) (pc : Nat) (zs : List Int) (w : World) (G : Nat → Prop) (hK : KV G w a n cap t.kids) (hc : t.cnt ≤ 100000) (hw : t.pw ≤ 1000000) (ht : t.tidy) (hp : Sli .i64 w pa pc zs) (hz : zs.length ≤ 100000) :
    Calls Try.prog 17 #[ndv t a n cap, .slice pa zs.length pc] w fun e w' => e = .returned (.bool true) ∧ Below w.heap.size w w' := by
  obtain ⟨q, hq⟩ : ∃ q, w.heap.size = q := ⟨_, rfl⟩
  obtain ⟨W1, hW1⟩ : ∃ W, w.alloc (.cells (ndc t a n cap) 25) = W := ⟨_, rfl⟩
  have b1 : Below q w W1 := by rw [← hW1, ← hq]; exact (Below.refl _ _).alloc (Nat.le_refl _) _
  have k1 : Blk W1 q 25 (ndc t a n cap) := by rw [← hW1, ← hq]; exact Blk.new _ _ _
  have s1 : W1.heap.size = q + 1 := by rw [← hW1, ← hq]; simp
  have HV : ∀ W, Below W1.heap.size W1 W → Below w.heap.size w W := fun W hW => by rw [hq]; exact b1.trans (hW.mono (by omega))
  have HX : Hid (∀ W, Below W1.heap.size W1 W → W.cell? ⟨q, 0, none⟩ = some (.int .i64 t.id) ∧ W.cell? ⟨q, 1, none⟩ = some (.int .i64 t.kind) ∧ W.cell? ⟨q, 2, none⟩ = some (.string t.text) ∧ W.cell? ⟨q, 3, none⟩ = some (.slice a n cap) ∧ Below w.heap.size w W) := fun W hW => by
    have kk := k1.same (hW.block q k1.lt)
    exact ⟨kk.cell 0, kk.cell 1, kk.cell 2, kk.cell 3, HV W hW⟩
  have HPG := Lib.hid (pget_any t a n cap pa pc zs W1 G (hK.on (by rw [hq]; exact b1)) hc (by omega) (hp.below (by rw [hq]; exact b1)) hz)
  have HRG : Hid (∀ W, Below W1.heap.size W1 W → Calls Try.prog 51 #[ndv t a n cap, .slice pa zs.length pc] W (RGetP t zs W)) := fun W hW => rget_any t a n cap pa pc zs W G (hK.on (HV W hW)) hc hw ht (hp.below (HV W hW)) hz
  have HBD : Hid (∀ x o, getN t zs = some (x, o) → x.cnt ≤ 100000) := fun x o h => by have := getN_bd _ _ _ _ h; omega
  obtain ⟨pn, hpn⟩ : ∃ z, zs.length = z := ⟨_, rfl⟩
  obtain ⟨id, hid⟩ : ∃ x, t.id = x := ⟨_, rfl⟩
  obtain ⟨kd, hkd⟩ : ∃ x, t.kind = x := ⟨_, rfl⟩
  obtain ⟨tx, htx⟩ : ∃ x, t.text = x := ⟨_, rfl⟩
  unfold ndv at HPG HRG
  unfold ndc at hW1
  rw [hpn] at HPG HRG
  rw [hid, hkd, htx] at hW1 HX HPG HRG
  unfold ndv
  rw [hid, hkd, htx, hpn]
  obtain ⟨c0, c1, c2, c3, _⟩ := HX.out W1 (Below.refl _ _)
  have HW1 := Lib.hid hW1; have HQ := Lib.hid hq; have HS1 := Lib.hid s1
  clear hK hc hw ht hp hz hW1 b1 k1 s1 HV hid hkd htx hpn hq
  go_enter Try.func17, Try.ntmps17
  go_wp2_with fail
  rw [HW1.out, HQ.out]
  go_wp2_with fail
  refine HPG.out.mono ?_
  rintro e w2 ⟨b2, ⟨x, o, xa, xc, hg, rfl, hkv⟩ | ⟨hg, rfl⟩⟩
  · obtain ⟨W3, hW3⟩ : ∃ W, w2.alloc (.cells (ndc x xa x.kids.length xc) 25) = W := ⟨_, rfl⟩
    have b3' : Below w2.heap.size w2 W3 := by rw [← hW3]; exact (Below.refl _ _).alloc (Nat.le_refl _) _
    have k3 : Blk W3 w2.heap.size 25 (ndc x xa x.kids.length xc) := by rw [← hW3]; exact Blk.new _ _ _
    have b3 : Below W1.heap.size W1 W3 := b2.trans (b3'.mono b2.size)
    have hkv3 := hkv.on b3'
    have HRG3 := Lib.hid (HRG.out W3 b3)
    have hxc := HBD.out x o hg
    obtain ⟨xn, hxn⟩ : ∃ z, x.kids.length = z := ⟨_, rfl⟩
    obtain ⟨xi, hxi⟩ : ∃ z, x.id = z := ⟨_, rfl⟩
    obtain ⟨xk, hxk⟩ : ∃ z, x.kind = z := ⟨_, rfl⟩
    obtain ⟨xt, hxt⟩ : ∃ z, x.text = z := ⟨_, rfl⟩
    have HSM : Hid (∀ W (ra : Option Addr) (rc : Nat), Below W3.heap.size W3 W → KV (fun _ => True) W ra xn rc x.kids → Calls Try.prog 26 #[.agg #[.int .i64 xi, .int .i64 xk, .string xt, .slice xa xn xc], .agg #[.int .i64 xi, .int .i64 xk, .string xt, .slice ra xn rc]] W fun e w' => e = .returned (.bool true) ∧ Below W.heap.size W w') := fun W ra rc hW h => by
      have := same_any x xa xn xc ra xn rc W (fun _ => True) ((hkv3.on hW).keep (Nat.le_refl _) (fun _ _ _ => rfl) (fun _ _ _ => trivial) |> fun h => by rw [hxn] at h; exact h) h hxc
      unfold ndv at this
      rw [hxi, hxk, hxt] at this
      exact this
    unfold ndc at hW3 k3
    rw [hxn, hxi, hxk, hxt] at hW3 k3
    obtain ⟨c0, c1, c2, c3, _⟩ := HX.out W3 b3
    rw [← hW3] at c0 c1 c2 c3
    have HW3 := Lib.hid hW3; have HK3 := Lib.hid k3; have HB3 := Lib.hid b3; have HG := Lib.hid hg; have HXN := Lib.hid hxn
    have HXI := Lib.hid (And.intro hxi (And.intro hxk hxt))
    clear b2 hkv b3' k3 b3 hkv3 hg hxc hW3
    unfold ndv
    rw [hxn, hxi, hxk, hxt]
    clear hxn hxi hxk hxt
    go_wp2_with fail
    rw [HW3.out]
    refine HRG3.out.mono ?_
    rintro e w4 ⟨b4, ⟨y, p, ya, yc, hg2, rfl, hkv4⟩ | ⟨hg2, _⟩⟩
    · rw [HG.out] at hg2
      simp only [Option.some.injEq, Prod.mk.injEq] at hg2
      obtain ⟨rfl, rfl⟩ := hg2
      rw [HXN.out] at hkv4
      unfold ndv
      rw [HXN.out, HXI.out.1, HXI.out.2.1, HXI.out.2.2]
      obtain ⟨W5, hW5⟩ : ∃ W, w4.alloc (.cells #[.int .i64 xi, .int .i64 xk, .string xt, .slice ya xn yc] 25) = W := ⟨_, rfl⟩
      have b5' : Below w4.heap.size w4 W5 := by rw [← hW5]; exact (Below.refl _ _).alloc (Nat.le_refl _) _
      have b5 : Below W3.heap.size W3 W5 := b4.trans (b5'.mono b4.size)
      have k5 := HK3.out.same (b5.block _ HK3.out.lt)
      have d0 := k5.cell 0
      have d1 := k5.cell 1
      have d2 := k5.cell 2
      have d3 := k5.cell 3
      simp only [List.getElem?_toArray, List.getElem?_cons_zero, List.getElem?_cons_succ] at d0 d1 d2 d3
      rw [← hW5] at d0 d1 d2 d3
      have HSM5 := Lib.hid (HSM.out W5 ya yc b5 (hkv4.on b5'))
      have HF : Hid (Below w.heap.size w W5) := (HX.out W5 (HB3.out.trans (b5.mono HB3.out.size))).2.2.2.2
      have HW5 := Lib.hid hW5
      clear b4 hkv4 b5' b5 k5 hW5
      go_wp2_with fail
      rw [HW5.out]
      refine HSM5.out.mono ?_
      rintro e w6 ⟨rfl, b6⟩
      have HF6 := Lib.hid (HF.out.trans (b6.mono HF.out.size))
      clear b6
      go_wp2
      go_ret
      exact ⟨rfl, HF6.out⟩
    · rw [HG.out] at hg2; cases hg2
  · obtain ⟨W3, hW3⟩ : ∃ W, w2.alloc (.cells #[.int .i64 0, .int .i64 0, .string ⟨#[]⟩, .slice none 0 0] 25) = W := ⟨_, rfl⟩
    have b3' : Below w2.heap.size w2 W3 := by rw [← hW3]; exact (Below.refl _ _).alloc (Nat.le_refl _) _
    have k3 : Blk W3 w2.heap.size 25 #[.int .i64 0, .int .i64 0, .string ⟨#[]⟩, .slice none 0 0] := by rw [← hW3]; exact Blk.new _ _ _
    have b3 : Below W1.heap.size W1 W3 := b2.trans (b3'.mono b2.size)
    have HRG3 := Lib.hid (HRG.out W3 b3)
    have HSM : Hid (∀ W, Calls Try.prog 26 #[.agg #[.int .i64 0, .int .i64 0, .string ⟨#[]⟩, .slice none 0 0], .agg #[.int .i64 0, .int .i64 0, .string ⟨#[]⟩, .slice none 0 0]] W fun e w' => e = .returned (.bool true) ∧ Below W.heap.size W w') := fun W =>
      same_any (.mk 0 0 ⟨#[]⟩ []) none 0 0 none 0 0 W (fun _ => True) (.nil (fun _ => rfl) (by omega)) (.nil (fun _ => rfl) (by omega)) (by simp [Nd.cnt, cnts])
    obtain ⟨c0, c1, c2, c3, _⟩ := HX.out W3 b3
    rw [← hW3] at c0 c1 c2 c3
    have HW3 := Lib.hid hW3; have HK3 := Lib.hid k3; have HB3 := Lib.hid b3; have HG := Lib.hid hg
    clear b2 b3' k3 b3 hg hW3
    go_wp2_with fail
    rw [HW3.out]
    refine HRG3.out.mono ?_
    rintro e w4 ⟨b4, ⟨y, p, ya, yc, hg2, rfl, hkv4⟩ | ⟨hg2, rfl⟩⟩
    · rw [HG.out] at hg2; cases hg2
    · obtain ⟨W5, hW5⟩ : ∃ W, w4.alloc (.cells #[.int .i64 0, .int .i64 0, .string ⟨#[]⟩, .slice none 0 0] 25) = W := ⟨_, rfl⟩
      have b5' : Below w4.heap.size w4 W5 := by rw [← hW5]; exact (Below.refl _ _).alloc (Nat.le_refl _) _
      have b5 : Below W3.heap.size W3 W5 := b4.trans (b5'.mono b4.size)
      have k5 := HK3.out.same (b5.block _ HK3.out.lt)
      have d0 := k5.cell 0
      have d1 := k5.cell 1
      have d2 := k5.cell 2
      have d3 := k5.cell 3
      simp only [List.getElem?_toArray, List.getElem?_cons_zero, List.getElem?_cons_succ] at d0 d1 d2 d3
      rw [← hW5] at d0 d1 d2 d3
      have HF : Hid (Below w.heap.size w W5) := (HX.out W5 (HB3.out.trans (b5.mono HB3.out.size))).2.2.2.2
      have HW5 := Lib.hid hW5
      clear b4 b5' b5 k5 hW5 hg2
      go_wp2_with fail
      rw [HW5.out]
      refine (HSM.out W5).mono ?_
      rintro e w6 ⟨rfl, b6⟩
      have HF6 := Lib.hid (HF.out.trans (b6.mono HF.out.size))
      clear b6
      go_wp2
      go_ret
      exact ⟨rfl, HF6.out⟩

end Go.Proofs.Ytfecajeenmnoeaa
