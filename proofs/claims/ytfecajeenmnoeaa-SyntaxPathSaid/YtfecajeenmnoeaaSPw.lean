/- The walk of SyntaxPath. It has no conditions. -/
import Derived.Test.YtfecajeenmnoeaaSPq
import Derived.Test.YtfecajeenmnoeaaSTy
import Derived.Test.YtfecajeenmnoeaaSOp
import Derived.Test.YtfecajeenmnoeaaSTt
import Derived.Test.YtfecajeenmnoeaaSLi
namespace Go.Proofs.Ytfecajeenmnoeaa
open Go.RowKit Go.Shelf
set_option linter.unusedVariables false

theorem slJ_toP {w w' : World} {a : Option Addr} {n : Nat} (h : SlJ w.heap.size w a n) (hb : Below w.heap.size w w') : SlJ w'.heap.size w' a n := by
  rcases h.below hb with h0 | ⟨b, off, ha, hlt, hc⟩
  · exact .inl h0
  · exact .inr ⟨b, off, ha, by have := hb.size; omega, hc⟩

set_option maxRecDepth 100000 in
set_option maxHeartbeats 8000000 in
theorem walkSPath (a0 : Option Addr) (c0 : Nat) (ls : List Int) (t : Nd) (a : Option Addr) (n cap : Nat) (o : Int) (w : World) (hl : Sli .i64 w a0 c0 ls) (hwl : ∀ n ∈ ls, -9223372036854775808 ≤ n ∧ n ≤ 9223372036854775807) (hn : IsNd w t a n cap) (ho1 : -9223372036854775808 ≤ o) (ho2 : o ≤ 9223372036854775807) :
    Calls Try.prog 4 #[.slice a0 ls.length c0, .agg #[.int .i64 t.id, .int .i64 t.kind, .string t.text, .slice a n cap], .int .i64 o] w fun e w' => e = .returned (.bool true) ∧ Below w.heap.size w w' := by
  obtain ⟨q, hq⟩ : ∃ q, w.heap.size = q := ⟨_, rfl⟩
  obtain ⟨w1, hw1⟩ : ∃ W, w.alloc (.cells #[.int .i64 t.id, .int .i64 t.kind, .string t.text, .slice a n cap] 25) = W := ⟨_, rfl⟩
  have b1 : Below w.heap.size w w1 := by rw [← hw1]; exact (Below.refl _ _).alloc (Nat.le_refl _) _
  have k1 : Blk w1 q 25 #[.int .i64 t.id, .int .i64 t.kind, .string t.text, .slice a n cap] := by rw [← hw1, ← hq]; exact Blk.new _ _ _
  have HTR := Lib.hid (Tree_any a0 ls.length c0 hl.le hl.mx w1 (slJ_toP (SlJ.of hl hwl) b1))
  have HTD : Hid (∀ W, Below w.heap.size w W → Calls Try.prog 13 #[.agg #[.int .i64 t.id, .int .i64 t.kind, .string t.text, .slice a n cap], .int .i64 4] W (TidyP 4 W)) := fun W hW => tidy_any _ 3 4 t a n cap W rfl (by omega) hn.1 (hn.2.on hW)
  have HTX : Hid (∀ (d : Nat) (x : Nd) (xa : Option Addr) (xn xc : Nat) (W : World) (G : Nat → Prop), d ≤ 5 → KV G W xa xn xc x.kids → Sm d x → Calls Try.prog 15 #[.agg #[.int .i64 x.id, .int .i64 x.kind, .string x.text, .slice xa xn xc], .int .i64 o] W fun e w' => e = .returned (.bool true) ∧ Below W.heap.size W w') := fun d x xa xn xc W G hd hk hs => by
    have h1 := hs.cnt
    have h2 := hs.pw
    have h3 : 5 ^ d ≤ 5 ^ 5 := Nat.pow_le_pow_right (by omega) hd
    have h4 : (5 : Nat) ^ 5 = 3125 := by decide
    exact paths_any x xa xn xc o W G hk hs.tidy (by omega) (by omega) ho1 ho2
  obtain ⟨ln, hln⟩ : ∃ z, ls.length = z := ⟨_, rfl⟩
  obtain ⟨id, hid⟩ : ∃ x, t.id = x := ⟨_, rfl⟩
  obtain ⟨kd, hkd⟩ : ∃ x, t.kind = x := ⟨_, rfl⟩
  obtain ⟨tx, htx⟩ : ∃ x, t.text = x := ⟨_, rfl⟩
  rw [hln] at HTR ⊢
  rw [hid, hkd, htx] at hw1 k1 HTD
  rw [hid, hkd, htx]
  have HW1 := Lib.hid hw1; have HQ := Lib.hid hq; have HB1 := Lib.hid b1; have HK1 := Lib.hid k1
  clear hl hwl hn hq hw1 b1 k1 hln hid hkd htx
  go_enter Try.func4, Try.ntmps4
  go_wp2_with fail
  rw [HW1.out, HQ.out]
  refine HTR.out.mono ?_
  rintro e w2 ⟨x, xa, xn, xc, rfl, hkv, hsm, _, b2⟩
  have HT1 := Lib.hid (HTX.out 5 x xa xn xc w2 _ (Nat.le_refl _) hkv hsm)
  have HB2 := Lib.hid b2
  unfold ndv
  obtain ⟨xi, hxi⟩ : ∃ z, x.id = z := ⟨_, rfl⟩
  obtain ⟨xk, hxk⟩ : ∃ z, x.kind = z := ⟨_, rfl⟩
  obtain ⟨xt, hxt⟩ : ∃ z, x.text = z := ⟨_, rfl⟩
  rw [hxi, hxk, hxt] at HT1
  rw [hxi, hxk, hxt]
  clear hkv hsm b2 hxi hxk hxt
  go_wp2_with fail
  refine HT1.out.mono ?_
  rintro e w3 ⟨rfl, b3⟩
  have HB3 : Hid (Below w.heap.size w w3) := HB1.out.trans ((HB2.out.mono HB1.out.size).trans (b3.mono (by have := HB1.out.size; have := HB2.out.size; omega)))
  have k3 := HK1.out.same ((HB2.out.trans (b3.mono HB2.out.size)).block q HK1.out.lt)
  have e0 := k3.cell 0
  have e1 := k3.cell 1
  have e2 := k3.cell 2
  have e3 := k3.cell 3
  simp only [List.getElem?_toArray, List.getElem?_cons_zero, List.getElem?_cons_succ] at e0 e1 e2 e3
  clear b3 k3
  go_wp2_with fail
  refine (HTD.out w3 HB3.out).mono ?_
  rintro e w4 ⟨y, ya, yn, yc, rfl, hkv4, hsm4, b4⟩
  have HT2 := Lib.hid (HTX.out 4 y ya yn yc w4 _ (by omega) hkv4 hsm4)
  have HB4 : Hid (Below w.heap.size w w4) := HB3.out.trans (b4.mono HB3.out.size)
  unfold ndv
  obtain ⟨yi, hyi⟩ : ∃ z, y.id = z := ⟨_, rfl⟩
  obtain ⟨yk, hyk⟩ : ∃ z, y.kind = z := ⟨_, rfl⟩
  obtain ⟨yt, hyt⟩ : ∃ z, y.text = z := ⟨_, rfl⟩
  rw [hyi, hyk, hyt] at HT2
  rw [hyi, hyk, hyt]
  clear hkv4 hsm4 b4 hyi hyk hyt e0 e1 e2 e3
  go_wp2_with fail
  refine HT2.out.mono ?_
  rintro e w5 ⟨rfl, b5⟩
  have HB5 : Hid (Below w.heap.size w w5) := HB4.out.trans (b5.mono HB4.out.size)
  clear b5
  go_wp2_with fail
  refine (lives_any w5).mono ?_
  rintro e w6 ⟨rfl, b6⟩
  have HF := Lib.hid (HB5.out.trans (b6.mono HB5.out.size))
  clear b6
  go_wp2
  go_ret
  exact ⟨rfl, HF.out⟩

end Go.Proofs.Ytfecajeenmnoeaa
