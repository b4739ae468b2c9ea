/- EIw, with the texts that only it needs in front of it: EDw. It has no conditions. -/
import Derived.Test.YtfhpllcdlejfjaaEDg
import Derived.Test.YtfhpllcdlejfjaaELv
import Derived.Test.YtfhpllcdlejfjaaERi
import Derived.Test.YtfhpllcdlejfjaaEOp

/- The walk of EditDiff. It has no conditions. -/
namespace Go.Proofs.Ytfhpllcdlejfjaa
open Go.RowKit Go.Shelf
set_option linter.unusedVariables false

theorem appl_le {s : List Int} {c : Nat} : ∀ {l : List Ee} {p : Nat}, Vld s.length p l → (∀ e ∈ l, e.x.length ≤ c) → (appl s p l).length ≤ s.length - p + c * l.length := by
  intro l
  induction l with
  | nil => intro p h _; simp [appl]
  | cons e l ih =>
    intro p h hx
    obtain ⟨h1, h2, h3, h4⟩ := h
    have hm := mid_len (s := s) h1 (by omega)
    have hi := ih h4 (fun x h => hx x (by simp [h]))
    have he := hx e (by simp)
    simp only [appl, List.length_append, hm, List.length_cons, Nat.mul_add, Nat.mul_one]
    omega
theorem apS_size {s : ByteArray} {es : List Er} {c : Nat} (h : vErr (s.size : Int) es = 0) (hx : ∀ e ∈ es, e.x.size ≤ c) : (apS s es).size ≤ s.size + c * es.length := by
  have h1 := apS_ok h
  have h2 := (vErr_ok h).2.1
  rw [← sb_len (apS s es), h1]
  have := appl_le (s := sb s) (c := c) (l := ees es) (p := 0) (by rw [sb_len]; exact h2) (fun e he => by
    obtain ⟨x, hx', rfl⟩ := List.mem_map.1 he
    show (sb x.x).length ≤ c
    rw [sb_len]; exact hx x hx')
  rw [sb_len, ees_len] at this
  omega

set_option maxRecDepth 100000 in
set_option maxHeartbeats 4000000 in
theorem walkDiff (a b : ByteArray) (ha : a.size ≤ 9223372036854775807) (hb : b.size ≤ 9223372036854775807) (a1 : Option Addr) (cap1 : Nat) (ls : List Int) (w : World)
    (h1 : Sli .i64 w a1 cap1 ls) (hi : ∀ n ∈ ls, -9223372036854775808 ≤ n ∧ n ≤ 9223372036854775807) :
    Calls Try.prog 10 #[.string a, .string b, .slice a1 ls.length cap1] w fun e w' => e = .returned (.bool true) ∧ Below w.heap.size w w' := by
  obtain ⟨x, hx⟩ : ∃ t, shS a 30 = t := ⟨_, rfl⟩
  obtain ⟨y, hy⟩ : ∃ t, shS b 30 = t := ⟨_, rfl⟩
  have hxl : x.size ≤ 30 := by rw [← hx]; exact shS_size a 30
  have hyl : y.size ≤ 30 := by rw [← hy]; exact shS_size b 30
  have cA := fun W => short_any a 30 W ha (by omega)
  have cB := fun W => short_any b 30 W hb (by omega)
  rw [hx] at cA
  rw [hy] at cB
  obtain ⟨n1, hn1⟩ : ∃ n, ls.length = n := ⟨_, rfl⟩
  have hsl : SlI w.heap.size w a1 n1 := by have := SlI.of h1 hi; rwa [hn1] at this
  have cR := raw_any x a1 n1 cap1 w (by omega) hsl (by have := h1.le; omega) h1.mx
  rw [hn1]
  have CA := Lib.hid cA; have CB := Lib.hid cB; have CR := Lib.hid cR
  clear cA cB cR h1 hi hx hy hsl
  go_enter Try.func10, Try.ntmps10
  go_wp2_with fail
  refine (CA.out _).mono ?_
  rintro e w' ⟨rfl, rfl⟩
  go_wp2_with fail
  refine (CB.out _).mono ?_
  rintro e w' ⟨rfl, rfl⟩
  go_wp2_with fail
  refine CR.out.mono ?_
  rintro e w1 ⟨xs, v1, rfl, hx1, hx2, hx3, hown1, hb1⟩
  obtain ⟨_, ax, cx, rfl, hX⟩ := es_of_own hown1
  have hxok := vErr_ok hx2
  have A1 := papply_any x ax cx xs w1 (by omega) (by omega) (fun e he => by
    have h1 := hxok.2.2 e he
    have h2 := (hx3 e he).1
    exact ⟨by omega, by omega, by omega, by omega, by omega⟩) hX
  have hz := apS_size (c := 7) hx2 (fun e he => (hx3 e he).1)
  obtain ⟨z, hzz⟩ : ∃ z, apS x xs = z := ⟨_, rfl⟩
  rw [hx2, hzz] at A1
  rw [hzz] at hz
  have hzl : z.size ≤ 1000 := by have := Nat.mul_le_mul_left 7 hx1; omega
  have D1 := Lib.hid (fun W => differs_any x y W (by omega) (by omega))
  have D2 := Lib.hid (fun W => differs_any x z W (by omega) hzl)
  have D3 := Lib.hid (fun W => pdiff_same x W)
  obtain ⟨nx, hnx⟩ : ∃ n, xs.length = n := ⟨_, rfl⟩
  rw [hnx] at A1 ⊢
  have H1 := Lib.hid hb1
  clear hown1 hX hxok hx2 hx3 hb1 hz hzz
  go_wp2_with fail
  refine A1.mono ?_
  rintro e w2 ⟨rfl, b2⟩
  have H2 := Lib.hid (H1.out.trans (b2.mono H1.out.size))
  clear b2
  go_wp2_with fail
  refine (D1.out _).mono ?_
  rintro e w3 ⟨rfl, b3⟩
  have H3 := Lib.hid (H2.out.trans (b3.mono H2.out.size))
  clear b3
  go_wp2_with fail
  refine (D2.out _).mono ?_
  rintro e w4 ⟨rfl, b4⟩
  have H4 := Lib.hid (H3.out.trans (b4.mono H3.out.size))
  clear b4
  go_wp2_with fail
  refine (D3.out _).mono ?_
  rintro e w5 ⟨rfl, b5⟩
  have H5 := Lib.hid (H4.out.trans (b5.mono H4.out.size))
  clear b5
  go_wp2_with fail
  refine (lives_any _).mono ?_
  rintro e w6 ⟨rfl, b6⟩
  have H6 := Lib.hid (H5.out.trans (b6.mono H5.out.size))
  clear b6
  go_wp2
  go_ret
  exact ⟨rfl, H6.out⟩

end Go.Proofs.Ytfhpllcdlejfjaa

/- The walk of EditInvert. It has no conditions. -/
namespace Go.Proofs.Ytfhpllcdlejfjaa
open Go.RowKit Go.Shelf
set_option linter.unusedVariables false

theorem invl_byt {s : List Int} (hs : Byt s) : ∀ (l : List Ee) (p q : Nat), ∀ e ∈ invl s p q l, Byt e.x := by
  intro l
  induction l with
  | nil => intro p q e he; simp [invl] at he
  | cons e l ih =>
    intro p q x hx
    simp only [invl, List.mem_cons] at hx
    rcases hx with rfl | hx
    · exact (hs.drop _).take _
    · exact ih _ _ x hx
theorem invl_short {s : List Int} : ∀ (l : List Ee) (p q : Nat), ∀ e ∈ invl s p q l, e.x.length ≤ s.length := by
  intro l
  induction l with
  | nil => intro p q e he; simp [invl] at he
  | cons e l ih =>
    intro p q x hx
    simp only [invl, List.mem_cons] at hx
    rcases hx with rfl | hx
    · simp only [List.length_take, List.length_drop]; omega
    · exact ih _ _ x hx
theorem iv_ok {s : ByteArray} {es : List Er} (hv : vErr (s.size : Int) es = 0) :
    vErr ((apS s es).size : Int) (ivS s es) = 0 ∧ apS (apS s es) (ivS s es) = s ∧ (ivS s es).length = es.length ∧ ∀ e ∈ ivS s es, e.x.size ≤ s.size := by
  obtain ⟨hl, hvld, _⟩ := vErr_ok hv
  have hiv : ivS s es = ers (invl (sb s) 0 0 (ees es)) := by unfold ivS; rw [if_pos hv]
  have hvld' : Vld (sb s).length 0 (ees es) := by rw [sb_len]; exact hvld
  have hap := apS_ok hv
  have hb := invl_byt (sb_byt s) (ees es) 0 0
  have hsz : (appl (sb s) 0 (ees es)).length = (apS s es).size := by rw [← sb_len (apS s es), hap]
  have h1 := invl_vld (q := 0) hvld'
  rw [Nat.zero_add, hsz] at h1
  have h2 := appl_invl (s := sb s) (l := ees es) (p := 0) (q := 0) (pre := []) hvld' rfl
  rw [List.nil_append, List.drop_zero] at h2
  have hlen : (invl (sb s) 0 0 (ees es)).length = es.length := by rw [invl_len, ees_len]
  have hve : vErr ((apS s es).size : Int) (ivS s es) = 0 := by rw [hiv]; exact vErr_ers h1 (by rw [hlen]; exact hl) hb
  refine ⟨hve, ?_, by rw [hiv, ers_len, hlen], ?_⟩
  · apply sb_inj
    rw [apS_ok hve, hap, hiv, ees_ers hb]
    exact h2
  · intro e he
    rw [hiv] at he
    obtain ⟨x, hx, rfl⟩ := List.mem_map.1 he
    have := invl_short (s := sb s) (ees es) 0 0 x hx
    rw [sb_len] at this
    show (bs x.x).size ≤ s.size
    rw [bs_size]; exact this
/-- Valid edits with short texts fit. -/
theorem fit_of {n : Nat} {es : List Er} (hv : vErr (n : Int) es = 0) (hn : n ≤ 10000000) (hx : ∀ e ∈ es, e.x.size ≤ 100000) : ∀ e ∈ es, e.Fit := by
  intro e he
  have h1 := (vErr_ok hv).2.2 e he
  have h2 := hx e he
  exact ⟨by omega, by omega, by omega, by omega, h2⟩
theorem SlI.on {w w' : World} {a : Option Addr} {n : Nat} (h : SlI w.heap.size w a n) (hb : Below w.heap.size w w') : SlI w'.heap.size w' a n := by
  rcases h.below hb with h0 | ⟨b, off, x1, x2, x3⟩
  · exact .inl h0
  · exact .inr ⟨b, off, x1, by have := hb.size; omega, x3⟩

set_option maxRecDepth 100000 in
set_option maxHeartbeats 4000000 in
theorem walkInvert (s : ByteArray) (hs : s.size ≤ 9223372036854775807) (a1 : Option Addr) (cap1 : Nat) (ls : List Int) (a2 : Option Addr) (cap2 : Nat) (es : List Er) (w : World)
    (h1 : Sli .i64 w a1 cap1 ls) (hi : ∀ n ∈ ls, -9223372036854775808 ≤ n ∧ n ≤ 9223372036854775807) (hbig : ∀ e ∈ es, e.Big) (hE : ES w.heap.size w a2 cap2 es) :
    Calls Try.prog 5 #[.string s, .slice a1 ls.length cap1, .slice a2 es.length cap2] w fun e w' => e = .returned (.bool true) ∧ Below w.heap.size w w' := by
  obtain ⟨t, ht⟩ : ∃ t, shS s 60 = t := ⟨_, rfl⟩
  have htl : t.size ≤ 60 := by rw [← ht]; exact shS_size s 60
  have cS := fun W => short_any s 60 W hs (by omega)
  rw [ht] at cS
  obtain ⟨n1, hn1⟩ : ∃ n, ls.length = n := ⟨_, rfl⟩
  obtain ⟨n2, hn2⟩ : ∃ n, es.length = n := ⟨_, rfl⟩
  have hsl : SlI w.heap.size w a1 n1 := by have := SlI.of h1 hi; rwa [hn1] at this
  have hc1 : n1 ≤ cap1 := by have := h1.le; omega
  have hm1 := h1.mx
  have cR := raw_any t a1 n1 cap1 w (by omega) hsl hc1 hm1
  have cF : Hid (∀ W, Below w.heap.size w W → Calls Try.prog 15 #[.slice a2 n2 cap2, .int .i64 6] W fun e w' => ∃ v, e = .returned v ∧ w'.ownsRow W.heap.size 32 3 v (fewE es 6).length (rv (fewE es 6)) ∧ Below W.heap.size W w') := by
    intro W hW
    have := few_any a2 cap2 6 es W (by omega) hbig (hE.on hW)
    rwa [hn2] at this
  have hfit6 := fewE_fit (m := 6) hbig
  have hl6 : (fewE es 6).length ≤ 6 := by rw [fewE_len]; exact Nat.min_le_left _ _
  obtain ⟨f0, hf0⟩ : ∃ f, fewE es 6 = f := ⟨_, rfl⟩
  rw [hf0] at cF hfit6 hl6
  rw [hn1, hn2]
  have CS := Lib.hid cS; have CR := Lib.hid cR; have HF6 := Lib.hid hfit6
  clear cS cR hE hbig h1 hi hf0 ht hfit6 hsl
  go_enter Try.func5, Try.ntmps5
  go_wp2_with fail
  refine (CS.out _).mono ?_
  rintro e w' ⟨rfl, rfl⟩
  go_wp2_with fail
  refine CR.out.mono ?_
  rintro e w1 ⟨xs, v1, rfl, hx1, hx2, hx3, hown1, hb1⟩
  obtain ⟨_, ax, cx, rfl, hX⟩ := es_of_own hown1
  have hfx := fit_of hx2 (by omega) (fun e he => by have := (hx3 e he).1; omega)
  obtain ⟨o1, o2, o3, o4⟩ := iv_ok hx2
  have hz := apS_size (c := 7) hx2 (fun e he => (hx3 e he).1)
  have hz2 : (apS t xs).size ≤ 1000 := by have := Nat.mul_le_mul_left 7 hx1; omega
  have P1 := fun W (hW : Below w1.heap.size w1 W) => pinvert_any t ax cx xs W (by omega) (by omega) hfx (hX.on hW)
  have P2 := fun W (hW : Below w1.heap.size w1 W) => rinvert_any t ax cx xs W (by omega) (by omega) hfx (hX.on hW)
  have P3 := fun W (hW : Below w1.heap.size w1 W) => papply_any t ax cx xs W (by omega) (by omega) hfx (hX.on hW)
  obtain ⟨nx, hnx⟩ : ∃ n, xs.length = n := ⟨_, rfl⟩
  obtain ⟨Y, hY⟩ : ∃ y, ivS t xs = y := ⟨_, rfl⟩
  obtain ⟨z, hzz⟩ : ∃ z, apS t xs = z := ⟨_, rfl⟩
  rw [hx2, hY, hnx] at P1 P2
  rw [hx2, hzz, hnx] at P3
  rw [hY, hzz] at o1 o2
  rw [hY] at o3 o4
  rw [hzz] at hz2
  rw [hnx] at o3 ⊢
  have hfy := fit_of o1 (by omega) (fun e he => by have := o4 e he; omega)
  obtain ⟨ny, hny⟩ : ∃ n, Y.length = n := ⟨_, rfl⟩
  have hny5 : ny ≤ 5 := by omega
  have H1 := Lib.hid hb1; have HP1 := Lib.hid P1; have HP2 := Lib.hid P2; have HP3 := Lib.hid P3; have HO1 := Lib.hid o1; have HO2 := Lib.hid o2; have HFY := Lib.hid hfy; have HNY := Lib.hid hny
  clear hown1 hX hb1 P1 P2 P3 o1 o2 o4 hfy hz hfx hx2 hx3 hY hzz
  go_wp2_with fail
  refine (HP1.out _ (Below.refl _ _)).mono ?_
  rintro e w2 ⟨a2', c2', rfl, hE2, b2⟩
  rw [HNY.out]
  have HE2 := Lib.hid hE2; have K2 := Lib.hid b2
  clear hE2 b2
  go_wp2_with fail
  refine (HP2.out _ K2.out).mono ?_
  rintro e w3 ⟨a3, c3, rfl, hE3, b3⟩
  rw [HNY.out]
  have K23 := Lib.hid b3
  have K3 := Lib.hid (K2.out.trans (b3.mono K2.out.size)); have HE3 := Lib.hid hE3
  clear hE3 b3
  go_wp2_with fail
  refine (HP3.out _ K3.out).mono ?_
  rintro e w4 ⟨rfl, b4⟩
  have K34 := Lib.hid b4
  have K4 := Lib.hid (K3.out.trans (b4.mono K3.out.size))
  have K24 := Lib.hid (K23.out.trans (b4.mono K23.out.size))
  clear b4
  have P4 := papply_any z a2' c2' Y w4 (by omega) (by have := HNY.out; omega) HFY.out (HE2.out.on K24.out)
  rw [HO1.out, HO2.out, HNY.out] at P4
  have HP4 := Lib.hid P4
  clear P4
  go_wp2_with fail
  refine HP4.out.mono ?_
  rintro e w5 ⟨rfl, b5⟩
  have K5 := Lib.hid (K4.out.trans (b5.mono K4.out.size))
  have K25 := Lib.hid (K24.out.trans (b5.mono K24.out.size))
  have K35 := Lib.hid (K34.out.trans (b5.mono K34.out.size))
  clear b5
  have S1 := same_any a2' a3 c2' c3 Y w5 (by have := HNY.out; omega) (HE2.out.on K25.out) (HE3.out.on K35.out)
  rw [HNY.out] at S1
  have HS1 := Lib.hid S1
  clear S1
  have q1 : (t.toList != t.toList) = false := by simp
  have q2 : (t.toList == t.toList) = true := by simp
  go_wp2_with fail
  refine HS1.out.mono ?_
  rintro e w6 ⟨rfl, b6⟩
  have K6 := Lib.hid (H1.out.trans ((K5.out.trans (b6.mono K5.out.size)).mono H1.out.size))
  clear b6
  go_wp2_with fail
  refine (cF.out _ K6.out).mono ?_
  rintro e w7 ⟨v7, rfl, hown7, b7⟩
  obtain ⟨_, af, cf, rfl, hX7⟩ := es_of_own hown7
  have hff : ∀ e ∈ f0, e.Fit := fun e he => (HF6.out e he).1
  have P7 := fun W (hW : Below w7.heap.size w7 W) => pinvert_any t af cf f0 W (by omega) (by omega) hff (hX7.on hW)
  have P8 := fun W (hW : Below w7.heap.size w7 W) => rinvert_any t af cf f0 W (by omega) (by omega) hff (hX7.on hW)
  obtain ⟨Z, hZ⟩ : ∃ y, ivS t f0 = y := ⟨_, rfl⟩
  have hZl : Z.length ≤ 6 := by
    rw [← hZ]; unfold ivS
    split
    · rw [ers_len, invl_len, ees_len]; exact hl6
    · simp
  obtain ⟨er7, her7⟩ : ∃ y, vErr (t.size : Int) f0 = y := ⟨_, rfl⟩
  obtain ⟨nf, hnf⟩ : ∃ n, f0.length = n := ⟨_, rfl⟩
  rw [hZ, her7, hnf] at P7 P8
  rw [hnf]
  have q3 : (er7 == er7) = true := by simp
  have K7 := Lib.hid (K6.out.trans (b7.mono K6.out.size)); have HP7 := Lib.hid P7; have HP8 := Lib.hid P8
  clear hown7 hX7 b7 P7 P8 hZ her7 hff
  go_wp2_with fail
  refine (HP7.out _ (Below.refl _ _)).mono ?_
  rintro e w8 ⟨a8, c8, rfl, hE8, b8⟩
  have HE8 := Lib.hid hE8; have K8 := Lib.hid b8
  clear hE8 b8
  go_wp2_with fail
  refine (HP8.out _ K8.out).mono ?_
  rintro e w9 ⟨a9, c9, rfl, hE9, b9⟩
  have S2 := same_any a8 a9 c8 c9 Z w9 (by omega) (HE8.out.on b9) hE9
  have K9 := Lib.hid (K7.out.trans ((K8.out.trans (b9.mono K8.out.size)).mono K7.out.size))
  have HS2 := Lib.hid S2
  clear hE9 b9 S2
  go_wp2_with fail
  refine HS2.out.mono ?_
  rintro e u1 ⟨rfl, b10⟩
  have K10 := Lib.hid (K9.out.trans (b10.mono K9.out.size))
  clear b10
  go_wp2_with fail
  refine (lives_any _).mono ?_
  rintro e u2 ⟨rfl, b11⟩
  have K11 := Lib.hid (K10.out.trans (b11.mono K10.out.size))
  clear b11
  go_wp2
  go_ret
  exact ⟨rfl, K11.out⟩

end Go.Proofs.Ytfhpllcdlejfjaa
