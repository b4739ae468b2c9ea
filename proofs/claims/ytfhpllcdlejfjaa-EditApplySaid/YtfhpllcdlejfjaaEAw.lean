/- The walk of EditApply. It has no conditions. -/
import Derived.Test.YtfhpllcdlejfjaaELv
import Derived.Test.YtfhpllcdlejfjaaEVs
import Derived.Test.YtfhpllcdlejfjaaEFw
import Derived.Test.YtfhpllcdlejfjaaEOp
namespace Go.Proofs.Ytfhpllcdlejfjaa
open Go.RowKit Go.Shelf
set_option linter.unusedVariables false

set_option maxRecDepth 100000 in
set_option maxHeartbeats 2000000 in
theorem applies_any (s : ByteArray) (a : Option Addr) (cap : Nat) (es : List Er) (w : World) (hs : s.size ≤ 10000000) (hn : es.length ≤ 1000) (hfit : ∀ e ∈ es, e.Fit) (hS : ES w.heap.size w a cap es) :
    Calls Try.prog 14 #[.string s, .slice a es.length cap] w fun e w' => e = .returned (.bool true) ∧ Below w.heap.size w w' := by
  have C1 := Lib.hid (fun W (hW : Below w.heap.size w W) => papply_any s a cap es W hs hn hfit (hS.on hW))
  have C2 := Lib.hid (fun W (hW : Below w.heap.size w W) => rapply_any s a cap es W hs hn hfit (hS.on hW))
  have C3 := Lib.hid (fun W (hW : Below w.heap.size w W) => pvalid_any s a cap es W hs hn hfit (hS.on hW))
  have C4 := Lib.hid (fun W (hW : Below w.heap.size w W) => rvalid_any s a cap es W hs hn hfit (hS.on hW))
  obtain ⟨n, hn'⟩ : ∃ n, es.length = n := ⟨_, rfl⟩
  obtain ⟨er, her⟩ : ∃ r, vErr (s.size : Int) es = r := ⟨_, rfl⟩
  obtain ⟨t, ht⟩ : ∃ t, apS s es = t := ⟨_, rfl⟩
  rw [her, ht] at C1 C2
  rw [her] at C3 C4
  rw [hn'] at C1 C2 C3 C4 ⊢
  have q1 : (er == er) = true := by simp
  have q2 : (t.toList == t.toList) = true := by simp
  clear hS hfit her ht
  go_enter Try.func14, Try.ntmps14
  go_wp2_with fail
  refine (C1.out _ (Below.refl _ _)).mono ?_
  rintro e w1 ⟨rfl, b1⟩
  have H1 := Lib.hid b1
  clear b1
  go_wp2_with fail
  refine (C2.out _ H1.out).mono ?_
  rintro e w2 ⟨rfl, b2⟩
  have H2 := Lib.hid (H1.out.trans (b2.mono H1.out.size))
  clear b2
  go_wp2_with fail
  refine (C3.out _ H2.out).mono ?_
  rintro e w3 ⟨rfl, b3⟩
  have H3 := Lib.hid (H2.out.trans (b3.mono H2.out.size))
  clear b3
  go_wp2_with fail
  refine (C4.out _ H3.out).mono ?_
  rintro e w4 ⟨rfl, b4⟩
  have H4 := Lib.hid (H3.out.trans (b4.mono H3.out.size))
  clear b4
  go_wp2
  go_ret
  exact ⟨rfl, H4.out⟩

set_option maxRecDepth 100000 in
set_option maxHeartbeats 4000000 in
theorem walkApply (s : ByteArray) (hs : s.size ≤ 9223372036854775807) (a2 : Option Addr) (cap2 : Nat) (es : List Er) (a1 : Option Addr) (cap1 : Nat) (ls : List Int) (w : World)
    (h1 : Sli .i64 w a1 cap1 ls) (hi : ∀ n ∈ ls, -9223372036854775808 ≤ n ∧ n ≤ 9223372036854775807) (hbig : ∀ e ∈ es, e.Big) (hE : ES w.heap.size w a2 cap2 es) :
    Calls Try.prog 3 #[.string s, .slice a2 es.length cap2, .slice a1 ls.length cap1] w fun e w' => e = .returned (.bool true) ∧ Below w.heap.size w w' := by
  obtain ⟨t, ht⟩ : ∃ t, shS s 40 = t := ⟨_, rfl⟩
  have htl : t.size ≤ 40 := by rw [← ht]; exact shS_size s 40
  have cS := fun W => short_any s 40 W hs (by omega)
  rw [ht] at cS
  obtain ⟨n1, hn1⟩ : ∃ n, ls.length = n := ⟨_, rfl⟩
  obtain ⟨n2, hn2⟩ : ∃ n, es.length = n := ⟨_, rfl⟩
  have hsl : SlI w.heap.size w a1 n1 := by have := SlI.of h1 hi; rwa [hn1] at this
  have hc1 : n1 ≤ cap1 := by have := h1.le; omega
  have hm1 := h1.mx
  have cR := fun W (hW : Below w.heap.size w W) => raw_any t a1 n1 cap1 W (by omega) (by
    have := hsl.below hW
    rcases this with h0 | ⟨b, off, x1, x2, x3⟩
    · exact .inl h0
    · exact .inr ⟨b, off, x1, by have := hW.size; omega, x3⟩) hc1 hm1
  have cF := few_any a2 cap2 6 es w (by omega) hbig hE
  have hfit6 := fewE_fit (m := 6) hbig
  have hl6 : (fewE es 6).length ≤ 6 := by rw [fewE_len]; exact Nat.min_le_left _ _
  obtain ⟨f0, hf0⟩ : ∃ f, fewE es 6 = f := ⟨_, rfl⟩
  rw [hf0] at cF hfit6 hl6
  rw [hn2] at cF ⊢
  rw [hn1]
  have CS := Lib.hid cS; have CR := Lib.hid cR; have HF6 := Lib.hid hfit6; have CF := Lib.hid cF
  clear cS cR cF hE hbig h1 hi hf0 ht hfit6 hsl
  go_enter Try.func3, Try.ntmps3
  go_wp2_with fail
  refine (CS.out _).mono ?_
  rintro e w' ⟨rfl, rfl⟩
  go_wp2_with fail
  refine CF.out.mono ?_
  rintro e w1 ⟨v1, rfl, hown1, hb1⟩
  obtain ⟨_, af, cf, rfl, hX⟩ := es_of_own hown1
  have D1 := applies_any t af cf f0 w1 (by omega) (by omega) (fun e he => (HF6.out e he).1) hX
  obtain ⟨L, hL⟩ : ∃ L, f0.length = L := ⟨_, rfl⟩
  rw [hL] at D1 ⊢
  have HB1 := Lib.hid hb1
  clear hown1 hX hb1
  go_wp2_with fail
  refine D1.mono ?_
  rintro e w2 ⟨rfl, b2⟩
  have H2 := Lib.hid (HB1.out.trans (b2.mono HB1.out.size))
  clear b2
  go_wp2_with fail
  refine (CR.out _ H2.out).mono ?_
  rintro e w3 ⟨xs, v3, rfl, hx1, hx2, hx3, hown3, hb3⟩
  obtain ⟨_, ax, cx, rfl, hX3⟩ := es_of_own hown3
  have hxok := vErr_ok hx2
  have D3 := applies_any t ax cx xs w3 (by omega) (by omega) (fun e he => by
    have h1 := hxok.2.2 e he
    have h2 := (hx3 e he).1
    exact ⟨by omega, by omega, by omega, by omega, by omega⟩) hX3
  obtain ⟨nx, hnx⟩ : ∃ n, xs.length = n := ⟨_, rfl⟩
  rw [hnx] at D3 ⊢
  have H3 := Lib.hid (H2.out.trans (hb3.mono H2.out.size))
  clear hown3 hX3 hb3 hxok hx2 hx3
  go_wp2_with fail
  refine D3.mono ?_
  rintro e w4 ⟨rfl, b4⟩
  have H4 := Lib.hid (H3.out.trans (b4.mono H3.out.size))
  clear b4
  go_wp2_with fail
  refine (lives_any _).mono ?_
  rintro e w5 ⟨rfl, b5⟩
  have H5 := Lib.hid (H4.out.trans (b5.mono H4.out.size))
  clear b5
  go_wp2
  go_ret
  exact ⟨rfl, H5.out⟩

end Go.Proofs.Ytfhpllcdlejfjaa
