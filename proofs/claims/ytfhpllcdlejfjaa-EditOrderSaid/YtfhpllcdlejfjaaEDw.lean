/- The walk of EditDiff. It has no conditions. -/
import Derived.Test.YtfhpllcdlejfjaaEDg
namespace Go.Proofs.Ytfhpllcdlejfjaa
open Go.RowKit Go.Shelf
set_option linter.unusedVariables false

theorem appl_le {s : List Int} {c : Nat} : ∀ {l : List Ee} {p : Nat}, Vld s.length p l → (∀ e ∈ l, e.x.length ≤ c) → (appl s p l).length ≤ s.length - p + c * l.length := by
  intro l
  induction l with
  | nil => intro p h _; simp [appl]
  | cons e l ih =>
    intro p h hx
    obtain ⟨h1, h2, h3, h4⟩ := h
    have hm := mid_len (s := s) h1 (by omega)
    have hi := ih h4 (fun x h => hx x (by simp [h]))
    have he := hx e (by simp)
    simp only [appl, List.length_append, hm, List.length_cons, Nat.mul_add, Nat.mul_one]
    omega
theorem apS_size {s : ByteArray} {es : List Er} {c : Nat} (h : vErr (s.size : Int) es = 0) (hx : ∀ e ∈ es, e.x.size ≤ c) : (apS s es).size ≤ s.size + c * es.length := by
  have h1 := apS_ok h
  have h2 := (vErr_ok h).2.1
  rw [← sb_len (apS s es), h1]
  have := appl_le (s := sb s) (c := c) (l := ees es) (p := 0) (by rw [sb_len]; exact h2) (fun e he => by
    obtain ⟨x, hx', rfl⟩ := List.mem_map.1 he
    show (sb x.x).length ≤ c
    rw [sb_len]; exact hx x hx')
  rw [sb_len, ees_len] at this
  omega

set_option maxRecDepth 100000 in
set_option maxHeartbeats 4000000 in
theorem walkDiff (a b : ByteArray) (ha : a.size ≤ 9223372036854775807) (hb : b.size ≤ 9223372036854775807) (a1 : Option Addr) (cap1 : Nat) (ls : List Int) (w : World)
    (h1 : Sli .i64 w a1 cap1 ls) (hi : ∀ n ∈ ls, -9223372036854775808 ≤ n ∧ n ≤ 9223372036854775807) :
    Calls Try.prog 10 #[.string a, .string b, .slice a1 ls.length cap1] w fun e w' => e = .returned (.bool true) ∧ Below w.heap.size w w' := by
  obtain ⟨x, hx⟩ : ∃ t, shS a 30 = t := ⟨_, rfl⟩
  obtain ⟨y, hy⟩ : ∃ t, shS b 30 = t := ⟨_, rfl⟩
  have hxl : x.size ≤ 30 := by rw [← hx]; exact shS_size a 30
  have hyl : y.size ≤ 30 := by rw [← hy]; exact shS_size b 30
  have cA := fun W => short_any a 30 W ha (by omega)
  have cB := fun W => short_any b 30 W hb (by omega)
  rw [hx] at cA
  rw [hy] at cB
  obtain ⟨n1, hn1⟩ : ∃ n, ls.length = n := ⟨_, rfl⟩
  have hsl : SlI w.heap.size w a1 n1 := by have := SlI.of h1 hi; rwa [hn1] at this
  have cR := raw_any x a1 n1 cap1 w (by omega) hsl (by have := h1.le; omega) h1.mx
  rw [hn1]
  have CA := Lib.hid cA; have CB := Lib.hid cB; have CR := Lib.hid cR
  clear cA cB cR h1 hi hx hy hsl
  go_enter Try.func10, Try.ntmps10
  go_wp2_with fail
  refine (CA.out _).mono ?_
  rintro e w' ⟨rfl, rfl⟩
  go_wp2_with fail
  refine (CB.out _).mono ?_
  rintro e w' ⟨rfl, rfl⟩
  go_wp2_with fail
  refine CR.out.mono ?_
  rintro e w1 ⟨xs, v1, rfl, hx1, hx2, hx3, hown1, hb1⟩
  obtain ⟨_, ax, cx, rfl, hX⟩ := es_of_own hown1
  have hxok := vErr_ok hx2
  have A1 := papply_any x ax cx xs w1 (by omega) (by omega) (fun e he => by
    have h1 := hxok.2.2 e he
    have h2 := (hx3 e he).1
    exact ⟨by omega, by omega, by omega, by omega, by omega⟩) hX
  have hz := apS_size (c := 7) hx2 (fun e he => (hx3 e he).1)
  obtain ⟨z, hzz⟩ : ∃ z, apS x xs = z := ⟨_, rfl⟩
  rw [hx2, hzz] at A1
  rw [hzz] at hz
  have hzl : z.size ≤ 1000 := by have := Nat.mul_le_mul_left 7 hx1; omega
  have D1 := Lib.hid (fun W => differs_any x y W (by omega) (by omega))
  have D2 := Lib.hid (fun W => differs_any x z W (by omega) hzl)
  have D3 := Lib.hid (fun W => pdiff_same x W)
  obtain ⟨nx, hnx⟩ : ∃ n, xs.length = n := ⟨_, rfl⟩
  rw [hnx] at A1 ⊢
  have H1 := Lib.hid hb1
  clear hown1 hX hxok hx2 hx3 hb1 hz hzz
  go_wp2_with fail
  refine A1.mono ?_
  rintro e w2 ⟨rfl, b2⟩
  have H2 := Lib.hid (H1.out.trans (b2.mono H1.out.size))
  clear b2
  go_wp2_with fail
  refine (D1.out _).mono ?_
  rintro e w3 ⟨rfl, b3⟩
  have H3 := Lib.hid (H2.out.trans (b3.mono H2.out.size))
  clear b3
  go_wp2_with fail
  refine (D2.out _).mono ?_
  rintro e w4 ⟨rfl, b4⟩
  have H4 := Lib.hid (H3.out.trans (b4.mono H3.out.size))
  clear b4
  go_wp2_with fail
  refine (D3.out _).mono ?_
  rintro e w5 ⟨rfl, b5⟩
  have H5 := Lib.hid (H4.out.trans (b5.mono H4.out.size))
  clear b5
  go_wp2_with fail
  refine (lives_any _).mono ?_
  rintro e w6 ⟨rfl, b6⟩
  have H6 := Lib.hid (H5.out.trans (b6.mono H5.out.size))
  clear b6
  go_wp2
  go_ret
  exact ⟨rfl, H6.out⟩

end Go.Proofs.Ytfhpllcdlejfjaa
