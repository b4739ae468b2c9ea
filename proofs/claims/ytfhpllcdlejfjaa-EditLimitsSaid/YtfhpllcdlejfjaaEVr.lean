/- The contracts of the program's validFor and Valid. Conditions: texts of at most 10000000 bytes, lists of at most 1000 edits of 64-bit numbers. -/
import Derived.Test.YtfhpllcdlejfjaaEdE
namespace Go.Proofs.Ytfhpllcdlejfjaa
open Go.RowKit Go.Shelf
set_option linter.unusedVariables false

set_option maxRecDepth 100000 in
set_option maxHeartbeats 1000000 in
theorem vfor_any (z : Int) (a : Option Addr) (cap : Nat) (es : List Er) (w : World) (hz : 0 ≤ z) (hz2 : z ≤ 9223372036854775807) (hn : es.length ≤ 1000) (hfit : ∀ e ∈ es, e.Fit) (hS : ES w.heap.size w a cap es) :
    Calls Try.prog 45 #[.int .i64 z, .slice a es.length cap] w fun e w' => e = .returned (.int .i64 (vErr z es)) ∧ Below w.heap.size w w' := by
  obtain ⟨n, hn'⟩ : ∃ n, es.length = n := ⟨_, rfl⟩
  obtain ⟨R, hR⟩ : ∃ R, vErr z es = R := ⟨_, rfl⟩
  have hcap := hS.le
  rw [hR]
  rw [hn'] at hn hcap ⊢
  obtain ⟨B, hB⟩ : ∃ B, w.heap.size = B := ⟨_, rfl⟩
  by_cases hlim : 64 < n
  · have hl2 : (64 : Int) < (n : Int) := by omega
    have hRv : R = 4 := by rw [← hR]; unfold vErr; rw [if_pos (by omega)]
    clear hS hfit hR
    go_enter Try.func45, Try.ntmps45
    go_wp2
    go_ret
    exact ⟨by first | rfl | (rw [hRv]; rfl), Below.refl _ _⟩
  · have hl2 : ¬ (64 : Int) < (n : Int) := by omega
    have hRv : vE z 0 es = R := by rw [← hR]; unfold vErr; rw [if_neg (by omega)]
    obtain ⟨b, off, hab, hcell⟩ := hS.cells.core
    rw [hn'] at hab hcell
    rw [hB] at hab
    have HE := Lib.hid hn'; have HAB := Lib.hid hab; have HC := Lib.hid hcell; have HB := Lib.hid hB; have HF := Lib.hid hfit
    have H0 : Hid (vE z 0 (es.drop 0) = R) := hRv
    clear hS hfit hR hRv hab hcell hB hn'
    go_enter Try.func45, Try.ntmps45
    go_wp2_with fail
    go_loopw [5, 13] (fun u q wr => ∃ (k : Nat) (p : Int), k ≤ n ∧ u = .int .i64 p ∧ q = .int .i64 (k : Int) ∧ Hid (vE z p (es.drop k) = R) ∧ Hid (Below B w wr)) (fun _ q _ => n - (intOf q).toNat)
    case atStart => exact ⟨0, 0, by omega, rfl, rfl, H0, Below.refl _ _⟩
    case round =>
      obtain ⟨k, p, hk, rfl, rfl, HI, HR⟩ := hrel
      by_cases hlt : k < n
      · obtain ⟨ha, hbB⟩ := HAB.out.resolve_left (by omega)
        subst ha
        obtain ⟨c0, c1, c2⟩ := HC.out k hlt wr (HR.out.block b hbB)
        have hkk : (k : Int) < (n : Int) := by omega
        have hBr : B ≤ wr.heap.size := by have := HR.out.size; have := HB.out; omega
        have hstep := HI.out
        rw [eg_drop (by rw [HE.out]; exact hlt)] at hstep
        simp only [vE] at hstep
        obtain ⟨fit1, fit2, fit3, fit4, _⟩ := HF.out _ (eg_mem (es := es) (k := k) (by rw [HE.out]; exact hlt))
        obtain ⟨x, hx⟩ : ∃ x, (eg es k).f = x := ⟨_, rfl⟩
        obtain ⟨y, hy⟩ : ∃ y, (eg es k).t = y := ⟨_, rfl⟩
        obtain ⟨s, hs⟩ : ∃ s, (eg es k).x = s := ⟨_, rfl⟩
        rw [hx, hy] at hstep
        rw [hx] at c0 fit1 fit2
        rw [hy] at c1 fit3 fit4
        rw [hs] at c2
        have HA := Lib.hid (HR.out.alloc hBr (.cells #[.int .i64 x, .int .i64 y, .string s] 32))
        by_cases h1 : x < 0
        · have hr : R = 5 := by rw [← hstep, if_pos (.inl h1)]
          clear hstep hx hy hs
          go_wp2
          go_ret
          exact ⟨by first | rfl | (rw [hr]; rfl), by rw [HB.out]; exact HA.out⟩
        · by_cases h2 : y < x
          · have hr : R = 5 := by rw [← hstep, if_pos (.inr (.inl h2))]
            clear hstep hx hy hs
            go_wp2
            go_ret
            exact ⟨by first | rfl | (rw [hr]; rfl), by rw [HB.out]; exact HA.out⟩
          · by_cases h3 : z < y
            · have hr : R = 5 := by rw [← hstep, if_pos (.inr (.inr h3))]
              clear hstep hx hy hs
              go_wp2
              go_ret
              exact ⟨by first | rfl | (rw [hr]; rfl), by rw [HB.out]; exact HA.out⟩
            · by_cases h4 : x < p
              · have hr : R = 1 := by rw [← hstep, if_neg (by omega), if_pos h4]
                clear hstep hx hy hs
                go_wp2
                go_ret
                exact ⟨by first | rfl | (rw [hr]; rfl), by rw [HB.out]; exact HA.out⟩
              · have HR2 : Hid (vE z y (es.drop (k + 1)) = R) := by rw [← hstep, if_neg (by omega), if_neg h4]; exact rfl
                clear hstep hx hy hs
                go_wp2
                go_roundw
                case rel => exact ⟨k + 1, y, by omega, rfl, by go_num, HR2, HA.out⟩
                case measure => simp [intOf]; omega
      · obtain rfl : n = k := by omega
        have hr : R = 0 := by rw [← HI.out, List.drop_eq_nil_of_le (by rw [HE.out]; omega)]; rfl
        go_wp2
        go_ret
        exact ⟨by first | rfl | (rw [hr]; rfl), by rw [HB.out]; exact HR.out⟩

set_option maxRecDepth 100000 in
theorem pvalid_any (s : ByteArray) (a : Option Addr) (cap : Nat) (es : List Er) (w : World) (hs : s.size ≤ 10000000) (hn : es.length ≤ 1000) (hfit : ∀ e ∈ es, e.Fit) (hS : ES w.heap.size w a cap es) :
    Calls Try.prog 21 #[.string s, .slice a es.length cap] w fun e w' => e = .returned (.int .i64 (vErr (s.size : Int) es)) ∧ Below w.heap.size w w' := by
  have C := Lib.hid (vfor_any (s.size : Int) a cap es w (by omega) (by omega) hn hfit hS)
  clear hS hfit
  go_enter Try.func21, Try.ntmps21
  go_wp2_with fail
  refine C.out.mono ?_
  rintro e w2 ⟨rfl, hb⟩
  go_wp2
  go_ret
  exact ⟨rfl, hb⟩

end Go.Proofs.Ytfhpllcdlejfjaa
