/- SameInts compares. Conditions: at most 100000 elements. -/
import Derived.Test.YtfecajeenmnoeaaBase
namespace Go.Proofs.Ytfecajeenmnoeaa
open Go.RowKit Go.Shelf

set_option maxRecDepth 100000 in
set_option maxHeartbeats 1000000 in
theorem sameInts_any (a b : Option Addr) (ca cb : Nat) (xs ys : List Int) (w : World) (hx : Sli .i64 w a ca xs) (hy : Sli .i64 w b cb ys) (hl : xs.length ≤ 100000) (_hl2 : ys.length ≤ 100000) :
    Calls Try.prog 27 #[.slice a xs.length ca, .slice b ys.length cb] w fun e w' => e = .returned (.bool (decide (xs = ys))) ∧ Below w.heap.size w w' := by
  by_cases hne : xs.length = ys.length
  · have HX := Lib.hid hx.cells
    have HY := Lib.hid hy.cells
    obtain ⟨n, hn⟩ : ∃ n, xs.length = n := ⟨_, rfl⟩
    rw [← hne, hn]
    have hn2 : ys.length = n := by omega
    have HN := Lib.hid hn
    have HN2 := Lib.hid hn2
    have hln : n ≤ 100000 := by omega
    clear hx hy hne hn hn2 hl
    go_enter Try.func27, Try.ntmps27
    go_wp2
    go_loopw [5] (fun i wr => ∃ k : Nat, k ≤ n ∧ i = .int .i64 k ∧ xs.take k = ys.take k ∧ Below w.heap.size w wr) (fun i _ => n - (intOf i).toNat)
    case atStart => exact ⟨0, Nat.zero_le _, rfl, rfl, Below.refl _ _⟩
    case round =>
      obtain ⟨k, hk, rfl, htk, hB⟩ := hrel
      have HTK := Lib.hid htk
      clear htk
      by_cases hlt : k < n
      · have HX2 := HX.out.below hB
        have HY2 := HY.out.below hB
        rcases HX2 with h | ⟨b1, o1, h1, _, hc1⟩
        · exact absurd (congrArg List.length h) (by rw [HN.out]; simp; omega)
        rcases HY2 with h | ⟨b2, o2, h2, _, hc2⟩
        · exact absurd (congrArg List.length h) (by rw [HN2.out]; simp; omega)
        have hk1 := hc1 k (by rw [HN.out]; omega)
        have hk2 := hc2 k (by rw [HN2.out]; omega)
        have hstep := take_step xs ys k (by rw [HN.out]; omega) (by rw [HN2.out]; omega) HTK.out
        have hstop := take_stop xs ys k (by rw [HN.out]; omega) (by rw [HN2.out]; omega)
        generalize xs[k]?.getD 0 = x at hk1 hstep hstop
        generalize ys[k]?.getD 0 = y at hk2 hstep hstop
        have HS := Lib.hid hstep
        have HS2 := Lib.hid hstop
        clear hc1 hc2 hstep hstop
        subst h1 h2
        by_cases hxy : x = y
        · have HXY := Lib.hid hxy
          have hq : (x != y) = false := by simp [hxy]
          clear hxy
          go_wp2
          go_quiet (fail)
          go_wp2
          go_roundw
          case rel => exact ⟨k + 1, by omega, by go_num, HS.out HXY.out, below_drewN hB _⟩
          case measure => simp [intOf]; omega
        · have HXY := Lib.hid hxy
          have hq : (x != y) = true := by simp [hxy]
          clear hxy
          go_wp2
          go_quiet (fail)
          go_wp2
          go_ret
          exact ⟨by rw [decide_eq_false (HS2.out HXY.out)]; rfl, below_drewN hB _⟩
      · have hkn : k = n := by omega
        subst hkn
        go_wp2
        go_ret
        exact ⟨by rw [decide_eq_true (by have := HTK.out; rwa [List.take_of_length_le (by rw [HN.out]; omega), List.take_of_length_le (by rw [HN2.out]; omega)] at this)]; rfl, hB⟩
  · have hq : ((xs.length : Int) != (ys.length : Int)) = true := by simp; omega
    have hf : decide (xs = ys) = false := decide_eq_false (fun h => hne (by rw [h]))
    rw [hf]
    clear hf hne
    go_enter Try.func27, Try.ntmps27
    go_wp2
    go_ret
    exact ⟨rfl, Below.refl _ _⟩

end Go.Proofs.Ytfecajeenmnoeaa
