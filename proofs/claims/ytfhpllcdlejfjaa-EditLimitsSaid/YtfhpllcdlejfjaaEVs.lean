/- The contracts of the reference's Valid, Apply and Same (at equal lists). Conditions: texts of at most 10000000 bytes, lists of at most 1000 edits. -/
import Derived.Test.YtfhpllcdlejfjaaEVr
import Derived.BigQuiet
import Derived.Deep.QuietTactic
namespace Go.Proofs.Ytfhpllcdlejfjaa
open Go.RowKit Go.Shelf
set_option linter.unusedVariables false

/-- Where the edit before ends. -/
def endB (es : List Er) (k : Nat) : Int := if k = 0 then 0 else (eg es (k - 1)).t

set_option maxRecDepth 100000 in
set_option maxHeartbeats 4000000 in
theorem rvalid_any (s : ByteArray) (a : Option Addr) (cap : Nat) (es : List Er) (w : World) (hs : s.size ≤ 10000000) (hn : es.length ≤ 1000) (hfit : ∀ e ∈ es, e.Fit) (hS : ES w.heap.size w a cap es) :
    Calls Try.prog 22 #[.string s, .slice a es.length cap] w fun e w' => e = .returned (.int .i64 (vErr (s.size : Int) es)) ∧ Below w.heap.size w w' := by
  obtain ⟨n, hn'⟩ : ∃ n, es.length = n := ⟨_, rfl⟩
  obtain ⟨R, hR⟩ : ∃ R, vErr (s.size : Int) es = R := ⟨_, rfl⟩
  have hcap := hS.le
  rw [hR]
  rw [hn'] at hn hcap ⊢
  obtain ⟨B, hB⟩ : ∃ B, w.heap.size = B := ⟨_, rfl⟩
  by_cases hlim : 64 < n
  · have hl2 : (64 : Int) < (n : Int) := by omega
    have hRv : R = 4 := by rw [← hR]; unfold vErr; rw [if_pos (by omega)]
    clear hS hfit hR
    go_enter Try.func22, Try.ntmps22
    go_wp2
    go_ret
    exact ⟨by first | rfl | (rw [hRv]; rfl), Below.refl _ _⟩
  · have hl2 : ¬ (64 : Int) < (n : Int) := by omega
    have hRv : vE (s.size : Int) 0 es = R := by rw [← hR]; unfold vErr; rw [if_neg (by omega)]
    obtain ⟨b, off, hab, hcell⟩ := hS.cells.core
    rw [hn'] at hab hcell
    rw [hB] at hab
    have HE := Lib.hid hn'; have HAB := Lib.hid hab; have HC := Lib.hid hcell; have HB := Lib.hid hB; have HF := Lib.hid hfit
    have H0 : Hid (vE (s.size : Int) (endB es 0) (es.drop 0) = R) := hRv
    clear hS hfit hR hRv hab hcell hB hn'
    go_enter Try.func22, Try.ntmps22
    go_wp2_with fail
    go_loopw [5] (fun q wr => ∃ (k : Nat), k ≤ n ∧ q = .int .i64 (k : Int) ∧ Hid (∀ j, j < k → 0 ≤ (eg es j).t) ∧ Hid (vE (s.size : Int) (endB es k) (es.drop k) = R) ∧ Hid (Below B w wr)) (fun q _ => n - (intOf q).toNat)
    case atStart => exact ⟨0, by omega, rfl, Lib.hid (fun j h => by omega), H0, Below.refl _ _⟩
    case round =>
      obtain ⟨k, hk, rfl, HZ, HI, HR⟩ := hrel
      by_cases hlt : k < n
      · obtain ⟨ha, hbB⟩ := HAB.out.resolve_left (by omega)
        subst ha
        have hkl : k < es.length := by rw [HE.out]; exact hlt
        obtain ⟨c0, c1, c2⟩ := HC.out k hlt wr (HR.out.block b hbB)
        have hkk : (k : Int) < (n : Int) := by omega
        have hstep := HI.out
        rw [eg_drop hkl] at hstep
        simp only [vE] at hstep
        obtain ⟨fit1, fit2, fit3, fit4, _⟩ := HF.out _ (eg_mem hkl)
        have hend : endB es (k + 1) = (eg es k).t := by unfold endB; rw [if_neg (by omega)]; rfl
        obtain ⟨p, hp⟩ : ∃ p, endB es k = p := ⟨_, rfl⟩
        obtain ⟨x, hx⟩ : ∃ x, (eg es k).f = x := ⟨_, rfl⟩
        obtain ⟨y, hy⟩ : ∃ y, (eg es k).t = y := ⟨_, rfl⟩
        rw [hx, hy, hp] at hstep
        rw [hx] at c0 fit1 fit2
        rw [hy] at c1 fit3 fit4 hend
        have HY := Lib.hid hy; have HEND := Lib.hid hend; have HPP := Lib.hid hp
        clear hx hy c2 hend hp
        by_cases h1 : x < 0
        · have hr : R = 5 := by rw [← hstep, if_pos (.inl h1)]
          have hd : decide (x < 0) = true := by simp [h1]
          clear hstep
          go_wp2_with fail
          go_quiet (fail)
          go_wp2
          go_ret
          exact ⟨by first | rfl | (rw [hr]; rfl), by rw [HB.out]; first | exact below_drewN HR.out _ | exact below_drewN (below_drewN HR.out _) _⟩
        · have hd : decide (x < 0) = false := by simp; omega
          by_cases h2 : y < x
          · have hr : R = 5 := by rw [← hstep, if_pos (.inr (.inl h2))]
            have hd2 : decide (y < x) = true := by simp [h2]
            clear hstep
            go_wp2_with fail
            go_quiet (fail)
            go_wp2
            go_ret
            exact ⟨by first | rfl | (rw [hr]; rfl), by rw [HB.out]; first | exact below_drewN HR.out _ | exact below_drewN (below_drewN HR.out _) _⟩
          · have hd2 : decide (y < x) = false := by simp; omega
            by_cases h3 : (s.size : Int) < y
            · have hr : R = 5 := by rw [← hstep, if_pos (.inr (.inr h3))]
              have hd3 : decide ((s.size : Int) < y) = true := by simp [h3]
              clear hstep
              go_wp2_with fail
              go_quiet (fail)
              go_wp2
              go_ret
              exact ⟨by first | rfl | (rw [hr]; rfl), by rw [HB.out]; first | exact below_drewN HR.out _ | exact below_drewN (below_drewN HR.out _) _⟩
            · have hd3 : decide ((s.size : Int) < y) = false := by simp; omega
              rw [if_neg (by omega)] at hstep
              have HZ2 : Hid (∀ j, j < k + 1 → 0 ≤ (eg es j).t) := by
                intro j hj
                by_cases e : j = k
                · subst e; rw [HY.out]; omega
                · exact HZ.out j (by omega)
              by_cases hk0 : 0 < k
              · obtain ⟨j, rfl⟩ : ∃ j, k = j + 1 := ⟨k - 1, by omega⟩
                have hpz := HZ.out j (by omega)
                have hpe : p = (eg es j).t := by rw [← HPP.out]; unfold endB; rw [if_neg (by omega)]; rfl
                obtain ⟨_, d1, _⟩ := HC.out j (by omega) wr (HR.out.block b hbB)
                have hpfit := (HF.out _ (eg_mem (es := es) (k := j) (by omega)))
                obtain ⟨_, _, pf3, pf4, _⟩ := hpfit
                rw [← hpe] at d1 hpz pf3 pf4
                have hk1 : (0 : Int) < ((j + 1 : Nat) : Int) := by omega
                have hdk : decide ((0 : Int) < ((j + 1 : Nat) : Int)) = true := by simp only [decide_eq_true_eq]; omega
                have hj1 : IntKind.i64.wrap (((j + 1 : Nat) : Int) - 1) = (j : Int) := by simp [IntKind.wrap, IntKind.signed, IntKind.bits]; omega
                have hj2 : (j : Int) < (n : Int) := by omega
                have HPE := Lib.hid hpe
                clear hpe
                by_cases h4 : x < p
                · have hr : R = 1 := by rw [← hstep, if_pos h4]
                  have hd4 : decide (x < p) = true := by simp [h4]
                  clear hstep
                  go_wp2_with fail
                  go_quiet (fail)
                  go_wp2_with fail
                  go_quiet (fail)
                  go_wp2
                  go_ret
                  exact ⟨by first | rfl | (rw [hr]; rfl), by rw [HB.out]; first | exact below_drewN HR.out _ | exact below_drewN (below_drewN HR.out _) _⟩
                · have hd4 : decide (x < p) = false := by simp; omega
                  rw [if_neg h4] at hstep
                  have HS : Hid (vE (s.size : Int) (endB es (j + 1 + 1)) (es.drop (j + 1 + 1)) = R) := by rw [HEND.out]; exact hstep
                  clear hstep
                  go_wp2_with fail
                  go_quiet (fail)
                  go_wp2_with fail
                  go_quiet (fail)
                  go_wp2
                  go_roundw
                  case rel => exact ⟨j + 1 + 1, by omega, by go_num, HZ2, HS, below_drewN HR.out _⟩
                  case measure => simp [intOf]; omega
              · obtain rfl : k = 0 := by omega
                have hp0 : p = 0 := by rw [← HPP.out]; rfl
                rw [if_neg (by omega)] at hstep
                have hk1 : ¬ (0 : Int) < ((0 : Nat) : Int) := by omega
                have HS : Hid (vE (s.size : Int) (endB es (0 + 1)) (es.drop (0 + 1)) = R) := by rw [HEND.out]; exact hstep
                clear hstep hp0
                simp only [Nat.zero_mul, Nat.add_zero] at c0 c1
                have hkk0 : (0 : Int) < (n : Int) := by omega
                go_wp2_with fail
                go_quiet (fail)
                go_wp2_with fail
                go_quiet (fail)
                go_wp2
                go_roundw
                case rel => exact ⟨0 + 1, by omega, by go_num, HZ2, HS, below_drewN HR.out _⟩
                case measure => simp [intOf]; omega
      · obtain rfl : n = k := by omega
        have hr : R = 0 := by rw [← HI.out, List.drop_eq_nil_of_le (by rw [HE.out]; omega)]; rfl
        go_wp2
        go_ret
        exact ⟨by first | rfl | (rw [hr]; rfl), by rw [HB.out]; exact HR.out⟩

set_option maxRecDepth 100000 in
set_option maxHeartbeats 2000000 in
/-- Same, at two lists of the same edits. -/
theorem same_any (a a' : Option Addr) (cap cap' : Nat) (es : List Er) (w : World) (hn : es.length ≤ 1000) (hc : ES w.heap.size w a cap es) (hc' : ES w.heap.size w a' cap' es) :
    Calls Try.prog 23 #[.slice a es.length cap, .slice a' es.length cap'] w fun e w' => e = .returned (.bool true) ∧ Below w.heap.size w w' := by
  obtain ⟨n, hn'⟩ : ∃ n, es.length = n := ⟨_, rfl⟩
  obtain ⟨B, hB⟩ : ∃ B, w.heap.size = B := ⟨_, rfl⟩
  obtain ⟨b, off, hab, hcell⟩ := hc.cells.core
  obtain ⟨b', off', hab', hcell'⟩ := hc'.cells.core
  have hcap := hc.le
  have hcap' := hc'.le
  rw [hB] at hab hab'
  rw [hn'] at hab hab' hcell hcell' hcap hcap' hn ⊢
  have HAB := Lib.hid hab; have HC := Lib.hid hcell; have HAB' := Lib.hid hab'; have HC' := Lib.hid hcell'; have HB := Lib.hid hB
  have hq0 : ((n : Int) != (n : Int)) = false := by simp
  clear hc hc' hab hcell hab' hcell' hB
  go_enter Try.func23, Try.ntmps23
  go_wp2_with fail
  go_loopw [5] (fun q wr => ∃ k : Nat, k ≤ n ∧ q = .int .i64 (k : Int) ∧ Hid (Below B w wr)) (fun q _ => n - (intOf q).toNat)
  case atStart => exact ⟨0, by omega, rfl, Below.refl _ _⟩
  case round =>
    obtain ⟨k, hk, rfl, HR⟩ := hrel
    by_cases hlt : k < n
    · obtain ⟨ha, hbB⟩ := HAB.out.resolve_left (by omega)
      obtain ⟨ha', hbB'⟩ := HAB'.out.resolve_left (by omega)
      subst ha ha'
      obtain ⟨c0, c1, c2⟩ := HC.out k hlt wr (HR.out.block b hbB)
      obtain ⟨d0, d1, d2⟩ := HC'.out k hlt wr (HR.out.block b' hbB')
      have hkk : (k : Int) < (n : Int) := by omega
      go_wp2_with fail
      go_quiet (fail)
      go_wp2
      go_roundw
      case rel => exact ⟨k + 1, by omega, by go_num, below_drewN HR.out _⟩
      case measure => simp [intOf]; omega
    · obtain rfl : n = k := by omega
      go_wp2
      go_ret
      exact ⟨rfl, by rw [HB.out]; exact HR.out⟩

/-- The reference's text so far. -/
theorem sb_empty : sb ⟨#[]⟩ = [] := rfl
theorem sb_app (s t : ByteArray) : sb (s ++ t) = sb s ++ sb t := sb_add s t

set_option maxRecDepth 100000 in
set_option maxHeartbeats 4000000 in
theorem rapply_any (s : ByteArray) (a : Option Addr) (cap : Nat) (es : List Er) (w : World) (hs : s.size ≤ 10000000) (hn : es.length ≤ 1000) (hfit : ∀ e ∈ es, e.Fit) (hS : ES w.heap.size w a cap es) :
    Calls Try.prog 39 #[.string s, .slice a es.length cap] w fun e w' => e = .returned (.tuple #[.string (apS s es), .int .i64 (vErr (s.size : Int) es)]) ∧ Below w.heap.size w w' := by
  have CV := Lib.hid (rvalid_any s a cap es w hs hn hfit hS)
  obtain ⟨n, hn'⟩ : ∃ n, es.length = n := ⟨_, rfl⟩
  obtain ⟨R, hR⟩ : ∃ R, apS s es = R := ⟨_, rfl⟩
  have hcap := hS.le
  rw [hR]
  rw [hn'] at hn hcap CV ⊢
  obtain ⟨B, hB⟩ : ∃ B, w.heap.size = B := ⟨_, rfl⟩
  by_cases hv : vErr (s.size : Int) es = 0
  · obtain ⟨hlim, hvld, hpos⟩ := vErr_ok hv
    have hv0 : vE (s.size : Int) 0 es = 0 := by have := hv; unfold vErr at this; rwa [if_neg (by omega)] at this
    have hRv : sb R = appl (sb s) 0 (ees es) := by rw [← hR]; exact apS_ok hv
    obtain ⟨b, addr, hab, hcell⟩ := hS.cells.core
    rw [hn'] at hab hcell hlim
    rw [hB] at hab CV
    rw [hv] at CV ⊢
    have HE := Lib.hid hn'; have HAB := Lib.hid hab; have HC := Lib.hid hcell; have HB := Lib.hid hB; have HF := Lib.hid hfit; have HP := Lib.hid hpos
    have H0 : Hid (sb R = sb ⟨#[]⟩ ++ appl (sb s) 0 (ees (es.drop 0))) := hRv
    have HV0 : Hid (vE (s.size : Int) ((0 : Nat) : Int) (es.drop 0) = 0) := hv0
    clear hS hfit hR hRv hab hcell hB hn' hpos hv hv0 hvld
    go_enter Try.func39, Try.ntmps39
    go_wp2_with fail
    refine CV.out.mono ?_
    rintro e w0 ⟨rfl, hb0⟩
    have HB0 := Lib.hid hb0
    clear hb0 CV
    go_wp2_with fail
    go_loopw [7, 8, 9] (fun u v q wr => ∃ (k p : Nat) (z : ByteArray), k ≤ n ∧ p ≤ s.size ∧ z.size ≤ 10100000 * k ∧ u = .string z ∧ v = .int .i64 (p : Int) ∧ q = .int .i64 (k : Int) ∧ Hid (sb R = sb z ++ appl (sb s) p (ees (es.drop k))) ∧ Hid (vE (s.size : Int) (p : Int) (es.drop k) = 0) ∧ Hid (Below B w wr)) (fun _ _ q _ => n - (intOf q).toNat)
    case atStart => exact ⟨0, 0, ⟨#[]⟩, by omega, by omega, by simp [ByteArray.size], rfl, rfl, rfl, H0, HV0, HB0.out⟩
    case round =>
      obtain ⟨k, p, z, hk, hp, hz, rfl, rfl, rfl, HI, HV, HR⟩ := hrel
      by_cases hlt : k < n
      · obtain ⟨ha, hbB⟩ := HAB.out.resolve_left (by omega)
        subst ha
        have hkl : k < es.length := by rw [HE.out]; exact hlt
        obtain ⟨c0, c1, c2⟩ := HC.out k hlt wr (HR.out.block b hbB)
        have hkk : (k : Int) < (n : Int) := by omega
        have hstep := HV.out
        have hsb := HI.out
        rw [eg_drop hkl] at hstep hsb
        obtain ⟨hd0, hd1, hd2⟩ := HP.out _ (eg_mem hkl)
        have hxl := (HF.out _ (eg_mem hkl)).x
        rw [ees_cons] at hsb
        simp only [vE, appl, Er.ee] at hstep hsb
        obtain ⟨x, hx⟩ : ∃ x : Nat, (eg es k).f = (x : Int) := ⟨(eg es k).f.toNat, by omega⟩
        obtain ⟨y, hy⟩ : ∃ y : Nat, (eg es k).t = (y : Int) := ⟨(eg es k).t.toNat, by omega⟩
        obtain ⟨t, ht⟩ : ∃ t, (eg es k).x = t := ⟨_, rfl⟩
        rw [hx, hy, ht] at hsb
        rw [hx, hy] at hstep
        rw [hx] at c0 hd0 hd1
        rw [hy] at c1 hd1 hd2
        rw [ht] at c2 hxl
        simp only [Int.toNat_natCast] at hsb
        rw [if_neg (by omega)] at hstep
        by_cases hfx : (x : Int) < (p : Int)
        · rw [if_pos hfx] at hstep; omega
        rw [if_neg hfx] at hstep
        have hxp : (p : Int) ≤ (x : Int) := by omega
        have hxs : (x : Int) ≤ (s.size : Int) := by omega
        have hzx : (s.extract p x).size = x - p := by rw [ByteArray.size_extract]; omega
        have hz2 : (z ++ s.extract p x).size = z.size + (x - p) := by rw [ByteArray.size_append, hzx]
        have hs1 : z.size + (s.extract p x).size ≤ 9223372036854775807 := by omega
        have hs2 : (z ++ s.extract p x).size + t.size ≤ 9223372036854775807 := by omega
        have HS : Hid (sb R = sb (z ++ s.extract p x ++ t) ++ appl (sb s) y (ees (es.drop (k + 1)))) := Lib.hid (by
          rw [hsb, sb_app, sb_app, sb_cut]; simp)
        have HV2 : Hid (vE (s.size : Int) (y : Int) (es.drop (k + 1)) = 0) := hstep
        have hz3 : (z ++ s.extract p x ++ t).size ≤ 10100000 * (k + 1) := by rw [ByteArray.size_append, hz2]; omega
        clear hstep hsb hx hy ht
        go_wp2_with fail
        go_quiet (fail)
        go_wp2
        go_roundw
        case rel => exact ⟨k + 1, y, _, by omega, by omega, hz3, rfl, rfl, by go_num, HS, HV2, below_drewN HR.out _⟩
        case measure => simp [intOf]; omega
      · obtain rfl : n = k := by omega
        have hr := HI.out
        rw [List.drop_eq_nil_of_le (by rw [HE.out]; omega)] at hr
        have hRR : z ++ s.extract p s.size = R := by
          apply sb_inj
          rw [hr, sb_app, sb_cut]
          simp only [ees, List.map_nil, appl]
          rw [List.take_of_length_le (by rw [List.length_drop, sb_len]; exact Nat.le_refl _)]
        have hpz : (p : Int) ≤ (s.size : Int) := by omega
        have hzx : (s.extract p s.size).size = s.size - p := by rw [ByteArray.size_extract]; omega
        have hs1 : z.size + (s.extract p s.size).size ≤ 9223372036854775807 := by omega
        have HRR := Lib.hid hRR
        clear hr hRR
        go_wp2
        go_ret2
        exact ⟨by rw [← HRR.out]; rfl, by rw [HB.out]; exact HR.out⟩
  · have hap : apS s es = ⟨#[]⟩ := apS_bad hv
    have hRE : R = ⟨#[]⟩ := by rw [← hR, hap]
    subst hRE
    have HV := Lib.hid hv
    have hq : (vErr (s.size : Int) es != 0) = true := by simp [hv]
    generalize vErr (s.size : Int) es = er at CV HV hq hv ⊢
    clear hv hn' hS hfit hap hR
    go_enter Try.func39, Try.ntmps39
    go_wp2_with fail
    refine CV.out.mono ?_
    rintro e w1 ⟨rfl, hb1⟩
    go_wp2
    go_ret2
    exact ⟨rfl, hb1⟩

end Go.Proofs.Ytfhpllcdlejfjaa
