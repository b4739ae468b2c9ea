/- Texts of one claim, put together: EVs, ECk, ECm, ECo, EIv, EKb, EIp, EDiff, EDf, ERp, EAr, ECp. Each part says what it proves and under which conditions. -/
import Derived.Test.YtkehgoailhpenaaGreatRn04
import Derived.BigQuiet
import Derived.Deep.QuietTactic
import Derived.Deep.RegionHeld3
import Derived.BigRegion
import Derived.Lib.MinMax
import Derived.Maps.AppendAt
import Derived.Laws.EntriesVeiled

/- The contracts of the reference's Valid, Apply and Same (at equal lists). Conditions: texts of at most 10000000 bytes, lists of at most 1000 edits. -/
namespace Go.Proofs.YtkehgoailhpenaaGreat
open Go.RowKit Go.Shelf
set_option linter.unusedVariables false

/-- Where the edit before ends. -/
def endB (es : List Er) (k : Nat) : Int := if k = 0 then 0 else (eg es (k - 1)).t

set_option maxRecDepth 100000 in
set_option maxHeartbeats 4000000 in
theorem rvalid_any (s : ByteArray) (a : Option Addr) (cap : Nat) (es : List Er) (w : World) (hs : s.size ≤ 10000000) (hn : es.length ≤ 1000) (hfit : ∀ e ∈ es, e.Fit) (hS : ES w.heap.size w a cap es) :
    Calls Tryz.prog 62 #[.string s, .slice a es.length cap] w fun e w' => e = .returned (.int .i64 (vErr (s.size : Int) es)) ∧ Below w.heap.size w w' := by
  obtain ⟨n, hn'⟩ : ∃ n, es.length = n := ⟨_, rfl⟩
  obtain ⟨R, hR⟩ : ∃ R, vErr (s.size : Int) es = R := ⟨_, rfl⟩
  have hcap := hS.le
  rw [hR]
  rw [hn'] at hn hcap ⊢
  obtain ⟨B, hB⟩ : ∃ B, w.heap.size = B := ⟨_, rfl⟩
  by_cases hlim : 64 < n
  · have hl2 : (64 : Int) < (n : Int) := by omega
    have hRv : R = 4 := by rw [← hR]; unfold vErr; rw [if_pos (by omega)]
    clear hS hfit hR
    go_enter Tryz.func62, Tryz.ntmps62
    go_wp2
    go_ret
    exact ⟨by first | rfl | (rw [hRv]; rfl), Below.refl _ _⟩
  · have hl2 : ¬ (64 : Int) < (n : Int) := by omega
    have hRv : vE (s.size : Int) 0 es = R := by rw [← hR]; unfold vErr; rw [if_neg (by omega)]
    obtain ⟨b, off, hab, hcell⟩ := hS.cells.core
    rw [hn'] at hab hcell
    rw [hB] at hab
    have HE := Lib.hid hn'; have HAB := Lib.hid hab; have HC := Lib.hid hcell; have HB := Lib.hid hB; have HF := Lib.hid hfit
    have H0 : Hid (vE (s.size : Int) (endB es 0) (es.drop 0) = R) := hRv
    clear hS hfit hR hRv hab hcell hB hn'
    go_enter Tryz.func62, Tryz.ntmps62
    go_wp2_with fail
    go_loopw [5] (fun q wr => ∃ (k : Nat), k ≤ n ∧ q = .int .i64 (k : Int) ∧ Hid (∀ j, j < k → 0 ≤ (eg es j).t) ∧ Hid (vE (s.size : Int) (endB es k) (es.drop k) = R) ∧ Hid (Below B w wr)) (fun q _ => n - (intOf q).toNat)
    case atStart => exact ⟨0, by omega, rfl, Lib.hid (fun j h => by omega), H0, Below.refl _ _⟩
    case round =>
      obtain ⟨k, hk, rfl, HZ, HI, HR⟩ := hrel
      by_cases hlt : k < n
      · obtain ⟨ha, hbB⟩ := HAB.out.resolve_left (by omega)
        subst ha
        have hkl : k < es.length := by rw [HE.out]; exact hlt
        obtain ⟨c0, c1, c2⟩ := HC.out k hlt wr (HR.out.block b hbB)
        have hkk : (k : Int) < (n : Int) := by omega
        have hstep := HI.out
        rw [eg_drop hkl] at hstep
        simp only [vE] at hstep
        obtain ⟨fit1, fit2, fit3, fit4, _⟩ := HF.out _ (eg_mem hkl)
        have hend : endB es (k + 1) = (eg es k).t := by unfold endB; rw [if_neg (by omega)]; rfl
        obtain ⟨p, hp⟩ : ∃ p, endB es k = p := ⟨_, rfl⟩
        obtain ⟨x, hx⟩ : ∃ x, (eg es k).f = x := ⟨_, rfl⟩
        obtain ⟨y, hy⟩ : ∃ y, (eg es k).t = y := ⟨_, rfl⟩
        rw [hx, hy, hp] at hstep
        rw [hx] at c0 fit1 fit2
        rw [hy] at c1 fit3 fit4 hend
        have HY := Lib.hid hy; have HEND := Lib.hid hend; have HPP := Lib.hid hp
        clear hx hy c2 hend hp
        by_cases h1 : x < 0
        · have hr : R = 5 := by rw [← hstep, if_pos (.inl h1)]
          have hd : decide (x < 0) = true := by simp [h1]
          clear hstep
          go_wp2_with fail
          go_quiet (fail)
          go_wp2
          go_ret
          exact ⟨by first | rfl | (rw [hr]; rfl), by rw [HB.out]; first | exact below_drewN HR.out _ | exact below_drewN (below_drewN HR.out _) _⟩
        · have hd : decide (x < 0) = false := by simp; omega
          by_cases h2 : y < x
          · have hr : R = 5 := by rw [← hstep, if_pos (.inr (.inl h2))]
            have hd2 : decide (y < x) = true := by simp [h2]
            clear hstep
            go_wp2_with fail
            go_quiet (fail)
            go_wp2
            go_ret
            exact ⟨by first | rfl | (rw [hr]; rfl), by rw [HB.out]; first | exact below_drewN HR.out _ | exact below_drewN (below_drewN HR.out _) _⟩
          · have hd2 : decide (y < x) = false := by simp; omega
            by_cases h3 : (s.size : Int) < y
            · have hr : R = 5 := by rw [← hstep, if_pos (.inr (.inr h3))]
              have hd3 : decide ((s.size : Int) < y) = true := by simp [h3]
              clear hstep
              go_wp2_with fail
              go_quiet (fail)
              go_wp2
              go_ret
              exact ⟨by first | rfl | (rw [hr]; rfl), by rw [HB.out]; first | exact below_drewN HR.out _ | exact below_drewN (below_drewN HR.out _) _⟩
            · have hd3 : decide ((s.size : Int) < y) = false := by simp; omega
              rw [if_neg (by omega)] at hstep
              have HZ2 : Hid (∀ j, j < k + 1 → 0 ≤ (eg es j).t) := by
                intro j hj
                by_cases e : j = k
                · subst e; rw [HY.out]; omega
                · exact HZ.out j (by omega)
              by_cases hk0 : 0 < k
              · obtain ⟨j, rfl⟩ : ∃ j, k = j + 1 := ⟨k - 1, by omega⟩
                have hpz := HZ.out j (by omega)
                have hpe : p = (eg es j).t := by rw [← HPP.out]; unfold endB; rw [if_neg (by omega)]; rfl
                obtain ⟨_, d1, _⟩ := HC.out j (by omega) wr (HR.out.block b hbB)
                have hpfit := (HF.out _ (eg_mem (es := es) (k := j) (by omega)))
                obtain ⟨_, _, pf3, pf4, _⟩ := hpfit
                rw [← hpe] at d1 hpz pf3 pf4
                have hk1 : (0 : Int) < ((j + 1 : Nat) : Int) := by omega
                have hdk : decide ((0 : Int) < ((j + 1 : Nat) : Int)) = true := by simp only [decide_eq_true_eq]; omega
                have hj1 : IntKind.i64.wrap (((j + 1 : Nat) : Int) - 1) = (j : Int) := by simp [IntKind.wrap, IntKind.signed, IntKind.bits]; omega
                have hj2 : (j : Int) < (n : Int) := by omega
                have HPE := Lib.hid hpe
                clear hpe
                by_cases h4 : x < p
                · have hr : R = 1 := by rw [← hstep, if_pos h4]
                  have hd4 : decide (x < p) = true := by simp [h4]
                  clear hstep
                  go_wp2_with fail
                  go_quiet (fail)
                  go_wp2_with fail
                  go_quiet (fail)
                  go_wp2
                  go_ret
                  exact ⟨by first | rfl | (rw [hr]; rfl), by rw [HB.out]; first | exact below_drewN HR.out _ | exact below_drewN (below_drewN HR.out _) _⟩
                · have hd4 : decide (x < p) = false := by simp; omega
                  rw [if_neg h4] at hstep
                  have HS : Hid (vE (s.size : Int) (endB es (j + 1 + 1)) (es.drop (j + 1 + 1)) = R) := by rw [HEND.out]; exact hstep
                  clear hstep
                  go_wp2_with fail
                  go_quiet (fail)
                  go_wp2_with fail
                  go_quiet (fail)
                  go_wp2
                  go_roundw
                  case rel => exact ⟨j + 1 + 1, by omega, by go_num, HZ2, HS, below_drewN HR.out _⟩
                  case measure => simp [intOf]; omega
              · obtain rfl : k = 0 := by omega
                have hp0 : p = 0 := by rw [← HPP.out]; rfl
                rw [if_neg (by omega)] at hstep
                have hk1 : ¬ (0 : Int) < ((0 : Nat) : Int) := by omega
                have HS : Hid (vE (s.size : Int) (endB es (0 + 1)) (es.drop (0 + 1)) = R) := by rw [HEND.out]; exact hstep
                clear hstep hp0
                simp only [Nat.zero_mul, Nat.add_zero] at c0 c1
                have hkk0 : (0 : Int) < (n : Int) := by omega
                go_wp2_with fail
                go_quiet (fail)
                go_wp2_with fail
                go_quiet (fail)
                go_wp2
                go_roundw
                case rel => exact ⟨0 + 1, by omega, by go_num, HZ2, HS, below_drewN HR.out _⟩
                case measure => simp [intOf]; omega
      · obtain rfl : n = k := by omega
        have hr : R = 0 := by rw [← HI.out, List.drop_eq_nil_of_le (by rw [HE.out]; omega)]; rfl
        go_wp2
        go_ret
        exact ⟨by first | rfl | (rw [hr]; rfl), by rw [HB.out]; exact HR.out⟩

set_option maxRecDepth 100000 in
set_option maxHeartbeats 2000000 in
/-- Same, at two lists of the same edits. -/
theorem same_any (a a' : Option Addr) (cap cap' : Nat) (es : List Er) (w : World) (hn : es.length ≤ 1000) (hc : ES w.heap.size w a cap es) (hc' : ES w.heap.size w a' cap' es) :
    Calls Tryz.prog 28 #[.slice a es.length cap, .slice a' es.length cap'] w fun e w' => e = .returned (.bool true) ∧ Below w.heap.size w w' := by
  obtain ⟨n, hn'⟩ : ∃ n, es.length = n := ⟨_, rfl⟩
  obtain ⟨B, hB⟩ : ∃ B, w.heap.size = B := ⟨_, rfl⟩
  obtain ⟨b, off, hab, hcell⟩ := hc.cells.core
  obtain ⟨b', off', hab', hcell'⟩ := hc'.cells.core
  have hcap := hc.le
  have hcap' := hc'.le
  rw [hB] at hab hab'
  rw [hn'] at hab hab' hcell hcell' hcap hcap' hn ⊢
  have HAB := Lib.hid hab; have HC := Lib.hid hcell; have HAB' := Lib.hid hab'; have HC' := Lib.hid hcell'; have HB := Lib.hid hB
  have hq0 : ((n : Int) != (n : Int)) = false := by simp
  clear hc hc' hab hcell hab' hcell' hB
  go_enter Tryz.func28, Tryz.ntmps28
  go_wp2_with fail
  go_loopw [5] (fun q wr => ∃ k : Nat, k ≤ n ∧ q = .int .i64 (k : Int) ∧ Hid (Below B w wr)) (fun q _ => n - (intOf q).toNat)
  case atStart => exact ⟨0, by omega, rfl, Below.refl _ _⟩
  case round =>
    obtain ⟨k, hk, rfl, HR⟩ := hrel
    by_cases hlt : k < n
    · obtain ⟨ha, hbB⟩ := HAB.out.resolve_left (by omega)
      obtain ⟨ha', hbB'⟩ := HAB'.out.resolve_left (by omega)
      subst ha ha'
      obtain ⟨c0, c1, c2⟩ := HC.out k hlt wr (HR.out.block b hbB)
      obtain ⟨d0, d1, d2⟩ := HC'.out k hlt wr (HR.out.block b' hbB')
      have hkk : (k : Int) < (n : Int) := by omega
      go_wp2_with fail
      go_quiet (fail)
      go_wp2
      go_roundw
      case rel => exact ⟨k + 1, by omega, by go_num, below_drewN HR.out _⟩
      case measure => simp [intOf]; omega
    · obtain rfl : n = k := by omega
      go_wp2
      go_ret
      exact ⟨rfl, by rw [HB.out]; exact HR.out⟩

/-- The reference's text so far. -/
theorem sb_empty : sb ⟨#[]⟩ = [] := rfl
theorem sb_app (s t : ByteArray) : sb (s ++ t) = sb s ++ sb t := sb_add s t

set_option maxRecDepth 100000 in
set_option maxHeartbeats 4000000 in
theorem rapply_any (s : ByteArray) (a : Option Addr) (cap : Nat) (es : List Er) (w : World) (hs : s.size ≤ 10000000) (hn : es.length ≤ 1000) (hfit : ∀ e ∈ es, e.Fit) (hS : ES w.heap.size w a cap es) :
    Calls Tryz.prog 33 #[.string s, .slice a es.length cap] w fun e w' => e = .returned (.tuple #[.string (apS s es), .int .i64 (vErr (s.size : Int) es)]) ∧ Below w.heap.size w w' := by
  have CV := Lib.hid (rvalid_any s a cap es w hs hn hfit hS)
  obtain ⟨n, hn'⟩ : ∃ n, es.length = n := ⟨_, rfl⟩
  obtain ⟨R, hR⟩ : ∃ R, apS s es = R := ⟨_, rfl⟩
  have hcap := hS.le
  rw [hR]
  rw [hn'] at hn hcap CV ⊢
  obtain ⟨B, hB⟩ : ∃ B, w.heap.size = B := ⟨_, rfl⟩
  by_cases hv : vErr (s.size : Int) es = 0
  · obtain ⟨hlim, hvld, hpos⟩ := vErr_ok hv
    have hv0 : vE (s.size : Int) 0 es = 0 := by have := hv; unfold vErr at this; rwa [if_neg (by omega)] at this
    have hRv : sb R = appl (sb s) 0 (ees es) := by rw [← hR]; exact apS_ok hv
    obtain ⟨b, addr, hab, hcell⟩ := hS.cells.core
    rw [hn'] at hab hcell hlim
    rw [hB] at hab CV
    rw [hv] at CV ⊢
    have HE := Lib.hid hn'; have HAB := Lib.hid hab; have HC := Lib.hid hcell; have HB := Lib.hid hB; have HF := Lib.hid hfit; have HP := Lib.hid hpos
    have H0 : Hid (sb R = sb ⟨#[]⟩ ++ appl (sb s) 0 (ees (es.drop 0))) := hRv
    have HV0 : Hid (vE (s.size : Int) ((0 : Nat) : Int) (es.drop 0) = 0) := hv0
    clear hS hfit hR hRv hab hcell hB hn' hpos hv hv0 hvld
    go_enter Tryz.func33, Tryz.ntmps33
    go_wp2_with fail
    refine CV.out.mono ?_
    rintro e w0 ⟨rfl, hb0⟩
    have HB0 := Lib.hid hb0
    clear hb0 CV
    go_wp2_with fail
    go_loopw [7, 8, 9] (fun u v q wr => ∃ (k p : Nat) (z : ByteArray), k ≤ n ∧ p ≤ s.size ∧ z.size ≤ 10100000 * k ∧ u = .string z ∧ v = .int .i64 (p : Int) ∧ q = .int .i64 (k : Int) ∧ Hid (sb R = sb z ++ appl (sb s) p (ees (es.drop k))) ∧ Hid (vE (s.size : Int) (p : Int) (es.drop k) = 0) ∧ Hid (Below B w wr)) (fun _ _ q _ => n - (intOf q).toNat)
    case atStart => exact ⟨0, 0, ⟨#[]⟩, by omega, by omega, by simp [ByteArray.size], rfl, rfl, rfl, H0, HV0, HB0.out⟩
    case round =>
      obtain ⟨k, p, z, hk, hp, hz, rfl, rfl, rfl, HI, HV, HR⟩ := hrel
      by_cases hlt : k < n
      · obtain ⟨ha, hbB⟩ := HAB.out.resolve_left (by omega)
        subst ha
        have hkl : k < es.length := by rw [HE.out]; exact hlt
        obtain ⟨c0, c1, c2⟩ := HC.out k hlt wr (HR.out.block b hbB)
        have hkk : (k : Int) < (n : Int) := by omega
        have hstep := HV.out
        have hsb := HI.out
        rw [eg_drop hkl] at hstep hsb
        obtain ⟨hd0, hd1, hd2⟩ := HP.out _ (eg_mem hkl)
        have hxl := (HF.out _ (eg_mem hkl)).x
        rw [ees_cons] at hsb
        simp only [vE, appl, Er.ee] at hstep hsb
        obtain ⟨x, hx⟩ : ∃ x : Nat, (eg es k).f = (x : Int) := ⟨(eg es k).f.toNat, by omega⟩
        obtain ⟨y, hy⟩ : ∃ y : Nat, (eg es k).t = (y : Int) := ⟨(eg es k).t.toNat, by omega⟩
        obtain ⟨t, ht⟩ : ∃ t, (eg es k).x = t := ⟨_, rfl⟩
        rw [hx, hy, ht] at hsb
        rw [hx, hy] at hstep
        rw [hx] at c0 hd0 hd1
        rw [hy] at c1 hd1 hd2
        rw [ht] at c2 hxl
        simp only [Int.toNat_natCast] at hsb
        rw [if_neg (by omega)] at hstep
        by_cases hfx : (x : Int) < (p : Int)
        · rw [if_pos hfx] at hstep; omega
        rw [if_neg hfx] at hstep
        have hxp : (p : Int) ≤ (x : Int) := by omega
        have hxs : (x : Int) ≤ (s.size : Int) := by omega
        have hzx : (s.extract p x).size = x - p := by rw [ByteArray.size_extract]; omega
        have hz2 : (z ++ s.extract p x).size = z.size + (x - p) := by rw [ByteArray.size_append, hzx]
        have hs1 : z.size + (s.extract p x).size ≤ 9223372036854775807 := by omega
        have hs2 : (z ++ s.extract p x).size + t.size ≤ 9223372036854775807 := by omega
        have HS : Hid (sb R = sb (z ++ s.extract p x ++ t) ++ appl (sb s) y (ees (es.drop (k + 1)))) := Lib.hid (by
          rw [hsb, sb_app, sb_app, sb_cut]; simp)
        have HV2 : Hid (vE (s.size : Int) (y : Int) (es.drop (k + 1)) = 0) := hstep
        have hz3 : (z ++ s.extract p x ++ t).size ≤ 10100000 * (k + 1) := by rw [ByteArray.size_append, hz2]; omega
        clear hstep hsb hx hy ht
        go_wp2_with fail
        go_quiet (fail)
        go_wp2
        go_roundw
        case rel => exact ⟨k + 1, y, _, by omega, by omega, hz3, rfl, rfl, by go_num, HS, HV2, below_drewN HR.out _⟩
        case measure => simp [intOf]; omega
      · obtain rfl : n = k := by omega
        have hr := HI.out
        rw [List.drop_eq_nil_of_le (by rw [HE.out]; omega)] at hr
        have hRR : z ++ s.extract p s.size = R := by
          apply sb_inj
          rw [hr, sb_app, sb_cut]
          simp only [ees, List.map_nil, appl]
          rw [List.take_of_length_le (by rw [List.length_drop, sb_len]; exact Nat.le_refl _)]
        have hpz : (p : Int) ≤ (s.size : Int) := by omega
        have hzx : (s.extract p s.size).size = s.size - p := by rw [ByteArray.size_extract]; omega
        have hs1 : z.size + (s.extract p s.size).size ≤ 9223372036854775807 := by omega
        have HRR := Lib.hid hRR
        clear hr hRR
        go_wp2
        go_ret2
        exact ⟨by rw [← HRR.out]; rfl, by rw [HB.out]; exact HR.out⟩
  · have hap : apS s es = ⟨#[]⟩ := apS_bad hv
    have hRE : R = ⟨#[]⟩ := by rw [← hR, hap]
    subst hRE
    have HV := Lib.hid hv
    have hq : (vErr (s.size : Int) es != 0) = true := by simp [hv]
    generalize vErr (s.size : Int) es = er at CV HV hq hv ⊢
    clear hv hn' hS hfit hap hR
    go_enter Tryz.func33, Tryz.ntmps33
    go_wp2_with fail
    refine CV.out.mono ?_
    rintro e w1 ⟨rfl, hb1⟩
    go_wp2
    go_ret2
    exact ⟨rfl, hb1⟩

end Go.Proofs.YtkehgoailhpenaaGreat

/- The mathematics of the program's Compose: what both lists keep, and the edits around it. It has no conditions. -/
namespace Go.Proofs.YtkehgoailhpenaaGreat
open Go.RowKit Go.Shelf
set_option linter.unusedVariables false

/-- A piece of a text, with its sources. -/
def pcs (S : List Int) (k m : Nat) : List (Int × Option Nat) := (((S.drop k).take m).zipIdx k).map fun z => (z.1, some z.2)
theorem pcs_at {S : List Int} {k m i : Nat} : (pcs S k m)[i]? = if i < m then (S[k + i]?).map (fun c => (c, some (k + i))) else none := by
  unfold pcs
  rw [piece_at, List.getElem?_take]
  split
  · rw [List.getElem?_drop]
  · rfl
theorem pcs_len {S : List Int} {k m : Nat} (h : k + m ≤ S.length) : (pcs S k m).length = m := by
  unfold pcs
  rw [List.length_map, List.length_zipIdx, List.length_take, List.length_drop]
  omega
theorem pcs_zero (S : List Int) (k : Nat) : pcs S k 0 = [] := by simp [pcs]
theorem pcs_slice {S : List Int} {k m i j : Nat} (h : i + j ≤ m) : ((pcs S k m).drop i).take j = pcs S (k + i) j := by
  refine List.ext_getElem? fun a => ?_
  rw [List.getElem?_take, List.getElem?_drop, pcs_at, pcs_at]
  by_cases ha : a < j
  · rw [if_pos ha, if_pos ha, if_pos (by omega), show k + (i + a) = k + i + a by omega]
  · rw [if_neg ha, if_neg ha]
theorem pcs_cons {S : List Int} {k m : Nat} (h : k < S.length) : pcs S k (m + 1) = (S[k], some k) :: pcs S (k + 1) m := by
  unfold pcs
  rw [List.drop_eq_getElem_cons h, List.take_succ_cons, List.zipIdx_cons, List.map_cons]
/-- New bytes alone. -/
def AllNew (z : List (Int × Option Nat)) : Prop := ∀ y ∈ z, y.2 = none
theorem AllNew.tail {y : Int × Option Nat} {z : List (Int × Option Nat)} (h : AllNew (y :: z)) : y.2 = none ∧ AllNew z := ⟨h y (by simp), fun x hx => h x (by simp [hx])⟩
theorem AllNew.append {a b : List (Int × Option Nat)} (h : AllNew a) (k : AllNew b) : AllNew (a ++ b) := fun y hy => (List.mem_append.1 hy).elim (h y) (k y)
theorem AllNew.slice {z : List (Int × Option Nat)} (h : AllNew z) (i j : Nat) : AllNew ((z.drop i).take j) := fun y hy => h y (List.mem_of_mem_drop (List.mem_of_mem_take hy))
theorem all_new (x : List Int) : AllNew (x.map fun c => ((c, none) : Int × Option Nat)) := by
  intro y hy
  obtain ⟨c, _, rfl⟩ := List.mem_map.1 hy
  rfl
theorem canon_new {n a : Nat} {z : List (Int × Option Nat)} : ∀ {N : List (Int × Option Nat)} {x : List Int}, AllNew N → canon n a x (N ++ z) = canon n a (x ++ N.map Prod.fst) z := by
  intro N
  induction N with
  | nil => intro x _; simp
  | cons y N ih =>
    intro x h
    obtain ⟨c, k⟩ := y
    obtain ⟨h1, h2⟩ := h.tail
    simp only at h1
    subst h1
    simp only [List.cons_append, canon]
    rw [ih h2]
    simp
theorem canon_go {S : List Int} {n : Nat} {z : List (Int × Option Nat)} : ∀ {m k : Nat}, k + m ≤ S.length → canon n k [] (pcs S k m ++ z) = canon n (k + m) [] z := by
  intro m
  induction m with
  | zero => intro k _; rw [pcs_zero]; rfl
  | succ m ih =>
    intro k h
    rw [pcs_cons (by omega)]
    simp only [List.cons_append, canon]
    rw [if_neg (by simp), ih (by omega), show k + 1 + m = k + (m + 1) by omega]
theorem canon_piece {S : List Int} {n a k m : Nat} {x : List Int} {z : List (Int × Option Nat)} (hm : 0 < m) (h : k + m ≤ S.length) :
    canon n a x (pcs S k m ++ z) = (if a < k ∨ x ≠ [] then [⟨a, k, x⟩] else []) ++ canon n (k + m) [] z := by
  obtain ⟨m, rfl⟩ : ∃ m', m = m' + 1 := ⟨m - 1, by omega⟩
  rw [pcs_cons (by omega)]
  simp only [List.cons_append, canon]
  rw [canon_go (by omega), show k + 1 + m = k + (m + 1) by omega]
  split <;> rfl

/-- A piece that is kept: it lies at f of the old text and at q of the new one, and has m bytes. -/
structure Kp where
  f : Nat
  m : Nat
  q : Nat
def Kp.pc (s : ByteArray) (p : Kp) : Pc := ⟨p.f, ((p.f + p.m : Nat) : Int), p.q, s.extract p.f (p.f + p.m), true⟩
/-- A text with sources, from index q on: new bytes and pieces in turn. -/
def Dcm (S : List Int) : Nat → List (Int × Option Nat) → List Kp → Prop
  | q, z, [] => AllNew z
  | q, z, p :: K => ∃ N z' : List (Int × Option Nat), z = N ++ (pcs S p.f p.m ++ z') ∧ AllNew N ∧ p.q = q + N.length ∧ 0 < p.m ∧ p.f + p.m ≤ S.length ∧ Dcm S (p.q + p.m) z' K
theorem Dcm.new {S : List Int} {q : Nat} {z N : List (Int × Option Nat)} {K : List Kp} (hN : AllNew N) (h : Dcm S (q + N.length) z K) : Dcm S q (N ++ z) K := by
  cases K with
  | nil => exact hN.append h
  | cons p K =>
    obtain ⟨M, z', h1, h2, h3, h4⟩ := h
    exact ⟨N ++ M, z', by rw [h1, List.append_assoc], hN.append h2, by rw [h3, List.length_append]; omega, h4⟩
theorem Dcm.append {S : List Int} {z' : List (Int × Option Nat)} {K' : List Kp} : ∀ {K : List Kp} {q : Nat} {z : List (Int × Option Nat)}, Dcm S q z K → Dcm S (q + z.length) z' K' → Dcm S q (z ++ z') (K ++ K') := by
  intro K
  induction K with
  | nil => intro q z h h'; exact Dcm.new h h'
  | cons p K ih =>
    intro q z h h'
    obtain ⟨N, y, h1, h2, h3, h4, h5, h6⟩ := h
    refine ⟨N, y ++ z', by rw [h1]; simp, h2, h3, h4, h5, ih h6 ?_⟩
    rw [h1, List.length_append, List.length_append, pcs_len h5] at h'
    rwa [show p.q + p.m + y.length = q + (N.length + (p.m + y.length)) by omega]
/-- Pieces in order, in both texts. -/
def Ordk (n m : Nat) : Nat → Nat → List Kp → Prop
  | f, q, [] => f ≤ n ∧ q ≤ m
  | f, q, p :: K => f ≤ p.f ∧ q ≤ p.q ∧ p.f + p.m ≤ n ∧ p.q + p.m ≤ m ∧ Ordk n m (p.f + p.m) (p.q + p.m) K
theorem src_skip {S : List Int} : ∀ {N : List (Int × Option Nat)} {a : Nat} {z : List (Int × Option Nat)}, AllNew N → Src S a (N ++ z) → Src S a z := by
  intro N
  induction N with
  | nil => intro a z _ h; exact h
  | cons y N ih =>
    intro a z hN h
    obtain ⟨c, k⟩ := y
    obtain ⟨h1, h2⟩ := hN.tail
    simp only at h1
    subst h1
    exact ih h2 h
theorem src_pcs {S : List Int} {z : List (Int × Option Nat)} : ∀ {m k a : Nat}, k + m ≤ S.length → 0 < m → Src S a (pcs S k m ++ z) → a ≤ k ∧ Src S (k + m) z := by
  intro m
  induction m with
  | zero => intro k a _ h; omega
  | succ m ih =>
    intro k a hk _ h
    rw [pcs_cons (by omega)] at h
    obtain ⟨h1, _, h3⟩ := h
    refine ⟨h1, ?_⟩
    by_cases hm : m = 0
    · subst hm; rw [pcs_zero] at h3; exact h3
    · have := (ih (by omega) (by omega) h3).2
      rwa [show k + (m + 1) = k + 1 + m by omega]
theorem dcm_ord {S : List Int} {m : Nat} : ∀ {K : List Kp} {f q : Nat} {z : List (Int × Option Nat)}, Src S f z → Dcm S q z K → q + z.length = m → Ordk S.length m f q K := by
  intro K
  induction K with
  | nil => intro f q z hs _ hm; exact ⟨hs.le, by omega⟩
  | cons p K ih =>
    intro f q z hs hd hm
    obtain ⟨N, y, h1, h2, h3, h4, h5, h6⟩ := hd
    rw [h1] at hs hm
    rw [List.length_append, List.length_append, pcs_len h5] at hm
    obtain ⟨g1, g2⟩ := src_pcs h5 h4 (src_skip h2 hs)
    exact ⟨g1, by omega, h5, by omega, ih g2 h6 (by omega)⟩

/-- One edit for what is between two pieces, if it differs. -/
def gap (s u : ByteArray) (f t q r : Nat) : List Er := if u.extract q r = s.extract f t then [] else [⟨f, t, u.extract q r⟩]
def arl (s u : ByteArray) (f q : Nat) : List Kp → List Er
  | [] => gap s u f s.size q u.size
  | p :: K => gap s u f p.f q p.q ++ arl s u (p.f + p.m) (p.q + p.m) K
theorem gap_ees (s u : ByteArray) (f t q r : Nat) (hf : f ≤ t) (ht : t ≤ s.size) {x : List Int} (hx : ((sb u).drop q).take (r - q) = x) :
    ees (gap s u f t q r) = (if f < t ∨ x ≠ [] then [(⟨f, t, x⟩ : Ee)] else []).filter (Chg (sb s)) := by
  have hu : sb (u.extract q r) = x := by rw [sb_cut, hx]
  have hs : sb (s.extract f t) = ((sb s).drop f).take (t - f) := sb_cut s f t
  unfold gap
  by_cases he : u.extract q r = s.extract f t
  · rw [if_pos he]
    have h1 : ((sb s).drop f).take (t - f) = x := by rw [← hs, ← he, hu]
    split
    · rw [List.filter_cons, if_neg (by unfold Chg; simp [h1])]; rfl
    · rfl
  · rw [if_neg he]
    have h1 : ((sb s).drop f).take (t - f) ≠ x := fun e => he (sb_inj (by rw [hs, hu, e]))
    rw [if_pos ?_]
    · rw [List.filter_cons, if_pos (by unfold Chg; simp [h1])]
      simp only [ees, List.map_cons, List.map_nil, List.filter_nil, Er.ee, hu, Int.toNat_natCast]
    · by_cases hft : f < t
      · exact .inl hft
      · refine .inr fun hx0 => h1 ?_
        rw [hx0, show t - f = 0 by omega, List.take_zero]
theorem ees_append (a b : List Er) : ees (a ++ b) = ees a ++ ees b := by simp [ees]
theorem arl_canon {s u : ByteArray} : ∀ {K : List Kp} {f q : Nat} {z : List (Int × Option Nat)}, z.map Prod.fst = (sb u).drop q → Dcm (sb s) q z K → Ordk s.size u.size f q K → ees (arl s u f q K) = (canon s.size f [] z).filter (Chg (sb s)) := by
  intro K
  induction K with
  | nil =>
    intro f q z hz hd ho
    have hd' : AllNew z := hd
    have h1 : canon s.size f [] z = canon s.size f (z.map Prod.fst) [] := by have := canon_new (n := s.size) (a := f) (x := []) (z := []) hd'; simpa using this
    obtain ⟨o1, o2⟩ := ho
    rw [h1]
    simp only [arl, canon]
    refine gap_ees s u f s.size q u.size o1 (Nat.le_refl _) ?_
    rw [hz, List.take_of_length_le (by rw [List.length_drop, sb_len]; exact Nat.le_refl _)]
  | cons p K ih =>
    intro f q z hz hd ho
    obtain ⟨N, y, h1, h2, h3, h4, h5, h6⟩ := hd
    obtain ⟨o1, o2, o3, o4, o5⟩ := ho
    have hlN : (N.map Prod.fst).length = p.q - q := by rw [List.length_map]; omega
    have hlp : ((pcs (sb s) p.f p.m).map Prod.fst).length = p.m := by rw [List.length_map, pcs_len h5]
    rw [h1, List.map_append, List.map_append] at hz
    have hN : ((sb u).drop q).take (p.q - q) = N.map Prod.fst := by rw [← hz, ← hlN, List.take_left]
    have hy : y.map Prod.fst = (sb u).drop (p.q + p.m) := by
      have : (sb u).drop (p.q + p.m) = ((sb u).drop q).drop ((p.q - q) + p.m) := by rw [List.drop_drop]; congr 1; omega
      rw [this, ← hz, ← List.drop_drop, List.drop_left' hlN, List.drop_left' hlp]
    rw [h1, canon_new h2, canon_piece h4 h5, List.filter_append]
    simp only [arl, List.nil_append]
    rw [ees_append, ih hy h6 o5, gap_ees s u f p.f q p.q o1 (by omega) hN]

end Go.Proofs.YtkehgoailhpenaaGreat

/- The mathematics of the program's Compose: the parts that both lists keep are the pieces of the composition. It has no conditions. -/
namespace Go.Proofs.YtkehgoailhpenaaGreat
open Go.RowKit Go.Shelf
set_option linter.unusedVariables false

/-- What is kept of a part of the first list and of one of the second list. -/
def comm (p1 p2 : Pc) : Pc :=
  if p1.k = true ∧ p2.k = true ∧ max p1.q p2.f < min (p1.q + p1.x.size) p2.t then
    ⟨p1.f + (max p1.q p2.f - p1.q), p1.f + (max p1.q p2.f - p1.q) + min (p1.q + p1.x.size) p2.t - max p1.q p2.f, p2.q + max p1.q p2.f - p2.f,
      p1.x.extract (max p1.q p2.f - p1.q).toNat (max p1.q p2.f - p1.q + min (p1.q + p1.x.size) p2.t - max p1.q p2.f).toNat, true⟩
  else ⟨0, 0, 0, ⟨#[]⟩, false⟩
def seg (S : List Int) (p : Pc) : List (Int × Option Nat) := if p.k then pcs S p.f.toNat (p.t - p.f).toNat else (sb p.x).map fun c => (c, none)
/-- Parts that follow each other, from r on. -/
def Chn (s : ByteArray) : Nat → List Pc → Prop
  | _, [] => True
  | r, p :: P => p.q = r ∧ (p.k = true → ∃ f t : Nat, p.f = f ∧ p.t = t ∧ f ≤ t ∧ t ≤ s.size ∧ p.x = s.extract f t) ∧ Chn s (r + p.x.size) P
theorem cut_size {s : ByteArray} {f t : Nat} (h : f ≤ t) (ht : t ≤ s.size) : (s.extract f t).size = t - f := by rw [ByteArray.size_extract]; omega
theorem cut_cut (s : ByteArray) (f t a b : Nat) (h : f + b ≤ t) : (s.extract f t).extract a b = s.extract (f + a) (f + b) := by
  refine sb_inj ?_
  rw [sb_cut, sb_cut, sb_cut, List.drop_take, List.take_take, List.drop_drop]
  congr 1
  omega
theorem seg_len {s : ByteArray} {r : Nat} {p : Pc} {P : List Pc} (h : Chn s r (p :: P)) : (seg (sb s) p).length = p.x.size := by
  obtain ⟨h1, h2, h3⟩ := h
  unfold seg
  split
  · rename_i hk
    obtain ⟨f, t, e1, e2, e3, e4, e5⟩ := h2 hk
    rw [e1, e2, e5, cut_size e3 e4, Int.toNat_natCast, show ((t : Int) - (f : Int)).toNat = t - f by omega, pcs_len (by rw [sb_len]; omega)]
  · rw [List.length_map, sb_len]
/-- A place within a range. -/
def cl (lo hi r : Nat) : Nat := max lo (min r hi)
theorem kept_one {s : ByteArray} {p1 p2 : Pc} {r lo hi q2 : Nat} (h1 : p1.q = r) (h2 : p1.k = true → ∃ f t : Nat, p1.f = f ∧ p1.t = t ∧ f ≤ t ∧ t ≤ s.size ∧ p1.x = s.extract f t)
    (k2 : p2.k = true) (hf : p2.f = lo) (ht : p2.t = hi) (hq : p2.q = q2) (hlh : lo ≤ hi) :
    ∃ K : List Kp, [comm p1 p2].filter (·.k) = K.map (Kp.pc s) ∧ Dcm (sb s) (q2 + (cl lo hi r - lo)) (((seg (sb s) p1).drop (lo - r)).take (hi - cl lo hi r)) K := by
  by_cases hk : p1.k = true
  · obtain ⟨f, t, e1, e2, e3, e4, e5⟩ := h2 hk
    have hsz : p1.x.size = t - f := by rw [e5, cut_size e3 e4]
    have hseg : seg (sb s) p1 = pcs (sb s) f (t - f) := by
      unfold seg
      rw [if_pos hk, e1, e2, Int.toNat_natCast, show ((t : Int) - (f : Int)).toNat = t - f by omega]
    have hlen := pcs_len (S := sb s) (k := f) (m := t - f) (by rw [sb_len]; omega)
    unfold comm
    rw [h1, hf, ht, hq, hsz]
    by_cases hc : max r lo < min (r + (t - f)) hi
    · have hcl : cl lo hi r = max r lo := by unfold cl; omega
      refine ⟨[⟨f + (max r lo - r), min (r + (t - f)) hi - max r lo, q2 + (max r lo - lo)⟩], ?_, ?_⟩
      · rw [if_pos ⟨hk, k2, by omega⟩]
        simp only [List.filter_cons, List.filter_nil, if_true, List.map_cons, List.map_nil, Kp.pc]
        rw [e1, e5, show ((max (r : Int) (lo : Int)) - (r : Int)).toNat = max r lo - r by omega,
          show ((max (r : Int) (lo : Int)) - (r : Int) + min ((r : Int) + ((t - f : Nat) : Int)) (hi : Int) - max (r : Int) (lo : Int)).toNat = max r lo - r + (min (r + (t - f)) hi - max r lo) by omega, cut_cut _ _ _ _ _ (by omega)]
        congr 2
        · omega
        · omega
        · omega
        · congr 1
          omega
      · rw [hseg, hcl]
        refine ⟨[], [], ?_, (fun y hy => by simp at hy), ?_, ?_, ?_, (fun y hy => by simp at hy)⟩
        · simp only [List.nil_append, List.append_nil]
          refine List.ext_getElem? fun i => ?_
          rw [List.getElem?_take, List.getElem?_drop, pcs_at, pcs_at]
          by_cases hi1 : i < min (r + (t - f)) hi - max r lo
          · rw [if_pos (by omega), if_pos (by omega), if_pos hi1, show f + (lo - r + i) = f + (max r lo - r) + i by omega]
          · rw [if_neg hi1]
            by_cases hi2 : i < hi - max r lo
            · rw [if_pos hi2, if_neg (by omega)]
            · rw [if_neg hi2]
        · simp
        · simp only; omega
        · simp only [sb_len]; omega
    · refine ⟨[], ?_, ?_⟩
      · rw [if_neg (by omega)]
        rfl
      · rw [hseg]
        have hz : (((pcs (sb s) f (t - f)).drop (lo - r)).take (hi - cl lo hi r)).length = 0 := by
          rw [List.length_take, List.length_drop, hlen]
          unfold cl
          omega
        rw [List.eq_nil_of_length_eq_zero hz]
        intro y hy
        simp at hy
  · refine ⟨[], ?_, ?_⟩
    · unfold comm
      rw [if_neg (fun h => hk h.1)]
      rfl
    · have : seg (sb s) p1 = (sb p1.x).map fun c => (c, none) := by unfold seg; rw [if_neg hk]
      rw [this]
      exact (all_new _).slice _ _
/-- Of all parts of the first list, what one part of the second list keeps. -/
theorem kept_in {s : ByteArray} {p2 : Pc} {lo hi q2 : Nat} (k2 : p2.k = true) (hf : p2.f = lo) (ht : p2.t = hi) (hq : p2.q = q2) (hlh : lo ≤ hi) : ∀ {P : List Pc} {r : Nat}, Chn s r P →
    ∃ K : List Kp, (P.map fun p1 => comm p1 p2).filter (·.k) = K.map (Kp.pc s) ∧ Dcm (sb s) (q2 + (cl lo hi r - lo)) (((P.flatMap (seg (sb s))).drop (lo - r)).take (hi - cl lo hi r)) K := by
  intro P
  induction P with
  | nil => intro r _; exact ⟨[], rfl, by simp; intro y hy; simp at hy⟩
  | cons p P ih =>
    intro r h
    have hl := seg_len h
    obtain ⟨h1, h2, h3⟩ := h
    obtain ⟨K1, a1, a2⟩ := kept_one h1 h2 k2 hf ht hq hlh
    obtain ⟨K2, b1, b2⟩ := ih h3
    refine ⟨K1 ++ K2, ?_, ?_⟩
    · rw [List.map_cons, ← List.singleton_append, List.filter_append, a1, b1, List.map_append]
    · rw [List.flatMap_cons, List.drop_append, List.take_append, hl]
      refine a2.append ?_
      rw [List.length_take, List.length_drop, hl]
      have e1 : q2 + (cl lo hi r - lo) + min (hi - cl lo hi r) (p.x.size - (lo - r)) = q2 + (cl lo hi (r + p.x.size) - lo) := by unfold cl; omega
      have e2 : lo - r - p.x.size = lo - (r + p.x.size) := by omega
      have e3 : hi - cl lo hi r - (p.x.size - (lo - r)) = hi - cl lo hi (r + p.x.size) := by unfold cl; omega
      rw [e1, e2, e3]
      exact b2

theorem thru_slice {z1 : List (Int × Option Nat)} {T : List Int} (hz : z1.map Prod.fst = T) (lo m : Nat) : thru z1 (pcs T lo m) = (z1.drop lo).take m := by
  refine List.ext_getElem? fun i => ?_
  unfold thru
  rw [List.getElem?_map, pcs_at, List.getElem?_take]
  split
  · rw [List.getElem?_drop, ← hz, List.getElem?_map]
    cases h : z1[lo + i]? with
    | none => rfl
    | some y => simp [h]
  · rfl
/-- All that both lists keep, in the order of the second one's parts. -/
def kbl (P1 P2 : List Pc) : List Pc := P2.flatMap fun p2 => P1.map fun p1 => comm p1 p2
theorem kept_all {s t : ByteArray} {P1 : List Pc} (h1 : Chn s 0 P1) (hz : (P1.flatMap (seg (sb s))).map Prod.fst = sb t) : ∀ {P2 : List Pc} {q : Nat}, Chn t q P2 →
    ∃ K : List Kp, (kbl P1 P2).filter (·.k) = K.map (Kp.pc s) ∧ Dcm (sb s) q (thru (P1.flatMap (seg (sb s))) (P2.flatMap (seg (sb t)))) K := by
  intro P2
  induction P2 with
  | nil => intro q _; exact ⟨[], rfl, fun y hy => by simp [thru] at hy⟩
  | cons p P ih =>
    intro q h
    have hl := seg_len h
    obtain ⟨g1, g2, g3⟩ := h
    obtain ⟨K2, b1, b2⟩ := ih g3
    have hfil : (kbl P1 (p :: P)).filter (·.k) = (P1.map fun p1 => comm p1 p).filter (·.k) ++ (kbl P1 P).filter (·.k) := by
      unfold kbl
      rw [List.flatMap_cons, List.filter_append]
    have hthr : thru (P1.flatMap (seg (sb s))) ((p :: P).flatMap (seg (sb t))) = thru (P1.flatMap (seg (sb s))) (seg (sb t) p) ++ thru (P1.flatMap (seg (sb s))) (P.flatMap (seg (sb t))) := by
      rw [List.flatMap_cons, thru_append]
    have hln : (thru (P1.flatMap (seg (sb s))) (seg (sb t) p)).length = p.x.size := by unfold thru; rw [List.length_map, hl]
    rw [hfil, hthr, b1]
    suffices hk : ∃ K1 : List Kp, (P1.map fun p1 => comm p1 p).filter (·.k) = K1.map (Kp.pc s) ∧ Dcm (sb s) q (thru (P1.flatMap (seg (sb s))) (seg (sb t) p)) K1 by
      obtain ⟨K1, a1, a2⟩ := hk
      exact ⟨K1 ++ K2, by rw [a1, List.map_append], a2.append (by rw [hln]; exact b2)⟩
    by_cases hk : p.k = true
    · obtain ⟨f, e, e1, e2, e3, e4, e5⟩ := g2 hk
      obtain ⟨K1, a1, a2⟩ := kept_in (s := s) hk e1 e2 g1 e3 h1
      refine ⟨K1, a1, ?_⟩
      have hs : seg (sb t) p = pcs (sb t) f (e - f) := by unfold seg; rw [if_pos hk, e1, e2, Int.toNat_natCast, show ((e : Int) - (f : Int)).toNat = e - f by omega]
      rw [hs, thru_slice hz]
      have c1 : cl f e 0 = f := by unfold cl; omega
      rw [c1, Nat.sub_self, Nat.add_zero, Nat.sub_zero] at a2
      exact a2
    · refine ⟨[], ?_, ?_⟩
      · rw [List.map_nil, List.filter_eq_nil_iff]
        intro c hc
        obtain ⟨p1, _, rfl⟩ := List.mem_map.1 hc
        unfold comm
        rw [if_neg (fun h => hk h.2.1)]
        decide
      · have hs : seg (sb t) p = (sb p.x).map fun c => (c, none) := by unfold seg; rw [if_neg hk]
        rw [hs, thru_none]
        exact all_new _
/-- The parts of a new text are its bytes with their sources, and follow each other. -/
theorem prl_seg {s : ByteArray} : ∀ {es : List Er} {f q : Nat}, Vld s.size f (ees es) → (∀ e ∈ es, 0 ≤ e.f ∧ e.f ≤ e.t ∧ e.t ≤ (s.size : Int)) →
    (prl s f q es).flatMap (seg (sb s)) = srcl (sb s) f (ees es) ∧ Chn s q (prl s f q es) := by
  intro es
  induction es with
  | nil =>
    intro f q h _
    have hf : f ≤ s.size := h
    refine ⟨?_, rfl, (fun _ => ⟨f, s.size, rfl, rfl, hf, Nat.le_refl _, rfl⟩), trivial⟩
    simp only [prl, List.flatMap_cons, List.flatMap_nil, List.append_nil, seg, if_true, ees, List.map_nil, srcl]
    rw [Int.toNat_natCast, show ((s.size : Int) - (f : Int)).toNat = s.size - f by omega]
    unfold pcs
    rw [List.take_of_length_le (by rw [List.length_drop, sb_len]; exact Nat.le_refl _)]
  | cons e es ih =>
    intro f q h hok
    obtain ⟨o1, o2, o3⟩ := hok e (by simp)
    obtain ⟨v1, v2, v3, v4⟩ := h
    simp only [Er.ee] at v1 v2 v3 v4
    obtain ⟨i1, i2⟩ := ih (f := e.t.toNat) (q := q + (e.f.toNat - f) + e.x.size) v4 (fun x hx => hok x (by simp [hx]))
    have hsz : (s.extract f e.f.toNat).size = e.f.toNat - f := cut_size v1 (by omega)
    refine ⟨?_, ?_⟩
    · simp only [prl, List.flatMap_cons, i1, ees_cons, srcl, Er.ee, seg, if_true]
      rw [Int.toNat_natCast, show (e.f - (f : Int)).toNat = e.f.toNat - f by omega]
      rfl
    · simp only [prl]
      refine ⟨rfl, (fun _ => ⟨f, e.f.toNat, rfl, by show e.f = ((e.f.toNat : Nat) : Int); omega, v1, by omega, rfl⟩), ?_, (fun h => by cases h), ?_⟩
      · rw [hsz]; simp only; omega
      · rw [hsz]; exact i2
/-- The pieces that both lists keep, and the edits around them: the composition. -/
theorem kept_comp {s t u : ByteArray} {a b : List Er} (ha : vErr (s.size : Int) a = 0) (hb : vErr (t.size : Int) b = 0) (ht : sb t = appl (sb s) 0 (ees a)) (hu : sb u = appl (sb t) 0 (ees b)) :
    ∃ K : List Kp, (kbl (prl s 0 0 a) (prl t 0 0 b)).filter (·.k) = K.map (Kp.pc s) ∧ Ordk s.size u.size 0 0 K ∧ ees (arl s u 0 0 K) = cmpl (sb s) (ees a) (ees b) := by
  obtain ⟨_, va, oa⟩ := vErr_ok ha
  obtain ⟨_, vb, ob⟩ := vErr_ok hb
  obtain ⟨s1, c1⟩ := prl_seg (q := 0) va oa
  obtain ⟨s2, c2⟩ := prl_seg (q := 0) vb ob
  obtain ⟨K, k1, k2⟩ := kept_all c1 (by rw [s1, srcl_fst, ht]) c2
  rw [s1, s2] at k2
  have va' : Vld (sb s).length 0 (ees a) := by rw [sb_len]; exact va
  have vb' : Vld (sb t).length 0 (ees b) := by rw [sb_len]; exact vb
  have hsrc := thru_src (srcl_src va') (by rw [srcl_fst, ← ht] : _ = sb t) (srcl_src vb')
  have hfst : (thru (srcl (sb s) 0 (ees a)) (srcl (sb t) 0 (ees b))).map Prod.fst = sb u := by rw [thru_fst, srcl_fst, hu]
  have hlen : (thru (srcl (sb s) 0 (ees a)) (srcl (sb t) 0 (ees b))).length = u.size := by rw [← sb_len, ← hfst, List.length_map]
  have ho := dcm_ord hsrc k2 (by rw [Nat.zero_add, hlen])
  rw [sb_len] at ho
  refine ⟨K, k1, ho, ?_⟩
  rw [arl_canon (by rw [hfst, List.drop_zero]) k2 ho]
  unfold cmpl norml
  rw [joinl_of_sep (canon_sep (x := []) (by rw [← ht]; exact hsrc)), sb_len, ht]

end Go.Proofs.YtkehgoailhpenaaGreat

/- The contract of common. Conditions: offsets and sizes of at most 2^40. -/
namespace Go.Proofs.YtkehgoailhpenaaGreat
open Go.RowKit Go.Shelf
set_option linter.unusedVariables false

/-- Five cells, read off a block. -/
theorem cells5 {W : World} {b t : Nat} {v0 v1 v2 v3 v4 : Value} (h : Blk W b t #[v0, v1, v2, v3, v4]) :
    W.cell? ⟨b, 0, none⟩ = some v0 ∧ W.cell? ⟨b, 1, none⟩ = some v1 ∧ W.cell? ⟨b, 2, none⟩ = some v2 ∧ W.cell? ⟨b, 3, none⟩ = some v3 ∧ W.cell? ⟨b, 4, none⟩ = some v4 :=
  ⟨by simpa using h.cell 0, by simpa using h.cell 1, by simpa using h.cell 2, by simpa using h.cell 3, by simpa using h.cell 4⟩

set_option maxRecDepth 100000 in
set_option maxHeartbeats 4000000 in
theorem common_any (p1 p2 : Pc) (w : World) (hf1 : 0 ≤ p1.f ∧ p1.f ≤ 1099511627776) (hq1 : 0 ≤ p1.q ∧ p1.q ≤ 1099511627776) (hx1 : p1.x.size ≤ 1099511627776) (hf2 : 0 ≤ p2.f ∧ p2.f ≤ 1099511627776) (ht2 : 0 ≤ p2.t ∧ p2.t ≤ 1099511627776) (hq2 : 0 ≤ p2.q ∧ p2.q ≤ 1099511627776) :
    Calls Tryz.prog 90 #[p1.val, p2.val] w fun e w' => e = .returned (comm p1 p2).val ∧ Below w.heap.size w w' := by
  have CE := Lib.hid (fun W => end_any p1 W (by omega) (by omega))
  obtain ⟨R, hR⟩ : ∃ R, comm p1 p2 = R := ⟨_, rfl⟩
  obtain ⟨f1, t1, q1, x1, k1⟩ := p1
  obtain ⟨f2, t2, q2, x2, k2⟩ := p2
  simp only [Pc.val] at hf1 hq1 hx1 hf2 ht2 hq2 CE ⊢
  rw [hR]
  unfold comm at hR
  simp only at hR
  obtain ⟨st, hst⟩ : ∃ z, max q1 f2 = z := ⟨_, rfl⟩
  obtain ⟨n1, hn1⟩ : ∃ z : Int, q1 + (x1.size : Int) = z := ⟨_, rfl⟩
  obtain ⟨en, hen⟩ : ∃ z, min n1 t2 = z := ⟨_, rfl⟩
  rw [hst, hn1, hen] at hR
  rw [hn1] at CE
  obtain ⟨B, hB⟩ : ∃ B, w.heap.size = B := ⟨_, rfl⟩
  obtain ⟨W, hW⟩ : ∃ W, ((w.alloc (.cells #[.int .i64 f1, .int .i64 t1, .int .i64 q1, .string x1, .bool k1] 103)).alloc (.cells #[.int .i64 f2, .int .i64 t2, .int .i64 q2, .string x2, .bool k2] 103)).alloc (.cells #[.int .i64 0, .int .i64 0, .int .i64 0, .string ⟨#[]⟩, .bool false] 103) = W := ⟨_, rfl⟩
  have b1 : Blk W B 103 #[.int .i64 f1, .int .i64 t1, .int .i64 q1, .string x1, .bool k1] := by rw [← hW, ← hB]; exact ((Blk.new _ _ _).alloc _).alloc _
  have b2 : Blk W (B + 1) 103 #[.int .i64 f2, .int .i64 t2, .int .i64 q2, .string x2, .bool k2] := by
    rw [← hW, ← hB]
    have := Blk.new (w.alloc (.cells #[.int .i64 f1, .int .i64 t1, .int .i64 q1, .string x1, .bool k1] 103)) 103 #[.int .i64 f2, .int .i64 t2, .int .i64 q2, .string x2, .bool k2]
    rw [World.size_alloc] at this
    exact this.alloc _
  have b3 : Blk W (B + 1 + 1) 103 #[.int .i64 0, .int .i64 0, .int .i64 0, .string ⟨#[]⟩, .bool false] := by
    rw [← hW, ← hB]
    have := Blk.new ((w.alloc (.cells #[.int .i64 f1, .int .i64 t1, .int .i64 q1, .string x1, .bool k1] 103)).alloc (.cells #[.int .i64 f2, .int .i64 t2, .int .i64 q2, .string x2, .bool k2] 103)) 103 #[.int .i64 0, .int .i64 0, .int .i64 0, .string ⟨#[]⟩, .bool false]
    rw [World.size_alloc, World.size_alloc] at this
    exact this
  have HB3 := Lib.hid b3
  have sW : W.heap.size = B + 3 := by rw [← hW, ← hB]; simp
  have bl : Below B w W := by rw [← hW, ← hB]; exact (((Below.refl _ _).alloc (Nat.le_refl _) _).alloc (by simp) _).alloc (by simp; omega) _
  have HS : Hid (∀ V, Below (B + 2) W V → (V.cell? ⟨B, 0, none⟩ = some (.int .i64 f1) ∧ V.cell? ⟨B, 1, none⟩ = some (.int .i64 t1) ∧ V.cell? ⟨B, 2, none⟩ = some (.int .i64 q1) ∧ V.cell? ⟨B, 3, none⟩ = some (.string x1) ∧ V.cell? ⟨B, 4, none⟩ = some (.bool k1)) ∧
      (V.cell? ⟨B + 1, 0, none⟩ = some (.int .i64 f2) ∧ V.cell? ⟨B + 1, 1, none⟩ = some (.int .i64 t2) ∧ V.cell? ⟨B + 1, 2, none⟩ = some (.int .i64 q2) ∧ V.cell? ⟨B + 1, 3, none⟩ = some (.string x2) ∧ V.cell? ⟨B + 1, 4, none⟩ = some (.bool k2))) := fun V hV =>
    ⟨cells5 (b1.same (hV.block B (by omega))), cells5 (b2.same (hV.block (B + 1) (by omega)))⟩
  obtain ⟨⟨c0, c1, c2, c3, c4⟩, d0, d1, d2, d3, d4⟩ := HS.out W (Below.refl _ _)
  have HW := Lib.hid hW; have HB := Lib.hid hB; have HBL := Lib.hid bl
  have g1 : 0 ≤ st ∧ st ≤ 1099511627776 := by omega
  have g2 : 0 ≤ en ∧ en ≤ 1099511627776 := by omega
  have HR := Lib.hid hR
  clear hW hB b1 b2 b3 bl hR
  rw [← HW.out] at c0 c1 c2 c3 c4 d0 d1 d2 d3 d4
  rw [← HB.out] at c0 c1 c2 c3 c4 d0 d1 d2 d3 d4
  go_enter Tryz.func90, Tryz.ntmps90
  go_wp2_with fail
  rw [HW.out, HB.out]
  have hB2 : Below (B + 2) W W.drew := (Below.refl _ _).drew
  have z2 : B + 2 ≤ W.drew.heap.size := by show B + 2 ≤ W.heap.size; omega
  have cA := HS.out W.drew hB2
  go_region_held3 (fun V : World => (V.cell? ⟨B, 0, none⟩ = some (.int .i64 f1) ∧ V.cell? ⟨B, 1, none⟩ = some (.int .i64 t1) ∧ V.cell? ⟨B, 2, none⟩ = some (.int .i64 q1) ∧ V.cell? ⟨B, 3, none⟩ = some (.string x1) ∧ V.cell? ⟨B, 4, none⟩ = some (.bool k1)) ∧
      (V.cell? ⟨B + 1, 0, none⟩ = some (.int .i64 f2) ∧ V.cell? ⟨B + 1, 1, none⟩ = some (.int .i64 t2) ∧ V.cell? ⟨B + 1, 2, none⟩ = some (.int .i64 q2) ∧ V.cell? ⟨B + 1, 3, none⟩ = some (.string x2) ∧ V.cell? ⟨B + 1, 4, none⟩ = some (.bool k2))) (first | exact cA | exact cB)
    (first | (go_at_call 72; refine (CE.out _).mono ?_; rintro e w1 ⟨rfl, b1⟩; have hB1 := hB2.trans (b1.mono z2); have cB := HS.out w1 hB1))
  have b4 := HB3.out.same (b1.block (B + 1 + 1) (by show B + 1 + 1 < W.heap.size; omega))
  have hw1 : Below B w w1 := HBL.out.trans (hB1.mono (by omega))
  have z1 : B + 3 ≤ w1.heap.size := by have := b1.size; have h2 : W.drew.heap.size = W.heap.size := rfl; omega
  obtain ⟨e0, e1, e2, e3, e4⟩ := cells5 b4
  have HCB := Lib.hid cB
  obtain ⟨⟨c0, c1, c2, c3, c4⟩, d0, d1, d2, d3, d4⟩ := cB
  have HW1 := Lib.hid hw1; have HBW := Lib.hid b4
  clear cA b1 hB2 hB1 hw1 b4
  obtain ⟨sk, hsk⟩ : ∃ z, st - q1 = z := ⟨_, rfl⟩
  have HEND : Hid (∀ v0 v1 v2 v3 v4 : Value, Blk (((((w1.setCell ⟨B + 1 + 1, 0, none⟩ v0).setCell ⟨B + 1 + 1, 1, none⟩ v1).setCell ⟨B + 1 + 1, 2, none⟩ v2).setCell ⟨B + 1 + 1, 3, none⟩ v3).setCell ⟨B + 1 + 1, 4, none⟩ v4) (B + 1 + 1) 103 #[v0, v1, v2, v3, v4] ∧ Below w.heap.size w (((((w1.setCell ⟨B + 1 + 1, 0, none⟩ v0).setCell ⟨B + 1 + 1, 1, none⟩ v1).setCell ⟨B + 1 + 1, 2, none⟩ v2).setCell ⟨B + 1 + 1, 3, none⟩ v3).setCell ⟨B + 1 + 1, 4, none⟩ v4)) := by
    intro v0 v1 v2 v3 v4
    refine ⟨by simpa using ((((HBW.out.set 0 v0).set 1 v1).set 2 v2).set 3 v3).set 4 v4, ?_⟩
    rw [HB.out]
    exact ((((HW1.out.setCell (p := ⟨B + 1 + 1, 0, none⟩) (by show B ≤ B + 1 + 1; omega) _).setCell (p := ⟨B + 1 + 1, 1, none⟩) (by show B ≤ B + 1 + 1; omega) _).setCell (p := ⟨B + 1 + 1, 2, none⟩) (by show B ≤ B + 1 + 1; omega) _).setCell (p := ⟨B + 1 + 1, 3, none⟩) (by show B ≤ B + 1 + 1; omega) _).setCell (p := ⟨B + 1 + 1, 4, none⟩) (by show B ≤ B + 1 + 1; omega) _
  by_cases hk : k1 = true ∧ k2 = true ∧ st < en
  · obtain ⟨rfl, rfl, hlt⟩ := hk
    have hge : ¬ en ≤ st := by omega
    have s1 : 0 ≤ sk := by omega
    have s2 : sk + en - st ≤ x1.size := by omega
    have s3 : sk ≤ sk + en - st := by omega
    have hR := HR.out
    rw [if_pos ⟨rfl, rfl, hlt⟩, hsk] at hR
    go_wp2_with fail
    have cS := HCB.out
    have wr : ∀ z : Int, -9223372036854775808 ≤ z → z ≤ 9223372036854775807 → IntKind.i64.wrap z = z := by intro z a b; simp [IntKind.wrap, IntKind.signed, IntKind.bits]; omega
    have w1' := wr sk (by omega) (by omega)
    have w2 := wr (sk + en) (by omega) (by omega)
    have w3 := wr (sk + en - st) (by omega) (by omega)
    have w4 := wr (f1 + sk) (by omega) (by omega)
    have w5 := wr (f1 + sk + en) (by omega) (by omega)
    have w6 := wr (f1 + sk + en - st) (by omega) (by omega)
    have w7 := wr (q2 + st) (by omega) (by omega)
    have w8 := wr (q2 + st - f2) (by omega) (by omega)
    clear wr
    have y0 := HBW.out.frozen 0
    have y1 := HBW.out.frozen 1
    have y2 := HBW.out.frozen 2
    have y3 := HBW.out.frozen 3
    have y4 := HBW.out.frozen 4
    clear cS
    go_region
    go_wp2_with fail
    obtain ⟨k0, hbl⟩ := HEND.out (.int .i64 (f1 + sk)) (.int .i64 (f1 + sk + en - st)) (.int .i64 (q2 + st - f2)) (.string (x1.extract sk.toNat (sk + en - st).toNat)) (.bool true)
    obtain ⟨k0, k1, k2, k3, k4⟩ := cells5 k0
    refine bodyPost_ret (v := R.val) (by simp [results, Tryz.results90, go_sem, k0, k1, k2, k3, k4, ← hR, Pc.val]) rfl ?_
    exact ⟨rfl, hbl.drew⟩
  · have hR := HR.out
    rw [if_neg hk] at hR
    have y0 := HBW.out.frozen 0
    have y1 := HBW.out.frozen 1
    have y2 := HBW.out.frozen 2
    have y3 := HBW.out.frozen 3
    have y4 := HBW.out.frozen 4
    cases k1 with
    | false =>
      go_wp2_with fail
      obtain ⟨k0, hbl⟩ := HEND.out (.int .i64 0) (.int .i64 0) (.int .i64 0) (.string ⟨#[]⟩) (.bool false)
      obtain ⟨k0, k1, k2, k3, k4⟩ := cells5 k0
      refine bodyPost_ret (v := R.val) (by simp [results, Tryz.results90, go_sem, k0, k1, k2, k3, k4, ← hR, Pc.val]) rfl ?_
      exact ⟨rfl, hbl⟩
    | true =>
      cases k2 with
      | false =>
        go_wp2_with fail
        obtain ⟨k0, hbl⟩ := HEND.out (.int .i64 0) (.int .i64 0) (.int .i64 0) (.string ⟨#[]⟩) (.bool false)
        obtain ⟨k0, k1, k2, k3, k4⟩ := cells5 k0
        refine bodyPost_ret (v := R.val) (by simp [results, Tryz.results90, go_sem, k0, k1, k2, k3, k4, ← hR, Pc.val]) rfl ?_
        exact ⟨rfl, hbl⟩
      | true =>
        have hge : en ≤ st := by
          have : ¬ st < en := fun h => hk ⟨rfl, rfl, h⟩
          omega
        go_wp2_with fail
        obtain ⟨k0, hbl⟩ := HEND.out (.int .i64 0) (.int .i64 0) (.int .i64 0) (.string ⟨#[]⟩) (.bool false)
        obtain ⟨k0, k1, k2, k3, k4⟩ := cells5 k0
        refine bodyPost_ret (v := R.val) (by simp [results, Tryz.results90, go_sem, k0, k1, k2, k3, k4, ← hR, Pc.val]) rfl ?_
        exact ⟨rfl, hbl⟩

end Go.Proofs.YtkehgoailhpenaaGreat

/- The contract of the program's Invert. Conditions: texts of at most 10000000 bytes, lists of at most 1000 edits. -/
namespace Go.Proofs.YtkehgoailhpenaaGreat
open Go.RowKit Go.Shelf
set_option linter.unusedVariables false
attribute [local go_sem] Oper.semAt_some

/-- The edits that lead back, of parts. -/
def ivl (s : ByteArray) : List Pc → List Er
  | [] => []
  | p :: l => if p.k then ivl s l else ⟨p.q, p.q + p.x.size, s.extract p.f.toNat p.t.toNat⟩ :: ivl s l
theorem ivl_add (s : ByteArray) : ∀ (a b : List Pc), ivl s (a ++ b) = ivl s a ++ ivl s b := by
  intro a
  induction a with
  | nil => intro b; rfl
  | cons p a ih =>
    intro b
    simp only [List.cons_append, ivl]
    cases p.k
    · rw [if_neg (by simp), if_neg (by simp), ih]; rfl
    · rw [if_pos rfl, if_pos rfl, ih]
theorem pg_take {l : List Pc} {k : Nat} (h : k < l.length) : l.take (k + 1) = l.take k ++ [pg l k] := by
  unfold pg; rw [List.take_add_one, List.getElem?_eq_getElem h]; rfl
theorem ivl_step {s : ByteArray} {l : List Pc} {k : Nat} (h : k < l.length) : ivl s (l.take (k + 1)) = ivl s (l.take k) ++ (if (pg l k).k then [] else [⟨(pg l k).q, (pg l k).q + (pg l k).x.size, s.extract (pg l k).f.toNat (pg l k).t.toNat⟩]) := by
  rw [pg_take h, ivl_add]
  simp only [ivl]
theorem ivl_prl (s : ByteArray) : ∀ (es : List Er) (f q : Nat), (∀ e ∈ es, 0 ≤ e.f ∧ e.f ≤ e.t) → vE (s.size : Int) (f : Int) es = 0 → ivl s (prl s f q es) = ers (invl (sb s) f q (ees es)) := by
  intro es
  induction es with
  | nil => intro f q _ _; rfl
  | cons e es ih =>
    intro f q h hv
    obtain ⟨h0, h1⟩ := h e (by simp)
    simp only [vE] at hv
    split at hv
    · omega
    · split at hv
      · omega
      · rename_i k1 k2
        have ht : ((e.t.toNat : Nat) : Int) = e.t := by omega
        have hi := ih e.t.toNat (q + (e.f.toNat - f) + e.x.size) (fun x hx => h x (by simp [hx])) (by rw [ht]; exact hv)
        simp only [prl, ivl, ees_cons, invl, ers, List.map_cons]
        rw [if_pos trivial, if_neg (by simp), hi]
        simp only [er, Er.ee, ers, sb_len, bs_cut]
        congr 2
        · omega
        · omega
theorem prl_fit {s : ByteArray} : ∀ {es : List Er} {f q c : Nat}, f ≤ s.size → q ≤ f + 100000 * c → vE (s.size : Int) (f : Int) es = 0 → (∀ e ∈ es, e.x.size ≤ 100000) →
    ∀ p ∈ prl s f q es, 0 ≤ p.f ∧ p.f ≤ p.t ∧ p.t ≤ (s.size : Int) ∧ 0 ≤ p.q ∧ p.q ≤ (s.size : Int) + 100000 * ((c : Int) + es.length) ∧ (p.k = false → p.x.size ≤ 100000) := by
  intro es
  induction es with
  | nil =>
    intro f q c hf hq _ _ p hp
    simp only [prl, List.mem_singleton] at hp
    subst hp
    simp only [List.length_nil]
    exact ⟨by omega, by omega, by omega, by omega, by omega, fun h => by cases h⟩
  | cons e es ih =>
    intro f q c hf hq hv hx p hp
    simp only [vE] at hv
    split at hv
    · omega
    · split at hv
      · omega
      · rename_i k1 k2
        have ht : ((e.t.toNat : Nat) : Int) = e.t := by omega
        have hxe := hx e (by simp)
        simp only [prl, List.mem_cons] at hp
        simp only [List.length_cons]
        push_cast
        rcases hp with rfl | rfl | hp
        · exact ⟨by simp only []; omega, by simp only []; omega, by simp only []; omega, by simp only []; omega, by simp only []; omega, fun h => by cases h⟩
        · exact ⟨by simp only []; omega, by simp only []; omega, by simp only []; omega, by simp only []; omega, by simp only []; omega, fun _ => hxe⟩
        · have := ih (f := e.t.toNat) (q := q + (e.f.toNat - f) + e.x.size) (c := c + 1) (by omega) (by omega) (by rw [ht]; exact hv) (fun x h => hx x (by simp [h])) p hp
          push_cast at this
          refine ⟨this.1, this.2.1, this.2.2.1, this.2.2.2.1, by have := this.2.2.2.2.1; omega, this.2.2.2.2.2⟩

/-- The block b holds a slice of edits of the call's own; T: the blocks that appending may turn. -/
def Iv (b lo : Nat) (T : Nat → Prop) (es : List Er) (w : World) : Prop :=
  ∃ v, Blk w b 38 #[v] ∧ w.ownsRow lo 84 3 v es.length (rv es) ∧ v.ownBlock ≠ some b ∧ ∀ j, T j ↔ (j = b ∨ v.ownBlock = some j)
theorem Iv.lt {b lo : Nat} {T : Nat → Prop} {es : List Er} {w : World} (h : Iv b lo T es w) : ∀ j, T j → j < w.heap.size := by
  obtain ⟨v, hb, ho, _, hT⟩ := h
  intro j hj
  rcases (hT j).1 hj with rfl | h
  · exact hb.lt
  · exact (ho.lt j h).2
theorem Iv.ge {b lo : Nat} {T : Nat → Prop} {es : List Er} {w : World} (h : Iv b lo T es w) (hb : lo ≤ b) : ∀ j, T j → lo ≤ j := by
  obtain ⟨v, _, ho, _, hT⟩ := h
  intro j hj
  rcases (hT j).1 hj with rfl | h
  · exact hb
  · exact (ho.lt j h).1
theorem Iv.keep {b lo : Nat} {T : Nat → Prop} {es : List Er} {w w' : World} (h : Iv b lo T es w) (hb : ∀ j, T j → w'.heap[j]? = w.heap[j]?) : Iv b lo T es w' := by
  obtain ⟨v, hk, ho, hn, hT⟩ := h
  exact ⟨v, hk.same (hb b ((hT b).2 (.inl rfl))), own_same ho (fun g hg => hb g ((hT g).2 (.inr hg))), hn, hT⟩
theorem Iv.oth {b lo n : Nat} {T : Nat → Prop} {es : List Er} {w w' : World} (h : Iv b lo T es w) (ho : Oth T n w w') : Iv b lo T es w' := h.keep (fun j hj => ho.block j (h.lt j hj) (.inr hj))
/-- Appending an edit and storing the slice. -/
theorem Iv.step {b lo : Nat} {T : Nat → Prop} {es : List Er} {w w1 w2 : World} {v v' : Value} {e : Er} (hk : Blk w b 38 #[v]) (hn : v.ownBlock ≠ some b) (hT : ∀ j, T j ↔ (j = b ∨ v.ownBlock = some j)) (ho : w.ownsRow lo 84 3 v es.length (rv es))
    (hb1 : Below w.heap.size w w1) (ho2 : w2.ownsRow lo 84 3 v' (es.length + 1) (rv es ++ e.vals)) (hg : w1.grownBy w2 v.ownBlock) (hat : v'.ownBlock = v.ownBlock ∨ v'.ownBlock = some w1.heap.size) :
    ∃ T', Iv b lo T' (es ++ [e]) (w2.setCell ⟨b, 0, none⟩ v') ∧ Rnd T T' w (w2.setCell ⟨b, 0, none⟩ v') := by
  have hbl : b < w.heap.size := hk.lt
  have hs1 := hb1.size
  have hk2 : Blk w2 b 38 #[v] := (hk.same (hb1.block b hbl)).same (hg.block b (by omega) (fun e => hn e.symm))
  have hn' : v'.ownBlock ≠ some b := by
    rcases hat with h | h
    · rw [h]; exact hn
    · rw [h]; intro e; simp at e; omega
  refine ⟨fun j => j = b ∨ v'.ownBlock = some j, ⟨v', by simpa using hk2.set 0 v', ?_, hn', fun j => Iff.rfl⟩, ?_⟩
  · rw [List.length_append, rv_snoc]
    exact own_same ho2 (fun g hg' => Below.heap_setCell w2 _ _ g (fun e => hn' (by simp at e; rw [hg', e])))
  · refine ⟨by simp [World.setCell]; have := hg.size; omega, fun k hk0 hkT => ?_, fun k hk0 => ?_⟩
    · rw [Below.heap_setCell w2 _ _ k (fun e => hkT (by simp at e; exact (hT k).2 (.inl e))), hg.block k (by omega) (fun e => hkT ((hT k).2 (.inr e.symm))), hb1.block k hk0]
    · rcases hk0 with h | h
      · exact .inl ((hT k).2 (.inl h))
      · rcases hat with h1 | h1
        · rw [h1] at h; exact .inl ((hT k).2 (.inr h))
        · rw [h1] at h; simp at h; exact .inr (by omega)

theorem wp_append_at {P : Program} {w : World} {o : Oper} {a : Act} {K : Act → World → Prop} {Q : Exit → Act → World → Prop} (sl x : Operand) (t : TypeId)
    (ho : o.op = .call { callee := .builtin .append, args := #[sl, x], argTypes := #[t, t] })
    (base : Nat) (e : TypeId) (i : TypeInfo) (z : Value) (size bytes : Nat) (ht : P.underlying t = some (.slice e)) (hi : P.info? e = some i) (hz : i.zero = some z)
    (hsize : i.size = size) (hby : i.bytes = bytes) (hzs : z.cells.size = size) (hsz : 0 < size)
    (v : Value) (n : Nat) (xs : List Value) (hs : a.eval sl = v) (hown : w.ownsRow base e size v n xs)
    (ad : Addr) (m c : Nat) (news : List Value) (hx : a.eval x = .slice (some ad) m c) (hl : news.length = m * size) (hnews : ∀ j u, news[j]? = some u → w.cell? (ad.add j) = some u) (h1 : ∀ u ∈ news, u.oneCell' = true)
    (h63 : n + m ≤ maxLen) (hbytes : (n + m) * bytes ≤ 140737488355328) (hbase : base ≤ w.heap.size)
    (h : ∀ v' w', w'.ownsRow base e size v' (n + m) (xs ++ news) → w.grownBy w' v.ownBlock → (v'.ownBlock = v.ownBlock ∨ v'.ownBlock = some w.heap.size) → K (a.put o.dst v') w') :
    o.wp P a w K Q := by
  obtain ⟨v', w', hr, h2, h3, h4, h5⟩ := run_append_own_at (P := P) w base t o.type e i z size bytes ht hi hz hsize hby hzs hsz v n xs hown ad m c news hl hnews h1 h63 hbytes hbase
  unfold Oper.wp execOp
  simp only [ho, resolve, invoke, builtin, Sem.run_bind, Sem.run_pure, Result.andThen_ok, List.map_toArray, List.map_cons, List.map_nil, hs, hx, hr]
  exact h v' w' h2 h3 h5

end Go.Proofs.YtkehgoailhpenaaGreat

/- The contract of keptByBoth's iterator: it yields what both lists keep. Conditions: valid lists, texts of at most 10000000 bytes. -/
namespace Go.Proofs.YtkehgoailhpenaaGreat
open Go.RowKit Go.Shelf
set_option linter.unusedVariables false
attribute [local go_sem] Oper.semAt_some

theorem kept_any (s t : ByteArray) (a b : Option Addr) (n1 c1 n2 c2 : Nat) (w : World) :
    Calls Tryz.prog 76 #[.string s, .slice a n1 c1, .string t, .slice b n2 c2] w fun e w' =>
      e = .returned (.func (.func 89) #[] #[.pointer (some ⟨w.heap.size + 2, 0, none⟩), .pointer (some ⟨w.heap.size + 3, 0, none⟩), .pointer (some ⟨w.heap.size, 0, none⟩), .pointer (some ⟨w.heap.size + 1, 0, none⟩)]) ∧
        w' = (((w.alloc (.cells #[.string s] 9)).alloc (.cells #[.slice a n1 c1] 38)).alloc (.cells #[.string t] 9)).alloc (.cells #[.slice b n2 c2] 38) := by
  go_enter Tryz.func76, Tryz.ntmps76
  go_wp2
  go_ret
  exact ⟨rfl, rfl⟩

/-- All that both lists keep. -/
def KB (s t : ByteArray) (es1 es2 : List Er) : List Pc := (kbl (prl s 0 0 es1) (prl t 0 0 es2)).filter (·.k)
/-- How many of the first m pairs keep something. -/
def cnt (L : List Pc) (m : Nat) : Nat := ((L.take m).filter (·.k)).length
theorem cnt_zero (L : List Pc) : cnt L 0 = 0 := rfl
theorem cnt_all {L : List Pc} {m : Nat} (h : L.length ≤ m) : cnt L m = (L.filter (·.k)).length := by unfold cnt; rw [List.take_of_length_le h]
theorem cnt_succ {L : List Pc} {m : Nat} (h : m < L.length) : cnt L (m + 1) = cnt L m + (if (pg L m).k then 1 else 0) := by
  unfold cnt
  rw [List.take_add_one, List.getElem?_eq_getElem h, Option.toList_some, List.filter_append, List.length_append]
  have hp : pg L m = L[m] := by simp [pg, List.getElem?_eq_getElem h]
  rw [hp]
  cases hk : L[m].k <;> simp [hk]
theorem cnt_get {L : List Pc} {m : Nat} (h : m < L.length) (hk : (pg L m).k = true) : cnt L m < (L.filter (·.k)).length ∧ pg (L.filter (·.k)) (cnt L m) = pg L m := by
  have hp : pg L m = L[m] := by simp [pg, List.getElem?_eq_getElem h]
  rw [hp] at hk ⊢
  have e : L.filter (·.k) = (L.take m).filter (·.k) ++ (L[m] :: (L.drop (m + 1)).filter (·.k)) := by
    conv => lhs; rw [← List.take_append_drop m L, List.drop_eq_getElem_cons h]
    rw [List.filter_append, List.filter_cons, if_pos hk]
  unfold cnt
  rw [e]
  refine ⟨by simp, ?_⟩
  unfold pg
  rw [List.getElem?_append_right (Nat.le_refl _), Nat.sub_self]
  rfl
theorem kbl_len (P1 P2 : List Pc) : (kbl P1 P2).length = P2.length * P1.length := by
  unfold kbl
  induction P2 with
  | nil => simp
  | cons p P ih => rw [List.flatMap_cons, List.length_append, ih, List.length_map, List.length_cons, Nat.succ_mul, Nat.add_comm]
theorem kbl_at {P1 : List Pc} : ∀ {P2 : List Pc} {i j : Nat}, i < P2.length → j < P1.length → pg (kbl P1 P2) (i * P1.length + j) = comm (pg P1 j) (pg P2 i) := by
  intro P2
  induction P2 with
  | nil => intro i j h; simp at h
  | cons p P ih =>
    intro i j hi hj
    have e : kbl P1 (p :: P) = (P1.map fun p1 => comm p1 p) ++ kbl P1 P := rfl
    rw [e]
    unfold pg
    cases i with
    | zero =>
      rw [Nat.zero_mul, Nat.zero_add, List.getElem?_append_left (by rw [List.length_map]; exact hj), List.getElem?_map, List.getElem?_eq_getElem hj]
      rfl
    | succ i =>
      rw [List.getElem?_append_right (by rw [List.length_map, Nat.succ_mul]; omega), List.length_map, show (i + 1) * P1.length + j - P1.length = i * P1.length + j by rw [Nat.succ_mul]; omega]
      have := ih (i := i) (j := j) (by simp at hi; omega) hj
      unfold pg at this
      rw [this]
      rfl
/-- The blocks of a list. -/
def Rl (a : Option Addr) (n k : Nat) : Prop := 0 < n ∧ ∃ off, a = some ⟨k, off, none⟩

theorem prl_ok {s : ByteArray} {es : List Er} (hs : s.size ≤ 10000000) (hv : vErr (s.size : Int) es = 0) (hx : ∀ e ∈ es, e.x.size ≤ 100000) (k : Nat) :
    (0 ≤ (pg (prl s 0 0 es) k).f ∧ (pg (prl s 0 0 es) k).f ≤ 1099511627776) ∧ (0 ≤ (pg (prl s 0 0 es) k).t ∧ (pg (prl s 0 0 es) k).t ≤ 1099511627776) ∧ (0 ≤ (pg (prl s 0 0 es) k).q ∧ (pg (prl s 0 0 es) k).q ≤ 1099511627776) ∧ (pg (prl s 0 0 es) k).x.size ≤ 1099511627776 := by
  obtain ⟨hl, hvl, hok⟩ := vErr_ok hv
  by_cases hk : k < (prl s 0 0 es).length
  · have hm : pg (prl s 0 0 es) k ∈ prl s 0 0 es := by
      unfold pg
      rw [List.getElem?_eq_getElem hk]
      exact List.getElem_mem hk
    have hv0 : vE (s.size : Int) ((0 : Nat) : Int) es = 0 := by
      have := hv
      unfold vErr at this
      rw [if_neg (by omega)] at this
      exact this
    obtain ⟨h1, h2, h3, h4, h5, h6⟩ := prl_fit (f := 0) (q := 0) (c := 0) (Nat.zero_le _) (Nat.zero_le _) hv0 hx _ hm
    obtain ⟨_, hc⟩ := prl_seg (q := 0) hvl hok
    have hx2 : (pg (prl s 0 0 es) k).x.size ≤ 10000000 := by
      cases hkk : (pg (prl s 0 0 es) k).k with
      | false => have := h6 hkk; omega
      | true =>
        have : ∀ {P : List Pc} {r : Nat}, Chn s r P → ∀ p ∈ P, p.k = true → p.x.size ≤ s.size := by
          intro P
          induction P with
          | nil => intro r _ p hp; simp at hp
          | cons c P ih =>
            intro r hcc p hp hkp
            obtain ⟨g1, g2, g3⟩ := hcc
            rcases List.mem_cons.1 hp with rfl | hp
            · obtain ⟨f, t, e1, e2, e3, e4, e5⟩ := g2 hkp
              rw [e5, cut_size e3 e4]; omega
            · exact ih g3 p hp hkp
        have := this hc _ hm hkk
        omega
    omega
  · have : pg (prl s 0 0 es) k = dP := by unfold pg; rw [List.getElem?_eq_none (by omega)]; rfl
    rw [this]
    exact ⟨⟨by decide, by decide⟩, ⟨by decide, by decide⟩, ⟨by decide, by decide⟩, by decide⟩

set_option maxRecDepth 100000 in
set_option maxHeartbeats 4000000 in
theorem kb_giv (s t : ByteArray) (xt xb xs xa : Nat) (a b : Option Addr) (c1 c2 : Nat) (es1 es2 : List Er) (w : World) (hs : s.size ≤ 10000000) (ht : t.size ≤ 10000000)
    (hv1 : vErr (s.size : Int) es1 = 0) (hv2 : vErr (t.size : Int) es2 = 0) (hf1 : ∀ e ∈ es1, e.x.size ≤ 100000) (hf2 : ∀ e ∈ es2, e.x.size ≤ 100000)
    (bt : Boxed w xt 9 (.string t)) (bb : Boxed w xb 38 (.slice b es2.length c2)) (bs : Boxed w xs 9 (.string s)) (ba : Boxed w xa 38 (.slice a es1.length c1))
    (hS1 : ES w.heap.size w a c1 es1) (hS2 : ES w.heap.size w b c2 es2) :
    Giv Tryz.prog 89 #[.pointer (some ⟨xt, 0, none⟩), .pointer (some ⟨xb, 0, none⟩), .pointer (some ⟨xs, 0, none⟩), .pointer (some ⟨xa, 0, none⟩)]
      (fun k => #[(pg (KB s t es1 es2) k).val]) (KB s t es1 es2).length (fun k => k = xs ∨ k = xa ∨ Rl a es1.length k ∨ Rl b es2.length k) w := by
  intro l J T₀ W hW hR hB hO hY h0
  dsimp only at hY hR
  have bt1 : Boxed W xt 9 (.string t) := (hW.block xt bt.lt).trans bt
  have bb1 : Boxed W xb 38 (.slice b es2.length c2) := (hW.block xb bb.lt).trans bb
  have bs1 : Boxed W xs 9 (.string s) := (hW.block xs bs.lt).trans bs
  have ba1 : Boxed W xa 38 (.slice a es1.length c1) := (hW.block xa ba.lt).trans ba
  have cs1 := hS1.on hW
  have cs2 := hS2.on hW
  obtain ⟨b0, hb0⟩ : ∃ b, W.heap.size = b := ⟨_, rfl⟩
  obtain ⟨n1, hn1⟩ : ∃ n, es1.length = n := ⟨_, rfl⟩
  obtain ⟨n2, hn2⟩ : ∃ n, es2.length = n := ⟨_, rfl⟩
  have ct := (bt1.alloc (.cells #[.func (.yield l) #[] #[]] 121)).cell
  have cb := (bb1.alloc (.cells #[.func (.yield l) #[] #[]] 121)).cell
  obtain ⟨W1, hW1⟩ : ∃ V, ((W.alloc (.cells #[.func (.yield l) #[] #[]] 121)).alloc (.cells #[.string t] 9)).alloc (.cells #[.slice b n2 c2] 38) = V := ⟨_, rfl⟩
  have hs1 : W1.heap.size = b0 + 3 := by rw [← hW1, ← hb0]; simp
  have hB1 : Below W.heap.size W W1 := by rw [← hW1]; exact (((Below.refl _ _).alloc (Nat.le_refl _) _).alloc (by simp) _).alloc (by simp; omega) _
  have by1 : Boxed W1 b0 121 (.func (.yield l) #[] #[]) := by rw [← hW1, ← hb0]; exact ((Boxed.new _ _ _).alloc _).alloc _
  have bS : Boxed W1 (b0 + 1) 9 (.string t) := by
    rw [← hW1, ← hb0]
    have := Boxed.new (W.alloc (.cells #[.func (.yield l) #[] #[]] 121)) 9 (.string t)
    rw [World.size_alloc] at this; exact this.alloc _
  have bL : Boxed W1 (b0 + 2) 38 (.slice b n2 c2) := by
    rw [← hW1, ← hb0]
    have := Boxed.new ((W.alloc (.cells #[.func (.yield l) #[] #[]] 121)).alloc (.cells #[.string t] 9)) 38 (.slice b n2 c2)
    rw [World.size_alloc, World.size_alloc] at this; exact this
  rw [hn2] at cb
  have hG := part_giv t (b0 + 2) (b0 + 1) b c2 es2 W1 ht hv2 hf2 (by rw [hn2]; exact bL) bS (cs2.on hB1)
  have hTlt := hB 0 T₀ W h0
  have hJ1 := hO 0 T₀ W W1 h0 (Oth.of_below hB1)
  have hRb : ∀ k, T₀ k → k < W1.heap.size ∧ ¬ (k = b0 + 1 ∨ 0 < es2.length ∧ ∃ off, b = some ⟨k, off, none⟩) := fun k hk => by
    have h1 := hTlt k hk
    refine ⟨by omega, ?_⟩
    rintro (h | h)
    · omega
    · exact hR k (.inr (.inr (.inr h))) hk
  have HR := Lib.hid hR; have HB := Lib.hid hB; have HO := Lib.hid hO; have HY := Lib.hid hY; have HS1 := Lib.hid (cs1.on hB1); have HBS : Hid (Boxed W1 xs 9 (.string s)) := (hB1.block xs bs1.lt).trans bs1
  have HBA : Hid (Boxed W1 xa 38 (.slice a es1.length c1)) := (hB1.block xa ba1.lt).trans ba1
  have HBY := Lib.hid by1; have HG := Lib.hid hG
  have HN1 := Lib.hid hn1; have HN2 := Lib.hid hn2; have HF1 := Lib.hid hf1; have HF2 := Lib.hid hf2; have HV1 := Lib.hid hv1; have HV2 := Lib.hid hv2; have HJ1 := Lib.hid hJ1; have HW1 := Lib.hid hW1; have HB0 := Lib.hid hb0; have HRb := Lib.hid hRb; have HTL := Lib.hid hTlt
  obtain ⟨P1, hP1⟩ : ∃ P, prl s 0 0 es1 = P := ⟨_, rfl⟩
  obtain ⟨P2, hP2⟩ : ∃ P, prl t 0 0 es2 = P := ⟨_, rfl⟩
  have hl1 : P1.length = 2 * n1 + 1 := by rw [← hP1, prl_len, hn1]
  have hl2 : P2.length = 2 * n2 + 1 := by rw [← hP2, prl_len, hn2]
  have ok1 := fun k => prl_ok hs hv1 hf1 k
  have ok2 := fun k => prl_ok ht hv2 hf2 k
  rw [hP1] at ok1
  rw [hP2] at ok2
  obtain ⟨L, hL⟩ : ∃ L, kbl P1 P2 = L := ⟨_, rfl⟩
  have hLL : KB s t es1 es2 = L.filter (·.k) := by unfold KB; rw [hP1, hP2, hL]
  have hLlen : L.length = (2 * n2 + 1) * (2 * n1 + 1) := by rw [← hL, kbl_len, hl1, hl2]
  have hLat : ∀ i j, i < 2 * n2 + 1 → j < 2 * n1 + 1 → pg L (i * (2 * n1 + 1) + j) = comm (pg P1 j) (pg P2 i) := fun i j hi hj => by rw [← hL, ← hl1]; exact kbl_at (by omega) (by omega)
  rw [hLL] at HY ⊢
  have OK1 := Lib.hid ok1; have OK2 := Lib.hid ok2; have HP1 := Lib.hid hP1; have HP2 := Lib.hid hP2; have HLA := Lib.hid hLat; have HLN := Lib.hid hLlen
  clear hR hB hO hY cs1 cs2 bs1 ba1 bt1 bb1 bt bb bs ba hS1 hS2 hn1 hn2 hf1 hf2 hv1 hv2 h0 by1 bS bL hG hTlt hJ1 hRb hW1 hb0 hP1 hP2 ok1 ok2 hL hLL hLat hLlen
  refine callsIn_of_wp_marks Tryz.func89 rfl trivial ?_ rfl
  simp only [Tryz.ntmps89, List.size_toArray, List.length_cons, List.length_nil, Nat.reduceAdd, Nat.reduceSub, Array.replicate_succ, Array.replicate_zero, List.push_toArray, List.append_toArray, List.nil_append, List.cons_append]
  gi_wp2_with (first | (refine ⟨trivial, rfl, ?_⟩; gi_at_call 53; refine (callsIn_wide.2 (parts_any _ _ _ _ _)).mono ?_; rintro e w' ⟨rfl, rfl⟩))
  rw [HW1.out, HB0.out]
  have hmx : Tryz.prog.follows .mixedOrders = true := by kernel_rfl
  have hG := HG.out
  rw [HP2.out, HN2.out] at hG
  have hRb := HRb.out
  rw [HN2.out] at hRb
  have I0 : Rnd T₀ T₀ W1 W1 := Rnd.refl _ _
  refine wpIn_giv (gf := 71) (lb := #[.pointer (some ⟨b0 + 1 + 1, 0, none⟩), .pointer (some ⟨b0 + 1, 0, none⟩)]) rfl (enters_of Tryz.func71 (by kernel_rfl) rfl)
    hG (fun _ => rfl)
    (fun i T A => J (cnt L (i * (2 * n1 + 1))) T A ∧ Rnd T₀ T W1 A)
    (fun i T A C hi ho => ⟨HO.out _ _ _ _ hi.1 (ho.mono hB1.size (fun _ h => h)), ⟨Nat.le_trans hi.2.size ho.size, fun k hk hT => (ho.block k (by have := hi.2.size; omega) (.inl hk)).trans (hi.2.block k hk hT), hi.2.grew⟩⟩)
    (fun i T A hi => HB.out _ _ _ hi.1)
    T₀ hRb ⟨by rw [Nat.zero_mul, cnt_zero]; exact HJ1.out, I0⟩
    (fun k B => { tmps := #[.func (.yield l) #[] #[], .pointer (some ⟨xt, 0, none⟩), .pointer (some ⟨xb, 0, none⟩), .pointer (some ⟨xs, 0, none⟩), .pointer (some ⟨xa, 0, none⟩), .pointer (some ⟨b0, 0, none⟩), .pointer (some ⟨B, 0, none⟩), undef, undef, .string t, .slice b n2 c2,
      .func (.func 71) #[] #[.pointer (some ⟨b0 + 1 + 1, 0, none⟩), .pointer (some ⟨b0 + 1, 0, none⟩)], (pg P2 k).val, undef, undef, undef, undef, undef, undef, undef, undef, undef, undef, undef, undef, undef, undef, undef], defers := [] })
    (fun k => (pg P2 k).cells) 103 ?assign ?body ?done
  case assign =>
    intro l' k A K hK
    simp only [Pc.val, Pc.cells] at hK ⊢
    gi_wp2
    exact hK
  case body =>
    rintro l' i T B A hi hl hlB hBk hTB hl' hTl ⟨hJ, hRn⟩
    have hi2 : i < P2.length := by omega
    obtain ⟨p2, hp2⟩ : ∃ p, pg P2 i = p := ⟨_, rfl⟩
    have o2 := OK2.out i
    rw [hp2] at o2
    have hp2L : ∀ j, j < 2 * n1 + 1 → pg L (i * (2 * n1 + 1) + j) = comm (pg P1 j) p2 := fun j hj => by rw [← hp2]; exact HLA.out i j hi hj
    simp only [hp2] at hBk ⊢
    have hAs := hRn.size
    have hnT : ∀ k, (k = xs ∨ k = xa ∨ Rl a es1.length k ∨ Rl b es2.length k) → ¬ T₀ k := HR.out
    have hTz := HB.out _ _ _ hJ
    have kS : Boxed A xs 9 (.string s) := (hRn.block xs HBS.out.lt (hnT xs (.inl rfl))).trans HBS.out
    have kA : Boxed A xa 38 (.slice a es1.length c1) := (hRn.block xa HBA.out.lt (hnT xa (.inr (.inl rfl)))).trans HBA.out
    have hb0T : ¬ T₀ b0 := fun h => by have := HTL.out b0 h; have := HB0.out; omega
    have kY : Boxed A b0 121 (.func (.yield l) #[] #[]) := (hRn.block b0 HBY.out.lt hb0T).trans HBY.out
    have kE : ES A.heap.size A a c1 es1 := by
      obtain ⟨g1, g2, g3, g4⟩ := HS1.out
      refine ⟨g1, g2, g3, ?_⟩
      rcases g4 with h | ⟨b, off, e1, e2, e3⟩
      · exact .inl h
      · by_cases hz : es1.length = 0
        · exact .inl hz
        · refine .inr ⟨b, off, e1, by omega, fun j hj x hx => ?_⟩
          rw [← e3 j hj x hx]
          exact World.cell?_of_block (a := ⟨b, off + j * 3 + x, none⟩) (hRn.block b e2 (hnT b (.inr (.inr (.inl ⟨by omega, off, e1⟩)))))
    have c0 := kS.cell
    have c1' := kA.cell
    obtain ⟨A2, hA2⟩ : ∃ V, (A.alloc (.cells #[.string s] 9)).alloc (.cells #[.slice a n1 c1] 38) = V := ⟨_, rfl⟩
    have hs2 : A2.heap.size = A.heap.size + 2 := by rw [← hA2]; simp
    have hBA2 : Below A.heap.size A A2 := by rw [← hA2]; exact ((Below.refl _ _).alloc (Nat.le_refl _) _).alloc (by simp) _
    obtain ⟨g, hg⟩ : ∃ g, A.heap.size = g := ⟨_, rfl⟩
    have bS : Boxed A2 g 9 (.string s) := by rw [← hA2, ← hg]; exact (Boxed.new _ _ _).alloc _
    have bL : Boxed A2 (g + 1) 38 (.slice a n1 c1) := by
      rw [← hA2, ← hg]
      have := Boxed.new (A.alloc (.cells #[.string s] 9)) 38 (.slice a n1 c1)
      rw [World.size_alloc] at this; exact this
    rw [HN1.out] at c1'
    have hG1 := part_giv s (g + 1) g a c1 es1 A2 hs HV1.out HF1.out (by rw [HN1.out]; exact bL) bS (kE.on hBA2)
    rw [HP1.out, HN1.out] at hG1
    have hlA : l' < A.heap.size := by obtain ⟨r, hr⟩ := hl'; exact (Array.getElem?_eq_some_iff.1 hr).1
    have hl2' : ∃ r, A2.heap[l']? = some (.loop r) := by obtain ⟨r, hr⟩ := hl'; exact ⟨r, (hBA2.block l' hlA).trans hr⟩
    have hJ2 := HO.out _ _ _ _ hJ (Oth.of_below (hBA2.mono (by omega)) : Oth T W.heap.size A A2)
    have hT2 : ∀ k, T k → k < A2.heap.size ∧ ¬ (k = g ∨ 0 < n1 ∧ ∃ off, a = some ⟨k, off, none⟩) := fun k hk => by
      have h1 := hTz k hk
      refine ⟨by omega, ?_⟩
      rintro (h | ⟨h, off, ho⟩)
      · omega
      · rcases hRn.grew k hk with h2 | h2
        · exact hnT k (.inr (.inr (.inl ⟨by rw [HN1.out]; exact h, off, ho⟩))) h2
        · rcases HS1.out.cells with h3 | ⟨b', off', e1, e2, _⟩
          · have := HN1.out; omega
          · rw [ho] at e1; cases e1; omega
    have hbA2 : Blk A2 B 103 p2.cells := hBk.same (hBA2.block B hBk.lt)
    have HJ2 := Lib.hid hJ2; have HBK := Lib.hid hbA2; have HRN := Lib.hid hRn; have HA2 := Lib.hid hA2; have HGG := Lib.hid hg; have HG1 := Lib.hid hG1; have HL2 := Lib.hid hl2'; have HBA2 := Lib.hid hBA2
    have HKY : Hid (Boxed A2 b0 121 (.func (.yield l) #[] #[])) := (hBA2.block b0 kY.lt).trans kY
    have HP2L := Lib.hid hp2L; have HT2 := Lib.hid hT2; have HTZ := Lib.hid hTz; have HNB := Lib.hid hTB
    have hBlt := hBk.lt
    have zW : W.heap.size ≤ A2.heap.size := by have := hB1.size; omega
    clear hJ hJ2 hBk hRn hA2 hg hG1 hl2' hBA2 bS bL kS kA kY kE hp2 hp2L hT2 hTz hTB hTl hl' hnT
    gi_wp2_with (first | (refine ⟨trivial, rfl, ?_⟩; gi_at_call 53; refine (CallsIn.inRound l' (callsIn_wide.2 (parts_any _ _ _ _ _))).mono ?_; rintro e w' ⟨rfl, rfl⟩))
    rw [HA2.out, HGG.out]
    refine wpIn_givN HL2.out (gf := 71) (lb := #[.pointer (some ⟨g + 1, 0, none⟩), .pointer (some ⟨g, 0, none⟩)]) rfl (enters_of Tryz.func71 (by kernel_rfl) rfl)
      HG1.out (fun _ => rfl)
      (fun j T' A' => J (cnt L (i * (2 * n1 + 1) + j)) T' A' ∧ Rnd T T' A2 A')
      (fun j T' A' C hi ho => ⟨HO.out _ _ _ _ hi.1 (ho.mono (by omega) (fun _ h => h)), ⟨Nat.le_trans hi.2.size ho.size, fun k hk hT => (ho.block k (by have := hi.2.size; omega) (.inl hk)).trans (hi.2.block k hk hT), hi.2.grew⟩⟩)
      (fun j T' A' hi => HB.out _ _ _ hi.1)
      T HT2.out ⟨HJ2.out, Rnd.refl _ _⟩
      (fun k B' => { tmps := #[.func (.yield l) #[] #[], .pointer (some ⟨xt, 0, none⟩), .pointer (some ⟨xb, 0, none⟩), .pointer (some ⟨xs, 0, none⟩), .pointer (some ⟨xa, 0, none⟩), .pointer (some ⟨b0, 0, none⟩), .pointer (some ⟨B, 0, none⟩), .pointer (some ⟨B', 0, none⟩), undef, .string t, .slice b n2 c2,
        .func (.func 71) #[] #[.pointer (some ⟨b0 + 1 + 1, 0, none⟩), .pointer (some ⟨b0 + 1, 0, none⟩)], p2.val, .string s, .slice a n1 c1, .func (.func 71) #[] #[.pointer (some ⟨g + 1, 0, none⟩), .pointer (some ⟨g, 0, none⟩)], (pg P1 k).val, undef, undef, undef, undef, undef, undef, undef, undef, undef, undef, undef], defers := [] })
      (fun k => (pg P1 k).cells) 103 ?assign2 ?body2 ?done2
    case assign2 =>
      intro l2 k A' K hK
      simp only [Pc.val, Pc.cells] at hK ⊢
      gi_wp2
      exact hK
    case body2 =>
      rintro l2 j T' B' A' hj hl3 hlB3 hBk3 hTB3 hl3' hTl3 ⟨hJ3, hRn3⟩
      obtain ⟨p1, hp1⟩ : ∃ p, pg P1 j = p := ⟨_, rfl⟩
      have o1 := OK1.out j
      have hat := HP2L.out j hj
      rw [hp1] at o1 hat
      simp only [hp1] at hBk3 ⊢
      have hz3 := hRn3.size
      have kB : Blk A' B 103 p2.cells := HBK.out.same (hRn3.block B HBK.out.lt HNB.out)
      have kY : Boxed A' b0 121 (.func (.yield l) #[] #[]) := (hRn3.block b0 HKY.out.lt (fun h => (HRN.out.grew b0 h).elim hb0T (fun e => by omega))).trans HKY.out
      have CC := Lib.hid (common_any p1 p2 A' o1.1 o1.2.2.1 o1.2.2.2 o2.1 o2.2.1 o2.2.2.1)
      obtain ⟨R, hR⟩ : ∃ R, comm p1 p2 = R := ⟨_, rfl⟩
      rw [hR] at CC hat
      obtain ⟨f1, t1, q1, x1, k1⟩ := p1
      obtain ⟨f2, t2, q2, x2, k2⟩ := p2
      simp only [Pc.val, Pc.cells] at hBk3 kB CC ⊢
      obtain ⟨u0, u1, u2, u3, u4⟩ := cells5 hBk3
      obtain ⟨v0, v1, v2, v3, v4⟩ := cells5 kB
      have HJ3 := Lib.hid hJ3; have HRN3 := Lib.hid hRn3; have HKY3 := Lib.hid kY
      have hmm : i * (2 * n1 + 1) + j < L.length := by
        rw [HLN.out]
        have : (i + 1) * (2 * n1 + 1) ≤ (2 * n2 + 1) * (2 * n1 + 1) := Nat.mul_le_mul_right _ hi
        rw [Nat.succ_mul] at this
        omega
      have hcs := cnt_succ hmm
      have hcg := fun h => cnt_get hmm h
      rw [hat] at hcs hcg
      have HCS := Lib.hid hcs; have HCG := Lib.hid hcg
      clear hBk3 kB kY hJ3 hRn3 hat hR hp1 o1 o2 hTB3 hTl3 hl3' hcs hcg
      obtain ⟨rf, rt, rq, rx, rk⟩ := R
      have hzA : A'.heap.size ≤ A'.heap.size := Nat.le_refl _
      simp only at CC HCG HCS
      cases rk with
      | false =>
        gi_wp2_with (refine ⟨trivial, rfl, ?_⟩; gi_at_call 90; refine (CallsIn.inRound l2 (callsIn_wide.2 CC.out)).mono ?_; rintro e w5 ⟨rfl, hb5⟩)
        refine ⟨fun _ h => (by cases h), ?_⟩
        have hb6 : Below A'.heap.size A' (w5.alloc (.cells #[.int .i64 rf, .int .i64 rt, .int .i64 rq, .string rx, .bool false] 103)) := hb5.alloc hb5.size _
        have hJ6 := HO.out _ _ _ _ HJ3.out (Oth.of_below hb6 : Oth T' W.heap.size A' _)
        have hr6 : Rnd T' T' A' (w5.alloc (.cells #[.int .i64 rf, .int .i64 rt, .int .i64 rq, .string rx, .bool false] 103)) := Rnd.of_below hb6
        have hcs := HCS.out
        simp only [Bool.false_eq_true, if_false, Nat.add_zero] at hcs
        rw [← hcs] at hJ6
        have HF := Lib.hid (And.intro hJ6 hr6)
        clear hb6 hJ6 hr6 hcs hb5
        gi_wp2
        exact ⟨T', ⟨HF.out.1, HRN3.out.trans HF.out.2⟩, HF.out.2⟩
      | true =>
        obtain ⟨hc1, hc2⟩ := HCG.out rfl
        gi_wp2_with (refine ⟨trivial, rfl, ?_⟩; gi_at_call 90; refine (CallsIn.inRound l2 (callsIn_wide.2 CC.out)).mono ?_; rintro e w5 ⟨rfl, hb5⟩; have hb6 : Below A'.heap.size A' (w5.alloc (.cells #[.int .i64 rf, .int .i64 rt, .int .i64 rq, .string rx, .bool true] 103)) := hb5.alloc hb5.size _; have c9 := Boxed.cell (show Boxed _ b0 121 (.func (.yield l) #[] #[]) from (hb6.block b0 HKY3.out.lt).trans HKY3.out); have hJ6 := HO.out _ _ _ _ HJ3.out (Oth.of_below hb6 : Oth T' W.heap.size A' _); have hY1 := HY.out _ T' _ hc1 (by have := hb6.size; omega) hJ6; rw [hc2] at hY1; obtain ⟨fn, tm, asg, bo, hy, hR1⟩ := hY1; simp only [Pc.val] at hy; have HR1 := Lib.hid hR1; have HB6 := Lib.hid hb6; clear hR1 hb6 hJ6 hb5)
        refine ⟨rfl, HR1.out.mono ?_⟩
        rintro e w6 ⟨rfl, T6, hJ7, hr7⟩
        have hr8 : Rnd T' T6 A' w6 := (Rnd.of_below HB6.out).trans hr7
        have hcs := HCS.out
        simp only [if_true] at hcs
        rw [← hcs] at hJ7
        have HF := Lib.hid (And.intro hJ7 hr8)
        clear hJ7 hr7 hr8 hcs
        gi_wp2
        exact ⟨T6, ⟨HF.out.1, HRN3.out.trans HF.out.2⟩, HF.out.2⟩
    case done2 =>
      rintro T' A' hA' ⟨hJ3, hRn3⟩
      rw [show i * (2 * n1 + 1) + (2 * n1 + 1) = (i + 1) * (2 * n1 + 1) from (Nat.succ_mul i (2 * n1 + 1)).symm] at hJ3
      have HJ3 := Lib.hid hJ3; have HRN3 := Lib.hid hRn3
      clear hJ3 hRn3
      gi_wp2
      have hr : Rnd T T' A A' := (Rnd.of_below HBA2.out).trans HRN3.out
      exact ⟨T', ⟨HJ3.out, HRN.out.trans hr⟩, hr⟩
  case done =>
    rintro T A hA ⟨hJ, hRn⟩ hTw hK
    rw [cnt_all (by rw [HLN.out]; exact Nat.le_refl _)] at hJ
    have HJJ := Lib.hid hJ
    clear hJ
    gi_wp2
    refine ⟨by simp, .inl ⟨_, _, rfl, run_takeDeferred hK, ?_⟩⟩
    refine ⟨_, results_none rfl _ _ _, ⟨_, rfl⟩, T, HO.out _ _ _ _ HJJ.out (Oth.putObj _ hB1.size hTw)⟩

end Go.Proofs.YtkehgoailhpenaaGreat

/- The contract of the program's Invert. Conditions: texts of at most 10000000 bytes, lists of at most 1000 edits. -/
namespace Go.Proofs.YtkehgoailhpenaaGreat
open Go.RowKit Go.Shelf
set_option linter.unusedVariables false
attribute [local go_sem] Oper.semAt_some

/-- The edits that lead back, or none if the edits are not valid. -/
def ivS (s : ByteArray) (es : List Er) : List Er := if vErr (s.size : Int) es = 0 then ers (invl (sb s) 0 0 (ees es)) else []

theorem ivl_len (s : ByteArray) : ∀ l : List Pc, (ivl s l).length ≤ l.length := by
  intro l
  induction l with
  | nil => exact Nat.le_refl _
  | cons p l ih =>
    simp only [ivl]
    split
    · simp only [List.length_cons]; omega
    · simp only [List.length_cons]; omega

end Go.Proofs.YtkehgoailhpenaaGreat

/- The mathematics of Diff: the longest common prefix and suffix determine one edit, which leads from one text to the other. It has no conditions. -/
namespace Go.Proofs.YtkehgoailhpenaaGreat
open Go.RowKit
set_option linter.unusedVariables false

/-- p is the length of the longest common prefix. -/
def Pre (a b : List Int) (p : Nat) : Prop := p ≤ a.length ∧ p ≤ b.length ∧ (∀ i, i < p → a[i]? = b[i]?) ∧ (p = a.length ∨ p = b.length ∨ a[p]? ≠ b[p]?)
/-- q is the length of the longest common suffix behind p. -/
def Suf (a b : List Int) (p q : Nat) : Prop := p + q ≤ a.length ∧ p + q ≤ b.length ∧ (∀ i, i < q → a[a.length - 1 - i]? = b[b.length - 1 - i]?) ∧ (p + q = a.length ∨ p + q = b.length ∨ a[a.length - 1 - q]? ≠ b[b.length - 1 - q]?)
theorem Pre.det {a b : List Int} {p p' : Nat} (h : Pre a b p) (k : Pre a b p') : p = p' := by
  obtain ⟨h1, h2, h3, h4⟩ := h
  obtain ⟨k1, k2, k3, k4⟩ := k
  rcases Nat.lt_trichotomy p p' with g | g | g
  · rcases h4 with h | h | h
    · omega
    · omega
    · exact absurd (k3 p g) h
  · exact g
  · rcases k4 with h | h | h
    · omega
    · omega
    · exact absurd (h3 p' g) h
theorem Suf.det {a b : List Int} {p q q' : Nat} (h : Suf a b p q) (k : Suf a b p q') : q = q' := by
  obtain ⟨h1, h2, h3, h4⟩ := h
  obtain ⟨k1, k2, k3, k4⟩ := k
  rcases Nat.lt_trichotomy q q' with g | g | g
  · rcases h4 with h | h | h
    · omega
    · omega
    · exact absurd (k3 q g) h
  · exact g
  · rcases k4 with h | h | h
    · omega
    · omega
    · exact absurd (h3 q' g) h
/-- The edit of Diff. -/
def dif (a b : List Int) (p q : Nat) : Ee := ⟨p, a.length - q, (b.drop p).take (b.length - q - p)⟩
theorem dif_vld {a b : List Int} {p q : Nat} (hp : Pre a b p) (hq : Suf a b p q) : Vld a.length 0 [dif a b p q] := by
  obtain ⟨k1, k2, _, _⟩ := hq
  exact ⟨Nat.zero_le _, by simp only [dif]; omega, by simp only [dif]; omega, by simp only [dif, Vld]; omega⟩
/-- The edit leads to the second text. -/
theorem dif_appl {a b : List Int} {p q : Nat} (hp : Pre a b p) (hq : Suf a b p q) : appl a 0 [dif a b p q] = b := by
  obtain ⟨h1, h2, h3, _⟩ := hp
  obtain ⟨k1, k2, k3, _⟩ := hq
  have e1 : a.take p = b.take p := by
    apply List.ext_getElem?
    intro i
    rw [List.getElem?_take, List.getElem?_take]
    split
    · exact h3 i (by assumption)
    · rfl
  have e2 : a.drop (a.length - q) = b.drop (b.length - q) := by
    apply List.ext_getElem?
    intro i
    rw [List.getElem?_drop, List.getElem?_drop]
    by_cases hi : i < q
    · have := k3 (q - 1 - i) (by omega)
      rw [show a.length - 1 - (q - 1 - i) = a.length - q + i by omega, show b.length - 1 - (q - 1 - i) = b.length - q + i by omega] at this
      exact this
    · rw [List.getElem?_eq_none (by omega), List.getElem?_eq_none (by omega)]
  simp only [appl, dif, List.drop_zero, Nat.sub_zero]
  rw [e1, e2]
  have e3 : b.drop (b.length - q) = (b.drop p).drop (b.length - q - p) := by rw [List.drop_drop]; congr 1; omega
  rw [e3, List.take_append_drop, List.take_append_drop]
/-- What the edit replaces and its text differ, at the first byte and at the last one where both have one. -/
theorem dif_ends {a b : List Int} {p q : Nat} (hp : Pre a b p) (hq : Suf a b p q) (h0 : p + q < a.length) (h1 : p + q < b.length) : a[p]? ≠ b[p]? ∧ a[a.length - 1 - q]? ≠ b[b.length - 1 - q]? := by
  obtain ⟨_, _, _, h⟩ := hp
  obtain ⟨_, _, _, k⟩ := hq
  constructor
  · rcases h with h | h | h
    · omega
    · omega
    · exact h
  · rcases k with k | k | k
    · omega
    · omega
    · exact k
theorem dif_ne {a b : List Int} {p q : Nat} (hp : Pre a b p) (hq : Suf a b p q) (hab : a ≠ b) : ¬ (p + q = a.length ∧ p + q = b.length) := by
  rintro ⟨e1, e2⟩
  have h := dif_appl hp hq
  simp only [appl, dif, List.drop_zero, Nat.sub_zero] at h
  rw [show b.length - q - p = 0 by omega, List.take_zero, List.nil_append, show a.length - q = p by omega, List.take_append_drop] at h
  exact hab h

end Go.Proofs.YtkehgoailhpenaaGreat

/- The contracts of Diff, the program's and the reference's. Conditions: texts of at most 1000000 bytes. -/
namespace Go.Proofs.YtkehgoailhpenaaGreat
open Go.RowKit Go.Shelf
set_option linter.unusedVariables false

theorem sb_get (s : ByteArray) (k : Nat) (h : k < s.size) : (sb s)[k]? = some (((s[k]'h).toNat : Nat) : Int) := by
  have h2 : k < s.data.size := h
  unfold sb
  rw [List.getElem?_map, Array.getElem?_toList, Array.getElem?_eq_getElem h2]; rfl
theorem str_eq {a b : ByteArray} (h : a = b) : (a.toList == b.toList) = true := by subst h; simp
theorem toList_inj {a b : ByteArray} (h : a.toList = b.toList) : a = b := by
  rw [ByteArray.toList_eq, ByteArray.toList_eq] at h
  exact ByteArray.ext (Array.toList_inj.1 h)
theorem str_ne {a b : ByteArray} (h : a ≠ b) : (a.toList == b.toList) = false := by
  rw [beq_eq_false_iff_ne]; exact fun e => h (toList_inj e)

set_option maxRecDepth 100000 in
set_option maxHeartbeats 4000000 in
theorem pdiff_any (a b : ByteArray) (w : World) (ha : a.size ≤ 1000000) (hb : b.size ≤ 1000000) (hab : a ≠ b) :
    Calls Tryz.prog 60 #[.string a, .string b] w fun e w' => ∃ p q, Pre (sb a) (sb b) p ∧ Suf (sb a) (sb b) p q ∧ NewE1 w [er (dif (sb a) (sb b) p q)] e w' := by
  have hq0 : (a.toList == b.toList) = false := str_ne hab
  obtain ⟨m, hm⟩ : ∃ m : Nat, min (a.size : Int) (b.size : Int) = (m : Int) := ⟨(min (a.size : Int) (b.size : Int)).toNat, by omega⟩
  have hm1 : m ≤ a.size := by omega
  have hm2 : m ≤ b.size := by omega
  have hm3 : m = a.size ∨ m = b.size := by omega
  have HM3 := Lib.hid hm3
  obtain ⟨B, hB⟩ : ∃ B, w.heap.size = B := ⟨_, rfl⟩
  have HB := Lib.hid hB
  have H0 : Hid (Below B w w) := by rw [← hB]; exact Below.refl _ _
  clear hm3 hB
  go_enter Tryz.func60, Tryz.ntmps60
  go_wp2_with fail
  go_loopw [6] (fun u wr => ∃ (p : Nat), p ≤ m ∧ u = .int .i64 (p : Int) ∧ Hid (∀ i, i < p → (sb a)[i]? = (sb b)[i]?) ∧ Hid (Below B w wr)) (fun u _ => m - (intOf u).toNat)
  case atStart => exact ⟨0, by omega, rfl, Lib.hid (fun i h => by omega), H0⟩
  case round =>
    obtain ⟨p, hp, rfl, HP, HR⟩ := hrel
    have hways : (∃ h : p < m, (sb a)[p]? = (sb b)[p]?) ∨ (∃ h : p < m, (sb a)[p]? ≠ (sb b)[p]?) ∨ ¬ p < m := by
      by_cases h : p < m
      · by_cases h2 : (sb a)[p]? = (sb b)[p]?
        · exact .inl ⟨h, h2⟩
        · exact .inr (.inl ⟨h, h2⟩)
      · exact .inr (.inr h)
    have HRN : Hid (∀ n, Below B w (wr.drewN n)) := fun n => below_drewN HR.out n
    rcases hways with ⟨hlt, heq⟩ | ⟨hlt, hne⟩ | hge
    case inl =>
      have hpa : p < a.size := by omega
      have hpb : p < b.size := by omega
      have h1 : (p : Int) < (m : Int) := by omega
      have h2 : (p : Int) < (a.size : Int) := by omega
      have h3 : (p : Int) < (b.size : Int) := by omega
      have hd : decide ((p : Int) < (m : Int)) = true := by simp only [decide_eq_true_eq]; omega
      have hq : ((((a[p]'hpa).toNat : Nat) : Int) == (((b[p]'hpb).toNat : Nat) : Int)) = true := by
        rw [sb_get a p hpa, sb_get b p hpb] at heq
        simpa using heq
      have HP2 : Hid (∀ i, i < p + 1 → (sb a)[i]? = (sb b)[i]?) := by
        intro i hi
        by_cases e : i = p
        · subst e; exact heq
        · exact HP.out i (by omega)
      clear heq
      go_wp2_with fail
      go_quiet (fail)
      go_wp2
      go_roundw
      case rel => exact ⟨p + 1, by omega, by go_num, HP2, HRN.out _⟩
      case measure => simp [intOf]; omega
    case' inr.inl =>
      have hpa : p < a.size := by omega
      have hpb : p < b.size := by omega
      have h1 : (p : Int) < (m : Int) := by omega
      have h2 : (p : Int) < (a.size : Int) := by omega
      have h3 : (p : Int) < (b.size : Int) := by omega
      have hd : decide ((p : Int) < (m : Int)) = true := by simp only [decide_eq_true_eq]; omega
      have hq : ((((a[p]'hpa).toNat : Nat) : Int) == (((b[p]'hpb).toNat : Nat) : Int)) = false := by
        rw [sb_get a p hpa, sb_get b p hpb] at hne
        simpa using hne
      have HPRE : Hid (Pre (sb a) (sb b) p) := ⟨by rw [sb_len]; omega, by rw [sb_len]; omega, HP.out, .inr (.inr hne)⟩
      clear hne
      go_wp2_with fail
      go_quiet (fail)
    case' inr.inr =>
      have hpm : p = m := by omega
      have HPRE : Hid (Pre (sb a) (sb b) p) := ⟨by rw [sb_len]; omega, by rw [sb_len]; omega, HP.out, by rw [sb_len, sb_len, hpm]; rcases HM3.out with h | h <;> simp [h]⟩
      clear hpm
      have hd : decide ((p : Int) < (m : Int)) = false := by simp; omega
      have hdd : ¬ (p : Int) < (m : Int) := by omega
      go_wp2_with fail
      go_quiet (fail)
    all_goals
      go_wp2_with fail
      go_loopw [7] (fun u wr => ∃ (q : Nat), p + q ≤ m ∧ u = .int .i64 (q : Int) ∧ Hid (∀ i, i < q → (sb a)[a.size - 1 - i]? = (sb b)[b.size - 1 - i]?) ∧ Hid (Below B w wr)) (fun u _ => m - (intOf u).toNat)
      case atStart => exact ⟨0, by omega, rfl, Lib.hid (fun i h => by omega), HRN.out _⟩
      case round =>
        obtain ⟨q, hq5, rfl, HQ, HR2⟩ := hrel
        have hways : (∃ h : p + q < m, (sb a)[a.size - 1 - q]? = (sb b)[b.size - 1 - q]?) ∨ (∃ h : p + q < m, (sb a)[a.size - 1 - q]? ≠ (sb b)[b.size - 1 - q]?) ∨ ¬ p + q < m := by
          by_cases h : p + q < m
          · by_cases h2 : (sb a)[a.size - 1 - q]? = (sb b)[b.size - 1 - q]?
            · exact .inl ⟨h, h2⟩
            · exact .inr (.inl ⟨h, h2⟩)
          · exact .inr (.inr h)
        have HRN2 : Hid (∀ n, Below B w (wr.drewN n)) := fun n => below_drewN HR2.out n
        rcases hways with ⟨hlt2, heq⟩ | ⟨hlt2, hne⟩ | hge2
        case inl =>
          first
          | (exfalso; omega; done)
          | (obtain ⟨i1, hi1⟩ : ∃ i : Nat, (a.size : Int) - 1 - (q : Int) = (i : Int) := ⟨a.size - 1 - q, by omega⟩
             obtain ⟨i2, hi2⟩ : ∃ i : Nat, (b.size : Int) - 1 - (q : Int) = (i : Int) := ⟨b.size - 1 - q, by omega⟩
             have hia : i1 < a.size := by omega
             have hib : i2 < b.size := by omega
             have hia2 : (i1 : Int) < (a.size : Int) := by omega
             have hib2 : (i2 : Int) < (b.size : Int) := by omega
             rw [show a.size - 1 - q = i1 by omega, show b.size - 1 - q = i2 by omega] at heq
             have h1 : (q : Int) < (m : Int) - (p : Int) := by omega
             have hd : decide ((q : Int) < (m : Int) - (p : Int)) = true := by simp only [decide_eq_true_eq]; omega
             have hq : ((((a[i1]'hia).toNat : Nat) : Int) == (((b[i2]'hib).toNat : Nat) : Int)) = true := by
               rw [sb_get a i1 hia, sb_get b i2 hib] at heq
               simpa using heq
             have HQ2 : Hid (∀ i, i < q + 1 → (sb a)[a.size - 1 - i]? = (sb b)[b.size - 1 - i]?) := by
               intro i hi
               by_cases e : i = q
               · subst e
                 rw [show a.size - 1 - i = i1 by omega, show b.size - 1 - i = i2 by omega]; exact heq
               · exact HQ.out i (by omega)
             clear heq
             go_wp2_with fail
             go_quiet (fail)
             go_wp2
             go_roundw
             case rel => exact ⟨q + 1, by omega, by go_num, HQ2, HRN2.out _⟩
             case measure => simp [intOf]; omega)
        case' inr.inl =>
          first
          | (exfalso; omega; done)
          | (obtain ⟨i1, hi1⟩ : ∃ i : Nat, (a.size : Int) - 1 - (q : Int) = (i : Int) := ⟨a.size - 1 - q, by omega⟩
             obtain ⟨i2, hi2⟩ : ∃ i : Nat, (b.size : Int) - 1 - (q : Int) = (i : Int) := ⟨b.size - 1 - q, by omega⟩
             have hia : i1 < a.size := by omega
             have hib : i2 < b.size := by omega
             have hia2 : (i1 : Int) < (a.size : Int) := by omega
             have hib2 : (i2 : Int) < (b.size : Int) := by omega
             have HSUF : Hid (Suf (sb a) (sb b) p q) := ⟨by rw [sb_len]; omega, by rw [sb_len]; omega, by rw [sb_len, sb_len]; exact HQ.out, by rw [sb_len, sb_len]; exact .inr (.inr hne)⟩
             rw [show a.size - 1 - q = i1 by omega, show b.size - 1 - q = i2 by omega] at hne
             have h1 : (q : Int) < (m : Int) - (p : Int) := by omega
             have hd : decide ((q : Int) < (m : Int) - (p : Int)) = true := by simp only [decide_eq_true_eq]; omega
             have hq : ((((a[i1]'hia).toNat : Nat) : Int) == (((b[i2]'hib).toNat : Nat) : Int)) = false := by
               rw [sb_get a i1 hia, sb_get b i2 hib] at hne
               simpa using hne
             clear hne
             go_wp2_with fail
             go_quiet (fail)
             clear hi1 hi2 hq h1 hd)
        case' inr.inr =>
          have HSUF : Hid (Suf (sb a) (sb b) p q) := ⟨by rw [sb_len]; omega, by rw [sb_len]; omega, by rw [sb_len, sb_len]; exact HQ.out, by rw [sb_len, sb_len]; rcases HM3.out with h | h <;> omega⟩
          have hd : decide ((q : Int) < (m : Int) - (p : Int)) = false := by simp; omega
          have hdd : ¬ (q : Int) < (m : Int) - (p : Int) := by omega
          go_wp2_with fail
          go_quiet (fail)
        all_goals
          have hx1 : (p : Int) ≤ (b.size : Int) - (q : Int) := by omega
          have hx2 : (b.size : Int) - (q : Int) ≤ (b.size : Int) := by omega
          go_wp2_with fail
          rename_i nq
          go_ret
          obtain ⟨hs1, hs2⟩ := And.intro HPRE.out HSUF.out
          have hbl := HRN2.out nq
          refine ⟨p, q, hs1, hs2, some ⟨wr.heap.size, 0, none⟩, 1, rfl, ?_, ?_⟩
          · refine ⟨by simp, by omega, (fun h => by cases h), .inr ⟨_, 0, rfl, by rw [World.size_alloc]; exact Nat.lt_succ_self _, fun k hk i hi => ?_⟩⟩
            obtain rfl : k = 0 := by simpa using hk
            have bk := Blk.new (wr.drewN nq) 84 #[.int .i64 (p : Int), .int .i64 ((a.size : Int) - (q : Int)), .string (b.extract p (b.size - q))]
            rw [Nat.zero_mul, Nat.add_zero, Nat.zero_add, show wr.heap.size = (wr.drewN nq).heap.size from rfl, bk.cell i]
            have hf : ((a.size - q : Nat) : Int) = (a.size : Int) - (q : Int) := by omega
            simp only [eg, er, dif, sb_len, Er.vals, List.getElem?_toArray, List.getElem?_cons_zero, Option.getD_some]
            rw [hf, show b.size - q - p = (b.size - q) - p from rfl, bs_cut]
          · have hw : Below B w ((wr.drewN nq).alloc (.cells #[.int .i64 (p : Int), .int .i64 ((a.size : Int) - (q : Int)), .string (b.extract p (b.size - q))] 84)) := hbl.alloc (by have := hbl.size; have := HB.out; omega) _
            rw [HB.out]
            exact hw

set_option maxRecDepth 100000 in
theorem pdiff_same (a : ByteArray) (w : World) :
    Calls Tryz.prog 60 #[.string a, .string a] w fun e w' => e = .returned (.slice none 0 0) ∧ Below w.heap.size w w' := by
  have hq0 : (a.toList == a.toList) = true := by simp
  have H := Lib.hid (Below.refl w.heap.size w)
  go_enter Tryz.func60, Tryz.ntmps60
  go_wp2
  go_ret
  exact ⟨rfl, H.out⟩

/-- The list that Diff hands back. -/
def DifR (a b : ByteArray) (es : List Er) : Prop := (a = b ∧ es = []) ∨ (a ≠ b ∧ ∃ p q, Pre (sb a) (sb b) p ∧ Suf (sb a) (sb b) p q ∧ es = [er (dif (sb a) (sb b) p q)])
theorem DifR.det {a b : ByteArray} {es fs : List Er} (h : DifR a b es) (k : DifR a b fs) : es = fs := by
  rcases h with ⟨h1, h2⟩ | ⟨h1, p, q, h2, h3, h4⟩ <;> rcases k with ⟨k1, k2⟩ | ⟨k1, p', q', k2, k3, k4⟩
  · rw [h2, k2]
  · exact absurd h1 k1
  · exact absurd k1 h1
  · obtain rfl := h2.det k2
    obtain rfl := h3.det k3
    rw [h4, k4]
theorem pdiff_all (a b : ByteArray) (w : World) (ha : a.size ≤ 1000000) (hb : b.size ≤ 1000000) :
    Calls Tryz.prog 60 #[.string a, .string b] w fun e w' => ∃ es, DifR a b es ∧ NewE1 w es e w' := by
  by_cases hab : a = b
  · subst hab
    refine (pdiff_same a w).mono ?_
    rintro e w' ⟨rfl, hb⟩
    exact ⟨[], .inl ⟨rfl, rfl⟩, none, 0, rfl, ES.none _ _, hb⟩
  · refine (pdiff_any a b w ha hb hab).mono ?_
    rintro e w' ⟨p, q, h1, h2, h3⟩
    exact ⟨_, .inr ⟨hab, p, q, h1, h2, rfl⟩, h3⟩
end Go.Proofs.YtkehgoailhpenaaGreat

/- The contract of around's closure: one edit for what is between two pieces, if it differs. Conditions: texts of at most 1000000000 bytes, at most 100000 edits. -/
namespace Go.Proofs.YtkehgoailhpenaaGreat
open Go.RowKit Go.Shelf
set_option linter.unusedVariables false

set_option maxRecDepth 100000 in
set_option maxHeartbeats 4000000 in
theorem rep_any (s u : ByteArray) (bf bu bq bs bl lo f q to e : Nat) (T : Nat → Prop) (es : List Er) (w : World) (hs : s.size ≤ 1000000000) (hu : u.size ≤ 1000000000) (hf : f ≤ to) (ht : to ≤ s.size) (hq : q ≤ e) (he : e ≤ u.size) (hn : es.length ≤ 100000)
    (kf : Boxed w bf 3 (.int .i64 (f : Int))) (ku : Boxed w bu 9 (.string u)) (kq : Boxed w bq 3 (.int .i64 (q : Int))) (ks : Boxed w bs 9 (.string s)) (hI : Iv bl lo T es w) (hlo : lo ≤ bl) :
    Calls Tryz.prog 88 #[.int .i64 (to : Int), .int .i64 (e : Int), .pointer (some ⟨bf, 0, none⟩), .pointer (some ⟨bu, 0, none⟩), .pointer (some ⟨bq, 0, none⟩), .pointer (some ⟨bs, 0, none⟩), .pointer (some ⟨bl, 0, none⟩)] w
      fun en w' => (∃ v, en = .returned v) ∧ (∃ T', Iv bl lo T' (es ++ gap s u f to q e) w' ∧ Rnd T T' w w') ∧ Below lo w w' := by
  obtain ⟨i3, hi3, jy0, jy1, jy2⟩ := info_parts infoEd
  have hlt := hI.lt
  have hI0 := hI
  obtain ⟨v, hk, hown, hvn, hT⟩ := hI
  have hkl := hk.lt
  have a0 := kf.cell; have a1 := ku.cell; have a2 := kq.cell; have a3 := ks.cell
  obtain ⟨x, hx⟩ : ∃ x, u.extract q e = x := ⟨_, rfl⟩
  obtain ⟨y, hy⟩ : ∃ y, s.extract f to = y := ⟨_, rfl⟩
  obtain ⟨W, hW⟩ : ∃ V, w.alloc (.cells #[.int .i64 (f : Int), .int .i64 (to : Int), .string x] 84) = V := ⟨_, rfl⟩
  have z0 := (kf.alloc (.cells #[.int .i64 0, .int .i64 0, .string ⟨#[]⟩] 84)).cell
  have z1 := (ku.alloc (.cells #[.int .i64 0, .int .i64 0, .string ⟨#[]⟩] 84)).cell
  have z2 := (kq.alloc (.cells #[.int .i64 0, .int .i64 0, .string ⟨#[]⟩] 84)).cell
  have HX := Lib.hid hx; have HY := Lib.hid hy
  go_enter Tryz.func88, Tryz.ntmps88
  go_wp2_with fail
  go_region
  have kW : Blk W w.heap.size 84 #[.int .i64 (f : Int), .int .i64 (to : Int), .string x] := by rw [← hW]; exact Blk.new _ _ _
  have bW : Below w.heap.size w W := by rw [← hW]; exact (Below.refl _ _).alloc (Nat.le_refl _) _
  have k0 : W.cell? ⟨w.heap.size, 0, none⟩ = some (.int .i64 (f : Int)) := by simpa using kW.cell 0
  have k1 : W.cell? ⟨w.heap.size, 1, none⟩ = some (.int .i64 (to : Int)) := by simpa using kW.cell 1
  have k2 : W.cell? ⟨w.heap.size, 2, none⟩ = some (.string x) := by simpa using kW.cell 2
  have f0 : W.cell? ⟨bf, 0, none⟩ = some (.int .i64 (f : Int)) := (bW.cell (p := ⟨bf, 0, none⟩) kf.lt).trans a0
  have f1 : W.cell? ⟨bs, 0, none⟩ = some (.string s) := (bW.cell (p := ⟨bs, 0, none⟩) ks.lt).trans a3
  have f2 : W.cell? ⟨bl, 0, none⟩ = some v := (bW.cell (p := ⟨bl, 0, none⟩) hkl).trans (by simpa using hk.cell 0)
  have HW := Lib.hid hW; have HBW := Lib.hid bW; have HKW := Lib.hid kW
  have hff : ((f : Int) == (f : Int)) = true := by simp
  have htt : ((to : Int) == (to : Int)) = true := by simp
  clear hW bW kW a0 a1 a2 a3 z0 z1 z2 hx
  by_cases hxy : x = y
  · have hq1 : (x.toList == y.toList) = true := by rw [hxy]; simp
    have hg : gap s u f to q e = [] := by unfold gap; rw [HX.out, HY.out, if_pos hxy]
    have HG := Lib.hid hg
    clear hg
    go_wp2_with fail
    go_region
    go_wp2_with fail
    have hF : Below w.heap.size w W.drew.drew := HBW.out.drew.drew
    refine bodyPost_end (results_none rfl _ _ _) rfl ?_
    refine ⟨⟨_, rfl⟩, ⟨T, ?_, Rnd.of_below hF⟩, hF.mono (by omega)⟩
    rw [HG.out, List.append_nil]
    exact hI0.oth (Oth.of_below hF : Oth T 0 w _)
  · have hq1 : (x.toList == y.toList) = false := str_ne hxy
    have hg : gap s u f to q e = [⟨(f : Int), (to : Int), x⟩] := by unfold gap; rw [HX.out, HY.out, if_neg hxy]
    have HG := Lib.hid hg
    have HOW : Hid (World.ownsRow (W.alloc (.cells #[.int .i64 (f : Int), .int .i64 (to : Int), .string x] 84)).drew.drew lo 84 3 v es.length (rv es)) := own_same hown (fun g hg => (HBW.out.alloc HBW.out.size _).drew.drew.block g (hown.lt g hg).2)
    clear hg
    go_wp2_with fail
    go_region
    have HCN : Hid (∀ j z, ([.int .i64 (f : Int), .int .i64 (to : Int), .string x] : List Value)[j]? = some z → World.cell? (W.alloc (.cells #[.int .i64 (f : Int), .int .i64 (to : Int), .string x] 84)).drew.drew ((⟨W.heap.size, 0, none⟩ : Addr).add j) = some z) := cells_news W [.int .i64 (f : Int), .int .i64 (to : Int), .string x] _
    have HK9 : Hid (∀ w6, ((W.alloc (.cells #[.int .i64 (f : Int), .int .i64 (to : Int), .string x] 84)).drew.drew).grownBy w6 v.ownBlock → Blk w6 bl 38 #[v]) := fun w6 hg => by
      have b1 : Below W.heap.size W (W.alloc (.cells #[.int .i64 (f : Int), .int .i64 (to : Int), .string x] 84)).drew.drew := ((Below.refl _ W).alloc (Nat.le_refl _) _).drew.drew
      have hz := b1.size
      have hz2 := HBW.out.size
      have h1 : Blk W bl 38 #[v] := hk.same (HBW.out.block bl hkl)
      exact (h1.same (b1.block bl (by omega))).same (hg.block bl (by omega) (fun e => hvn e.symm))
    go_wp2_with (at_builtin; refine wpList_append_own_at _ rfl _ _ 38 rfl lo 84 i3 (.agg #[.int .i64 0, .int .i64 0, .string ⟨#[]⟩]) 3 32 Tryz.underlying38 hi3 jy0 jy1 jy2 rfl (by decide) v es.length (rv es) rfl HOW.out ⟨W.heap.size, 0, none⟩ 1 1 [.int .i64 (f : Int), .int .i64 (to : Int), .string x] rfl rfl HCN.out (fun x hx => by simp at hx; rcases hx with rfl | rfl | rfl <;> rfl) (by unfold maxLen; omega) (by omega) (by have := HBW.out.size; have := hown.1; show lo ≤ (World.alloc W _).heap.size; rw [World.size_alloc]; omega) ?_; intro v' w6 hown6 hgrow6 _ hat6; obtain ⟨ao, co, rfl⟩ := own_slice hown6; have hk6 := HK9.out w6 hgrow6; have c8 : w6.cell? ⟨bl, 0, none⟩ = some v := (by simpa using hk6.cell 0); have f8 := hk6.frozen 0)
    have hb1 : Below w.heap.size w (W.alloc (.cells #[.int .i64 (f : Int), .int .i64 (to : Int), .string x] 84)).drew.drew := (HBW.out.alloc HBW.out.size _).drew.drew
    obtain ⟨T', hI', hR'⟩ := Iv.step (e := ⟨(f : Int), (to : Int), x⟩) hk hvn hT hown hb1 hown6 hgrow6 hat6
    have hF7 : Below lo w (w6.setCell ⟨bl, 0, none⟩ (.slice ao (es.length + 1) co)) := ((hb1.mono (by omega)).grown hgrow6 (by have := hb1.size; omega) (fun g hg => (hown.lt g hg).1)).setCell (p := ⟨bl, 0, none⟩) hlo _
    refine bodyPost_end (results_none rfl _ _ _) rfl ?_
    refine ⟨⟨_, rfl⟩, ⟨T', ?_, hR'⟩, hF7⟩
    rw [HG.out]
    exact hI'

end Go.Proofs.YtkehgoailhpenaaGreat

/- The contract of around: the edits around the pieces that are kept. Conditions: texts of at most 1000000000 bytes, at most 20000 pieces, in order. -/
namespace Go.Proofs.YtkehgoailhpenaaGreat
open Go.RowKit Go.Shelf
set_option linter.unusedVariables false
attribute [local go_sem] Oper.semAt_some

theorem Giv.on {P : Program} {g : Nat} {lb : Array Value} {encs : Nat → Array Value} {N : Nat} {R : Nat → Prop} {w w' : World} (h : Giv P g lb encs N R w) (hb : Below w.heap.size w w') : Giv P g lb encs N R w' :=
  fun l J T₀ W hW => h l J T₀ W (hb.trans (hW.mono hb.size))
theorem gap_len (s u : ByteArray) (f t q r : Nat) : (gap s u f t q r).length ≤ 1 := by
  unfold gap
  split <;> simp
theorem arl_len {s u : ByteArray} : ∀ {K : List Kp} {f q : Nat}, (arl s u f q K).length ≤ K.length + 1 := by
  intro K
  induction K with
  | nil => intro f q; exact gap_len _ _ _ _ _ _
  | cons p K ih => intro f q; simp only [arl, List.length_append, List.length_cons]; have := gap_len s u f p.f q p.q; have := ih (f := p.f + p.m) (q := p.q + p.m); omega
theorem pg_map {s : ByteArray} {K : List Kp} {k : Nat} (h : k < K.length) : pg (K.map (Kp.pc s)) k = Kp.pc s K[k] := by
  unfold pg
  rw [List.getElem?_map, List.getElem?_eq_getElem h]
  rfl

/-- The state of around's loop. -/
def ArI (b0 : Nat) (T₀ : Nat → Prop) (s u : ByteArray) (K : List Kp) (w W0 : World) (k : Nat) (T : Nat → Prop) (A : World) : Prop :=
  ∃ (f q : Nat) (E : List Er) (TI : Nat → Prop), Iv (b0 + 2) b0 TI E A ∧ Boxed A (b0 + 3) 3 (.int .i64 (f : Int)) ∧ Boxed A (b0 + 4) 3 (.int .i64 (q : Int)) ∧ (∀ j, T j ↔ (TI j ∨ j = b0 + 3 ∨ j = b0 + 4)) ∧ ¬ TI (b0 + 3) ∧ ¬ TI (b0 + 4) ∧
    E ++ arl s u f q (K.drop k) = arl s u 0 0 K ∧ Ordk s.size u.size f q (K.drop k) ∧ E.length ≤ k ∧ Below b0 w A ∧ Rnd T₀ T W0 A
theorem ArI.oth {b0 : Nat} {T₀ : Nat → Prop} {s u : ByteArray} {K : List Kp} {w W0 : World} (hw : w.heap.size = b0) (hz : b0 ≤ W0.heap.size) {k : Nat} {T : Nat → Prop} {A C : World} (h : ArI b0 T₀ s u K w W0 k T A) (ho : Oth T W0.heap.size A C) : ArI b0 T₀ s u K w W0 k T C := by
  obtain ⟨f, q, E, TI, h1, h2, h3, h4, h5, h6, h7, h8, h9, h10, h11⟩ := h
  have hA := h11.size
  refine ⟨f, q, E, TI, h1.oth (ho.mono (Nat.le_refl _) (fun j hj => (h4 j).2 (.inl hj))), ?_, ?_, h4, h5, h6, h7, h8, h9, h10.trans (ho.below hz (by omega)), ⟨Nat.le_trans h11.size ho.size, fun k hk hT => (ho.block k (by omega) (.inl hk)).trans (h11.block k hk hT), h11.grew⟩⟩
  · exact (ho.block (b0 + 3) h2.lt (.inr ((h4 _).2 (.inr (.inl rfl))))).trans h2
  · exact (ho.block (b0 + 4) h3.lt (.inr ((h4 _).2 (.inr (.inr rfl))))).trans h3
theorem ArI.lt {b0 : Nat} {T₀ : Nat → Prop} {s u : ByteArray} {K : List Kp} {w W0 : World} {k : Nat} {T : Nat → Prop} {A : World} (h : ArI b0 T₀ s u K w W0 k T A) : ∀ j, T j → j < A.heap.size := by
  obtain ⟨f, q, E, TI, h1, h2, h3, h4, _⟩ := h
  intro j hj
  rcases (h4 j).1 hj with h | rfl | rfl
  · exact h1.lt j h
  · exact h2.lt
  · exact h3.lt

set_option maxRecDepth 100000 in
set_option maxHeartbeats 4000000 in
theorem paround_any (s u : ByteArray) (lb : Array Value) (K : List Kp) (R : Nat → Prop) (w : World) (hs : s.size ≤ 1000000000) (hu : u.size ≤ 1000000000) (hK : K.length ≤ 20000)
    (hG : Giv Tryz.prog 89 lb (fun k => #[(pg (K.map (Kp.pc s)) k).val]) K.length R w) (hR : ∀ k, R k → k < w.heap.size) (hO : Ordk s.size u.size 0 0 K) :
    Calls Tryz.prog 75 #[.string s, .string u, .func (.func 89) #[] lb] w fun e w' => NewE1 w (arl s u 0 0 K) e w' := by
  obtain ⟨b0, hb0⟩ : ∃ b, w.heap.size = b := ⟨_, rfl⟩
  refine (callsIn_wide (n := 0)).1 ?_
  refine callsIn_of_wp_marks Tryz.func75 rfl trivial ?_ rfl
  simp only [Tryz.ntmps75, List.size_toArray, List.length_cons, List.length_nil, Nat.reduceAdd, Nat.reduceSub, Array.replicate_succ, Array.replicate_zero, List.push_toArray, List.append_toArray, List.nil_append, List.cons_append]
  obtain ⟨W0, hW0⟩ : ∃ V, ((((((w.alloc (.cells #[.string s] 9)).alloc (.cells #[.string u] 9)).alloc (.cells #[.slice none 0 0] 38)).alloc (.cells #[.int .i64 0] 3)).alloc (.cells #[.int .i64 0] 3)).alloc
    (.cells #[(.func (.func 88) #[] #[.pointer (some ⟨b0 + 1 + 1 + 1, 0, none⟩), .pointer (some ⟨b0 + 1, 0, none⟩), .pointer (some ⟨b0 + 1 + 1 + 1 + 1, 0, none⟩), .pointer (some ⟨b0, 0, none⟩), .pointer (some ⟨b0 + 1 + 1, 0, none⟩)])] 140)) = V := ⟨_, rfl⟩
  have hz0 : W0.heap.size = b0 + 6 := by rw [← hW0, ← hb0]; simp
  have hB0 : Below b0 w W0 := by rw [← hW0, ← hb0]; exact (((((((Below.refl _ _).alloc (Nat.le_refl _) _).alloc (by simp) _).alloc (by simp; omega) _).alloc (by simp; omega) _).alloc (by simp; omega) _).alloc (by simp; omega) _)
  have q0 : Boxed W0 b0 9 (.string s) := by rw [← hW0, ← hb0]; exact (((((Boxed.new _ _ _).alloc _).alloc _).alloc _).alloc _).alloc _
  have q1 : Boxed W0 (b0 + 1) 9 (.string u) := by
    rw [← hW0, ← hb0]
    have := Boxed.new (w.alloc (.cells #[.string s] 9)) 9 (.string u)
    rw [World.size_alloc] at this
    exact (((this.alloc _).alloc _).alloc _).alloc _
  have q2 : Blk W0 (b0 + 2) 38 #[.slice none 0 0] := by
    rw [← hW0, ← hb0]
    have := Blk.new ((w.alloc (.cells #[.string s] 9)).alloc (.cells #[.string u] 9)) 38 #[.slice none 0 0]
    rw [World.size_alloc, World.size_alloc] at this
    exact ((this.alloc _).alloc _).alloc _
  have q3 : Boxed W0 (b0 + 3) 3 (.int .i64 0) := by
    rw [← hW0, ← hb0]
    have := Boxed.new (((w.alloc (.cells #[.string s] 9)).alloc (.cells #[.string u] 9)).alloc (.cells #[.slice none 0 0] 38)) 3 (.int .i64 0)
    rw [World.size_alloc, World.size_alloc, World.size_alloc] at this
    exact (this.alloc _).alloc _
  have q4 : Boxed W0 (b0 + 4) 3 (.int .i64 0) := by
    rw [← hW0, ← hb0]
    have := Boxed.new ((((w.alloc (.cells #[.string s] 9)).alloc (.cells #[.string u] 9)).alloc (.cells #[.slice none 0 0] 38)).alloc (.cells #[.int .i64 0] 3)) 3 (.int .i64 0)
    rw [World.size_alloc, World.size_alloc, World.size_alloc, World.size_alloc] at this
    exact this.alloc _
  have q5 : Boxed W0 (b0 + 5) 140 (.func (.func 88) #[] #[.pointer (some ⟨b0 + 1 + 1 + 1, 0, none⟩), .pointer (some ⟨b0 + 1, 0, none⟩), .pointer (some ⟨b0 + 1 + 1 + 1 + 1, 0, none⟩), .pointer (some ⟨b0, 0, none⟩), .pointer (some ⟨b0 + 1 + 1, 0, none⟩)]) := by
    rw [← hW0]
    have := Boxed.new (((((w.alloc (.cells #[.string s] 9)).alloc (.cells #[.string u] 9)).alloc (.cells #[.slice none 0 0] 38)).alloc (.cells #[.int .i64 0] 3)).alloc (.cells #[.int .i64 0] 3)) 140 (.func (.func 88) #[] #[.pointer (some ⟨b0 + 1 + 1 + 1, 0, none⟩), .pointer (some ⟨b0 + 1, 0, none⟩), .pointer (some ⟨b0 + 1 + 1 + 1 + 1, 0, none⟩), .pointer (some ⟨b0, 0, none⟩), .pointer (some ⟨b0 + 1 + 1, 0, none⟩)])
    rw [World.size_alloc, World.size_alloc, World.size_alloc, World.size_alloc, World.size_alloc, hb0] at this
    exact this
  have hG0 := hG.on (by rw [hb0]; exact hB0)
  obtain ⟨T₀, hT₀⟩ : ∃ T : Nat → Prop, (fun j => j = b0 + 2 ∨ j = b0 + 3 ∨ j = b0 + 4) = T := ⟨_, rfl⟩
  have hT0 : ∀ j, T₀ j ↔ (j = b0 + 2 ∨ j = b0 + 3 ∨ j = b0 + 4) := fun j => by rw [← hT₀]
  have hI0 : ArI b0 T₀ s u K w W0 0 T₀ W0 := ⟨0, 0, [], fun j => j = b0 + 2, ⟨.slice none 0 0, q2, World.ownsRow_nil _ _ _ _, by simp [Value.ownBlock], fun j => by simp [Value.ownBlock]⟩, q3, q4, hT0, by omega, by omega, by simp, by simpa using hO, by simp, hB0, Rnd.refl _ _⟩
  have HW0 := Lib.hid hW0; have HB0 := Lib.hid hb0; have HT0 := Lib.hid hT0; have HI0 := Lib.hid hI0; have HG0 := Lib.hid hG0; have HR := Lib.hid hR
  have Q0 := Lib.hid q0; have Q1 := Lib.hid q1; have Q5 := Lib.hid q5
  clear hT₀ hT0 hI0 hG0 hR q0 q1 q2 q3 q4 q5 hG hO hB0 hW0
  gi_wp2_with fail
  rw [HW0.out]
  refine wpIn_giv (gf := 89) (lb := lb) rfl (enters_of Tryz.func89 (by kernel_rfl) rfl)
    HG0.out (fun _ => rfl) (ArI b0 T₀ s u K w W0) (fun k T A C hi ho => hi.oth hb0 (by omega) ho) (fun k T A hi => hi.lt)
    T₀ (fun k hk => ⟨by have := (HT0.out k).1 hk; omega, fun h => by have := (HT0.out k).1 hk; have := HR.out k h; omega⟩) HI0.out
    (fun k B => { tmps := #[.string s, .string u, .func (.func 89) #[] lb, .pointer (some ⟨b0, 0, none⟩), .pointer (some ⟨b0 + 1, 0, none⟩), undef, .slice none 0 0, .pointer (some ⟨b0 + 1 + 1, 0, none⟩), .pointer (some ⟨b0 + 1 + 1 + 1, 0, none⟩), .pointer (some ⟨b0 + 1 + 1 + 1 + 1, 0, none⟩), .pointer (some ⟨b0 + 1 + 1 + 1 + 1 + 1, 0, none⟩), .pointer (some ⟨B, 0, none⟩),
      (.func (.func 88) #[] #[.pointer (some ⟨b0 + 1 + 1 + 1, 0, none⟩), .pointer (some ⟨b0 + 1, 0, none⟩), .pointer (some ⟨b0 + 1 + 1 + 1 + 1, 0, none⟩), .pointer (some ⟨b0, 0, none⟩), .pointer (some ⟨b0 + 1 + 1, 0, none⟩)]), .func (.func 89) #[] lb, (pg (K.map (Kp.pc s)) k).val, undef, undef, undef, undef, undef, undef, undef, undef, undef, undef, undef, undef, undef, undef, undef, undef, undef], defers := [] })
    (fun k => (pg (K.map (Kp.pc s)) k).cells) 103 ?assign ?body ?done
  case assign =>
    intro l' k A K hK
    simp only [Pc.val, Pc.cells] at hK ⊢
    gi_wp2
    exact hK
  case body =>
    rintro l' k T B A hk hl hlB hBk hTB hl' hTl hi
    rw [pg_map hk] at hBk ⊢
    obtain ⟨f, q, E, TI, h1, h2, h3, h4, h5, h6, h7, h8, h9, h10, h11⟩ := hi
    rw [List.drop_eq_getElem_cons hk] at h7 h8
    obtain ⟨p, hp⟩ : ∃ p, K[k] = p := ⟨_, rfl⟩
    rw [hp] at h7 h8 hBk ⊢
    obtain ⟨o1, o2, o3, o4, o5⟩ := h8
    have hxs : (s.extract p.f (p.f + p.m)).size = p.m := by rw [cut_size (by omega) o3]; omega
    have hn : ∀ j, j = b0 ∨ j = b0 + 1 ∨ j = b0 + 5 → ¬ T₀ j := fun j hj h => by have := (HT0.out j).1 h; omega
    have r0 : Boxed A b0 9 (.string s) := (h11.block b0 (by omega) (hn _ (.inl rfl))).trans Q0.out
    have r1 : Boxed A (b0 + 1) 9 (.string u) := (h11.block (b0 + 1) (by omega) (hn _ (.inr (.inl rfl)))).trans Q1.out
    have r5 : Boxed A (b0 + 5) 140 (.func (.func 88) #[] #[.pointer (some ⟨b0 + 1 + 1 + 1, 0, none⟩), .pointer (some ⟨b0 + 1, 0, none⟩), .pointer (some ⟨b0 + 1 + 1 + 1 + 1, 0, none⟩), .pointer (some ⟨b0, 0, none⟩), .pointer (some ⟨b0 + 1 + 1, 0, none⟩)]) := (h11.block (b0 + 5) (by omega) (hn _ (.inr (.inr rfl)))).trans Q5.out
    have c5 := r5.cell
    obtain ⟨x, hx⟩ : ∃ x, s.extract p.f (p.f + p.m) = x := ⟨_, rfl⟩
    simp only [Kp.pc, Pc.cells, Pc.val, hx] at hBk ⊢
    rw [hx] at hxs
    obtain ⟨u0, u1, u2, u3, u4⟩ := cells5 hBk
    have CR := Lib.hid (rep_any s u (b0 + 1 + 1 + 1) (b0 + 1) (b0 + 1 + 1 + 1 + 1) b0 (b0 + 1 + 1) b0 f q p.f p.q TI E A hs hu o1 (by omega) o2 (by omega) (by omega) h2 r1 h3 r0 h1 (by omega))
    have H7 := Lib.hid h7; have H10 := Lib.hid h10; have H11 := Lib.hid h11; have H4 := Lib.hid h4; have HBK := Lib.hid hBk; have H2 := Lib.hid h2; have H3 := Lib.hid h3; have HTB := Lib.hid hTB; have H5 := Lib.hid h5; have H6 := Lib.hid h6; have O5 := Lib.hid o5
    have hzA := h11.size
    clear h1 h2 h3 h4 h5 h6 h7 h10 h11 r0 r1 r5 hn hBk hl' hTl hTB hx hp o5
    gi_wp2_with (refine ⟨trivial, rfl, ?_⟩; gi_at_call 88; refine (CallsIn.inRound l' (callsIn_wide.2 CR.out)).mono ?_; rintro e w1 ⟨⟨rv, rfl⟩, ⟨T', hI', hr'⟩, hb'⟩)
    have hT4 : ∀ j, TI j → T j := fun j h => (H4.out j).2 (.inl h)
    have k5 : Blk w1 B 103 #[.int .i64 (p.f : Int), .int .i64 ((p.f + p.m : Nat) : Int), .int .i64 (p.q : Int), .string x, .bool true] := HBK.out.same (hr'.block B HBK.out.lt (fun h => HTB.out (hT4 _ h)))
    have kf : Boxed w1 (b0 + 3) 3 (.int .i64 (f : Int)) := (hr'.block _ H2.out.lt H5.out).trans H2.out
    have kq : Boxed w1 (b0 + 4) 3 (.int .i64 (q : Int)) := (hr'.block _ H3.out.lt H6.out).trans H3.out
    have KW : Hid (∀ V, Below w1.heap.size w1 V → Blk V B 103 #[.int .i64 (p.f : Int), .int .i64 ((p.f + p.m : Nat) : Int), .int .i64 (p.q : Int), .string x, .bool true] ∧ Blk V (b0 + 3) 3 #[.int .i64 (f : Int)] ∧ Blk V (b0 + 4) 3 #[.int .i64 (q : Int)]) := fun V hV =>
      ⟨k5.same (hV.block _ k5.lt), (hV.block _ kf.lt).trans kf, (hV.block _ kq.lt).trans kq⟩
    have HFIN : Hid (∀ V, Below w1.heap.size w1 V → ∃ T'', ArI b0 T₀ s u K w W0 (k + 1) T'' ((V.setCell ⟨b0 + 3, 0, none⟩ (.int .i64 ((p.f + p.m : Nat) : Int))).setCell ⟨b0 + 4, 0, none⟩ (.int .i64 ((p.q + p.m : Nat) : Int))) ∧ Rnd T T'' A ((V.setCell ⟨b0 + 3, 0, none⟩ (.int .i64 ((p.f + p.m : Nat) : Int))).setCell ⟨b0 + 4, 0, none⟩ (.int .i64 ((p.q + p.m : Nat) : Int)))) := fun V hV => by
      have hgr : ∀ j, T' j → TI j ∨ A.heap.size ≤ j := hr'.grew
      have n3 : ¬ T' (b0 + 3) := fun h => (hgr _ h).elim H5.out (fun e => by omega)
      have n4 : ¬ T' (b0 + 4) := fun h => (hgr _ h).elim H6.out (fun e => by omega)
      have ho : ∀ j, j ≠ b0 + 3 → j ≠ b0 + 4 → ((V.setCell ⟨b0 + 3, 0, none⟩ (.int .i64 ((p.f + p.m : Nat) : Int))).setCell ⟨b0 + 4, 0, none⟩ (.int .i64 ((p.q + p.m : Nat) : Int))).heap[j]? = V.heap[j]? := fun j h3 h4 =>
        (Below.heap_setCell _ _ _ j (fun e => h4 (by simpa using e))).trans (Below.heap_setCell _ _ _ j (fun e => h3 (by simpa using e)))
      obtain ⟨m5, mf, mq⟩ := KW.out V hV
      have hz := hV.size
      have hz1 := hr'.size
      have hzs : ((V.setCell ⟨b0 + 3, 0, none⟩ (.int .i64 ((p.f + p.m : Nat) : Int))).setCell ⟨b0 + 4, 0, none⟩ (.int .i64 ((p.q + p.m : Nat) : Int))).heap.size = V.heap.size := by simp [World.setCell]
      obtain ⟨W', hW'⟩ : ∃ W', ((V.setCell ⟨b0 + 3, 0, none⟩ (.int .i64 ((p.f + p.m : Nat) : Int))).setCell ⟨b0 + 4, 0, none⟩ (.int .i64 ((p.q + p.m : Nat) : Int))) = W' := ⟨_, rfl⟩
      have g3 : Boxed W' (b0 + 3) 3 (.int .i64 ((p.f + p.m : Nat) : Int)) := by
        rw [← hW']
        have h1 : Blk (V.setCell ⟨b0 + 3, 0, none⟩ (.int .i64 ((p.f + p.m : Nat) : Int))) (b0 + 3) 3 #[.int .i64 ((p.f + p.m : Nat) : Int)] := by simpa using mf.set 0 (.int .i64 ((p.f + p.m : Nat) : Int))
        exact (Below.heap_setCell _ _ _ (b0 + 3) (fun e => by simp at e)).trans h1
      have g4 : Boxed W' (b0 + 4) 3 (.int .i64 ((p.q + p.m : Nat) : Int)) := by
        rw [← hW']
        have h0 : Blk (V.setCell ⟨b0 + 3, 0, none⟩ (.int .i64 ((p.f + p.m : Nat) : Int))) (b0 + 4) 3 #[.int .i64 (q : Int)] := (Below.heap_setCell _ _ _ (b0 + 4) (fun e => by simp at e)).trans mq
        have h1 : Blk ((V.setCell ⟨b0 + 3, 0, none⟩ (.int .i64 ((p.f + p.m : Nat) : Int))).setCell ⟨b0 + 4, 0, none⟩ (.int .i64 ((p.q + p.m : Nat) : Int))) (b0 + 4) 3 #[.int .i64 ((p.q + p.m : Nat) : Int)] := by simpa using h0.set 0 (.int .i64 ((p.q + p.m : Nat) : Int))
        exact h1
      have hBw : Below b0 w W' := by
        rw [← hW']
        exact ((H10.out.trans (hb'.trans (hV.mono (by omega)))).setCell (p := ⟨b0 + 3, 0, none⟩) (by show b0 ≤ b0 + 3; omega) _).setCell (p := ⟨b0 + 4, 0, none⟩) (by show b0 ≤ b0 + 4; omega) _
      rw [hW'] at ho hzs ⊢
      have hR : Rnd T (fun j => T' j ∨ j = b0 + 3 ∨ j = b0 + 4) A W' := by
        refine ⟨by omega, fun j hj hT => ?_, fun j hj => ?_⟩
        · have ht := fun h => hT ((H4.out j).2 h)
          rw [ho j (fun e => ht (.inr (.inl e))) (fun e => ht (.inr (.inr e))), hV.block j (by omega), hr'.block j hj (fun h => ht (.inl h))]
        · rcases hj with h | h
          · exact (hgr j h).imp (fun h => (H4.out j).2 (.inl h)) id
          · exact .inl ((H4.out j).2 (.inr h))
      refine ⟨fun j => T' j ∨ j = b0 + 3 ∨ j = b0 + 4, ⟨p.f + p.m, p.q + p.m, E ++ gap s u f p.f q p.q, T', ?_, g3, g4, fun j => Iff.rfl, n3, n4, ?_, O5.out, ?_, hBw, H11.out.trans hR⟩, hR⟩
      · refine hI'.keep (fun j hj => ?_)
        rw [ho j (fun e => n3 (e ▸ hj)) (fun e => n4 (e ▸ hj)), hV.block j (hI'.lt j hj)]
      · have := H7.out
        simp only [arl] at this
        rw [List.append_assoc]
        exact this
      · rw [List.length_append]
        have := gap_len s u f p.f q p.q
        omega
    have CE := Lib.hid (fun V => end_any ⟨p.f, ((p.f + p.m : Nat) : Int), p.q, x, true⟩ V (by simp only; omega) (by simp only; omega))
    simp only [Pc.val, hxs] at CE
    obtain ⟨m5, mf, mq⟩ := KW.out w1 (Below.refl _ _)
    obtain ⟨u0, u1, u2, u3, u4⟩ := cells5 m5
    have f3 := mf.frozen 0
    have f4 := mq.frozen 0
    have c3 : w1.cell? ⟨b0 + 3, 0, none⟩ = some (.int .i64 (f : Int)) := by simpa using mf.cell 0
    have c4 : w1.cell? ⟨b0 + 4, 0, none⟩ = some (.int .i64 (q : Int)) := by simpa using mq.cell 0
    have hmx : Tryz.prog.follows .mixedOrders = true := by kernel_rfl
    clear hI' hr' hb' k5 kf kq m5 mf mq hT4
    gi_region_with_o (first | (refine ⟨trivial, rfl, ?_⟩; gi_at_call 72; refine (CallsIn.inRound l' (callsIn_wide.2 (CE.out _))).mono ?_; rintro e w2 ⟨rfl, b2⟩; have hb2 := (Below.refl w1.heap.size w1).drew.trans b2; obtain ⟨m5, mf, mq⟩ := KW.out w2 hb2; obtain ⟨u0, u1, u2, u3, u4⟩ := cells5 m5; have f3 := mf.frozen 0; have f4 := mq.frozen 0; have c3 : w2.cell? ⟨b0 + 3, 0, none⟩ = some (.int .i64 (f : Int)) := (by simpa using mf.cell 0); have c4 : w2.cell? ⟨b0 + 4, 0, none⟩ = some (.int .i64 (q : Int)) := (by simpa using mq.cell 0)))
    all_goals
      have hfin := HFIN.out w2 hb2
      simp only [Int.natCast_add] at hfin
      exact hfin
  case done =>
    rintro T A hA hi hTw hKK
    obtain ⟨f, q, E, TI, h1, h2, h3, h4, h5, h6, h7, h8, h9, h10, h11⟩ := hi
    rw [List.drop_length] at h7 h8
    obtain ⟨o1, o2⟩ := h8
    have hn : ∀ j, j = b0 ∨ j = b0 + 1 ∨ j = b0 + 5 → ¬ T₀ j := fun j hj h => by have := (HT0.out j).1 h; omega
    have r0 : Boxed A b0 9 (.string s) := (h11.block b0 (by omega) (hn _ (.inl rfl))).trans Q0.out
    have r1 : Boxed A (b0 + 1) 9 (.string u) := (h11.block (b0 + 1) (by omega) (hn _ (.inr (.inl rfl)))).trans Q1.out
    have r5 : Boxed A (b0 + 5) 140 (.func (.func 88) #[] #[.pointer (some ⟨b0 + 1 + 1 + 1, 0, none⟩), .pointer (some ⟨b0 + 1, 0, none⟩), .pointer (some ⟨b0 + 1 + 1 + 1 + 1, 0, none⟩), .pointer (some ⟨b0, 0, none⟩), .pointer (some ⟨b0 + 1 + 1, 0, none⟩)]) := (h11.block (b0 + 5) (by omega) (hn _ (.inr (.inr rfl)))).trans Q5.out
    have c0 := r0.cell
    have c1 := r1.cell
    have c5 := r5.cell
    have CR := Lib.hid (rep_any s u (b0 + 1 + 1 + 1) (b0 + 1) (b0 + 1 + 1 + 1 + 1) b0 (b0 + 1 + 1) b0 f q s.size u.size TI E A hs hu o1 (Nat.le_refl _) o2 (Nat.le_refl _) (by omega) h2 r1 h3 r0 h1 (by omega))
    have h7' : E ++ gap s u f s.size q u.size = arl s u 0 0 K := h7
    have H7 := Lib.hid h7'; have H10 := Lib.hid h10; have HKK := Lib.hid hKK
    have hTI : ¬ TI W0.heap.size := fun h => hTw ((h4 _).2 (.inl h))
    clear h1 h2 h3 h4 h7 h7' h10 h11 hKK r0 r1 r5 hn
    gi_wp2_with (refine ⟨trivial, rfl, ?_⟩; gi_at_call 88; refine (callsIn_wide.2 CR.out).mono ?_; rintro e w1 ⟨⟨rv, rfl⟩, ⟨T', hI', hr'⟩, hb'⟩; rw [H7.out] at hI'; obtain ⟨v', hk', hown', hn', hT'⟩ := hI'; obtain ⟨_, ao, co, rfl, hES⟩ := es_of_own hown'; have c7 : w1.cell? ⟨b0 + 1 + 1, 0, none⟩ = _ := hk'.cell 0; simp only [List.getElem?_toArray, List.getElem?_cons_zero] at c7)
    have hTn : ¬ T' W0.heap.size := fun h => (hr'.grew _ h).elim hTI (fun e => by omega)
    have hd : w1.heap[W0.heap.size]? = some (.deferred (some [])) := (hr'.block _ (by omega) hTI).trans HKK.out
    have hown2 := own_same (C := w1.putObj W0.heap.size (.deferred none)) hown' (fun g hg => World.putObj_heap_other (fun e => hTn (e ▸ (hT' g).2 (.inr hg))))
    obtain ⟨_, a2, c2, heq, hES2⟩ := es_of_own hown2
    cases heq
    have hF : Below w.heap.size w (w1.putObj W0.heap.size (.deferred none)) := by
      rw [hb0]
      exact (H10.out.trans hb').trans ⟨rfl, rfl, rfl, by simp, fun k hk => World.putObj_heap_other (by omega)⟩
    rw [hz0] at hd hES2 hF
    refine ⟨by simp, .inl ⟨_, _, rfl, run_takeDeferred hd, ?_⟩⟩
    exact ⟨_, results_tmp rfl _ _ _, _, _, rfl, hES2, hF⟩

end Go.Proofs.YtkehgoailhpenaaGreat

/- The contract of the program's Compose. Conditions: texts of at most 1000000 bytes, lists of at most 1000 edits. -/
namespace Go.Proofs.YtkehgoailhpenaaGreat
open Go.RowKit Go.Shelf
set_option linter.unusedVariables false

/-- The error of a composition, and its edits. -/
def cmE (s : ByteArray) (es1 es2 : List Er) : Int :=
  if vErr (s.size : Int) es1 = 0 then (if vErr ((apS s es1).size : Int) es2 = 0 then (if 64 < (cmpl (sb s) (ees es1) (ees es2)).length then 4 else 0) else vErr ((apS s es1).size : Int) es2) else vErr (s.size : Int) es1
def cmS (s : ByteArray) (es1 es2 : List Er) : List Er := if cmE s es1 es2 = 0 then ers (cmpl (sb s) (ees es1) (ees es2)) else []
theorem ers_ees {l : List Er} (h : ∀ e ∈ l, 0 ≤ e.f ∧ 0 ≤ e.t) : ers (ees l) = l := by
  unfold ers ees
  rw [List.map_map]
  conv => rhs; rw [← List.map_id l]
  refine List.map_congr_left fun e he => ?_
  obtain ⟨f, t, x⟩ := e
  obtain ⟨h1, h2⟩ := h _ he
  simp only at h1 h2
  simp only [Function.comp, er, Er.ee, bs_sb, id]
  congr 1 <;> omega
theorem arl_pos {s u : ByteArray} : ∀ {K : List Kp} {f q : Nat}, ∀ e ∈ arl s u f q K, 0 ≤ e.f ∧ 0 ≤ e.t := by
  have hg : ∀ f t q r, ∀ e ∈ gap s u f t q r, 0 ≤ e.f ∧ 0 ≤ e.t := by
    intro f t q r e he
    unfold gap at he
    split at he
    · simp at he
    · simp only [List.mem_singleton] at he
      subst he
      exact ⟨by simp only; omega, by simp only; omega⟩
  intro K
  induction K with
  | nil => intro f q e he; exact hg _ _ _ _ e he
  | cons p K ih =>
    intro f q e he
    simp only [arl, List.mem_append] at he
    exact he.elim (hg _ _ _ _ e) (ih e)
theorem apS_sb {s : ByteArray} {es : List Er} (h : vErr (s.size : Int) es = 0) : sb (apS s es) = appl (sb s) 0 (ees es) := apS_ok h

set_option maxRecDepth 100000 in
set_option maxHeartbeats 4000000 in
theorem pcompose_any (s : ByteArray) (a b : Option Addr) (c1 c2 : Nat) (es1 es2 : List Er) (w : World) (hs : s.size ≤ 1000000) (ht : (apS s es1).size ≤ 1000000) (hu : (apS (apS s es1) es2).size ≤ 1000000) (hn1 : es1.length ≤ 1000) (hn2 : es2.length ≤ 1000)
    (hf1 : ∀ e ∈ es1, e.Fit) (hf2 : ∀ e ∈ es2, e.Fit) (hS1 : ES w.heap.size w a c1 es1) (hS2 : ES w.heap.size w b c2 es2) :
    Calls Tryz.prog 59 #[.string s, .slice a es1.length c1, .slice b es2.length c2] w fun e w' => NewES w (cmS s es1 es2) (cmE s es1 es2) e w' := by
  have A1 := papply_any s a c1 es1 w (by omega) hn1 hf1 hS1
  obtain ⟨t, htt⟩ : ∃ t, apS s es1 = t := ⟨_, rfl⟩
  obtain ⟨u, huu⟩ : ∃ u, apS t es2 = u := ⟨_, rfl⟩
  have A2 := fun W (hW : Below w.heap.size w W) => papply_any t b c2 es2 W (by rw [← htt]; omega) hn2 hf2 (hS2.on hW)
  obtain ⟨v1, hv1⟩ : ∃ v, vErr (s.size : Int) es1 = v := ⟨_, rfl⟩
  obtain ⟨v2, hv2⟩ : ∃ v, vErr (t.size : Int) es2 = v := ⟨_, rfl⟩
  rw [htt] at ht hu
  rw [huu] at hu
  simp only [huu, hv2] at A2
  rw [htt, hv1] at A1
  obtain ⟨n1, hl1⟩ : ∃ n, es1.length = n := ⟨_, rfl⟩
  obtain ⟨n2, hl2⟩ : ∃ n, es2.length = n := ⟨_, rfl⟩
  simp only [hl2] at A2
  rw [hl1] at A1
  rw [hl1, hl2]
  obtain ⟨E, hE⟩ : ∃ E, cmE s es1 es2 = E := ⟨_, rfl⟩
  obtain ⟨C, hC⟩ : ∃ C, cmS s es1 es2 = C := ⟨_, rfl⟩
  rw [hE, hC]
  have hE2 := hE
  unfold cmE at hE2
  rw [hv1, htt, hv2] at hE2
  have CA1 := Lib.hid A1; have CA2 := Lib.hid A2
  clear A1 A2
  by_cases h1 : v1 = 0
  · subst h1
    rw [if_pos rfl] at hE2
    by_cases h2 : v2 = 0
    · subst h2
      rw [if_pos rfl] at hE2
      obtain ⟨K, k1, k2, k3⟩ := kept_comp (s := s) (t := t) (u := u) hv1 hv2 (by rw [← htt]; exact apS_ok hv1) (by rw [← huu]; exact apS_ok hv2)
      have hKl : K.length ≤ 20000 := by
        have h3 := congrArg List.length k1
        rw [List.length_map] at h3
        have h4 := List.length_filter_le (·.k) (kbl (prl s 0 0 es1) (prl t 0 0 es2))
        rw [kbl_len, prl_len, prl_len, hl1, hl2] at h4
        have g1 := (vErr_ok hv1).1
        have g2 := (vErr_ok hv2).1
        have h5 : (2 * n2 + 1) * (2 * n1 + 1) ≤ 129 * 129 := Nat.mul_le_mul (by omega) (by omega)
        omega
      have hcm : arl s u 0 0 K = ers (cmpl (sb s) (ees es1) (ees es2)) := by rw [← k3, ers_ees arl_pos]
      obtain ⟨D, hD⟩ : ∃ D, arl s u 0 0 K = D := ⟨_, rfl⟩
      have hDl : (cmpl (sb s) (ees es1) (ees es2)).length = D.length := by rw [← ers_len, ← hcm, hD]
      rw [hDl] at hE2
      have hC2 : C = if E = 0 then D else [] := by rw [← hC]; unfold cmS; rw [hE, ← hcm, hD]
      have hx1 : ∀ e ∈ es1, e.x.size ≤ 100000 := fun e he => (hf1 e he).x
      have hx2 : ∀ e ∈ es2, e.x.size ≤ 100000 := fun e he => (hf2 e he).x
      have HG : Hid (∀ W, Below w.heap.size w W → ∀ V, ((((W.alloc (.cells #[.string s] 9)).alloc (.cells #[.slice a n1 c1] 38)).alloc (.cells #[.string t] 9)).alloc (.cells #[.slice b n2 c2] 38)) = V →
          Calls Tryz.prog 75 #[.string s, .string u, .func (.func 89) #[] #[.pointer (some ⟨W.heap.size + 2, 0, none⟩), .pointer (some ⟨W.heap.size + 3, 0, none⟩), .pointer (some ⟨W.heap.size, 0, none⟩), .pointer (some ⟨W.heap.size + 1, 0, none⟩)]] V fun e w' => ∃ ad cd, e = .returned (.slice ad D.length cd) ∧ ES w'.heap.size w' ad cd D ∧ Below w.heap.size w w') := fun W hW V hV => by
        have hVs : V.heap.size = W.heap.size + 4 := by rw [← hV]; simp
        have hB : Below W.heap.size W V := by rw [← hV]; exact ((((Below.refl _ _).alloc (Nat.le_refl _) _).alloc (by simp) _).alloc (by simp; omega) _).alloc (by simp; omega) _
        have q0 : Boxed V W.heap.size 9 (.string s) := by rw [← hV]; exact (((Boxed.new _ _ _).alloc _).alloc _).alloc _
        have q1 : Boxed V (W.heap.size + 1) 38 (.slice a n1 c1) := by
          rw [← hV]
          have := Boxed.new (W.alloc (.cells #[.string s] 9)) 38 (.slice a n1 c1)
          rw [World.size_alloc] at this
          exact (this.alloc _).alloc _
        have q2 : Boxed V (W.heap.size + 2) 9 (.string t) := by
          rw [← hV]
          have := Boxed.new ((W.alloc (.cells #[.string s] 9)).alloc (.cells #[.slice a n1 c1] 38)) 9 (.string t)
          rw [World.size_alloc, World.size_alloc] at this
          exact this.alloc _
        have q3 : Boxed V (W.heap.size + 3) 38 (.slice b n2 c2) := by
          rw [← hV]
          have := Boxed.new (((W.alloc (.cells #[.string s] 9)).alloc (.cells #[.slice a n1 c1] 38)).alloc (.cells #[.string t] 9)) 38 (.slice b n2 c2)
          rw [World.size_alloc, World.size_alloc, World.size_alloc] at this
          exact this
        have hwV : Below w.heap.size w V := hW.trans (hB.mono hW.size)
        have hg := kb_giv s t (W.heap.size + 2) (W.heap.size + 3) W.heap.size (W.heap.size + 1) a b c1 c2 es1 es2 V (by omega) (by omega) hv1 hv2 hx1 hx2 q2 (by rw [hl2]; exact q3) q0 (by rw [hl1]; exact q1) (hS1.on hwV) (hS2.on hwV)
        have hkb : KB s t es1 es2 = K.map (Kp.pc s) := k1
        rw [hkb, List.length_map] at hg
        have hRl : ∀ (x : Option Addr) (cx : Nat) (es : List Er), ES V.heap.size V x cx es → ∀ k, Rl x es.length k → k < V.heap.size := by
          intro x cx es h k hk
          obtain ⟨h0, off, ho⟩ := hk
          rcases h.cells with h3 | ⟨b', off', e1, e2, _⟩
          · omega
          · rw [ho] at e1; cases e1; exact e2
        have := paround_any s u _ K _ V (by omega) (by omega) hKl hg (by
          rintro k (rfl | rfl | h | h)
          · omega
          · omega
          · exact hRl a c1 es1 (hS1.on hwV) k h
          · exact hRl b c2 es2 (hS2.on hwV) k h) k2
        rw [hD] at this
        refine this.mono ?_
        rintro e w' ⟨ad, cd, rfl, hES, hb⟩
        exact ⟨ad, cd, rfl, hES, hwV.trans (hb.mono hwV.size)⟩
      have hdn : D.length ≤ 1000000 := by have := arl_len (s := s) (u := u) (K := K) (f := 0) (q := 0); rw [hD] at this; omega
      have HC := Lib.hid hC2; have HE := Lib.hid hE2
      clear hv1 hv2 hE hC hD hDl hcm hC2 k1 k2 k3 hx1 hx2 hf1 hf2 hS1 hS2 hE2 htt huu
      by_cases hlen : 64 < D.length
      · have hlen' : (64 : Int) < (D.length : Int) := by omega
        go_enter Tryz.func59, Tryz.ntmps59
        go_wp2_with fail
        refine CA1.out.mono ?_
        rintro e w1 ⟨rfl, b1⟩
        have B1 := Lib.hid b1
        clear b1
        go_wp2_with fail
        refine (CA2.out w1 B1.out).mono ?_
        rintro e w2 ⟨rfl, b2⟩
        have B2 := Lib.hid (B1.out.trans (b2.mono B1.out.size))
        clear b2
        go_wp2_with fail
        refine (kept_any s t a b n1 c1 n2 c2 w2).mono ?_
        rintro e w3 ⟨rfl, hw3⟩
        have CG := Lib.hid (HG.out w2 B2.out w3 hw3.symm)
        clear hw3
        go_wp2_with fail
        refine CG.out.mono ?_
        rintro e w4 ⟨ad, cd, rfl, hES, hb⟩
        have HF := Lib.hid (And.intro hES hb)
        clear hES hb
        go_wp2_with fail
        go_ret2
        have hE := HE.out
        rw [if_pos hlen] at hE
        have hC := HC.out
        rw [← hE, if_neg (by decide)] at hC
        rw [hC, ← hE]
        exact ⟨none, 0, rfl, ES.none _ _, HF.out.2⟩
      · have hlen' : ¬ (64 : Int) < (D.length : Int) := by omega
        go_enter Tryz.func59, Tryz.ntmps59
        go_wp2_with fail
        refine CA1.out.mono ?_
        rintro e w1 ⟨rfl, b1⟩
        have B1 := Lib.hid b1
        clear b1
        go_wp2_with fail
        refine (CA2.out w1 B1.out).mono ?_
        rintro e w2 ⟨rfl, b2⟩
        have B2 := Lib.hid (B1.out.trans (b2.mono B1.out.size))
        clear b2
        go_wp2_with fail
        refine (kept_any s t a b n1 c1 n2 c2 w2).mono ?_
        rintro e w3 ⟨rfl, hw3⟩
        have CG := Lib.hid (HG.out w2 B2.out w3 hw3.symm)
        clear hw3
        go_wp2_with fail
        refine CG.out.mono ?_
        rintro e w4 ⟨ad, cd, rfl, hES, hb⟩
        have HF := Lib.hid (And.intro hES hb)
        clear hES hb
        go_wp2_with fail
        go_ret2
        have hE := HE.out
        rw [if_neg hlen] at hE
        have hC := HC.out
        rw [← hE, if_pos rfl] at hC
        rw [hC, ← hE]
        exact ⟨ad, cd, rfl, HF.out.1, HF.out.2⟩
    · rw [if_neg h2] at hE2
      have hC2 : C = [] := by rw [← hC]; unfold cmS; rw [hE, ← hE2, if_neg h2]
      have HC := Lib.hid hC2; have HE := Lib.hid hE2
      have hq : (v2 != 0) = true := by simp [h2]
      clear hv1 hv2 hE hC hC2 hf1 hf2 hS1 hS2 hE2 htt huu
      go_enter Tryz.func59, Tryz.ntmps59
      go_wp2_with fail
      refine CA1.out.mono ?_
      rintro e w1 ⟨rfl, b1⟩
      have B1 := Lib.hid b1
      clear b1
      go_wp2_with fail
      refine (CA2.out w1 B1.out).mono ?_
      rintro e w2 ⟨rfl, b2⟩
      have B2 := Lib.hid (B1.out.trans (b2.mono B1.out.size))
      clear b2
      go_wp2_with fail
      go_ret2
      rw [HC.out, ← HE.out]
      exact ⟨none, 0, rfl, ES.none _ _, B2.out⟩
  · rw [if_neg h1] at hE2
    have hC2 : C = [] := by rw [← hC]; unfold cmS; rw [hE, ← hE2, if_neg h1]
    have HC := Lib.hid hC2; have HE := Lib.hid hE2
    have hq : (v1 != 0) = true := by simp [h1]
    clear hv1 hv2 hE hC hC2 hf1 hf2 hS1 hS2 hE2 htt huu
    go_enter Tryz.func59, Tryz.ntmps59
    go_wp2_with fail
    refine CA1.out.mono ?_
    rintro e w1 ⟨rfl, b1⟩
    have B1 := Lib.hid b1
    clear b1
    go_wp2_with fail
    go_ret2
    rw [HC.out, ← HE.out]
    exact ⟨none, 0, rfl, ES.none _ _, B1.out⟩

end Go.Proofs.YtkehgoailhpenaaGreat
