/- The contract of the program's Map. Conditions: lists of at most 1000 edits whose offsets, like the offset, lie within 2^42 of 0. -/
import Derived.Test.YtfhpllcdlejfjaaEVr
namespace Go.Proofs.Ytfhpllcdlejfjaa
open Go.RowKit Go.Shelf
set_option linter.unusedVariables false

/-- The program's loop. -/
def mpP (off : Int) (af : Bool) : List Er → Int → Int
  | [], g => off + g
  | e :: l, g =>
    if e.f < off ∧ off < e.t then (if af then e.f + g + e.x.size else e.f + g)
    else if e.f = off ∧ e.t = off then (if af then mpP off af l (g + e.x.size) else mpP off af l g)
    else if e.t ≤ off then mpP off af l (g + ((e.x.size : Int) - (e.t - e.f)))
    else mpP off af l g
def mpV (es : List Er) (off : Int) (af : Bool) : Int := if vErr 9223372036854775807 es = 0 then mpP off af es 0 else off
def Near (n : Int) : Prop := -4398046511104 ≤ n ∧ n ≤ 4398046511104

theorem vErr_max {es : List Er} (h : vErr 9223372036854775807 es = 0) : es.length ≤ 64 ∧ ∀ e ∈ es, 0 ≤ e.f ∧ e.f ≤ e.t := by
  have h1 := vErr_ok (n := 9223372036854775807) h
  exact ⟨h1.1, fun e he => ⟨(h1.2.2 e he).1, (h1.2.2 e he).2.1⟩⟩

set_option maxRecDepth 100000 in
set_option maxHeartbeats 2000000 in
theorem pmap_any (a : Option Addr) (cap : Nat) (es : List Er) (off : Int) (af : Bool) (w : World) (hn : es.length ≤ 1000) (hfit : ∀ e ∈ es, e.Fit) (hnear : ∀ e ∈ es, Near e.f ∧ Near e.t) (hoff : Near off) (hS : ES w.heap.size w a cap es) :
    Calls Try.prog 28 #[.slice a es.length cap, .int .i64 off, .bool af] w fun e w' => e = .returned (.int .i64 (mpV es off af)) ∧ Below w.heap.size w w' := by
  have CV := Lib.hid (vfor_any 9223372036854775807 a cap es w (by omega) (by omega) hn hfit hS)
  obtain ⟨n, hn'⟩ : ∃ n, es.length = n := ⟨_, rfl⟩
  obtain ⟨R, hR⟩ : ∃ R, mpV es off af = R := ⟨_, rfl⟩
  have hcap := hS.le
  rw [hR]
  rw [hn'] at hn hcap CV ⊢
  obtain ⟨B, hB⟩ : ∃ B, w.heap.size = B := ⟨_, rfl⟩
  by_cases hv : vErr 9223372036854775807 es = 0
  · obtain ⟨hlim, hpos⟩ := vErr_max hv
    have hRv : mpP off af es 0 = R := by rw [← hR]; unfold mpV; rw [if_pos hv]
    obtain ⟨b, addr, hab, hcell⟩ := hS.cells.core
    rw [hn'] at hab hcell hlim
    rw [hB] at hab CV
    obtain ⟨ho1, ho2⟩ := hoff
    rw [hv] at CV
    have HE := Lib.hid hn'; have HAB := Lib.hid hab; have HC := Lib.hid hcell; have HB := Lib.hid hB; have HF := Lib.hid hfit; have HP := Lib.hid hpos; have HNR := Lib.hid hnear
    have H0 : Hid (mpP off af (es.drop 0) 0 = R) := hRv
    clear hS hfit hR hRv hab hcell hB hn' hpos hnear hv
    go_enter Try.func28, Try.ntmps28
    go_wp2_with fail
    refine CV.out.mono ?_
    rintro e w0 ⟨rfl, hb0⟩
    have HB0 := Lib.hid hb0
    clear hb0
    go_wp2_with fail
    go_loopw [7, 16] (fun u q wr => ∃ (k : Nat) (g : Int), k ≤ n ∧ u = .int .i64 g ∧ q = .int .i64 (k : Int) ∧ -8796093122208 * (k : Int) ≤ g ∧ g ≤ 8796093122208 * (k : Int) ∧ Hid (mpP off af (es.drop k) g = R) ∧ Hid (Below B w wr)) (fun _ q _ => n - (intOf q).toNat)
    case atStart => exact ⟨0, 0, by omega, rfl, rfl, by omega, by omega, H0, HB0.out⟩
    case round =>
      obtain ⟨k, g, hk, rfl, rfl, hg1, hg2, HI, HR⟩ := hrel
      by_cases hlt : k < n
      · obtain ⟨ha, hbB⟩ := HAB.out.resolve_left (by omega)
        subst ha
        have hkl : k < es.length := by rw [HE.out]; exact hlt
        obtain ⟨c0, c1, c2⟩ := HC.out k hlt wr (HR.out.block b hbB)
        have hkk : (k : Int) < (n : Int) := by omega
        have hBr : B ≤ wr.heap.size := by have := HR.out.size; have := HB.out; omega
        have hstep := HI.out
        rw [eg_drop hkl] at hstep
        simp only [mpP] at hstep
        have fit5 := (HF.out _ (eg_mem hkl)).x
        obtain ⟨hp0, hp1⟩ := HP.out _ (eg_mem hkl)
        obtain ⟨⟨_, nx⟩, ⟨_, ny⟩⟩ := HNR.out _ (eg_mem hkl)
        obtain ⟨x, hx⟩ : ∃ x, (eg es k).f = x := ⟨_, rfl⟩
        obtain ⟨y, hy⟩ : ∃ y, (eg es k).t = y := ⟨_, rfl⟩
        obtain ⟨s, hs⟩ : ∃ s, (eg es k).x = s := ⟨_, rfl⟩
        rw [hx, hy, hs] at hstep
        rw [hx] at c0 hp0 hp1 nx
        rw [hy] at c1 hp1 ny
        rw [hs] at c2 fit5
        have hHA := (HR.out.alloc hBr (.cells #[.int .i64 x, .int .i64 y, .string s] 32))
        have HA := Lib.hid hHA
        clear hx hy hs hHA
        by_cases h1 : x < off
        · by_cases h2 : off < y
          · rw [if_pos ⟨h1, h2⟩] at hstep
            cases af
            · have HS := Lib.hid hstep
              clear hstep
              go_wp2
              go_ret
              exact ⟨by have := HS.out; simp at this; rw [← this]; rfl, by rw [HB.out]; exact HA.out⟩
            · have HS := Lib.hid hstep
              clear hstep
              go_wp2
              go_ret
              exact ⟨by have := HS.out; simp at this; rw [← this]; rfl, by rw [HB.out]; exact HA.out⟩
          · have h3 : y ≤ off := by omega
            have h4 : (x == off) = false := by simp; omega
            rw [if_neg (by omega), if_neg (by omega), if_pos h3] at hstep
            have HS := Lib.hid hstep
            clear hstep
            go_wp2
            go_roundw
            case rel => exact ⟨k + 1, _, by omega, rfl, by go_num, by omega, by omega, HS, HA.out⟩
            case measure => simp [intOf]; omega
        · rw [if_neg (by omega)] at hstep
          by_cases h3 : x = off
          · by_cases h4 : y = off
            · rw [if_pos ⟨h3, h4⟩] at hstep
              subst h3 h4
              cases af
              · have HS := Lib.hid hstep
                clear hstep
                go_wp2
                go_roundw
                case rel => exact ⟨k + 1, _, by omega, rfl, by go_num, by omega, by omega, by have := HS.out; simp at this; exact this, HA.out⟩
                case measure => simp [intOf]; omega
              · have HS := Lib.hid hstep
                clear hstep
                go_wp2
                go_roundw
                case rel => exact ⟨k + 1, _, by omega, rfl, by go_num, by omega, by omega, by have := HS.out; simp at this; exact this, HA.out⟩
                case measure => simp [intOf]; omega
            · rw [if_neg (fun h => h4 h.2), if_neg (by omega)] at hstep
              subst h3
              have h5 : (y == x) = false := by simp; omega
              have h6 : ¬ y ≤ x := by omega
              have HS := Lib.hid hstep
              clear hstep
              go_wp2
              go_roundw
              case rel => exact ⟨k + 1, _, by omega, rfl, by go_num, by omega, by omega, HS, HA.out⟩
              case measure => simp [intOf]; omega
          · rw [if_neg (fun h => h3 h.1), if_neg (by omega)] at hstep
            have h5 : (x == off) = false := by simp; omega
            have h6 : ¬ y ≤ off := by omega
            have HS := Lib.hid hstep
            clear hstep
            go_wp2
            go_roundw
            case rel => exact ⟨k + 1, _, by omega, rfl, by go_num, by omega, by omega, HS, HA.out⟩
            case measure => simp [intOf]; omega
      · obtain rfl : n = k := by omega
        have hr := HI.out
        rw [List.drop_eq_nil_of_le (by rw [HE.out]; omega)] at hr
        have HS : Hid (off + g = R) := hr
        clear hr
        go_wp2
        go_ret
        exact ⟨by rw [← HS.out]; rfl, by rw [HB.out]; exact HR.out⟩
  · have hRv : off = R := by rw [← hR]; unfold mpV; rw [if_neg hv]
    subst hRv
    obtain ⟨er, her⟩ : ∃ er, vErr 9223372036854775807 es = er := ⟨_, rfl⟩
    rw [her] at CV hv
    have hq : (er != 0) = true := by simp [hv]
    clear hS hfit hR hn' hnear her hv
    go_enter Try.func28, Try.ntmps28
    go_wp2_with fail
    refine CV.out.mono ?_
    rintro e w0 ⟨rfl, hb0⟩
    go_wp2
    go_ret
    exact ⟨rfl, hb0⟩

end Go.Proofs.Ytfhpllcdlejfjaa
