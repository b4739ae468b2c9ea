/- The contracts of the reference's sound and Map. Conditions: lists of at most 1000 edits whose offsets, like the offset, lie within 2^42 of 0. -/
import Derived.Test.YtfhpllcdlejfjaaEMp
import Derived.BigQuiet
import Derived.Deep.QuietTactic
namespace Go.Proofs.Ytfhpllcdlejfjaa
open Go.RowKit Go.Shelf
set_option linter.unusedVariables false

/-- The reference's loop. -/
def mqR (off : Int) (af : Bool) : List Er → Int → Int → Int
  | [], d, m => if af then off + d + m else off + d
  | e :: l, d, m =>
    if e.t < off ∨ (e.t = off ∧ e.f < e.t) then mqR off af l (d + e.x.size - (e.t - e.f)) m
    else if e.f < off then (if af then e.f + d + e.x.size else e.f + d)
    else if e.t = off then mqR off af l d (m + e.x.size) else mqR off af l d m
/-- Both loops lead to the same offset. -/
theorem mq_mp (off : Int) (af : Bool) : ∀ (l : List Er) (p d m : Int), vE 9223372036854775807 p l = 0 → (m ≠ 0 → off ≤ p) → mqR off af l d m = mpP off af l (if af then d + m else d) := by
  intro l
  induction l with
  | nil => intro p d m _ _; cases af <;> simp [mqR, mpP] <;> omega
  | cons e l ih =>
    intro p d m h hm
    simp only [vE] at h
    by_cases h1 : e.f < 0 ∨ e.t < e.f ∨ 9223372036854775807 < e.t
    · rw [if_pos h1] at h; omega
    rw [if_neg h1] at h
    by_cases h2 : e.f < p
    · rw [if_pos h2] at h; omega
    rw [if_neg h2] at h
    simp only [mqR, mpP]
    by_cases h3 : e.t < off ∨ (e.t = off ∧ e.f < e.t)
    · rw [if_pos h3, if_neg (by omega), if_neg (by omega), if_pos (by omega), ih e.t _ m h (fun x => by have := hm x; omega)]
      refine congrArg (mpP off af l) ?_
      cases af <;> simp <;> omega
    · rw [if_neg h3]
      by_cases h4 : e.f < off
      · rw [if_pos h4, if_pos (show e.f < off ∧ off < e.t by omega)]
        have hm0 : m = 0 := by
          by_cases h0 : m = 0
          · exact h0
          · have := hm h0; omega
        subst hm0
        cases af <;> simp
      · by_cases h5 : e.t = off
        · rw [if_neg h4, if_pos h5, if_neg (by omega), if_pos (by omega), ih e.t d _ h (fun _ => by omega)]
          cases af
          · rfl
          · simp only [if_true]
            refine congrArg (mpP off true l) ?_
            omega
        · rw [if_neg h4, if_neg h5, if_neg (by omega), if_neg (by omega), if_neg (by omega), ih e.t d m h (fun x => by have := hm x; omega)]

def snd? (es : List Er) : Bool := decide (vErr 9223372036854775807 es = 0)
theorem vE_rest {n p : Int} : ∀ {l : List Er}, vE n p l = 0 → ∀ k, k < l.length → vE n (eg l k).t (l.drop (k + 1)) = 0 := by
  intro l
  induction l generalizing p with
  | nil => intro _ k h; simp at h
  | cons e l ih =>
    intro h k hk
    simp only [vE] at h
    split at h
    · omega
    · split at h
      · omega
      · cases k with
        | zero => simpa [eg] using h
        | succ k =>
          have := ih h k (by simpa using hk)
          simpa [eg] using this

set_option maxRecDepth 100000 in
set_option maxHeartbeats 2000000 in
theorem rsound_any (a : Option Addr) (cap : Nat) (es : List Er) (w : World) (hn : es.length ≤ 1000) (hfit : ∀ e ∈ es, e.Fit) (hS : ES w.heap.size w a cap es) :
    Calls Try.prog 50 #[.slice a es.length cap] w fun e w' => e = .returned (.bool (snd? es)) ∧ Below w.heap.size w w' := by
  obtain ⟨n, hn'⟩ : ∃ n, es.length = n := ⟨_, rfl⟩
  obtain ⟨R, hR⟩ : ∃ R, snd? es = R := ⟨_, rfl⟩
  have hcap := hS.le
  rw [hR]
  rw [hn'] at hn hcap ⊢
  obtain ⟨B, hB⟩ : ∃ B, w.heap.size = B := ⟨_, rfl⟩
  have hRv : R = ((vE 9223372036854775807 0 es == 0) && decide (n ≤ 64)) := by
    rw [← hR, ← hn']
    unfold snd? vErr
    by_cases h : 64 < es.length
    · rw [if_pos h]; simp [show ¬ es.length ≤ 64 by omega]
    · rw [if_neg h, show decide (es.length ≤ 64) = true from decide_eq_true (by omega), Bool.and_true]; rfl
  obtain ⟨b, off, hab, hcell⟩ := hS.cells.core
  rw [hn'] at hab hcell
  rw [hB] at hab
  have HE := Lib.hid hn'; have HAB := Lib.hid hab; have HC := Lib.hid hcell; have HB := Lib.hid hB; have HF := Lib.hid hfit
  have H0 : Hid (R = ((vE 9223372036854775807 0 (es.drop 0) == 0) && decide (n ≤ 64))) := hRv
  clear hS hfit hR hRv hab hcell hB hn'
  go_enter Try.func50, Try.ntmps50
  go_wp2_with fail
  go_loopw [3, 4] (fun u q wr => ∃ (k : Nat) (p : Int), k ≤ n ∧ 0 ≤ p ∧ u = .int .i64 p ∧ q = .int .i64 (k : Int) ∧ Hid (R = ((vE 9223372036854775807 p (es.drop k) == 0) && decide (n ≤ 64))) ∧ Hid (Below B w wr)) (fun _ q _ => n - (intOf q).toNat)
  case atStart => exact ⟨0, 0, by omega, by omega, rfl, rfl, H0, Below.refl _ _⟩
  case round =>
    obtain ⟨k, p, hk, hp, rfl, rfl, HI, HR⟩ := hrel
    by_cases hlt : k < n
    · obtain ⟨ha, hbB⟩ := HAB.out.resolve_left (by omega)
      subst ha
      obtain ⟨c0, c1, c2⟩ := HC.out k hlt wr (HR.out.block b hbB)
      have hkk : (k : Int) < (n : Int) := by omega
      have hBr : B ≤ wr.heap.size := by have := HR.out.size; have := HB.out; omega
      have hstep := HI.out
      rw [eg_drop (by rw [HE.out]; exact hlt)] at hstep
      simp only [vE] at hstep
      obtain ⟨fit1, fit2, fit3, fit4, _⟩ := HF.out _ (eg_mem (es := es) (k := k) (by rw [HE.out]; exact hlt))
      obtain ⟨x, hx⟩ : ∃ x, (eg es k).f = x := ⟨_, rfl⟩
      obtain ⟨y, hy⟩ : ∃ y, (eg es k).t = y := ⟨_, rfl⟩
      obtain ⟨s, hs⟩ : ∃ s, (eg es k).x = s := ⟨_, rfl⟩
      rw [hx, hy] at hstep
      rw [hx] at c0 fit1 fit2
      rw [hy] at c1 fit3 fit4
      rw [hs] at c2
      clear hx hy hs c2
      by_cases h1 : x < p
      · have hr : R = false := by
          rw [hstep]
          by_cases h0 : x < 0 ∨ y < x ∨ 9223372036854775807 < y
          · rw [if_pos h0]; rfl
          · rw [if_neg h0, if_pos h1]; rfl
        have hd : decide (x < p) = true := by simp [h1]
        clear hstep
        go_wp2_with fail
        go_quiet (fail)
        go_wp2
        go_ret
        exact ⟨by rw [hr]; rfl, by rw [HB.out]; exact below_drewN HR.out _⟩
      · have hd : decide (x < p) = false := by simp; omega
        by_cases h2 : y < x
        · have hr : R = false := by rw [hstep, if_pos (.inr (.inl h2))]; rfl
          have hd2 : decide (y < x) = true := by simp [h2]
          clear hstep
          go_wp2_with fail
          go_quiet (fail)
          go_wp2
          go_ret
          exact ⟨by rw [hr]; rfl, by rw [HB.out]; exact below_drewN HR.out _⟩
        · have hd2 : decide (y < x) = false := by simp; omega
          rw [if_neg (by omega), if_neg (by omega)] at hstep
          have HS : Hid (R = ((vE 9223372036854775807 y (es.drop (k + 1)) == 0) && decide (n ≤ 64))) := hstep
          clear hstep
          go_wp2_with fail
          go_quiet (fail)
          go_wp2
          go_roundw
          case rel => exact ⟨k + 1, y, by omega, by omega, rfl, by go_num, HS, below_drewN HR.out _⟩
          case measure => simp [intOf]; omega
    · obtain rfl : n = k := by omega
      have hr := HI.out
      rw [List.drop_eq_nil_of_le (by rw [HE.out]; omega)] at hr
      have HS : Hid (R = decide ((n : Int) ≤ 64)) := by
        have : R = decide (n ≤ 64) := by rw [hr]; simp [vE]
        rw [this]; exact (by simp only [decide_eq_decide]; omega : decide (n ≤ 64) = decide ((n : Int) ≤ 64))
      clear hr
      go_wp2
      go_ret
      exact ⟨by rw [HS.out]; rfl, by rw [HB.out]; exact HR.out⟩

set_option maxRecDepth 100000 in
set_option maxHeartbeats 4000000 in
theorem rmap_any (a : Option Addr) (cap : Nat) (es : List Er) (off : Int) (af : Bool) (w : World) (hn : es.length ≤ 1000) (hfit : ∀ e ∈ es, e.Fit) (hnear : ∀ e ∈ es, Near e.f ∧ Near e.t) (hoff : Near off) (hS : ES w.heap.size w a cap es) :
    Calls Try.prog 29 #[.slice a es.length cap, .int .i64 off, .bool af] w fun e w' => e = .returned (.int .i64 (mpV es off af)) ∧ Below w.heap.size w w' := by
  have CV := Lib.hid (rsound_any a cap es w hn hfit hS)
  obtain ⟨n, hn'⟩ : ∃ n, es.length = n := ⟨_, rfl⟩
  obtain ⟨R, hR⟩ : ∃ R, mpV es off af = R := ⟨_, rfl⟩
  have hcap := hS.le
  rw [hR]
  rw [hn'] at hn hcap CV ⊢
  obtain ⟨B, hB⟩ : ∃ B, w.heap.size = B := ⟨_, rfl⟩
  by_cases hv : vErr 9223372036854775807 es = 0
  · obtain ⟨hlim, hpos⟩ := vErr_max hv
    have hv0 : vE 9223372036854775807 0 es = 0 := by have := hv; unfold vErr at this; rwa [if_neg (by omega)] at this
    have hRv : mqR off af es 0 0 = R := by rw [mq_mp off af es 0 0 0 hv0 (fun h => absurd rfl h), ← hR]; unfold mpV; rw [if_pos hv]; cases af <;> rfl
    obtain ⟨b, addr, hab, hcell⟩ := hS.cells.core
    rw [hn'] at hab hcell hlim
    rw [hB] at hab CV
    obtain ⟨ho1, ho2⟩ := hoff
    have hsn : snd? es = true := by unfold snd?; rw [hv]; rfl
    rw [hsn] at CV
    have HE := Lib.hid hn'; have HAB := Lib.hid hab; have HC := Lib.hid hcell; have HB := Lib.hid hB; have HF := Lib.hid hfit; have HP := Lib.hid hpos; have HNR := Lib.hid hnear
    have H0 : Hid (mqR off af (es.drop 0) 0 0 = R) := hRv
    clear hS hfit hR hRv hab hcell hB hn' hpos hnear hv hv0 hsn
    go_enter Try.func29, Try.ntmps29
    go_wp2_with fail
    refine CV.out.mono ?_
    rintro e w0 ⟨rfl, hb0⟩
    have HB0 := Lib.hid hb0
    clear hb0 CV
    go_wp2_with fail
    go_loopw [7, 8, 9] (fun u v q wr => ∃ (k : Nat) (d m : Int), k ≤ n ∧ u = .int .i64 d ∧ v = .int .i64 m ∧ q = .int .i64 (k : Int) ∧ -8796093122208 * (k : Int) ≤ d ∧ d ≤ 8796093122208 * (k : Int) ∧ 0 ≤ m ∧ m ≤ 8796093122208 * (k : Int) ∧ Hid (mqR off af (es.drop k) d m = R) ∧ Hid (Below B w wr)) (fun _ _ q _ => n - (intOf q).toNat)
    case atStart => exact ⟨0, 0, 0, by omega, rfl, rfl, rfl, by omega, by omega, by omega, by omega, H0, HB0.out⟩
    case round =>
      obtain ⟨k, d, m, hk, rfl, rfl, rfl, hg1, hg2, hm1, hm2, HI, HR⟩ := hrel
      by_cases hlt : k < n
      · obtain ⟨ha, hbB⟩ := HAB.out.resolve_left (by omega)
        subst ha
        have hkl : k < es.length := by rw [HE.out]; exact hlt
        obtain ⟨c0, c1, c2⟩ := HC.out k hlt wr (HR.out.block b hbB)
        have hkk : (k : Int) < (n : Int) := by omega
        have hBr : B ≤ wr.heap.size := by have := HR.out.size; have := HB.out; omega
        have hstep := HI.out
        rw [eg_drop hkl] at hstep
        simp only [mqR] at hstep
        have fit5 := (HF.out _ (eg_mem hkl)).x
        obtain ⟨hp0, hp1⟩ := HP.out _ (eg_mem hkl)
        obtain ⟨⟨_, nx⟩, ⟨_, ny⟩⟩ := HNR.out _ (eg_mem hkl)
        obtain ⟨x, hx⟩ : ∃ x, (eg es k).f = x := ⟨_, rfl⟩
        obtain ⟨y, hy⟩ : ∃ y, (eg es k).t = y := ⟨_, rfl⟩
        obtain ⟨s, hs⟩ : ∃ s, (eg es k).x = s := ⟨_, rfl⟩
        rw [hx, hy, hs] at hstep
        rw [hx] at c0 hp0 hp1 nx
        rw [hy] at c1 hp1 ny
        rw [hs] at c2 fit5
        have hHA := (HR.out.alloc hBr (.cells #[.int .i64 x, .int .i64 y, .string s] 32))
        have HA := Lib.hid hHA
        clear hx hy hs hHA
        by_cases h1 : y < off
        · rw [if_pos (.inl h1)] at hstep
          have HS := Lib.hid hstep
          clear hstep
          go_wp2
          go_roundw
          case rel => exact ⟨k + 1, _, _, by omega, rfl, rfl, by go_num, by omega, by omega, by omega, by omega, HS, HA.out⟩
          case measure => simp [intOf]; omega
        · by_cases h2 : y = off
          · by_cases h3 : x < y
            · rw [if_pos (.inr ⟨h2, h3⟩)] at hstep
              subst h2
              have HS := Lib.hid hstep
              clear hstep
              go_wp2
              go_roundw
              case rel => exact ⟨k + 1, _, _, by omega, rfl, rfl, by go_num, by omega, by omega, by omega, by omega, HS, HA.out⟩
              case measure => simp [intOf]; omega
            · rw [if_neg (by omega), if_neg (by omega), if_pos h2] at hstep
              subst h2
              have h4 : ¬ x < y := h3
              have HS := Lib.hid hstep
              clear hstep
              go_wp2
              go_roundw
              case rel => exact ⟨k + 1, _, _, by omega, rfl, rfl, by go_num, by omega, by omega, by omega, by omega, HS, HA.out⟩
              case measure => simp [intOf]; omega
          · have h4 : (y == off) = false := by simp; omega
            by_cases h3 : x < off
            · rw [if_neg (by omega), if_pos h3] at hstep
              cases af
              · have HS := Lib.hid hstep
                clear hstep
                go_wp2
                go_ret
                exact ⟨by have := HS.out; simp at this; rw [← this]; rfl, by rw [HB.out]; exact HA.out⟩
              · have HS := Lib.hid hstep
                clear hstep
                go_wp2
                go_ret
                exact ⟨by have := HS.out; simp at this; rw [← this]; rfl, by rw [HB.out]; exact HA.out⟩
            · rw [if_neg (by omega), if_neg h3, if_neg h2] at hstep
              have HS := Lib.hid hstep
              clear hstep
              go_wp2
              go_roundw
              case rel => exact ⟨k + 1, _, _, by omega, rfl, rfl, by go_num, by omega, by omega, by omega, by omega, HS, HA.out⟩
              case measure => simp [intOf]; omega
      · obtain rfl : n = k := by omega
        have hr := HI.out
        rw [List.drop_eq_nil_of_le (by rw [HE.out]; omega)] at hr
        simp only [mqR] at hr
        cases af
        · have HS := Lib.hid hr
          clear hr
          go_wp2
          go_ret
          exact ⟨by have := HS.out; simp at this; rw [← this]; rfl, by rw [HB.out]; exact HR.out⟩
        · have HS := Lib.hid hr
          clear hr
          go_wp2
          go_ret
          exact ⟨by have := HS.out; simp at this; rw [← this]; rfl, by rw [HB.out]; exact HR.out⟩
  · have hRv : off = R := by rw [← hR]; unfold mpV; rw [if_neg hv]
    subst hRv
    have hsn : snd? es = false := by unfold snd?; simp [hv]
    rw [hsn] at CV
    clear hS hfit hR hn' hnear hv hsn
    go_enter Try.func29, Try.ntmps29
    go_wp2_with fail
    refine CV.out.mono ?_
    rintro e w0 ⟨rfl, hb0⟩
    go_wp2
    go_ret
    exact ⟨rfl, hb0⟩

end Go.Proofs.Ytfhpllcdlejfjaa
