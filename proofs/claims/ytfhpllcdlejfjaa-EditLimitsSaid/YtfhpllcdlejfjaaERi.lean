/- The contract of the reference's Invert. Conditions: texts of at most 10000000 bytes, lists of at most 1000 edits. -/
import Derived.Test.YtfhpllcdlejfjaaEVs
import Derived.Test.YtfhpllcdlejfjaaEIp
import Derived.Test.YtfhpllcdlejfjaaEFw
import Derived.BigQuiet
import Derived.Deep.QuietTactic
namespace Go.Proofs.Ytfhpllcdlejfjaa
open Go.RowKit Go.Shelf
set_option linter.unusedVariables false

set_option maxRecDepth 100000 in
set_option maxHeartbeats 4000000 in
theorem rinvert_any (s : ByteArray) (a : Option Addr) (cap : Nat) (es : List Er) (w : World) (hs : s.size ≤ 10000000) (hn : es.length ≤ 1000) (hfit : ∀ e ∈ es, e.Fit) (hS : ES w.heap.size w a cap es) :
    Calls Try.prog 25 #[.string s, .slice a es.length cap] w (NewES w (ivS s es) (vErr (s.size : Int) es)) := by
  obtain ⟨i3, hi3, jy0, jy1, jy2⟩ := info_parts infoEd
  have CV := Lib.hid (rvalid_any s a cap es w hs hn hfit hS)
  obtain ⟨n, hn'⟩ : ∃ n, es.length = n := ⟨_, rfl⟩
  have hcap := hS.le
  rw [hn'] at hn hcap CV ⊢
  obtain ⟨B, hB⟩ : ∃ B, w.heap.size = B := ⟨_, rfl⟩
  by_cases hv : vErr (s.size : Int) es = 0
  · obtain ⟨R, hR⟩ : ∃ R, ivS s es = R := ⟨_, rfl⟩
    obtain ⟨hlim, hvld, hpos⟩ := vErr_ok hv
    have hv0 : vE (s.size : Int) 0 es = 0 := by have := hv; unfold vErr at this; rwa [if_neg (by omega)] at this
    have hRv : R = ers (invl (sb s) 0 0 (ees es)) := by rw [← hR]; unfold ivS; rw [if_pos hv]
    obtain ⟨b, addr, hab, hcell⟩ := hS.cells.core
    rw [hn'] at hab hcell hlim
    rw [hB] at hab CV
    rw [hv] at CV ⊢
    rw [hR]
    have HE := Lib.hid hn'; have HAB := Lib.hid hab; have HC := Lib.hid hcell; have HB := Lib.hid hB; have HF := Lib.hid hfit; have HP := Lib.hid hpos
    have H0 : Hid (R = [] ++ ers (invl (sb s) 0 0 (ees (es.drop 0)))) := hRv
    have HV0 : Hid (vE (s.size : Int) ((0 : Nat) : Int) (es.drop 0) = 0) := hv0
    clear hS hfit hR hRv hab hcell hB hn' hpos hv hv0 hvld
    go_enter Try.func25, Try.ntmps25
    go_wp2_with fail
    refine CV.out.mono ?_
    rintro e w0 ⟨rfl, hb0⟩
    have HB0 := Lib.hid hb0
    have HO0 : Hid (w0.ownsRow B 32 3 (.slice none 0 0) 0 (rv [])) := World.ownsRow_nil _ _ _ _
    clear hb0 CV
    go_wp2_with fail
    go_loopw [7, 8, 9] (fun u v q wr => ∃ (k p r : Nat) (acc : List Er), k ≤ n ∧ p ≤ s.size ∧ r ≤ p + 100000 * k ∧ v = .int .i64 ((r : Int) - (p : Int)) ∧ q = .int .i64 (k : Int) ∧ acc.length = k ∧ Hid (R = acc ++ ers (invl (sb s) p r (ees (es.drop k)))) ∧ Hid (vE (s.size : Int) (p : Int) (es.drop k) = 0) ∧ Hid (wr.ownsRow B 32 3 u k (rv acc)) ∧ Hid (Below B w wr)) (fun _ _ q _ => n - (intOf q).toNat)
    case atStart => exact ⟨0, 0, 0, [], by omega, by omega, by omega, rfl, rfl, rfl, H0, HV0, HO0, HB0.out⟩
    case round =>
      obtain ⟨k, p, r, acc, hk, hp, hr, rfl, rfl, hacc, HI, HV, HO, HR⟩ := hrel
      by_cases hlt : k < n
      · obtain ⟨ha, hbB⟩ := HAB.out.resolve_left (by omega)
        subst ha
        have hkl : k < es.length := by rw [HE.out]; exact hlt
        have hwb : ∀ W, Below B w W → W.cell? ⟨b, addr + k * 3, none⟩ = some (.int .i64 (eg es k).f) ∧ W.cell? ⟨b, addr + k * 3 + 1, none⟩ = some (.int .i64 (eg es k).t) ∧ W.cell? ⟨b, addr + k * 3 + 2, none⟩ = some (.string (eg es k).x) := fun W hW => HC.out k hlt W (hW.block b hbB)
        have hkk : (k : Int) < (n : Int) := by omega
        have hstep := HV.out
        have hri := HI.out
        rw [eg_drop hkl] at hstep hri
        obtain ⟨hd0, hd1, hd2⟩ := HP.out _ (eg_mem hkl)
        have hxl := (HF.out _ (eg_mem hkl)).x
        rw [ees_cons] at hri
        simp only [vE, invl, Er.ee, ers, List.map_cons] at hstep hri
        obtain ⟨x, hx⟩ : ∃ x : Nat, (eg es k).f = (x : Int) := ⟨(eg es k).f.toNat, by omega⟩
        obtain ⟨y, hy⟩ : ∃ y : Nat, (eg es k).t = (y : Int) := ⟨(eg es k).t.toNat, by omega⟩
        obtain ⟨t, ht⟩ : ∃ t, (eg es k).x = t := ⟨_, rfl⟩
        rw [hx, hy, ht] at hri hwb
        rw [hx, hy] at hstep
        rw [hx] at hd0 hd1
        rw [hy] at hd1 hd2
        rw [ht] at hxl
        simp only [Int.toNat_natCast, sb_len] at hri
        rw [if_neg (by omega)] at hstep
        by_cases hfx : (x : Int) < (p : Int)
        · rw [if_pos hfx] at hstep; omega
        rw [if_neg hfx] at hstep
        have hxp : p ≤ x := by omega
        have hxy : (x : Int) ≤ (y : Int) := hd1
        have hys : (y : Int) ≤ (s.size : Int) := hd2
        obtain ⟨m, hm⟩ : ∃ m : Nat, (x : Int) + ((r : Int) - (p : Int)) = (m : Int) := ⟨r + (x - p), by omega⟩
        have hmr : r + (x - p) = m := by omega
        have hml : m ≤ x + 100000 * k := by omega
        obtain ⟨z, hz⟩ : ∃ z : Nat, (m : Int) + (t.size : Int) = (z : Int) := ⟨m + t.size, by omega⟩
        have hzm : m + t.size = z := by omega
        have hsh : (r : Int) - (p : Int) + (t.size : Int) - ((y : Int) - (x : Int)) = (z : Int) - (y : Int) := by omega
        rw [hmr, hzm] at hri
        obtain ⟨o, ho⟩ : ∃ o, s.extract x y = o := ⟨_, rfl⟩
        have hel : er ⟨m, z, ((sb s).drop x).take (y - x)⟩ = ⟨(m : Int), (z : Int), o⟩ := by simp only [er, bs_cut, ho]
        rw [hel] at hri
        have hri2 : R = (acc ++ [⟨(m : Int), (z : Int), o⟩]) ++ ers (invl (sb s) y z (ees (es.drop (k + 1)))) := by rw [hri]; simp [ers]
        have HI2 := Lib.hid hri2
        have HV2 : Hid (vE (s.size : Int) (y : Int) (es.drop (k + 1)) = 0) := hstep
        have HRV : Hid (rv (acc ++ [⟨(m : Int), (z : Int), o⟩]) = rv acc ++ [.int .i64 (m : Int), .int .i64 (z : Int), .string o]) := rv_snoc _ _
        have HWB := Lib.hid hwb
        have HSH := Lib.hid hsh
        have hzl : z ≤ y + 100000 * (k + 1) := by omega
        have hBr : B ≤ wr.heap.size := by have := HR.out.size; have := HB.out; omega
        obtain ⟨c0, c1, c2⟩ := hwb wr HR.out
        have HLN : Hid ((acc ++ [(⟨(m : Int), (z : Int), o⟩ : Er)]).length = k + 1) := by rw [List.length_append, hacc]; exact rfl
        clear hstep hri hri2 hx hy ht hwb hel hsh hmr hzm
        go_wp2_with fail
        have c3 := (HWB.out wr.drew HR.out.drew)
        have hwz : IntKind.i64.wrap (z : Int) = (z : Int) := by simp [IntKind.wrap, IntKind.signed, IntKind.bits]; omega
        have c4 := HWB.out ((wr.alloc (.cells #[.int .i64 (m : Int), .int .i64 (z : Int), .string o] 32)).drew) (HR.out.alloc hBr _).drew
        go_region_held3 (fun w' => w'.cell? ⟨b, addr + k * 3, none⟩ = some (.int .i64 (x : Int)) ∧ w'.cell? ⟨b, addr + k * 3 + 1, none⟩ = some (.int .i64 (y : Int)) ∧ w'.cell? ⟨b, addr + k * 3 + 2, none⟩ = some (.string t)) (first | exact c3 | exact c4 | exact c6)
          (first | (rw [if_pos (by rfl)]; refine wp_append_at _ _ 22 rfl B 32 i3 (.agg #[.int .i64 0, .int .i64 0, .string ⟨#[]⟩]) 3 32 Try.underlying22 hi3 jy0 jy1 jy2 rfl (by decide) u7 k (rv acc) rfl (HO.out.alloc _).drew ⟨_, 0, none⟩ 1 1 [.int .i64 (m : Int), .int .i64 (z : Int), .string o] rfl rfl (cells_news wr [.int .i64 (m : Int), .int .i64 (z : Int), .string o] _) (fun x hx => by simp at hx; rcases hx with rfl | rfl | rfl <;> rfl) (by unfold maxLen; omega) (by omega) (by simp; omega) ?_; intro v' w6 hown6 hgrow6 _; have c6 := HWB.out w6 ((HR.out.alloc hBr (.cells #[.int .i64 (m : Int), .int .i64 (z : Int), .string o] 32)).drew.grown hgrow6 (by simp; omega) (fun g hg => (HO.out.lt g hg).1))))
        have HO6 : Hid (w6.ownsRow B 32 3 v' (k + 1) (rv (acc ++ [(⟨(m : Int), (z : Int), o⟩ : Er)]))) := by rw [HRV.out]; exact hown6
        have H6 : Hid (Below B w w6) := (HR.out.alloc hBr (.cells #[.int .i64 (m : Int), .int .i64 (z : Int), .string o] 32)).drew.grown hgrow6 (by simp; omega) (fun g hg => (HO.out.lt g hg).1)
        obtain ⟨d0, d1, d2⟩ := c6
        have hsh := HSH.out
        clear hown6 hgrow6 c3 c4
        go_wp2_with fail
        go_quiet (fail)
        go_wp2
        go_roundw
        case rel => exact ⟨k + 1, y, z, _, by omega, by omega, hzl, rfl, by go_num, HLN.out, HI2, HV2, own_same HO6.out (fun g _ => rfl), below_drewN H6.out _⟩
        case measure => simp [intOf]; omega
      · obtain rfl : n = k := by omega
        have hr := HI.out
        rw [List.drop_eq_nil_of_le (by rw [HE.out]; omega)] at hr
        have hracc : R = acc := by rw [hr]; simp [ees, invl, ers]
        subst hracc
        have hown := HO.out
        rw [← hacc] at hown
        obtain ⟨_, ao, co, rfl, hES⟩ := es_of_own hown
        have HES := Lib.hid hES
        have HA := Lib.hid hacc
        clear hr hown hES
        rw [hacc]
        go_wp2
        go_ret2
        exact ⟨ao, co, by rw [HA.out]; rfl, HES.out, by rw [HB.out]; exact HR.out⟩
  · have hiv : ivS s es = [] := by unfold ivS; rw [if_neg hv]
    have HV := Lib.hid hv
    have hq : (vErr (s.size : Int) es != 0) = true := by simp [hv]
    generalize vErr (s.size : Int) es = er at CV HV hq hv ⊢
    rw [hiv]
    clear hv hn' hS hfit hiv
    go_enter Try.func25, Try.ntmps25
    go_wp2_with fail
    refine CV.out.mono ?_
    rintro e w1 ⟨rfl, hb1⟩
    have HB1 := Lib.hid hb1
    clear hb1
    go_wp2
    go_ret2
    exact ⟨none, 0, rfl, ES.none _ _, HB1.out⟩

end Go.Proofs.Ytfhpllcdlejfjaa
