/- The walk of EditOrder. It has no conditions. -/
import Derived.Test.YtfhpllcdlejfjaaEIw
import Derived.Test.YtfhpllcdlejfjaaEMq
import Derived.Test.YtfhpllcdlejfjaaEMap
namespace Go.Proofs.Ytfhpllcdlejfjaa
open Go.RowKit Go.Shelf
set_option linter.unusedVariables false

theorem mq_mapl (off : Int) (af : Bool) : ∀ (es : List Er) (d m : Int), (∀ e ∈ es, 0 ≤ e.f ∧ e.f ≤ e.t) → mqR off af es d m = mapl off af (ees es) d m := by
  intro es
  induction es with
  | nil => intro d m _; rfl
  | cons e es ih =>
    intro d m h
    obtain ⟨h0, h1⟩ := h e (by simp)
    have hf : ((e.f.toNat : Nat) : Int) = e.f := by omega
    have ht : ((e.t.toNat : Nat) : Int) = e.t := by omega
    have hi := fun d m => ih d m (fun x hx => h x (by simp [hx]))
    simp only [mqR, ees_cons, mapl, Er.ee, hf, ht, sb_len, hi]
theorem vE_more {n m : Int} (hnm : n ≤ m) : ∀ {es : List Er} {p : Int}, vE n p es = 0 → vE m p es = 0 := by
  intro es
  induction es with
  | nil => intro p _; rfl
  | cons e es ih =>
    intro p h
    simp only [vE] at h ⊢
    split at h
    · omega
    · split at h
      · omega
      · rename_i k1 k2
        rw [if_neg (by omega), if_neg k2]
        exact ih h
theorem vErr_more {n : Nat} {es : List Er} (h : vErr (n : Int) es = 0) (hn : n ≤ 9223372036854775807) : vErr 9223372036854775807 es = 0 := by
  have hl := (vErr_ok h).1
  unfold vErr at h ⊢
  rw [if_neg (by omega)] at h ⊢
  exact vE_more (by omega) h
theorem mpV_mapl {n : Nat} {es : List Er} (off : Int) (af : Bool) (h : vErr (n : Int) es = 0) (hn : n ≤ 9223372036854775807) : mpV es off af = mapl off af (ees es) 0 0 := by
  have hv := vErr_more h hn
  have hok := vErr_ok h
  have hv0 : vE 9223372036854775807 0 es = 0 := by have := hv; unfold vErr at this; rwa [if_neg (by omega)] at this
  unfold mpV
  rw [if_pos hv]
  have h1 := mq_mp off af es 0 0 0 hv0 (fun h => absurd rfl h)
  rw [← mq_mapl off af es 0 0 (fun e he => ⟨(hok.2.2 e he).1, (hok.2.2 e he).2.1⟩), h1]
  cases af <;> rfl
theorem map_low {n : Nat} {es : List Er} {off : Nat} (h : vErr (n : Int) es = 0) (hn : n ≤ 9223372036854775807) : mpV es (off : Int) false = ((lowF (ees es) 0 0 off : Nat) : Int) := by
  rw [mpV_mapl _ _ h hn]
  have := mapl_low (n := n) (l := ees es) (p := 0) (q := 0) (off := off) (m := 0) (vErr_ok h).2.1 (Nat.zero_le _)
  exact this
theorem map_high {n : Nat} {es : List Er} {off : Nat} (h : vErr (n : Int) es = 0) (hn : n ≤ 9223372036854775807) : mpV es (off : Int) true = ((highF (ees es) 0 0 off : Nat) : Int) := by
  rw [mpV_mapl _ _ h hn]
  have := mapl_high (n := n) (l := ees es) (p := 0) (q := 0) (off := off) (m := 0) (vErr_ok h).2.1 (Nat.zero_le _) (fun h => absurd rfl h)
  rw [Int.add_zero] at this
  exact this

set_option maxRecDepth 100000 in
set_option maxHeartbeats 8000000 in
theorem walkOrder (s : ByteArray) (hs : s.size ≤ 9223372036854775807) (a1 : Option Addr) (cap1 : Nat) (ls : List Int) (w : World)
    (h1 : Sli .i64 w a1 cap1 ls) (hi : ∀ n ∈ ls, -9223372036854775808 ≤ n ∧ n ≤ 9223372036854775807) :
    Calls Try.prog 9 #[.string s, .slice a1 ls.length cap1] w fun e w' => e = .returned (.bool true) ∧ Below w.heap.size w w' := by
  obtain ⟨t, ht⟩ : ∃ t, shS s 40 = t := ⟨_, rfl⟩
  have htl : t.size ≤ 40 := by rw [← ht]; exact shS_size s 40
  have cS := fun W => short_any s 40 W hs (by omega)
  rw [ht] at cS
  obtain ⟨n1, hn1⟩ : ∃ n, ls.length = n := ⟨_, rfl⟩
  have hsl : SlI w.heap.size w a1 n1 := by have := SlI.of h1 hi; rwa [hn1] at this
  have cR := raw_any t a1 n1 cap1 w (by omega) hsl (by have := h1.le; omega) h1.mx
  rw [hn1]
  have CS := Lib.hid cS; have CR := Lib.hid cR
  clear cS cR h1 hi ht hsl
  go_enter Try.func9, Try.ntmps9
  go_wp2_with fail
  refine (CS.out _).mono ?_
  rintro e w' ⟨rfl, rfl⟩
  go_wp2_with fail
  refine CR.out.mono ?_
  rintro e w1 ⟨xs, v1, rfl, hx1, hx2, hx3, hown1, hb1⟩
  obtain ⟨_, ax, cx, rfl, hX⟩ := es_of_own hown1
  have hfx := fit_of hx2 (by omega) (fun e he => by have := (hx3 e he).1; omega)
  have hz := apS_size (c := 7) hx2 (fun e he => (hx3 e he).1)
  have hz2 : (apS t xs).size ≤ 1000 := by have := Nat.mul_le_mul_left 7 hx1; omega
  have hok := vErr_ok hx2
  have hnear : ∀ e ∈ xs, Near e.f ∧ Near e.t := fun e he => by have := hok.2.2 e he; exact ⟨⟨by omega, by omega⟩, ⟨by omega, by omega⟩⟩
  have hvl : Vld (sb t).length 0 (ees xs) := by rw [sb_len]; exact hok.2.1
  have hap := apS_ok hx2
  have P1 := papply_any t ax cx xs w1 (by omega) (by omega) hfx hX
  have PL := fun (off : Nat) (ho : off ≤ 40) W (hW : Below w1.heap.size w1 W) => pmap_any ax cx xs (off : Int) false W (by omega) hfx hnear ⟨by omega, by omega⟩ (hX.on hW)
  have PH := fun (off : Nat) (ho : off ≤ 40) W (hW : Below w1.heap.size w1 W) => pmap_any ax cx xs (off : Int) true W (by omega) hfx hnear ⟨by omega, by omega⟩ (hX.on hW)
  have hlow : ∀ off : Nat, mpV xs (off : Int) false = ((lowF (ees xs) 0 0 off : Nat) : Int) := fun off => map_low hx2 (by omega)
  have hhigh : ∀ off : Nat, mpV xs (off : Int) true = ((highF (ees xs) 0 0 off : Nat) : Int) := fun off => map_high hx2 (by omega)
  simp only [hlow] at PL
  simp only [hhigh] at PH
  obtain ⟨z, hzz⟩ : ∃ z, apS t xs = z := ⟨_, rfl⟩
  rw [hzz] at hap hz2
  have hzl : (sb z).length = z.size := sb_len z
  obtain ⟨lo, hlo⟩ : ∃ f : Nat → Nat, (fun off => lowF (ees xs) 0 0 off) = f := ⟨_, rfl⟩
  obtain ⟨hg, hhg⟩ : ∃ f : Nat → Nat, (fun off => highF (ees xs) 0 0 off) = f := ⟨_, rfl⟩
  have hlo' : ∀ off, lowF (ees xs) 0 0 off = lo off := fun off => by rw [← hlo]
  have hhg' : ∀ off, highF (ees xs) 0 0 off = hg off := fun off => by rw [← hhg]
  simp only [hlo'] at PL
  simp only [hhg'] at PH
  have F1 : Hid (∀ off, off ≤ t.size → lo off ≤ hg off ∧ hg off ≤ z.size) := fun off ho => by
    have k1 := low_le_high (q := 0) (off := off) hvl (Nat.zero_le _)
    have k2 := high_le (q := 0) (off := off) hvl (Nat.zero_le _) (by rw [sb_len]; exact ho)
    rw [hlo', hhg'] at k1
    rw [hhg', ← hap, hzl] at k2
    exact ⟨k1, by omega⟩
  have F2 : Hid (∀ off, lo off ≤ lo (off + 1) ∧ hg off ≤ hg (off + 1)) := fun off => by
    have k1 := lowF_mono (q := 0) (a := off) (b := off + 1) hvl (Nat.zero_le _) (by omega)
    have k2 := highF_mono (q := 0) (a := off) (b := off + 1) hvl (Nat.zero_le _) (by omega)
    rw [hlo', hlo'] at k1
    rw [hhg', hhg'] at k2
    exact ⟨k1, k2⟩
  have F3 : Hid (∀ off, off < t.size → (∀ j, j < xs.length → (off : Int) < (eg xs j).f ∨ (eg xs j).t ≤ (off : Int)) → hg off < z.size ∧ (sb z)[hg off]? = (sb t)[off]?) := fun off ho hk => by
    have k1 := kept_image (q := 0) (off := off) hvl (Nat.zero_le _) (by rw [sb_len]; exact ho) (fun e he => by
      obtain ⟨x, hx, rfl⟩ := List.mem_map.1 he
      obtain ⟨j, hj, rfl⟩ := List.mem_iff_getElem.1 hx
      have h0 := hok.2.2 _ hx
      have := hk j hj
      simp only [eg, List.getElem?_eq_getElem hj, Option.getD_some] at this
      simp only [Er.ee]
      omega)
    rw [hhg', ← hap, hzl, Nat.zero_add, Nat.sub_zero] at k1
    exact k1
  have F4 : lo 0 = 0 := by rw [← hlo']; exact low_start hok.2.1
  have F5 : hg t.size = z.size := by
    have := high_end (q := 0) hvl
    rw [sb_len, ← hap, hzl, Nat.zero_add] at this
    rw [← hhg']; exact this
  obtain ⟨nx, hnx⟩ : ∃ n, xs.length = n := ⟨_, rfl⟩
  obtain ⟨bb, off0, hab, hcell⟩ := hX.cells.core
  rw [hx2, hzz] at P1
  simp only [hnx] at P1 PL PH hab hcell F3 hx1 ⊢
  have hcx : nx ≤ cx := by have := hX.le; omega
  have H1 := Lib.hid hb1; have HP1 := Lib.hid P1; have HPL := Lib.hid PL; have HPH := Lib.hid PH; have HAB := Lib.hid hab; have HC := Lib.hid hcell; have HF4 := Lib.hid F4; have HF5 := Lib.hid F5
  have hposj : Hid (∀ j, j < nx → 0 ≤ (eg xs j).f ∧ (eg xs j).f ≤ (eg xs j).t ∧ (eg xs j).t ≤ 40) := fun j hj => by
    have := hok.2.2 _ (eg_mem (es := xs) (k := j) (by omega)); omega
  clear hown1 hX hb1 P1 PL PH hab hcell hlow hhigh hlo hhg hlo' hhg' hzz hap hok hvl hfx hnear hz hx2 hx3 F4 F5
  go_wp2_with fail
  refine HP1.out.mono ?_
  rintro e w2 ⟨rfl, b2⟩
  have K2 := Lib.hid b2
  clear b2
  go_wp2_with fail
  go_loopw [9] (fun q wr => ∃ (p : Nat), p ≤ t.size + 1 ∧ q = .int .i64 (p : Int) ∧ Hid (Below w1.heap.size w1 wr)) (fun q _ => t.size + 1 - (intOf q).toNat)
  case atStart => exact ⟨0, by omega, rfl, K2.out⟩
  case round =>
    obtain ⟨p, hp, rfl, HR⟩ := hrel
    by_cases hlt : p ≤ t.size
    · have hlt2 : (p : Int) ≤ (t.size : Int) := by omega
      obtain ⟨g1, g2⟩ := F1.out p hlt
      have f1 : ¬ ((hg p : Nat) : Int) < ((lo p : Nat) : Int) := by omega
      have f2 : ¬ ((lo p : Nat) : Int) < 0 := by omega
      have f3 : ¬ (z.size : Int) < ((hg p : Nat) : Int) := by omega
      go_wp2_with fail
      refine (HPL.out p (by omega) _ HR.out).mono ?_
      rintro e u1 ⟨rfl, b3⟩
      have K3 := Lib.hid (HR.out.trans (b3.mono HR.out.size))
      clear b3
      go_wp2_with fail
      refine (HPH.out p (by omega) _ K3.out).mono ?_
      rintro e u2 ⟨rfl, b4⟩
      have K4 := Lib.hid (K3.out.trans (b4.mono K3.out.size))
      clear b4
      by_cases hp0 : p = 0
      case' pos =>
        have f4 : ¬ (0 : Int) < (p : Int) := by omega
        obtain ⟨u4, hu4⟩ : ∃ u4 : World, u4 = u2 := ⟨_, rfl⟩
        subst hu4
        have K6 : Hid (Below w1.heap.size w1 u4) := K4.out
        clear hp0
        go_wp2_with fail
      case' neg =>
        obtain ⟨p', hpp⟩ : ∃ p', p = p' + 1 := ⟨p - 1, by omega⟩
        obtain ⟨g3, g4⟩ := F2.out p'
        rw [← hpp] at g3 g4
        have f4 : (0 : Int) < (p : Int) := by omega
        have f5 : IntKind.i64.wrap ((p : Int) - 1) = (p' : Int) := by simp [IntKind.wrap, IntKind.signed, IntKind.bits]; omega
        have HPP := Lib.hid hpp
        clear hpp
        have f6 : ¬ ((lo p : Nat) : Int) < ((lo p' : Nat) : Int) := by omega
        have f7 : ¬ ((hg p : Nat) : Int) < ((hg p' : Nat) : Int) := by omega
        go_wp2_with fail
        refine (HPL.out p' (by have := HPP.out; omega) _ K4.out).mono ?_
        rintro e u3 ⟨rfl, b5⟩
        have K5 := Lib.hid (K4.out.trans (b5.mono K4.out.size))
        clear b5
        go_wp2_with fail
        refine (HPH.out p' (by have := HPP.out; omega) _ K5.out).mono ?_
        rintro e u4 ⟨rfl, b6⟩
        have K6 := Lib.hid (K5.out.trans (b6.mono K5.out.size))
        clear b6
        go_wp2_with fail
      all_goals
        go_loopw [12, 13] (fun u q wr => ∃ (i : Nat) (kb : Bool), i ≤ nx ∧ u = .bool kb ∧ q = .int .i64 (i : Int) ∧ Hid (kb = true → p < t.size ∧ ∀ j, j < i → ((p : Nat) : Int) < (eg xs j).f ∨ (eg xs j).t ≤ ((p : Nat) : Int)) ∧ Hid (Below w1.heap.size w1 wr)) (fun _ q _ => nx - (intOf q).toNat)
        case atStart => exact ⟨0, _, by omega, rfl, rfl, Lib.hid (fun h => ⟨by simpa using h, fun j hj => by omega⟩), K6.out⟩
        case round =>
          obtain ⟨i, kb, hi, rfl, rfl, HK, HR6⟩ := hrel
          by_cases hin : i < nx
          · have hin2 : (i : Int) < (nx : Int) := by omega
            obtain ⟨rfl, hbb⟩ := HAB.out.resolve_left (by omega)
            obtain ⟨c0, c1, _⟩ := HC.out i hin wr (HR6.out.block bb hbb)
            obtain ⟨j1, j2, j3⟩ := hposj.out i hin
            obtain ⟨x, hx⟩ : ∃ x, (eg xs i).f = x := ⟨_, rfl⟩
            obtain ⟨y, hy⟩ : ∃ x, (eg xs i).t = x := ⟨_, rfl⟩
            rw [hx] at c0 j1 j2
            rw [hy] at c1 j2 j3
            have HXY := Lib.hid (And.intro hx hy)
            clear hx hy
            cases kb
            · have HK2 : Hid (false = true → p < t.size ∧ ∀ j, j < i + 1 → ((p : Nat) : Int) < (eg xs j).f ∨ (eg xs j).t ≤ ((p : Nat) : Int)) := Lib.hid (fun h => by cases h)
              go_wp2
              go_roundw
              case rel => first | exact ⟨i + 1, false, by omega, rfl, by go_num, HK2, HR6.out⟩ | exact ⟨i + 1, by omega, by go_num, HK2.out rfl, HR6.out⟩ | exact ⟨i + 1, by omega, by go_num, HR6.out⟩ | exact ⟨i + 1, by omega, by go_num, trivial, HR6.out⟩
              case measure => first | (simp [intOf]; omega) | simp [intOf]
            · have hpre := HK.out rfl
              by_cases hx1 : ((p : Nat) : Int) < x
              · have HK2 : Hid (true = true → p < t.size ∧ ∀ j, j < i + 1 → ((p : Nat) : Int) < (eg xs j).f ∨ (eg xs j).t ≤ ((p : Nat) : Int)) := Lib.hid (fun _ => ⟨hpre.1, fun j hj => by
                  by_cases e : j = i
                  · subst e; left; rw [HXY.out.1]; exact hx1
                  · exact hpre.2 j (by omega)⟩)
                clear hpre
                go_wp2
                go_roundw
                case rel => first | exact ⟨i + 1, true, by omega, rfl, by go_num, HK2, HR6.out⟩ | exact ⟨i + 1, by omega, by go_num, HK2.out rfl, HR6.out⟩ | exact ⟨i + 1, by omega, by go_num, HR6.out⟩ | exact ⟨i + 1, by omega, by go_num, trivial, HR6.out⟩
                case measure => first | (simp [intOf]; omega) | simp [intOf]
              · by_cases hy1 : y ≤ ((p : Nat) : Int)
                · have HK2 : Hid (true = true → p < t.size ∧ ∀ j, j < i + 1 → ((p : Nat) : Int) < (eg xs j).f ∨ (eg xs j).t ≤ ((p : Nat) : Int)) := Lib.hid (fun _ => ⟨hpre.1, fun j hj => by
                    by_cases e : j = i
                    · subst e; right; rw [HXY.out.2]; exact hy1
                    · exact hpre.2 j (by omega)⟩)
                  clear hpre
                  go_wp2
                  go_roundw
                  case rel => first | exact ⟨i + 1, true, by omega, rfl, by go_num, HK2, HR6.out⟩ | exact ⟨i + 1, by omega, by go_num, HK2.out rfl, HR6.out⟩ | exact ⟨i + 1, by omega, by go_num, HR6.out⟩ | exact ⟨i + 1, by omega, by go_num, trivial, HR6.out⟩
                  case measure => first | (simp [intOf]; omega) | simp [intOf]
                · have HK2 : Hid (false = true → p < t.size ∧ ∀ j, j < i + 1 → ((p : Nat) : Int) < (eg xs j).f ∨ (eg xs j).t ≤ ((p : Nat) : Int)) := Lib.hid (fun h => by cases h)
                  clear hpre
                  go_wp2
                  go_roundw
                  case rel => first | exact ⟨i + 1, false, by omega, rfl, by go_num, HK2, HR6.out⟩ | exact ⟨i + 1, by omega, by go_num, HK2.out rfl, HR6.out⟩ | exact ⟨i + 1, by omega, by go_num, HR6.out⟩ | exact ⟨i + 1, by omega, by go_num, trivial, HR6.out⟩
                  case measure => first | (simp [intOf]; omega) | simp [intOf]
          · obtain rfl : nx = i := by omega
            have HRN : Hid (∀ n, Below w1.heap.size w1 (wr.drewN n)) := fun n => below_drewN HR6.out n
            cases kb
            · go_wp2_with fail
              go_quiet (fail)
              go_wp2
              go_roundw
              case rel => exact ⟨p + 1, by omega, by go_num, HRN.out _⟩
              case measure => first | (simp [intOf]; omega) | simp [intOf]
            · obtain ⟨k1, k2⟩ := HK.out rfl
              obtain ⟨k3, k4⟩ := F3.out p k1 k2
              obtain ⟨h, hh⟩ : ∃ h, hg p = h := ⟨_, rfl⟩
              rw [hh] at k3 k4
              have n1 : ¬ (z.size : Int) ≤ (h : Int) := by omega
              have n2 : (h : Int) < (z.size : Int) := by omega
              have n3 : ((p : Nat) : Int) < (t.size : Int) := by omega
              have hd : decide ((z.size : Int) ≤ (h : Int)) = false := by simp; omega
              rw [sb_get z h k3, sb_get t p k1] at k4
              have hq : ((((z[h]'k3).toNat : Nat) : Int) != (((t[p]'k1).toNat : Nat) : Int)) = false := by simpa using k4
              clear k2 k4
              go_wp2_with fail
              go_quiet (fail)
              go_wp2
              go_roundw
              case rel => exact ⟨p + 1, by omega, by go_num, HRN.out _⟩
              case measure => first | (simp [intOf]; omega) | simp [intOf]
    · obtain rfl : p = t.size + 1 := by omega
      have hend : ¬ ((t.size + 1 : Nat) : Int) ≤ (t.size : Int) := by omega
      have P1 := HPL.out 0 (by omega)
      have P2 := HPH.out t.size (by omega)
      rw [HF4.out] at P1
      rw [HF5.out] at P2
      have q1 : ((z.size : Int) == (z.size : Int)) = true := by simp
      have HP2 := Lib.hid P2; have HP3 := Lib.hid P1
      clear P1 P2
      go_wp2_with fail
      refine (HP3.out _ HR.out).mono ?_
      rintro e u1 ⟨rfl, b3⟩
      have K3 := Lib.hid (HR.out.trans (b3.mono HR.out.size))
      clear b3
      go_wp2_with fail
      refine (HP2.out _ K3.out).mono ?_
      rintro e u2 ⟨rfl, b4⟩
      have K4 := Lib.hid (K3.out.trans (b4.mono K3.out.size))
      clear b4
      go_wp2_with fail
      refine (lives_any _).mono ?_
      rintro e u3 ⟨rfl, b5⟩
      have K5 := Lib.hid (H1.out.trans ((K4.out.trans (b5.mono K4.out.size)).mono H1.out.size))
      clear b5
      go_wp2
      go_ret
      exact ⟨rfl, K5.out⟩

end Go.Proofs.Ytfhpllcdlejfjaa
