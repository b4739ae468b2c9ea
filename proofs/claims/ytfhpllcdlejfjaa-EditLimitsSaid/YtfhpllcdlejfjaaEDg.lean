/- The walk of EditDiff. It has no conditions. -/
import Derived.Test.YtfhpllcdlejfjaaELv
import Derived.Test.YtfhpllcdlejfjaaEVs
import Derived.Test.YtfhpllcdlejfjaaEFw
import Derived.Test.YtfhpllcdlejfjaaEOp
namespace Go.Proofs.Ytfhpllcdlejfjaa
open Go.RowKit Go.Shelf
set_option linter.unusedVariables false

theorem sb_cut_at (s : ByteArray) (f t i : Nat) (h : f + i < t) (ht : t ≤ s.size) : (sb (s.extract f t))[i]? = (sb s)[f + i]? := by
  rw [sb_cut, List.getElem?_take, if_pos (by omega), List.getElem?_drop]
/-- What is known of the edit of Diff. -/
structure DifE (a b : ByteArray) (e : Er) : Prop where
  p : 0 ≤ e.f
  q : e.f ≤ e.t
  r : e.t ≤ (a.size : Int)
  ne : a.extract e.f.toNat e.t.toNat ≠ e.x
  fst : 0 < (a.extract e.f.toNat e.t.toNat).size → 0 < e.x.size → (sb (a.extract e.f.toNat e.t.toNat))[0]? ≠ (sb e.x)[0]?
  lst : 0 < (a.extract e.f.toNat e.t.toNat).size → 0 < e.x.size → (sb (a.extract e.f.toNat e.t.toNat))[(a.extract e.f.toNat e.t.toNat).size - 1]? ≠ (sb e.x)[e.x.size - 1]?
theorem difr_ok {a b : ByteArray} {es : List Er} (h : DifR a b es) (ha : a.size ≤ 1000) (hb : b.size ≤ 1000) :
    vErr (a.size : Int) es = 0 ∧ apS a es = b ∧ es.length ≤ 1 ∧ (∀ e ∈ es, e.Fit) ∧ ∀ e ∈ es, DifE a b e := by
  rcases h with ⟨rfl, rfl⟩ | ⟨hne, p, q, hp, hq, rfl⟩
  · refine ⟨rfl, ?_, by simp, by simp, by simp⟩
    apply sb_inj
    rw [apS_ok rfl]; rfl
  · have hvld := dif_vld hp hq
    have happ := dif_appl hp hq
    have hends := dif_ends hp hq
    have hdn := dif_ne hp hq (fun e => hne (sb_inj e))
    have hp1 := hp.1; have hp2 := hp.2.1; have hq1 := hq.1; have hq2 := hq.2.1
    rw [sb_len] at hp1 hp2 hq1 hq2
    rw [sb_len, sb_len] at hends hdn
    have hbyt : ∀ e ∈ [dif (sb a) (sb b) p q], Byt e.x := by
      intro e he
      simp only [List.mem_singleton] at he
      subst he
      exact ((sb_byt b).drop p).take _
    have hx : (er (dif (sb a) (sb b) p q)).x = b.extract p (b.size - q) := by
      simp only [er, dif, sb_len]
      exact bs_cut b p (b.size - q)
    have hf : (er (dif (sb a) (sb b) p q)).f = (p : Int) := rfl
    have ht : (er (dif (sb a) (sb b) p q)).t = ((a.size - q : Nat) : Int) := by simp only [er, dif, sb_len]
    have hv : vErr (a.size : Int) [er (dif (sb a) (sb b) p q)] = 0 := vErr_ers (l := [dif (sb a) (sb b) p q]) (by rw [sb_len] at hvld; exact hvld) (by simp) hbyt
    have hxs : (b.extract p (b.size - q)).size = b.size - q - p := by rw [ByteArray.size_extract]; omega
    have hos : (a.extract p (a.size - q)).size = a.size - q - p := by rw [ByteArray.size_extract]; omega
    refine ⟨hv, ?_, by simp, ?_, ?_⟩
    · apply sb_inj
      rw [apS_ok hv, show ees [er (dif (sb a) (sb b) p q)] = [dif (sb a) (sb b) p q] from ees_ers hbyt]
      exact happ
    · intro e he
      simp only [List.mem_singleton] at he
      subst he
      refine ⟨?_, ?_, ?_, ?_, ?_⟩
      · rw [hf]; omega
      · rw [hf]; omega
      · rw [ht]; omega
      · rw [ht]; omega
      · rw [hx, hxs]; omega
    · intro e he
      simp only [List.mem_singleton] at he
      subst he
      have hfst : 0 < a.size - q - p → 0 < b.size - q - p → (sb (a.extract p (a.size - q)))[0]? ≠ (sb (b.extract p (b.size - q)))[0]? := by
        intro h1 h2
        rw [sb_cut_at _ _ _ _ (by omega) (by omega), sb_cut_at _ _ _ _ (by omega) (by omega)]
        exact (hends (by omega) (by omega)).1
      have hlst : 0 < a.size - q - p → 0 < b.size - q - p → (sb (a.extract p (a.size - q)))[a.size - q - p - 1]? ≠ (sb (b.extract p (b.size - q)))[b.size - q - p - 1]? := by
        intro h1 h2
        rw [sb_cut_at _ _ _ _ (by omega) (by omega), sb_cut_at _ _ _ _ (by omega) (by omega)]
        rw [show p + (a.size - q - p - 1) = a.size - 1 - q by omega, show p + (b.size - q - p - 1) = b.size - 1 - q by omega]
        exact (hends (by omega) (by omega)).2
      refine ⟨by rw [hf]; omega, by rw [hf, ht]; omega, by rw [ht]; omega, ?_, ?_, ?_⟩
      · rw [hf, ht, hx, Int.toNat_natCast, Int.toNat_natCast]
        intro he
        have hsz := congrArg ByteArray.size he
        rw [hxs, hos] at hsz
        by_cases h0 : 0 < a.size - q - p
        · exact hfst h0 (by omega) (by rw [he])
        · exact hdn ⟨by omega, by omega⟩
      · rw [hf, ht, hx, Int.toNat_natCast, Int.toNat_natCast, hos, hxs]; exact hfst
      · rw [hf, ht, hx, Int.toNat_natCast, Int.toNat_natCast, hos, hxs]; exact hlst

theorem emp_true {s : ByteArray} (h : s.size = 0) : (s.toList == []) = true := by
  rw [ByteArray.toList_eq]
  have : s.data.toList = [] := List.eq_nil_of_length_eq_zero (by simpa using h)
  rw [this]; rfl
theorem emp_false {s : ByteArray} (h : 0 < s.size) : (s.toList == []) = false := by
  rw [ByteArray.toList_eq, beq_eq_false_iff_ne]
  intro e
  have : s.data.toList.length = 0 := by rw [e]; rfl
  have h2 : 0 < s.data.size := h
  rw [Array.length_toList] at this; omega

set_option maxRecDepth 100000 in
set_option maxHeartbeats 4000000 in
theorem differs_any (a b : ByteArray) (w : World) (ha : a.size ≤ 1000) (hb : b.size ≤ 1000) :
    Calls Try.prog 30 #[.string a, .string b] w fun e w' => e = .returned (.bool true) ∧ Below w.heap.size w w' := by
  have C1 := Lib.hid (pdiff_all a b w (by omega) (by omega))
  have C2 := Lib.hid (fun W => rdiff_all a b W (by omega) (by omega))
  have q1 : (b.toList == b.toList) = true := by simp
  have q2 : (b.toList != b.toList) = false := by simp
  obtain ⟨B, hB⟩ : ∃ B, w.heap.size = B := ⟨_, rfl⟩
  have HB := Lib.hid hB
  go_enter Try.func30, Try.ntmps30
  go_wp2_with fail
  refine C1.out.mono ?_
  rintro e w1 ⟨es, hd, a1, c1, rfl, hE1, b1⟩
  obtain ⟨hv, hap, hl, hfit, hde⟩ := difr_ok hd ha hb
  have A1 := papply_any a a1 c1 es w1 (by omega) (by omega) hfit hE1
  rw [hv, hap] at A1
  have HD := Lib.hid hd; have HFT := Lib.hid hfit; have HE1 := Lib.hid hE1; have HDE := Lib.hid hde; have HA1 := Lib.hid A1
  have HB1 : Hid (Below B w w1) := by rw [← hB]; exact b1
  have zB1 : B ≤ w1.heap.size := by have := b1.size; omega
  obtain ⟨n, hn⟩ : ∃ n, es.length = n := ⟨_, rfl⟩
  have HN := Lib.hid hn
  have hc1 : n ≤ c1 := by have := hE1.le; omega
  rw [hn] at hl HA1 ⊢
  clear hd hv hap hfit hde hE1 b1 A1 hn hB
  go_wp2_with fail
  refine HA1.out.mono ?_
  rintro e w2 ⟨rfl, b2⟩
  have HB2 := Lib.hid b2
  clear b2
  go_wp2_with fail
  refine (C2.out _).mono ?_
  rintro e w3 ⟨es', hd', a3, c3, rfl, hE3, b3⟩
  obtain rfl := hd'.det HD.out
  have b13 : Below w1.heap.size w1 w3 := HB2.out.trans (b3.mono HB2.out.size)
  have S1 := Lib.hid (same_any a1 a3 c1 c3 es' w3 (by have := HN.out; omega) (HE1.out.on b13) hE3)
  have HB3 := Lib.hid b13
  rw [HN.out] at S1 ⊢
  clear hd' hE3 b3 b13
  go_wp2_with fail
  refine S1.out.mono ?_
  rintro e w4 ⟨rfl, b4⟩
  have HB4 := Lib.hid (HB3.out.trans (b4.mono HB3.out.size))
  clear b4
  go_wp2_with fail
  go_loopw [8] (fun q wr => ∃ (k : Nat), k ≤ n ∧ q = .int .i64 (k : Int) ∧ Hid (Below w1.heap.size w1 wr)) (fun q _ => n - (intOf q).toNat)
  case atStart => exact ⟨0, by omega, rfl, HB4.out⟩
  case round =>
    obtain ⟨k, hk, rfl, HR⟩ := hrel
    by_cases hlt : k < n
    · obtain rfl : k = 0 := by omega
      obtain rfl : n = 1 := by omega
      obtain ⟨bb, off, hab, hcell⟩ := HE1.out.cells.core
      obtain ⟨rfl, hbb⟩ := hab.resolve_left (by rw [HN.out]; omega)
      obtain ⟨k0, k1, k2⟩ := hcell 0 (by rw [HN.out]; omega) wr (HR.out.block bb hbb)
      have ft := (HFT.out _ (eg_mem (es := es') (k := 0) (by rw [HN.out]; omega))).x
      obtain ⟨g1, g2, g3, g4, g5, g6⟩ := HDE.out _ (eg_mem (es := es') (k := 0) (by rw [HN.out]; omega))
      obtain ⟨x, hx⟩ : ∃ x : Nat, (eg es' 0).f = (x : Int) := ⟨(eg es' 0).f.toNat, by omega⟩
      obtain ⟨y, hy⟩ : ∃ y : Nat, (eg es' 0).t = (y : Int) := ⟨(eg es' 0).t.toNat, by omega⟩
      obtain ⟨t, ht⟩ : ∃ t, (eg es' 0).x = t := ⟨_, rfl⟩
      obtain ⟨o, ho⟩ : ∃ o, a.extract x y = o := ⟨_, rfl⟩
      rw [hx] at k0 g1 g2
      rw [hy] at k1 g2 g3
      rw [ht] at k2 ft
      rw [hx, hy, ht, Int.toNat_natCast, Int.toNat_natCast, ho] at g4 g5 g6
      have hos : o.size = y - x := by rw [← ho, ByteArray.size_extract]; omega
      have hne : (o.toList == t.toList) = false := str_ne g4
      simp only [Nat.zero_mul, Nat.add_zero] at k0 k1 k2
      have HR2 : Hid (∀ m, Below w1.heap.size w1 (wr.drewN m)) := fun m => below_drewN HR.out m
      have HOS := Lib.hid hos
      clear hcell hab hx hy ht g4 hos
      by_cases ho0 : o.size = 0
      · have e1 := emp_true ho0
        clear g5 g6
        go_wp2_with fail
        go_quiet (fail)
        go_wp2_with fail
        go_quiet (fail)
        go_wp2
        go_roundw
        case rel => exact ⟨0 + 1, by omega, by go_num, HR2.out _⟩
        case measure => simp [intOf]
      · have e1 := emp_false (s := o) (by omega)
        by_cases ht0 : t.size = 0
        · have e2 := emp_true ht0
          clear g5 g6
          go_wp2_with fail
          go_quiet (fail)
          go_wp2_with fail
          go_quiet (fail)
          go_wp2
          go_roundw
          case rel => exact ⟨0 + 1, by omega, by go_num, HR2.out _⟩
          case measure => simp [intOf]
        · have e2 := emp_false (s := t) (by omega)
          have i1 : 0 < o.size := by omega
          have i2 : 0 < t.size := by omega
          have j1 := g5 i1 i2
          have j2 := g6 i1 i2
          have p1 : (0 : Int) < (o.size : Int) := by omega
          have p2 : (0 : Int) < (t.size : Int) := by omega
          obtain ⟨m1, hm1⟩ : ∃ m : Nat, (o.size : Int) - 1 = (m : Int) := ⟨o.size - 1, by omega⟩
          obtain ⟨m2, hm2⟩ : ∃ m : Nat, (t.size : Int) - 1 = (m : Int) := ⟨t.size - 1, by omega⟩
          have i3 : m1 < o.size := by omega
          have i4 : m2 < t.size := by omega
          have p3 : (m1 : Int) < (o.size : Int) := by omega
          have p4 : (m2 : Int) < (t.size : Int) := by omega
          have p5 : (o.size : Int) ≤ 1000 := by have := HOS.out; omega
          have p6 : (t.size : Int) ≤ 100000 := by have := ft; omega
          rw [show o.size - 1 = m1 by omega, show t.size - 1 = m2 by omega, sb_get o m1 i3, sb_get t m2 i4] at j2
          rw [sb_get o 0 i1, sb_get t 0 i2] at j1
          have hq1 : ((((o[0]'i1).toNat : Nat) : Int) == (((t[0]'i2).toNat : Nat) : Int)) = false := by simpa using j1
          have hq2 : ((((o[m1]'i3).toNat : Nat) : Int) == (((t[m2]'i4).toNat : Nat) : Int)) = false := by simpa using j2
          clear g5 g6 j1 j2
          go_wp2_with fail
          go_quiet (fail)
          go_wp2_with fail
          go_quiet (fail)
          go_wp2
          go_roundw
          case rel => exact ⟨0 + 1, by omega, by go_num, HR2.out _⟩
          case measure => simp [intOf]
    · obtain rfl : n = k := by omega
      go_wp2
      go_ret
      exact ⟨rfl, by rw [HB.out]; exact HB1.out.trans (HR.out.mono zB1)⟩

end Go.Proofs.Ytfhpllcdlejfjaa
