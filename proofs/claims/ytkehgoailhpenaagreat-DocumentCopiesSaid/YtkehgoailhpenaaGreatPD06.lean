/- Texts of one claim, put together: EDf, ERp, EAr, ECp, ECl, EMp, ELv, EVs, ERi, EOp, EDg. Each part says what it proves and under which conditions. -/
import Derived.Test.YtkehgoailhpenaaGreatPD05
import Derived.BigQuiet
import Derived.Deep.QuietTactic
import Derived.Lib.MinMax
import Derived.BigRegion
import Derived.Laws.EntriesVeiled
import Derived.Deep.Slices

/- The contracts of Diff, the program's and the reference's. Conditions: texts of at most 1000000 bytes. -/
namespace Go.Proofs.YtkehgoailhpenaaGreat
open Go.RowKit Go.Shelf
set_option linter.unusedVariables false

theorem sb_get (s : ByteArray) (k : Nat) (h : k < s.size) : (sb s)[k]? = some (((s[k]'h).toNat : Nat) : Int) := by
  have h2 : k < s.data.size := h
  unfold sb
  rw [List.getElem?_map, Array.getElem?_toList, Array.getElem?_eq_getElem h2]; rfl
theorem str_eq {a b : ByteArray} (h : a = b) : (a.toList == b.toList) = true := by subst h; simp
theorem toList_inj {a b : ByteArray} (h : a.toList = b.toList) : a = b := by
  rw [ByteArray.toList_eq, ByteArray.toList_eq] at h
  exact ByteArray.ext (Array.toList_inj.1 h)
theorem str_ne {a b : ByteArray} (h : a ≠ b) : (a.toList == b.toList) = false := by
  rw [beq_eq_false_iff_ne]; exact fun e => h (toList_inj e)

set_option maxRecDepth 100000 in
set_option maxHeartbeats 4000000 in
theorem pdiff_any (a b : ByteArray) (w : World) (ha : a.size ≤ 1000000) (hb : b.size ≤ 1000000) (hab : a ≠ b) :
    Calls Tryz.prog 60 #[.string a, .string b] w fun e w' => ∃ p q, Pre (sb a) (sb b) p ∧ Suf (sb a) (sb b) p q ∧ NewE1 w [er (dif (sb a) (sb b) p q)] e w' := by
  have hq0 : (a.toList == b.toList) = false := str_ne hab
  obtain ⟨m, hm⟩ : ∃ m : Nat, min (a.size : Int) (b.size : Int) = (m : Int) := ⟨(min (a.size : Int) (b.size : Int)).toNat, by omega⟩
  have hm1 : m ≤ a.size := by omega
  have hm2 : m ≤ b.size := by omega
  have hm3 : m = a.size ∨ m = b.size := by omega
  have HM3 := Lib.hid hm3
  obtain ⟨B, hB⟩ : ∃ B, w.heap.size = B := ⟨_, rfl⟩
  have HB := Lib.hid hB
  have H0 : Hid (Below B w w) := by rw [← hB]; exact Below.refl _ _
  clear hm3 hB
  go_enter Tryz.func60, Tryz.ntmps60
  go_wp2_with fail
  go_loopw [6] (fun u wr => ∃ (p : Nat), p ≤ m ∧ u = .int .i64 (p : Int) ∧ Hid (∀ i, i < p → (sb a)[i]? = (sb b)[i]?) ∧ Hid (Below B w wr)) (fun u _ => m - (intOf u).toNat)
  case atStart => exact ⟨0, by omega, rfl, Lib.hid (fun i h => by omega), H0⟩
  case round =>
    obtain ⟨p, hp, rfl, HP, HR⟩ := hrel
    have hways : (∃ h : p < m, (sb a)[p]? = (sb b)[p]?) ∨ (∃ h : p < m, (sb a)[p]? ≠ (sb b)[p]?) ∨ ¬ p < m := by
      by_cases h : p < m
      · by_cases h2 : (sb a)[p]? = (sb b)[p]?
        · exact .inl ⟨h, h2⟩
        · exact .inr (.inl ⟨h, h2⟩)
      · exact .inr (.inr h)
    have HRN : Hid (∀ n, Below B w (wr.drewN n)) := fun n => below_drewN HR.out n
    rcases hways with ⟨hlt, heq⟩ | ⟨hlt, hne⟩ | hge
    case inl =>
      have hpa : p < a.size := by omega
      have hpb : p < b.size := by omega
      have h1 : (p : Int) < (m : Int) := by omega
      have h2 : (p : Int) < (a.size : Int) := by omega
      have h3 : (p : Int) < (b.size : Int) := by omega
      have hd : decide ((p : Int) < (m : Int)) = true := by simp only [decide_eq_true_eq]; omega
      have hq : ((((a[p]'hpa).toNat : Nat) : Int) == (((b[p]'hpb).toNat : Nat) : Int)) = true := by
        rw [sb_get a p hpa, sb_get b p hpb] at heq
        simpa using heq
      have HP2 : Hid (∀ i, i < p + 1 → (sb a)[i]? = (sb b)[i]?) := by
        intro i hi
        by_cases e : i = p
        · subst e; exact heq
        · exact HP.out i (by omega)
      clear heq
      go_wp2_with fail
      go_quiet (fail)
      go_wp2
      go_roundw
      case rel => exact ⟨p + 1, by omega, by go_num, HP2, HRN.out _⟩
      case measure => simp [intOf]; omega
    case' inr.inl =>
      have hpa : p < a.size := by omega
      have hpb : p < b.size := by omega
      have h1 : (p : Int) < (m : Int) := by omega
      have h2 : (p : Int) < (a.size : Int) := by omega
      have h3 : (p : Int) < (b.size : Int) := by omega
      have hd : decide ((p : Int) < (m : Int)) = true := by simp only [decide_eq_true_eq]; omega
      have hq : ((((a[p]'hpa).toNat : Nat) : Int) == (((b[p]'hpb).toNat : Nat) : Int)) = false := by
        rw [sb_get a p hpa, sb_get b p hpb] at hne
        simpa using hne
      have HPRE : Hid (Pre (sb a) (sb b) p) := ⟨by rw [sb_len]; omega, by rw [sb_len]; omega, HP.out, .inr (.inr hne)⟩
      clear hne
      go_wp2_with fail
      go_quiet (fail)
    case' inr.inr =>
      have hpm : p = m := by omega
      have HPRE : Hid (Pre (sb a) (sb b) p) := ⟨by rw [sb_len]; omega, by rw [sb_len]; omega, HP.out, by rw [sb_len, sb_len, hpm]; rcases HM3.out with h | h <;> simp [h]⟩
      clear hpm
      have hd : decide ((p : Int) < (m : Int)) = false := by simp; omega
      have hdd : ¬ (p : Int) < (m : Int) := by omega
      go_wp2_with fail
      go_quiet (fail)
    all_goals
      go_wp2_with fail
      go_loopw [7] (fun u wr => ∃ (q : Nat), p + q ≤ m ∧ u = .int .i64 (q : Int) ∧ Hid (∀ i, i < q → (sb a)[a.size - 1 - i]? = (sb b)[b.size - 1 - i]?) ∧ Hid (Below B w wr)) (fun u _ => m - (intOf u).toNat)
      case atStart => exact ⟨0, by omega, rfl, Lib.hid (fun i h => by omega), HRN.out _⟩
      case round =>
        obtain ⟨q, hq5, rfl, HQ, HR2⟩ := hrel
        have hways : (∃ h : p + q < m, (sb a)[a.size - 1 - q]? = (sb b)[b.size - 1 - q]?) ∨ (∃ h : p + q < m, (sb a)[a.size - 1 - q]? ≠ (sb b)[b.size - 1 - q]?) ∨ ¬ p + q < m := by
          by_cases h : p + q < m
          · by_cases h2 : (sb a)[a.size - 1 - q]? = (sb b)[b.size - 1 - q]?
            · exact .inl ⟨h, h2⟩
            · exact .inr (.inl ⟨h, h2⟩)
          · exact .inr (.inr h)
        have HRN2 : Hid (∀ n, Below B w (wr.drewN n)) := fun n => below_drewN HR2.out n
        rcases hways with ⟨hlt2, heq⟩ | ⟨hlt2, hne⟩ | hge2
        case inl =>
          first
          | (exfalso; omega; done)
          | (obtain ⟨i1, hi1⟩ : ∃ i : Nat, (a.size : Int) - 1 - (q : Int) = (i : Int) := ⟨a.size - 1 - q, by omega⟩
             obtain ⟨i2, hi2⟩ : ∃ i : Nat, (b.size : Int) - 1 - (q : Int) = (i : Int) := ⟨b.size - 1 - q, by omega⟩
             have hia : i1 < a.size := by omega
             have hib : i2 < b.size := by omega
             have hia2 : (i1 : Int) < (a.size : Int) := by omega
             have hib2 : (i2 : Int) < (b.size : Int) := by omega
             rw [show a.size - 1 - q = i1 by omega, show b.size - 1 - q = i2 by omega] at heq
             have h1 : (q : Int) < (m : Int) - (p : Int) := by omega
             have hd : decide ((q : Int) < (m : Int) - (p : Int)) = true := by simp only [decide_eq_true_eq]; omega
             have hq : ((((a[i1]'hia).toNat : Nat) : Int) == (((b[i2]'hib).toNat : Nat) : Int)) = true := by
               rw [sb_get a i1 hia, sb_get b i2 hib] at heq
               simpa using heq
             have HQ2 : Hid (∀ i, i < q + 1 → (sb a)[a.size - 1 - i]? = (sb b)[b.size - 1 - i]?) := by
               intro i hi
               by_cases e : i = q
               · subst e
                 rw [show a.size - 1 - i = i1 by omega, show b.size - 1 - i = i2 by omega]; exact heq
               · exact HQ.out i (by omega)
             clear heq
             go_wp2_with fail
             go_quiet (fail)
             go_wp2
             go_roundw
             case rel => exact ⟨q + 1, by omega, by go_num, HQ2, HRN2.out _⟩
             case measure => simp [intOf]; omega)
        case' inr.inl =>
          first
          | (exfalso; omega; done)
          | (obtain ⟨i1, hi1⟩ : ∃ i : Nat, (a.size : Int) - 1 - (q : Int) = (i : Int) := ⟨a.size - 1 - q, by omega⟩
             obtain ⟨i2, hi2⟩ : ∃ i : Nat, (b.size : Int) - 1 - (q : Int) = (i : Int) := ⟨b.size - 1 - q, by omega⟩
             have hia : i1 < a.size := by omega
             have hib : i2 < b.size := by omega
             have hia2 : (i1 : Int) < (a.size : Int) := by omega
             have hib2 : (i2 : Int) < (b.size : Int) := by omega
             have HSUF : Hid (Suf (sb a) (sb b) p q) := ⟨by rw [sb_len]; omega, by rw [sb_len]; omega, by rw [sb_len, sb_len]; exact HQ.out, by rw [sb_len, sb_len]; exact .inr (.inr hne)⟩
             rw [show a.size - 1 - q = i1 by omega, show b.size - 1 - q = i2 by omega] at hne
             have h1 : (q : Int) < (m : Int) - (p : Int) := by omega
             have hd : decide ((q : Int) < (m : Int) - (p : Int)) = true := by simp only [decide_eq_true_eq]; omega
             have hq : ((((a[i1]'hia).toNat : Nat) : Int) == (((b[i2]'hib).toNat : Nat) : Int)) = false := by
               rw [sb_get a i1 hia, sb_get b i2 hib] at hne
               simpa using hne
             clear hne
             go_wp2_with fail
             go_quiet (fail)
             clear hi1 hi2 hq h1 hd)
        case' inr.inr =>
          have HSUF : Hid (Suf (sb a) (sb b) p q) := ⟨by rw [sb_len]; omega, by rw [sb_len]; omega, by rw [sb_len, sb_len]; exact HQ.out, by rw [sb_len, sb_len]; rcases HM3.out with h | h <;> omega⟩
          have hd : decide ((q : Int) < (m : Int) - (p : Int)) = false := by simp; omega
          have hdd : ¬ (q : Int) < (m : Int) - (p : Int) := by omega
          go_wp2_with fail
          go_quiet (fail)
        all_goals
          have hx1 : (p : Int) ≤ (b.size : Int) - (q : Int) := by omega
          have hx2 : (b.size : Int) - (q : Int) ≤ (b.size : Int) := by omega
          go_wp2_with fail
          rename_i nq
          go_ret
          obtain ⟨hs1, hs2⟩ := And.intro HPRE.out HSUF.out
          have hbl := HRN2.out nq
          refine ⟨p, q, hs1, hs2, some ⟨wr.heap.size, 0, none⟩, 1, rfl, ?_, ?_⟩
          · refine ⟨by simp, by omega, (fun h => by cases h), .inr ⟨_, 0, rfl, by rw [World.size_alloc]; exact Nat.lt_succ_self _, fun k hk i hi => ?_⟩⟩
            obtain rfl : k = 0 := by simpa using hk
            have bk := Blk.new (wr.drewN nq) 84 #[.int .i64 (p : Int), .int .i64 ((a.size : Int) - (q : Int)), .string (b.extract p (b.size - q))]
            rw [Nat.zero_mul, Nat.add_zero, Nat.zero_add, show wr.heap.size = (wr.drewN nq).heap.size from rfl, bk.cell i]
            have hf : ((a.size - q : Nat) : Int) = (a.size : Int) - (q : Int) := by omega
            simp only [eg, er, dif, sb_len, Er.vals, List.getElem?_toArray, List.getElem?_cons_zero, Option.getD_some]
            rw [hf, show b.size - q - p = (b.size - q) - p from rfl, bs_cut]
          · have hw : Below B w ((wr.drewN nq).alloc (.cells #[.int .i64 (p : Int), .int .i64 ((a.size : Int) - (q : Int)), .string (b.extract p (b.size - q))] 84)) := hbl.alloc (by have := hbl.size; have := HB.out; omega) _
            rw [HB.out]
            exact hw

set_option maxRecDepth 100000 in
theorem pdiff_same (a : ByteArray) (w : World) :
    Calls Tryz.prog 60 #[.string a, .string a] w fun e w' => e = .returned (.slice none 0 0) ∧ Below w.heap.size w w' := by
  have hq0 : (a.toList == a.toList) = true := by simp
  have H := Lib.hid (Below.refl w.heap.size w)
  go_enter Tryz.func60, Tryz.ntmps60
  go_wp2
  go_ret
  exact ⟨rfl, H.out⟩

/-- The list that Diff hands back. -/
def DifR (a b : ByteArray) (es : List Er) : Prop := (a = b ∧ es = []) ∨ (a ≠ b ∧ ∃ p q, Pre (sb a) (sb b) p ∧ Suf (sb a) (sb b) p q ∧ es = [er (dif (sb a) (sb b) p q)])
theorem DifR.det {a b : ByteArray} {es fs : List Er} (h : DifR a b es) (k : DifR a b fs) : es = fs := by
  rcases h with ⟨h1, h2⟩ | ⟨h1, p, q, h2, h3, h4⟩ <;> rcases k with ⟨k1, k2⟩ | ⟨k1, p', q', k2, k3, k4⟩
  · rw [h2, k2]
  · exact absurd h1 k1
  · exact absurd k1 h1
  · obtain rfl := h2.det k2
    obtain rfl := h3.det k3
    rw [h4, k4]
theorem pdiff_all (a b : ByteArray) (w : World) (ha : a.size ≤ 1000000) (hb : b.size ≤ 1000000) :
    Calls Tryz.prog 60 #[.string a, .string b] w fun e w' => ∃ es, DifR a b es ∧ NewE1 w es e w' := by
  by_cases hab : a = b
  · subst hab
    refine (pdiff_same a w).mono ?_
    rintro e w' ⟨rfl, hb⟩
    exact ⟨[], .inl ⟨rfl, rfl⟩, none, 0, rfl, ES.none _ _, hb⟩
  · refine (pdiff_any a b w ha hb hab).mono ?_
    rintro e w' ⟨p, q, h1, h2, h3⟩
    exact ⟨_, .inr ⟨hab, p, q, h1, h2, rfl⟩, h3⟩
end Go.Proofs.YtkehgoailhpenaaGreat

/- The contract of around's closure: one edit for what is between two pieces, if it differs. Conditions: texts of at most 1000000000 bytes, at most 100000 edits. -/
namespace Go.Proofs.YtkehgoailhpenaaGreat
open Go.RowKit Go.Shelf
set_option linter.unusedVariables false

set_option maxRecDepth 100000 in
set_option maxHeartbeats 4000000 in
theorem rep_any (s u : ByteArray) (bf bu bq bs bl lo f q to e : Nat) (T : Nat → Prop) (es : List Er) (w : World) (hs : s.size ≤ 1000000000) (hu : u.size ≤ 1000000000) (hf : f ≤ to) (ht : to ≤ s.size) (hq : q ≤ e) (he : e ≤ u.size) (hn : es.length ≤ 100000)
    (kf : Boxed w bf 3 (.int .i64 (f : Int))) (ku : Boxed w bu 9 (.string u)) (kq : Boxed w bq 3 (.int .i64 (q : Int))) (ks : Boxed w bs 9 (.string s)) (hI : Iv bl lo T es w) (hlo : lo ≤ bl) :
    Calls Tryz.prog 88 #[.int .i64 (to : Int), .int .i64 (e : Int), .pointer (some ⟨bf, 0, none⟩), .pointer (some ⟨bu, 0, none⟩), .pointer (some ⟨bq, 0, none⟩), .pointer (some ⟨bs, 0, none⟩), .pointer (some ⟨bl, 0, none⟩)] w
      fun en w' => (∃ v, en = .returned v) ∧ (∃ T', Iv bl lo T' (es ++ gap s u f to q e) w' ∧ Rnd T T' w w') ∧ Below lo w w' := by
  obtain ⟨i3, hi3, jy0, jy1, jy2⟩ := info_parts infoEd
  have hlt := hI.lt
  have hI0 := hI
  obtain ⟨v, hk, hown, hvn, hT⟩ := hI
  have hkl := hk.lt
  have a0 := kf.cell; have a1 := ku.cell; have a2 := kq.cell; have a3 := ks.cell
  obtain ⟨x, hx⟩ : ∃ x, u.extract q e = x := ⟨_, rfl⟩
  obtain ⟨y, hy⟩ : ∃ y, s.extract f to = y := ⟨_, rfl⟩
  obtain ⟨W, hW⟩ : ∃ V, w.alloc (.cells #[.int .i64 (f : Int), .int .i64 (to : Int), .string x] 84) = V := ⟨_, rfl⟩
  have z0 := (kf.alloc (.cells #[.int .i64 0, .int .i64 0, .string ⟨#[]⟩] 84)).cell
  have z1 := (ku.alloc (.cells #[.int .i64 0, .int .i64 0, .string ⟨#[]⟩] 84)).cell
  have z2 := (kq.alloc (.cells #[.int .i64 0, .int .i64 0, .string ⟨#[]⟩] 84)).cell
  have HX := Lib.hid hx; have HY := Lib.hid hy
  go_enter Tryz.func88, Tryz.ntmps88
  go_wp2_with fail
  go_region
  have kW : Blk W w.heap.size 84 #[.int .i64 (f : Int), .int .i64 (to : Int), .string x] := by rw [← hW]; exact Blk.new _ _ _
  have bW : Below w.heap.size w W := by rw [← hW]; exact (Below.refl _ _).alloc (Nat.le_refl _) _
  have k0 : W.cell? ⟨w.heap.size, 0, none⟩ = some (.int .i64 (f : Int)) := by simpa using kW.cell 0
  have k1 : W.cell? ⟨w.heap.size, 1, none⟩ = some (.int .i64 (to : Int)) := by simpa using kW.cell 1
  have k2 : W.cell? ⟨w.heap.size, 2, none⟩ = some (.string x) := by simpa using kW.cell 2
  have f0 : W.cell? ⟨bf, 0, none⟩ = some (.int .i64 (f : Int)) := (bW.cell (p := ⟨bf, 0, none⟩) kf.lt).trans a0
  have f1 : W.cell? ⟨bs, 0, none⟩ = some (.string s) := (bW.cell (p := ⟨bs, 0, none⟩) ks.lt).trans a3
  have f2 : W.cell? ⟨bl, 0, none⟩ = some v := (bW.cell (p := ⟨bl, 0, none⟩) hkl).trans (by simpa using hk.cell 0)
  have HW := Lib.hid hW; have HBW := Lib.hid bW; have HKW := Lib.hid kW
  have hff : ((f : Int) == (f : Int)) = true := by simp
  have htt : ((to : Int) == (to : Int)) = true := by simp
  clear hW bW kW a0 a1 a2 a3 z0 z1 z2 hx
  by_cases hxy : x = y
  · have hq1 : (x.toList == y.toList) = true := by rw [hxy]; simp
    have hg : gap s u f to q e = [] := by unfold gap; rw [HX.out, HY.out, if_pos hxy]
    have HG := Lib.hid hg
    clear hg
    go_wp2_with fail
    go_region
    go_wp2_with fail
    have hF : Below w.heap.size w W.drew.drew := HBW.out.drew.drew
    refine bodyPost_end (results_none rfl _ _ _) rfl ?_
    refine ⟨⟨_, rfl⟩, ⟨T, ?_, Rnd.of_below hF⟩, hF.mono (by omega)⟩
    rw [HG.out, List.append_nil]
    exact hI0.oth (Oth.of_below hF : Oth T 0 w _)
  · have hq1 : (x.toList == y.toList) = false := str_ne hxy
    have hg : gap s u f to q e = [⟨(f : Int), (to : Int), x⟩] := by unfold gap; rw [HX.out, HY.out, if_neg hxy]
    have HG := Lib.hid hg
    have HOW : Hid (World.ownsRow (W.alloc (.cells #[.int .i64 (f : Int), .int .i64 (to : Int), .string x] 84)).drew.drew lo 84 3 v es.length (rv es)) := own_same hown (fun g hg => (HBW.out.alloc HBW.out.size _).drew.drew.block g (hown.lt g hg).2)
    clear hg
    go_wp2_with fail
    go_region
    have HCN : Hid (∀ j z, ([.int .i64 (f : Int), .int .i64 (to : Int), .string x] : List Value)[j]? = some z → World.cell? (W.alloc (.cells #[.int .i64 (f : Int), .int .i64 (to : Int), .string x] 84)).drew.drew ((⟨W.heap.size, 0, none⟩ : Addr).add j) = some z) := cells_news W [.int .i64 (f : Int), .int .i64 (to : Int), .string x] _
    have HK9 : Hid (∀ w6, ((W.alloc (.cells #[.int .i64 (f : Int), .int .i64 (to : Int), .string x] 84)).drew.drew).grownBy w6 v.ownBlock → Blk w6 bl 38 #[v]) := fun w6 hg => by
      have b1 : Below W.heap.size W (W.alloc (.cells #[.int .i64 (f : Int), .int .i64 (to : Int), .string x] 84)).drew.drew := ((Below.refl _ W).alloc (Nat.le_refl _) _).drew.drew
      have hz := b1.size
      have hz2 := HBW.out.size
      have h1 : Blk W bl 38 #[v] := hk.same (HBW.out.block bl hkl)
      exact (h1.same (b1.block bl (by omega))).same (hg.block bl (by omega) (fun e => hvn e.symm))
    go_wp2_with (at_builtin; refine wpList_append_own_at _ rfl _ _ 38 rfl lo 84 i3 (.agg #[.int .i64 0, .int .i64 0, .string ⟨#[]⟩]) 3 32 Tryz.underlying38 hi3 jy0 jy1 jy2 rfl (by decide) v es.length (rv es) rfl HOW.out ⟨W.heap.size, 0, none⟩ 1 1 [.int .i64 (f : Int), .int .i64 (to : Int), .string x] rfl rfl HCN.out (fun x hx => by simp at hx; rcases hx with rfl | rfl | rfl <;> rfl) (by unfold maxLen; omega) (by omega) (by have := HBW.out.size; have := hown.1; show lo ≤ (World.alloc W _).heap.size; rw [World.size_alloc]; omega) ?_; intro v' w6 hown6 hgrow6 _ hat6; obtain ⟨ao, co, rfl⟩ := own_slice hown6; have hk6 := HK9.out w6 hgrow6; have c8 : w6.cell? ⟨bl, 0, none⟩ = some v := (by simpa using hk6.cell 0); have f8 := hk6.frozen 0)
    have hb1 : Below w.heap.size w (W.alloc (.cells #[.int .i64 (f : Int), .int .i64 (to : Int), .string x] 84)).drew.drew := (HBW.out.alloc HBW.out.size _).drew.drew
    obtain ⟨T', hI', hR'⟩ := Iv.step (e := ⟨(f : Int), (to : Int), x⟩) hk hvn hT hown hb1 hown6 hgrow6 hat6
    have hF7 : Below lo w (w6.setCell ⟨bl, 0, none⟩ (.slice ao (es.length + 1) co)) := ((hb1.mono (by omega)).grown hgrow6 (by have := hb1.size; omega) (fun g hg => (hown.lt g hg).1)).setCell (p := ⟨bl, 0, none⟩) hlo _
    refine bodyPost_end (results_none rfl _ _ _) rfl ?_
    refine ⟨⟨_, rfl⟩, ⟨T', ?_, hR'⟩, hF7⟩
    rw [HG.out]
    exact hI'

end Go.Proofs.YtkehgoailhpenaaGreat

/- The contract of around: the edits around the pieces that are kept. Conditions: texts of at most 1000000000 bytes, at most 20000 pieces, in order. -/
namespace Go.Proofs.YtkehgoailhpenaaGreat
open Go.RowKit Go.Shelf
set_option linter.unusedVariables false
attribute [local go_sem] Oper.semAt_some

theorem Giv.on {P : Program} {g : Nat} {lb : Array Value} {encs : Nat → Array Value} {N : Nat} {R : Nat → Prop} {w w' : World} (h : Giv P g lb encs N R w) (hb : Below w.heap.size w w') : Giv P g lb encs N R w' :=
  fun l J T₀ W hW => h l J T₀ W (hb.trans (hW.mono hb.size))
theorem gap_len (s u : ByteArray) (f t q r : Nat) : (gap s u f t q r).length ≤ 1 := by
  unfold gap
  split <;> simp
theorem arl_len {s u : ByteArray} : ∀ {K : List Kp} {f q : Nat}, (arl s u f q K).length ≤ K.length + 1 := by
  intro K
  induction K with
  | nil => intro f q; exact gap_len _ _ _ _ _ _
  | cons p K ih => intro f q; simp only [arl, List.length_append, List.length_cons]; have := gap_len s u f p.f q p.q; have := ih (f := p.f + p.m) (q := p.q + p.m); omega
theorem pg_map {s : ByteArray} {K : List Kp} {k : Nat} (h : k < K.length) : pg (K.map (Kp.pc s)) k = Kp.pc s K[k] := by
  unfold pg
  rw [List.getElem?_map, List.getElem?_eq_getElem h]
  rfl

/-- The state of around's loop. -/
def ArI (b0 : Nat) (T₀ : Nat → Prop) (s u : ByteArray) (K : List Kp) (w W0 : World) (k : Nat) (T : Nat → Prop) (A : World) : Prop :=
  ∃ (f q : Nat) (E : List Er) (TI : Nat → Prop), Iv (b0 + 2) b0 TI E A ∧ Boxed A (b0 + 3) 3 (.int .i64 (f : Int)) ∧ Boxed A (b0 + 4) 3 (.int .i64 (q : Int)) ∧ (∀ j, T j ↔ (TI j ∨ j = b0 + 3 ∨ j = b0 + 4)) ∧ ¬ TI (b0 + 3) ∧ ¬ TI (b0 + 4) ∧
    E ++ arl s u f q (K.drop k) = arl s u 0 0 K ∧ Ordk s.size u.size f q (K.drop k) ∧ E.length ≤ k ∧ Below b0 w A ∧ Rnd T₀ T W0 A
theorem ArI.oth {b0 : Nat} {T₀ : Nat → Prop} {s u : ByteArray} {K : List Kp} {w W0 : World} (hw : w.heap.size = b0) (hz : b0 ≤ W0.heap.size) {k : Nat} {T : Nat → Prop} {A C : World} (h : ArI b0 T₀ s u K w W0 k T A) (ho : Oth T W0.heap.size A C) : ArI b0 T₀ s u K w W0 k T C := by
  obtain ⟨f, q, E, TI, h1, h2, h3, h4, h5, h6, h7, h8, h9, h10, h11⟩ := h
  have hA := h11.size
  refine ⟨f, q, E, TI, h1.oth (ho.mono (Nat.le_refl _) (fun j hj => (h4 j).2 (.inl hj))), ?_, ?_, h4, h5, h6, h7, h8, h9, h10.trans (ho.below hz (by omega)), ⟨Nat.le_trans h11.size ho.size, fun k hk hT => (ho.block k (by omega) (.inl hk)).trans (h11.block k hk hT), h11.grew⟩⟩
  · exact (ho.block (b0 + 3) h2.lt (.inr ((h4 _).2 (.inr (.inl rfl))))).trans h2
  · exact (ho.block (b0 + 4) h3.lt (.inr ((h4 _).2 (.inr (.inr rfl))))).trans h3
theorem ArI.lt {b0 : Nat} {T₀ : Nat → Prop} {s u : ByteArray} {K : List Kp} {w W0 : World} {k : Nat} {T : Nat → Prop} {A : World} (h : ArI b0 T₀ s u K w W0 k T A) : ∀ j, T j → j < A.heap.size := by
  obtain ⟨f, q, E, TI, h1, h2, h3, h4, _⟩ := h
  intro j hj
  rcases (h4 j).1 hj with h | rfl | rfl
  · exact h1.lt j h
  · exact h2.lt
  · exact h3.lt

set_option maxRecDepth 100000 in
set_option maxHeartbeats 4000000 in
theorem paround_any (s u : ByteArray) (lb : Array Value) (K : List Kp) (R : Nat → Prop) (w : World) (hs : s.size ≤ 1000000000) (hu : u.size ≤ 1000000000) (hK : K.length ≤ 20000)
    (hG : Giv Tryz.prog 89 lb (fun k => #[(pg (K.map (Kp.pc s)) k).val]) K.length R w) (hR : ∀ k, R k → k < w.heap.size) (hO : Ordk s.size u.size 0 0 K) :
    Calls Tryz.prog 75 #[.string s, .string u, .func (.func 89) #[] lb] w fun e w' => NewE1 w (arl s u 0 0 K) e w' := by
  obtain ⟨b0, hb0⟩ : ∃ b, w.heap.size = b := ⟨_, rfl⟩
  refine (callsIn_wide (n := 0)).1 ?_
  refine callsIn_of_wp_marks Tryz.func75 rfl trivial ?_ rfl
  simp only [Tryz.ntmps75, List.size_toArray, List.length_cons, List.length_nil, Nat.reduceAdd, Nat.reduceSub, Array.replicate_succ, Array.replicate_zero, List.push_toArray, List.append_toArray, List.nil_append, List.cons_append]
  obtain ⟨W0, hW0⟩ : ∃ V, ((((((w.alloc (.cells #[.string s] 9)).alloc (.cells #[.string u] 9)).alloc (.cells #[.slice none 0 0] 38)).alloc (.cells #[.int .i64 0] 3)).alloc (.cells #[.int .i64 0] 3)).alloc
    (.cells #[(.func (.func 88) #[] #[.pointer (some ⟨b0 + 1 + 1 + 1, 0, none⟩), .pointer (some ⟨b0 + 1, 0, none⟩), .pointer (some ⟨b0 + 1 + 1 + 1 + 1, 0, none⟩), .pointer (some ⟨b0, 0, none⟩), .pointer (some ⟨b0 + 1 + 1, 0, none⟩)])] 140)) = V := ⟨_, rfl⟩
  have hz0 : W0.heap.size = b0 + 6 := by rw [← hW0, ← hb0]; simp
  have hB0 : Below b0 w W0 := by rw [← hW0, ← hb0]; exact (((((((Below.refl _ _).alloc (Nat.le_refl _) _).alloc (by simp) _).alloc (by simp; omega) _).alloc (by simp; omega) _).alloc (by simp; omega) _).alloc (by simp; omega) _)
  have q0 : Boxed W0 b0 9 (.string s) := by rw [← hW0, ← hb0]; exact (((((Boxed.new _ _ _).alloc _).alloc _).alloc _).alloc _).alloc _
  have q1 : Boxed W0 (b0 + 1) 9 (.string u) := by
    rw [← hW0, ← hb0]
    have := Boxed.new (w.alloc (.cells #[.string s] 9)) 9 (.string u)
    rw [World.size_alloc] at this
    exact (((this.alloc _).alloc _).alloc _).alloc _
  have q2 : Blk W0 (b0 + 2) 38 #[.slice none 0 0] := by
    rw [← hW0, ← hb0]
    have := Blk.new ((w.alloc (.cells #[.string s] 9)).alloc (.cells #[.string u] 9)) 38 #[.slice none 0 0]
    rw [World.size_alloc, World.size_alloc] at this
    exact ((this.alloc _).alloc _).alloc _
  have q3 : Boxed W0 (b0 + 3) 3 (.int .i64 0) := by
    rw [← hW0, ← hb0]
    have := Boxed.new (((w.alloc (.cells #[.string s] 9)).alloc (.cells #[.string u] 9)).alloc (.cells #[.slice none 0 0] 38)) 3 (.int .i64 0)
    rw [World.size_alloc, World.size_alloc, World.size_alloc] at this
    exact (this.alloc _).alloc _
  have q4 : Boxed W0 (b0 + 4) 3 (.int .i64 0) := by
    rw [← hW0, ← hb0]
    have := Boxed.new ((((w.alloc (.cells #[.string s] 9)).alloc (.cells #[.string u] 9)).alloc (.cells #[.slice none 0 0] 38)).alloc (.cells #[.int .i64 0] 3)) 3 (.int .i64 0)
    rw [World.size_alloc, World.size_alloc, World.size_alloc, World.size_alloc] at this
    exact this.alloc _
  have q5 : Boxed W0 (b0 + 5) 140 (.func (.func 88) #[] #[.pointer (some ⟨b0 + 1 + 1 + 1, 0, none⟩), .pointer (some ⟨b0 + 1, 0, none⟩), .pointer (some ⟨b0 + 1 + 1 + 1 + 1, 0, none⟩), .pointer (some ⟨b0, 0, none⟩), .pointer (some ⟨b0 + 1 + 1, 0, none⟩)]) := by
    rw [← hW0]
    have := Boxed.new (((((w.alloc (.cells #[.string s] 9)).alloc (.cells #[.string u] 9)).alloc (.cells #[.slice none 0 0] 38)).alloc (.cells #[.int .i64 0] 3)).alloc (.cells #[.int .i64 0] 3)) 140 (.func (.func 88) #[] #[.pointer (some ⟨b0 + 1 + 1 + 1, 0, none⟩), .pointer (some ⟨b0 + 1, 0, none⟩), .pointer (some ⟨b0 + 1 + 1 + 1 + 1, 0, none⟩), .pointer (some ⟨b0, 0, none⟩), .pointer (some ⟨b0 + 1 + 1, 0, none⟩)])
    rw [World.size_alloc, World.size_alloc, World.size_alloc, World.size_alloc, World.size_alloc, hb0] at this
    exact this
  have hG0 := hG.on (by rw [hb0]; exact hB0)
  obtain ⟨T₀, hT₀⟩ : ∃ T : Nat → Prop, (fun j => j = b0 + 2 ∨ j = b0 + 3 ∨ j = b0 + 4) = T := ⟨_, rfl⟩
  have hT0 : ∀ j, T₀ j ↔ (j = b0 + 2 ∨ j = b0 + 3 ∨ j = b0 + 4) := fun j => by rw [← hT₀]
  have hI0 : ArI b0 T₀ s u K w W0 0 T₀ W0 := ⟨0, 0, [], fun j => j = b0 + 2, ⟨.slice none 0 0, q2, World.ownsRow_nil _ _ _ _, by simp [Value.ownBlock], fun j => by simp [Value.ownBlock]⟩, q3, q4, hT0, by omega, by omega, by simp, by simpa using hO, by simp, hB0, Rnd.refl _ _⟩
  have HW0 := Lib.hid hW0; have HB0 := Lib.hid hb0; have HT0 := Lib.hid hT0; have HI0 := Lib.hid hI0; have HG0 := Lib.hid hG0; have HR := Lib.hid hR
  have Q0 := Lib.hid q0; have Q1 := Lib.hid q1; have Q5 := Lib.hid q5
  clear hT₀ hT0 hI0 hG0 hR q0 q1 q2 q3 q4 q5 hG hO hB0 hW0
  gi_wp2_with fail
  rw [HW0.out]
  refine wpIn_giv (gf := 89) (lb := lb) rfl (enters_of Tryz.func89 (by kernel_rfl) rfl)
    HG0.out (fun _ => rfl) (ArI b0 T₀ s u K w W0) (fun k T A C hi ho => hi.oth hb0 (by omega) ho) (fun k T A hi => hi.lt)
    T₀ (fun k hk => ⟨by have := (HT0.out k).1 hk; omega, fun h => by have := (HT0.out k).1 hk; have := HR.out k h; omega⟩) HI0.out
    (fun k B => { tmps := #[.string s, .string u, .func (.func 89) #[] lb, .pointer (some ⟨b0, 0, none⟩), .pointer (some ⟨b0 + 1, 0, none⟩), undef, .slice none 0 0, .pointer (some ⟨b0 + 1 + 1, 0, none⟩), .pointer (some ⟨b0 + 1 + 1 + 1, 0, none⟩), .pointer (some ⟨b0 + 1 + 1 + 1 + 1, 0, none⟩), .pointer (some ⟨b0 + 1 + 1 + 1 + 1 + 1, 0, none⟩), .pointer (some ⟨B, 0, none⟩),
      (.func (.func 88) #[] #[.pointer (some ⟨b0 + 1 + 1 + 1, 0, none⟩), .pointer (some ⟨b0 + 1, 0, none⟩), .pointer (some ⟨b0 + 1 + 1 + 1 + 1, 0, none⟩), .pointer (some ⟨b0, 0, none⟩), .pointer (some ⟨b0 + 1 + 1, 0, none⟩)]), .func (.func 89) #[] lb, (pg (K.map (Kp.pc s)) k).val, undef, undef, undef, undef, undef, undef, undef, undef, undef, undef, undef, undef, undef, undef, undef, undef, undef], defers := [] })
    (fun k => (pg (K.map (Kp.pc s)) k).cells) 103 ?assign ?body ?done
  case assign =>
    intro l' k A K hK
    simp only [Pc.val, Pc.cells] at hK ⊢
    gi_wp2
    exact hK
  case body =>
    rintro l' k T B A hk hl hlB hBk hTB hl' hTl hi
    rw [pg_map hk] at hBk ⊢
    obtain ⟨f, q, E, TI, h1, h2, h3, h4, h5, h6, h7, h8, h9, h10, h11⟩ := hi
    rw [List.drop_eq_getElem_cons hk] at h7 h8
    obtain ⟨p, hp⟩ : ∃ p, K[k] = p := ⟨_, rfl⟩
    rw [hp] at h7 h8 hBk ⊢
    obtain ⟨o1, o2, o3, o4, o5⟩ := h8
    have hxs : (s.extract p.f (p.f + p.m)).size = p.m := by rw [cut_size (by omega) o3]; omega
    have hn : ∀ j, j = b0 ∨ j = b0 + 1 ∨ j = b0 + 5 → ¬ T₀ j := fun j hj h => by have := (HT0.out j).1 h; omega
    have r0 : Boxed A b0 9 (.string s) := (h11.block b0 (by omega) (hn _ (.inl rfl))).trans Q0.out
    have r1 : Boxed A (b0 + 1) 9 (.string u) := (h11.block (b0 + 1) (by omega) (hn _ (.inr (.inl rfl)))).trans Q1.out
    have r5 : Boxed A (b0 + 5) 140 (.func (.func 88) #[] #[.pointer (some ⟨b0 + 1 + 1 + 1, 0, none⟩), .pointer (some ⟨b0 + 1, 0, none⟩), .pointer (some ⟨b0 + 1 + 1 + 1 + 1, 0, none⟩), .pointer (some ⟨b0, 0, none⟩), .pointer (some ⟨b0 + 1 + 1, 0, none⟩)]) := (h11.block (b0 + 5) (by omega) (hn _ (.inr (.inr rfl)))).trans Q5.out
    have c5 := r5.cell
    obtain ⟨x, hx⟩ : ∃ x, s.extract p.f (p.f + p.m) = x := ⟨_, rfl⟩
    simp only [Kp.pc, Pc.cells, Pc.val, hx] at hBk ⊢
    rw [hx] at hxs
    obtain ⟨u0, u1, u2, u3, u4⟩ := cells5 hBk
    have CR := Lib.hid (rep_any s u (b0 + 1 + 1 + 1) (b0 + 1) (b0 + 1 + 1 + 1 + 1) b0 (b0 + 1 + 1) b0 f q p.f p.q TI E A hs hu o1 (by omega) o2 (by omega) (by omega) h2 r1 h3 r0 h1 (by omega))
    have H7 := Lib.hid h7; have H10 := Lib.hid h10; have H11 := Lib.hid h11; have H4 := Lib.hid h4; have HBK := Lib.hid hBk; have H2 := Lib.hid h2; have H3 := Lib.hid h3; have HTB := Lib.hid hTB; have H5 := Lib.hid h5; have H6 := Lib.hid h6; have O5 := Lib.hid o5
    have hzA := h11.size
    clear h1 h2 h3 h4 h5 h6 h7 h10 h11 r0 r1 r5 hn hBk hl' hTl hTB hx hp o5
    gi_wp2_with (refine ⟨trivial, rfl, ?_⟩; gi_at_call 88; refine (CallsIn.inRound l' (callsIn_wide.2 CR.out)).mono ?_; rintro e w1 ⟨⟨rv, rfl⟩, ⟨T', hI', hr'⟩, hb'⟩)
    have hT4 : ∀ j, TI j → T j := fun j h => (H4.out j).2 (.inl h)
    have k5 : Blk w1 B 103 #[.int .i64 (p.f : Int), .int .i64 ((p.f + p.m : Nat) : Int), .int .i64 (p.q : Int), .string x, .bool true] := HBK.out.same (hr'.block B HBK.out.lt (fun h => HTB.out (hT4 _ h)))
    have kf : Boxed w1 (b0 + 3) 3 (.int .i64 (f : Int)) := (hr'.block _ H2.out.lt H5.out).trans H2.out
    have kq : Boxed w1 (b0 + 4) 3 (.int .i64 (q : Int)) := (hr'.block _ H3.out.lt H6.out).trans H3.out
    have KW : Hid (∀ V, Below w1.heap.size w1 V → Blk V B 103 #[.int .i64 (p.f : Int), .int .i64 ((p.f + p.m : Nat) : Int), .int .i64 (p.q : Int), .string x, .bool true] ∧ Blk V (b0 + 3) 3 #[.int .i64 (f : Int)] ∧ Blk V (b0 + 4) 3 #[.int .i64 (q : Int)]) := fun V hV =>
      ⟨k5.same (hV.block _ k5.lt), (hV.block _ kf.lt).trans kf, (hV.block _ kq.lt).trans kq⟩
    have HFIN : Hid (∀ V, Below w1.heap.size w1 V → ∃ T'', ArI b0 T₀ s u K w W0 (k + 1) T'' ((V.setCell ⟨b0 + 3, 0, none⟩ (.int .i64 ((p.f + p.m : Nat) : Int))).setCell ⟨b0 + 4, 0, none⟩ (.int .i64 ((p.q + p.m : Nat) : Int))) ∧ Rnd T T'' A ((V.setCell ⟨b0 + 3, 0, none⟩ (.int .i64 ((p.f + p.m : Nat) : Int))).setCell ⟨b0 + 4, 0, none⟩ (.int .i64 ((p.q + p.m : Nat) : Int)))) := fun V hV => by
      have hgr : ∀ j, T' j → TI j ∨ A.heap.size ≤ j := hr'.grew
      have n3 : ¬ T' (b0 + 3) := fun h => (hgr _ h).elim H5.out (fun e => by omega)
      have n4 : ¬ T' (b0 + 4) := fun h => (hgr _ h).elim H6.out (fun e => by omega)
      have ho : ∀ j, j ≠ b0 + 3 → j ≠ b0 + 4 → ((V.setCell ⟨b0 + 3, 0, none⟩ (.int .i64 ((p.f + p.m : Nat) : Int))).setCell ⟨b0 + 4, 0, none⟩ (.int .i64 ((p.q + p.m : Nat) : Int))).heap[j]? = V.heap[j]? := fun j h3 h4 =>
        (Below.heap_setCell _ _ _ j (fun e => h4 (by simpa using e))).trans (Below.heap_setCell _ _ _ j (fun e => h3 (by simpa using e)))
      obtain ⟨m5, mf, mq⟩ := KW.out V hV
      have hz := hV.size
      have hz1 := hr'.size
      have hzs : ((V.setCell ⟨b0 + 3, 0, none⟩ (.int .i64 ((p.f + p.m : Nat) : Int))).setCell ⟨b0 + 4, 0, none⟩ (.int .i64 ((p.q + p.m : Nat) : Int))).heap.size = V.heap.size := by simp [World.setCell]
      obtain ⟨W', hW'⟩ : ∃ W', ((V.setCell ⟨b0 + 3, 0, none⟩ (.int .i64 ((p.f + p.m : Nat) : Int))).setCell ⟨b0 + 4, 0, none⟩ (.int .i64 ((p.q + p.m : Nat) : Int))) = W' := ⟨_, rfl⟩
      have g3 : Boxed W' (b0 + 3) 3 (.int .i64 ((p.f + p.m : Nat) : Int)) := by
        rw [← hW']
        have h1 : Blk (V.setCell ⟨b0 + 3, 0, none⟩ (.int .i64 ((p.f + p.m : Nat) : Int))) (b0 + 3) 3 #[.int .i64 ((p.f + p.m : Nat) : Int)] := by simpa using mf.set 0 (.int .i64 ((p.f + p.m : Nat) : Int))
        exact (Below.heap_setCell _ _ _ (b0 + 3) (fun e => by simp at e)).trans h1
      have g4 : Boxed W' (b0 + 4) 3 (.int .i64 ((p.q + p.m : Nat) : Int)) := by
        rw [← hW']
        have h0 : Blk (V.setCell ⟨b0 + 3, 0, none⟩ (.int .i64 ((p.f + p.m : Nat) : Int))) (b0 + 4) 3 #[.int .i64 (q : Int)] := (Below.heap_setCell _ _ _ (b0 + 4) (fun e => by simp at e)).trans mq
        have h1 : Blk ((V.setCell ⟨b0 + 3, 0, none⟩ (.int .i64 ((p.f + p.m : Nat) : Int))).setCell ⟨b0 + 4, 0, none⟩ (.int .i64 ((p.q + p.m : Nat) : Int))) (b0 + 4) 3 #[.int .i64 ((p.q + p.m : Nat) : Int)] := by simpa using h0.set 0 (.int .i64 ((p.q + p.m : Nat) : Int))
        exact h1
      have hBw : Below b0 w W' := by
        rw [← hW']
        exact ((H10.out.trans (hb'.trans (hV.mono (by omega)))).setCell (p := ⟨b0 + 3, 0, none⟩) (by show b0 ≤ b0 + 3; omega) _).setCell (p := ⟨b0 + 4, 0, none⟩) (by show b0 ≤ b0 + 4; omega) _
      rw [hW'] at ho hzs ⊢
      have hR : Rnd T (fun j => T' j ∨ j = b0 + 3 ∨ j = b0 + 4) A W' := by
        refine ⟨by omega, fun j hj hT => ?_, fun j hj => ?_⟩
        · have ht := fun h => hT ((H4.out j).2 h)
          rw [ho j (fun e => ht (.inr (.inl e))) (fun e => ht (.inr (.inr e))), hV.block j (by omega), hr'.block j hj (fun h => ht (.inl h))]
        · rcases hj with h | h
          · exact (hgr j h).imp (fun h => (H4.out j).2 (.inl h)) id
          · exact .inl ((H4.out j).2 (.inr h))
      refine ⟨fun j => T' j ∨ j = b0 + 3 ∨ j = b0 + 4, ⟨p.f + p.m, p.q + p.m, E ++ gap s u f p.f q p.q, T', ?_, g3, g4, fun j => Iff.rfl, n3, n4, ?_, O5.out, ?_, hBw, H11.out.trans hR⟩, hR⟩
      · refine hI'.keep (fun j hj => ?_)
        rw [ho j (fun e => n3 (e ▸ hj)) (fun e => n4 (e ▸ hj)), hV.block j (hI'.lt j hj)]
      · have := H7.out
        simp only [arl] at this
        rw [List.append_assoc]
        exact this
      · rw [List.length_append]
        have := gap_len s u f p.f q p.q
        omega
    have CE := Lib.hid (fun V => end_any ⟨p.f, ((p.f + p.m : Nat) : Int), p.q, x, true⟩ V (by simp only; omega) (by simp only; omega))
    simp only [Pc.val, hxs] at CE
    obtain ⟨m5, mf, mq⟩ := KW.out w1 (Below.refl _ _)
    obtain ⟨u0, u1, u2, u3, u4⟩ := cells5 m5
    have f3 := mf.frozen 0
    have f4 := mq.frozen 0
    have c3 : w1.cell? ⟨b0 + 3, 0, none⟩ = some (.int .i64 (f : Int)) := by simpa using mf.cell 0
    have c4 : w1.cell? ⟨b0 + 4, 0, none⟩ = some (.int .i64 (q : Int)) := by simpa using mq.cell 0
    have hmx : Tryz.prog.follows .mixedOrders = true := by kernel_rfl
    clear hI' hr' hb' k5 kf kq m5 mf mq hT4
    gi_region_with_o (first | (refine ⟨trivial, rfl, ?_⟩; gi_at_call 72; refine (CallsIn.inRound l' (callsIn_wide.2 (CE.out _))).mono ?_; rintro e w2 ⟨rfl, b2⟩; have hb2 := (Below.refl w1.heap.size w1).drew.trans b2; obtain ⟨m5, mf, mq⟩ := KW.out w2 hb2; obtain ⟨u0, u1, u2, u3, u4⟩ := cells5 m5; have f3 := mf.frozen 0; have f4 := mq.frozen 0; have c3 : w2.cell? ⟨b0 + 3, 0, none⟩ = some (.int .i64 (f : Int)) := (by simpa using mf.cell 0); have c4 : w2.cell? ⟨b0 + 4, 0, none⟩ = some (.int .i64 (q : Int)) := (by simpa using mq.cell 0)))
    all_goals
      have hfin := HFIN.out w2 hb2
      simp only [Int.natCast_add] at hfin
      exact hfin
  case done =>
    rintro T A hA hi hTw hKK
    obtain ⟨f, q, E, TI, h1, h2, h3, h4, h5, h6, h7, h8, h9, h10, h11⟩ := hi
    rw [List.drop_length] at h7 h8
    obtain ⟨o1, o2⟩ := h8
    have hn : ∀ j, j = b0 ∨ j = b0 + 1 ∨ j = b0 + 5 → ¬ T₀ j := fun j hj h => by have := (HT0.out j).1 h; omega
    have r0 : Boxed A b0 9 (.string s) := (h11.block b0 (by omega) (hn _ (.inl rfl))).trans Q0.out
    have r1 : Boxed A (b0 + 1) 9 (.string u) := (h11.block (b0 + 1) (by omega) (hn _ (.inr (.inl rfl)))).trans Q1.out
    have r5 : Boxed A (b0 + 5) 140 (.func (.func 88) #[] #[.pointer (some ⟨b0 + 1 + 1 + 1, 0, none⟩), .pointer (some ⟨b0 + 1, 0, none⟩), .pointer (some ⟨b0 + 1 + 1 + 1 + 1, 0, none⟩), .pointer (some ⟨b0, 0, none⟩), .pointer (some ⟨b0 + 1 + 1, 0, none⟩)]) := (h11.block (b0 + 5) (by omega) (hn _ (.inr (.inr rfl)))).trans Q5.out
    have c0 := r0.cell
    have c1 := r1.cell
    have c5 := r5.cell
    have CR := Lib.hid (rep_any s u (b0 + 1 + 1 + 1) (b0 + 1) (b0 + 1 + 1 + 1 + 1) b0 (b0 + 1 + 1) b0 f q s.size u.size TI E A hs hu o1 (Nat.le_refl _) o2 (Nat.le_refl _) (by omega) h2 r1 h3 r0 h1 (by omega))
    have h7' : E ++ gap s u f s.size q u.size = arl s u 0 0 K := h7
    have H7 := Lib.hid h7'; have H10 := Lib.hid h10; have HKK := Lib.hid hKK
    have hTI : ¬ TI W0.heap.size := fun h => hTw ((h4 _).2 (.inl h))
    clear h1 h2 h3 h4 h7 h7' h10 h11 hKK r0 r1 r5 hn
    gi_wp2_with (refine ⟨trivial, rfl, ?_⟩; gi_at_call 88; refine (callsIn_wide.2 CR.out).mono ?_; rintro e w1 ⟨⟨rv, rfl⟩, ⟨T', hI', hr'⟩, hb'⟩; rw [H7.out] at hI'; obtain ⟨v', hk', hown', hn', hT'⟩ := hI'; obtain ⟨_, ao, co, rfl, hES⟩ := es_of_own hown'; have c7 : w1.cell? ⟨b0 + 1 + 1, 0, none⟩ = _ := hk'.cell 0; simp only [List.getElem?_toArray, List.getElem?_cons_zero] at c7)
    have hTn : ¬ T' W0.heap.size := fun h => (hr'.grew _ h).elim hTI (fun e => by omega)
    have hd : w1.heap[W0.heap.size]? = some (.deferred (some [])) := (hr'.block _ (by omega) hTI).trans HKK.out
    have hown2 := own_same (C := w1.putObj W0.heap.size (.deferred none)) hown' (fun g hg => World.putObj_heap_other (fun e => hTn (e ▸ (hT' g).2 (.inr hg))))
    obtain ⟨_, a2, c2, heq, hES2⟩ := es_of_own hown2
    cases heq
    have hF : Below w.heap.size w (w1.putObj W0.heap.size (.deferred none)) := by
      rw [hb0]
      exact (H10.out.trans hb').trans ⟨rfl, rfl, rfl, by simp, fun k hk => World.putObj_heap_other (by omega)⟩
    rw [hz0] at hd hES2 hF
    refine ⟨by simp, .inl ⟨_, _, rfl, run_takeDeferred hd, ?_⟩⟩
    exact ⟨_, results_tmp rfl _ _ _, _, _, rfl, hES2, hF⟩

end Go.Proofs.YtkehgoailhpenaaGreat

/- The contract of the program's Compose. Conditions: texts of at most 1000000 bytes, lists of at most 1000 edits. -/
namespace Go.Proofs.YtkehgoailhpenaaGreat
open Go.RowKit Go.Shelf
set_option linter.unusedVariables false

/-- The error of a composition, and its edits. -/
def cmE (s : ByteArray) (es1 es2 : List Er) : Int :=
  if vErr (s.size : Int) es1 = 0 then (if vErr ((apS s es1).size : Int) es2 = 0 then (if 64 < (cmpl (sb s) (ees es1) (ees es2)).length then 4 else 0) else vErr ((apS s es1).size : Int) es2) else vErr (s.size : Int) es1
def cmS (s : ByteArray) (es1 es2 : List Er) : List Er := if cmE s es1 es2 = 0 then ers (cmpl (sb s) (ees es1) (ees es2)) else []
theorem ers_ees {l : List Er} (h : ∀ e ∈ l, 0 ≤ e.f ∧ 0 ≤ e.t) : ers (ees l) = l := by
  unfold ers ees
  rw [List.map_map]
  conv => rhs; rw [← List.map_id l]
  refine List.map_congr_left fun e he => ?_
  obtain ⟨f, t, x⟩ := e
  obtain ⟨h1, h2⟩ := h _ he
  simp only at h1 h2
  simp only [Function.comp, er, Er.ee, bs_sb, id]
  congr 1 <;> omega
theorem arl_pos {s u : ByteArray} : ∀ {K : List Kp} {f q : Nat}, ∀ e ∈ arl s u f q K, 0 ≤ e.f ∧ 0 ≤ e.t := by
  have hg : ∀ f t q r, ∀ e ∈ gap s u f t q r, 0 ≤ e.f ∧ 0 ≤ e.t := by
    intro f t q r e he
    unfold gap at he
    split at he
    · simp at he
    · simp only [List.mem_singleton] at he
      subst he
      exact ⟨by simp only; omega, by simp only; omega⟩
  intro K
  induction K with
  | nil => intro f q e he; exact hg _ _ _ _ e he
  | cons p K ih =>
    intro f q e he
    simp only [arl, List.mem_append] at he
    exact he.elim (hg _ _ _ _ e) (ih e)
theorem apS_sb {s : ByteArray} {es : List Er} (h : vErr (s.size : Int) es = 0) : sb (apS s es) = appl (sb s) 0 (ees es) := apS_ok h

set_option maxRecDepth 100000 in
set_option maxHeartbeats 4000000 in
theorem pcompose_any (s : ByteArray) (a b : Option Addr) (c1 c2 : Nat) (es1 es2 : List Er) (w : World) (hs : s.size ≤ 1000000) (ht : (apS s es1).size ≤ 1000000) (hu : (apS (apS s es1) es2).size ≤ 1000000) (hn1 : es1.length ≤ 1000) (hn2 : es2.length ≤ 1000)
    (hf1 : ∀ e ∈ es1, e.Fit) (hf2 : ∀ e ∈ es2, e.Fit) (hS1 : ES w.heap.size w a c1 es1) (hS2 : ES w.heap.size w b c2 es2) :
    Calls Tryz.prog 59 #[.string s, .slice a es1.length c1, .slice b es2.length c2] w fun e w' => NewES w (cmS s es1 es2) (cmE s es1 es2) e w' := by
  have A1 := papply_any s a c1 es1 w (by omega) hn1 hf1 hS1
  obtain ⟨t, htt⟩ : ∃ t, apS s es1 = t := ⟨_, rfl⟩
  obtain ⟨u, huu⟩ : ∃ u, apS t es2 = u := ⟨_, rfl⟩
  have A2 := fun W (hW : Below w.heap.size w W) => papply_any t b c2 es2 W (by rw [← htt]; omega) hn2 hf2 (hS2.on hW)
  obtain ⟨v1, hv1⟩ : ∃ v, vErr (s.size : Int) es1 = v := ⟨_, rfl⟩
  obtain ⟨v2, hv2⟩ : ∃ v, vErr (t.size : Int) es2 = v := ⟨_, rfl⟩
  rw [htt] at ht hu
  rw [huu] at hu
  simp only [huu, hv2] at A2
  rw [htt, hv1] at A1
  obtain ⟨n1, hl1⟩ : ∃ n, es1.length = n := ⟨_, rfl⟩
  obtain ⟨n2, hl2⟩ : ∃ n, es2.length = n := ⟨_, rfl⟩
  simp only [hl2] at A2
  rw [hl1] at A1
  rw [hl1, hl2]
  obtain ⟨E, hE⟩ : ∃ E, cmE s es1 es2 = E := ⟨_, rfl⟩
  obtain ⟨C, hC⟩ : ∃ C, cmS s es1 es2 = C := ⟨_, rfl⟩
  rw [hE, hC]
  have hE2 := hE
  unfold cmE at hE2
  rw [hv1, htt, hv2] at hE2
  have CA1 := Lib.hid A1; have CA2 := Lib.hid A2
  clear A1 A2
  by_cases h1 : v1 = 0
  · subst h1
    rw [if_pos rfl] at hE2
    by_cases h2 : v2 = 0
    · subst h2
      rw [if_pos rfl] at hE2
      obtain ⟨K, k1, k2, k3⟩ := kept_comp (s := s) (t := t) (u := u) hv1 hv2 (by rw [← htt]; exact apS_ok hv1) (by rw [← huu]; exact apS_ok hv2)
      have hKl : K.length ≤ 20000 := by
        have h3 := congrArg List.length k1
        rw [List.length_map] at h3
        have h4 := List.length_filter_le (·.k) (kbl (prl s 0 0 es1) (prl t 0 0 es2))
        rw [kbl_len, prl_len, prl_len, hl1, hl2] at h4
        have g1 := (vErr_ok hv1).1
        have g2 := (vErr_ok hv2).1
        have h5 : (2 * n2 + 1) * (2 * n1 + 1) ≤ 129 * 129 := Nat.mul_le_mul (by omega) (by omega)
        omega
      have hcm : arl s u 0 0 K = ers (cmpl (sb s) (ees es1) (ees es2)) := by rw [← k3, ers_ees arl_pos]
      obtain ⟨D, hD⟩ : ∃ D, arl s u 0 0 K = D := ⟨_, rfl⟩
      have hDl : (cmpl (sb s) (ees es1) (ees es2)).length = D.length := by rw [← ers_len, ← hcm, hD]
      rw [hDl] at hE2
      have hC2 : C = if E = 0 then D else [] := by rw [← hC]; unfold cmS; rw [hE, ← hcm, hD]
      have hx1 : ∀ e ∈ es1, e.x.size ≤ 100000 := fun e he => (hf1 e he).x
      have hx2 : ∀ e ∈ es2, e.x.size ≤ 100000 := fun e he => (hf2 e he).x
      have HG : Hid (∀ W, Below w.heap.size w W → ∀ V, ((((W.alloc (.cells #[.string s] 9)).alloc (.cells #[.slice a n1 c1] 38)).alloc (.cells #[.string t] 9)).alloc (.cells #[.slice b n2 c2] 38)) = V →
          Calls Tryz.prog 75 #[.string s, .string u, .func (.func 89) #[] #[.pointer (some ⟨W.heap.size + 2, 0, none⟩), .pointer (some ⟨W.heap.size + 3, 0, none⟩), .pointer (some ⟨W.heap.size, 0, none⟩), .pointer (some ⟨W.heap.size + 1, 0, none⟩)]] V fun e w' => ∃ ad cd, e = .returned (.slice ad D.length cd) ∧ ES w'.heap.size w' ad cd D ∧ Below w.heap.size w w') := fun W hW V hV => by
        have hVs : V.heap.size = W.heap.size + 4 := by rw [← hV]; simp
        have hB : Below W.heap.size W V := by rw [← hV]; exact ((((Below.refl _ _).alloc (Nat.le_refl _) _).alloc (by simp) _).alloc (by simp; omega) _).alloc (by simp; omega) _
        have q0 : Boxed V W.heap.size 9 (.string s) := by rw [← hV]; exact (((Boxed.new _ _ _).alloc _).alloc _).alloc _
        have q1 : Boxed V (W.heap.size + 1) 38 (.slice a n1 c1) := by
          rw [← hV]
          have := Boxed.new (W.alloc (.cells #[.string s] 9)) 38 (.slice a n1 c1)
          rw [World.size_alloc] at this
          exact (this.alloc _).alloc _
        have q2 : Boxed V (W.heap.size + 2) 9 (.string t) := by
          rw [← hV]
          have := Boxed.new ((W.alloc (.cells #[.string s] 9)).alloc (.cells #[.slice a n1 c1] 38)) 9 (.string t)
          rw [World.size_alloc, World.size_alloc] at this
          exact this.alloc _
        have q3 : Boxed V (W.heap.size + 3) 38 (.slice b n2 c2) := by
          rw [← hV]
          have := Boxed.new (((W.alloc (.cells #[.string s] 9)).alloc (.cells #[.slice a n1 c1] 38)).alloc (.cells #[.string t] 9)) 38 (.slice b n2 c2)
          rw [World.size_alloc, World.size_alloc, World.size_alloc] at this
          exact this
        have hwV : Below w.heap.size w V := hW.trans (hB.mono hW.size)
        have hg := kb_giv s t (W.heap.size + 2) (W.heap.size + 3) W.heap.size (W.heap.size + 1) a b c1 c2 es1 es2 V (by omega) (by omega) hv1 hv2 hx1 hx2 q2 (by rw [hl2]; exact q3) q0 (by rw [hl1]; exact q1) (hS1.on hwV) (hS2.on hwV)
        have hkb : KB s t es1 es2 = K.map (Kp.pc s) := k1
        rw [hkb, List.length_map] at hg
        have hRl : ∀ (x : Option Addr) (cx : Nat) (es : List Er), ES V.heap.size V x cx es → ∀ k, Rl x es.length k → k < V.heap.size := by
          intro x cx es h k hk
          obtain ⟨h0, off, ho⟩ := hk
          rcases h.cells with h3 | ⟨b', off', e1, e2, _⟩
          · omega
          · rw [ho] at e1; cases e1; exact e2
        have := paround_any s u _ K _ V (by omega) (by omega) hKl hg (by
          rintro k (rfl | rfl | h | h)
          · omega
          · omega
          · exact hRl a c1 es1 (hS1.on hwV) k h
          · exact hRl b c2 es2 (hS2.on hwV) k h) k2
        rw [hD] at this
        refine this.mono ?_
        rintro e w' ⟨ad, cd, rfl, hES, hb⟩
        exact ⟨ad, cd, rfl, hES, hwV.trans (hb.mono hwV.size)⟩
      have hdn : D.length ≤ 1000000 := by have := arl_len (s := s) (u := u) (K := K) (f := 0) (q := 0); rw [hD] at this; omega
      have HC := Lib.hid hC2; have HE := Lib.hid hE2
      clear hv1 hv2 hE hC hD hDl hcm hC2 k1 k2 k3 hx1 hx2 hf1 hf2 hS1 hS2 hE2 htt huu
      by_cases hlen : 64 < D.length
      · have hlen' : (64 : Int) < (D.length : Int) := by omega
        go_enter Tryz.func59, Tryz.ntmps59
        go_wp2_with fail
        refine CA1.out.mono ?_
        rintro e w1 ⟨rfl, b1⟩
        have B1 := Lib.hid b1
        clear b1
        go_wp2_with fail
        refine (CA2.out w1 B1.out).mono ?_
        rintro e w2 ⟨rfl, b2⟩
        have B2 := Lib.hid (B1.out.trans (b2.mono B1.out.size))
        clear b2
        go_wp2_with fail
        refine (kept_any s t a b n1 c1 n2 c2 w2).mono ?_
        rintro e w3 ⟨rfl, hw3⟩
        have CG := Lib.hid (HG.out w2 B2.out w3 hw3.symm)
        clear hw3
        go_wp2_with fail
        refine CG.out.mono ?_
        rintro e w4 ⟨ad, cd, rfl, hES, hb⟩
        have HF := Lib.hid (And.intro hES hb)
        clear hES hb
        go_wp2_with fail
        go_ret2
        have hE := HE.out
        rw [if_pos hlen] at hE
        have hC := HC.out
        rw [← hE, if_neg (by decide)] at hC
        rw [hC, ← hE]
        exact ⟨none, 0, rfl, ES.none _ _, HF.out.2⟩
      · have hlen' : ¬ (64 : Int) < (D.length : Int) := by omega
        go_enter Tryz.func59, Tryz.ntmps59
        go_wp2_with fail
        refine CA1.out.mono ?_
        rintro e w1 ⟨rfl, b1⟩
        have B1 := Lib.hid b1
        clear b1
        go_wp2_with fail
        refine (CA2.out w1 B1.out).mono ?_
        rintro e w2 ⟨rfl, b2⟩
        have B2 := Lib.hid (B1.out.trans (b2.mono B1.out.size))
        clear b2
        go_wp2_with fail
        refine (kept_any s t a b n1 c1 n2 c2 w2).mono ?_
        rintro e w3 ⟨rfl, hw3⟩
        have CG := Lib.hid (HG.out w2 B2.out w3 hw3.symm)
        clear hw3
        go_wp2_with fail
        refine CG.out.mono ?_
        rintro e w4 ⟨ad, cd, rfl, hES, hb⟩
        have HF := Lib.hid (And.intro hES hb)
        clear hES hb
        go_wp2_with fail
        go_ret2
        have hE := HE.out
        rw [if_neg hlen] at hE
        have hC := HC.out
        rw [← hE, if_pos rfl] at hC
        rw [hC, ← hE]
        exact ⟨ad, cd, rfl, HF.out.1, HF.out.2⟩
    · rw [if_neg h2] at hE2
      have hC2 : C = [] := by rw [← hC]; unfold cmS; rw [hE, ← hE2, if_neg h2]
      have HC := Lib.hid hC2; have HE := Lib.hid hE2
      have hq : (v2 != 0) = true := by simp [h2]
      clear hv1 hv2 hE hC hC2 hf1 hf2 hS1 hS2 hE2 htt huu
      go_enter Tryz.func59, Tryz.ntmps59
      go_wp2_with fail
      refine CA1.out.mono ?_
      rintro e w1 ⟨rfl, b1⟩
      have B1 := Lib.hid b1
      clear b1
      go_wp2_with fail
      refine (CA2.out w1 B1.out).mono ?_
      rintro e w2 ⟨rfl, b2⟩
      have B2 := Lib.hid (B1.out.trans (b2.mono B1.out.size))
      clear b2
      go_wp2_with fail
      go_ret2
      rw [HC.out, ← HE.out]
      exact ⟨none, 0, rfl, ES.none _ _, B2.out⟩
  · rw [if_neg h1] at hE2
    have hC2 : C = [] := by rw [← hC]; unfold cmS; rw [hE, ← hE2, if_neg h1]
    have HC := Lib.hid hC2; have HE := Lib.hid hE2
    have hq : (v1 != 0) = true := by simp [h1]
    clear hv1 hv2 hE hC hC2 hf1 hf2 hS1 hS2 hE2 htt huu
    go_enter Tryz.func59, Tryz.ntmps59
    go_wp2_with fail
    refine CA1.out.mono ?_
    rintro e w1 ⟨rfl, b1⟩
    have B1 := Lib.hid b1
    clear b1
    go_wp2_with fail
    go_ret2
    rw [HC.out, ← HE.out]
    exact ⟨none, 0, rfl, ES.none _ _, B1.out⟩

end Go.Proofs.YtkehgoailhpenaaGreat

/- The mathematics of Compose: how many edits a composition has. It has no conditions. -/
namespace Go.Proofs.YtkehgoailhpenaaGreat
open Go.RowKit Go.Shelf
set_option linter.unusedVariables false

theorem comm_k (p1 p2 : Pc) : (comm p1 p2).k = true ↔ (p1.k = true ∧ p2.k = true ∧ max p1.q p2.f < min (p1.q + p1.x.size) p2.t) := by
  unfold comm
  split
  · rename_i h; exact ⟨fun _ => h, fun _ => rfl⟩
  · rename_i h; exact ⟨fun e => (by cases e), fun e => absurd e h⟩
theorem cnt_disj {A B C : Pc → Bool} (h1 : ∀ x, A x = true → C x = true ∧ B x = false) (h2 : ∀ x, B x = true → C x = true) (P : List Pc) : P.countP A + P.countP B ≤ P.countP C := by
  induction P with
  | nil => simp
  | cons x P ih =>
    rw [List.countP_cons, List.countP_cons, List.countP_cons]
    have a := h1 x
    have b := h2 x
    cases hA : A x
    · cases hB : B x
      · simp only [Bool.false_eq_true, if_false]; omega
      · have := b hB
        rw [this]
        simp only [Bool.false_eq_true, if_false, if_true]; omega
    · obtain ⟨c1, c2⟩ := a hA
      rw [c1, c2]
      simp only [Bool.false_eq_true, if_false, if_true]; omega
/-- How much one part of the second list keeps. -/
theorem in_len {s : ByteArray} {p2 : Pc} : ∀ {P : List Pc} {r : Nat}, Chn s r P →
    ((P.map fun p1 => comm p1 p2).filter (·.k)).length ≤ P.countP (fun p => p.k && decide (p2.f < p.q) && decide (p.q < p2.t)) + (if (r : Int) ≤ p2.f then 1 else 0) := by
  intro P
  induction P with
  | nil => intro r _; simp
  | cons p P ih =>
    intro r h
    obtain ⟨h1, _, h3⟩ := h
    have hi := ih h3
    rw [List.map_cons, List.filter_cons, List.countP_cons]
    by_cases hc : p.k = true ∧ p2.k = true ∧ max p.q p2.f < min (p.q + p.x.size) p2.t
    · rw [if_pos ((comm_k p p2).2 hc), List.length_cons]
      obtain ⟨c1, c2, c3⟩ := hc
      rw [if_neg (by omega)] at hi
      by_cases hr : (r : Int) ≤ p2.f
      · rw [if_pos hr]; omega
      · rw [if_neg hr]
        have : (p.k && decide (p2.f < p.q) && decide (p.q < p2.t)) = true := by
          rw [c1, decide_eq_true (by omega), decide_eq_true (by omega)]; rfl
        rw [if_pos this]; omega
    · rw [if_neg (fun e => hc ((comm_k p p2).1 e))]
      by_cases hr : ((r + p.x.size : Nat) : Int) ≤ p2.f
      · rw [if_pos hr] at hi
        have e1 : (if (r : Int) ≤ p2.f then 1 else 0) = (1 : Nat) := if_pos (by omega)
        rw [e1]; omega
      · rw [if_neg hr] at hi; omega
theorem out_len {s t : ByteArray} {P1 : List Pc} (h1 : Chn s 0 P1) : ∀ {es : List Er} {f q : Nat}, Vld t.size f (ees es) → (∀ e ∈ es, 0 ≤ e.f ∧ e.f ≤ e.t ∧ e.t ≤ (t.size : Int)) →
    ((kbl P1 (prl t f q es)).filter (·.k)).length ≤ P1.countP (fun p => p.k && decide ((f : Int) < p.q)) + es.length + 1 := by
  intro es
  induction es with
  | nil =>
    intro f q _ _
    have := in_len (p2 := ⟨f, t.size, q, t.extract f t.size, true⟩) h1
    simp only [prl, kbl, List.flatMap_cons, List.flatMap_nil, List.append_nil, List.length_nil]
    rw [if_pos (by simp only; omega)] at this
    have hm := cnt_disj (A := fun p : Pc => p.k && decide ((f : Int) < p.q) && decide (p.q < (t.size : Int))) (B := fun _ => false) (C := fun p => p.k && decide ((f : Int) < p.q)) (fun x hx => ⟨by simp only [Bool.and_eq_true] at hx ⊢; exact hx.1, rfl⟩) (fun x hx => by cases hx) P1
    simp only at this
    omega
  | cons e l ih =>
    intro f q hv hok
    obtain ⟨o1, o2, o3⟩ := hok e (by simp)
    obtain ⟨v1, v2, v3, v4⟩ := hv
    simp only [Er.ee] at v1 v2 v3 v4
    have hi := ih (f := e.t.toNat) (q := q + (e.f.toNat - f) + e.x.size) v4 (fun x hx => hok x (by simp [hx]))
    have ha := in_len (p2 := ⟨f, e.f, q, t.extract f e.f.toNat, true⟩) h1
    rw [if_pos (by simp only; omega)] at ha
    have hb : ((P1.map fun p1 => comm p1 ⟨e.f, e.t, (q : Int) + (e.f - f), e.x, false⟩).filter (·.k)) = [] := by
      rw [List.filter_eq_nil_iff]
      intro c hc
      obtain ⟨p1, _, rfl⟩ := List.mem_map.1 hc
      intro hk
      have := ((comm_k _ _).1 hk).2.1
      cases this
    have hk : kbl P1 (prl t f q (e :: l)) = (P1.map fun p1 => comm p1 ⟨f, e.f, q, t.extract f e.f.toNat, true⟩) ++ ((P1.map fun p1 => comm p1 ⟨e.f, e.t, (q : Int) + (e.f - f), e.x, false⟩) ++ kbl P1 (prl t e.t.toNat (q + (e.f.toNat - f) + e.x.size) l)) := rfl
    rw [hk, List.filter_append, List.filter_append, hb, List.nil_append, List.length_append, List.length_cons]
    have hm := cnt_disj (A := fun p : Pc => p.k && decide ((f : Int) < p.q) && decide (p.q < e.f)) (B := fun p => p.k && decide (((e.t.toNat : Nat) : Int) < p.q)) (C := fun p => p.k && decide ((f : Int) < p.q))
      (fun x hx => by
        simp only [Bool.and_eq_true, decide_eq_true_eq] at hx ⊢
        refine ⟨hx.1, ?_⟩
        rw [decide_eq_false (by omega), Bool.and_false])
      (fun x hx => by
        simp only [Bool.and_eq_true, decide_eq_true_eq] at hx ⊢
        exact ⟨hx.1, by omega⟩) P1
    simp only at ha
    omega
theorem prl_kept (s : ByteArray) : ∀ (es : List Er) (f q : Nat), (prl s f q es).countP (fun p => p.k) = es.length + 1 := by
  intro es
  induction es with
  | nil => intro f q; rfl
  | cons e l ih => intro f q; simp only [prl, List.countP_cons, ih, List.length_cons]; simp
/-- A composition has few edits. -/
theorem cmpl_len {s t : ByteArray} {a b : List Er} (ha : vErr (s.size : Int) a = 0) (hb : vErr (t.size : Int) b = 0) (ht : sb t = appl (sb s) 0 (ees a)) : (cmpl (sb s) (ees a) (ees b)).length ≤ a.length + b.length + 3 := by
  obtain ⟨u, hu⟩ : ∃ u, apS t b = u := ⟨_, rfl⟩
  obtain ⟨K, k1, k2, k3⟩ := kept_comp (s := s) (t := t) (u := u) ha hb ht (by rw [← hu]; exact apS_ok hb)
  rw [← k3, ees_len]
  have h1 := arl_len (s := s) (u := u) (K := K) (f := 0) (q := 0)
  have h2 := congrArg List.length k1
  rw [List.length_map] at h2
  obtain ⟨_, va, oa⟩ := vErr_ok ha
  obtain ⟨_, vb, ob⟩ := vErr_ok hb
  obtain ⟨_, c1⟩ := prl_seg (q := 0) va oa
  have h3 := out_len (t := t) c1 (q := 0) vb ob
  have h4 := cnt_disj (A := fun p : Pc => p.k && decide (((0 : Nat) : Int) < p.q)) (B := fun _ => false) (C := fun p => p.k) (fun x hx => ⟨by simp only [Bool.and_eq_true] at hx; exact hx.1, rfl⟩) (fun x hx => by cases hx) (prl s 0 0 a)
  rw [prl_kept] at h4
  omega

end Go.Proofs.YtkehgoailhpenaaGreat

/- The contract of the program's Map. Conditions: lists of at most 1000 edits whose offsets, like the offset, lie within 2^42 of 0. -/
namespace Go.Proofs.YtkehgoailhpenaaGreat
open Go.RowKit Go.Shelf
set_option linter.unusedVariables false

/-- The program's loop. -/
def mpP (off : Int) (af : Bool) : List Er → Int → Int
  | [], g => off + g
  | e :: l, g =>
    if e.f < off ∧ off < e.t then (if af then e.f + g + e.x.size else e.f + g)
    else if e.f = off ∧ e.t = off then (if af then mpP off af l (g + e.x.size) else mpP off af l g)
    else if e.t ≤ off then mpP off af l (g + ((e.x.size : Int) - (e.t - e.f)))
    else mpP off af l g
def mpV (es : List Er) (off : Int) (af : Bool) : Int := if vErr 9223372036854775807 es = 0 then mpP off af es 0 else off
def Near (n : Int) : Prop := -4398046511104 ≤ n ∧ n ≤ 4398046511104

theorem vErr_max {es : List Er} (h : vErr 9223372036854775807 es = 0) : es.length ≤ 64 ∧ ∀ e ∈ es, 0 ≤ e.f ∧ e.f ≤ e.t := by
  have h1 := vErr_ok (n := 9223372036854775807) h
  exact ⟨h1.1, fun e he => ⟨(h1.2.2 e he).1, (h1.2.2 e he).2.1⟩⟩

end Go.Proofs.YtkehgoailhpenaaGreat

/- The examples of the chapter hold. It has no conditions. -/
namespace Go.Proofs.YtkehgoailhpenaaGreat
open Go.RowKit Go.Shelf
set_option linter.unusedVariables false

def exS : ByteArray := ⟨#[97, 98, 99, 100]⟩
def exT : ByteArray := ⟨#[97, 120, 121, 99, 122, 100]⟩
def exE : List Er := [⟨1, 2, ⟨#[120, 121]⟩⟩, ⟨3, 3, ⟨#[122]⟩⟩]
theorem ex_err : vErr (exS.size : Int) exE = 0 := by decide +kernel
theorem ex_app : apS exS exE = exT := by
  apply sb_inj
  rw [apS_ok ex_err]
  decide +kernel
theorem ex_inv : ∃ e1 e2 : Er, ivS exS exE = [e1, e2] ∧ e2.f = 4 := by
  refine ⟨_, _, by unfold ivS; rw [if_pos ex_err]; rfl, ?_⟩
  decide +kernel
theorem ex_map1 : mpV exE 3 true = 5 := by decide +kernel
theorem ex_map2 : mpV exE 3 false = 4 := by decide +kernel
theorem ex_fit : ∀ e ∈ exE, e.Fit := by
  intro e he
  simp only [exE, List.mem_cons, List.not_mem_nil, or_false] at he
  rcases he with rfl | rfl <;> exact ⟨by decide, by decide, by decide, by decide, by decide⟩
theorem ex_near : ∀ e ∈ exE, Near e.f ∧ Near e.t := by
  intro e he
  simp only [exE, List.mem_cons, List.not_mem_nil, or_false] at he
  rcases he with rfl | rfl <;> exact ⟨⟨by decide, by decide⟩, ⟨by decide, by decide⟩⟩
theorem ex_dif {es : List Er} (h : DifR ⟨#[97, 97]⟩ ⟨#[97]⟩ es) : ∃ e : Er, es = [e] ∧ e.f = 1 := by
  have h1 : Pre (sb ⟨#[97, 97]⟩) (sb ⟨#[97]⟩) 1 := by
    refine ⟨by decide +kernel, by decide +kernel, fun i hi => ?_, .inr (.inl (by decide +kernel))⟩
    obtain rfl : i = 0 := by omega
    decide +kernel
  have h2 : Suf (sb ⟨#[97, 97]⟩) (sb ⟨#[97]⟩) 1 0 := ⟨by decide +kernel, by decide +kernel, fun i hi => by omega, .inr (.inl (by decide +kernel))⟩
  have h3 : (⟨#[97, 97]⟩ : ByteArray) ≠ ⟨#[97]⟩ := by decide +kernel
  have := h.det (.inr ⟨h3, 1, 0, h1, h2, rfl⟩)
  exact ⟨_, this, rfl⟩

end Go.Proofs.YtkehgoailhpenaaGreat

/- The contracts of the reference's Valid, Apply and Same (at equal lists). Conditions: texts of at most 10000000 bytes, lists of at most 1000 edits. -/
namespace Go.Proofs.YtkehgoailhpenaaGreat
open Go.RowKit Go.Shelf
set_option linter.unusedVariables false

/-- Where the edit before ends. -/
def endB (es : List Er) (k : Nat) : Int := if k = 0 then 0 else (eg es (k - 1)).t

set_option maxRecDepth 100000 in
set_option maxHeartbeats 4000000 in
theorem rvalid_any (s : ByteArray) (a : Option Addr) (cap : Nat) (es : List Er) (w : World) (hs : s.size ≤ 10000000) (hn : es.length ≤ 1000) (hfit : ∀ e ∈ es, e.Fit) (hS : ES w.heap.size w a cap es) :
    Calls Tryz.prog 62 #[.string s, .slice a es.length cap] w fun e w' => e = .returned (.int .i64 (vErr (s.size : Int) es)) ∧ Below w.heap.size w w' := by
  obtain ⟨n, hn'⟩ : ∃ n, es.length = n := ⟨_, rfl⟩
  obtain ⟨R, hR⟩ : ∃ R, vErr (s.size : Int) es = R := ⟨_, rfl⟩
  have hcap := hS.le
  rw [hR]
  rw [hn'] at hn hcap ⊢
  obtain ⟨B, hB⟩ : ∃ B, w.heap.size = B := ⟨_, rfl⟩
  by_cases hlim : 64 < n
  · have hl2 : (64 : Int) < (n : Int) := by omega
    have hRv : R = 4 := by rw [← hR]; unfold vErr; rw [if_pos (by omega)]
    clear hS hfit hR
    go_enter Tryz.func62, Tryz.ntmps62
    go_wp2
    go_ret
    exact ⟨by first | rfl | (rw [hRv]; rfl), Below.refl _ _⟩
  · have hl2 : ¬ (64 : Int) < (n : Int) := by omega
    have hRv : vE (s.size : Int) 0 es = R := by rw [← hR]; unfold vErr; rw [if_neg (by omega)]
    obtain ⟨b, off, hab, hcell⟩ := hS.cells.core
    rw [hn'] at hab hcell
    rw [hB] at hab
    have HE := Lib.hid hn'; have HAB := Lib.hid hab; have HC := Lib.hid hcell; have HB := Lib.hid hB; have HF := Lib.hid hfit
    have H0 : Hid (vE (s.size : Int) (endB es 0) (es.drop 0) = R) := hRv
    clear hS hfit hR hRv hab hcell hB hn'
    go_enter Tryz.func62, Tryz.ntmps62
    go_wp2_with fail
    go_loopw [5] (fun q wr => ∃ (k : Nat), k ≤ n ∧ q = .int .i64 (k : Int) ∧ Hid (∀ j, j < k → 0 ≤ (eg es j).t) ∧ Hid (vE (s.size : Int) (endB es k) (es.drop k) = R) ∧ Hid (Below B w wr)) (fun q _ => n - (intOf q).toNat)
    case atStart => exact ⟨0, by omega, rfl, Lib.hid (fun j h => by omega), H0, Below.refl _ _⟩
    case round =>
      obtain ⟨k, hk, rfl, HZ, HI, HR⟩ := hrel
      by_cases hlt : k < n
      · obtain ⟨ha, hbB⟩ := HAB.out.resolve_left (by omega)
        subst ha
        have hkl : k < es.length := by rw [HE.out]; exact hlt
        obtain ⟨c0, c1, c2⟩ := HC.out k hlt wr (HR.out.block b hbB)
        have hkk : (k : Int) < (n : Int) := by omega
        have hstep := HI.out
        rw [eg_drop hkl] at hstep
        simp only [vE] at hstep
        obtain ⟨fit1, fit2, fit3, fit4, _⟩ := HF.out _ (eg_mem hkl)
        have hend : endB es (k + 1) = (eg es k).t := by unfold endB; rw [if_neg (by omega)]; rfl
        obtain ⟨p, hp⟩ : ∃ p, endB es k = p := ⟨_, rfl⟩
        obtain ⟨x, hx⟩ : ∃ x, (eg es k).f = x := ⟨_, rfl⟩
        obtain ⟨y, hy⟩ : ∃ y, (eg es k).t = y := ⟨_, rfl⟩
        rw [hx, hy, hp] at hstep
        rw [hx] at c0 fit1 fit2
        rw [hy] at c1 fit3 fit4 hend
        have HY := Lib.hid hy; have HEND := Lib.hid hend; have HPP := Lib.hid hp
        clear hx hy c2 hend hp
        by_cases h1 : x < 0
        · have hr : R = 5 := by rw [← hstep, if_pos (.inl h1)]
          have hd : decide (x < 0) = true := by simp [h1]
          clear hstep
          go_wp2_with fail
          go_quiet (fail)
          go_wp2
          go_ret
          exact ⟨by first | rfl | (rw [hr]; rfl), by rw [HB.out]; first | exact below_drewN HR.out _ | exact below_drewN (below_drewN HR.out _) _⟩
        · have hd : decide (x < 0) = false := by simp; omega
          by_cases h2 : y < x
          · have hr : R = 5 := by rw [← hstep, if_pos (.inr (.inl h2))]
            have hd2 : decide (y < x) = true := by simp [h2]
            clear hstep
            go_wp2_with fail
            go_quiet (fail)
            go_wp2
            go_ret
            exact ⟨by first | rfl | (rw [hr]; rfl), by rw [HB.out]; first | exact below_drewN HR.out _ | exact below_drewN (below_drewN HR.out _) _⟩
          · have hd2 : decide (y < x) = false := by simp; omega
            by_cases h3 : (s.size : Int) < y
            · have hr : R = 5 := by rw [← hstep, if_pos (.inr (.inr h3))]
              have hd3 : decide ((s.size : Int) < y) = true := by simp [h3]
              clear hstep
              go_wp2_with fail
              go_quiet (fail)
              go_wp2
              go_ret
              exact ⟨by first | rfl | (rw [hr]; rfl), by rw [HB.out]; first | exact below_drewN HR.out _ | exact below_drewN (below_drewN HR.out _) _⟩
            · have hd3 : decide ((s.size : Int) < y) = false := by simp; omega
              rw [if_neg (by omega)] at hstep
              have HZ2 : Hid (∀ j, j < k + 1 → 0 ≤ (eg es j).t) := by
                intro j hj
                by_cases e : j = k
                · subst e; rw [HY.out]; omega
                · exact HZ.out j (by omega)
              by_cases hk0 : 0 < k
              · obtain ⟨j, rfl⟩ : ∃ j, k = j + 1 := ⟨k - 1, by omega⟩
                have hpz := HZ.out j (by omega)
                have hpe : p = (eg es j).t := by rw [← HPP.out]; unfold endB; rw [if_neg (by omega)]; rfl
                obtain ⟨_, d1, _⟩ := HC.out j (by omega) wr (HR.out.block b hbB)
                have hpfit := (HF.out _ (eg_mem (es := es) (k := j) (by omega)))
                obtain ⟨_, _, pf3, pf4, _⟩ := hpfit
                rw [← hpe] at d1 hpz pf3 pf4
                have hk1 : (0 : Int) < ((j + 1 : Nat) : Int) := by omega
                have hdk : decide ((0 : Int) < ((j + 1 : Nat) : Int)) = true := by simp only [decide_eq_true_eq]; omega
                have hj1 : IntKind.i64.wrap (((j + 1 : Nat) : Int) - 1) = (j : Int) := by simp [IntKind.wrap, IntKind.signed, IntKind.bits]; omega
                have hj2 : (j : Int) < (n : Int) := by omega
                have HPE := Lib.hid hpe
                clear hpe
                by_cases h4 : x < p
                · have hr : R = 1 := by rw [← hstep, if_pos h4]
                  have hd4 : decide (x < p) = true := by simp [h4]
                  clear hstep
                  go_wp2_with fail
                  go_quiet (fail)
                  go_wp2_with fail
                  go_quiet (fail)
                  go_wp2
                  go_ret
                  exact ⟨by first | rfl | (rw [hr]; rfl), by rw [HB.out]; first | exact below_drewN HR.out _ | exact below_drewN (below_drewN HR.out _) _⟩
                · have hd4 : decide (x < p) = false := by simp; omega
                  rw [if_neg h4] at hstep
                  have HS : Hid (vE (s.size : Int) (endB es (j + 1 + 1)) (es.drop (j + 1 + 1)) = R) := by rw [HEND.out]; exact hstep
                  clear hstep
                  go_wp2_with fail
                  go_quiet (fail)
                  go_wp2_with fail
                  go_quiet (fail)
                  go_wp2
                  go_roundw
                  case rel => exact ⟨j + 1 + 1, by omega, by go_num, HZ2, HS, below_drewN HR.out _⟩
                  case measure => simp [intOf]; omega
              · obtain rfl : k = 0 := by omega
                have hp0 : p = 0 := by rw [← HPP.out]; rfl
                rw [if_neg (by omega)] at hstep
                have hk1 : ¬ (0 : Int) < ((0 : Nat) : Int) := by omega
                have HS : Hid (vE (s.size : Int) (endB es (0 + 1)) (es.drop (0 + 1)) = R) := by rw [HEND.out]; exact hstep
                clear hstep hp0
                simp only [Nat.zero_mul, Nat.add_zero] at c0 c1
                have hkk0 : (0 : Int) < (n : Int) := by omega
                go_wp2_with fail
                go_quiet (fail)
                go_wp2_with fail
                go_quiet (fail)
                go_wp2
                go_roundw
                case rel => exact ⟨0 + 1, by omega, by go_num, HZ2, HS, below_drewN HR.out _⟩
                case measure => simp [intOf]; omega
      · obtain rfl : n = k := by omega
        have hr : R = 0 := by rw [← HI.out, List.drop_eq_nil_of_le (by rw [HE.out]; omega)]; rfl
        go_wp2
        go_ret
        exact ⟨by first | rfl | (rw [hr]; rfl), by rw [HB.out]; exact HR.out⟩

set_option maxRecDepth 100000 in
set_option maxHeartbeats 2000000 in
/-- Same, at two lists of the same edits. -/
theorem same_any (a a' : Option Addr) (cap cap' : Nat) (es : List Er) (w : World) (hn : es.length ≤ 1000) (hc : ES w.heap.size w a cap es) (hc' : ES w.heap.size w a' cap' es) :
    Calls Tryz.prog 28 #[.slice a es.length cap, .slice a' es.length cap'] w fun e w' => e = .returned (.bool true) ∧ Below w.heap.size w w' := by
  obtain ⟨n, hn'⟩ : ∃ n, es.length = n := ⟨_, rfl⟩
  obtain ⟨B, hB⟩ : ∃ B, w.heap.size = B := ⟨_, rfl⟩
  obtain ⟨b, off, hab, hcell⟩ := hc.cells.core
  obtain ⟨b', off', hab', hcell'⟩ := hc'.cells.core
  have hcap := hc.le
  have hcap' := hc'.le
  rw [hB] at hab hab'
  rw [hn'] at hab hab' hcell hcell' hcap hcap' hn ⊢
  have HAB := Lib.hid hab; have HC := Lib.hid hcell; have HAB' := Lib.hid hab'; have HC' := Lib.hid hcell'; have HB := Lib.hid hB
  have hq0 : ((n : Int) != (n : Int)) = false := by simp
  clear hc hc' hab hcell hab' hcell' hB
  go_enter Tryz.func28, Tryz.ntmps28
  go_wp2_with fail
  go_loopw [5] (fun q wr => ∃ k : Nat, k ≤ n ∧ q = .int .i64 (k : Int) ∧ Hid (Below B w wr)) (fun q _ => n - (intOf q).toNat)
  case atStart => exact ⟨0, by omega, rfl, Below.refl _ _⟩
  case round =>
    obtain ⟨k, hk, rfl, HR⟩ := hrel
    by_cases hlt : k < n
    · obtain ⟨ha, hbB⟩ := HAB.out.resolve_left (by omega)
      obtain ⟨ha', hbB'⟩ := HAB'.out.resolve_left (by omega)
      subst ha ha'
      obtain ⟨c0, c1, c2⟩ := HC.out k hlt wr (HR.out.block b hbB)
      obtain ⟨d0, d1, d2⟩ := HC'.out k hlt wr (HR.out.block b' hbB')
      have hkk : (k : Int) < (n : Int) := by omega
      go_wp2_with fail
      go_quiet (fail)
      go_wp2
      go_roundw
      case rel => exact ⟨k + 1, by omega, by go_num, below_drewN HR.out _⟩
      case measure => simp [intOf]; omega
    · obtain rfl : n = k := by omega
      go_wp2
      go_ret
      exact ⟨rfl, by rw [HB.out]; exact HR.out⟩

/-- The reference's text so far. -/
theorem sb_empty : sb ⟨#[]⟩ = [] := rfl
theorem sb_app (s t : ByteArray) : sb (s ++ t) = sb s ++ sb t := sb_add s t

set_option maxRecDepth 100000 in
set_option maxHeartbeats 4000000 in
theorem rapply_any (s : ByteArray) (a : Option Addr) (cap : Nat) (es : List Er) (w : World) (hs : s.size ≤ 10000000) (hn : es.length ≤ 1000) (hfit : ∀ e ∈ es, e.Fit) (hS : ES w.heap.size w a cap es) :
    Calls Tryz.prog 33 #[.string s, .slice a es.length cap] w fun e w' => e = .returned (.tuple #[.string (apS s es), .int .i64 (vErr (s.size : Int) es)]) ∧ Below w.heap.size w w' := by
  have CV := Lib.hid (rvalid_any s a cap es w hs hn hfit hS)
  obtain ⟨n, hn'⟩ : ∃ n, es.length = n := ⟨_, rfl⟩
  obtain ⟨R, hR⟩ : ∃ R, apS s es = R := ⟨_, rfl⟩
  have hcap := hS.le
  rw [hR]
  rw [hn'] at hn hcap CV ⊢
  obtain ⟨B, hB⟩ : ∃ B, w.heap.size = B := ⟨_, rfl⟩
  by_cases hv : vErr (s.size : Int) es = 0
  · obtain ⟨hlim, hvld, hpos⟩ := vErr_ok hv
    have hv0 : vE (s.size : Int) 0 es = 0 := by have := hv; unfold vErr at this; rwa [if_neg (by omega)] at this
    have hRv : sb R = appl (sb s) 0 (ees es) := by rw [← hR]; exact apS_ok hv
    obtain ⟨b, addr, hab, hcell⟩ := hS.cells.core
    rw [hn'] at hab hcell hlim
    rw [hB] at hab CV
    rw [hv] at CV ⊢
    have HE := Lib.hid hn'; have HAB := Lib.hid hab; have HC := Lib.hid hcell; have HB := Lib.hid hB; have HF := Lib.hid hfit; have HP := Lib.hid hpos
    have H0 : Hid (sb R = sb ⟨#[]⟩ ++ appl (sb s) 0 (ees (es.drop 0))) := hRv
    have HV0 : Hid (vE (s.size : Int) ((0 : Nat) : Int) (es.drop 0) = 0) := hv0
    clear hS hfit hR hRv hab hcell hB hn' hpos hv hv0 hvld
    go_enter Tryz.func33, Tryz.ntmps33
    go_wp2_with fail
    refine CV.out.mono ?_
    rintro e w0 ⟨rfl, hb0⟩
    have HB0 := Lib.hid hb0
    clear hb0 CV
    go_wp2_with fail
    go_loopw [7, 8, 9] (fun u v q wr => ∃ (k p : Nat) (z : ByteArray), k ≤ n ∧ p ≤ s.size ∧ z.size ≤ 10100000 * k ∧ u = .string z ∧ v = .int .i64 (p : Int) ∧ q = .int .i64 (k : Int) ∧ Hid (sb R = sb z ++ appl (sb s) p (ees (es.drop k))) ∧ Hid (vE (s.size : Int) (p : Int) (es.drop k) = 0) ∧ Hid (Below B w wr)) (fun _ _ q _ => n - (intOf q).toNat)
    case atStart => exact ⟨0, 0, ⟨#[]⟩, by omega, by omega, by simp [ByteArray.size], rfl, rfl, rfl, H0, HV0, HB0.out⟩
    case round =>
      obtain ⟨k, p, z, hk, hp, hz, rfl, rfl, rfl, HI, HV, HR⟩ := hrel
      by_cases hlt : k < n
      · obtain ⟨ha, hbB⟩ := HAB.out.resolve_left (by omega)
        subst ha
        have hkl : k < es.length := by rw [HE.out]; exact hlt
        obtain ⟨c0, c1, c2⟩ := HC.out k hlt wr (HR.out.block b hbB)
        have hkk : (k : Int) < (n : Int) := by omega
        have hstep := HV.out
        have hsb := HI.out
        rw [eg_drop hkl] at hstep hsb
        obtain ⟨hd0, hd1, hd2⟩ := HP.out _ (eg_mem hkl)
        have hxl := (HF.out _ (eg_mem hkl)).x
        rw [ees_cons] at hsb
        simp only [vE, appl, Er.ee] at hstep hsb
        obtain ⟨x, hx⟩ : ∃ x : Nat, (eg es k).f = (x : Int) := ⟨(eg es k).f.toNat, by omega⟩
        obtain ⟨y, hy⟩ : ∃ y : Nat, (eg es k).t = (y : Int) := ⟨(eg es k).t.toNat, by omega⟩
        obtain ⟨t, ht⟩ : ∃ t, (eg es k).x = t := ⟨_, rfl⟩
        rw [hx, hy, ht] at hsb
        rw [hx, hy] at hstep
        rw [hx] at c0 hd0 hd1
        rw [hy] at c1 hd1 hd2
        rw [ht] at c2 hxl
        simp only [Int.toNat_natCast] at hsb
        rw [if_neg (by omega)] at hstep
        by_cases hfx : (x : Int) < (p : Int)
        · rw [if_pos hfx] at hstep; omega
        rw [if_neg hfx] at hstep
        have hxp : (p : Int) ≤ (x : Int) := by omega
        have hxs : (x : Int) ≤ (s.size : Int) := by omega
        have hzx : (s.extract p x).size = x - p := by rw [ByteArray.size_extract]; omega
        have hz2 : (z ++ s.extract p x).size = z.size + (x - p) := by rw [ByteArray.size_append, hzx]
        have hs1 : z.size + (s.extract p x).size ≤ 9223372036854775807 := by omega
        have hs2 : (z ++ s.extract p x).size + t.size ≤ 9223372036854775807 := by omega
        have HS : Hid (sb R = sb (z ++ s.extract p x ++ t) ++ appl (sb s) y (ees (es.drop (k + 1)))) := Lib.hid (by
          rw [hsb, sb_app, sb_app, sb_cut]; simp)
        have HV2 : Hid (vE (s.size : Int) (y : Int) (es.drop (k + 1)) = 0) := hstep
        have hz3 : (z ++ s.extract p x ++ t).size ≤ 10100000 * (k + 1) := by rw [ByteArray.size_append, hz2]; omega
        clear hstep hsb hx hy ht
        go_wp2_with fail
        go_quiet (fail)
        go_wp2
        go_roundw
        case rel => exact ⟨k + 1, y, _, by omega, by omega, hz3, rfl, rfl, by go_num, HS, HV2, below_drewN HR.out _⟩
        case measure => simp [intOf]; omega
      · obtain rfl : n = k := by omega
        have hr := HI.out
        rw [List.drop_eq_nil_of_le (by rw [HE.out]; omega)] at hr
        have hRR : z ++ s.extract p s.size = R := by
          apply sb_inj
          rw [hr, sb_app, sb_cut]
          simp only [ees, List.map_nil, appl]
          rw [List.take_of_length_le (by rw [List.length_drop, sb_len]; exact Nat.le_refl _)]
        have hpz : (p : Int) ≤ (s.size : Int) := by omega
        have hzx : (s.extract p s.size).size = s.size - p := by rw [ByteArray.size_extract]; omega
        have hs1 : z.size + (s.extract p s.size).size ≤ 9223372036854775807 := by omega
        have HRR := Lib.hid hRR
        clear hr hRR
        go_wp2
        go_ret2
        exact ⟨by rw [← HRR.out]; rfl, by rw [HB.out]; exact HR.out⟩
  · have hap : apS s es = ⟨#[]⟩ := apS_bad hv
    have hRE : R = ⟨#[]⟩ := by rw [← hR, hap]
    subst hRE
    have HV := Lib.hid hv
    have hq : (vErr (s.size : Int) es != 0) = true := by simp [hv]
    generalize vErr (s.size : Int) es = er at CV HV hq hv ⊢
    clear hv hn' hS hfit hap hR
    go_enter Tryz.func33, Tryz.ntmps33
    go_wp2_with fail
    refine CV.out.mono ?_
    rintro e w1 ⟨rfl, hb1⟩
    go_wp2
    go_ret2
    exact ⟨rfl, hb1⟩

end Go.Proofs.YtkehgoailhpenaaGreat

/- The contract of the reference's Invert. Conditions: texts of at most 10000000 bytes, lists of at most 1000 edits. -/
namespace Go.Proofs.YtkehgoailhpenaaGreat
open Go.RowKit Go.Shelf
set_option linter.unusedVariables false


end Go.Proofs.YtkehgoailhpenaaGreat

/- Slices of edits by offsets that come in. It has no conditions. -/
namespace Go.Proofs.YtkehgoailhpenaaGreat
open Go.RowKit Go.Shelf Go.ChangeShapes
set_option linter.unusedVariables false

theorem i64_of_wf {x : Int} (h : (Lit.int .i64 x).wf = true) : -9223372036854775808 ≤ x ∧ x ≤ 9223372036854775807 := wf_i64 h
set_option maxRecDepth 100000 in
theorem open_er {H : Type} {enc : TypeId × Value → H} {w : World} {base : Nat} {spare : Nat → Bool} {held : Bool} {fuel : Nat} {cs : List Value} {x : DataW H × List MemPlace} (h : DataW.trod enc Tryz.prog w base spare held fuel 84 cs = some x) :
    ∃ p : Er, cs = p.vals ∧ p.Big := by
  obtain ⟨xs, n, _, _, hlen, hxl, hf⟩ := DataW.trod_struct Tryz.underlying84 h
  have c5 : Tryz.prog.cellsOf 84 = 3 := by kernel_rfl
  have c2 : Tryz.prog.cellsOf 3 = 1 := by kernel_rfl
  have c1 : Tryz.prog.cellsOf 9 = 1 := by kernel_rfl
  rw [c5] at hlen
  match cs, hlen with
  | [v0, v1, v2], _ =>
    match xs, hxl with
    | [z0, z1, z2], _ =>
      have g0 := hf 0 _ rfl
      have g1 := hf 1 _ rfl
      have g2 := hf 2 _ rfl
      simp [c2, c1] at g0 g1 g2
      obtain ⟨l, e0, _, w0⟩ := DataW.trod_int Tryz.underlying3 g0
      obtain ⟨u, e1, _, w1⟩ := DataW.trod_int Tryz.underlying3 g1
      obtain ⟨t, e2, _, h3⟩ := DataW.trod_string Tryz.underlying9 g2
      simp only [List.cons.injEq, and_true] at e0 e1 e2
      subst e0 e1 e2
      have a0 := wf_i64 w0
      have a1 := wf_i64 w1
      unfold maxLen at h3
      exact ⟨⟨l, u, t⟩, rfl, a0.1, a0.2, a1.1, a1.2, by show t.size ≤ 9223372036854775807; omega⟩
theorem add_add3 (b off x y : Nat) : ((⟨b, off, none⟩ : Addr).add x).add y = ⟨b, off + x + y, none⟩ := by
  by_cases hx : x = 0 <;> by_cases hy : y = 0 <;> simp [Addr.add, hx, hy]
/-- What the frame of a law tells of a slice of edits that came in. -/
def IsEs (w : World) (a : Option Addr) (len cap : Nat) : Prop :=
  ∃ es : List Er, es.length = len ∧ (∀ e ∈ es, e.Big) ∧ ES w.heap.size w a cap es
theorem eg_of (f : Nat → Er) (n k : Nat) (h : k < n) : eg ((List.range n).map f) k = f k := by
  simp [eg, h]
theorem open_es {H : Type} {enc : TypeId × Value → H} {W : World} {fuel : Nat} {a : Option Addr} {len cap : Nat} {x : DataW H × List MemPlace} (h : DataW.trod enc Tryz.prog W 0 (fun _ => true) true fuel 38 [.slice a len cap] = some x) : IsEs W a len cap := by
  have c5 : Tryz.prog.cellsOf 84 = 3 := by kernel_rfl
  rcases Deep.open_slice Tryz.underlying38 h with ⟨hcs, _⟩ | ⟨ad, l, c, m, n, D, Pl, hcs, _, hl, hm, hmm, _, hx⟩
  · simp only [List.cons.injEq, Value.slice.injEq, and_true] at hcs
    obtain ⟨rfl, rfl, rfl⟩ := hcs
    exact ⟨[], rfl, by simp, ES.none _ _⟩
  · simp only [List.cons.injEq, Value.slice.injEq, and_true] at hcs
    obtain ⟨rfl, rfl, rfl⟩ := hcs
    have hlm : len ≤ m := by rw [hmm]; simp; exact hl
    rw [c5] at hx
    have each : ∀ k, k < len → ∃ p : Er, p.Big ∧ ∀ i, i < 3 → W.cell? ((ad.add (k * 3)).add i) = p.vals[i]? := by
      intro k hk
      obtain ⟨cs', h1, h2⟩ := hx k (by omega)
      obtain ⟨_, _, hcell⟩ := World.cells?_some h1
      obtain ⟨p, rfl, hp⟩ := open_er h2
      exact ⟨p, hp, hcell⟩
    let f : Nat → Er := fun k => if hk : k < len then (each k hk).choose else dE
    have hfb : ∀ k, k < len → (f k).Big := fun k hk => by simp only [f, dif_pos hk]; exact (each k hk).choose_spec.1
    have hfc : ∀ k, k < len → ∀ i, i < 3 → W.cell? ((ad.add (k * 3)).add i) = (f k).vals[i]? := fun k hk => by simp only [f, dif_pos hk]; exact (each k hk).choose_spec.2
    have hln : ((List.range len).map f).length = len := by simp
    refine ⟨(List.range len).map f, hln, ?_, ?_⟩
    · intro e he
      obtain ⟨k, hk, rfl⟩ := List.mem_map.1 he
      exact hfb k (List.mem_range.1 hk)
    · refine ⟨by rw [hln]; exact hl, by unfold maxLen at hm; omega, (fun h => by cases h), ?_⟩
      by_cases h0 : len = 0
      · exact .inl (by rw [hln]; exact h0)
      · obtain ⟨b, off, spot⟩ := ad
        have hc0 := hfc 0 (by omega) 0 (by omega)
        have hspot : spot = none := by simpa [Addr.add] using World.cell?_spot hc0
        subst hspot
        have hlt : b < W.heap.size := by
          have := World.block_lt_of_cell? W _ hc0
          simpa [Addr.add] using this
        refine .inr ⟨b, off, rfl, hlt, fun k hk i hi => ?_⟩
        rw [hln] at hk
        rw [eg_of f len k hk, ← hfc k hk i hi, add_add3]

end Go.Proofs.YtkehgoailhpenaaGreat

/- The walk of EditDiff. It has no conditions. -/
namespace Go.Proofs.YtkehgoailhpenaaGreat
open Go.RowKit Go.Shelf
set_option linter.unusedVariables false

theorem sb_cut_at (s : ByteArray) (f t i : Nat) (h : f + i < t) (ht : t ≤ s.size) : (sb (s.extract f t))[i]? = (sb s)[f + i]? := by
  rw [sb_cut, List.getElem?_take, if_pos (by omega), List.getElem?_drop]
/-- What is known of the edit of Diff. -/
structure DifE (a b : ByteArray) (e : Er) : Prop where
  p : 0 ≤ e.f
  q : e.f ≤ e.t
  r : e.t ≤ (a.size : Int)
  ne : a.extract e.f.toNat e.t.toNat ≠ e.x
  fst : 0 < (a.extract e.f.toNat e.t.toNat).size → 0 < e.x.size → (sb (a.extract e.f.toNat e.t.toNat))[0]? ≠ (sb e.x)[0]?
  lst : 0 < (a.extract e.f.toNat e.t.toNat).size → 0 < e.x.size → (sb (a.extract e.f.toNat e.t.toNat))[(a.extract e.f.toNat e.t.toNat).size - 1]? ≠ (sb e.x)[e.x.size - 1]?
theorem difr_ok {a b : ByteArray} {es : List Er} (h : DifR a b es) (ha : a.size ≤ 1000) (hb : b.size ≤ 1000) :
    vErr (a.size : Int) es = 0 ∧ apS a es = b ∧ es.length ≤ 1 ∧ (∀ e ∈ es, e.Fit) ∧ ∀ e ∈ es, DifE a b e := by
  rcases h with ⟨rfl, rfl⟩ | ⟨hne, p, q, hp, hq, rfl⟩
  · refine ⟨rfl, ?_, by simp, by simp, by simp⟩
    apply sb_inj
    rw [apS_ok rfl]; rfl
  · have hvld := dif_vld hp hq
    have happ := dif_appl hp hq
    have hends := dif_ends hp hq
    have hdn := dif_ne hp hq (fun e => hne (sb_inj e))
    have hp1 := hp.1; have hp2 := hp.2.1; have hq1 := hq.1; have hq2 := hq.2.1
    rw [sb_len] at hp1 hp2 hq1 hq2
    rw [sb_len, sb_len] at hends hdn
    have hbyt : ∀ e ∈ [dif (sb a) (sb b) p q], Byt e.x := by
      intro e he
      simp only [List.mem_singleton] at he
      subst he
      exact ((sb_byt b).drop p).take _
    have hx : (er (dif (sb a) (sb b) p q)).x = b.extract p (b.size - q) := by
      simp only [er, dif, sb_len]
      exact bs_cut b p (b.size - q)
    have hf : (er (dif (sb a) (sb b) p q)).f = (p : Int) := rfl
    have ht : (er (dif (sb a) (sb b) p q)).t = ((a.size - q : Nat) : Int) := by simp only [er, dif, sb_len]
    have hv : vErr (a.size : Int) [er (dif (sb a) (sb b) p q)] = 0 := vErr_ers (l := [dif (sb a) (sb b) p q]) (by rw [sb_len] at hvld; exact hvld) (by simp) hbyt
    have hxs : (b.extract p (b.size - q)).size = b.size - q - p := by rw [ByteArray.size_extract]; omega
    have hos : (a.extract p (a.size - q)).size = a.size - q - p := by rw [ByteArray.size_extract]; omega
    refine ⟨hv, ?_, by simp, ?_, ?_⟩
    · apply sb_inj
      rw [apS_ok hv, show ees [er (dif (sb a) (sb b) p q)] = [dif (sb a) (sb b) p q] from ees_ers hbyt]
      exact happ
    · intro e he
      simp only [List.mem_singleton] at he
      subst he
      refine ⟨?_, ?_, ?_, ?_, ?_⟩
      · rw [hf]; omega
      · rw [hf]; omega
      · rw [ht]; omega
      · rw [ht]; omega
      · rw [hx, hxs]; omega
    · intro e he
      simp only [List.mem_singleton] at he
      subst he
      have hfst : 0 < a.size - q - p → 0 < b.size - q - p → (sb (a.extract p (a.size - q)))[0]? ≠ (sb (b.extract p (b.size - q)))[0]? := by
        intro h1 h2
        rw [sb_cut_at _ _ _ _ (by omega) (by omega), sb_cut_at _ _ _ _ (by omega) (by omega)]
        exact (hends (by omega) (by omega)).1
      have hlst : 0 < a.size - q - p → 0 < b.size - q - p → (sb (a.extract p (a.size - q)))[a.size - q - p - 1]? ≠ (sb (b.extract p (b.size - q)))[b.size - q - p - 1]? := by
        intro h1 h2
        rw [sb_cut_at _ _ _ _ (by omega) (by omega), sb_cut_at _ _ _ _ (by omega) (by omega)]
        rw [show p + (a.size - q - p - 1) = a.size - 1 - q by omega, show p + (b.size - q - p - 1) = b.size - 1 - q by omega]
        exact (hends (by omega) (by omega)).2
      refine ⟨by rw [hf]; omega, by rw [hf, ht]; omega, by rw [ht]; omega, ?_, ?_, ?_⟩
      · rw [hf, ht, hx, Int.toNat_natCast, Int.toNat_natCast]
        intro he
        have hsz := congrArg ByteArray.size he
        rw [hxs, hos] at hsz
        by_cases h0 : 0 < a.size - q - p
        · exact hfst h0 (by omega) (by rw [he])
        · exact hdn ⟨by omega, by omega⟩
      · rw [hf, ht, hx, Int.toNat_natCast, Int.toNat_natCast, hos, hxs]; exact hfst
      · rw [hf, ht, hx, Int.toNat_natCast, Int.toNat_natCast, hos, hxs]; exact hlst

theorem emp_true {s : ByteArray} (h : s.size = 0) : (s.toList == []) = true := by
  rw [ByteArray.toList_eq]
  have : s.data.toList = [] := List.eq_nil_of_length_eq_zero (by simpa using h)
  rw [this]; rfl
theorem emp_false {s : ByteArray} (h : 0 < s.size) : (s.toList == []) = false := by
  rw [ByteArray.toList_eq, beq_eq_false_iff_ne]
  intro e
  have : s.data.toList.length = 0 := by rw [e]; rfl
  have h2 : 0 < s.data.size := h
  rw [Array.length_toList] at this; omega

end Go.Proofs.YtkehgoailhpenaaGreat
