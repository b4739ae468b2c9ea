/- FDf, with the texts that only it needs in front of it: EDiff. It has no conditions. -/
import Derived.Test.YtfecajeenmnoeaaEMath
import Derived.Test.YtfecajeenmnoeaaFApp
import Derived.BigQuiet
import Derived.Deep.QuietTactic
import Derived.Lib.MinMax

/- The mathematics of Diff: the longest common prefix and suffix determine one edit, which leads from one text to the other. It has no conditions. -/
namespace Go.Proofs.Ytfecajeenmnoeaa
open Go.RowKit
set_option linter.unusedVariables false

/-- p is the length of the longest common prefix. -/
def Pre (a b : List Int) (p : Nat) : Prop := p ≤ a.length ∧ p ≤ b.length ∧ (∀ i, i < p → a[i]? = b[i]?) ∧ (p = a.length ∨ p = b.length ∨ a[p]? ≠ b[p]?)
/-- q is the length of the longest common suffix behind p. -/
def Suf (a b : List Int) (p q : Nat) : Prop := p + q ≤ a.length ∧ p + q ≤ b.length ∧ (∀ i, i < q → a[a.length - 1 - i]? = b[b.length - 1 - i]?) ∧ (p + q = a.length ∨ p + q = b.length ∨ a[a.length - 1 - q]? ≠ b[b.length - 1 - q]?)
theorem Pre.det {a b : List Int} {p p' : Nat} (h : Pre a b p) (k : Pre a b p') : p = p' := by
  obtain ⟨h1, h2, h3, h4⟩ := h
  obtain ⟨k1, k2, k3, k4⟩ := k
  rcases Nat.lt_trichotomy p p' with g | g | g
  · rcases h4 with h | h | h
    · omega
    · omega
    · exact absurd (k3 p g) h
  · exact g
  · rcases k4 with h | h | h
    · omega
    · omega
    · exact absurd (h3 p' g) h
theorem Suf.det {a b : List Int} {p q q' : Nat} (h : Suf a b p q) (k : Suf a b p q') : q = q' := by
  obtain ⟨h1, h2, h3, h4⟩ := h
  obtain ⟨k1, k2, k3, k4⟩ := k
  rcases Nat.lt_trichotomy q q' with g | g | g
  · rcases h4 with h | h | h
    · omega
    · omega
    · exact absurd (k3 q g) h
  · exact g
  · rcases k4 with h | h | h
    · omega
    · omega
    · exact absurd (h3 q' g) h
/-- The edit of Diff. -/
def dif (a b : List Int) (p q : Nat) : Ee := ⟨p, a.length - q, (b.drop p).take (b.length - q - p)⟩
theorem dif_vld {a b : List Int} {p q : Nat} (hp : Pre a b p) (hq : Suf a b p q) : Vld a.length 0 [dif a b p q] := by
  obtain ⟨k1, k2, _, _⟩ := hq
  exact ⟨Nat.zero_le _, by simp only [dif]; omega, by simp only [dif]; omega, by simp only [dif, Vld]; omega⟩
/-- The edit leads to the second text. -/
theorem dif_appl {a b : List Int} {p q : Nat} (hp : Pre a b p) (hq : Suf a b p q) : appl a 0 [dif a b p q] = b := by
  obtain ⟨h1, h2, h3, _⟩ := hp
  obtain ⟨k1, k2, k3, _⟩ := hq
  have e1 : a.take p = b.take p := by
    apply List.ext_getElem?
    intro i
    rw [List.getElem?_take, List.getElem?_take]
    split
    · exact h3 i (by assumption)
    · rfl
  have e2 : a.drop (a.length - q) = b.drop (b.length - q) := by
    apply List.ext_getElem?
    intro i
    rw [List.getElem?_drop, List.getElem?_drop]
    by_cases hi : i < q
    · have := k3 (q - 1 - i) (by omega)
      rw [show a.length - 1 - (q - 1 - i) = a.length - q + i by omega, show b.length - 1 - (q - 1 - i) = b.length - q + i by omega] at this
      exact this
    · rw [List.getElem?_eq_none (by omega), List.getElem?_eq_none (by omega)]
  simp only [appl, dif, List.drop_zero, Nat.sub_zero]
  rw [e1, e2]
  have e3 : b.drop (b.length - q) = (b.drop p).drop (b.length - q - p) := by rw [List.drop_drop]; congr 1; omega
  rw [e3, List.take_append_drop, List.take_append_drop]
/-- What the edit replaces and its text differ, at the first byte and at the last one where both have one. -/
theorem dif_ends {a b : List Int} {p q : Nat} (hp : Pre a b p) (hq : Suf a b p q) (h0 : p + q < a.length) (h1 : p + q < b.length) : a[p]? ≠ b[p]? ∧ a[a.length - 1 - q]? ≠ b[b.length - 1 - q]? := by
  obtain ⟨_, _, _, h⟩ := hp
  obtain ⟨_, _, _, k⟩ := hq
  constructor
  · rcases h with h | h | h
    · omega
    · omega
    · exact h
  · rcases k with k | k | k
    · omega
    · omega
    · exact k
theorem dif_ne {a b : List Int} {p q : Nat} (hp : Pre a b p) (hq : Suf a b p q) (hab : a ≠ b) : ¬ (p + q = a.length ∧ p + q = b.length) := by
  rintro ⟨e1, e2⟩
  have h := dif_appl hp hq
  simp only [appl, dif, List.drop_zero, Nat.sub_zero] at h
  rw [show b.length - q - p = 0 by omega, List.take_zero, List.nil_append, show a.length - q = p by omega, List.take_append_drop] at h
  exact hab h

end Go.Proofs.Ytfecajeenmnoeaa

/- The contracts of Diff, the program's and the reference's. Conditions: texts of at most 1000000 bytes. -/
namespace Go.Proofs.Ytfecajeenmnoeaa
open Go.RowKit Go.Shelf
set_option linter.unusedVariables false

theorem sb_get (s : ByteArray) (k : Nat) (h : k < s.size) : (sb s)[k]? = some (((s[k]'h).toNat : Nat) : Int) := by
  have h2 : k < s.data.size := h
  unfold sb
  rw [List.getElem?_map, Array.getElem?_toList, Array.getElem?_eq_getElem h2]; rfl
theorem str_eq {a b : ByteArray} (h : a = b) : (a.toList == b.toList) = true := by subst h; simp
theorem toList_inj {a b : ByteArray} (h : a.toList = b.toList) : a = b := by
  rw [ByteArray.toList_eq, ByteArray.toList_eq] at h
  exact ByteArray.ext (Array.toList_inj.1 h)
theorem str_ne {a b : ByteArray} (h : a ≠ b) : (a.toList == b.toList) = false := by
  rw [beq_eq_false_iff_ne]; exact fun e => h (toList_inj e)

set_option maxRecDepth 100000 in
set_option maxHeartbeats 4000000 in
theorem pdiff_any (a b : ByteArray) (w : World) (ha : a.size ≤ 1000000) (hb : b.size ≤ 1000000) (hab : a ≠ b) :
    Calls Try.prog 36 #[.string a, .string b] w fun e w' => ∃ p q, Pre (sb a) (sb b) p ∧ Suf (sb a) (sb b) p q ∧ NewE1 w [er (dif (sb a) (sb b) p q)] e w' := by
  have hq0 : (a.toList == b.toList) = false := str_ne hab
  obtain ⟨m, hm⟩ : ∃ m : Nat, min (a.size : Int) (b.size : Int) = (m : Int) := ⟨(min (a.size : Int) (b.size : Int)).toNat, by omega⟩
  have hm1 : m ≤ a.size := by omega
  have hm2 : m ≤ b.size := by omega
  have hm3 : m = a.size ∨ m = b.size := by omega
  have HM3 := Lib.hid hm3
  obtain ⟨B, hB⟩ : ∃ B, w.heap.size = B := ⟨_, rfl⟩
  have HB := Lib.hid hB
  have H0 : Hid (Below B w w) := by rw [← hB]; exact Below.refl _ _
  clear hm3 hB
  go_enter Try.func36, Try.ntmps36
  go_wp2_with fail
  go_loopw [6] (fun u wr => ∃ (p : Nat), p ≤ m ∧ u = .int .i64 (p : Int) ∧ Hid (∀ i, i < p → (sb a)[i]? = (sb b)[i]?) ∧ Hid (Below B w wr)) (fun u _ => m - (intOf u).toNat)
  case atStart => exact ⟨0, by omega, rfl, Lib.hid (fun i h => by omega), H0⟩
  case round =>
    obtain ⟨p, hp, rfl, HP, HR⟩ := hrel
    have hways : (∃ h : p < m, (sb a)[p]? = (sb b)[p]?) ∨ (∃ h : p < m, (sb a)[p]? ≠ (sb b)[p]?) ∨ ¬ p < m := by
      by_cases h : p < m
      · by_cases h2 : (sb a)[p]? = (sb b)[p]?
        · exact .inl ⟨h, h2⟩
        · exact .inr (.inl ⟨h, h2⟩)
      · exact .inr (.inr h)
    have HRN : Hid (∀ n, Below B w (wr.drewN n)) := fun n => below_drewN HR.out n
    rcases hways with ⟨hlt, heq⟩ | ⟨hlt, hne⟩ | hge
    case inl =>
      have hpa : p < a.size := by omega
      have hpb : p < b.size := by omega
      have h1 : (p : Int) < (m : Int) := by omega
      have h2 : (p : Int) < (a.size : Int) := by omega
      have h3 : (p : Int) < (b.size : Int) := by omega
      have hd : decide ((p : Int) < (m : Int)) = true := by simp only [decide_eq_true_eq]; omega
      have hq : ((((a[p]'hpa).toNat : Nat) : Int) == (((b[p]'hpb).toNat : Nat) : Int)) = true := by
        rw [sb_get a p hpa, sb_get b p hpb] at heq
        simpa using heq
      have HP2 : Hid (∀ i, i < p + 1 → (sb a)[i]? = (sb b)[i]?) := by
        intro i hi
        by_cases e : i = p
        · subst e; exact heq
        · exact HP.out i (by omega)
      clear heq
      go_wp2_with fail
      go_quiet (fail)
      go_wp2
      go_roundw
      case rel => exact ⟨p + 1, by omega, by go_num, HP2, HRN.out _⟩
      case measure => simp [intOf]; omega
    case' inr.inl =>
      have hpa : p < a.size := by omega
      have hpb : p < b.size := by omega
      have h1 : (p : Int) < (m : Int) := by omega
      have h2 : (p : Int) < (a.size : Int) := by omega
      have h3 : (p : Int) < (b.size : Int) := by omega
      have hd : decide ((p : Int) < (m : Int)) = true := by simp only [decide_eq_true_eq]; omega
      have hq : ((((a[p]'hpa).toNat : Nat) : Int) == (((b[p]'hpb).toNat : Nat) : Int)) = false := by
        rw [sb_get a p hpa, sb_get b p hpb] at hne
        simpa using hne
      have HPRE : Hid (Pre (sb a) (sb b) p) := ⟨by rw [sb_len]; omega, by rw [sb_len]; omega, HP.out, .inr (.inr hne)⟩
      clear hne
      go_wp2_with fail
      go_quiet (fail)
    case' inr.inr =>
      have hpm : p = m := by omega
      have HPRE : Hid (Pre (sb a) (sb b) p) := ⟨by rw [sb_len]; omega, by rw [sb_len]; omega, HP.out, by rw [sb_len, sb_len, hpm]; rcases HM3.out with h | h <;> simp [h]⟩
      clear hpm
      have hd : decide ((p : Int) < (m : Int)) = false := by simp; omega
      have hdd : ¬ (p : Int) < (m : Int) := by omega
      go_wp2_with fail
      go_quiet (fail)
    all_goals
      go_wp2_with fail
      go_loopw [7] (fun u wr => ∃ (q : Nat), p + q ≤ m ∧ u = .int .i64 (q : Int) ∧ Hid (∀ i, i < q → (sb a)[a.size - 1 - i]? = (sb b)[b.size - 1 - i]?) ∧ Hid (Below B w wr)) (fun u _ => m - (intOf u).toNat)
      case atStart => exact ⟨0, by omega, rfl, Lib.hid (fun i h => by omega), HRN.out _⟩
      case round =>
        obtain ⟨q, hq5, rfl, HQ, HR2⟩ := hrel
        have hways : (∃ h : p + q < m, (sb a)[a.size - 1 - q]? = (sb b)[b.size - 1 - q]?) ∨ (∃ h : p + q < m, (sb a)[a.size - 1 - q]? ≠ (sb b)[b.size - 1 - q]?) ∨ ¬ p + q < m := by
          by_cases h : p + q < m
          · by_cases h2 : (sb a)[a.size - 1 - q]? = (sb b)[b.size - 1 - q]?
            · exact .inl ⟨h, h2⟩
            · exact .inr (.inl ⟨h, h2⟩)
          · exact .inr (.inr h)
        have HRN2 : Hid (∀ n, Below B w (wr.drewN n)) := fun n => below_drewN HR2.out n
        rcases hways with ⟨hlt2, heq⟩ | ⟨hlt2, hne⟩ | hge2
        case inl =>
          first
          | (exfalso; omega; done)
          | (obtain ⟨i1, hi1⟩ : ∃ i : Nat, (a.size : Int) - 1 - (q : Int) = (i : Int) := ⟨a.size - 1 - q, by omega⟩
             obtain ⟨i2, hi2⟩ : ∃ i : Nat, (b.size : Int) - 1 - (q : Int) = (i : Int) := ⟨b.size - 1 - q, by omega⟩
             have hia : i1 < a.size := by omega
             have hib : i2 < b.size := by omega
             have hia2 : (i1 : Int) < (a.size : Int) := by omega
             have hib2 : (i2 : Int) < (b.size : Int) := by omega
             rw [show a.size - 1 - q = i1 by omega, show b.size - 1 - q = i2 by omega] at heq
             have h1 : (q : Int) < (m : Int) - (p : Int) := by omega
             have hd : decide ((q : Int) < (m : Int) - (p : Int)) = true := by simp only [decide_eq_true_eq]; omega
             have hq : ((((a[i1]'hia).toNat : Nat) : Int) == (((b[i2]'hib).toNat : Nat) : Int)) = true := by
               rw [sb_get a i1 hia, sb_get b i2 hib] at heq
               simpa using heq
             have HQ2 : Hid (∀ i, i < q + 1 → (sb a)[a.size - 1 - i]? = (sb b)[b.size - 1 - i]?) := by
               intro i hi
               by_cases e : i = q
               · subst e
                 rw [show a.size - 1 - i = i1 by omega, show b.size - 1 - i = i2 by omega]; exact heq
               · exact HQ.out i (by omega)
             clear heq
             go_wp2_with fail
             go_quiet (fail)
             go_wp2
             go_roundw
             case rel => exact ⟨q + 1, by omega, by go_num, HQ2, HRN2.out _⟩
             case measure => simp [intOf]; omega)
        case' inr.inl =>
          first
          | (exfalso; omega; done)
          | (obtain ⟨i1, hi1⟩ : ∃ i : Nat, (a.size : Int) - 1 - (q : Int) = (i : Int) := ⟨a.size - 1 - q, by omega⟩
             obtain ⟨i2, hi2⟩ : ∃ i : Nat, (b.size : Int) - 1 - (q : Int) = (i : Int) := ⟨b.size - 1 - q, by omega⟩
             have hia : i1 < a.size := by omega
             have hib : i2 < b.size := by omega
             have hia2 : (i1 : Int) < (a.size : Int) := by omega
             have hib2 : (i2 : Int) < (b.size : Int) := by omega
             have HSUF : Hid (Suf (sb a) (sb b) p q) := ⟨by rw [sb_len]; omega, by rw [sb_len]; omega, by rw [sb_len, sb_len]; exact HQ.out, by rw [sb_len, sb_len]; exact .inr (.inr hne)⟩
             rw [show a.size - 1 - q = i1 by omega, show b.size - 1 - q = i2 by omega] at hne
             have h1 : (q : Int) < (m : Int) - (p : Int) := by omega
             have hd : decide ((q : Int) < (m : Int) - (p : Int)) = true := by simp only [decide_eq_true_eq]; omega
             have hq : ((((a[i1]'hia).toNat : Nat) : Int) == (((b[i2]'hib).toNat : Nat) : Int)) = false := by
               rw [sb_get a i1 hia, sb_get b i2 hib] at hne
               simpa using hne
             clear hne
             go_wp2_with fail
             go_quiet (fail)
             clear hi1 hi2 hq h1 hd)
        case' inr.inr =>
          have HSUF : Hid (Suf (sb a) (sb b) p q) := ⟨by rw [sb_len]; omega, by rw [sb_len]; omega, by rw [sb_len, sb_len]; exact HQ.out, by rw [sb_len, sb_len]; rcases HM3.out with h | h <;> omega⟩
          have hd : decide ((q : Int) < (m : Int) - (p : Int)) = false := by simp; omega
          have hdd : ¬ (q : Int) < (m : Int) - (p : Int) := by omega
          go_wp2_with fail
          go_quiet (fail)
        all_goals
          have hx1 : (p : Int) ≤ (b.size : Int) - (q : Int) := by omega
          have hx2 : (b.size : Int) - (q : Int) ≤ (b.size : Int) := by omega
          go_wp2_with fail
          rename_i nq
          go_ret
          obtain ⟨hs1, hs2⟩ := And.intro HPRE.out HSUF.out
          have hbl := HRN2.out nq
          refine ⟨p, q, hs1, hs2, some ⟨wr.heap.size, 0, none⟩, 1, rfl, ?_, ?_⟩
          · refine ⟨by simp, by omega, (fun h => by cases h), .inr ⟨_, 0, rfl, by rw [World.size_alloc]; exact Nat.lt_succ_self _, fun k hk i hi => ?_⟩⟩
            obtain rfl : k = 0 := by simpa using hk
            have bk := Blk.new (wr.drewN nq) 64 #[.int .i64 (p : Int), .int .i64 ((a.size : Int) - (q : Int)), .string (b.extract p (b.size - q))]
            rw [Nat.zero_mul, Nat.add_zero, Nat.zero_add, show wr.heap.size = (wr.drewN nq).heap.size from rfl, bk.cell i]
            have hf : ((a.size - q : Nat) : Int) = (a.size : Int) - (q : Int) := by omega
            simp only [eg, er, dif, sb_len, Er.vals, List.getElem?_toArray, List.getElem?_cons_zero, Option.getD_some]
            rw [hf, show b.size - q - p = (b.size - q) - p from rfl, bs_cut]
          · have hw : Below B w ((wr.drewN nq).alloc (.cells #[.int .i64 (p : Int), .int .i64 ((a.size : Int) - (q : Int)), .string (b.extract p (b.size - q))] 64)) := hbl.alloc (by have := hbl.size; have := HB.out; omega) _
            rw [HB.out]
            exact hw

set_option maxRecDepth 100000 in
theorem pdiff_same (a : ByteArray) (w : World) :
    Calls Try.prog 36 #[.string a, .string a] w fun e w' => e = .returned (.slice none 0 0) ∧ Below w.heap.size w w' := by
  have hq0 : (a.toList == a.toList) = true := by simp
  have H := Lib.hid (Below.refl w.heap.size w)
  go_enter Try.func36, Try.ntmps36
  go_wp2
  go_ret
  exact ⟨rfl, H.out⟩

/-- The list that Diff hands back. -/
def DifR (a b : ByteArray) (es : List Er) : Prop := (a = b ∧ es = []) ∨ (a ≠ b ∧ ∃ p q, Pre (sb a) (sb b) p ∧ Suf (sb a) (sb b) p q ∧ es = [er (dif (sb a) (sb b) p q)])
theorem DifR.det {a b : ByteArray} {es fs : List Er} (h : DifR a b es) (k : DifR a b fs) : es = fs := by
  rcases h with ⟨h1, h2⟩ | ⟨h1, p, q, h2, h3, h4⟩ <;> rcases k with ⟨k1, k2⟩ | ⟨k1, p', q', k2, k3, k4⟩
  · rw [h2, k2]
  · exact absurd h1 k1
  · exact absurd k1 h1
  · obtain rfl := h2.det k2
    obtain rfl := h3.det k3
    rw [h4, k4]
theorem pdiff_all (a b : ByteArray) (w : World) (ha : a.size ≤ 1000000) (hb : b.size ≤ 1000000) :
    Calls Try.prog 36 #[.string a, .string b] w fun e w' => ∃ es, DifR a b es ∧ NewE1 w es e w' := by
  by_cases hab : a = b
  · subst hab
    refine (pdiff_same a w).mono ?_
    rintro e w' ⟨rfl, hb⟩
    exact ⟨[], .inl ⟨rfl, rfl⟩, none, 0, rfl, ES.none _ _, hb⟩
  · refine (pdiff_any a b w ha hb hab).mono ?_
    rintro e w' ⟨p, q, h1, h2, h3⟩
    exact ⟨_, .inr ⟨hab, p, q, h1, h2, rfl⟩, h3⟩
end Go.Proofs.Ytfecajeenmnoeaa
