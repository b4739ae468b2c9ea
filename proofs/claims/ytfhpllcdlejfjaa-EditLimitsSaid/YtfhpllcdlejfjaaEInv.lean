/- The mathematics of Compose: a list composed with its inverse has the empty normal form. It has no conditions. -/
import Derived.Test.YtfhpllcdlejfjaaECmp
namespace Go.Proofs.Ytfhpllcdlejfjaa
open Go.RowKit
set_option linter.unusedVariables false

/-- The bytes of s from i on; those with a source lie where they lay. -/
def Stay (s : List Int) : Nat → List (Int × Option Nat) → Prop
  | i, [] => i = s.length
  | i, (c, none) :: r => s[i]? = some c ∧ Stay s (i + 1) r
  | i, (c, some k) :: r => k = i ∧ s[i]? = some c ∧ Stay s (i + 1) r
theorem canon_stay {s : List Int} : ∀ {r : List (Int × Option Nat)} {a : Nat} {x : List Int}, Stay s (a + x.length) r → (s.drop a).take x.length = x → ∀ e ∈ canon s.length a x r, Chg s e = false := by
  intro r
  induction r with
  | nil =>
    intro a x h hx e he
    have h0 : a + x.length = s.length := h
    simp only [canon] at he
    split at he
    · simp only [List.mem_singleton] at he
      subst he
      unfold Chg
      simp only [decide_eq_false_iff_not, ne_eq, Classical.not_not]
      rw [show s.length - a = x.length by omega]; exact hx
    · simp at he
  | cons z r ih =>
    intro a x h hx e he
    obtain ⟨c, k⟩ := z
    cases k with
    | none =>
      obtain ⟨h1, h2⟩ := h
      refine ih (a := a) (x := x ++ [c]) (by rw [List.length_append]; exact h2) ?_ e he
      rw [List.length_append, List.length_singleton, List.take_add_one, hx, List.getElem?_drop, h1]
      rfl
    | some k =>
      obtain ⟨rfl, h1, h2⟩ := h
      have hrest := ih (a := a + x.length + 1) (x := []) (by simpa using h2) (by simp)
      simp only [canon] at he
      split at he
      · rcases List.mem_cons.1 he with rfl | he
        · unfold Chg
          simp only [decide_eq_false_iff_not, ne_eq, Classical.not_not, Nat.add_sub_cancel_left]
          exact hx
        · exact hrest e he
      · exact hrest e he
theorem canon_sep {s : List Int} : ∀ {r : List (Int × Option Nat)} {a : Nat} {x : List Int}, Src s a r → Sep (canon s.length a x r) := by
  intro r
  induction r with
  | nil => intro a x h; simp only [canon]; split <;> simp [Sep]
  | cons z r ih =>
    intro a x h
    obtain ⟨c, k⟩ := z
    cases k with
    | none => exact ih h
    | some k =>
      obtain ⟨h1, h2, h3⟩ := h
      simp only [canon]
      split
      · refine ⟨fun e he => ?_, ih h3⟩
        have := (canon_vld (x := []) h3).mem e he
        show k < e.f
        omega
      · exact ih h3
theorem stay_piece {s : List Int} {r : List (Int × Option Nat)} (f : Nat → Option Nat) : ∀ (n p q : Nat) (t : List Int), (∀ i, i < n → t[q + i]? = s[p + i]? ∧ (f (q + i) = none ∨ f (q + i) = some (p + i))) → q + n ≤ t.length → Stay s (p + n) r →
    Stay s p (((((t.drop q).take n).zipIdx q).map fun z => (z.1, f z.2)) ++ r) := by
  intro n
  induction n with
  | zero => intro p q t _ _ h; simpa using h
  | succ n ih =>
    intro p q t ht hq h
    have h0 := ht 0 (by omega)
    rw [Nat.add_zero, Nat.add_zero] at h0
    rw [List.drop_eq_getElem_cons (by omega), List.take_succ_cons, List.zipIdx_cons, List.map_cons, List.cons_append]
    have hs : s[p]? = some (t[q]'(by omega)) := by rw [← h0.1, List.getElem?_eq_getElem (by omega)]
    have hi := ih (p + 1) (q + 1) t (fun i hi => by have := ht (i + 1) (by omega); rwa [show q + (i + 1) = q + 1 + i by omega, show p + (i + 1) = p + 1 + i by omega] at this) (by omega) (by rwa [show p + 1 + n = p + (n + 1) by omega])
    simp only
    rcases h0.2 with hf | hf
    · rw [hf]; exact ⟨hs, hi⟩
    · rw [hf]; exact ⟨rfl, hs, hi⟩

theorem stay_new {s : List Int} {r : List (Int × Option Nat)} : ∀ (x : List Int) (i : Nat), (∀ j, j < x.length → s[i + j]? = x[j]?) → Stay s (i + x.length) r → Stay s i (x.map (fun c => ((c, none) : Int × Option Nat)) ++ r) := by
  intro x
  induction x with
  | nil => intro i _ h; simpa using h
  | cons c x ih =>
    intro i hx h
    refine ⟨by simpa using hx 0 (by simp), ih (i + 1) (fun j hj => ?_) (by rwa [List.length_cons, show i + (x.length + 1) = i + 1 + x.length by omega] at h)⟩
    have := hx (j + 1) (by simp; omega)
    rw [show i + (j + 1) = i + 1 + j by omega] at this
    simpa using this
theorem piece_at (x : List Int) : ∀ (p i : Nat), ((x.zipIdx p).map fun z => ((z.1, some z.2) : Int × Option Nat))[i]? = (x[i]?).map fun c => (c, some (p + i)) := by
  induction x with
  | nil => intro p i; simp
  | cons c x ih =>
    intro p i
    rw [List.zipIdx_cons, List.map_cons]
    cases i with
    | zero => simp
    | succ i => simp only [List.getElem?_cons_succ]; rw [ih (p + 1) i]; congr 1; funext c; congr 2; omega
theorem thru_append (z a b : List (Int × Option Nat)) : thru z (a ++ b) = thru z a ++ thru z b := by unfold thru; rw [List.map_append]
theorem thru_piece (z : List (Int × Option Nat)) (x : List Int) (q : Nat) : thru z ((x.zipIdx q).map fun y => (y.1, some y.2)) = (x.zipIdx q).map fun y => (y.1, (z[y.2]?).bind Prod.snd) := by
  unfold thru
  rw [List.map_map]
  rfl
theorem thru_none (z : List (Int × Option Nat)) (x : List Int) : thru z (x.map fun c => (c, none)) = x.map fun c => (c, none) := by
  unfold thru
  rw [List.map_map]
  rfl
/-- The bytes of the text, seen through the edits and their inverse, lie where they lay. -/
theorem stay_inv {s : List Int} : ∀ {l : List Ee} {p q : Nat} {pre z1 : List (Int × Option Nat)}, Vld s.length p l → pre.length = q → z1 = pre ++ srcl s p l → Stay s p (thru z1 (srcl (z1.map Prod.fst) q (invl s p q l))) := by
  have key : ∀ {z1 pre r : List (Int × Option Nat)} {q p n : Nat}, pre.length = q → p + n ≤ s.length → z1 = pre ++ (((((s.drop p).take n).zipIdx p).map fun z => (z.1, some z.2)) ++ r) →
      ∀ i, i < n → (z1.map Prod.fst)[q + i]? = s[p + i]? ∧ ((z1[q + i]?).bind Prod.snd = none ∨ (z1[q + i]?).bind Prod.snd = some (p + i)) := by
    intro z1 pre r q p n hq hpn hz i hi
    have hl : (((s.drop p).take n).zipIdx p |>.map fun z => ((z.1, some z.2) : Int × Option Nat)).length = n := by
      rw [List.length_map, List.length_zipIdx, List.length_take, List.length_drop]; omega
    have hg : s[p + i]? = some (s[p + i]'(by omega)) := List.getElem?_eq_getElem (by omega)
    have h1 : z1[q + i]? = some (s[p + i]'(by omega), some (p + i)) := by
      rw [hz, List.getElem?_append_right (by omega), hq, Nat.add_sub_cancel_left, List.getElem?_append_left (by omega), piece_at, List.getElem?_take, if_pos hi, List.getElem?_drop, hg]
      rfl
    rw [List.getElem?_map, h1, hg]
    exact ⟨rfl, .inr rfl⟩
  intro l
  induction l with
  | nil =>
    intro p q pre z1 h hq hz
    have hp : p ≤ s.length := h
    have hz2 : z1 = pre ++ (((((s.drop p).take (s.length - p)).zipIdx p).map fun z => (z.1, some z.2)) ++ []) := by
      rw [hz, List.append_nil, List.take_of_length_le (by rw [List.length_drop]; exact Nat.le_refl _)]; rfl
    have hlen : (z1.map Prod.fst).length = q + (s.length - p) := by
      rw [hz2, List.length_map, List.length_append, List.length_append, List.length_map, List.length_zipIdx, List.length_take, List.length_drop, hq]; simp
    simp only [invl, srcl]
    rw [thru_piece]
    have hs := stay_piece (s := s) (r := []) (fun k => (z1[k]?).bind Prod.snd) (s.length - p) p q (z1.map Prod.fst) (key hq (by omega) hz2) (by omega) (by show p + (s.length - p) = s.length; omega)
    rw [List.append_nil, List.take_of_length_le (by rw [List.length_drop]; omega)] at hs
    exact hs
  | cons e l ih =>
    intro p q pre z1 h hq hz
    obtain ⟨h1, h2, h3, h4⟩ := h
    have hm := mid_len (s := s) h1 (by omega)
    have hz2 : z1 = pre ++ (((((s.drop p).take (e.f - p)).zipIdx p).map fun z => (z.1, some z.2)) ++ (e.x.map (fun c => (c, none)) ++ srcl s e.t l)) := hz
    have hlen : q + (e.f - p) ≤ (z1.map Prod.fst).length := by
      rw [hz2, List.length_map, List.length_append, List.length_append, List.length_map, List.length_zipIdx, hm, hq]; omega
    have hi := ih (p := e.t) (q := q + (e.f - p) + e.x.length) (pre := pre ++ ((((s.drop p).take (e.f - p)).zipIdx p |>.map fun z => (z.1, some z.2)) ++ e.x.map (fun c => (c, none)))) (z1 := z1) h4
      (by rw [List.length_append, List.length_append, List.length_map, List.length_map, List.length_zipIdx, hm, hq]; omega) (by rw [hz2]; simp)
    simp only [invl, srcl, Nat.add_sub_cancel_left]
    rw [thru_append, thru_append, thru_piece, thru_none]
    refine stay_piece (fun k => (z1[k]?).bind Prod.snd) (e.f - p) p q _ (key hq (by omega) hz2) hlen ?_
    rw [show p + (e.f - p) = e.f by omega]
    refine stay_new _ _ (fun j hj => ?_) ?_
    · rw [mid_len h2 h3] at hj
      rw [List.getElem?_take, if_pos hj, List.getElem?_drop]
    · rw [mid_len h2 h3, show e.f + (e.t - e.f) = e.t by omega]
      exact hi
/-- A list composed with its inverse gives the empty list. -/
theorem cmpl_inv {s : List Int} {l : List Ee} (h : Vld s.length 0 l) : cmpl s l (invl s 0 0 l) = [] := by
  have hst := stay_inv (pre := []) (z1 := srcl s 0 l) h rfl rfl
  rw [srcl_fst] at hst
  have hv : Vld (appl s 0 l).length 0 (invl s 0 0 l) := by have := invl_vld (q := 0) h; rwa [Nat.zero_add] at this
  have hsrc := thru_src (srcl_src h) (srcl_fst s l 0) (srcl_src hv)
  unfold cmpl norml
  rw [joinl_of_sep (canon_sep (x := []) hsrc), List.filter_eq_nil_iff]
  intro e he
  rw [canon_stay (a := 0) (x := []) (by simpa using hst) (by simp) e he]
  decide

end Go.Proofs.Ytfhpllcdlejfjaa
