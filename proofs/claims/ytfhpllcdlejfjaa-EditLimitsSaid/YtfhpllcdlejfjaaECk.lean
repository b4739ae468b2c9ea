/- The mathematics of the program's Compose: what both lists keep, and the edits around it. It has no conditions. -/
import Derived.Test.YtfhpllcdlejfjaaEPc
namespace Go.Proofs.Ytfhpllcdlejfjaa
open Go.RowKit Go.Shelf
set_option linter.unusedVariables false

/-- A piece of a text, with its sources. -/
def pcs (S : List Int) (k m : Nat) : List (Int × Option Nat) := (((S.drop k).take m).zipIdx k).map fun z => (z.1, some z.2)
theorem pcs_at {S : List Int} {k m i : Nat} : (pcs S k m)[i]? = if i < m then (S[k + i]?).map (fun c => (c, some (k + i))) else none := by
  unfold pcs
  rw [piece_at, List.getElem?_take]
  split
  · rw [List.getElem?_drop]
  · rfl
theorem pcs_len {S : List Int} {k m : Nat} (h : k + m ≤ S.length) : (pcs S k m).length = m := by
  unfold pcs
  rw [List.length_map, List.length_zipIdx, List.length_take, List.length_drop]
  omega
theorem pcs_zero (S : List Int) (k : Nat) : pcs S k 0 = [] := by simp [pcs]
theorem pcs_slice {S : List Int} {k m i j : Nat} (h : i + j ≤ m) : ((pcs S k m).drop i).take j = pcs S (k + i) j := by
  refine List.ext_getElem? fun a => ?_
  rw [List.getElem?_take, List.getElem?_drop, pcs_at, pcs_at]
  by_cases ha : a < j
  · rw [if_pos ha, if_pos ha, if_pos (by omega), show k + (i + a) = k + i + a by omega]
  · rw [if_neg ha, if_neg ha]
theorem pcs_cons {S : List Int} {k m : Nat} (h : k < S.length) : pcs S k (m + 1) = (S[k], some k) :: pcs S (k + 1) m := by
  unfold pcs
  rw [List.drop_eq_getElem_cons h, List.take_succ_cons, List.zipIdx_cons, List.map_cons]
/-- New bytes alone. -/
def AllNew (z : List (Int × Option Nat)) : Prop := ∀ y ∈ z, y.2 = none
theorem AllNew.tail {y : Int × Option Nat} {z : List (Int × Option Nat)} (h : AllNew (y :: z)) : y.2 = none ∧ AllNew z := ⟨h y (by simp), fun x hx => h x (by simp [hx])⟩
theorem AllNew.append {a b : List (Int × Option Nat)} (h : AllNew a) (k : AllNew b) : AllNew (a ++ b) := fun y hy => (List.mem_append.1 hy).elim (h y) (k y)
theorem AllNew.slice {z : List (Int × Option Nat)} (h : AllNew z) (i j : Nat) : AllNew ((z.drop i).take j) := fun y hy => h y (List.mem_of_mem_drop (List.mem_of_mem_take hy))
theorem all_new (x : List Int) : AllNew (x.map fun c => ((c, none) : Int × Option Nat)) := by
  intro y hy
  obtain ⟨c, _, rfl⟩ := List.mem_map.1 hy
  rfl
theorem canon_new {n a : Nat} {z : List (Int × Option Nat)} : ∀ {N : List (Int × Option Nat)} {x : List Int}, AllNew N → canon n a x (N ++ z) = canon n a (x ++ N.map Prod.fst) z := by
  intro N
  induction N with
  | nil => intro x _; simp
  | cons y N ih =>
    intro x h
    obtain ⟨c, k⟩ := y
    obtain ⟨h1, h2⟩ := h.tail
    simp only at h1
    subst h1
    simp only [List.cons_append, canon]
    rw [ih h2]
    simp
theorem canon_go {S : List Int} {n : Nat} {z : List (Int × Option Nat)} : ∀ {m k : Nat}, k + m ≤ S.length → canon n k [] (pcs S k m ++ z) = canon n (k + m) [] z := by
  intro m
  induction m with
  | zero => intro k _; rw [pcs_zero]; rfl
  | succ m ih =>
    intro k h
    rw [pcs_cons (by omega)]
    simp only [List.cons_append, canon]
    rw [if_neg (by simp), ih (by omega), show k + 1 + m = k + (m + 1) by omega]
theorem canon_piece {S : List Int} {n a k m : Nat} {x : List Int} {z : List (Int × Option Nat)} (hm : 0 < m) (h : k + m ≤ S.length) :
    canon n a x (pcs S k m ++ z) = (if a < k ∨ x ≠ [] then [⟨a, k, x⟩] else []) ++ canon n (k + m) [] z := by
  obtain ⟨m, rfl⟩ : ∃ m', m = m' + 1 := ⟨m - 1, by omega⟩
  rw [pcs_cons (by omega)]
  simp only [List.cons_append, canon]
  rw [canon_go (by omega), show k + 1 + m = k + (m + 1) by omega]
  split <;> rfl

/-- A piece that is kept: it lies at f of the old text and at q of the new one, and has m bytes. -/
structure Kp where
  f : Nat
  m : Nat
  q : Nat
def Kp.pc (s : ByteArray) (p : Kp) : Pc := ⟨p.f, ((p.f + p.m : Nat) : Int), p.q, s.extract p.f (p.f + p.m), true⟩
/-- A text with sources, from index q on: new bytes and pieces in turn. -/
def Dcm (S : List Int) : Nat → List (Int × Option Nat) → List Kp → Prop
  | q, z, [] => AllNew z
  | q, z, p :: K => ∃ N z' : List (Int × Option Nat), z = N ++ (pcs S p.f p.m ++ z') ∧ AllNew N ∧ p.q = q + N.length ∧ 0 < p.m ∧ p.f + p.m ≤ S.length ∧ Dcm S (p.q + p.m) z' K
theorem Dcm.new {S : List Int} {q : Nat} {z N : List (Int × Option Nat)} {K : List Kp} (hN : AllNew N) (h : Dcm S (q + N.length) z K) : Dcm S q (N ++ z) K := by
  cases K with
  | nil => exact hN.append h
  | cons p K =>
    obtain ⟨M, z', h1, h2, h3, h4⟩ := h
    exact ⟨N ++ M, z', by rw [h1, List.append_assoc], hN.append h2, by rw [h3, List.length_append]; omega, h4⟩
theorem Dcm.append {S : List Int} {z' : List (Int × Option Nat)} {K' : List Kp} : ∀ {K : List Kp} {q : Nat} {z : List (Int × Option Nat)}, Dcm S q z K → Dcm S (q + z.length) z' K' → Dcm S q (z ++ z') (K ++ K') := by
  intro K
  induction K with
  | nil => intro q z h h'; exact Dcm.new h h'
  | cons p K ih =>
    intro q z h h'
    obtain ⟨N, y, h1, h2, h3, h4, h5, h6⟩ := h
    refine ⟨N, y ++ z', by rw [h1]; simp, h2, h3, h4, h5, ih h6 ?_⟩
    rw [h1, List.length_append, List.length_append, pcs_len h5] at h'
    rwa [show p.q + p.m + y.length = q + (N.length + (p.m + y.length)) by omega]
/-- Pieces in order, in both texts. -/
def Ordk (n m : Nat) : Nat → Nat → List Kp → Prop
  | f, q, [] => f ≤ n ∧ q ≤ m
  | f, q, p :: K => f ≤ p.f ∧ q ≤ p.q ∧ p.f + p.m ≤ n ∧ p.q + p.m ≤ m ∧ Ordk n m (p.f + p.m) (p.q + p.m) K
theorem src_skip {S : List Int} : ∀ {N : List (Int × Option Nat)} {a : Nat} {z : List (Int × Option Nat)}, AllNew N → Src S a (N ++ z) → Src S a z := by
  intro N
  induction N with
  | nil => intro a z _ h; exact h
  | cons y N ih =>
    intro a z hN h
    obtain ⟨c, k⟩ := y
    obtain ⟨h1, h2⟩ := hN.tail
    simp only at h1
    subst h1
    exact ih h2 h
theorem src_pcs {S : List Int} {z : List (Int × Option Nat)} : ∀ {m k a : Nat}, k + m ≤ S.length → 0 < m → Src S a (pcs S k m ++ z) → a ≤ k ∧ Src S (k + m) z := by
  intro m
  induction m with
  | zero => intro k a _ h; omega
  | succ m ih =>
    intro k a hk _ h
    rw [pcs_cons (by omega)] at h
    obtain ⟨h1, _, h3⟩ := h
    refine ⟨h1, ?_⟩
    by_cases hm : m = 0
    · subst hm; rw [pcs_zero] at h3; exact h3
    · have := (ih (by omega) (by omega) h3).2
      rwa [show k + (m + 1) = k + 1 + m by omega]
theorem dcm_ord {S : List Int} {m : Nat} : ∀ {K : List Kp} {f q : Nat} {z : List (Int × Option Nat)}, Src S f z → Dcm S q z K → q + z.length = m → Ordk S.length m f q K := by
  intro K
  induction K with
  | nil => intro f q z hs _ hm; exact ⟨hs.le, by omega⟩
  | cons p K ih =>
    intro f q z hs hd hm
    obtain ⟨N, y, h1, h2, h3, h4, h5, h6⟩ := hd
    rw [h1] at hs hm
    rw [List.length_append, List.length_append, pcs_len h5] at hm
    obtain ⟨g1, g2⟩ := src_pcs h5 h4 (src_skip h2 hs)
    exact ⟨g1, by omega, h5, by omega, ih g2 h6 (by omega)⟩

/-- One edit for what is between two pieces, if it differs. -/
def gap (s u : ByteArray) (f t q r : Nat) : List Er := if u.extract q r = s.extract f t then [] else [⟨f, t, u.extract q r⟩]
def arl (s u : ByteArray) (f q : Nat) : List Kp → List Er
  | [] => gap s u f s.size q u.size
  | p :: K => gap s u f p.f q p.q ++ arl s u (p.f + p.m) (p.q + p.m) K
theorem gap_ees (s u : ByteArray) (f t q r : Nat) (hf : f ≤ t) (ht : t ≤ s.size) {x : List Int} (hx : ((sb u).drop q).take (r - q) = x) :
    ees (gap s u f t q r) = (if f < t ∨ x ≠ [] then [(⟨f, t, x⟩ : Ee)] else []).filter (Chg (sb s)) := by
  have hu : sb (u.extract q r) = x := by rw [sb_cut, hx]
  have hs : sb (s.extract f t) = ((sb s).drop f).take (t - f) := sb_cut s f t
  unfold gap
  by_cases he : u.extract q r = s.extract f t
  · rw [if_pos he]
    have h1 : ((sb s).drop f).take (t - f) = x := by rw [← hs, ← he, hu]
    split
    · rw [List.filter_cons, if_neg (by unfold Chg; simp [h1])]; rfl
    · rfl
  · rw [if_neg he]
    have h1 : ((sb s).drop f).take (t - f) ≠ x := fun e => he (sb_inj (by rw [hs, hu, e]))
    rw [if_pos ?_]
    · rw [List.filter_cons, if_pos (by unfold Chg; simp [h1])]
      simp only [ees, List.map_cons, List.map_nil, List.filter_nil, Er.ee, hu, Int.toNat_natCast]
    · by_cases hft : f < t
      · exact .inl hft
      · refine .inr fun hx0 => h1 ?_
        rw [hx0, show t - f = 0 by omega, List.take_zero]
theorem ees_append (a b : List Er) : ees (a ++ b) = ees a ++ ees b := by simp [ees]
theorem arl_canon {s u : ByteArray} : ∀ {K : List Kp} {f q : Nat} {z : List (Int × Option Nat)}, z.map Prod.fst = (sb u).drop q → Dcm (sb s) q z K → Ordk s.size u.size f q K → ees (arl s u f q K) = (canon s.size f [] z).filter (Chg (sb s)) := by
  intro K
  induction K with
  | nil =>
    intro f q z hz hd ho
    have hd' : AllNew z := hd
    have h1 : canon s.size f [] z = canon s.size f (z.map Prod.fst) [] := by have := canon_new (n := s.size) (a := f) (x := []) (z := []) hd'; simpa using this
    obtain ⟨o1, o2⟩ := ho
    rw [h1]
    simp only [arl, canon]
    refine gap_ees s u f s.size q u.size o1 (Nat.le_refl _) ?_
    rw [hz, List.take_of_length_le (by rw [List.length_drop, sb_len]; exact Nat.le_refl _)]
  | cons p K ih =>
    intro f q z hz hd ho
    obtain ⟨N, y, h1, h2, h3, h4, h5, h6⟩ := hd
    obtain ⟨o1, o2, o3, o4, o5⟩ := ho
    have hlN : (N.map Prod.fst).length = p.q - q := by rw [List.length_map]; omega
    have hlp : ((pcs (sb s) p.f p.m).map Prod.fst).length = p.m := by rw [List.length_map, pcs_len h5]
    rw [h1, List.map_append, List.map_append] at hz
    have hN : ((sb u).drop q).take (p.q - q) = N.map Prod.fst := by rw [← hz, ← hlN, List.take_left]
    have hy : y.map Prod.fst = (sb u).drop (p.q + p.m) := by
      have : (sb u).drop (p.q + p.m) = ((sb u).drop q).drop ((p.q - q) + p.m) := by rw [List.drop_drop]; congr 1; omega
      rw [this, ← hz, ← List.drop_drop, List.drop_left' hlN, List.drop_left' hlp]
    rw [h1, canon_new h2, canon_piece h4 h5, List.filter_append]
    simp only [arl, List.nil_append]
    rw [ees_append, ih hy h6 o5, gap_ees s u f p.f q p.q o1 (by omega) hN]

end Go.Proofs.Ytfhpllcdlejfjaa
