/- The mathematics of edits of texts: what Apply and Invert make, and that the inverse leads back. It has no conditions. -/
import Derived.Test.YtgfhhpodcnohpaaDoorBase
namespace Go.Proofs.YtgfhhpodcnohpaaDoor
open Go.RowKit
set_option linter.unusedVariables false

/-- An edit by offsets. -/
structure Ee where
  f : Nat
  t : Nat
  x : List Int
/-- The edits are valid for a text of n bytes, behind offset p. -/
def Vld (n p : Nat) : List Ee → Prop
  | [] => p ≤ n
  | e :: l => p ≤ e.f ∧ e.f ≤ e.t ∧ e.t ≤ n ∧ Vld n e.t l
theorem Vld.le {n p : Nat} {l : List Ee} (h : Vld n p l) : p ≤ n := by
  cases l with
  | nil => exact h
  | cons e l => obtain ⟨h1, h2, h3, _⟩ := h; omega
/-- The new text from offset p of the old one on. -/
def appl (s : List Int) (p : Nat) : List Ee → List Int
  | [] => s.drop p
  | e :: l => (s.drop p).take (e.f - p) ++ (e.x ++ appl s e.t l)
/-- The inverse; q is the offset in the new text that belongs to p. -/
def invl (s : List Int) (p q : Nat) : List Ee → List Ee
  | [] => []
  | e :: l => ⟨q + (e.f - p), q + (e.f - p) + e.x.length, (s.drop e.f).take (e.t - e.f)⟩ :: invl s e.t (q + (e.f - p) + e.x.length) l
theorem mid_len {s : List Int} {p f : Nat} (h1 : p ≤ f) (h2 : f ≤ s.length) : ((s.drop p).take (f - p)).length = f - p := by
  rw [List.length_take, List.length_drop]; omega
theorem glue {s : List Int} {p f t : Nat} (h1 : p ≤ f) (h2 : f ≤ t) : (s.drop p).take (f - p) ++ ((s.drop f).take (t - f) ++ s.drop t) = s.drop p := by
  have e1 : s.drop t = (s.drop f).drop (t - f) := by rw [List.drop_drop]; congr 1; omega
  have e2 : s.drop f = (s.drop p).drop (f - p) := by rw [List.drop_drop]; congr 1; omega
  rw [e1, List.take_append_drop, e2, List.take_append_drop]
/-- Applying the inverse returns the old text. -/
theorem appl_invl {s : List Int} : ∀ {l : List Ee} {p q : Nat} {pre : List Int}, Vld s.length p l → pre.length = q → appl (pre ++ appl s p l) q (invl s p q l) = s.drop p := by
  intro l
  induction l with
  | nil =>
    intro p q pre h hq
    simp only [invl, appl]
    rw [← hq, List.drop_left]
  | cons e l ih =>
    intro p q pre h hq
    obtain ⟨h1, h2, h3, h4⟩ := h
    have hm := mid_len (s := s) h1 (by omega)
    simp only [invl, appl]
    have hd : (pre ++ ((s.drop p).take (e.f - p) ++ (e.x ++ appl s e.t l))).drop q = (s.drop p).take (e.f - p) ++ (e.x ++ appl s e.t l) := by rw [← hq, List.drop_left]
    rw [hd, Nat.add_sub_cancel_left]
    have ht : ((s.drop p).take (e.f - p) ++ (e.x ++ appl s e.t l)).take (e.f - p) = (s.drop p).take (e.f - p) := by
      conv => lhs; arg 1; rw [← hm]
      rw [List.take_left]
    rw [ht]
    have hi := ih (p := e.t) (q := q + (e.f - p) + e.x.length) (pre := pre ++ ((s.drop p).take (e.f - p) ++ e.x)) h4 (by rw [List.length_append, List.length_append, hm]; omega)
    rw [show pre ++ ((s.drop p).take (e.f - p) ++ (e.x ++ appl s e.t l)) = (pre ++ ((s.drop p).take (e.f - p) ++ e.x)) ++ appl s e.t l by simp, hi]
    exact glue h1 h2
/-- The inverse is valid for the new text. -/
theorem invl_vld {s : List Int} : ∀ {l : List Ee} {p q : Nat}, Vld s.length p l → Vld (q + (appl s p l).length) q (invl s p q l) := by
  intro l
  induction l with
  | nil => intro p q h; simp only [invl, Vld]; omega
  | cons e l ih =>
    intro p q h
    obtain ⟨h1, h2, h3, h4⟩ := h
    have hm := mid_len (s := s) h1 (by omega)
    have hi := ih (q := q + (e.f - p) + e.x.length) h4
    simp only [invl, appl, Vld, List.length_append, hm]
    refine ⟨by omega, by omega, by omega, ?_⟩
    rw [show q + (e.f - p + (e.x.length + (appl s e.t l).length)) = q + (e.f - p) + e.x.length + (appl s e.t l).length by omega]
    exact hi
theorem invl_len (s : List Int) : ∀ (l : List Ee) (p q : Nat), (invl s p q l).length = l.length := by
  intro l
  induction l with
  | nil => intro p q; rfl
  | cons e l ih => intro p q; simp [invl, ih]

end Go.Proofs.YtgfhhpodcnohpaaDoor
