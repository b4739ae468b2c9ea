/- The mathematics of the program's Normal: a composition with no edits is the normal form. It has no conditions. -/
import Derived.Test.YtfhpllcdlejfjaaECm
namespace Go.Proofs.Ytfhpllcdlejfjaa
open Go.RowKit Go.Shelf
set_option linter.unusedVariables false

theorem filt_pend {s : List Int} {a p : Nat} {x : List Int} (h : a ≤ p) (l : List Ee) : ((if a < p ∨ x ≠ [] then [(⟨a, p, x⟩ : Ee)] else []) ++ l).filter (Chg s) = ((⟨a, p, x⟩ : Ee) :: l).filter (Chg s) := by
  by_cases hc : a < p ∨ x ≠ []
  · rw [if_pos hc]; rfl
  · rw [if_neg hc]
    have h1 : a = p := by omega
    have h2 : x = [] := Classical.byContradiction fun e => hc (.inr e)
    subst h1 h2
    have : Chg s ⟨a, a, []⟩ = false := by unfold Chg; simp
    rw [List.nil_append, List.filter_cons, this]
    rfl
theorem srcl_nil (s : List Int) (p : Nat) (hp : p ≤ s.length) : srcl s p [] = pcs s p (s.length - p) := by
  unfold pcs
  rw [List.take_of_length_le (by rw [List.length_drop]; exact Nat.le_refl _)]
  rfl
theorem canon_srcl {s : List Int} : ∀ {l : List Ee} {a p : Nat} {x : List Int}, a ≤ p → Vld s.length p l → (canon s.length a x (srcl s p l)).filter (Chg s) = (jn ⟨a, p, x⟩ l).filter (Chg s) := by
  intro l
  induction l with
  | nil =>
    intro a p x ha h
    have hp : p ≤ s.length := h
    rw [srcl_nil s p hp]
    simp only [jn]
    by_cases hz : p = s.length
    · subst hz
      rw [Nat.sub_self, pcs_zero]
      simp only [canon]
      have := filt_pend (s := s) (x := x) ha []
      rw [List.append_nil] at this
      exact this
    · have hc := canon_piece (S := s) (n := s.length) (a := a) (x := x) (z := []) (k := p) (m := s.length - p) (by omega) (by omega)
      rw [List.append_nil] at hc
      have hl : canon s.length s.length [] [] = [] := by simp [canon]
      rw [hc, show p + (s.length - p) = s.length by omega, hl]
      exact filt_pend ha []
  | cons e l ih =>
    intro a p x ha h
    obtain ⟨h1, h2, h3, h4⟩ := h
    have hs : srcl s p (e :: l) = pcs s p (e.f - p) ++ (e.x.map (fun c => ((c, none) : Int × Option Nat)) ++ srcl s e.t l) := rfl
    have hx : (e.x.map (fun c => ((c, none) : Int × Option Nat))).map Prod.fst = e.x := by rw [List.map_map]; exact List.map_id _
    rw [hs]
    simp only [jn]
    by_cases hz : p = e.f
    · rw [if_pos hz, show e.f - p = 0 by omega, pcs_zero, List.nil_append, canon_new (all_new e.x), hx]
      exact ih (by omega) h4
    · rw [if_neg hz, canon_piece (by omega) (by omega), show p + (e.f - p) = e.f by omega, canon_new (all_new e.x), hx, List.nil_append, filt_pend ha, List.filter_cons, List.filter_cons, ih h2 h4]
/-- Composing with no edits gives the normal form. -/
theorem cmpl_nil {s : List Int} {l : List Ee} (h : Vld s.length 0 l) : cmpl s l [] = norml s l := by
  have hsrc := srcl_src h
  have hz : (srcl s 0 l).map Prod.fst = appl s 0 l := srcl_fst s l 0
  have ht : thru (srcl s 0 l) (srcl (appl s 0 l) 0 []) = srcl s 0 l := by
    rw [srcl_nil _ _ (Nat.zero_le _), thru_slice hz, List.drop_zero, Nat.sub_zero, List.take_of_length_le (by rw [← hz, List.length_map]; exact Nat.le_refl _)]
  unfold cmpl
  rw [ht]
  unfold norml
  rw [joinl_of_sep (canon_sep (x := []) hsrc), canon_srcl (Nat.le_refl _) h]
  cases l with
  | nil =>
    simp only [jn, joinl]
    have := filt_pend (s := s) (a := 0) (p := 0) (x := []) (Nat.le_refl _) []
    simpa using this.symm
  | cons e l =>
    simp only [jn, joinl]
    by_cases hz : (0 : Nat) = e.f
    · rw [if_pos hz]
      obtain ⟨f, t, x⟩ := e
      simp only at hz
      subst hz
      rfl
    · rw [if_neg hz]
      have := filt_pend (s := s) (a := 0) (p := 0) (x := []) (Nat.le_refl _) (jn e l)
      simpa using this.symm

end Go.Proofs.Ytfhpllcdlejfjaa
