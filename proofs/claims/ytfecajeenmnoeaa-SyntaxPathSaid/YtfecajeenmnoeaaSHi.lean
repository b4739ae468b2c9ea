/- Which leaf holds a byte: at most one; the leaves of a kid are leaves of the tree. Mathematics; it has no conditions. -/
import Derived.Test.YtfecajeenmnoeaaSCm
namespace Go.Proofs.Ytfecajeenmnoeaa
open Go.RowKit Go.Shelf
set_option linter.unusedVariables false

theorem toks_ge : ∀ (l : List (Int × ByteArray)) (n : Nat), ∀ x ∈ toks l n, n ≤ x.2.2
  | [], n, x, hx => by simp [toks] at hx
  | y :: l, n, x, hx => by
    rw [toks] at hx
    rcases List.mem_cons.1 hx with rfl | hx
    · exact Nat.le_refl _
    · have := toks_ge l (n + y.2.size) x hx; omega
theorem toks_pair : ∀ (l : List (Int × ByteArray)) (n : Nat), (toks l n).Pairwise (fun x y => x.2.2 + x.2.1.size ≤ y.2.2)
  | [], n => by simp [toks]
  | y :: l, n => by
    rw [toks, List.pairwise_cons]
    exact ⟨fun x hx => toks_ge l (n + y.2.size) x hx, toks_pair l (n + y.2.size)⟩
theorem lspots_pair {t : Nd} (ht : t.tidy) : (lspots t).Pairwise (fun x y => x.off + x.nd.text.size ≤ y.off) := by
  have h := toks_pair t.lf 0
  rw [← lspots_toks t ht, List.pairwise_map] at h
  exact h
theorem hit_det {t : Nd} (ht : t.tidy) {o : Int} {s s' : Spot} (hs : s ∈ lspots t) (hs' : s' ∈ lspots t) (h : Hit o s) (h' : Hit o s') : s = s' := by
  obtain ⟨i, hi, rfl⟩ := List.mem_iff_getElem.1 hs
  obtain ⟨j, hj, rfl⟩ := List.mem_iff_getElem.1 hs'
  have hp := List.pairwise_iff_getElem.1 (lspots_pair ht)
  obtain ⟨a1, a2⟩ := h
  obtain ⟨b1, b2⟩ := h'
  rcases Nat.lt_trichotomy i j with hl | hl | hl
  · have := hp i j hi hj hl; omega
  · subst hl; rfl
  · have := hp j i hj hi hl; omega
mutual
theorem spots_shift : ∀ (t : Nd) (r p : List Nat) (o o' : Nat), spots t (r ++ p) (o + o') = (spots t p o').map fun s => ⟨r ++ s.path, s.nd, o + s.off⟩
  | .mk i k x ks, r, p, o, o' => by
    rw [spots, spots, List.map_cons, ← spotsL_shift ks r p 0 o, Nat.add_assoc]
theorem spotsL_shift : ∀ (l : List Nd) (r p : List Nat) (i o o' : Nat), spotsL l (r ++ p) i (o + o') = (spotsL l p i o').map fun s => ⟨r ++ s.path, s.nd, o + s.off⟩
  | [], r, p, i, o, o' => by simp [spotsL]
  | x :: l, r, p, i, o, o' => by
    rw [spotsL, spotsL, List.map_append, ← spotsL_shift l r p (i + 1) o, ← spots_shift x r (p ++ [i]) o, List.append_assoc, Nat.add_assoc]
end
/-- A leaf of a kid is a leaf of the tree. -/
theorem kid_spot {t : Nd} (hl : ¬ t.leaf) {i : Nat} (hi : i < t.kids.length) {s : Spot} (hs : s ∈ lspots t.kids[i]) : (⟨i :: s.path, s.nd, pws (t.kids.take i) + s.off⟩ : Spot) ∈ lspots t := by
  obtain ⟨h1, h2⟩ := lspots_leaf hs
  refine List.mem_filter.2 ⟨?_, decide_eq_true (show s.nd.leaf from h1)⟩
  rw [spots_eq, if_neg hl]
  obtain ⟨pre, post, h3, _⟩ := spotsL_get t.kids [] 0 (0 + 0) i hi
  rw [h3]
  refine List.mem_cons_of_mem _ (List.mem_append_left _ (List.mem_append_right _ ?_))
  have h4 := spots_shift t.kids[i] [i] [] (pws (t.kids.take i)) 0
  rw [List.append_nil, Nat.add_zero] at h4
  rw [show ([] : List Nat) ++ [0 + i] = [i] by simp, show 0 + 0 + pws (t.kids.take i) = pws (t.kids.take i) by omega, h4]
  exact List.mem_map.2 ⟨s, h2, rfl⟩
theorem leaf_spot {t : Nd} (ht : t.tidy) (hl : t.leaf) : lspots t = [⟨[], t, 0⟩] := by
  obtain ⟨i, k, x, ks⟩ := t
  rw [Nd.tidy] at ht
  have := ht.1 hl
  subst this
  unfold lspots
  rw [spots, spotsL, List.filter_cons, if_pos (decide_eq_true hl)]
  rfl
/-- No leaf holds a byte outside the text. -/
theorem no_hit {t : Nd} (ht : t.tidy) {o : Int} (ho : o < 0 ∨ (wid t.lf : Int) ≤ o) : ∀ s ∈ lspots t, ¬ Hit o s := fun s hs ⟨h1, h2⟩ => by
  have h3 := (off_leaf hs).1
  have h4 := pw_lf t ht
  omega

end Go.Proofs.Ytfecajeenmnoeaa
