/- Every place of a tidy tree is found by its path; every byte of the text lies in a leaf. Mathematics; it has no conditions. -/
import Derived.Test.YtfecajeenmnoeaaSLe
import Derived.Test.YtfecajeenmnoeaaSRg
namespace Go.Proofs.Ytfecajeenmnoeaa
open Go.RowKit Go.Shelf
set_option linter.unusedVariables false

/-- A path, as integers. -/
abbrev zi (p : List Nat) : List Int := p.map fun (i : Nat) => (i : Int)
mutual
theorem spot_get : ∀ (t : Nd) (r : List Nat) (o : Nat), t.tidy → ∀ s ∈ spots t r o, ∃ z q, s.path = r ++ z ∧ getN t (zi z) = some (s.nd, q) ∧ s.off = o + q
  | .mk i k x ks, r, o, ht, s, hs => by
    rw [spots] at hs
    rcases List.mem_cons.1 hs with rfl | hs
    · exact ⟨[], 0, by simp, by simp [getN, zi], rfl⟩
    · rw [Nd.tidy] at ht
      obtain ⟨k', z, q, hk, h1, h2, h3⟩ := spot_getL ks r 0 _ ht.2 s hs
      have hnl : ¬ (0 ≤ k ∧ k ≤ 8) := fun e => by have := ht.1 e; subst this; simp at hk
      rw [if_neg hnl] at h3
      refine ⟨k' :: z, pws (ks.take k') + q, by rw [h1, Nat.zero_add], ?_, by omega⟩
      have hz : zi (k' :: z) = (k' : Int) :: zi z := rfl
      rw [hz, getN]
      have hc : 0 ≤ (k' : Int) ∧ ((k' : Int)).toNat < (Nd.mk i k x ks).kids.length := ⟨by omega, by simpa [Nd.kids] using hk⟩
      rw [dif_pos hc]
      simp only [Int.toNat_natCast, Nd.kids]
      rw [h2]; rfl
theorem spot_getL : ∀ (l : List Nd) (r : List Nat) (i o : Nat), tidys l → ∀ s ∈ spotsL l r i o, ∃ (k : Nat) (z : List Nat) (q : Nat) (hk : k < l.length), s.path = r ++ (i + k) :: z ∧ getN l[k] (zi z) = some (s.nd, q) ∧ s.off = o + pws (l.take k) + q
  | [], r, i, o, _, s, hs => by simp [spotsL] at hs
  | x :: l, r, i, o, ht, s, hs => by
    rw [tidys] at ht
    rw [spotsL] at hs
    rcases List.mem_append.1 hs with hs | hs
    · obtain ⟨z, q, h1, h2, h3⟩ := spot_get x (r ++ [i]) o ht.1 s hs
      exact ⟨0, z, q, by simp, by rw [h1, List.append_assoc]; rfl, h2, by simp [pws]; omega⟩
    · obtain ⟨k, z, q, hk, h1, h2, h3⟩ := spot_getL l r (i + 1) _ ht.2 s hs
      refine ⟨k + 1, z, q, by simpa using hk, by rw [h1, show i + 1 + k = i + (k + 1) by omega], h2, ?_⟩
      rw [List.take_succ_cons, pws]; omega
end
theorem lspot_get {t : Nd} (ht : t.tidy) {s : Spot} (hs : s ∈ lspots t) : getN t (zi s.path) = some (s.nd, s.off) ∧ s.nd.kids = [] ∧ 0 ≤ s.nd.kind ∧ s.nd.kind ≤ 8 := by
  obtain ⟨h1, h2⟩ := lspots_leaf hs
  obtain ⟨z, q, h3, h4, h5⟩ := spot_get t [] 0 ht s h2
  rw [List.nil_append] at h3
  subst h3
  rw [Nat.zero_add] at h5
  subst h5
  have h6 := getN_tidy _ _ _ _ ht h4
  obtain ⟨path, ⟨i, k, x, ks⟩, off⟩ := s
  rw [Nd.tidy] at h6
  exact ⟨h4, h6.1 h1, h1⟩
/-- The leaf that holds a byte. -/
theorem toks_hit : ∀ (l : List (Int × ByteArray)) (n o : Nat), n ≤ o → o < n + wid l → ∃ x ∈ toks l n, x.2.2 ≤ o ∧ o < x.2.2 + x.2.1.size
  | [], n, o, h1, h2 => by simp [wid] at h2; omega
  | y :: l, n, o, h1, h2 => by
    rw [wid] at h2
    rw [toks]
    by_cases h : o < n + y.2.size
    · exact ⟨_, List.mem_cons_self .., h1, h⟩
    · obtain ⟨x, hx, h3, h4⟩ := toks_hit l (n + y.2.size) o (by omega) (by omega)
      exact ⟨x, List.mem_cons_of_mem _ hx, h3, h4⟩
theorem hit_ex {t : Nd} (ht : t.tidy) {o : Nat} (ho : o < wid t.lf) : ∃ s ∈ lspots t, Hit (o : Int) s := by
  obtain ⟨x, hx, h1, h2⟩ := toks_hit t.lf 0 o (by omega) (by omega)
  rw [← lspots_toks t ht] at hx
  obtain ⟨s, hs, rfl⟩ := List.mem_map.1 hx
  exact ⟨s, hs, by constructor <;> simp only at h1 h2 <;> omega⟩
theorem cat_at : ∀ (l : List (Int × ByteArray)) (n : Nat), ∀ x ∈ toks l n, ∀ j (h1 : j < x.2.1.size), n ≤ x.2.2 ∧ ∃ h2 : x.2.2 - n + j < (cat l).size, (cat l)[x.2.2 - n + j] = x.2.1[j]
  | [], n, x, hx, j, h1 => by simp [toks] at hx
  | y :: l, n, x, hx, j, h1 => by
    rw [toks] at hx
    rcases List.mem_cons.1 hx with rfl | hx
    · refine ⟨Nat.le_refl _, by rw [cat, ByteArray.size_append]; simp only at h1 ⊢; omega, ?_⟩
      simp only [cat, Nat.sub_self, Nat.zero_add]
      exact ByteArray.getElem_append_left _
    · obtain ⟨h2, h3, h4⟩ := cat_at l (n + y.2.size) x hx j h1
      refine ⟨by omega, by rw [cat, ByteArray.size_append]; omega, ?_⟩
      simp only [cat]
      rw [ByteArray.getElem_append_right (by omega)]
      rw [← h4]
      congr 1
      omega
theorem leaf_byte {t : Nd} (ht : t.tidy) {s : Spot} (hs : s ∈ lspots t) {j : Nat} (hj : j < s.nd.text.size) : ∃ h2 : s.off + j < (cat t.lf).size, (cat t.lf)[s.off + j] = s.nd.text[j] := by
  have hx : (s.nd.kind, s.nd.text, s.off) ∈ toks t.lf 0 := by rw [← lspots_toks t ht]; exact List.mem_map.2 ⟨s, hs, rfl⟩
  obtain ⟨_, h2, h3⟩ := cat_at t.lf 0 _ hx j hj
  simp only [Nat.sub_zero] at h2 h3
  exact ⟨h2, h3⟩

end Go.Proofs.Ytfecajeenmnoeaa
