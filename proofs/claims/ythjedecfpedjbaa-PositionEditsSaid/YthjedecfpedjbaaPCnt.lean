/- The mathematics of borders: how many there are. It has no conditions. -/
import Derived.Test.YthjedecfpedjbaaPOrd
namespace Go.Proofs.Ythjedecfpedjbaa
open Go.RowKit
set_option linter.unusedVariables false

theorem bords_pair (Z : List Int) : ∀ i, (bords i Z).Pairwise (· < ·) := by
  induction hn : Z.length using Nat.strongRecOn generalizing Z with
  | _ n ih =>
    intro i
    by_cases h : Z = []
    · subst h; rw [bords_nil]; simp
    · have h1 := chr_pos Z
      have h2 := List.length_pos_iff.2 h
      rw [bords_cons i h, List.pairwise_cons]
      refine ⟨fun x hx => ?_, ih _ (by rw [List.length_drop]; omega) _ rfl _⟩
      obtain ⟨j, u, _, rfl⟩ := mem_bords.1 hx
      omega
/-- How many of the numbers are less than k. -/
def lesser (Q : List Nat) (k : Nat) : Nat := Q.countP (fun x => decide (x < k))
theorem lesser_zero (Q : List Nat) : lesser Q 0 = 0 := by unfold lesser; rw [List.countP_eq_zero]; intro x _; simp
theorem lesser_le (Q : List Nat) (k : Nat) : lesser Q k ≤ Q.length := List.countP_le_length
theorem lesser_all {Q : List Nat} {k : Nat} (h : ∀ x ∈ Q, x < k) : lesser Q k = Q.length := by
  unfold lesser
  rw [List.countP_eq_length]
  intro x hx
  exact decide_eq_true (h x hx)
theorem lesser_step {Q : List Nat} (h : Q.Pairwise (· < ·)) (k : Nat) : lesser Q (k + 1) = lesser Q k + (if k ∈ Q then 1 else 0) := by
  induction Q with
  | nil => rfl
  | cons c Q ih =>
    rw [List.pairwise_cons] at h
    have hi := ih h.2
    unfold lesser at hi ⊢
    rw [List.countP_cons, List.countP_cons, hi]
    rcases Nat.lt_trichotomy c k with h1 | h1 | h1
    · have : (k ∈ c :: Q) ↔ (k ∈ Q) := by rw [List.mem_cons]; exact ⟨fun h => h.resolve_left (by omega), Or.inr⟩
      simp only [this]
      rw [if_pos (decide_eq_true (by omega)), if_pos (decide_eq_true h1)]; omega
    · have hk : k ∉ Q := fun hm => by have := h.1 k hm; omega
      have e1 : decide (c < k + 1) = true := decide_eq_true (by omega)
      have e2 : decide (c < k) = false := decide_eq_false (by omega)
      rw [e1, e2]
      simp [hk, h1]
    · have hk : k ∉ Q := fun hm => by have := h.1 k hm; omega
      have hk2 : k ∉ c :: Q := by rw [List.mem_cons]; rintro (e | e); · omega
                                  · exact hk e
      have e1 : decide (c < k + 1) = false := decide_eq_false (by omega)
      have e2 : decide (c < k) = false := decide_eq_false (by omega)
      rw [e1, e2]
      simp [hk, hk2]
theorem lesser_border {Z : List Int} {k U : Nat} (h : Bord Z k U) : lesser (bords 0 Z) (k + 1) = lesser (bords 0 Z) k + 1 := by
  rw [lesser_step (bords_pair Z 0), if_pos (mem_bords.2 ⟨k, U, h, by omega⟩)]
theorem lesser_none {Z : List Int} {k : Nat} (h : ¬ ∃ U, Bord Z k U) : lesser (bords 0 Z) (k + 1) = lesser (bords 0 Z) k := by
  rw [lesser_step (bords_pair Z 0), if_neg (fun hm => by obtain ⟨j, u, hb, e⟩ := mem_bords.1 hm; obtain rfl : k = j := by omega
                                                         exact h ⟨u, hb⟩)]
  rfl
theorem lesser_end (Z : List Int) : lesser (bords 0 Z) (Z.length + 1) = (bordI Z).length := by
  rw [lesser_all, bordI, List.length_map]
  intro x hx
  obtain ⟨j, u, hb, rfl⟩ := mem_bords.1 hx
  have := hb.le
  omega
theorem at_none {Z : List Int} {x l u : Nat} {e : Int} (h : AtSpec Z (x : Int) l u e) (hx : x ≤ Z.length) (hb : ¬ ∃ U, Bord Z x U) : e = 1 := by
  rcases h with ⟨rfl, rfl, rfl, h⟩ | ⟨rfl, rfl, rfl, i, hi, h1, h2⟩ | ⟨rfl, i, hi, h⟩
  · omega
  · rfl
  · obtain rfl : x = i := by omega
    exact absurd h.1 hb

end Go.Proofs.Ythjedecfpedjbaa
