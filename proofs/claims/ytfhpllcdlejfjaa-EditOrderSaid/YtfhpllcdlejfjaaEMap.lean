/- The mathematics of Map: where an offset is behind valid edits. It has no conditions. -/
import Derived.Test.YtfhpllcdlejfjaaEMath
namespace Go.Proofs.Ytfhpllcdlejfjaa
open Go.RowKit
set_option linter.unusedVariables false

/-- The edit lies before the offset. -/
def Bef (e : Ee) (off : Nat) : Prop := e.t < off ∨ (e.t = off ∧ e.f < e.t)
instance (e : Ee) (off : Nat) : Decidable (Bef e off) := by unfold Bef; exact inferInstance
/-- The offset in the new text, before insertions; q belongs to p. -/
def lowF : List Ee → Nat → Nat → Nat → Nat
  | [], p, q, off => q + (off - p)
  | e :: l, p, q, off => if Bef e off then lowF l e.t (q + (e.f - p) + e.x.length) off else if e.f < off then q + (e.f - p) else q + (off - p)
/-- The offset in the new text, after insertions. -/
def highF : List Ee → Nat → Nat → Nat → Nat
  | [], p, q, off => q + (off - p)
  | e :: l, p, q, off => if Bef e off then highF l e.t (q + (e.f - p) + e.x.length) off else if e.f < off then q + (e.f - p) + e.x.length else if e.t = off then highF l e.t (q + (e.f - p) + e.x.length) off else q + (off - p)
theorem lowF_ge {n : Nat} : ∀ {l : List Ee} {p q off : Nat}, Vld n p l → q ≤ lowF l p q off := by
  intro l
  induction l with
  | nil => intro p q off _; simp only [lowF]; omega
  | cons e l ih =>
    intro p q off h
    simp only [lowF]
    split
    · have := ih (q := q + (e.f - p) + e.x.length) (off := off) h.2.2.2; omega
    · split <;> omega
theorem highF_ge {n : Nat} : ∀ {l : List Ee} {p q off : Nat}, Vld n p l → q ≤ highF l p q off := by
  intro l
  induction l with
  | nil => intro p q off _; simp only [highF]; omega
  | cons e l ih =>
    intro p q off h
    have := ih (q := q + (e.f - p) + e.x.length) (off := off) h.2.2.2
    simp only [highF]
    split
    · omega
    · split
      · omega
      · split <;> omega
theorem lowF_mono {n : Nat} : ∀ {l : List Ee} {p q a b : Nat}, Vld n p l → p ≤ a → a ≤ b → lowF l p q a ≤ lowF l p q b := by
  intro l
  induction l with
  | nil => intro p q a b _ _ _; simp only [lowF]; omega
  | cons e l ih =>
    intro p q a b h hp hab
    obtain ⟨h1, h2, h3, h4⟩ := h
    simp only [lowF]
    by_cases ha : Bef e a
    · have hb : Bef e b := by unfold Bef at ha ⊢; omega
      have hta : e.t ≤ a := by unfold Bef at ha; omega
      rw [if_pos ha, if_pos hb]
      exact ih h4 hta hab
    · rw [if_neg ha]
      by_cases hb : Bef e b
      · rw [if_pos hb]
        have := lowF_ge (n := n) (q := q + (e.f - p) + e.x.length) (off := b) h4
        split <;> omega
      · rw [if_neg hb]
        split <;> split <;> omega
theorem highF_mono {n : Nat} : ∀ {l : List Ee} {p q a b : Nat}, Vld n p l → p ≤ a → a ≤ b → highF l p q a ≤ highF l p q b := by
  intro l
  induction l with
  | nil => intro p q a b _ _ _; simp only [highF]; omega
  | cons e l ih =>
    intro p q a b h hp hab
    obtain ⟨h1, h2, h3, h4⟩ := h
    have hg := highF_ge (n := n) (q := q + (e.f - p) + e.x.length) (off := b) h4
    simp only [highF]
    by_cases ha : Bef e a
    · have hb : Bef e b := by unfold Bef at ha ⊢; omega
      have hta : e.t ≤ a := by unfold Bef at ha; omega
      rw [if_pos ha, if_pos hb]
      exact ih h4 hta hab
    · rw [if_neg ha]
      by_cases hb : Bef e b
      · rw [if_pos hb]
        split
        · omega
        · split
          · rename_i h5 h6
            exact ih h4 (by omega) hab
          · omega
      · rw [if_neg hb]
        by_cases hfa : e.f < a
        · rw [if_pos hfa, if_pos (by omega)]; omega
        · rw [if_neg hfa]
          by_cases hta : e.t = a
          · rw [if_pos hta]
            by_cases hab2 : a = b
            · subst hab2; rw [if_neg hfa, if_pos hta]; exact Nat.le_refl _
            · exfalso; unfold Bef at hb; omega
          · rw [if_neg hta]
            split
            · omega
            · split <;> omega
theorem low_le_high {n : Nat} : ∀ {l : List Ee} {p q off : Nat}, Vld n p l → p ≤ off → lowF l p q off ≤ highF l p q off := by
  intro l
  induction l with
  | nil => intro p q off _ _; exact Nat.le_refl _
  | cons e l ih =>
    intro p q off h hp
    obtain ⟨h1, h2, h3, h4⟩ := h
    have hg := highF_ge (n := n) (q := q + (e.f - p) + e.x.length) (off := off) h4
    simp only [lowF, highF]
    by_cases ha : Bef e off
    · rw [if_pos ha, if_pos ha]
      exact ih h4 (by unfold Bef at ha; omega)
    · rw [if_neg ha, if_neg ha]
      split
      · omega
      · split <;> omega
/-- No offset leads behind the new text, and the end leads to the end. -/
theorem high_le {s : List Int} : ∀ {l : List Ee} {p q off : Nat}, Vld s.length p l → p ≤ off → off ≤ s.length → highF l p q off ≤ q + (appl s p l).length := by
  intro l
  induction l with
  | nil => intro p q off _ hp ho; simp only [highF, appl, List.length_drop]; omega
  | cons e l ih =>
    intro p q off h hp ho
    obtain ⟨h1, h2, h3, h4⟩ := h
    have hm := mid_len (s := s) h1 (by omega)
    simp only [highF, appl, List.length_append, hm]
    by_cases ha : Bef e off
    · rw [if_pos ha]
      have := ih (q := q + (e.f - p) + e.x.length) h4 (by unfold Bef at ha; omega) ho
      omega
    · rw [if_neg ha]
      split
      · omega
      · split
        · have := ih (q := q + (e.f - p) + e.x.length) h4 (by omega) ho
          omega
        · unfold Bef at ha; omega
theorem high_end {s : List Int} : ∀ {l : List Ee} {p q : Nat}, Vld s.length p l → highF l p q s.length = q + (appl s p l).length := by
  intro l
  induction l with
  | nil => intro p q h; simp only [highF, appl, List.length_drop]
  | cons e l ih =>
    intro p q h
    obtain ⟨h1, h2, h3, h4⟩ := h
    have hm := mid_len (s := s) h1 (by omega)
    have hi := ih (q := q + (e.f - p) + e.x.length) h4
    simp only [highF, appl, List.length_append, hm]
    by_cases ha : Bef e s.length
    · rw [if_pos ha, hi]; omega
    · rw [if_neg ha]
      have hte : e.t = s.length ∧ e.f = s.length := by unfold Bef at ha; omega
      rw [if_neg (by omega), if_pos hte.1, hi]; omega
theorem low_start {n : Nat} {l : List Ee} {q : Nat} (h : Vld n 0 l) : lowF l 0 q 0 = q := by
  cases l with
  | nil => simp [lowF]
  | cons e l =>
    simp only [lowF]
    rw [if_neg (by unfold Bef; omega), if_neg (by omega)]; omega
/-- A byte that no edit replaces is found at its image. -/
theorem kept_image {s : List Int} : ∀ {l : List Ee} {p q off : Nat}, Vld s.length p l → p ≤ off → off < s.length → (∀ e ∈ l, off < e.f ∨ e.t ≤ off) → highF l p q off < q + (appl s p l).length ∧ (appl s p l)[highF l p q off - q]? = s[off]? := by
  intro l
  induction l with
  | nil =>
    intro p q off _ hp ho _
    simp only [highF, appl, List.length_drop, List.getElem?_drop]
    exact ⟨by omega, by congr 1; omega⟩
  | cons e l ih =>
    intro p q off h hp ho hk
    obtain ⟨h1, h2, h3, h4⟩ := h
    have hm := mid_len (s := s) h1 (by omega)
    have hke := hk e (by simp)
    have hkl : ∀ e' ∈ l, off < e'.f ∨ e'.t ≤ off := fun e' he' => hk e' (by simp [he'])
    have step : e.t ≤ off → highF l e.t (q + (e.f - p) + e.x.length) off < q + (appl s p (e :: l)).length ∧ (appl s p (e :: l))[highF l e.t (q + (e.f - p) + e.x.length) off - q]? = s[off]? := by
      intro ht
      obtain ⟨a, b⟩ := ih (q := q + (e.f - p) + e.x.length) h4 ht ho hkl
      have hg := highF_ge (n := s.length) (q := q + (e.f - p) + e.x.length) (off := off) h4
      simp only [appl, List.length_append, hm]
      refine ⟨by omega, ?_⟩
      rw [List.getElem?_append_right (by rw [hm]; omega), List.getElem?_append_right (by rw [hm]; omega), hm, ← b]
      congr 1; omega
    simp only [highF]
    by_cases ha : Bef e off
    · rw [if_pos ha]
      exact step (by unfold Bef at ha; omega)
    · rw [if_neg ha]
      by_cases hf : e.f < off
      · exfalso; unfold Bef at ha; omega
      · rw [if_neg hf]
        by_cases ht : e.t = off
        · rw [if_pos ht]; exact step (by omega)
        · rw [if_neg ht]
          simp only [appl, List.length_append, hm]
          refine ⟨by omega, ?_⟩
          rw [Nat.add_sub_cancel_left, List.getElem?_append_left (by rw [hm]; omega), List.getElem?_take, if_pos (by omega), List.getElem?_drop]
          congr 1; omega

/-- The reference's loop. -/
def mapl (off : Int) (af : Bool) : List Ee → Int → Int → Int
  | [], d, m => if af then off + d + m else off + d
  | e :: l, d, m =>
    if (e.t : Int) < off ∨ ((e.t : Int) = off ∧ (e.f : Int) < (e.t : Int)) then mapl off af l (d + e.x.length - ((e.t : Int) - (e.f : Int))) m
    else if (e.f : Int) < off then (if af then (e.f : Int) + d + e.x.length else (e.f : Int) + d)
    else if (e.t : Int) = off then mapl off af l d (m + e.x.length) else mapl off af l d m
/-- Edits behind the offset leave it, but for insertions. -/
theorem mapl_behind_low {n : Nat} : ∀ {l : List Ee} {p : Nat} {off : Nat} {d m : Int}, Vld n p l → off ≤ p → mapl (off : Int) false l d m = (off : Int) + d := by
  intro l
  induction l with
  | nil => intro p off d m _ _; simp [mapl]
  | cons e l ih =>
    intro p off d m h hp
    obtain ⟨h1, h2, h3, h4⟩ := h
    simp only [mapl]
    rw [if_neg (by omega), if_neg (by omega)]
    split
    · exact ih h4 (by omega)
    · exact ih h4 (by omega)
theorem mapl_low {n : Nat} : ∀ {l : List Ee} {p q off : Nat} {m : Int}, Vld n p l → p ≤ off → mapl (off : Int) false l ((q : Int) - (p : Int)) m = (lowF l p q off : Int) := by
  intro l
  induction l with
  | nil => intro p q off m _ hp; simp only [mapl, lowF]; rw [if_neg (by simp)]; omega
  | cons e l ih =>
    intro p q off m h hp
    obtain ⟨h1, h2, h3, h4⟩ := h
    simp only [mapl, lowF]
    by_cases ha : Bef e off
    · have ha2 := ha
      unfold Bef at ha2
      rw [if_pos ha, if_pos (by omega), ← ih (q := q + (e.f - p) + e.x.length) (m := m) h4 (by omega)]
      congr 1; omega
    · have ha2 := ha
      unfold Bef at ha2
      rw [if_neg ha, if_neg (by omega)]
      by_cases hf : e.f < off
      · rw [if_pos hf, if_pos (by omega)]; simp; omega
      · rw [if_neg hf, if_neg (by omega)]
        split
        · rw [mapl_behind_low (n := n) h4 (by omega)]; omega
        · rw [mapl_behind_low (n := n) h4 (by omega)]; omega
theorem mapl_behind_high {n : Nat} : ∀ {l : List Ee} {p : Nat} {off : Nat} {d m : Int}, Vld n p l → off < p → mapl (off : Int) true l d m = (off : Int) + d + m := by
  intro l
  induction l with
  | nil => intro p off d m _ _; simp [mapl]
  | cons e l ih =>
    intro p off d m h hp
    obtain ⟨h1, h2, h3, h4⟩ := h
    simp only [mapl]
    rw [if_neg (by omega), if_neg (by omega), if_neg (by omega)]
    exact ih h4 (by omega)
theorem highF_shift : ∀ (l : List Ee) (p q k off : Nat), highF l p (q + k) off = highF l p q off + k := by
  intro l
  induction l with
  | nil => intro p q k off; simp only [highF]; omega
  | cons e l ih =>
    intro p q k off
    have h1 : q + k + (e.f - p) + e.x.length = (q + (e.f - p) + e.x.length) + k := by omega
    simp only [highF]
    rw [h1, ih]
    split
    · rfl
    · split
      · omega
      · split <;> omega
theorem mapl_high {n : Nat} : ∀ {l : List Ee} {p q off : Nat} {m : Int}, Vld n p l → p ≤ off → (m ≠ 0 → p = off) → mapl (off : Int) true l ((q : Int) - (p : Int)) m = (highF l p q off : Int) + m := by
  intro l
  induction l with
  | nil => intro p q off m _ hp _; simp only [mapl, highF]; rw [if_pos (by trivial)]; omega
  | cons e l ih =>
    intro p q off m h hp hm
    obtain ⟨h1, h2, h3, h4⟩ := h
    simp only [mapl, highF]
    by_cases ha : Bef e off
    · have ha2 := ha
      unfold Bef at ha2
      rw [if_pos ha, if_pos (by omega), ← ih (q := q + (e.f - p) + e.x.length) (m := m) h4 (by omega) (fun h => by have := hm h; omega)]
      congr 1; omega
    · have ha2 := ha
      unfold Bef at ha2
      rw [if_neg ha, if_neg (by omega)]
      by_cases hf : e.f < off
      · have hm0 : m = 0 := by
          apply Classical.byContradiction
          intro h
          have := hm h
          omega
        rw [if_pos hf, if_pos (by omega), if_pos (by trivial)]; omega
      · rw [if_neg hf, if_neg (by omega)]
        by_cases ht : e.t = off
        · rw [if_pos ht, if_pos (by omega)]
          have h5 := ih (q := q + (e.f - p)) (m := m + e.x.length) h4 (by omega) (fun _ => ht)
          rw [highF_shift, show (q : Int) - (p : Int) = ((q + (e.f - p) : Nat) : Int) - (e.t : Int) by omega, h5]
          omega
        · rw [if_neg ht, if_neg (by omega), mapl_behind_high (n := n) h4 (by omega)]
          omega

end Go.Proofs.Ytfhpllcdlejfjaa
