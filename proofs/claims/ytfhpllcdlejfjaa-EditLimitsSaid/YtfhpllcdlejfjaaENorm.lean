/- The mathematics of normal forms: neighbors joined, edits that change nothing removed. It has no conditions. -/
import Derived.Test.YtfhpllcdlejfjaaEMath
namespace Go.Proofs.Ytfhpllcdlejfjaa
open Go.RowKit
set_option linter.unusedVariables false

/-- The edits with neighbors joined; c is the last one so far. -/
def jn (c : Ee) : List Ee → List Ee
  | [] => [c]
  | e :: l => if c.t = e.f then jn ⟨c.f, e.t, c.x ++ e.x⟩ l else c :: jn e l
def joinl : List Ee → List Ee
  | [] => []
  | e :: l => jn e l
/-- The edit changes something. -/
def Chg (s : List Int) (e : Ee) : Bool := decide ((s.drop e.f).take (e.t - e.f) ≠ e.x)
def norml (s : List Int) (l : List Ee) : List Ee := (joinl l).filter (Chg s)
theorem jn_vld {n : Nat} : ∀ {l : List Ee} {p : Nat} {c : Ee}, p ≤ c.f → c.f ≤ c.t → c.t ≤ n → Vld n c.t l → Vld n p (jn c l) := by
  intro l
  induction l with
  | nil => intro p c h1 h2 h3 h; exact ⟨h1, h2, h3, h3⟩
  | cons e l ih =>
    intro p c h1 h2 h3 h
    obtain ⟨k1, k2, k3, k4⟩ := h
    simp only [jn]
    split
    · rename_i heq
      exact ih (c := ⟨c.f, e.t, c.x ++ e.x⟩) h1 (by simp only; omega) k3 k4
    · exact ⟨h1, h2, h3, ih (c := e) k1 k2 k3 k4⟩
theorem joinl_vld {n p : Nat} {l : List Ee} (h : Vld n p l) : Vld n p (joinl l) := by
  cases l with
  | nil => exact h
  | cons e l => exact jn_vld h.1 h.2.1 h.2.2.1 h.2.2.2
theorem jn_appl {s : List Int} : ∀ {l : List Ee} {p : Nat} {c : Ee}, appl s p (jn c l) = (s.drop p).take (c.f - p) ++ (c.x ++ appl s c.t l) := by
  intro l
  induction l with
  | nil => intro p c; rfl
  | cons e l ih =>
    intro p c
    simp only [jn]
    split
    · rename_i heq
      rw [ih]
      simp only [appl, heq, Nat.sub_self, List.take_zero, List.nil_append, List.append_assoc]
    · simp only [appl]
      rw [ih]
/-- Joining neighbors leads to the same text. -/
theorem joinl_appl (s : List Int) (p : Nat) (l : List Ee) : appl s p (joinl l) = appl s p l := by
  cases l with
  | nil => rfl
  | cons e l => exact jn_appl
theorem Vld.low {n : Nat} {l : List Ee} {p q : Nat} (h : Vld n p l) (hq : q ≤ p) : Vld n q l := by
  cases l with
  | nil => have : p ≤ n := h; show q ≤ n; omega
  | cons e l => obtain ⟨h1, h2⟩ := h; exact ⟨by omega, h2⟩
theorem filter_vld {n : Nat} (f : Ee → Bool) : ∀ {l : List Ee} {p : Nat}, Vld n p l → Vld n p (l.filter f) := by
  intro l
  induction l with
  | nil => intro p h; exact h
  | cons e l ih =>
    intro p h
    obtain ⟨h1, h2, h3, h4⟩ := h
    rw [List.filter_cons]
    split
    · exact ⟨h1, h2, h3, ih h4⟩
    · exact ih (h4.low (by omega))
/-- The bytes up to the next edit come first. -/
theorem appl_low {s : List Int} {l : List Ee} {p q : Nat} (h : Vld s.length q l) (hp : p ≤ q) : appl s p l = (s.drop p).take (q - p) ++ appl s q l := by
  have hd : ∀ r, q ≤ r → s.drop q = (s.drop p).drop (q - p) := by intro r _; rw [List.drop_drop]; congr 1; omega
  cases l with
  | nil =>
    have hq : q ≤ s.length := h
    simp only [appl]
    rw [hd q (Nat.le_refl _), List.take_append_drop]
  | cons e l =>
    obtain ⟨h1, _, _, _⟩ := h
    simp only [appl]
    have e1 : e.f - p = (q - p) + (e.f - q) := by omega
    rw [e1, List.take_add, List.append_assoc, hd q (Nat.le_refl _)]
/-- Removing what changes nothing leads to the same text. -/
theorem filter_appl {s : List Int} : ∀ {l : List Ee} {p : Nat}, Vld s.length p l → appl s p (l.filter (Chg s)) = appl s p l := by
  intro l
  induction l with
  | nil => intro p _; rfl
  | cons e l ih =>
    intro p h
    obtain ⟨h1, h2, h3, h4⟩ := h
    rw [List.filter_cons]
    split
    · simp only [appl]; rw [ih h4]
    · rename_i hc
      have hx : (s.drop e.f).take (e.t - e.f) = e.x := by
        unfold Chg at hc
        simpa using hc
      rw [appl_low (filter_vld (Chg s) h4) (by omega), ih h4]
      simp only [appl]
      rw [← hx, ← List.append_assoc]
      congr 1
      have e1 : e.t - p = (e.f - p) + (e.t - e.f) := by omega
      rw [e1, List.take_add, List.drop_drop, show p + (e.f - p) = e.f by omega]
theorem norml_appl {s : List Int} {p : Nat} {l : List Ee} (h : Vld s.length p l) : appl s p (norml s l) = appl s p l := by
  unfold norml
  rw [filter_appl (joinl_vld h), joinl_appl]
theorem norml_vld {s : List Int} {p : Nat} {l : List Ee} (h : Vld s.length p l) : Vld s.length p (norml s l) := filter_vld _ (joinl_vld h)
/-- No two edits are neighbors. -/
def Sep : List Ee → Prop
  | [] => True
  | e :: l => (∀ e' ∈ l, e.t < e'.f) ∧ Sep l
theorem Vld.mem {n : Nat} : ∀ {l : List Ee} {p : Nat}, Vld n p l → ∀ e ∈ l, p ≤ e.f ∧ e.f ≤ e.t ∧ e.t ≤ n := by
  intro l
  induction l with
  | nil => intro p _ e he; simp at he
  | cons c l ih =>
    intro p h e he
    obtain ⟨h1, h2, h3, h4⟩ := h
    rcases List.mem_cons.1 he with rfl | he
    · exact ⟨h1, h2, h3⟩
    · obtain ⟨a, b, c⟩ := ih h4 e he; exact ⟨by omega, b, c⟩
theorem jn_sep {n : Nat} : ∀ {l : List Ee} {c : Ee}, c.f ≤ c.t → c.t ≤ n → Vld n c.t l → Sep (jn c l) := by
  intro l
  induction l with
  | nil => intro c _ _ _; exact ⟨by simp, trivial⟩
  | cons e l ih =>
    intro c h1 h2 h
    obtain ⟨k1, k2, k3, k4⟩ := h
    simp only [jn]
    split
    · rename_i heq
      exact ih (c := ⟨c.f, e.t, c.x ++ e.x⟩) (by simp only; omega) k3 k4
    · rename_i hne
      refine ⟨?_, ih k2 k3 k4⟩
      intro e' he'
      have := (jn_vld (p := e.f) (Nat.le_refl _) k2 k3 k4).mem e' he'
      omega
theorem joinl_sep {n p : Nat} {l : List Ee} (h : Vld n p l) : Sep (joinl l) := by
  cases l with
  | nil => trivial
  | cons e l => exact jn_sep h.2.1 h.2.2.1 h.2.2.2
theorem filter_sep (f : Ee → Bool) : ∀ {l : List Ee}, Sep l → Sep (l.filter f) := by
  intro l
  induction l with
  | nil => intro h; exact h
  | cons e l ih =>
    intro h
    rw [List.filter_cons]
    split
    · exact ⟨fun e' he' => h.1 e' (List.mem_filter.1 he').1, ih h.2⟩
    · exact ih h.2
theorem jn_of_sep : ∀ {l : List Ee} {c : Ee}, Sep (c :: l) → jn c l = c :: l := by
  intro l
  induction l with
  | nil => intro c _; rfl
  | cons e l ih =>
    intro c h
    simp only [jn]
    have := h.1 e (by simp)
    rw [if_neg (by omega), ih h.2]
theorem joinl_of_sep {l : List Ee} (h : Sep l) : joinl l = l := by
  cases l with
  | nil => rfl
  | cons e l => exact jn_of_sep h
/-- A normal form is its own normal form, and has no neighbors. -/
theorem norml_again {s : List Int} {p : Nat} {l : List Ee} (h : Vld s.length p l) : norml s (norml s l) = norml s l ∧ Sep (norml s l) := by
  have hs := filter_sep (Chg s) (joinl_sep h)
  refine ⟨?_, hs⟩
  show (joinl ((joinl l).filter (Chg s))).filter (Chg s) = (joinl l).filter (Chg s)
  rw [joinl_of_sep hs, List.filter_filter]
  simp
theorem jn_len : ∀ (l : List Ee) (c : Ee), (jn c l).length ≤ l.length + 1 := by
  intro l
  induction l with
  | nil => intro c; simp [jn]
  | cons e l ih =>
    intro c
    simp only [jn]
    split
    · have := ih ⟨c.f, e.t, c.x ++ e.x⟩; simp; omega
    · have := ih e; simp; omega
theorem norml_len (s : List Int) (l : List Ee) : (norml s l).length ≤ l.length := by
  have h1 : (norml s l).length ≤ (joinl l).length := List.length_filter_le _ _
  cases l with
  | nil => simpa [joinl] using h1
  | cons e l => have := jn_len l e; simp only [joinl] at h1; simp; omega

end Go.Proofs.Ytfhpllcdlejfjaa
