/- The mathematics of joined texts: their units, lines and positions. It has no conditions. -/
import Derived.Test.YtfhpllcdlejfjaaPText
import Derived.Test.YtfhpllcdlejfjaaPOff
namespace Go.Proofs.Ytfhpllcdlejfjaa
open Go.RowKit
set_option linter.unusedVariables false

theorem lnsF_append (A B : List Int) : ∀ i, lnsF i (A ++ B) = lnsF i A ++ lnsF (i + A.length) B := by
  induction A with
  | nil => intro i; simp [lnsF]
  | cons c A ih =>
    intro i
    have h : i + (c :: A).length = i + 1 + A.length := by simp; omega
    rw [List.cons_append, lnsF, lnsF, ih (i + 1), h]
    split <;> simp
theorem lnsF_shift (n : Nat) (B : List Int) : ∀ i, lnsF (n + i) B = (lnsF i B).map (fun x => (n : Int) + x) := by
  induction B with
  | nil => intro i; rfl
  | cons c B ih =>
    intro i
    rw [lnsF, lnsF, Nat.add_assoc, ih (i + 1)]
    split
    · simp
    · rfl
theorem lns_join (A B : List Int) : lns (A ++ B) = lns A ++ (lns B).tail.map (fun x => (A.length : Int) + x) := by
  have := lnsF_shift A.length B 0
  rw [Nat.add_zero] at this
  simp only [lns, lnsF_append, Nat.zero_add, List.tail_cons, this, List.cons_append]
theorem unis_join {A B : List Int} (w : Whl A) : unis (A ++ B) = unis A + unis B := by
  have h := Bord.join w (Bord.full B)
  have := h.unis_take
  rwa [List.take_of_length_le (by rw [List.length_append]; exact Nat.le_refl _)] at this
theorem ab_right (A B : List Int) (k : Nat) : ab (A ++ B) (A.length + k) = ab B k := by unfold ab; rw [List.getElem?_append_right (by omega)]; congr 2; omega
theorem lf_left (A B : List Int) (i : Nat) (hi : i ≤ A.length) : lf (A ++ B) i = lf A i := by
  induction i with
  | zero => rfl
  | succ i ih =>
    have h := ab_append (A := A) (B := B) (j := i) (by omega)
    rw [lf, lf, h, ih (by omega)]
theorem lf_join (A B : List Int) (k : Nat) : lf (A ++ B) (A.length + k) = ((lf A A.length).1 + (lf B k).1, if (lf B k).1 = 0 then (lf A A.length).2 else A.length + (lf B k).2) := by
  induction k with
  | zero => rw [Nat.add_zero, lf_left A B _ (Nat.le_refl _)]; rfl
  | succ k ih =>
    have h := ab_right A B k
    rw [← Nat.add_assoc]
    by_cases h10 : ab B k = 10
    · rw [lf_nl h10, lf_nl (h.trans h10), ih]
      simp only
      rw [if_neg (by omega)]
      congr 1
    · rw [lf_no h10, lf_no (fun e => h10 (h.symm.trans e)), ih]
theorem lf_zero_start (Z : List Int) (k : Nat) (h : (lf Z k).1 = 0) : (lf Z k).2 = 0 := by
  have := lf_line (Z := Z) (i := 0) k (by rw [Nat.zero_add, h]; rfl)
  rw [Nat.zero_add] at this
  rw [this]; rfl
/-- A position in the second one of two texts, found behind the first one. -/
theorem pos_join {A B : List Int} (w : Whl A) {L U k l u : Nat} (hA : Pos A A.length L U) (hB : Pos B k l u) : Pos (A ++ B) (A.length + k) (L + l) (if l = 0 then U + u else u) := by
  obtain ⟨V, hV⟩ := hB.1
  have hl := lf_join A B k
  have hj := Bord.join w hV
  rw [← hA.2.1, ← hB.2.1] at hl
  refine ⟨⟨_, hj⟩, by rw [hl], ?_⟩
  rw [hl]
  simp only
  by_cases h0 : l = 0
  · rw [if_pos h0, if_pos h0]
    have hs := lf_zero_start B k (by rw [← hB.2.1]; exact h0)
    have hb := hB.2.2
    rw [hs, List.drop_zero, Nat.sub_zero] at hb
    obtain ⟨UF, hF⟩ := lf_bord (Z := A) (i := A.length) (Nat.le_refl _)
    have hle := (lf_le A A.length).1
    obtain ⟨w1, h1, h2⟩ := hF.diff (Bord.full A) hle
    obtain ⟨w2, h3, h4⟩ := (hF.append (B := B) w).diff (Bord.join w hb) (by omega)
    have := h1.det hA.2.2
    have e : w2 = U + u := by omega
    rwa [← e]
  · rw [if_neg h0, if_neg h0]
    have hb := hB.2.2
    have hle := (lf_le B k).1
    rw [← List.drop_drop, List.drop_left, show A.length + k - (A.length + (lf B k).2) = k - (lf B k).2 by omega]
    exact hb

end Go.Proofs.Ytfhpllcdlejfjaa
