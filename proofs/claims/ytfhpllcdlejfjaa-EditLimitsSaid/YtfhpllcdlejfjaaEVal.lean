/- The mathematics of Valid: the error of a list of edits, and what no error means. It has no conditions. -/
import Derived.Test.YtfhpllcdlejfjaaEMath
namespace Go.Proofs.Ytfhpllcdlejfjaa
open Go.RowKit
set_option linter.unusedVariables false

/-- An edit as it comes in. -/
structure Er where
  f : Int
  t : Int
  x : ByteArray
def Er.ee (e : Er) (sb : ByteArray → List Int) : Ee := ⟨e.f.toNat, e.t.toNat, sb e.x⟩
/-- The error of the first edit that has one, behind an edit that ends at p. -/
def vE (n p : Int) : List Er → Int
  | [] => 0
  | e :: l => if e.f < 0 ∨ e.t < e.f ∨ n < e.t then 5 else if e.f < p then 1 else vE n e.t l
def vErr (n : Int) (l : List Er) : Int := if 64 < l.length then 4 else vE n 0 l
theorem vE_ways (n : Int) : ∀ (l : List Er) (p : Int), vE n p l = 0 ∨ vE n p l = 1 ∨ vE n p l = 5 := by
  intro l
  induction l with
  | nil => intro p; exact .inl rfl
  | cons e l ih =>
    intro p
    simp only [vE]
    split
    · exact .inr (.inr rfl)
    · split
      · exact .inr (.inl rfl)
      · exact ih e.t
/-- No error: the edits are valid. -/
theorem vE_ok {n : Nat} (sb : ByteArray → List Int) : ∀ {l : List Er} {p : Nat}, vE (n : Int) (p : Int) l = 0 → p ≤ n → Vld n p (l.map (fun e => e.ee sb)) ∧ ∀ e ∈ l, 0 ≤ e.f ∧ e.f ≤ e.t ∧ e.t ≤ (n : Int) := by
  intro l
  induction l with
  | nil => intro p _ hp; exact ⟨hp, by simp⟩
  | cons e l ih =>
    intro p h hp
    simp only [vE] at h
    split at h
    · omega
    · rename_i h1
      split at h
      · omega
      · rename_i h2
        have ht : ((e.t.toNat : Nat) : Int) = e.t := by omega
        have hi := ih (p := e.t.toNat) (by rw [ht]; exact h) (by omega)
        refine ⟨⟨?_, ?_, ?_, hi.1⟩, fun x hx => ?_⟩
        · show p ≤ e.f.toNat; omega
        · show e.f.toNat ≤ e.t.toNat; omega
        · show e.t.toNat ≤ n; omega
        · rcases List.mem_cons.1 hx with rfl | hx
          · omega
          · exact hi.2 x hx
/-- Valid edits have no error. -/
theorem vE_of_vld {n : Nat} (sb : ByteArray → List Int) : ∀ {l : List Er} {p : Nat}, (∀ e ∈ l, 0 ≤ e.f ∧ 0 ≤ e.t) → Vld n p (l.map (fun e => e.ee sb)) → vE (n : Int) (p : Int) l = 0 := by
  intro l
  induction l with
  | nil => intro p _ _; rfl
  | cons e l ih =>
    intro p hc h
    have h0 := hc e (by simp)
    obtain ⟨h1, h2, h3, h4⟩ := h
    have g1 : p ≤ e.f.toNat := h1
    have g2 : e.f.toNat ≤ e.t.toNat := h2
    have g3 : e.t.toNat ≤ n := h3
    have hi := ih (p := e.t.toNat) (fun x hx => hc x (by simp [hx])) h4
    rw [show ((e.t.toNat : Nat) : Int) = e.t by omega] at hi
    simp only [vE]
    rw [if_neg (by omega), if_neg (by omega)]
    exact hi

end Go.Proofs.Ytfhpllcdlejfjaa
