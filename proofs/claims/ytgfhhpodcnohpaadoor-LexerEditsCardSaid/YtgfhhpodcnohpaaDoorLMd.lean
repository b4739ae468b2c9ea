/- Tokens: a text that goes on: the tokens but the last stay. It has no conditions. -/
import Derived.Test.YtgfhhpodcnohpaaDoorLMc
namespace Go.Proofs.YtgfhhpodcnohpaaDoor
set_option linter.unusedVariables false

theorem head_app' {d : List Int} (h : d ≠ []) (m : List Int) : (d ++ m).head? = d.head? := by
  cases d with
  | nil => exact absurd rfl h
  | cons c r => rfl
theorem endB_app {d : List Int} (h : endB d = true) (m : List Int) : endB (d ++ m) = true := by
  cases d with
  | nil => simp [endB, prop] at h
  | cons c r =>
    rw [endB_iff] at h
    rw [List.cons_append, endB_iff]
    intro h2
    apply h
    cases r with
    | nil => exact dull_none h2
    | cons e r => exact h2
theorem ends_app {k : Int} {u d : List Int} (h : ends k u d) (hd : d ≠ []) (m : List Int) : ends k u (d ++ m) := by
  unfold ends at h ⊢
  rw [head_app' hd]
  split
  · rwa [if_pos ‹_›] at h
  · rw [if_neg ‹_›] at h
    split
    · rwa [if_pos ‹_›] at h
    · rw [if_neg ‹_›] at h
      split
      · rwa [if_pos ‹_›] at h
      · rw [if_neg ‹_›] at h
        split
        · rwa [if_pos ‹_›] at h
        · rw [if_neg ‹_›] at h
          split
          · rwa [if_pos ‹_›] at h
          · rw [if_neg ‹_›] at h
            split
            · trivial
            · rw [if_neg ‹_›] at h
              split
              · rwa [if_pos ‹_›] at h
              · rw [if_neg ‹_›] at h
                split
                · rwa [if_pos ‹_›] at h
                · rw [if_neg ‹_›] at h
                  refine ⟨?_, h.2⟩
                  rcases h.1 with h1 | h1
                  · exact absurd h1 hd
                  · exact .inr (endB_app h1 m)
/-- The first token of a text that goes on, where it is not the last. -/
theorem fst_app {l : List Int} (h0 : l ≠ []) (hd : l.drop (fst_ l).2 ≠ []) (m : List Int) : fst_ (l ++ m) = fst_ l := by
  obtain ⟨h1, h2⟩ := t_split h0
  have hp := fst_pos h0
  obtain ⟨⟨k, n⟩, hk⟩ : ∃ x, fst_ l = x := ⟨_, rfl⟩
  rw [hk] at h1 h2 hp hd ⊢
  simp only at h1 h2 hp hd
  have hl : (l.take n).length = n := by rw [List.length_take]; omega
  have := t_join (u := l.take n) (m := l.drop n ++ m) (k := k) (fun e => by rw [e] at hl; simp at hl; omega) (by rw [h1, hl]) (ends_app h2 hd m)
  rw [← List.append_assoc, List.take_append_drop, hl] at this
  exact this
theorem lex_app : ∀ (N : Nat) (l m : List Int) (p : Nat), l.length ≤ N → (lex l p).length ≤ (lex (l ++ m) p).length ∧ ∀ k, k + 1 < (lex l p).length → (lex (l ++ m) p)[k]? = (lex l p)[k]? := by
  intro N
  induction N with
  | zero =>
    intro l m p h
    have : l = [] := List.eq_nil_of_length_eq_zero (by omega)
    subst this
    exact ⟨Nat.zero_le _, fun k hk => by rw [lex_nil] at hk; simp at hk⟩
  | succ N ih =>
    intro l m p h
    by_cases h0 : l = []
    · subst h0
      exact ⟨Nat.zero_le _, fun k hk => by rw [lex_nil] at hk; simp at hk⟩
    · have hne : l ++ m ≠ [] := fun e => h0 (List.append_eq_nil_iff.1 e).1
      have hp := fst_pos h0
      rw [lex_step h0 p, lex_step hne p]
      by_cases hd : l.drop (fst_ l).2 = []
      · rw [hd, lex_nil]
        exact ⟨by simp, fun k hk => by simp at hk⟩
      · rw [fst_app h0 hd m]
        obtain ⟨⟨k, n⟩, hk⟩ : ∃ x, fst_ l = x := ⟨_, rfl⟩
        rw [hk] at hp hd ⊢
        simp only at hp hd ⊢
        rw [List.take_append_of_le_length hp.2, List.drop_append_of_le_length hp.2]
        obtain ⟨i1, i2⟩ := ih (l.drop n) m (p + n) (by rw [List.length_drop]; omega)
        refine ⟨by simp only [List.length_cons]; omega, fun j hj => ?_⟩
        cases j with
        | zero => rfl
        | succ j =>
          rw [List.getElem?_cons_succ, List.getElem?_cons_succ]
          exact i2 j (by simp only [List.length_cons] at hj; omega)

end Go.Proofs.YtgfhhpodcnohpaaDoor
