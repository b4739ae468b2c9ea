/- Tokens: a token that is no Space contains no line feed. It has no conditions. -/
import Derived.Test.YtgfhhpodcnohpaaDoorLMe
namespace Go.Proofs.YtgfhhpodcnohpaaDoor
set_option linter.unusedVariables false

theorem run_no10 {p : Int → Bool} (h : p 10 = false) (l : List Int) (i : Nat) (x : Int) (hi : i < run p l) (hx : l[i]? = some x) : x ≠ 10 := by
  obtain ⟨c, hc, hp⟩ := run_isin p l i hi
  rw [hx] at hc
  cases hc
  intro e
  rw [e, h] at hp
  cases hp
theorem badRun_end : ∀ (l : List Int) (i : Nat), i < badRun l → endB (l.drop i) = false
  | [], i, h => by simp [badRun] at h
  | c :: r, i, h => by
    rw [badRun] at h
    by_cases he : endB (c :: r) = true
    · rw [if_pos he] at h; omega
    · rw [if_neg he] at h
      cases i with
      | zero => exact (Bool.not_eq_true _).mp he
      | succ i => exact badRun_end r i (by omega)
theorem no10_bad (c : Int) (r : List Int) (h : (prop (c :: r)).2 = 0) (i : Nat) (x : Int) (hi : i < badLen (c :: r)) (hx : (c :: r)[i]? = some x) : x ≠ 10 := by
  rw [badLen] at hi
  by_cases hc : c = 34
  · rw [if_pos hc] at hi
    exact run_no10 (by decide) _ i x hi hx
  · rw [if_neg hc] at hi
    cases i with
    | zero =>
      simp only [List.getElem?_cons_zero, Option.some.injEq] at hx
      subst hx
      intro e
      rw [prop, if_pos (by rw [e]; decide)] at h
      simp only at h
      rw [run_cons (by rw [e]; decide)] at h
      omega
    | succ i =>
      rw [List.getElem?_cons_succ] at hx
      have he := badRun_end r i (by omega)
      obtain ⟨h1, h2⟩ := List.getElem?_eq_some_iff.1 hx
      rw [List.drop_eq_getElem_cons h1, h2] at he
      intro e
      rw [e] at he
      have : endB (10 :: r.drop (i + 1)) = true := by
        rw [endB_iff]
        intro h
        exact absurd h.1 (by decide)
      rw [this] at he
      cases he
theorem no10_st (r : List Int) (h : 0 < stLen (34 :: r)) (i : Nat) (x : Int) (hi : i < stLen (34 :: r)) (hx : ((34 : Int) :: r)[i]? = some x) : x ≠ 10 := by
  obtain ⟨h1, h2⟩ := stLen_pos h
  rw [h2] at hi
  simp only [List.tail_cons] at h1 hi
  cases i with
  | zero => simp only [List.getElem?_cons_zero, Option.some.injEq] at hx; omega
  | succ i =>
    rw [List.getElem?_cons_succ] at hx
    rcases Nat.lt_or_ge i (run noQt r) with h3 | h3
    · exact run_no10 (by decide) r i x h3 hx
    · have : i = run noQt r := by omega
      rw [this, h1] at hx
      cases hx
      decide
theorem no10_sy (l : List Int) (i : Nat) (x : Int) (hi : i < syLen l) (hx : l[i]? = some x) : x ≠ 10 := by
  have s1 : ∀ a ∈ SY1, a ≠ 10 := by decide
  have s2 : ∀ a ∈ SY2, ∀ c ∈ a, c ≠ 10 := by decide
  match l with
  | [] => simp at hx
  | [a] =>
    rw [syLen] at hi
    split at hi
    · rename_i h
      have : i = 0 := by omega
      subst this
      simp only [List.getElem?_cons_zero, Option.some.injEq] at hx
      rw [← hx]
      exact s1 a h
    · omega
  | a :: b :: l =>
    rw [syLen] at hi
    split at hi
    · rename_i h
      have hm := s2 _ h
      have : i = 0 ∨ i = 1 := by omega
      rcases this with rfl | rfl
      · simp only [List.getElem?_cons_zero, Option.some.injEq] at hx
        rw [← hx]
        exact hm a (by simp)
      · simp only [List.getElem?_cons_succ, List.getElem?_cons_zero, Option.some.injEq] at hx
        rw [← hx]
        exact hm b (by simp)
    · split at hi
      · rename_i h
        have : i = 0 := by omega
        subst this
        simp only [List.getElem?_cons_zero, Option.some.injEq] at hx
        rw [← hx]
        exact s1 a h
      · omega
theorem no10_fst {l : List Int} (h0 : l ≠ []) (hk : ¬ (fst_ l).1 = 0) (i : Nat) (x : Int) (hi : i < (fst_ l).2) (hx : l[i]? = some x) : x ≠ 10 := by
  cases l with
  | nil => exact absurd rfl h0
  | cons c r =>
    unfold fst_ at hk hi
    by_cases hp : 0 < (prop (c :: r)).2
    · rw [if_pos hp] at hk hi
      rw [prop] at hk hi hp
      split at hi
      · rename_i h; rw [if_pos h] at hk; exact absurd rfl hk
      · rename_i h; rw [if_neg h] at hp
        split at hi
        · exact run_no10 (by decide) _ i x hi hx
        · rename_i h; rw [if_neg h] at hp
          split at hi
          · split at hi
            · exact run_no10 (by decide) _ i x hi hx
            · exact run_no10 (by decide) _ i x hi hx
          · rename_i h; rw [if_neg h] at hp
            split at hi
            · exact run_no10 (by decide) _ i x hi hx
            · rename_i h; rw [if_neg h] at hp
              split at hi
              · exact run_no10 (by decide) _ i x hi hx
              · rename_i h; rw [if_neg h] at hp
                split at hi
                · rename_i h
                  rw [if_pos h] at hp
                  subst h
                  exact no10_st r hp i x hi hx
                · exact no10_sy _ i x hi hx
    · rw [if_neg hp] at hi
      exact no10_bad c r (by omega) i x hi hx
theorem sol_no10 : ∀ (N : Nat) (l : List Int) (p : Nat), l.length ≤ N → ∀ t ∈ sol (lex l p), ∀ c ∈ t.2.1, c ≠ 10 := by
  intro N
  induction N with
  | zero =>
    intro l p h
    have : l = [] := List.eq_nil_of_length_eq_zero (by omega)
    subst this
    intro t ht
    cases ht
  | succ N ih =>
    intro l p h
    by_cases h0 : l = []
    · subst h0; intro t ht; cases ht
    · have hp := fst_pos h0
      rw [lex_step h0]
      have i1 := ih (l.drop (fst_ l).2) (p + (fst_ l).2) (by rw [List.length_drop]; omega)
      by_cases hk : (fst_ l).1 = 0
      · rw [sol_cons0 _ _ hk]; exact i1
      · rw [sol_cons1 _ _ hk]
        intro t ht
        rcases List.mem_cons.1 ht with rfl | ht
        · intro c hc
          obtain ⟨i, hi, rfl⟩ := List.getElem_of_mem hc
          simp only [List.length_take] at hi
          exact no10_fst h0 hk i _ (by omega) (by simp only [List.getElem_take]; rw [List.getElem?_eq_getElem (by omega)])
        · exact i1 t ht
theorem lex_kind : ∀ (N : Nat) (l : List Int) (p : Nat), l.length ≤ N → ∀ t ∈ lex l p, ∃ m, t.2.1 = m ∧ m ≠ [] := by
  intro N
  induction N with
  | zero =>
    intro l p h
    have : l = [] := List.eq_nil_of_length_eq_zero (by omega)
    subst this
    intro t ht
    cases ht
  | succ N ih =>
    intro l p h
    by_cases h0 : l = []
    · subst h0; intro t ht; cases ht
    · have hp := fst_pos h0
      rw [lex_step h0]
      intro t ht
      rcases List.mem_cons.1 ht with rfl | ht
      · refine ⟨_, rfl, fun e => ?_⟩
        have := congrArg List.length e
        simp only [List.length_take, List.length_nil] at this
        omega
      · exact ih (l.drop (fst_ l).2) (p + (fst_ l).2) (by rw [List.length_drop]; omega) t ht

end Go.Proofs.YtgfhhpodcnohpaaDoor
