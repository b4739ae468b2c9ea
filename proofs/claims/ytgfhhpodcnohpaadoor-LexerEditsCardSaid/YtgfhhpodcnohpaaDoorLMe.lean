/- Tokens: the tokens that are no Space; two texts joined by a line feed. It has no conditions. -/
import Derived.Test.YtgfhhpodcnohpaaDoorLMd
namespace Go.Proofs.YtgfhhpodcnohpaaDoor
set_option linter.unusedVariables false

/-- The tokens that are no Space. -/
def sol (L : List Tk) : List Tk := L.filter fun t => !decide (t.1 = 0)
theorem sol_cons0 (t : Tk) (L : List Tk) (h : t.1 = 0) : sol (t :: L) = sol L := by
  unfold sol
  rw [List.filter_cons_of_neg (by simp [h])]
theorem sol_cons1 (t : Tk) (L : List Tk) (h : ¬ t.1 = 0) : sol (t :: L) = t :: sol L := by
  unfold sol
  rw [List.filter_cons_of_pos (by simp [h])]
theorem run_cons {c : Int} {r : List Int} (h : isSp c = true) : run isSp (c :: r) = run isSp r + 1 := by rw [run, if_pos h]
theorem fst_sp {c : Int} {r : List Int} (h : isSp c = true) : fst_ (c :: r) = (0, run isSp (c :: r)) := by
  have hp : prop (c :: r) = (0, run isSp (c :: r)) := by rw [prop, if_pos h]
  unfold fst_
  rw [hp, if_pos]
  show 0 < run isSp (c :: r)
  rw [run_cons h]
  omega
theorem fst_zero {l : List Int} (h0 : l ≠ []) (h : (fst_ l).1 = 0) : (fst_ l).2 = run isSp l := by
  cases l with
  | nil => exact absurd rfl h0
  | cons c r =>
    by_cases hc : isSp c = true
    · rw [fst_sp hc]
    · exfalso
      revert h
      unfold fst_
      split
      · rw [prop, if_neg hc]
        repeat' split
        all_goals simp
      · simp
theorem sol_run (m : List Int) (p : Nat) : sol (lex m p) = sol (lex (m.drop (run isSp m)) (p + run isSp m)) := by
  cases m with
  | nil => rfl
  | cons c r =>
    by_cases hc : isSp c = true
    · rw [lex_step (by simp) p, sol_cons0 _ _ (by rw [fst_sp hc]), fst_sp hc]
    · have : run isSp (c :: r) = 0 := by rw [run, if_neg hc]
      rw [this]
      rfl
theorem run_all : ∀ (l m : List Int), (∀ c ∈ l, isSp c = true) → run isSp (l ++ m) = l.length + run isSp m
  | [], m, h => by simp
  | c :: l, m, h => by
    rw [List.cons_append, run_cons (h c (List.mem_cons_self ..)), run_all l m fun x hx => h x (List.mem_cons_of_mem _ hx), List.length_cons]
    omega
theorem sol_sp (l m : List Int) (p : Nat) (h : ∀ c ∈ l, isSp c = true) : sol (lex (l ++ m) p) = sol (lex m (p + l.length)) := by
  rw [sol_run (l ++ m) p, sol_run m (p + l.length), run_all l m h, List.drop_append, List.drop_eq_nil_of_le (Nat.le_add_right _ _), List.nil_append, Nat.add_sub_cancel_left, Nat.add_assoc]
theorem sp_all {l : List Int} (h : run isSp l = l.length) : ∀ c ∈ l, isSp c = true := fun c hc => by
  obtain ⟨i, hi, rfl⟩ := List.getElem_of_mem hc
  obtain ⟨d, hd, hp⟩ := run_isin isSp l i (by omega)
  rw [List.getElem?_eq_getElem hi] at hd
  cases hd
  exact hp
/-- A line feed ends every token but a Space. -/
theorem ends_nl {k : Int} {u : List Int} (hk : ¬ k = 0) (m : List Int) : ends k u (10 :: m) := by
  have hh : ∀ c : Int, (10 :: m).head? = some c → c = 10 := fun c h => by simpa using h.symm
  unfold ends
  rw [if_neg hk]
  split
  · intro c h; rw [hh c h]; decide
  · split
    · intro c h; rw [hh c h]; decide
    · split
      · intro c h; rw [hh c h]; decide
      · split
        · intro c h; rw [hh c h]; decide
        · split
          · trivial
          · split
            · refine .inr fun a c ha h hm => ?_
              rw [hh c h] at hm
              simp [SY2] at hm
            · split
              · intro c h; rw [hh c h]; decide
              · refine ⟨.inr ?_, fun h => ?_⟩
                · rw [endB_iff]
                  intro h
                  exact absurd h.1 (by decide)
                · simp at h
/-- A blank ends every token but a Space, a comment and a quote that ends nowhere. -/
theorem ends_bl {k : Int} {u : List Int} (hk : ¬ k = 0) (hk1 : ¬ k = 1) (hq : ¬ (k = 8 ∧ u.head? = some 34)) (h8 : k ≤ 8) (m : List Int) (h7 : ¬ (k < 0)) : ends k u (32 :: m) := by
  have hh : ∀ c : Int, (32 :: m).head? = some c → c = 32 := fun c h => by simpa using h.symm
  unfold ends
  rw [if_neg hk, if_neg hk1]
  split
  · intro c h; rw [hh c h]; decide
  · split
    · intro c h; rw [hh c h]; decide
    · split
      · intro c h; rw [hh c h]; decide
      · split
        · trivial
        · split
          · refine .inr fun a c ha h hm => ?_
            rw [hh c h] at hm
            simp [SY2] at hm
          · split
            · rename_i h2 _ _ _ _ h1
              exfalso
              apply hq
              exact ⟨by omega, h1⟩
            · refine ⟨.inr ?_, fun h => ?_⟩
              · rw [endB_iff]
                intro h
                exact absurd h.1 (by decide)
              · simp at h
theorem fst_nl {l : List Int} (h0 : l ≠ []) (hn : (fst_ l).2 = l.length) (hk : ¬ (fst_ l).1 = 0) (m : List Int) : fst_ (l ++ 10 :: m) = fst_ l := by
  have := t_join (u := l) (m := 10 :: m) (k := (fst_ l).1) h0 (by rw [← hn]) (ends_nl hk m)
  rw [this, ← hn]
theorem sol_nl : ∀ (N : Nat) (l m : List Int) (p : Nat), l.length ≤ N → sol (lex (l ++ 10 :: m) p) = sol (lex l p) ++ sol (lex m (p + l.length + 1)) := by
  have base : ∀ (m : List Int) (p : Nat), sol (lex (10 :: m) p) = sol (lex m (p + 1)) := fun m p => sol_sp [10] m p (fun c hc => by simp at hc; rw [hc]; decide)
  intro N
  induction N with
  | zero =>
    intro l m p h
    have : l = [] := List.eq_nil_of_length_eq_zero (by omega)
    subst this
    exact base m p
  | succ N ih =>
    intro l m p h
    by_cases h0 : l = []
    · subst h0
      exact base m p
    · have hne : l ++ 10 :: m ≠ [] := fun e => h0 (List.append_eq_nil_iff.1 e).1
      have hp := fst_pos h0
      by_cases hd : l.drop (fst_ l).2 = []
      · have hn : (fst_ l).2 = l.length := by
          have := congrArg List.length hd
          rw [List.length_drop, List.length_nil] at this
          omega
        by_cases hk : (fst_ l).1 = 0
        · have hall := sp_all ((fst_zero h0 hk).symm.trans hn)
          have h1 := sol_sp (l ++ [10]) m p (fun c hc => by
            rcases List.mem_append.1 hc with h | h
            · exact hall c h
            · simp at h; rw [h]; decide)
          rw [List.append_assoc, List.singleton_append, List.length_append, List.length_singleton] at h1
          rw [h1, lex_step h0 p, sol_cons0 _ _ hk, hd, lex_nil]
          rfl
        · rw [lex_step hne p, fst_nl h0 hn hk m, sol_cons1 _ _ hk, lex_step h0 p, sol_cons1 _ _ hk, hd, lex_nil, hn, List.take_append_of_le_length (Nat.le_refl _), List.drop_append_of_le_length (Nat.le_refl _), List.drop_length, List.nil_append, base m (p + l.length)]
          rfl
      · rw [lex_step hne p, fst_app h0 hd, lex_step h0 p]
        obtain ⟨⟨k, n⟩, hk⟩ : ∃ x, fst_ l = x := ⟨_, rfl⟩
        rw [hk] at hp hd ⊢
        simp only at hp hd ⊢
        have i1 := ih (l.drop n) m (p + n) (by rw [List.length_drop]; omega)
        have hl : p + n + (l.drop n).length + 1 = p + l.length + 1 := by rw [List.length_drop]; omega
        rw [hl] at i1
        rw [List.take_append_of_le_length hp.2, List.drop_append_of_le_length hp.2]
        by_cases hk0 : k = 0
        · rw [sol_cons0 _ _ hk0, sol_cons0 _ _ hk0, i1]
        · rw [sol_cons1 _ _ hk0, sol_cons1 _ _ hk0, i1, List.cons_append]
def shf (q : Nat) (t : Tk) : Tk := (t.1, t.2.1, t.2.2 + q)
theorem lex_shift : ∀ (N : Nat) (l : List Int) (p q : Nat), l.length ≤ N → lex l (p + q) = (lex l p).map (shf q) := by
  intro N
  induction N with
  | zero =>
    intro l p q h
    have : l = [] := List.eq_nil_of_length_eq_zero (by omega)
    subst this
    rfl
  | succ N ih =>
    intro l p q h
    by_cases h0 : l = []
    · subst h0; rfl
    · have hp := fst_pos h0
      rw [lex_step h0, lex_step h0, List.map_cons, show p + q + (fst_ l).2 = p + (fst_ l).2 + q by omega, ih _ (p + (fst_ l).2) q (by rw [List.length_drop]; omega)]
      rfl
theorem sol_map (L : List Tk) (q : Nat) : sol (L.map (shf q)) = (sol L).map (shf q) := by
  unfold sol
  rw [List.filter_map]
  rfl
/-- The tokens, but for Spaces, of two texts that are joined by a line feed. -/
theorem sol_join (a b : List Int) : sol (lex (a ++ 10 :: b) 0) = sol (lex a 0) ++ (sol (lex b 0)).map (shf (a.length + 1)) := by
  rw [sol_nl a.length a b 0 (Nat.le_refl _), ← sol_map, ← lex_shift b.length b 0 (a.length + 1) (Nat.le_refl _), Nat.zero_add, Nat.zero_add]

end Go.Proofs.YtgfhhpodcnohpaaDoor
