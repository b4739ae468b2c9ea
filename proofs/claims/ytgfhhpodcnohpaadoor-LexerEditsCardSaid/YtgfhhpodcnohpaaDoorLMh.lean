/- Tokens: a text parted where a token begins. It has no conditions. -/
import Derived.Test.YtgfhhpodcnohpaaDoorLMe
namespace Go.Proofs.YtgfhhpodcnohpaaDoor
set_option linter.unusedVariables false

/-- The tokens of 'l ++ m' have a border behind l. -/
inductive Bd : List Int → List Int → Prop
  | nil (m : List Int) : Bd [] m
  | step {l m : List Int} : l ≠ [] → (fst_ (l ++ m)).2 ≤ l.length → Bd (l.drop (fst_ (l ++ m)).2) m → Bd l m
theorem ends_nil {k : Int} {u m : List Int} (h : ends k u m) : ends k u [] := by
  unfold ends at h ⊢
  simp only [List.head?_nil]
  split
  · intro c h; cases h
  · split
    · intro c h; cases h
    · split
      · intro c h; cases h
      · split
        · intro c h; cases h
        · split
          · intro c h; cases h
          · split
            · trivial
            · split
              · exact .inr fun a c _ h => by cases h
              · split
                · intro c h; cases h
                · exact ⟨.inl trivial, fun h => by cases h.2⟩
theorem ends_cut {k : Int} {u d m : List Int} (h : ends k u (d ++ m)) (hd : d ≠ []) (hb : endB (d ++ m) = true → endB d = true) : ends k u d := by
  unfold ends at h ⊢
  rw [head_app' hd] at h
  split
  · rwa [if_pos ‹_›] at h
  · rw [if_neg ‹_›] at h
    split
    · rwa [if_pos ‹_›] at h
    · rw [if_neg ‹_›] at h
      split
      · rwa [if_pos ‹_›] at h
      · rw [if_neg ‹_›] at h
        split
        · rwa [if_pos ‹_›] at h
        · rw [if_neg ‹_›] at h
          split
          · rwa [if_pos ‹_›] at h
          · rw [if_neg ‹_›] at h
            split
            · trivial
            · rw [if_neg ‹_›] at h
              split
              · rwa [if_pos ‹_›] at h
              · rw [if_neg ‹_›] at h
                split
                · rwa [if_pos ‹_›] at h
                · rw [if_neg ‹_›] at h
                  refine ⟨.inr ?_, h.2⟩
                  rcases h.1 with h1 | h1
                  · exact absurd (List.append_eq_nil_iff.1 h1).1 hd
                  · exact hb h1
theorem fst_ne (m : List Int) : fst_ (33 :: 61 :: m) = (6, 2) := by
  have hs : syLen (33 :: 61 :: m) = 2 := by rw [syLen, if_pos (by decide)]
  have hp : prop (33 :: 61 :: m) = (6, 2) := by
    rw [prop, if_neg (by decide), if_neg (by decide), if_neg (by decide), if_neg (by decide), if_neg (by decide), if_neg (by decide), hs]
  unfold fst_
  rw [hp, if_pos (by decide)]
theorem fst_bd {l m : List Int} (h0 : l ≠ []) (hn : (fst_ (l ++ m)).2 ≤ l.length) (hb : Bd (l.drop (fst_ (l ++ m)).2) m) : fst_ l = fst_ (l ++ m) := by
  have hne : l ++ m ≠ [] := fun e => h0 (List.append_eq_nil_iff.1 e).1
  obtain ⟨h1, h2⟩ := t_split hne
  have hp := (fst_pos hne).1
  obtain ⟨⟨k, n⟩, hk⟩ : ∃ x, fst_ (l ++ m) = x := ⟨_, rfl⟩
  rw [hk] at hn hb h1 h2 hp ⊢
  simp only at hn hb h1 h2 hp
  rw [List.take_append_of_le_length hn] at h1 h2
  rw [List.drop_append_of_le_length hn] at h2
  have hl : (l.take n).length = n := by rw [List.length_take]; omega
  have hu0 : l.take n ≠ [] := fun e => by rw [e] at hl; simp at hl; omega
  have he : ends k (l.take n) (l.drop n) := by
    by_cases hd : l.drop n = []
    · rw [hd]; exact ends_nil h2
    · refine ends_cut h2 hd fun hb2 => ?_
      obtain ⟨d, hdd⟩ : ∃ d, l.drop n = d := ⟨_, rfl⟩
      rw [hdd] at hd hb2 hb ⊢
      cases hb with
      | nil => exact absurd rfl hd
      | step _ q1 q2 =>
        cases d with
        | nil => exact absurd rfl hd
        | cons c r =>
          cases r with
          | cons e r =>
            rw [endB_iff]
            rw [List.cons_append, List.cons_append, endB_iff] at hb2
            exact hb2
          | nil =>
            rw [endB_iff]
            intro hdl
            rw [List.cons_append, List.nil_append, endB_iff] at hb2
            have hx : c = 33 ∧ m.head? = some 61 := by
              refine Classical.not_not.1 fun hno => hb2 ?_
              obtain ⟨a1, a2, a3, a4, a5, a6, a7, _⟩ := hdl
              exact ⟨a1, a2, a3, a4, a5, a6, a7, hno⟩
            obtain ⟨rfl, hm⟩ := hx
            cases m with
            | nil => cases hm
            | cons e m =>
              simp only [List.head?_cons, Option.some.injEq] at hm
              subst hm
              have : (fst_ ([33] ++ 61 :: m)).2 = 2 := by rw [List.singleton_append, fst_ne]
              rw [this] at q1
              simp at q1
  have := t_join hu0 (by rw [h1, hl]) he
  rw [List.take_append_drop, hl] at this
  exact this
theorem lex_bd {l m : List Int} (h : Bd l m) : ∀ p, lex (l ++ m) p = lex l p ++ lex m (p + l.length) := by
  induction h with
  | nil m => intro p; rw [lex_nil]; simp
  | step h0 hn hb ih =>
    intro p
    rename_i l m
    have hne : l ++ m ≠ [] := fun e => h0 (List.append_eq_nil_iff.1 e).1
    have hf := fst_bd h0 hn hb
    rw [lex_step hne p, lex_step h0 p, hf]
    obtain ⟨⟨k, n⟩, hk⟩ : ∃ x, fst_ (l ++ m) = x := ⟨_, rfl⟩
    rw [hk] at hn ih ⊢
    simp only at hn ih ⊢
    rw [List.take_append_of_le_length hn, List.drop_append_of_le_length hn, ih (p + n), List.cons_append, List.length_drop, show p + n + (l.length - n) = p + l.length by omega]
/-- A token parts its text. -/
theorem bd_mem : ∀ (N : Nat) (s : List Int) (p : Nat), s.length ≤ N → ∀ t ∈ lex s p, ∃ l m, s = l ++ m ∧ m ≠ [] ∧ t.2.2 = p + l.length ∧ Bd l m := by
  intro N
  induction N with
  | zero =>
    intro s p h
    have : s = [] := List.eq_nil_of_length_eq_zero (by omega)
    subst this
    intro t ht
    cases ht
  | succ N ih =>
    intro s p h
    by_cases h0 : s = []
    · subst h0; intro t ht; cases ht
    · have hp := fst_pos h0
      rw [lex_step h0]
      intro t ht
      rcases List.mem_cons.1 ht with rfl | ht
      · exact ⟨[], s, rfl, h0, rfl, .nil s⟩
      · obtain ⟨l, m, h1, h2, h3, h4⟩ := ih (s.drop (fst_ s).2) (p + (fst_ s).2) (by rw [List.length_drop]; omega) t ht
        have hs : s = (s.take (fst_ s).2 ++ l) ++ m := by rw [List.append_assoc, ← h1, List.take_append_drop]
        have hul : (s.take (fst_ s).2).length = (fst_ s).2 := by rw [List.length_take]; omega
        refine ⟨s.take (fst_ s).2 ++ l, m, hs, h2, ?_, .step (fun e => ?_) ?_ ?_⟩
        · rw [List.length_append, hul, h3]; omega
        · have := congrArg List.length e
          rw [List.length_append, hul, List.length_nil] at this
          omega
        · rw [← hs, List.length_append, hul]; omega
        · rw [← hs, List.drop_append, List.drop_eq_nil_of_le (by omega), hul, Nat.sub_self, List.drop_zero, List.nil_append]
          exact h4
/-- Beside a border of tokens there is a byte below 128. -/
def AscAt (l m : List Int) : Prop := (∃ c, l.getLast? = some c ∧ c < 128) ∨ (∃ c, m.head? = some c ∧ c < 128)
theorem asc_ends {u m : List Int} {k : Int} (h0 : u ≠ []) (hf : fst_ u = (k, u.length)) (he : ends k u m) (hm : m ≠ []) : AscAt u m := by
  have hlen := List.length_pos_iff.2 h0
  have hlast : ∀ p : Int → Bool, (∀ c, p c = true → c < 128) → run p u = u.length → AscAt u m := fun p hp hr => by
    obtain ⟨c, hc, h1⟩ := run_isin p u (u.length - 1) (by omega)
    exact .inl ⟨c, by rw [List.getLast?_eq_getElem?]; exact hc, hp c h1⟩
  obtain ⟨d, r, rfl⟩ : ∃ d r, m = d :: r := by
    cases m with
    | nil => exact absurd rfl hm
    | cons d r => exact ⟨d, r, rfl⟩
  have nl10 : noNl d = false → AscAt u (d :: r) := fun h => .inr ⟨d, rfl, by unfold noNl at h; simp at h; omega⟩
  obtain ⟨c, t, rfl⟩ : ∃ c t, u = c :: t := by
    cases u with
    | nil => exact absurd rfl h0
    | cons c t => exact ⟨c, t, rfl⟩
  have hd := hf
  unfold fst_ at hf
  by_cases hp : 0 < (prop (c :: t)).2
  · rw [if_pos hp] at hf
    rw [prop] at hf hp
    by_cases g1 : isSp c = true
    · rw [if_pos g1] at hf
      simp only [Prod.mk.injEq] at hf
      exact hlast isSp (fun c h => by unfold isSp at h; simp at h; omega) hf.2
    · rw [if_neg g1] at hf hp
      by_cases g2 : c = 35
      · rw [if_pos g2] at hf
        simp only [Prod.mk.injEq] at hf
        unfold ends at he
        rw [if_neg (by omega), if_pos hf.1.symm] at he
        exact nl10 (he d rfl)
      · rw [if_neg g2] at hf hp
        by_cases g3 : isLo c = true
        · rw [if_pos g3] at hf
          refine hlast coLo (fun c h => by unfold coLo isLo isDi at h; simp at h; omega) ?_
          split at hf <;> (simp only [Prod.mk.injEq] at hf; exact hf.2)
        · rw [if_neg g3] at hf hp
          by_cases g4 : isUp c = true
          · rw [if_pos g4] at hf
            simp only [Prod.mk.injEq] at hf
            exact hlast coUp (fun c h => by unfold coUp isLo isUp isDi at h; simp at h; omega) hf.2
          · rw [if_neg g4] at hf hp
            by_cases g5 : isDi c = true
            · rw [if_pos g5] at hf
              simp only [Prod.mk.injEq] at hf
              exact hlast isDi (fun c h => by unfold isDi at h; simp at h; omega) hf.2
            · rw [if_neg g5] at hf hp
              by_cases g6 : c = 34
              · rw [if_pos g6] at hf hp
                simp only [Prod.mk.injEq] at hf
                obtain ⟨h1, h2⟩ := stLen_pos hp
                rw [List.tail_cons] at h1 h2
                refine .inl ⟨34, ?_, by omega⟩
                rw [List.getLast?_eq_getElem?, show (c :: t).length - 1 = run noQt t + 1 by rw [← hf.2]; omega, List.getElem?_cons_succ]
                exact h1
              · rw [if_neg g6] at hf
                simp only [Prod.mk.injEq] at hf
                have s1 : ∀ a ∈ SY1, a < 128 := by decide
                have s2 : ∀ a ∈ SY2, ∀ c ∈ a, c < 128 := by decide
                cases t with
                | nil =>
                  rw [syLen] at hf
                  by_cases q : c ∈ SY1
                  · exact .inl ⟨c, rfl, s1 c q⟩
                  · rw [if_neg q] at hf; simp at hf
                | cons e t =>
                  rw [syLen] at hf
                  by_cases q : [c, e] ∈ SY2
                  · rw [if_pos q] at hf
                    have ht : t = [] := List.eq_nil_of_length_eq_zero (by have := hf.2; simp only [List.length_cons] at this; omega)
                    subst ht
                    exact .inl ⟨e, rfl, s2 _ q e (by simp)⟩
                  · rw [if_neg q] at hf
                    have := hf.2
                    split at this <;> simp only [List.length_cons] at this <;> omega
  · rw [if_neg hp] at hf
    simp only [Prod.mk.injEq] at hf
    have hk8 := hf.1.symm
    rw [hk8, ends_bad] at he
    split at he
    · exact nl10 (he d rfl)
    · rcases he.1 with h | h
      · cases h
      · refine .inr ⟨d, rfl, ?_⟩
        refine Classical.not_not.1 fun hno => ?_
        rw [endB_iff] at h
        apply h
        refine ⟨?_, by omega, ?_, ?_, ?_, by omega, ?_, by omega⟩
        · unfold isSp; simp; omega
        · unfold isLo; simp; omega
        · unfold isUp; simp; omega
        · unfold isDi; simp; omega
        · intro hin
          have s1 : ∀ a ∈ SY1, a < 128 := by decide
          have := s1 d hin
          omega
theorem asc_bd {l m : List Int} (h : Bd l m) (hm : m ≠ []) : l = [] ∨ AscAt l m := by
  induction h with
  | nil m => exact .inl rfl
  | step h0 hn hb ih =>
    rename_i l m
    right
    have hf := fst_bd h0 hn hb
    have hne : l ++ m ≠ [] := fun e => h0 (List.append_eq_nil_iff.1 e).1
    obtain ⟨h1, h2⟩ := t_split hne
    have hp := (fst_pos hne).1
    obtain ⟨⟨k, n⟩, hk⟩ : ∃ x, fst_ (l ++ m) = x := ⟨_, rfl⟩
    rw [hk] at hn ih h1 h2 hp
    simp only at hn ih h1 h2 hp
    rw [List.take_append_of_le_length hn] at h1 h2
    rw [List.drop_append_of_le_length hn] at h2
    have hl : (l.take n).length = n := by rw [List.length_take]; omega
    rcases ih hm with h3 | h3
    · rw [h3, List.nil_append] at h2
      have hln : l.take n = l := by
        have := List.take_append_drop n l
        rw [h3, List.append_nil] at this
        exact this
      rw [hln] at h1 h2 hl
      exact asc_ends h0 (by rw [h1, hl]) h2 hm
    · rcases h3 with ⟨c, hc, h4⟩ | h4
      · refine .inl ⟨c, ?_, h4⟩
        have e := List.take_append_drop n l
        rw [← e, List.getLast?_append, hc]
        rfl
      · exact .inr h4

end Go.Proofs.YtgfhhpodcnohpaaDoor
