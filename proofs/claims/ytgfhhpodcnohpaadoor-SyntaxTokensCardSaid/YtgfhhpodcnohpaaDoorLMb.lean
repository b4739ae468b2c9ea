/- Tokens: where a token ends. It has no conditions. -/
import Derived.Test.YtgfhhpodcnohpaaDoorLMa
namespace Go.Proofs.YtgfhhpodcnohpaaDoor
set_option linter.unusedVariables false

theorem prop_hd {l : List Int} {c : Int} (h : l.head? = some c) : prop l = if isSp c then (0, run isSp l) else if c = 35 then (1, run noNl l) else if isLo c then (if l.take (run coLo l) ∈ KW then (7, run coLo l) else (2, run coLo l))
    else if isUp c then (3, run coUp l) else if isDi c then (4, run isDi l) else if c = 34 then (5, stLen l) else (6, syLen l) := by
  cases l with
  | nil => simp at h
  | cons d r =>
    rw [List.head?_cons, Option.some.injEq] at h
    subst h
    rfl
theorem head_take {l : List Int} {c : Int} (h : l.head? = some c) {n : Nat} (hn : 0 < n) : (l.take n).head? = some c := by
  rw [List.head?_take, if_neg (by omega), h]
theorem head_app {u : List Int} {c : Int} (h : u.head? = some c) (m : List Int) : (u ++ m).head? = some c := by
  rw [List.head?_append, h]; rfl
theorem tail_take (l : List Int) (n : Nat) : (l.take (n + 1)).tail = l.tail.take n := by
  cases l <;> simp
theorem dull_none {c : Int} {x : Option Int} (h : dull c x) : dull c none := by
  obtain ⟨h1, h2, h3, h4, h5, h6, h7, _⟩ := h
  exact ⟨h1, h2, h3, h4, h5, h6, h7, by simp⟩
theorem dull_take {c : Int} {l : List Int} (h : dull c l.head?) (n : Nat) : dull c (l.take n).head? := by
  rw [List.head?_take]
  split
  · exact dull_none h
  · exact h
theorem endB_no {c : Int} {r : List Int} (h : dull c r.head?) : ¬ endB (c :: r) = true := fun h1 => (endB_iff c r).1 h1 h
theorem dull_of {c : Int} {r : List Int} (h : ¬ endB (c :: r) = true) : dull c r.head? := Classical.not_not.1 fun h1 => h ((endB_iff c r).2 h1)
theorem dull_prop {c : Int} {r : List Int} (h : c ≠ 34) : (prop (c :: r)).2 = 0 ↔ dull c r.head? := by
  constructor
  · intro h1
    apply dull_of
    unfold endB
    rw [Bool.or_eq_true, decide_eq_true_eq, List.head?_cons, beq_iff_eq, Option.some.injEq]
    omega
  · intro h1
    have h2 := endB_no h1
    unfold endB at h2
    rw [Bool.or_eq_true, decide_eq_true_eq] at h2
    omega
theorem badRun_take : ∀ l, badRun (l.take (badRun l)) = badRun l
  | [] => rfl
  | d :: t => by
    by_cases hd : endB (d :: t) = true
    · rw [badRun, if_pos hd]; rfl
    · rw [badRun, if_neg hd, List.take_succ_cons, badRun, if_neg (endB_no (dull_take (dull_of hd) _)), badRun_take t]
theorem badRun_drop : ∀ l : List Int, l.drop (badRun l) = [] ∨ endB (l.drop (badRun l)) = true
  | [] => .inl rfl
  | d :: t => by
    by_cases hd : endB (d :: t) = true
    · rw [badRun, if_pos hd]; exact .inr hd
    · rw [badRun, if_neg hd, List.drop_succ_cons]
      exact badRun_drop t
theorem bad_last : ∀ (r : List Int) (c : Int), dull c r.head? → ¬ ((c :: r.take (badRun r)).getLast? = some 33 ∧ (r.drop (badRun r)).head? = some 61)
  | [], c, h => by simp
  | d :: t, c, h => by
    by_cases hd : endB (d :: t) = true
    · rw [badRun, if_pos hd]
      rintro ⟨h1, h2⟩
      simp only [List.take_zero, List.getLast?_singleton, Option.some.injEq] at h1
      exact h.2.2.2.2.2.2.2 ⟨h1, h2⟩
    · rw [badRun, if_neg hd, List.take_succ_cons, List.drop_succ_cons, List.getLast?_cons_cons]
      exact bad_last t d (dull_of hd)
theorem bad_app (m : List Int) (hm : m = [] ∨ endB m = true) : ∀ (t : List Int) (c : Int), badRun t = t.length → ¬ ((c :: t).getLast? = some 33 ∧ m.head? = some 61) → dull c t.head? → dull c (t ++ m).head? ∧ badRun (t ++ m) = t.length
  | [], c, h1, h2, h3 => by
    refine ⟨?_, ?_⟩
    · obtain ⟨g1, g2, g3, g4, g5, g6, g7, _⟩ := h3
      exact ⟨g1, g2, g3, g4, g5, g6, g7, fun h => h2 ⟨by rw [List.getLast?_singleton, h.1], h.2⟩⟩
    · rw [List.nil_append]
      rcases hm with rfl | hm
      · rfl
      · cases m with
        | nil => rfl
        | cons d m => rw [badRun, if_pos hm]; rfl
  | d :: t, c, h1, h2, h3 => by
    by_cases hd : endB (d :: t) = true
    · rw [badRun, if_pos hd] at h1; simp at h1
    · rw [badRun, if_neg hd, List.length_cons] at h1
      rw [List.getLast?_cons_cons] at h2
      have ih := bad_app m hm t d (by omega) h2 (dull_of hd)
      refine ⟨h3, ?_⟩
      rw [List.cons_append, badRun, if_neg (endB_no ih.1), ih.2, List.length_cons]
/-- A run that stops at a byte stops there whatever follows. -/
theorem run_at (p : Int → Bool) {l l' : List Int} {c : Int} (h : l[run p l]? = some c) (hl : ∀ i, i ≤ run p l → l'[i]? = l[i]?) : run p l' = run p l := by
  apply run_is
  · intro i hi
    obtain ⟨d, h1, h2⟩ := run_isin p l i hi
    exact ⟨d, by rw [hl i (by omega)]; exact h1, h2⟩
  · exact .inr ⟨c, by rw [hl _ (Nat.le_refl _)]; exact h, run_out p l c h⟩
theorem stLen_pos {l : List Int} (h : 0 < stLen l) : l.tail[run noQt l.tail]? = some 34 ∧ stLen l = run noQt l.tail + 2 := by
  unfold stLen at h ⊢
  by_cases h1 : l.tail[run noQt l.tail]? = some 34
  · rw [if_pos h1]; exact ⟨h1, rfl⟩
  · rw [if_neg h1] at h; omega
theorem stLen_of {l : List Int} (h : l.tail[run noQt l.tail]? = some 34) : stLen l = run noQt l.tail + 2 := by
  unfold stLen
  rw [if_pos h]
theorem stLen_take {l : List Int} (h : 0 < stLen l) : stLen (l.take (stLen l)) = stLen l := by
  obtain ⟨h1, h2⟩ := stLen_pos h
  have ht : (l.take (stLen l)).tail = l.tail.take (run noQt l.tail + 1) := by rw [h2, tail_take]
  have hg : ∀ i, i ≤ run noQt l.tail → (l.take (stLen l)).tail[i]? = l.tail[i]? := fun i hi => by
    rw [ht, List.getElem?_take, if_pos (by omega)]
  have hr : run noQt (l.take (stLen l)).tail = run noQt l.tail := run_at _ h1 hg
  rw [stLen_of (by rw [hr, hg _ (Nat.le_refl _)]; exact h1), hr]
  exact h2.symm
theorem stLen_app {u : List Int} (h : 0 < stLen u) (m : List Int) : stLen (u ++ m) = stLen u := by
  obtain ⟨h1, h2⟩ := stLen_pos h
  have ht : (u ++ m).tail = u.tail ++ m := by
    cases u with
    | nil => simp at h1
    | cons c t => rfl
  have hlt := (List.getElem?_eq_some_iff.1 h1).1
  have hg : ∀ i, i ≤ run noQt u.tail → (u ++ m).tail[i]? = u.tail[i]? := fun i hi => by
    rw [ht, List.getElem?_append_left (by omega)]
  have hr : run noQt (u ++ m).tail = run noQt u.tail := run_at _ h1 hg
  rw [stLen_of (by rw [hr, hg _ (Nat.le_refl _)]; exact h1), hr]
  exact h2.symm
theorem quot_take {r : List Int} (h : stLen (34 :: r) = 0) : stLen ((34 :: r).take (run noNl (34 :: r))) = 0 := by
  rcases Nat.eq_zero_or_pos (stLen ((34 :: r).take (run noNl (34 :: r)))) with h1 | h1
  · exact h1
  · exfalso
    have h2 := stLen_app h1 ((34 :: r).drop (run noNl (34 :: r)))
    rw [List.take_append_drop] at h2
    omega
theorem quot_app {t m : List Int} (h : stLen (34 :: t) = 0) (hm : ∀ c, m.head? = some c → noNl c = false) : stLen (34 :: (t ++ m)) = 0 := by
  rcases Nat.eq_zero_or_pos (stLen (34 :: (t ++ m))) with h1 | h1
  · exact h1
  · exfalso
    obtain ⟨h2, h3⟩ := stLen_pos h1
    rw [List.tail_cons] at h2 h3
    rcases Nat.lt_or_ge (run noQt (t ++ m)) t.length with hj | hj
    · have hg : ∀ i, i ≤ run noQt (t ++ m) → t[i]? = (t ++ m)[i]? := fun i hi => by
        rw [List.getElem?_append_left (by omega)]
      have hr : run noQt t = run noQt (t ++ m) := run_at _ h2 hg
      have := stLen_of (l := 34 :: t) (by rw [List.tail_cons, hr, hg _ (Nat.le_refl _)]; exact h2)
      omega
    · have : ∃ c, (t ++ m)[t.length]? = some c ∧ (noQt c = true ∨ c = 34) := by
        rcases Nat.lt_or_ge t.length (run noQt (t ++ m)) with hk | hk
        · obtain ⟨c, h4, h5⟩ := run_isin noQt _ _ hk
          exact ⟨c, h4, .inl h5⟩
        · have : t.length = run noQt (t ++ m) := by omega
          rw [this]
          exact ⟨34, h2, .inr rfl⟩
      obtain ⟨c, h4, h5⟩ := this
      rw [List.getElem?_append_right (Nat.le_refl _), Nat.sub_self, ← List.head?_eq_getElem?] at h4
      have h6 := hm c h4
      simp only [noNl, bne_eq_false_iff_eq] at h6
      subst h6
      rcases h5 with h5 | h5
      · simp [noQt] at h5
      · simp at h5
theorem syLen_take {l : List Int} (h : 0 < syLen l) : syLen (l.take (syLen l)) = syLen l ∧ ends 6 (l.take (syLen l)) (l.drop (syLen l)) := by
  unfold ends
  rw [if_neg (by decide), if_neg (by decide), if_neg (by decide), if_neg (by decide), if_neg (by decide), if_neg (by decide), if_pos rfl]
  match l with
  | [] => simp [syLen] at h
  | [a] =>
    rw [syLen] at h
    by_cases ha : a ∈ SY1
    · have : syLen [a] = 1 := by rw [syLen, if_pos ha]
      rw [this]
      refine ⟨by simpa using this, .inr fun a c h1 h2 => by simp at h2⟩
    · rw [if_neg ha] at h; omega
  | a :: b :: l =>
    rw [syLen] at h
    by_cases h2 : [a, b] ∈ SY2
    · have : syLen (a :: b :: l) = 2 := by rw [syLen, if_pos h2]
      rw [this]
      refine ⟨?_, .inl (by simp)⟩
      show syLen [a, b] = 2
      rw [syLen, if_pos h2]
    · rw [if_neg h2] at h
      by_cases ha : a ∈ SY1
      · have : syLen (a :: b :: l) = 1 := by rw [syLen, if_neg h2, if_pos ha]
        rw [this]
        refine ⟨?_, .inr fun x y hx hy => ?_⟩
        · show syLen [a] = 1
          rw [syLen, if_pos ha]
        · simp at hx hy
          subst hx; subst hy
          exact h2
      · rw [if_neg ha] at h; omega
theorem syLen_app {u m : List Int} (h : syLen u = u.length) (h0 : u ≠ []) (he : ends 6 u m) : syLen (u ++ m) = u.length := by
  unfold ends at he
  rw [if_neg (by decide), if_neg (by decide), if_neg (by decide), if_neg (by decide), if_neg (by decide), if_neg (by decide), if_pos rfl] at he
  match u with
  | [] => exact absurd rfl h0
  | [a] =>
    rw [syLen] at h
    by_cases ha : a ∈ SY1
    · cases m with
      | nil => rw [List.append_nil, syLen, if_pos ha]; rfl
      | cons d m =>
        have hd : [a, d] ∉ SY2 := by
          rcases he with he | he
          · simp at he
          · exact he a d rfl rfl
        show syLen (a :: d :: m) = 1
        rw [syLen, if_neg hd, if_pos ha]
    · rw [if_neg ha] at h; simp at h
  | a :: b :: l =>
    rw [syLen] at h
    by_cases h2 : [a, b] ∈ SY2
    · rw [if_pos h2] at h
      show syLen (a :: b :: (l ++ m)) = _
      rw [syLen, if_pos h2]
      exact h
    · rw [if_neg h2] at h
      split at h <;> simp at h

theorem ends_bad {u m : List Int} : ends 8 u m ↔ if u.head? = some 34 then (∀ c, m.head? = some c → noNl c = false) else (m = [] ∨ endB m = true) ∧ ¬ (u.getLast? = some 33 ∧ m.head? = some 61) := by
  unfold ends
  rw [if_neg (by decide), if_neg (by decide), if_neg (by decide), if_neg (by decide), if_neg (by decide), if_neg (by decide), if_neg (by decide)]
/-- The first token of a text alone is the same token, and what follows ends it. -/
theorem t_split {l : List Int} (h0 : l ≠ []) : fst_ (l.take (fst_ l).2) = fst_ l ∧ ends (fst_ l).1 (l.take (fst_ l).2) (l.drop (fst_ l).2) := by
  obtain ⟨c, r, rfl⟩ : ∃ c r, l = c :: r := by
    cases l with
    | nil => exact absurd rfl h0
    | cons c r => exact ⟨c, r, rfl⟩
  generalize hl : c :: r = l
  have hh : l.head? = some c := by rw [← hl]; rfl
  by_cases hp : 0 < (prop l).2
  · have hf : fst_ l = prop l := by unfold fst_; rw [if_pos hp]
    suffices hs : prop (l.take (prop l).2) = prop l ∧ ends (prop l).1 (l.take (prop l).2) (l.drop (prop l).2) by
      rw [hf]
      refine ⟨?_, hs.2⟩
      unfold fst_
      rw [hs.1, if_pos hp]
    have hu := head_take hh hp
    have hP := prop_hd hh
    have hQ := prop_hd hu
    by_cases h1 : isSp c = true
    · rw [if_pos h1] at hP hQ
      rw [hP] at hQ ⊢
      refine ⟨by rw [hQ, run_take], ?_⟩
      show ends 0 _ _
      unfold ends
      rw [if_pos rfl]
      exact run_drop _ _
    · rw [if_neg h1] at hP hQ
      by_cases h2 : c = 35
      · rw [if_pos h2] at hP hQ
        rw [hP] at hQ ⊢
        refine ⟨by rw [hQ, run_take], ?_⟩
        show ends 1 _ _
        unfold ends
        rw [if_neg (by decide), if_pos rfl]
        exact run_drop _ _
      · rw [if_neg h2] at hP hQ
        by_cases h3 : isLo c = true
        · rw [if_pos h3] at hP hQ
          have hn : (prop l).2 = run coLo l := by rw [hP]; split <;> rfl
          rw [hn] at hQ ⊢
          rw [run_take, List.take_take, Nat.min_self] at hQ
          refine ⟨by rw [hQ, hP], ?_⟩
          unfold ends
          have hk : (prop l).1 = 2 ∨ (prop l).1 = 7 := by
            rw [hP]
            split
            · exact .inr rfl
            · exact .inl rfl
          rw [if_neg (by omega), if_neg (by omega), if_pos hk]
          exact run_drop _ _
        · rw [if_neg h3] at hP hQ
          by_cases h4 : isUp c = true
          · rw [if_pos h4] at hP hQ
            rw [hP] at hQ ⊢
            refine ⟨by rw [hQ, run_take], ?_⟩
            show ends 3 _ _
            unfold ends
            rw [if_neg (by decide), if_neg (by decide), if_neg (by decide), if_pos rfl]
            exact run_drop _ _
          · rw [if_neg h4] at hP hQ
            by_cases h5 : isDi c = true
            · rw [if_pos h5] at hP hQ
              rw [hP] at hQ ⊢
              refine ⟨by rw [hQ, run_take], ?_⟩
              show ends 4 _ _
              unfold ends
              rw [if_neg (by decide), if_neg (by decide), if_neg (by decide), if_neg (by decide), if_pos rfl]
              exact run_drop _ _
            · rw [if_neg h5] at hP hQ
              by_cases h6 : c = 34
              · rw [if_pos h6] at hP hQ
                rw [hP] at hQ hp ⊢
                refine ⟨by rw [hQ, stLen_take hp], ?_⟩
                show ends 5 _ _
                unfold ends
                rw [if_neg (by decide), if_neg (by decide), if_neg (by decide), if_neg (by decide), if_neg (by decide), if_pos rfl]
                trivial
              · rw [if_neg h6] at hP hQ
                rw [hP] at hQ hp ⊢
                have := syLen_take hp
                exact ⟨by rw [hQ, this.1], this.2⟩
  · have hf : fst_ l = (8, badLen l) := by unfold fst_; rw [if_neg hp]
    rw [hf]
    by_cases h6 : c = 34
    · subst h6
      have hb : badLen l = run noNl l := by rw [← hl, badLen, if_pos rfl]
      have hb0 : 0 < badLen l := (badLen_pos (by rw [← hl]; simp)).1
      rw [hb] at hb0 ⊢
      have hs : stLen l = 0 := by
        have := prop_hd hh
        rw [if_neg (by decide), if_neg (by decide), if_neg (by decide), if_neg (by decide), if_neg (by decide), if_pos rfl] at this
        rw [this] at hp
        simpa using hp
      have hu := head_take hh hb0
      have hs2 : stLen (l.take (run noNl l)) = 0 := by
        rw [← hl] at hs ⊢
        exact quot_take hs
      have hQ := prop_hd hu
      rw [if_neg (by decide), if_neg (by decide), if_neg (by decide), if_neg (by decide), if_neg (by decide), if_pos rfl, hs2] at hQ
      refine ⟨?_, ?_⟩
      · unfold fst_
        rw [hQ, if_neg (by simp)]
        have : badLen (l.take (run noNl l)) = run noNl (l.take (run noNl l)) := by
          revert hu
          cases l.take (run noNl l) with
          | nil => intro hu; simp at hu
          | cons d t =>
            intro hu
            simp at hu
            rw [badLen, if_pos hu]
        rw [this, run_take]
      · rw [ends_bad, if_pos hu]
        exact run_drop _ _
    · have hd : dull c r.head? := (dull_prop h6).1 (by rw [hl]; omega)
      have hb : badLen l = badRun r + 1 := by rw [← hl, badLen, if_neg h6]
      rw [hb, ← hl, List.take_succ_cons, List.drop_succ_cons]
      refine ⟨?_, ?_⟩
      · have hq := (dull_prop (r := r.take (badRun r)) h6).2 (dull_take hd _)
        unfold fst_
        rw [if_neg (by omega), badLen, if_neg h6, badRun_take]
      · rw [ends_bad, if_neg (by simpa using h6)]
        exact ⟨badRun_drop r, bad_last r c hd⟩
/-- A token and what ends it: the first token is that one. -/
theorem t_join {u m : List Int} {k : Int} (h0 : u ≠ []) (hf : fst_ u = (k, u.length)) (he : ends k u m) : fst_ (u ++ m) = (k, u.length) := by
  obtain ⟨c, t, rfl⟩ : ∃ c r, u = c :: r := by
    cases u with
    | nil => exact absurd rfl h0
    | cons c r => exact ⟨c, r, rfl⟩
  generalize hl : c :: t = u at hf he h0 ⊢
  have hh : u.head? = some c := by rw [← hl]; rfl
  have hlen : 0 < u.length := by rw [← hl]; simp
  have hu := head_app hh m
  have hP := prop_hd hh
  have hQ := prop_hd hu
  by_cases hp : 0 < (prop u).2
  · have hfu : prop u = (k, u.length) := by rw [← hf]; unfold fst_; rw [if_pos hp]
    suffices hs : prop (u ++ m) = (k, u.length) by
      unfold fst_
      rw [hs, if_pos hlen]
    rw [hfu] at hP
    by_cases h1 : isSp c = true
    · rw [if_pos h1] at hP hQ
      injection hP with hk hn
      subst hk
      unfold ends at he
      rw [if_pos rfl] at he
      rw [hQ, run_app _ _ _ hn.symm he]
    · rw [if_neg h1] at hP hQ
      by_cases h2 : c = 35
      · rw [if_pos h2] at hP hQ
        injection hP with hk hn
        subst hk
        unfold ends at he
        rw [if_neg (by decide), if_pos rfl] at he
        rw [hQ, run_app _ _ _ hn.symm he]
      · rw [if_neg h2] at hP hQ
        by_cases h3 : isLo c = true
        · rw [if_pos h3] at hP hQ
          have hn : run coLo u = u.length := by
            split at hP <;> injection hP with hk hn <;> exact hn.symm
          have hk : k = 2 ∨ k = 7 := by
            split at hP <;> injection hP with hk hn
            · exact .inr hk
            · exact .inl hk
          unfold ends at he
          rw [if_neg (by omega), if_neg (by omega), if_pos hk] at he
          rw [hQ, run_app _ _ _ hn he, List.take_left, hP, hn, List.take_length]
        · rw [if_neg h3] at hP hQ
          by_cases h4 : isUp c = true
          · rw [if_pos h4] at hP hQ
            injection hP with hk hn
            subst hk
            unfold ends at he
            rw [if_neg (by decide), if_neg (by decide), if_neg (by decide), if_pos rfl] at he
            rw [hQ, run_app _ _ _ hn.symm he]
          · rw [if_neg h4] at hP hQ
            by_cases h5 : isDi c = true
            · rw [if_pos h5] at hP hQ
              injection hP with hk hn
              subst hk
              unfold ends at he
              rw [if_neg (by decide), if_neg (by decide), if_neg (by decide), if_neg (by decide), if_pos rfl] at he
              rw [hQ, run_app _ _ _ hn.symm he]
            · rw [if_neg h5] at hP hQ
              by_cases h6 : c = 34
              · rw [if_pos h6] at hP hQ
                injection hP with hk hn
                subst hk
                rw [hQ, stLen_app (by omega), hn]
              · rw [if_neg h6] at hP hQ
                injection hP with hk hn
                subst hk
                rw [hQ, syLen_app hn.symm h0 he]
  · have hfu : (8, badLen u) = (k, u.length) := by rw [← hf]; unfold fst_; rw [if_neg hp]
    injection hfu with hk hn
    subst hk
    rw [ends_bad] at he
    by_cases h6 : c = 34
    · subst h6
      rw [if_pos hh] at he
      rw [if_neg (by decide), if_neg (by decide), if_neg (by decide), if_neg (by decide), if_neg (by decide), if_pos rfl] at hP hQ
      have hs : stLen u = 0 := by rw [hP] at hp; simpa using hp
      have hs2 : stLen (u ++ m) = 0 := by
        rw [← hl] at hs ⊢
        exact quot_app hs he
      have hb : run noNl u = u.length := by rw [← hn, ← hl, badLen, if_pos rfl]
      unfold fst_
      rw [hQ, hs2, if_neg (by simp)]
      have : badLen (u ++ m) = run noNl (u ++ m) := by rw [← hl, List.cons_append, badLen, if_pos rfl]
      rw [this, run_app _ _ _ hb he]
    · rw [if_neg (by rw [hh]; simpa using h6)] at he
      have hd : dull c t.head? := (dull_prop h6).1 (by rw [hl]; omega)
      have hb : badRun t = t.length := by
        rw [← hl, badLen, if_neg h6, List.length_cons] at hn
        omega
      rw [← hl] at he ⊢
      have := bad_app m he.1 t c hb he.2 hd
      have hq := (dull_prop h6).2 this.1
      unfold fst_
      rw [List.cons_append, if_neg (by omega), badLen, if_neg h6, this.2, List.length_cons]

end Go.Proofs.YtgfhhpodcnohpaaDoor
