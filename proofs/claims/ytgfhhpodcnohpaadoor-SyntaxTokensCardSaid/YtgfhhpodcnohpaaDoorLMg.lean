/- LMg, with the texts that only it needs in front of it: LMd, LMe, LJo, LJp, LJq. It has no conditions. -/
import Derived.Test.YtgfhhpodcnohpaaDoorLMc
import Derived.Test.YtgfhhpodcnohpaaDoorLPo
import Derived.Test.YtgfhhpodcnohpaaDoorStr
import Derived.Lib.BufferWrite
import Derived.Laws.CopyOwn
import Derived.Test.YtgfhhpodcnohpaaDoorLTn

/- Tokens: a text that goes on: the tokens but the last stay. It has no conditions. -/
namespace Go.Proofs.YtgfhhpodcnohpaaDoor
set_option linter.unusedVariables false

theorem head_app' {d : List Int} (h : d ≠ []) (m : List Int) : (d ++ m).head? = d.head? := by
  cases d with
  | nil => exact absurd rfl h
  | cons c r => rfl
theorem endB_app {d : List Int} (h : endB d = true) (m : List Int) : endB (d ++ m) = true := by
  cases d with
  | nil => simp [endB, prop] at h
  | cons c r =>
    rw [endB_iff] at h
    rw [List.cons_append, endB_iff]
    intro h2
    apply h
    cases r with
    | nil => exact dull_none h2
    | cons e r => exact h2
theorem ends_app {k : Int} {u d : List Int} (h : ends k u d) (hd : d ≠ []) (m : List Int) : ends k u (d ++ m) := by
  unfold ends at h ⊢
  rw [head_app' hd]
  split
  · rwa [if_pos ‹_›] at h
  · rw [if_neg ‹_›] at h
    split
    · rwa [if_pos ‹_›] at h
    · rw [if_neg ‹_›] at h
      split
      · rwa [if_pos ‹_›] at h
      · rw [if_neg ‹_›] at h
        split
        · rwa [if_pos ‹_›] at h
        · rw [if_neg ‹_›] at h
          split
          · rwa [if_pos ‹_›] at h
          · rw [if_neg ‹_›] at h
            split
            · trivial
            · rw [if_neg ‹_›] at h
              split
              · rwa [if_pos ‹_›] at h
              · rw [if_neg ‹_›] at h
                split
                · rwa [if_pos ‹_›] at h
                · rw [if_neg ‹_›] at h
                  refine ⟨?_, h.2⟩
                  rcases h.1 with h1 | h1
                  · exact absurd h1 hd
                  · exact .inr (endB_app h1 m)
/-- The first token of a text that goes on, where it is not the last. -/
theorem fst_app {l : List Int} (h0 : l ≠ []) (hd : l.drop (fst_ l).2 ≠ []) (m : List Int) : fst_ (l ++ m) = fst_ l := by
  obtain ⟨h1, h2⟩ := t_split h0
  have hp := fst_pos h0
  obtain ⟨⟨k, n⟩, hk⟩ : ∃ x, fst_ l = x := ⟨_, rfl⟩
  rw [hk] at h1 h2 hp hd ⊢
  simp only at h1 h2 hp hd
  have hl : (l.take n).length = n := by rw [List.length_take]; omega
  have := t_join (u := l.take n) (m := l.drop n ++ m) (k := k) (fun e => by rw [e] at hl; simp at hl; omega) (by rw [h1, hl]) (ends_app h2 hd m)
  rw [← List.append_assoc, List.take_append_drop, hl] at this
  exact this
theorem lex_app : ∀ (N : Nat) (l m : List Int) (p : Nat), l.length ≤ N → (lex l p).length ≤ (lex (l ++ m) p).length ∧ ∀ k, k + 1 < (lex l p).length → (lex (l ++ m) p)[k]? = (lex l p)[k]? := by
  intro N
  induction N with
  | zero =>
    intro l m p h
    have : l = [] := List.eq_nil_of_length_eq_zero (by omega)
    subst this
    exact ⟨Nat.zero_le _, fun k hk => by rw [lex_nil] at hk; simp at hk⟩
  | succ N ih =>
    intro l m p h
    by_cases h0 : l = []
    · subst h0
      exact ⟨Nat.zero_le _, fun k hk => by rw [lex_nil] at hk; simp at hk⟩
    · have hne : l ++ m ≠ [] := fun e => h0 (List.append_eq_nil_iff.1 e).1
      have hp := fst_pos h0
      rw [lex_step h0 p, lex_step hne p]
      by_cases hd : l.drop (fst_ l).2 = []
      · rw [hd, lex_nil]
        exact ⟨by simp, fun k hk => by simp at hk⟩
      · rw [fst_app h0 hd m]
        obtain ⟨⟨k, n⟩, hk⟩ : ∃ x, fst_ l = x := ⟨_, rfl⟩
        rw [hk] at hp hd ⊢
        simp only at hp hd ⊢
        rw [List.take_append_of_le_length hp.2, List.drop_append_of_le_length hp.2]
        obtain ⟨i1, i2⟩ := ih (l.drop n) m (p + n) (by rw [List.length_drop]; omega)
        refine ⟨by simp only [List.length_cons]; omega, fun j hj => ?_⟩
        cases j with
        | zero => rfl
        | succ j =>
          rw [List.getElem?_cons_succ, List.getElem?_cons_succ]
          exact i2 j (by simp only [List.length_cons] at hj; omega)

end Go.Proofs.YtgfhhpodcnohpaaDoor

/- Tokens: the tokens that are no Space; two texts joined by a line feed. It has no conditions. -/
namespace Go.Proofs.YtgfhhpodcnohpaaDoor
set_option linter.unusedVariables false

/-- The tokens that are no Space. -/
def sol (L : List Tk) : List Tk := L.filter fun t => !decide (t.1 = 0)
theorem sol_cons0 (t : Tk) (L : List Tk) (h : t.1 = 0) : sol (t :: L) = sol L := by
  unfold sol
  rw [List.filter_cons_of_neg (by simp [h])]
theorem sol_cons1 (t : Tk) (L : List Tk) (h : ¬ t.1 = 0) : sol (t :: L) = t :: sol L := by
  unfold sol
  rw [List.filter_cons_of_pos (by simp [h])]
theorem run_cons {c : Int} {r : List Int} (h : isSp c = true) : run isSp (c :: r) = run isSp r + 1 := by rw [run, if_pos h]
theorem fst_sp {c : Int} {r : List Int} (h : isSp c = true) : fst_ (c :: r) = (0, run isSp (c :: r)) := by
  have hp : prop (c :: r) = (0, run isSp (c :: r)) := by rw [prop, if_pos h]
  unfold fst_
  rw [hp, if_pos]
  show 0 < run isSp (c :: r)
  rw [run_cons h]
  omega
theorem fst_zero {l : List Int} (h0 : l ≠ []) (h : (fst_ l).1 = 0) : (fst_ l).2 = run isSp l := by
  cases l with
  | nil => exact absurd rfl h0
  | cons c r =>
    by_cases hc : isSp c = true
    · rw [fst_sp hc]
    · exfalso
      revert h
      unfold fst_
      split
      · rw [prop, if_neg hc]
        repeat' split
        all_goals simp
      · simp
theorem sol_run (m : List Int) (p : Nat) : sol (lex m p) = sol (lex (m.drop (run isSp m)) (p + run isSp m)) := by
  cases m with
  | nil => rfl
  | cons c r =>
    by_cases hc : isSp c = true
    · rw [lex_step (by simp) p, sol_cons0 _ _ (by rw [fst_sp hc]), fst_sp hc]
    · have : run isSp (c :: r) = 0 := by rw [run, if_neg hc]
      rw [this]
      rfl
theorem run_all : ∀ (l m : List Int), (∀ c ∈ l, isSp c = true) → run isSp (l ++ m) = l.length + run isSp m
  | [], m, h => by simp
  | c :: l, m, h => by
    rw [List.cons_append, run_cons (h c (List.mem_cons_self ..)), run_all l m fun x hx => h x (List.mem_cons_of_mem _ hx), List.length_cons]
    omega
theorem sol_sp (l m : List Int) (p : Nat) (h : ∀ c ∈ l, isSp c = true) : sol (lex (l ++ m) p) = sol (lex m (p + l.length)) := by
  rw [sol_run (l ++ m) p, sol_run m (p + l.length), run_all l m h, List.drop_append, List.drop_eq_nil_of_le (Nat.le_add_right _ _), List.nil_append, Nat.add_sub_cancel_left, Nat.add_assoc]
theorem sp_all {l : List Int} (h : run isSp l = l.length) : ∀ c ∈ l, isSp c = true := fun c hc => by
  obtain ⟨i, hi, rfl⟩ := List.getElem_of_mem hc
  obtain ⟨d, hd, hp⟩ := run_isin isSp l i (by omega)
  rw [List.getElem?_eq_getElem hi] at hd
  cases hd
  exact hp
/-- A line feed ends every token but a Space. -/
theorem ends_nl {k : Int} {u : List Int} (hk : ¬ k = 0) (m : List Int) : ends k u (10 :: m) := by
  have hh : ∀ c : Int, (10 :: m).head? = some c → c = 10 := fun c h => by simpa using h.symm
  unfold ends
  rw [if_neg hk]
  split
  · intro c h; rw [hh c h]; decide
  · split
    · intro c h; rw [hh c h]; decide
    · split
      · intro c h; rw [hh c h]; decide
      · split
        · intro c h; rw [hh c h]; decide
        · split
          · trivial
          · split
            · refine .inr fun a c ha h hm => ?_
              rw [hh c h] at hm
              simp [SY2] at hm
            · split
              · intro c h; rw [hh c h]; decide
              · refine ⟨.inr ?_, fun h => ?_⟩
                · rw [endB_iff]
                  intro h
                  exact absurd h.1 (by decide)
                · simp at h
/-- A blank ends every token but a Space, a comment and a quote that ends nowhere. -/
theorem ends_bl {k : Int} {u : List Int} (hk : ¬ k = 0) (hk1 : ¬ k = 1) (hq : ¬ (k = 8 ∧ u.head? = some 34)) (h8 : k ≤ 8) (m : List Int) (h7 : ¬ (k < 0)) : ends k u (32 :: m) := by
  have hh : ∀ c : Int, (32 :: m).head? = some c → c = 32 := fun c h => by simpa using h.symm
  unfold ends
  rw [if_neg hk, if_neg hk1]
  split
  · intro c h; rw [hh c h]; decide
  · split
    · intro c h; rw [hh c h]; decide
    · split
      · intro c h; rw [hh c h]; decide
      · split
        · trivial
        · split
          · refine .inr fun a c ha h hm => ?_
            rw [hh c h] at hm
            simp [SY2] at hm
          · split
            · rename_i h2 _ _ _ _ h1
              exfalso
              apply hq
              exact ⟨by omega, h1⟩
            · refine ⟨.inr ?_, fun h => ?_⟩
              · rw [endB_iff]
                intro h
                exact absurd h.1 (by decide)
              · simp at h
theorem fst_nl {l : List Int} (h0 : l ≠ []) (hn : (fst_ l).2 = l.length) (hk : ¬ (fst_ l).1 = 0) (m : List Int) : fst_ (l ++ 10 :: m) = fst_ l := by
  have := t_join (u := l) (m := 10 :: m) (k := (fst_ l).1) h0 (by rw [← hn]) (ends_nl hk m)
  rw [this, ← hn]
theorem sol_nl : ∀ (N : Nat) (l m : List Int) (p : Nat), l.length ≤ N → sol (lex (l ++ 10 :: m) p) = sol (lex l p) ++ sol (lex m (p + l.length + 1)) := by
  have base : ∀ (m : List Int) (p : Nat), sol (lex (10 :: m) p) = sol (lex m (p + 1)) := fun m p => sol_sp [10] m p (fun c hc => by simp at hc; rw [hc]; decide)
  intro N
  induction N with
  | zero =>
    intro l m p h
    have : l = [] := List.eq_nil_of_length_eq_zero (by omega)
    subst this
    exact base m p
  | succ N ih =>
    intro l m p h
    by_cases h0 : l = []
    · subst h0
      exact base m p
    · have hne : l ++ 10 :: m ≠ [] := fun e => h0 (List.append_eq_nil_iff.1 e).1
      have hp := fst_pos h0
      by_cases hd : l.drop (fst_ l).2 = []
      · have hn : (fst_ l).2 = l.length := by
          have := congrArg List.length hd
          rw [List.length_drop, List.length_nil] at this
          omega
        by_cases hk : (fst_ l).1 = 0
        · have hall := sp_all ((fst_zero h0 hk).symm.trans hn)
          have h1 := sol_sp (l ++ [10]) m p (fun c hc => by
            rcases List.mem_append.1 hc with h | h
            · exact hall c h
            · simp at h; rw [h]; decide)
          rw [List.append_assoc, List.singleton_append, List.length_append, List.length_singleton] at h1
          rw [h1, lex_step h0 p, sol_cons0 _ _ hk, hd, lex_nil]
          rfl
        · rw [lex_step hne p, fst_nl h0 hn hk m, sol_cons1 _ _ hk, lex_step h0 p, sol_cons1 _ _ hk, hd, lex_nil, hn, List.take_append_of_le_length (Nat.le_refl _), List.drop_append_of_le_length (Nat.le_refl _), List.drop_length, List.nil_append, base m (p + l.length)]
          rfl
      · rw [lex_step hne p, fst_app h0 hd, lex_step h0 p]
        obtain ⟨⟨k, n⟩, hk⟩ : ∃ x, fst_ l = x := ⟨_, rfl⟩
        rw [hk] at hp hd ⊢
        simp only at hp hd ⊢
        have i1 := ih (l.drop n) m (p + n) (by rw [List.length_drop]; omega)
        have hl : p + n + (l.drop n).length + 1 = p + l.length + 1 := by rw [List.length_drop]; omega
        rw [hl] at i1
        rw [List.take_append_of_le_length hp.2, List.drop_append_of_le_length hp.2]
        by_cases hk0 : k = 0
        · rw [sol_cons0 _ _ hk0, sol_cons0 _ _ hk0, i1]
        · rw [sol_cons1 _ _ hk0, sol_cons1 _ _ hk0, i1, List.cons_append]
def shf (q : Nat) (t : Tk) : Tk := (t.1, t.2.1, t.2.2 + q)
theorem lex_shift : ∀ (N : Nat) (l : List Int) (p q : Nat), l.length ≤ N → lex l (p + q) = (lex l p).map (shf q) := by
  intro N
  induction N with
  | zero =>
    intro l p q h
    have : l = [] := List.eq_nil_of_length_eq_zero (by omega)
    subst this
    rfl
  | succ N ih =>
    intro l p q h
    by_cases h0 : l = []
    · subst h0; rfl
    · have hp := fst_pos h0
      rw [lex_step h0, lex_step h0, List.map_cons, show p + q + (fst_ l).2 = p + (fst_ l).2 + q by omega, ih _ (p + (fst_ l).2) q (by rw [List.length_drop]; omega)]
      rfl
theorem sol_map (L : List Tk) (q : Nat) : sol (L.map (shf q)) = (sol L).map (shf q) := by
  unfold sol
  rw [List.filter_map]
  rfl
/-- The tokens, but for Spaces, of two texts that are joined by a line feed. -/
theorem sol_join (a b : List Int) : sol (lex (a ++ 10 :: b) 0) = sol (lex a 0) ++ (sol (lex b 0)).map (shf (a.length + 1)) := by
  rw [sol_nl a.length a b 0 (Nat.le_refl _), ← sol_map, ← lex_shift b.length b 0 (a.length + 1) (Nat.le_refl _), Nat.zero_add, Nat.zero_add]

end Go.Proofs.YtgfhhpodcnohpaaDoor

/- Tokens: what separates two tokens that are joined; texts one after the other. Conditions: texts of at most 100000 bytes; the tables lie in memory. -/
namespace Go.Proofs.YtgfhhpodcnohpaaDoor
open Go.RowKit Go.Shelf
set_option linter.unusedVariables false

/-- What separates two neighbours. -/
def sepB (a b : ByteArray) : ByteArray := if (fst_ (sb a)).1 = 1 ∨ ((fst_ (sb a)).1 = 8 ∧ (sb a).head? = some 34) then ⟨#[10]⟩ else if (fst_ (sb (a ++ b))).2 ≠ a.size then ⟨#[32]⟩ else ⟨#[]⟩
theorem sepB_size (a b : ByteArray) : (sepB a b).size ≤ 1 := by
  unfold sepB
  split
  · exact Nat.le_refl 1
  · split
    · exact Nat.le_refl 1
    · exact Nat.zero_le 1

set_option maxRecDepth 100000 in
set_option maxHeartbeats 1000000 in
theorem between_any (a b : ByteArray) (hs : a.size + b.size ≤ 100000) (h0 : 0 < a.size) (w : World) (hT : LexT w) :
    Calls Tryd.prog 54 #[.string a, .string b] w fun e w' => e = .returned (.string (sepB a b)) ∧ Below w.heap.size w w' := by
  have hp0 : (0 : Nat) < a.size := h0
  have hsz : (a ++ b).size = a.size + b.size := ByteArray.size_append
  have c0 := first_any a (by omega) h0 w hT
  have d0 := fun W h => first_any (a ++ b) (by omega) (by omega) W h
  unfold FstP at c0 d0
  unfold sepB
  rw [head_at a h0]
  obtain ⟨c, hc⟩ : ∃ c : Int, ((a[0]'h0).toNat : Int) = c := ⟨_, rfl⟩
  rw [hc]
  obtain ⟨⟨k, n⟩, hk⟩ : ∃ x, fst_ (sb a) = x := ⟨_, rfl⟩
  obtain ⟨⟨k2, n2⟩, hk2⟩ : ∃ x, fst_ (sb (a ++ b)) = x := ⟨_, rfl⟩
  rw [hk] at c0 ⊢
  rw [hk2] at d0 ⊢
  simp only [Option.some.injEq] at c0 d0 ⊢
  have C0 := Lib.hid c0
  have D0 := Lib.hid d0
  have HT := Lib.hid hT
  have hcat : a.size + b.size ≤ 9223372036854775807 := by omega
  clear c0 d0 hT hk hk2 hs hsz
  by_cases q1 : k = 1
  · have Q1 : (k == 1) = true := beq_iff_eq.2 q1
    rw [if_pos (.inl q1)]
    clear q1
    go_enter Tryd.func54, Tryd.ntmps54
    go_wp2_with fail
    refine C0.out.mono ?_
    rintro e w1 ⟨rfl, hb⟩
    have HB := Lib.hid hb
    clear hb
    go_wp2
    go_ret
    exact ⟨rfl, HB.out⟩
  · have Q1 : (k == 1) = false := beq_eq_false_iff_ne.2 q1
    by_cases q2 : k = 8 ∧ c = 34
    · have Q8 : (k == 8) = true := beq_iff_eq.2 q2.1
      have Qc : (c == 34) = true := beq_iff_eq.2 q2.2
      rw [if_pos (.inr q2)]
      clear q1 q2
      go_enter Tryd.func54, Tryd.ntmps54
      go_wp2_with fail
      refine C0.out.mono ?_
      rintro e w1 ⟨rfl, hb⟩
      have HB := Lib.hid hb
      clear hb
      go_wp2
      go_ret
      exact ⟨rfl, HB.out⟩
    · rw [if_neg (by intro h; rcases h with h | h; exact q1 h; exact q2 h)]
      have Q : (k == 8) = false ∨ ((k == 8) = true ∧ (c == 34) = false) := by
        by_cases h8 : k = 8
        · exact .inr ⟨beq_iff_eq.2 h8, beq_eq_false_iff_ne.2 fun h => q2 ⟨h8, h⟩⟩
        · exact .inl (beq_eq_false_iff_ne.2 h8)
      have hne : ((n2 : Int) != (a.size : Int)) = decide (n2 ≠ a.size) := by
        by_cases e : n2 = a.size
        · rw [decide_eq_false (by simpa using e), e]; simp
        · rw [decide_eq_true e, bne_iff_ne]; omega
      clear q1 q2
      have HNE := Lib.hid hne
      clear hne
      by_cases q3 : n2 ≠ a.size
      · rw [if_pos q3]
        have Q3 : ((n2 : Int) != (a.size : Int)) = true := by rw [HNE.out, decide_eq_true q3]
        clear q3 HNE
        rcases Q with Q8 | ⟨Q8, Qc⟩
        · go_enter Tryd.func54, Tryd.ntmps54
          go_wp2_with fail
          refine C0.out.mono ?_
          rintro e w1 ⟨rfl, hb⟩
          have HB := Lib.hid hb
          have HT1 := Lib.hid (HT.out.below hb)
          clear hb
          go_wp2_with fail
          refine (D0.out _ HT1.out).mono ?_
          rintro e w2 ⟨rfl, hb⟩
          have HB2 := Lib.hid (HB.out.trans (hb.mono HB.out.size))
          clear hb
          go_wp2
          go_ret
          exact ⟨rfl, HB2.out⟩
        · go_enter Tryd.func54, Tryd.ntmps54
          go_wp2_with fail
          refine C0.out.mono ?_
          rintro e w1 ⟨rfl, hb⟩
          have HB := Lib.hid hb
          have HT1 := Lib.hid (HT.out.below hb)
          clear hb
          go_wp2_with fail
          refine (D0.out _ HT1.out).mono ?_
          rintro e w2 ⟨rfl, hb⟩
          have HB2 := Lib.hid (HB.out.trans (hb.mono HB.out.size))
          clear hb
          go_wp2
          go_ret
          exact ⟨rfl, HB2.out⟩
      · rw [if_neg q3]
        have Q3 : ((n2 : Int) != (a.size : Int)) = false := by rw [HNE.out, decide_eq_false q3]
        clear q3 HNE
        rcases Q with Q8 | ⟨Q8, Qc⟩
        · go_enter Tryd.func54, Tryd.ntmps54
          go_wp2_with fail
          refine C0.out.mono ?_
          rintro e w1 ⟨rfl, hb⟩
          have HB := Lib.hid hb
          have HT1 := Lib.hid (HT.out.below hb)
          clear hb
          go_wp2_with fail
          refine (D0.out _ HT1.out).mono ?_
          rintro e w2 ⟨rfl, hb⟩
          have HB2 := Lib.hid (HB.out.trans (hb.mono HB.out.size))
          clear hb
          go_wp2
          go_ret
          exact ⟨rfl, HB2.out⟩
        · go_enter Tryd.func54, Tryd.ntmps54
          go_wp2_with fail
          refine C0.out.mono ?_
          rintro e w1 ⟨rfl, hb⟩
          have HB := Lib.hid hb
          have HT1 := Lib.hid (HT.out.below hb)
          clear hb
          go_wp2_with fail
          refine (D0.out _ HT1.out).mono ?_
          rintro e w2 ⟨rfl, hb⟩
          have HB2 := Lib.hid (HB.out.trans (hb.mono HB.out.size))
          clear hb
          go_wp2
          go_ret
          exact ⟨rfl, HB2.out⟩

/-- Texts lie in memory behind a slice. -/
def StrIn (w : World) (a : Option Addr) (B : List ByteArray) : Prop := B = [] ∨ ∃ p, a = some p ∧ ∀ i, i < B.length → w.cell? (p.add i) = some (.string (B.getD i ⟨#[]⟩))
theorem StrIn.below {w w' : World} {a : Option Addr} {B : List ByteArray} (h : StrIn w a B) (hb : Below w.heap.size w w') : StrIn w' a B := by
  rcases h with h | ⟨p, hp, hc⟩
  · exact .inl h
  · exact .inr ⟨p, hp, fun i hi => (hb.cell (World.block_lt_of_cell? w _ (hc i hi))).trans (hc i hi)⟩
theorem strIn_own {w : World} {base n : Nat} {e : TypeId} {v : Value} {B : List ByteArray} (h : w.ownsRow base e 1 v n (B.map Value.string)) : ∃ a cap, v = .slice a n cap ∧ n = B.length ∧ StrIn w a B := by
  have hn : n = B.length := by have := h.1; simp at this; omega
  rcases h.2 with ⟨rfl, h0⟩ | ⟨g, cap, cur, rfl, _⟩
  · exact ⟨none, 0, by rw [h0], hn, .inl (List.eq_nil_of_length_eq_zero (by omega))⟩
  · refine ⟨_, cap, rfl, hn, .inr ⟨_, rfl, fun i hi => ?_⟩⟩
    rw [show (⟨g, 0, none⟩ : Addr).add i = ⟨g, i, none⟩ by by_cases h0 : i = 0 <;> simp [Addr.add, h0], h.cellAt i (by omega), List.getElem?_map, List.getElem?_eq_getElem hi]
    simp [List.getD, hi]

/-- The bytes of texts one after the other. -/
def flat (B : List ByteArray) : List Int := (B.map sb).flatten
theorem flat_take (B : List ByteArray) (k : Nat) (h : k < B.length) : flat (B.take (k + 1)) = flat (B.take k) ++ sb (B.getD k ⟨#[]⟩) := by
  unfold flat
  rw [List.take_succ_eq_append_getElem h, List.map_append, List.flatten_append]
  simp [List.getD, h]
theorem flat_take_le (B : List ByteArray) (k : Nat) : (flat (B.take k)).length ≤ (flat B).length := by
  have : flat B = flat (B.take k) ++ flat (B.drop k) := by
    unfold flat
    rw [← List.flatten_append, ← List.map_append, List.take_append_drop]
  rw [this, List.length_append]
  omega
theorem flat_byt (B : List ByteArray) : Byt (flat B) := fun c hc => by
  obtain ⟨l, hl, h2⟩ := List.mem_flatten.1 hc
  obtain ⟨s, _, rfl⟩ := List.mem_map.1 hl
  exact sb_byt s c h2

theorem byteCells_sb (s : ByteArray) : Lib.byteCells s.data.toList = (sb s).map (Value.int .u8) := by
  unfold Lib.byteCells sb
  rw [List.map_map]
  rfl
theorem wpList_copy_str {P : Program} {w : World} {ops : Array Oper} {rest : List Oper} {o : Oper} {a : Act} {Q : Exit → Act → World → Prop} (hgd : o.guard = none) (d s : Operand) (dT sT : TypeId)
    (ho : o.op = .call { callee := .builtin .copy, args := #[d, s], argTypes := #[dT, sT] }) (elem : TypeId) (hu : P.underlying dT = some (.slice elem)) (hsz : (P.info? elem).map (·.size) = some 1)
    (dp : Option Addr) (dLen dCap : Nat) (S : ByteArray) (hd : a.eval d = .slice dp dLen dCap) (hs : a.eval s = .string S)
    (g off : Nat) (cur : List Value) (t : TypeId) (hg : w.heap[g]? = some (.cells cur.toArray t (0, 0))) (hle : S.size ≤ dLen)
    (hpos : 0 < S.size → dp = some ⟨g, off, none⟩) (hfit : off + S.size ≤ cur.length) (B : Nat) (w0 : World) (hb : Below B w0 w) (hBg : B ≤ g)
    (h : ∀ w', Hid (w'.heap[g]? = some (.cells (splice cur off ((sb S).map (Value.int .u8))).toArray t (0, 0))) → Below B w0 w' → wpList P ops Q rest (a.put o.dst (goInt S.size)) w') :
    wpList P ops Q (o :: rest) a w := by
  refine wpList_plain hgd fun K hK => ?_
  by_cases h0 : S.size = 0
  · have hrun := Lib.run_copy_empty_string (P := P) w dT sT o.type elem dp dLen dCap S hu (by cases hq : P.info? elem <;> simp_all) h0
    unfold Oper.wp
    simp [execOp, ho, resolve, invoke, builtin, hd, hs, hrun, Result.andThen]
    have hsb : sb S = [] := List.eq_nil_of_length_eq_zero (by rw [sb_len]; exact h0)
    have := h w (show _ = _ by simpa [splice, hsb] using hg) hb
    rw [h0] at this
    exact hK _ _ this
  · have hdp := hpos (by omega)
    subst hdp
    have hrun := Lib.run_copy_row_string (P := P) w dT sT o.type elem g off dLen dCap S cur.toArray t hu hsz hg hle (by simpa using hfit)
    unfold Oper.wp
    simp [execOp, ho, resolve, invoke, builtin, hd, hs, hrun, Result.andThen]
    refine hK _ _ (h _ (show _ = _ from ?_) (below_setRow hb hBg _))
    rw [setRow_heap w g _ _ t _ hg]
    congr 2
    simp only [splice, ← byteCells_sb, Lib.byteCells_length]
    have : S.data.toList.length = S.size := rfl
    rw [this]

end Go.Proofs.YtgfhhpodcnohpaaDoor

/- Tokens: the program's concat and Join. Conditions: at most 1000 texts of at most 40000 bytes; the tables lie in memory. -/
namespace Go.Proofs.YtgfhhpodcnohpaaDoor
open Go.RowKit Go.Shelf
set_option linter.unusedVariables false

theorem info5m : (Tryd.prog.info? 5).map (·.size) = some 1 := by kernel_rfl
theorem info5f : (Tryd.prog.info? 5).map (fun i => (i.zero, i.size, i.bytes)) = some (some (.int .u8 0), 1, 1) := by kernel_rfl
theorem info9f : (Tryd.prog.info? 9).map (fun i => (i.zero, i.size, i.bytes)) = some (some (.string ⟨#[]⟩), 1, 16) := by kernel_rfl
/-- The row of bytes while texts are copied into it. -/
def Fil (q T : Nat) (Z : List Int) (w : World) : Prop := ∃ cur : List Value, w.heap[q]? = some (.cells cur.toArray 5 (0, 0)) ∧ cur.length = T ∧ cur.take Z.length = Z.map (Value.int .u8)
theorem fil_step {q T : Nat} {Z X : List Int} {cur : List Value} {w : World} (h : w.heap[q]? = some (.cells (splice cur Z.length (X.map (Value.int .u8))).toArray 5 (0, 0))) (hl : cur.length = T) (ht : cur.take Z.length = Z.map (Value.int .u8)) (hx : Z.length + X.length ≤ T) : Fil q T (Z ++ X) w := by
  refine ⟨_, h, ?_, ?_⟩
  · rw [length_splice _ _ _ (by rw [List.length_map]; omega), hl]
  · unfold splice
    rw [ht, List.length_append, List.map_append, ← List.append_assoc]
    rw [List.take_append_of_le_length (by simp), List.take_of_length_le (by simp)]
theorem fil_sli {q T : Nat} {Z : List Int} {w : World} (h : Fil q T Z w) (hz : Z.length = T) (hT : T ≤ 9223372036854775807) : Sli .u8 w (some ⟨q, 0, none⟩) T Z := by
  obtain ⟨cur, hg, hl, ht⟩ := h
  rw [List.take_of_length_le (by omega)] at ht
  refine ⟨by omega, hT, (fun h => by cases h), .inr ⟨q, 0, rfl, (Array.getElem?_eq_some_iff.1 hg).1, fun j hj => ?_⟩⟩
  rw [Nat.zero_add]
  unfold World.cell?
  rw [hg, ht]
  simp [hj]

set_option maxRecDepth 100000 in
set_option maxHeartbeats 4000000 in
theorem concat_any (B : List ByteArray) (a : Option Addr) (cap n : Nat) (hn : B.length = n) (hz : n ≤ 1000000) (hf : (flat B).length ≤ 100000000) (w : World) (hS : StrIn w a B) :
    Calls Tryd.prog 55 #[.slice a n cap] w fun e w' => e = .returned (.string (bs (flat B))) ∧ Below w.heap.size w w' := by
  obtain ⟨T, hT⟩ : ∃ T, (flat B).length = T := ⟨_, rfl⟩
  rw [hT] at hf
  obtain ⟨R, hR⟩ : ∃ R, bs (flat B) = R := ⟨_, rfl⟩
  rw [hR]
  have HR := Lib.hid hR
  have HS := Lib.hid hS
  have HN := Lib.hid hn
  have HTT := Lib.hid hT
  obtain ⟨i5, hi5, iy0, iy1, iy2⟩ := info_parts info5f
  have HLE : Hid (∀ k, (flat (B.take k)).length ≤ T) := Lib.hid fun k => by rw [← hT]; exact flat_take_le B k
  have HST : Hid (∀ k, k < n → flat (B.take (k + 1)) = flat (B.take k) ++ sb (B.getD k ⟨#[]⟩)) := Lib.hid fun k hk => flat_take B k (by omega)
  have HAL : Hid (flat (B.take n) = flat B) := Lib.hid (by rw [← hn, List.take_length])
  clear hS hn hT hR
  go_enter Tryd.func55, Tryd.ntmps55
  go_wp2
  go_loop [3, 12] (fun v3 v12 => ∃ k, k ≤ n ∧ v3 = .int .i64 ((flat (B.take k)).length : Int) ∧ v12 = .int .i64 (k : Int)) (fun _ v12 => n - (RowKit.intOf v12).toNat)
  case atStart => exact ⟨0, Nat.zero_le _, rfl, rfl⟩
  case round =>
    obtain ⟨k, hk, rfl, rfl⟩ := hrel
    by_cases hlt : k < n
    · have hltz : (k : Int) < (n : Int) := by omega
      obtain ⟨p, hp, hc⟩ : ∃ p, a = some p ∧ ∀ i, i < B.length → w.cell? (p.add i) = some (.string (B.getD i ⟨#[]⟩)) := by
        rcases HS.out with h | h
        · have := HN.out; rw [h] at this; simp at this; omega
        · exact h
      subst hp
      have hck := hc k (by have := HN.out; omega)
      have hst := HST.out k hlt
      have hle1 := HLE.out (k + 1)
      have hle0 := HLE.out k
      rw [hst, List.length_append, sb_len] at hle1
      obtain ⟨x, hx⟩ : ∃ x, B.getD k ⟨#[]⟩ = x := ⟨_, rfl⟩
      rw [hx] at hck hst hle1
      obtain ⟨m, hm⟩ : ∃ m, (flat (B.take k)).length = m := ⟨_, rfl⟩
      rw [hm] at hle1 hle0 ⊢
      have hm1 : (flat (B.take (k + 1))).length = m + x.size := by rw [hst, List.length_append, sb_len, hm]
      have HM1 := Lib.hid hm1
      clear hc hst hx hm hm1
      go_wp2
      refine ⟨⟨k + 1, by omega, by rw [HM1.out]; go_num, by go_num⟩, ?_⟩
      simp only [RowKit.intOf, Int.toNat_natCast]
      omega
    · obtain rfl : n = k := by omega
      have hltz : ¬ (n : Int) < (n : Int) := by omega
      rw [HAL.out, HTT.out]
      have hTz : (T : Int) ≤ 100000000 := by omega
      go_wp2_with (at_make; refine wpList_make_full _ rfl _ _ 92 rfl w.heap.size 5 i5 (.int .u8 0) 1 Tryd.underlying92 hi5 iy0 iy1 .i64 .i64 _ _ T rfl rfl rfl rfl (by rw [iy2]; omega) (by unfold maxLen; omega) (Nat.le_refl _) ?_; intro w1 hown1 hgrow1)
      have H1 : Hid (Fil w.heap.size T [] w1 ∧ Below w.heap.size w w1) := by
        refine ⟨?_, (Below.refl _ _).grown hgrow1 (Nat.le_refl _) (fun k e => by cases e)⟩
        rcases hown1.2 with ⟨h0, _⟩ | ⟨g, cp, cur, hv, _, hg, _, _, hsz, _⟩
        · cases h0
        · simp only [Value.slice.injEq, Option.some.injEq, Addr.mk.injEq, and_true, true_and] at hv
          obtain ⟨rfl, rfl⟩ := hv
          exact ⟨cur.toList, by simpa using hg, by simpa using hsz, by simp⟩
      obtain ⟨q, hq⟩ : ∃ q, w.heap.size = q := ⟨_, rfl⟩
      rw [hq] at H1 ⊢
      have HQ := Lib.hid hq
      clear hown1 hgrow1 hq
      go_wp2
      go_loopw [7, 25] (fun v7 v25 wr => ∃ k, k ≤ n ∧ v7 = .int .i64 ((flat (B.take k)).length : Int) ∧ v25 = .int .i64 (k : Int) ∧ Hid (Fil q T (flat (B.take k)) wr) ∧ Hid (Below q w wr)) (fun _ v25 _ => n - (RowKit.intOf v25).toNat)
      case atStart => exact ⟨0, Nat.zero_le _, rfl, rfl, H1.out.1, H1.out.2⟩
      case round =>
        obtain ⟨k, hk2, rfl, rfl, HF, HB⟩ := hrel
        by_cases hlt2 : k < n
        · have hltz2 : (k : Int) < (n : Int) := by omega
          obtain ⟨p, hp, hc⟩ : ∃ p, a = some p ∧ ∀ i, i < B.length → wr.cell? (p.add i) = some (.string (B.getD i ⟨#[]⟩)) := by
            rcases HS.out.below (by rw [HQ.out]; exact HB.out) with h | h
            · have := HN.out; rw [h] at this; simp at this; omega
            · exact h
          subst hp
          have hck := hc k (by have := HN.out; omega)
          have hst := HST.out k hlt2
          have hle1 := HLE.out (k + 1)
          rw [hst, List.length_append, sb_len] at hle1
          obtain ⟨cur, hrow, hcl, htk⟩ := HF.out
          obtain ⟨x, hx⟩ : ∃ x, B.getD k ⟨#[]⟩ = x := ⟨_, rfl⟩
          rw [hx] at hck hst hle1
          obtain ⟨Z, hZ⟩ : ∃ Z, flat (B.take k) = Z := ⟨_, rfl⟩
          rw [hZ] at hst hle1 htk
          rw [hZ]
          have HST1 := Lib.hid hst
          have HTK := Lib.hid htk
          have HROW := Lib.hid hrow
          obtain ⟨m, hm⟩ : ∃ m, Z.length = m := ⟨_, rfl⟩
          have HM := Lib.hid hm
          rw [hm] at hle1 ⊢
          clear hc hst hx hZ htk hrow hm HF hltz hlt
          by_cases e : m = T
          · subst e
            have hx0 : x.size = 0 := by omega
            go_wp2_with (with_reducible show wpList _ _ _ (⟨some 34, _, _, _, _, _⟩ :: _) _ _; refine wpList_copy_str rfl (.tmp 32) (.tmp 33) 92 9 rfl 5 Tryd.underlying92 info5m (some ⟨q, 0, none⟩) 0 0 x rfl rfl q m cur 5 HROW.out (by omega) (fun h => by omega) (by omega) q w HB.out (Nat.le_refl _) ?_; intro w2 H2 hb2)
            have HF2 : Hid (Fil q m (flat (B.take (k + 1))) w2) := by
              rw [HST1.out]
              exact fil_step (by rw [HM.out]; exact H2.out) hcl HTK.out (by rw [sb_len, HM.out]; omega)
            have HM2 : Hid ((flat (B.take (k + 1))).length = m + x.size) := by rw [HST1.out, List.length_append, sb_len, HM.out]; exact Lib.hid rfl
            have HB2 := Lib.hid hb2
            clear H2 hb2
            go_wp2
            go_roundw
            case rel => exact ⟨k + 1, by omega, by rw [HM2.out]; go_num, by go_num, HF2, HB2⟩
            case measure => simp only [RowKit.intOf, Int.toNat_natCast]; omega
          · have hmT : (m : Int) < (T : Int) := by omega
            have hmz : (m : Int) ≤ (T : Int) := by omega
            have hne : ¬ (T : Int) = (m : Int) := by omega
            go_wp2_with (with_reducible show wpList _ _ _ (⟨some 34, _, _, _, _, _⟩ :: _) _ _; refine wpList_copy_str rfl (.tmp 32) (.tmp 33) 92 9 rfl 5 Tryd.underlying92 info5m (some ⟨q, m, none⟩) (T - m) (T - m) x rfl rfl q m cur 5 HROW.out (by omega) (fun _ => rfl) (by omega) q w HB.out (Nat.le_refl _) ?_; intro w2 H2 hb2)
            have HF2 : Hid (Fil q T (flat (B.take (k + 1))) w2) := by
              rw [HST1.out]
              exact fil_step (by rw [HM.out]; exact H2.out) hcl HTK.out (by rw [sb_len, HM.out]; omega)
            have HM2 : Hid ((flat (B.take (k + 1))).length = m + x.size) := by rw [HST1.out, List.length_append, sb_len, HM.out]; exact Lib.hid rfl
            have HB2 := Lib.hid hb2
            clear H2 hb2
            go_wp2
            go_roundw
            case rel => exact ⟨k + 1, by omega, by rw [HM2.out]; go_num, by go_num, HF2, HB2⟩
            case measure => simp only [RowKit.intOf, Int.toNat_natCast]; omega
        · obtain rfl : n = k := by omega
          have hF := HF.out
          rw [HAL.out] at hF
          have hcv := conv_str wr (some ⟨q, 0, none⟩) T (flat B) (flat_byt B) (fil_sli hF HTT.out (by omega))
          rw [HTT.out] at hcv
          rw [HR.out] at hcv
          clear hF HF
          go_wp2
          go_ret
          exact ⟨rfl, by rw [HQ.out]; exact HB.out⟩

end Go.Proofs.YtgfhhpodcnohpaaDoor

/- Tokens: the program's Join. Conditions: at most 1000 texts of at most 40000 bytes; the tables lie in memory. -/
namespace Go.Proofs.YtgfhhpodcnohpaaDoor
open Go.RowKit Go.Shelf
set_option linter.unusedVariables false

abbrev gB (B : List ByteArray) (k : Nat) : ByteArray := B.getD k ⟨#[]⟩
/-- A text that is one token, and no Space. -/
def okB (s : ByteArray) : Bool := (onlyV (sb s)).2 && !decide ((onlyV (sb s)).1 = 0)
theorem okB_pos {s : ByteArray} (h : okB s = true) : 0 < s.size := by
  rcases Nat.eq_zero_or_pos s.size with h0 | h0
  · have : sb s = [] := List.eq_nil_of_length_eq_zero (by rw [sb_len]; exact h0)
    rw [okB, this] at h
    simp [onlyV] at h
  · exact h0
/-- The texts and what separates them. -/
def pcsB (B : List ByteArray) : Nat → List ByteArray
  | 0 => []
  | k + 1 => pcsB B k ++ ((if k = 0 then [] else [sepB (gB B (k - 1)) (gB B k)]) ++ [gB B k])
theorem pcsB_len (B : List ByteArray) : ∀ k, (pcsB B k).length ≤ 2 * k
  | 0 => Nat.le_refl 0
  | k + 1 => by
    have := pcsB_len B k
    rw [pcsB, List.length_append, List.length_append]
    split <;> simp <;> omega
theorem flat_app (A B : List ByteArray) : flat (A ++ B) = flat A ++ flat B := by
  unfold flat
  rw [List.map_append, List.flatten_append]
theorem flat_one (x : ByteArray) : flat [x] = sb x := by simp [flat]
theorem gB_mem {B : List ByteArray} {k : Nat} (h : k < B.length) : gB B k ∈ B := by
  unfold gB List.getD
  rw [List.getElem?_eq_getElem h]
  exact List.getElem_mem h
theorem pcsB_size (B : List ByteArray) (M : Nat) (hM : ∀ s ∈ B, s.size ≤ M) : ∀ k, k ≤ B.length → (flat (pcsB B k)).length ≤ (M + 1) * k
  | 0, _ => Nat.zero_le _
  | k + 1, hk => by
    have h1 := pcsB_size B M hM k (by omega)
    have h2 := hM _ (gB_mem (show k < B.length by omega))
    rw [pcsB, flat_app, flat_app, flat_one, List.length_append, List.length_append, sb_len, Nat.mul_succ]
    split
    · rw [show flat [] = [] from rfl, List.length_nil]; omega
    · rw [flat_one, sb_len]
      have := sepB_size (gB B (k - 1)) (gB B k)
      omega
def joB (B : List ByteArray) : ByteArray := if ∀ s ∈ B, okB s = true then bs (flat (pcsB B B.length)) else ⟨#[]⟩
theorem joB_not {B : List ByteArray} {k : Nat} (h : k < B.length) (hk : okB (gB B k) = false) : joB B = ⟨#[]⟩ := by
  unfold joB
  rw [if_neg]
  intro h2
  have := h2 _ (gB_mem h)
  rw [hk] at this
  cases this
theorem joB_yes {B : List ByteArray} (h : ∀ i, i < B.length → okB (gB B i) = true) : joB B = bs (flat (pcsB B B.length)) := by
  unfold joB
  rw [if_pos]
  intro s hs
  obtain ⟨i, hi, rfl⟩ := List.getElem_of_mem hs
  have := h i hi
  unfold gB List.getD at this
  rw [List.getElem?_eq_getElem hi] at this
  exact this

/-- A new block with one text, ready to be appended. -/
theorem one_new (w : World) (x : ByteArray) : Below w.heap.size w (w.alloc (.cells #[.string x] 9)) ∧ ∀ j u, ([.string x] : List Value)[j]? = some u → (w.alloc (.cells #[.string x] 9)).cell? ((⟨w.heap.size, 0, none⟩ : Addr).add j) = some u := by
  refine ⟨(Below.refl _ _).alloc (Nat.le_refl _) _, fun j u hj => ?_⟩
  have hrow : Blk (w.alloc (.cells #[.string x] 9)) w.heap.size 9 #[.string x] := Blk.new _ _ _
  rw [show (⟨w.heap.size, 0, none⟩ : Addr).add j = ⟨w.heap.size, j, none⟩ by by_cases h0 : j = 0 <;> simp [Addr.add, h0], hrow.cell]
  simpa using hj
theorem one_str (x : ByteArray) : ∀ u ∈ ([.string x] : List Value), u.oneCell' = true := by
  intro u hu
  simp at hu
  rw [hu]
  rfl

set_option maxRecDepth 100000 in
set_option maxHeartbeats 8000000 in
theorem join_any (B : List ByteArray) (a : Option Addr) (cap n : Nat) (hn : B.length = n) (hz : n ≤ 1000) (hl : ∀ s ∈ B, s.size ≤ 40000) (w : World) (hT : LexT w) (hS : StrIn w a B) :
    Calls Tryd.prog 30 #[.slice a n cap] w fun e w' => e = .returned (.string (joB B)) ∧ Below w.heap.size w w' := by
  obtain ⟨R, hR⟩ : ∃ R, joB B = R := ⟨_, rfl⟩
  rw [hR]
  have HR := Lib.hid hR
  have HS := Lib.hid hS
  have HN := Lib.hid hn
  have HL := Lib.hid hl
  have HT := Lib.hid hT
  obtain ⟨i9, hi9, iy0, iy1, iy2⟩ := info_parts info9f
  clear hS hn hl hT hR
  go_enter Tryd.func30, Tryd.ntmps30
  go_wp2_with (at_make; refine wpList_make_own _ rfl _ _ 23 rfl w.heap.size 9 i9 (.string ⟨#[]⟩) 1 Tryd.underlying23 hi9 iy0 iy1 .i64 .i64 _ (2 * n) rfl rfl (by omega) (by rw [iy2]; omega) (by unfold maxLen; omega) (Nat.le_refl _) ?_; intro w1 hown1 hgrow1)
  have HO1 : Hid (w1.ownsRow w.heap.size 9 1 (.slice (some ⟨w.heap.size, 0, none⟩) 0 (2 * n)) 0 []) := hown1
  have HB1 : Hid (Below w.heap.size w w1) := (Below.refl _ _).grown hgrow1 (Nat.le_refl _) (fun k e => by cases e)
  clear hown1 hgrow1
  go_wp2
  go_loopw [3, 14] (fun v3 v14 wr => ∃ k, k ≤ n ∧ v14 = .int .i64 (k : Int) ∧ Hid (wr.ownsRow w.heap.size 9 1 v3 (pcsB B k).length ((pcsB B k).map Value.string)) ∧ Hid (Below w.heap.size w wr) ∧ Hid (∀ i, i < k → okB (gB B i) = true)) (fun _ v14 _ => n - (RowKit.intOf v14).toNat)
  case atStart => exact ⟨0, Nat.zero_le _, rfl, HO1, HB1, Lib.hid fun i hi => by omega⟩
  case round =>
    obtain ⟨k, hk, rfl, HO, HB, HOK⟩ := hrel
    obtain ⟨av, cv, hv⟩ := own_slice HO.out
    subst hv
    by_cases hlt : k < n
    · have hltz : (k : Int) < (n : Int) := by omega
      obtain ⟨p, hp, hc⟩ : ∃ p, a = some p ∧ ∀ i, i < B.length → wr.cell? (p.add i) = some (.string (gB B i)) := by
        rcases HS.out.below HB.out with h | h
        · have := HN.out; rw [h] at this; simp at this; omega
        · exact h
      subst hp
      have hck := hc k (by have := HN.out; omega)
      have HC := Lib.hid hc
      have hsx := HL.out _ (gB_mem (show k < B.length by have := HN.out; omega))
      have hok0 : okB (gB B k) = false → R = ⟨#[]⟩ := fun h => by rw [← HR.out]; exact joB_not (by have := HN.out; omega) h
      have hpl := pcsB_len B k
      have hpc : pcsB B (k + 1) = pcsB B k ++ ((if k = 0 then [] else [sepB (gB B (k - 1)) (gB B k)]) ++ [gB B k]) := rfl
      have hok1 : okB (gB B k) = true → ∀ i, i < k + 1 → okB (gB B i) = true := fun h i hi => by
        by_cases e : i = k
        · rw [e]; exact h
        · exact HOK.out i (by omega)
      have hx0 : okB (gB B k) = true → 0 < (gB B k).size := okB_pos
      have c0 := only_any (gB B k) (by omega) wr (HT.out.below HB.out)
      unfold okB at hok0 hok1 hx0
      obtain ⟨x, hx⟩ : ∃ x, gB B k = x := ⟨_, rfl⟩
      obtain ⟨⟨kd, ok⟩, hkd⟩ : ∃ y, onlyV (sb x) = y := ⟨_, rfl⟩
      have HOK1 : Hid ((ok && !decide (kd = 0)) = true → ∀ i, i < k + 1 → okB (gB B i) = true) := Lib.hid (by rw [hx, hkd] at hok1; exact hok1)
      rw [hx] at hck hsx c0 hpc hok0 hx0
      rw [hkd] at c0 hok0 hx0
      simp only at c0 hok0 hx0
      have C0 := Lib.hid c0
      have HX := Lib.hid hx
      obtain ⟨m, hm⟩ : ∃ m, (pcsB B k).length = m := ⟨_, rfl⟩
      rw [hm] at HO hpl ⊢
      have HPC := Lib.hid hpc
      have HM := Lib.hid hm
      have HOK0 := Lib.hid hok0
      have HX0 := Lib.hid hx0
      clear hc c0 hkd hx hpc hm hok0 hok1 hx0
      cases ok
      · go_wp2_with fail
        refine C0.out.mono ?_
        rintro e w2 ⟨rfl, hb⟩
        have HB2 := Lib.hid (HB.out.trans (hb.mono HB.out.size))
        clear hb
        go_wp2
        go_ret
        exact ⟨by rw [HOK0.out rfl]; rfl, HB2.out⟩
      · by_cases k0 : kd = 0
        · have K0 : (kd == 0) = true := beq_iff_eq.2 k0
          have hR : R = ⟨#[]⟩ := HOK0.out (by simp [k0])
          have HR2 := Lib.hid hR
          clear k0 hR
          go_wp2_with fail
          refine C0.out.mono ?_
          rintro e w2 ⟨rfl, hb⟩
          have HB2 := Lib.hid (HB.out.trans (hb.mono HB.out.size))
          clear hb
          go_wp2
          go_ret
          exact ⟨by rw [HR2.out]; rfl, HB2.out⟩
        · have K0 : (kd == 0) = false := beq_eq_false_iff_ne.2 k0
          have HOK2 := Lib.hid (HOK1.out (by simp [k0]))
          have hxp : 0 < x.size := HX0.out (by simp [k0])
          clear k0
          by_cases h0 : k = 0
          · subst h0
            have HPC2 : Hid (pcsB B (0 + 1) = [x]) := HPC.out
            have hck0 : wr.cell? p = some (.string x) := by simpa [Addr.add] using hck
            go_wp2_with fail
            refine C0.out.mono ?_
            rintro e w2 ⟨rfl, hb⟩
            have hsz2 := hb.size
            have hszw := HB.out.size
            obtain ⟨b5, nw⟩ := one_new w2 x
            obtain ⟨W5, hW5⟩ : ∃ W, w2.alloc (.cells #[.string x] 9) = W := ⟨_, rfl⟩
            rw [hW5] at b5 nw
            have HW5 := Lib.hid hW5
            have HNW := Lib.hid nw
            have hsz5 := b5.size
            have HB5 := Lib.hid ((HB.out.trans (hb.mono hszw)).trans (b5.mono (by omega)))
            have hm0 : m = 0 := by omega
            subst hm0
            have HO5 : Hid (W5.ownsRow w.heap.size 9 1 (.slice av 0 cv) 0 ((pcsB B 0).map Value.string)) := own_same HO.out (fun g hg => by
              have := (HO.out.lt g hg).2
              exact (b5.block g (by omega)).trans (hb.block g this))
            have hbase : w.heap.size ≤ W5.heap.size := by omega
            have HONE := Lib.hid (one_str x)
            clear hb b5 nw hW5
            go_wp2_with (at_builtin; rw [show w2.alloc (.cells #[.string x] 9) = W5 from HW5.out]; refine wpList_append_own_at _ rfl _ _ 23 rfl w.heap.size 9 i9 (.string ⟨#[]⟩) 1 16 Tryd.underlying23 hi9 iy0 iy1 iy2 rfl (by decide) (.slice av 0 cv) 0 ((pcsB B 0).map Value.string) rfl HO5.out ⟨w2.heap.size, 0, none⟩ 1 1 [.string x] rfl rfl HNW.out HONE.out (by unfold maxLen; omega) (by omega) hbase ?_; intro v6 w6 hown6 hgrow6 hnn6 hat6)
            have HO6 : Hid (w6.ownsRow w.heap.size 9 1 v6 (pcsB B (0 + 1)).length ((pcsB B (0 + 1)).map Value.string)) := by rw [HPC2.out]; exact hown6
            have HB6 : Hid (Below w.heap.size w w6) := HB5.out.grown hgrow6 hbase (fun g hg => (HO5.out.lt g hg).1)
            clear hown6 hgrow6 hnn6 hat6
            go_wp2
            go_roundw
            case rel => exact ⟨0 + 1, by omega, by go_num, HO6, HB6, HOK2⟩
            case measure => simp only [RowKit.intOf, Int.toNat_natCast]; omega
          · have hkz : (0 : Int) < (k : Int) := by omega
            have hcp := HC.out (k - 1) (by have := HN.out; omega)
            have hsy := HL.out _ (gB_mem (show k - 1 < B.length by have := HN.out; omega))
            have hyp := okB_pos (HOK.out (k - 1) (by omega))
            have hpc := HPC.out
            rw [if_neg h0] at hpc
            obtain ⟨y, hy⟩ : ∃ y, gB B (k - 1) = y := ⟨_, rfl⟩
            rw [hy] at hcp hsy hyp hpc
            have c1 := fun W h => between_any y x (by omega) hyp W h
            obtain ⟨z, hzz⟩ : ∃ z, sepB y x = z := ⟨_, rfl⟩
            rw [hzz] at hpc c1
            have HPC2 : Hid (pcsB B (k + 1) = pcsB B k ++ [z] ++ [x]) := Lib.hid (by rw [hpc]; simp)
            have C1 := Lib.hid c1
            have hpk : ((k : Int) - 1) = ((k - 1 : Nat) : Int) := by omega
            have HCP := Lib.hid hcp
            obtain ⟨k1, hk1⟩ : ∃ k1, k - 1 = k1 := ⟨_, rfl⟩
            rw [hk1] at hcp HCP hpk
            have hk1n : (k1 : Int) < (n : Int) := by omega
            clear hpc c1 hy hzz h0 hk1
            go_wp2_with fail
            refine C0.out.mono ?_
            rintro e w2 ⟨rfl, hb⟩
            have hcp2 : w2.cell? (p.add k1) = some (.string y) := (hb.cell (World.block_lt_of_cell? wr _ HCP.out)).trans HCP.out
            have HB2 := Lib.hid (HB.out.trans (hb.mono HB.out.size))
            have HO2 : Hid (w2.ownsRow w.heap.size 9 1 (.slice av m cv) m ((pcsB B k).map Value.string)) := own_same HO.out (fun g hg => hb.block g (HO.out.lt g hg).2)
            clear hb hcp
            go_wp2_with fail
            have HT2 := Lib.hid (HT.out.below HB2.out)
            refine (C1.out _ HT2.out).mono ?_
            rintro e w3 ⟨rfl, hb⟩
            have hsz3 := hb.size
            have hszw := HB2.out.size
            obtain ⟨b5, nw⟩ := one_new w3 z
            obtain ⟨W5, hW5⟩ : ∃ W, w3.alloc (.cells #[.string z] 9) = W := ⟨_, rfl⟩
            rw [hW5] at b5 nw
            have HW5 := Lib.hid hW5
            have HNW := Lib.hid nw
            have hsz5 := b5.size
            have HB5 := Lib.hid ((HB2.out.trans (hb.mono hszw)).trans (b5.mono (by omega)))
            have HO5 : Hid (W5.ownsRow w.heap.size 9 1 (.slice av m cv) m ((pcsB B k).map Value.string)) := own_same HO2.out (fun g hg => by
              have := (HO2.out.lt g hg).2
              exact (b5.block g (by omega)).trans (hb.block g this))
            have hbase : w.heap.size ≤ W5.heap.size := by omega
            have HONE := Lib.hid (one_str z)
            have hm2 : m ≤ 2000 := by omega
            clear hb b5 nw hW5
            go_wp2_with (at_builtin; rw [show w3.alloc (.cells #[.string z] 9) = W5 from HW5.out]; refine wpList_append_own_at _ rfl _ _ 23 rfl w.heap.size 9 i9 (.string ⟨#[]⟩) 1 16 Tryd.underlying23 hi9 iy0 iy1 iy2 rfl (by decide) (.slice av m cv) m ((pcsB B k).map Value.string) rfl HO5.out ⟨w3.heap.size, 0, none⟩ 1 1 [.string z] rfl rfl HNW.out HONE.out (by unfold maxLen; omega) (by omega) hbase ?_; intro v6 w6 hown6 hgrow6 hnn6 hat6; refine Hid.out ?_)
            have HO6 : Hid (w6.ownsRow w.heap.size 9 1 v6 (m + 1) ((pcsB B k ++ [z]).map Value.string)) := by rw [List.map_append]; exact hown6
            have HB6 : Hid (Below w.heap.size w w6) := HB5.out.grown hgrow6 hbase (fun g hg => (HO5.out.lt g hg).1)
            clear hown6 hgrow6 hnn6 hat6
            obtain ⟨a6, c6, hv6⟩ := own_slice HO6.out
            subst hv6
            have hsz6 := HB6.out.size
            obtain ⟨b7, nw⟩ := one_new w6 x
            obtain ⟨W7, hW7⟩ : ∃ W, w6.alloc (.cells #[.string x] 9) = W := ⟨_, rfl⟩
            rw [hW7] at b7 nw
            have HW7 := Lib.hid hW7
            have HNW7 := Lib.hid nw
            have hsz7 := b7.size
            have HB7 := Lib.hid (HB6.out.trans (b7.mono (by omega)))
            have HO7 : Hid (W7.ownsRow w.heap.size 9 1 (.slice a6 (m + 1) c6) (m + 1) ((pcsB B k ++ [z]).map Value.string)) := own_same HO6.out (fun g hg => b7.block g (HO6.out.lt g hg).2)
            have hbase7 : w.heap.size ≤ W7.heap.size := by omega
            have HONE7 := Lib.hid (one_str x)
            clear b7 nw hW7
            refine Lib.hid ?_
            go_wp2_with (at_builtin; rw [show w6.alloc (.cells #[.string x] 9) = W7 from HW7.out]; refine wpList_append_own_at _ rfl _ _ 23 rfl w.heap.size 9 i9 (.string ⟨#[]⟩) 1 16 Tryd.underlying23 hi9 iy0 iy1 iy2 rfl (by decide) (.slice a6 (m + 1) c6) (m + 1) ((pcsB B k ++ [z]).map Value.string) rfl HO7.out ⟨w6.heap.size, 0, none⟩ 1 1 [.string x] rfl rfl HNW7.out HONE7.out (by unfold maxLen; omega) (by omega) hbase7 ?_; intro v8 w8 hown8 hgrow8 hnn8 hat8)
            have HO8 : Hid (w8.ownsRow w.heap.size 9 1 v8 (pcsB B (k + 1)).length ((pcsB B (k + 1)).map Value.string)) := by
              rw [HPC2.out, List.map_append, List.length_append, List.length_append, HM.out]; exact hown8
            have HB8 : Hid (Below w.heap.size w w8) := HB7.out.grown hgrow8 hbase7 (fun g hg => (HO7.out.lt g hg).1)
            clear hown8 hgrow8 hnn8 hat8
            go_wp2
            go_roundw
            case rel => exact ⟨k + 1, by omega, by go_num, HO8, HB8, HOK2⟩
            case measure => simp only [RowKit.intOf, Int.toNat_natCast]; omega
    · obtain rfl : n = k := by omega
      have hltz : ¬ (n : Int) < (n : Int) := by omega
      have hR : R = bs (flat (pcsB B n)) := by
        rw [← HR.out, joB_yes (fun i hi => HOK.out i (by have := HN.out; omega)), HN.out]
      have hsz := pcsB_size B 40000 HL.out n (by have := HN.out; omega)
      have hpl := pcsB_len B n
      have hS2 : StrIn wr av (pcsB B n) := by
        obtain ⟨a2, c2, e, _, h⟩ := strIn_own HO.out
        cases e
        exact h
      have c0 := concat_any (pcsB B n) av cv (pcsB B n).length rfl (by omega) (by omega) wr hS2
      rw [← hR] at c0
      have C0 := Lib.hid c0
      clear hR hS2 c0
      go_wp2_with fail
      refine C0.out.mono ?_
      rintro e w2 ⟨rfl, hb⟩
      have HB2 := Lib.hid (HB.out.trans (hb.mono HB.out.size))
      clear hb
      go_wp2
      go_ret
      exact ⟨rfl, HB2.out⟩

end Go.Proofs.YtgfhhpodcnohpaaDoor

/- Tokens: tokens that are joined are read again. It has no conditions. -/
namespace Go.Proofs.YtgfhhpodcnohpaaDoor
open Go.RowKit
set_option linter.unusedVariables false

def sepL (a b : List Int) : List Int := if (fst_ a).1 = 1 ∨ ((fst_ a).1 = 8 ∧ a.head? = some 34) then [10] else if (fst_ (a ++ b)).2 ≠ a.length then [32] else []
theorem sepB_sb (a b : ByteArray) : sb (sepB a b) = sepL (sb a) (sb b) := by
  unfold sepB sepL
  rw [sb_append, sb_len]
  split
  · rfl
  · split <;> rfl
/-- Texts joined. -/
def jl : List (List Int) → List Int
  | [] => []
  | [a] => a
  | a :: b :: r => a ++ sepL a b ++ jl (b :: r)
theorem jl_snoc : ∀ (L : List (List Int)) (y z : List Int), jl (L ++ [y, z]) = jl (L ++ [y]) ++ sepL y z ++ z
  | [], y, z => rfl
  | [a], y, z => by
    show a ++ sepL a y ++ (y ++ sepL y z ++ z) = a ++ sepL a y ++ y ++ sepL y z ++ z
    simp only [List.append_assoc]
  | a :: b :: r, y, z => by
    show a ++ sepL a b ++ jl ((b :: r) ++ [y, z]) = a ++ sepL a b ++ jl ((b :: r) ++ [y]) ++ sepL y z ++ z
    rw [jl_snoc (b :: r) y z]
    simp only [List.append_assoc]
theorem gB_map (B : List ByteArray) (k : Nat) (h : k < B.length) : (B.map sb)[k]? = some (sb (gB B k)) := by
  unfold gB List.getD
  rw [List.getElem?_map, List.getElem?_eq_getElem h]
  rfl
theorem take_snoc {α : Type} (L : List α) (k : Nat) (x : α) (h : L[k]? = some x) : L.take (k + 1) = L.take k ++ [x] := by
  obtain ⟨h1, h2⟩ := List.getElem?_eq_some_iff.1 h
  rw [List.take_succ_eq_append_getElem h1, h2]
theorem flat_jl (B : List ByteArray) : ∀ k, k ≤ B.length → flat (pcsB B k) = jl ((B.map sb).take k)
  | 0, _ => rfl
  | 1, h => by
    have h1 : (B.map sb).take 1 = [sb (gB B 0)] := by rw [take_snoc _ 0 _ (gB_map B 0 (by omega)), List.take_zero, List.nil_append]
    rw [h1]
    show flat [gB B 0] = _
    rw [flat_one]
    rfl
  | k + 2, h => by
    have h1 := flat_jl B (k + 1) (by omega)
    have e1 : (B.map sb).take (k + 2) = (B.map sb).take k ++ [sb (gB B k), sb (gB B (k + 1))] := by
      rw [take_snoc _ (k + 1) _ (gB_map B (k + 1) (by omega)), take_snoc _ k _ (gB_map B k (by omega)), List.append_assoc]
      rfl
    have e2 : (B.map sb).take (k + 1) = (B.map sb).take k ++ [sb (gB B k)] := take_snoc _ k _ (gB_map B k (by omega))
    have e3 : pcsB B (k + 2) = pcsB B (k + 1) ++ ([sepB (gB B k) (gB B (k + 1))] ++ [gB B (k + 1)]) := rfl
    rw [e3, flat_app, flat_app, flat_one, flat_one, h1, e1, jl_snoc, ← e2, sepB_sb, List.append_assoc]
theorem jl_head {b : List Int} (r : List (List Int)) : ∃ m, jl (b :: r) = b ++ m := by
  cases r with
  | nil => exact ⟨[], by rw [List.append_nil]; rfl⟩
  | cons c r => exact ⟨sepL b c ++ jl (c :: r), by show b ++ sepL b c ++ jl (c :: r) = _; rw [List.append_assoc]⟩
theorem fst_range (l : List Int) (h : l ≠ []) : 0 ≤ (fst_ l).1 ∧ (fst_ l).1 ≤ 8 := by
  cases l with
  | nil => exact absurd rfl h
  | cons c r =>
    unfold fst_
    split
    · rw [prop]
      repeat' split
      all_goals simp
    · simp
/-- A text that is one token, no Space. -/
def One (a : List Int) : Prop := a ≠ [] ∧ (fst_ a).2 = a.length ∧ ¬ (fst_ a).1 = 0
theorem one_lex {a : List Int} (h : One a) (p : Nat) : lex a p = [((fst_ a).1, a, p)] := by
  rw [lex_step h.1, h.2.1, List.take_length, List.drop_length, lex_nil]
theorem sol_pre {a m : List Int} (h : One a) (hf : fst_ (a ++ m) = fst_ a) (p : Nat) : sol (lex (a ++ m) p) = ((fst_ a).1, a, p) :: sol (lex m (p + a.length)) := by
  have hne : a ++ m ≠ [] := fun e => h.1 (List.append_eq_nil_iff.1 e).1
  rw [lex_step hne, hf, sol_cons1 _ _ h.2.2, h.2.1, List.take_append_of_le_length (Nat.le_refl _), List.take_length, List.drop_append_of_le_length (Nat.le_refl _), List.drop_length, List.nil_append]
theorem jl_tokens : ∀ (T : List (List Int)) (p : Nat), (∀ a ∈ T, One a) → (sol (lex (jl T) p)).map (·.2.1) = T
  | [], p, _ => rfl
  | [a], p, h => by
    have h1 := h a (List.mem_cons_self ..)
    show (sol (lex a p)).map (·.2.1) = [a]
    rw [one_lex h1, sol_cons1 _ _ h1.2.2]
    rfl
  | a :: b :: r, p, h => by
    have ha := h a (List.mem_cons_self ..)
    have hb := h b (List.mem_cons_of_mem _ (List.mem_cons_self ..))
    have ih := fun q => jl_tokens (b :: r) q fun x hx => h x (List.mem_cons_of_mem _ hx)
    have hr := fst_range a ha.1
    show (sol (lex (a ++ sepL a b ++ jl (b :: r)) p)).map (·.2.1) = _
    unfold sepL
    split
    · rw [List.append_assoc, List.singleton_append, sol_nl a.length a _ p (Nat.le_refl _), one_lex ha, sol_cons1 _ _ ha.2.2, List.map_append, ih]
      rfl
    · rename_i hq
      split
      · rename_i hs
        rw [List.append_assoc, List.singleton_append]
        have hf : fst_ (a ++ 32 :: jl (b :: r)) = fst_ a := by
          have := t_join (u := a) (m := 32 :: jl (b :: r)) (k := (fst_ a).1) ha.1 (by rw [← ha.2.1]) (ends_bl ha.2.2 (fun e => hq (.inl e)) (fun e => hq (.inr e)) hr.2 _ (by omega))
          rw [this, ← ha.2.1]
        rw [sol_pre ha hf p]
        have h1 := sol_sp [32] (jl (b :: r)) (p + a.length) (fun c hc => by simp at hc; rw [hc]; decide)
        rw [List.singleton_append] at h1
        rw [h1, List.map_cons, ih]
      · rename_i hs
        rw [List.append_nil]
        have hn : (fst_ (a ++ b)).2 = a.length := Classical.not_not.1 hs
        have hne : a ++ b ≠ [] := fun e => ha.1 (List.append_eq_nil_iff.1 e).1
        obtain ⟨s1, s2⟩ := t_split hne
        rw [hn, List.take_append_of_le_length (Nat.le_refl _), List.take_length] at s1 s2
        rw [List.drop_append_of_le_length (Nat.le_refl _), List.drop_length, List.nil_append] at s2
        obtain ⟨m, hm⟩ := jl_head (b := b) r
        have hf : fst_ (a ++ jl (b :: r)) = fst_ a := by
          rw [hm]
          have := t_join (u := a) (m := b ++ m) (k := (fst_ a).1) ha.1 (by rw [← ha.2.1]) (by
            rw [← s1] at s2
            exact ends_app s2 hb.1 m)
          rw [this, ← ha.2.1]
        rw [sol_pre ha hf p, List.map_cons, ih]
theorem lex_one : ∀ (N : Nat) (l : List Int) (p : Nat), l.length ≤ N → ∀ t ∈ sol (lex l p), One t.2.1 := by
  intro N
  induction N with
  | zero =>
    intro l p h
    have : l = [] := List.eq_nil_of_length_eq_zero (by omega)
    subst this
    intro t ht
    cases ht
  | succ N ih =>
    intro l p h
    by_cases h0 : l = []
    · subst h0; intro t ht; cases ht
    · have hp := fst_pos h0
      rw [lex_step h0]
      have i1 := ih (l.drop (fst_ l).2) (p + (fst_ l).2) (by rw [List.length_drop]; omega)
      by_cases hk : (fst_ l).1 = 0
      · rw [sol_cons0 _ _ hk]; exact i1
      · rw [sol_cons1 _ _ hk]
        intro t ht
        rcases List.mem_cons.1 ht with rfl | ht
        · have hs := (t_split h0).1
          have hl : (l.take (fst_ l).2).length = (fst_ l).2 := by rw [List.length_take]; omega
          show One (l.take (fst_ l).2)
          refine ⟨fun e => ?_, ?_, ?_⟩
          · rw [e] at hl; simp at hl; omega
          · rw [hs, hl]
          · rw [hs]; exact hk
        · exact i1 t ht
/-- The words of a text joined are read as these words. -/
theorem joined (B : List ByteArray) (h : ∀ s ∈ B, One (sb s)) : (∀ s ∈ B, okB s = true) ∧ sb (joB B) = jl (B.map sb) ∧ (sol (lex (sb (joB B)) 0)).map (·.2.1) = B.map sb := by
  have hok : ∀ s ∈ B, okB s = true := fun s hs => by
    obtain ⟨h1, h2, h3⟩ := h s hs
    unfold okB onlyV
    rw [if_neg h1]
    simp [h2, h3]
  have e : sb (joB B) = jl (B.map sb) := by
    unfold joB
    rw [if_pos hok]
    have h1 : sb (bs (flat (pcsB B B.length))) = flat (pcsB B B.length) := sb_bs (flat_byt _)
    rw [h1, flat_jl B B.length (Nat.le_refl _), ← List.length_map (f := sb), List.take_length]
  refine ⟨hok, e, ?_⟩
  rw [e]
  exact jl_tokens _ 0 fun a ha => by
    obtain ⟨s, hs, rfl⟩ := List.mem_map.1 ha
    exact h s hs

end Go.Proofs.YtgfhhpodcnohpaaDoor
