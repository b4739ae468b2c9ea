/- Tokens: tokens that are joined are read again. It has no conditions. -/
import Derived.Test.YtgfhhpodcnohpaaDoorLMe
import Derived.Test.YtgfhhpodcnohpaaDoorLJq
namespace Go.Proofs.YtgfhhpodcnohpaaDoor
open Go.RowKit
set_option linter.unusedVariables false

def sepL (a b : List Int) : List Int := if (fst_ a).1 = 1 ∨ ((fst_ a).1 = 8 ∧ a.head? = some 34) then [10] else if (fst_ (a ++ b)).2 ≠ a.length then [32] else []
theorem sepB_sb (a b : ByteArray) : sb (sepB a b) = sepL (sb a) (sb b) := by
  unfold sepB sepL
  rw [sb_append, sb_len]
  split
  · rfl
  · split <;> rfl
/-- Texts joined. -/
def jl : List (List Int) → List Int
  | [] => []
  | [a] => a
  | a :: b :: r => a ++ sepL a b ++ jl (b :: r)
theorem jl_snoc : ∀ (L : List (List Int)) (y z : List Int), jl (L ++ [y, z]) = jl (L ++ [y]) ++ sepL y z ++ z
  | [], y, z => rfl
  | [a], y, z => by
    show a ++ sepL a y ++ (y ++ sepL y z ++ z) = a ++ sepL a y ++ y ++ sepL y z ++ z
    simp only [List.append_assoc]
  | a :: b :: r, y, z => by
    show a ++ sepL a b ++ jl ((b :: r) ++ [y, z]) = a ++ sepL a b ++ jl ((b :: r) ++ [y]) ++ sepL y z ++ z
    rw [jl_snoc (b :: r) y z]
    simp only [List.append_assoc]
theorem gB_map (B : List ByteArray) (k : Nat) (h : k < B.length) : (B.map sb)[k]? = some (sb (gB B k)) := by
  unfold gB List.getD
  rw [List.getElem?_map, List.getElem?_eq_getElem h]
  rfl
theorem take_snoc {α : Type} (L : List α) (k : Nat) (x : α) (h : L[k]? = some x) : L.take (k + 1) = L.take k ++ [x] := by
  obtain ⟨h1, h2⟩ := List.getElem?_eq_some_iff.1 h
  rw [List.take_succ_eq_append_getElem h1, h2]
theorem flat_jl (B : List ByteArray) : ∀ k, k ≤ B.length → flat (pcsB B k) = jl ((B.map sb).take k)
  | 0, _ => rfl
  | 1, h => by
    have h1 : (B.map sb).take 1 = [sb (gB B 0)] := by rw [take_snoc _ 0 _ (gB_map B 0 (by omega)), List.take_zero, List.nil_append]
    rw [h1]
    show flat [gB B 0] = _
    rw [flat_one]
    rfl
  | k + 2, h => by
    have h1 := flat_jl B (k + 1) (by omega)
    have e1 : (B.map sb).take (k + 2) = (B.map sb).take k ++ [sb (gB B k), sb (gB B (k + 1))] := by
      rw [take_snoc _ (k + 1) _ (gB_map B (k + 1) (by omega)), take_snoc _ k _ (gB_map B k (by omega)), List.append_assoc]
      rfl
    have e2 : (B.map sb).take (k + 1) = (B.map sb).take k ++ [sb (gB B k)] := take_snoc _ k _ (gB_map B k (by omega))
    have e3 : pcsB B (k + 2) = pcsB B (k + 1) ++ ([sepB (gB B k) (gB B (k + 1))] ++ [gB B (k + 1)]) := rfl
    rw [e3, flat_app, flat_app, flat_one, flat_one, h1, e1, jl_snoc, ← e2, sepB_sb, List.append_assoc]
theorem jl_head {b : List Int} (r : List (List Int)) : ∃ m, jl (b :: r) = b ++ m := by
  cases r with
  | nil => exact ⟨[], by rw [List.append_nil]; rfl⟩
  | cons c r => exact ⟨sepL b c ++ jl (c :: r), by show b ++ sepL b c ++ jl (c :: r) = _; rw [List.append_assoc]⟩
theorem fst_range (l : List Int) (h : l ≠ []) : 0 ≤ (fst_ l).1 ∧ (fst_ l).1 ≤ 8 := by
  cases l with
  | nil => exact absurd rfl h
  | cons c r =>
    unfold fst_
    split
    · rw [prop]
      repeat' split
      all_goals simp
    · simp
/-- A text that is one token, no Space. -/
def One (a : List Int) : Prop := a ≠ [] ∧ (fst_ a).2 = a.length ∧ ¬ (fst_ a).1 = 0
theorem one_lex {a : List Int} (h : One a) (p : Nat) : lex a p = [((fst_ a).1, a, p)] := by
  rw [lex_step h.1, h.2.1, List.take_length, List.drop_length, lex_nil]
theorem sol_pre {a m : List Int} (h : One a) (hf : fst_ (a ++ m) = fst_ a) (p : Nat) : sol (lex (a ++ m) p) = ((fst_ a).1, a, p) :: sol (lex m (p + a.length)) := by
  have hne : a ++ m ≠ [] := fun e => h.1 (List.append_eq_nil_iff.1 e).1
  rw [lex_step hne, hf, sol_cons1 _ _ h.2.2, h.2.1, List.take_append_of_le_length (Nat.le_refl _), List.take_length, List.drop_append_of_le_length (Nat.le_refl _), List.drop_length, List.nil_append]
theorem jl_tokens : ∀ (T : List (List Int)) (p : Nat), (∀ a ∈ T, One a) → (sol (lex (jl T) p)).map (·.2.1) = T
  | [], p, _ => rfl
  | [a], p, h => by
    have h1 := h a (List.mem_cons_self ..)
    show (sol (lex a p)).map (·.2.1) = [a]
    rw [one_lex h1, sol_cons1 _ _ h1.2.2]
    rfl
  | a :: b :: r, p, h => by
    have ha := h a (List.mem_cons_self ..)
    have hb := h b (List.mem_cons_of_mem _ (List.mem_cons_self ..))
    have ih := fun q => jl_tokens (b :: r) q fun x hx => h x (List.mem_cons_of_mem _ hx)
    have hr := fst_range a ha.1
    show (sol (lex (a ++ sepL a b ++ jl (b :: r)) p)).map (·.2.1) = _
    unfold sepL
    split
    · rw [List.append_assoc, List.singleton_append, sol_nl a.length a _ p (Nat.le_refl _), one_lex ha, sol_cons1 _ _ ha.2.2, List.map_append, ih]
      rfl
    · rename_i hq
      split
      · rename_i hs
        rw [List.append_assoc, List.singleton_append]
        have hf : fst_ (a ++ 32 :: jl (b :: r)) = fst_ a := by
          have := t_join (u := a) (m := 32 :: jl (b :: r)) (k := (fst_ a).1) ha.1 (by rw [← ha.2.1]) (ends_bl ha.2.2 (fun e => hq (.inl e)) (fun e => hq (.inr e)) hr.2 _ (by omega))
          rw [this, ← ha.2.1]
        rw [sol_pre ha hf p]
        have h1 := sol_sp [32] (jl (b :: r)) (p + a.length) (fun c hc => by simp at hc; rw [hc]; decide)
        rw [List.singleton_append] at h1
        rw [h1, List.map_cons, ih]
      · rename_i hs
        rw [List.append_nil]
        have hn : (fst_ (a ++ b)).2 = a.length := Classical.not_not.1 hs
        have hne : a ++ b ≠ [] := fun e => ha.1 (List.append_eq_nil_iff.1 e).1
        obtain ⟨s1, s2⟩ := t_split hne
        rw [hn, List.take_append_of_le_length (Nat.le_refl _), List.take_length] at s1 s2
        rw [List.drop_append_of_le_length (Nat.le_refl _), List.drop_length, List.nil_append] at s2
        obtain ⟨m, hm⟩ := jl_head (b := b) r
        have hf : fst_ (a ++ jl (b :: r)) = fst_ a := by
          rw [hm]
          have := t_join (u := a) (m := b ++ m) (k := (fst_ a).1) ha.1 (by rw [← ha.2.1]) (by
            rw [← s1] at s2
            exact ends_app s2 hb.1 m)
          rw [this, ← ha.2.1]
        rw [sol_pre ha hf p, List.map_cons, ih]
theorem lex_one : ∀ (N : Nat) (l : List Int) (p : Nat), l.length ≤ N → ∀ t ∈ sol (lex l p), One t.2.1 := by
  intro N
  induction N with
  | zero =>
    intro l p h
    have : l = [] := List.eq_nil_of_length_eq_zero (by omega)
    subst this
    intro t ht
    cases ht
  | succ N ih =>
    intro l p h
    by_cases h0 : l = []
    · subst h0; intro t ht; cases ht
    · have hp := fst_pos h0
      rw [lex_step h0]
      have i1 := ih (l.drop (fst_ l).2) (p + (fst_ l).2) (by rw [List.length_drop]; omega)
      by_cases hk : (fst_ l).1 = 0
      · rw [sol_cons0 _ _ hk]; exact i1
      · rw [sol_cons1 _ _ hk]
        intro t ht
        rcases List.mem_cons.1 ht with rfl | ht
        · have hs := (t_split h0).1
          have hl : (l.take (fst_ l).2).length = (fst_ l).2 := by rw [List.length_take]; omega
          show One (l.take (fst_ l).2)
          refine ⟨fun e => ?_, ?_, ?_⟩
          · rw [e] at hl; simp at hl; omega
          · rw [hs, hl]
          · rw [hs]; exact hk
        · exact i1 t ht
/-- The words of a text joined are read as these words. -/
theorem joined (B : List ByteArray) (h : ∀ s ∈ B, One (sb s)) : (∀ s ∈ B, okB s = true) ∧ sb (joB B) = jl (B.map sb) ∧ (sol (lex (sb (joB B)) 0)).map (·.2.1) = B.map sb := by
  have hok : ∀ s ∈ B, okB s = true := fun s hs => by
    obtain ⟨h1, h2, h3⟩ := h s hs
    unfold okB onlyV
    rw [if_neg h1]
    simp [h2, h3]
  have e : sb (joB B) = jl (B.map sb) := by
    unfold joB
    rw [if_pos hok]
    have h1 : sb (bs (flat (pcsB B B.length))) = flat (pcsB B B.length) := sb_bs (flat_byt _)
    rw [h1, flat_jl B B.length (Nat.le_refl _), ← List.length_map (f := sb), List.take_length]
  refine ⟨hok, e, ?_⟩
  rw [e]
  exact jl_tokens _ 0 fun a ha => by
    obtain ⟨s, hs, rfl⟩ := List.mem_map.1 ha
    exact h s hs

end Go.Proofs.YtgfhhpodcnohpaaDoor
