/- Tokens: a line feed put where a token begins. It has no conditions. -/
import Derived.Test.YtgfhhpodcnohpaaDoorLMh
import Derived.Test.YtgfhhpodcnohpaaDoorPOffP
import Derived.Test.YtgfhhpodcnohpaaDoorFApp
import Derived.Test.YtgfhhpodcnohpaaDoorLSo
namespace Go.Proofs.YtgfhhpodcnohpaaDoor
open Go.RowKit
set_option linter.unusedVariables false

/-- A byte below 128 is a character of its own. -/
theorem low_bord {Z : List Int} {j : Nat} (hj : j < Z.length) (h10 : ab Z j < 128) : ∃ U, Bord Z j U := by
  have key : ∀ n i U, j - i = n → i ≤ j → Bord Z i U → ∃ U, Bord Z j U := by
    intro n
    induction n using Nat.strongRecOn with
    | _ n ih =>
      intro i U hn hij hb
      by_cases e : i = j
      · subst e; exact ⟨U, hb⟩
      · have hne : Z.drop i ≠ [] := by intro e; have := congrArg List.length e; rw [List.length_drop] at this; simp at this; omega
        have hp := chr_pos (Z.drop i)
        by_cases hc : i + (chr (Z.drop i)).1 ≤ j
        · exact ih (j - (i + (chr (Z.drop i)).1)) (by omega) _ _ rfl hc (hb.snoc hne)
        · exfalso
          have := chr_high (Z := Z.drop i) (by omega) (j - i) (by omega)
          have e2 : ab (Z.drop i) (j - i) = ab Z j := by unfold ab; rw [List.getElem?_drop]; congr 2; omega
          rw [e2] at this; omega
  exact key _ 0 0 rfl (Nat.zero_le _) (Bord.zero _)
theorem low_next {Z : List Int} {j : Nat} (hj : j < Z.length) (h : ab Z j < 128) : ∃ U, Bord Z (j + 1) U := by
  obtain ⟨U, hU⟩ := low_bord hj h
  have hne : Z.drop j ≠ [] := by intro e; have := congrArg List.length e; rw [List.length_drop] at this; simp at this; omega
  have := hU.snoc hne
  rw [chr_ascii (by rw [drop_zero_ab]; exact h)] at this
  exact ⟨_, this⟩
theorem asc_bord {l m : List Int} (hm : m ≠ []) (h : l = [] ∨ AscAt l m) : ∃ U, Bord (l ++ m) l.length U := by
  have hml := List.length_pos_iff.2 hm
  rcases h with rfl | ⟨c, hc, h1⟩ | ⟨c, hc, h1⟩
  · exact ⟨0, Bord.zero _⟩
  · have hl : l ≠ [] := fun e => by rw [e] at hc; cases hc
    have hll := List.length_pos_iff.2 hl
    have := low_next (Z := l ++ m) (j := l.length - 1) (by rw [List.length_append]; omega) (by
      unfold ab
      rw [List.getElem?_append_left (by omega), ← List.getLast?_eq_getElem?, hc]
      exact h1)
    rwa [show l.length - 1 + 1 = l.length by omega] at this
  · refine low_bord (by rw [List.length_append]; omega) ?_
    unfold ab
    rw [List.getElem?_append_right (Nat.le_refl _), Nat.sub_self, ← List.head?_eq_getElem?, hc]
    exact h1
theorem at_bord {Z : List Int} {x l u : Nat} {e : Int} {U : Nat} (h : AtSpec Z (x : Int) l u e) (hb : Bord Z x U) : e = 0 ∧ Pos Z x l u := by
  rcases h with ⟨rfl, rfl, rfl, h⟩ | ⟨rfl, rfl, rfl, i, hi, h1, h2⟩ | ⟨rfl, i, hi, h⟩
  · have := hb.le; omega
  · obtain rfl : x = i := by omega
    exact absurd ⟨U, hb⟩ h2
  · obtain rfl : x = i := by omega
    exact ⟨rfl, h⟩
/-- A line feed at an offset. -/
def nlE (X : Nat) : List Er := [⟨(X : Int), (X : Int), ⟨#[10]⟩⟩]
theorem nlE_fit {X : Nat} (h : X ≤ 100000) : ∀ e ∈ nlE X, e.Fit := by
  intro e he
  obtain rfl : e = ⟨(X : Int), (X : Int), ⟨#[10]⟩⟩ := by simpa [nlE] using he
  refine ⟨?_, ?_, ?_, ?_, ?_⟩ <;> first | (show _ ≤ (X : Int); omega) | (show (X : Int) ≤ _; omega) | (show ByteArray.size ⟨#[10]⟩ ≤ _; decide)
theorem nlE_err {X n : Nat} (h : X ≤ n) : vErr (n : Int) (nlE X) = 0 := by
  unfold vErr nlE
  rw [if_neg (by simp)]
  simp only [vE]
  rw [if_neg (by omega), if_neg (by omega)]
theorem nlE_aps {s : ByteArray} {X : Nat} (h : X ≤ s.size) : sb (apS s (nlE X)) = (sb s).take X ++ 10 :: (sb s).drop X := by
  rw [apS_ok (nlE_err h)]
  unfold nlE ees
  simp only [List.map_cons, List.map_nil, Er.ee, Int.toNat_natCast, appl, List.drop_zero, Nat.sub_zero]
  rfl
def kt (t : Tk) : Int × List Int := (t.1, t.2.1)
theorem tg_map {A B : List Tk} (h : A.map kt = B.map kt) : A.length = B.length ∧ ∀ i, (tg A i).1 = (tg B i).1 ∧ (tg A i).2.1 = (tg B i).2.1 := by
  have hl : A.length = B.length := by have := congrArg List.length h; simpa using this
  refine ⟨hl, fun i => ?_⟩
  have e := congrArg (fun l => l[i]?) h
  simp only [List.getElem?_map] at e
  unfold tg
  rcases ha : A[i]? with _ | a <;> rcases hb : B[i]? with _ | b <;> rw [ha, hb] at e
  · exact ⟨rfl, rfl⟩
  · cases e
  · cases e
  · simp only [Option.map_some, Option.some.injEq, kt, Prod.mk.injEq] at e
    exact e
theorem kt_shf (L : List Tk) (q : Nat) : (L.map (shf q)).map kt = L.map kt := by
  rw [List.map_map]
  rfl
/-- All that the law asks of a token's offset. -/
theorem edit_pack (s : ByteArray) (k : Nat) (hk : k < (lex (sb s) 0).length) :
    ∃ X : Nat, (tg (lex (sb s) 0) k).2.2 = X ∧ X ≤ s.size ∧
      (∀ l u e, AtSpec (sb s) (X : Int) l u e → e = 0 ∧ ∀ o er, OffSpec (sb s) (l : Int) (u : Int) o er → o = X ∧ er = 0) ∧
      (apS s (nlE X)).size = s.size + 1 ∧
      (sol (lex (sb s) 0)).length = (sol (lex (sb (apS s (nlE X))) 0)).length ∧
      ∀ i, (tg (sol (lex (sb s) 0)) i).1 = (tg (sol (lex (sb (apS s (nlE X))) 0)) i).1 ∧ (tg (sol (lex (sb s) 0)) i).2.1 = (tg (sol (lex (sb (apS s (nlE X))) 0)) i).2.1 := by
  obtain ⟨t, ht⟩ : ∃ t, (lex (sb s) 0)[k]? = some t := ⟨_, List.getElem?_eq_getElem hk⟩
  have htg : tg (lex (sb s) 0) k = t := by unfold tg; rw [ht]; rfl
  obtain ⟨l, m, hs, hm, hX, hB⟩ := bd_mem (sb s).length (sb s) 0 (Nat.le_refl _) t (List.mem_of_getElem? ht)
  rw [Nat.zero_add] at hX
  have hlen : s.size = l.length + m.length := by rw [← sb_len, hs, List.length_append]
  obtain ⟨U, hU⟩ := asc_bord hm (asc_bd hB hm)
  rw [← hs] at hU
  have hle : l.length ≤ s.size := by omega
  have haps : sb (apS s (nlE l.length)) = l ++ 10 :: m := by
    rw [nlE_aps hle, hs, List.take_left' rfl, List.drop_left' rfl]
  refine ⟨l.length, by rw [htg, hX], hle, fun a b e h => ?_, ?_, ?_⟩
  · obtain ⟨h1, h2⟩ := at_bord h hU
    refine ⟨h1, fun o er h3 => ?_⟩
    have h4 : OffSpec (sb s) (a : Int) (b : Int) l.length 0 := .inl ⟨rfl, a, b, rfl, rfl, h2⟩
    exact h3.det h4
  · rw [← sb_len, haps, List.length_append, List.length_cons]; omega
  · refine tg_map ?_
    rw [haps, sol_join, hs, lex_bd hB 0]
    unfold sol
    rw [List.filter_append, List.map_append, List.map_append]
    congr 1
    show (sol (lex m (0 + l.length))).map kt = ((sol (lex m 0)).map (shf (l.length + 1))).map kt
    rw [kt_shf, lex_shift m.length m 0 l.length (Nat.le_refl _), sol_map, kt_shf]

end Go.Proofs.YtgfhhpodcnohpaaDoor
