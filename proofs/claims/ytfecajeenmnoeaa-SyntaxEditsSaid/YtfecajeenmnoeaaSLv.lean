/- The program's leaves: its iterator's contract. Conditions: trees of at most 100000 nodes and 1000000000 bytes. -/
import Derived.Test.YtfecajeenmnoeaaSPl
namespace Go.Proofs.Ytfecajeenmnoeaa
open Go.RowKit Go.Shelf
set_option linter.unusedVariables false
attribute [local go_sem] Oper.semAt_some

/-- The places of the leaves. -/
def lspots (t : Nd) : List Spot := (spots t [] 0).filter fun s => decide s.nd.leaf
/-- How many leaves are among the first k places. -/
def lcn (t : Nd) (k : Nat) : Nat := (((spots t [] 0).take k).filter fun s => decide s.nd.leaf).length
theorem lcn_zero (t : Nd) : lcn t 0 = 0 := by simp [lcn]
theorem lcn_all (t : Nd) : lcn t (spots t [] 0).length = (lspots t).length := by simp [lcn, lspots]
theorem lcn_leaf {t : Nd} {k : Nat} (h : k < (spots t [] 0).length) (hl : ((spots t [] 0)[k]).nd.leaf) : lcn t (k + 1) = lcn t k + 1 ∧ ∃ hm : lcn t k < (lspots t).length, (lspots t)[lcn t k] = (spots t [] 0)[k] := by
  have h1 : (spots t [] 0).take (k + 1) = (spots t [] 0).take k ++ [(spots t [] 0)[k]] := List.take_succ_eq_append_getElem h
  have h2 : lspots t = ((spots t [] 0).take (k + 1)).filter (fun s => decide s.nd.leaf) ++ ((spots t [] 0).drop (k + 1)).filter (fun s => decide s.nd.leaf) := by
    rw [← List.filter_append, List.take_append_drop]; rfl
  have h3 : ((spots t [] 0).take (k + 1)).filter (fun s => decide s.nd.leaf) = ((spots t [] 0).take k).filter (fun s => decide s.nd.leaf) ++ [(spots t [] 0)[k]] := by
    rw [h1, List.filter_append]; simp [hl]
  rw [h3] at h2
  refine ⟨by unfold lcn; rw [h3, List.length_append]; rfl, ?_, ?_⟩
  · rw [h2]; simp only [List.length_append, List.length_singleton]; unfold lcn; omega
  · have : (lspots t)[lcn t k]? = some (spots t [] 0)[k] := by
      rw [h2, List.append_assoc, List.getElem?_append_right (by unfold lcn; omega)]
      simp [lcn]
    exact (List.getElem?_eq_some_iff.1 this).2
theorem lcn_not {t : Nd} {k : Nat} (h : k < (spots t [] 0).length) (hl : ¬ ((spots t [] 0)[k]).nd.leaf) : lcn t (k + 1) = lcn t k := by
  have h1 : (spots t [] 0).take (k + 1) = (spots t [] 0).take k ++ [(spots t [] 0)[k]] := List.take_succ_eq_append_getElem h
  unfold lcn
  rw [h1, List.filter_append]; simp [hl]
/-- Every place of a tree lies in memory where the tree does. -/
theorem SH.spot {w : World} {ad : List Nat → Nat × Nat} : ∀ (d : Nat) (t : Nd) (p : List Nat) (o : Nat), t.dep ≤ d → SH w ad t p → ∀ s ∈ spots t p o, SH w ad s.nd s.path
  | 0, t, p, o, hd, _, _, _ => by have := t.dep_eq; omega
  | d + 1, t, p, o, hd, h, s, hs => by
    rw [spots_eq] at hs
    rcases List.mem_cons.1 hs with rfl | hs
    · exact h
    · have key : ∀ (l : List Nd) (i o : Nat), (∀ k (hk : k < l.length), l[k].dep ≤ d ∧ SH w ad l[k] (p ++ [i + k])) → s ∈ spotsL l p i o → SH w ad s.nd s.path := by
        intro l
        induction l with
        | nil => intro i o _ hm; simp [spotsL] at hm
        | cons x l ih =>
          intro i o hk hm
          rw [spotsL] at hm
          rcases List.mem_append.1 hm with hm | hm
          · obtain ⟨h1, h2⟩ := hk 0 (by simp)
            exact SH.spot d x (p ++ [i]) o h1 h2 s hm
          · refine ih (i + 1) _ (fun k hk' => ?_) hm
            have := hk (k + 1) (by simpa using hk')
            rw [show i + 1 + k = i + (k + 1) by omega]
            exact this
      refine key t.kids 0 _ (fun k hk => ⟨?_, ?_⟩) hs
      · have := t.kid_dep (List.getElem_mem hk); omega
      · rw [Nat.zero_add]; exact h.kid hk

end Go.Proofs.Ytfecajeenmnoeaa
