/- Tidy trees (a leaf has no kids): the places of the leaves are the reference's leaves. Mathematics; it has no conditions. -/
import Derived.Test.YtgfhhpodcnohpaaDoorSTx
import Derived.Test.YtgfhhpodcnohpaaDoorSR2
namespace Go.Proofs.YtgfhhpodcnohpaaDoor
open Go.RowKit Go.Shelf
set_option linter.unusedVariables false

mutual
/-- Leaves have no kids. -/
def Nd.tidy : Nd → Prop
  | .mk _ k _ ks => ((0 ≤ k ∧ k ≤ 8) → ks = []) ∧ tidys ks
def tidys : List Nd → Prop
  | [] => True
  | x :: l => x.tidy ∧ tidys l
end
mutual
theorem pw_lf : ∀ (t : Nd), t.tidy → t.pw = wid t.lf
  | .mk i k x ks, h => by
    rw [Nd.tidy] at h
    have h2 := pws_lf ks h.2
    rw [Nd.pw, Nd.lf]
    by_cases hk : 0 ≤ k ∧ k ≤ 8
    · have := h.1 hk
      subst this
      rw [if_pos hk, if_pos hk]; simp [pws, wid]
    · rw [if_neg hk, if_neg hk, h2]; omega
theorem pws_lf : ∀ (l : List Nd), tidys l → pws l = wid (lfs l)
  | [], _ => by simp [pws, lfs, wid]
  | x :: l, h => by
    rw [tidys] at h
    rw [pws, lfs, wid_app, pw_lf x h.1, pws_lf l h.2]
end
mutual
theorem spots_toks : ∀ (t : Nd) (p : List Nat) (o : Nat), t.tidy → ((spots t p o).filter fun s => decide s.nd.leaf).map (fun s => (s.nd.kind, s.nd.text, s.off)) = toks t.lf o
  | .mk i k x ks, p, o, h => by
    rw [Nd.tidy] at h
    have h2 := spotsL_toks ks p 0 (o + if 0 ≤ k ∧ k ≤ 8 then x.size else 0) h.2
    rw [spots, Nd.lf, List.filter_cons]
    by_cases hk : 0 ≤ k ∧ k ≤ 8
    · have he := h.1 hk
      subst he
      have hd : decide (⟨p, Nd.mk i k x [], o⟩ : Spot).nd.leaf = true := decide_eq_true (show (Nd.mk i k x []).leaf from hk)
      rw [if_pos hd, spotsL, if_pos hk]
      rfl
    · have hd : ¬ decide (⟨p, Nd.mk i k x ks, o⟩ : Spot).nd.leaf = true := fun e => hk (show 0 ≤ k ∧ k ≤ 8 from of_decide_eq_true e)
      rw [if_neg hd, h2, if_neg hk, if_neg hk, Nat.add_zero]
theorem spotsL_toks : ∀ (l : List Nd) (p : List Nat) (i o : Nat), tidys l → ((spotsL l p i o).filter fun s => decide s.nd.leaf).map (fun s => (s.nd.kind, s.nd.text, s.off)) = toks (lfs l) o
  | [], p, i, o, _ => by simp [spotsL, lfs, toks]
  | x :: l, p, i, o, h => by
    rw [tidys] at h
    rw [spotsL, List.filter_append, List.map_append, spots_toks x _ _ h.1, spotsL_toks l _ _ _ h.2, lfs, toks_app, pw_lf x h.1]
end
theorem lspots_toks (t : Nd) (h : t.tidy) : (lspots t).map (fun s => (s.nd.kind, s.nd.text, s.off)) = toks t.lf 0 := spots_toks t [] 0 h
theorem toks_texts : ∀ (l : List (Int × ByteArray)) (n : Nat), (toks l n).map (fun x => x.2.1) = l.map Prod.snd
  | [], _ => rfl
  | x :: l, n => by rw [toks, List.map_cons, List.map_cons, toks_texts l]
theorem cat_bs : ∀ (l : List (Int × ByteArray)), cat l = bs (l.flatMap fun x => sb x.2)
  | [] => by simp [cat, bs]
  | x :: l => by rw [cat, cat_bs l, List.flatMap_cons, bs_add, bs_sb]
/-- The program's text of a tidy tree is the reference's. -/
theorem text_cat (t : Nd) (h : t.tidy) : bs (ltx (lspots t)) = cat t.lf := by
  have h1 := congrArg (List.map fun x : Int × ByteArray × Nat => x.2.1) (lspots_toks t h)
  rw [toks_texts, List.map_map] at h1
  have h2 : (lspots t).map (fun s => s.nd.text) = t.lf.map Prod.snd := h1
  have h3 : ltx (lspots t) = ((lspots t).map fun s => s.nd.text).flatMap sb := by rw [ltx, List.flatMap_map]
  rw [cat_bs, h3, h2, List.flatMap_map]

end Go.Proofs.YtgfhhpodcnohpaaDoor
