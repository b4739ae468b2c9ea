/- Where the nodes of a tree that comes in lie. It has no conditions. -/
import Derived.Test.YtgfhhpodcnohpaaDoorSLw
namespace Go.Proofs.YtgfhhpodcnohpaaDoor
open Go.RowKit Go.Shelf
set_option linter.unusedVariables false

/-- The IDs of a tree in memory. -/
inductive SI (w : World) (ad : List Nat → Nat × Nat) : Nd → List Nat → Prop
  | mk {t : Nd} {p : List Nat} (h0 : w.cell? ⟨(ad p).1, (ad p).2, none⟩ = some (.int .i64 t.id)) (hb : (ad p).1 < w.heap.size) (hk : ∀ i (hi : i < t.kids.length), SI w ad t.kids[i] (p ++ [i])) : SI w ad t p
theorem SI.id {w : World} {ad : List Nat → Nat × Nat} {t : Nd} {p : List Nat} (h : SI w ad t p) : w.cell? ⟨(ad p).1, (ad p).2, none⟩ = some (.int .i64 t.id) := by
  cases h with
  | mk h0 hb hk => exact h0
theorem SI.kid {w : World} {ad : List Nat → Nat × Nat} {t : Nd} {p : List Nat} (h : SI w ad t p) {i : Nat} (hi : i < t.kids.length) : SI w ad t.kids[i] (p ++ [i]) := by
  cases h with
  | mk h0 hb hk => exact hk i hi
theorem SH.on {w w' : World} {ad : List Nat → Nat × Nat} {t : Nd} {p : List Nat} (h : SH w ad t p) (hb : Below w.heap.size w w') : SH w' ad t p := by
  induction h with
  | mk hb' h1 h2 h3 hle hmx ha hk ih =>
    have e := hb.block _ hb'
    refine .mk (by have := hb.size; omega) ?_ ?_ ?_ hle hmx ha (fun i hi => ih i hi)
    · simp only [World.cell?, e] at h1 ⊢; exact h1
    · simp only [World.cell?, e] at h2 ⊢; exact h2
    · simp only [World.cell?, e] at h3 ⊢; exact h3
theorem SI.on {w w' : World} {ad : List Nat → Nat × Nat} {t : Nd} {p : List Nat} (h : SI w ad t p) (hb : Below w.heap.size w w') : SI w' ad t p := by
  induction h with
  | mk h0 hb' hk ih =>
    have e := hb.block _ hb'
    refine .mk ?_ (by have := hb.size; omega) (fun i hi => ih i hi)
    simp only [World.cell?, e] at h0 ⊢; exact h0
theorem SH.shift {w : World} {ad ad' : List Nat → Nat × Nat} {t : Nd} {p : List Nat} (h : SH w ad t p) : ∀ p', (∀ r, ad' (p' ++ r) = ad (p ++ r)) → SH w ad' t p' := by
  induction h with
  | @mk t p a cap hb' h1 h2 h3 hle hmx ha hk ih =>
    intro p' he
    have e : ad' p' = ad p := by have := he []; simpa using this
    have ek : ∀ i, ad' (p' ++ [i]) = ad (p ++ [i]) := fun i => he [i]
    refine .mk (by rw [e]; exact hb') (by rw [e]; exact h1) (by rw [e]; exact h2) (by rw [e]; exact h3) hle hmx (fun i hi => by rw [ek]; exact ha i hi) (fun i hi => ih i hi _ (fun r => ?_))
    rw [List.append_assoc, List.append_assoc]; exact he ([i] ++ r)
theorem SI.shift {w : World} {ad ad' : List Nat → Nat × Nat} {t : Nd} {p : List Nat} (h : SI w ad t p) : ∀ p', (∀ r, ad' (p' ++ r) = ad (p ++ r)) → SI w ad' t p' := by
  induction h with
  | @mk t p h0 hb' hk ih =>
    intro p' he
    have e : ad' p' = ad p := by have := he []; simpa using this
    refine .mk (by rw [e]; exact h0) (by rw [e]; exact hb') (fun i hi => ih i hi _ (fun r => ?_))
    rw [List.append_assoc, List.append_assoc]; exact he ([i] ++ r)
/-- The places of kids that lie in memory. -/
theorem kv_ad {G : Nat → Prop} {w : World} {a : Option Addr} {n cap : Nat} {kids : List Nd} (h : KV G w a n cap kids) :
    ∃ ad : List Nat → Nat × Nat, (∀ i, i < kids.length → ∃ o, a = some ⟨(ad [i]).1, o, none⟩ ∧ (ad [i]).2 = o + i * 4) ∧ ∀ i (hi : i < kids.length), SH w ad kids[i] [i] ∧ SI w ad kids[i] [i] := by
  induction h with
  | nil h1 h2 => exact ⟨fun _ => (0, 0), fun i hi => by simp at hi, fun i hi => by simp at hi⟩
  | @cons b off n cap kids u un uc hn h0 hle hmx hb hG hc hk ih =>
    have ih' : ∀ k, ∃ ad : List Nat → Nat × Nat, ∀ (hk : k < kids.length), (∀ i, i < kids[k].kids.length → ∃ o, u k = some ⟨(ad [i]).1, o, none⟩ ∧ (ad [i]).2 = o + i * 4) ∧ ∀ i (hi : i < kids[k].kids.length), SH w ad kids[k].kids[i] [i] ∧ SI w ad kids[k].kids[i] [i] := fun k => by
      by_cases hk' : k < kids.length
      · obtain ⟨ad, h1⟩ := ih k hk'
        exact ⟨ad, fun _ => h1⟩
      · exact ⟨fun _ => (0, 0), fun h => absurd h hk'⟩
    obtain ⟨adk, hadk⟩ := Classical.axiomOfChoice ih'
    refine ⟨fun p => match p with
      | [] => (0, 0)
      | [i] => (b, off + i * 4)
      | i :: j :: r => adk i (j :: r), fun i hi => ⟨off, rfl, rfl⟩, fun i hi => ?_⟩
    obtain ⟨q0, q1, q2, q3⟩ := hc i hi
    obtain ⟨e1, e2⟩ := hadk i hi
    obtain ⟨k1, k2, k3⟩ := (hk i hi).len
    rw [← k1] at q3
    refine ⟨.mk hb q1 q2 q3 (by omega) k3 (fun j hj => ?_) (fun j hj => ?_), .mk q0 hb (fun j hj => ?_)⟩
    · exact e1 j hj
    · exact (e2 j hj).1.shift _ (fun r => rfl)
    · exact (e2 j hj).2.shift _ (fun r => rfl)
/-- A node in a block of its own. -/
theorem root_ad {G : Nat → Prop} {w W : World} {t : Nd} {a : Option Addr} {n cap : Nat} (h : KV G w a n cap t.kids) (hw : Below w.heap.size w W) {q : Nat} (hq : Blk W q 60 (ndc t a n cap)) :
    ∃ ad, ad [] = (q, 0) ∧ SH W ad t [] ∧ SI W ad t [] := by
  obtain ⟨ad, h1, h2⟩ := kv_ad h
  obtain ⟨k1, k2, k3⟩ := h.len
  subst k1
  refine ⟨fun p => match p with
    | [] => (q, 0)
    | i :: r => ad (i :: r), rfl, .mk hq.lt (hq.cell 1) (hq.cell 2) (hq.cell 3) k2 k3 (fun i hi => h1 i hi) (fun i hi => ?_), .mk (hq.cell 0) hq.lt (fun i hi => ?_)⟩
  · exact ((h2 i hi).1.on hw).shift _ (fun r => rfl)
  · exact ((h2 i hi).2.on hw).shift _ (fun r => rfl)
theorem SI.spot {w : World} {ad : List Nat → Nat × Nat} : ∀ (d : Nat) (t : Nd) (p : List Nat) (o : Nat), t.dep ≤ d → SI w ad t p → ∀ s ∈ spots t p o, SI w ad s.nd s.path
  | 0, t, p, o, hd, _, _, _ => by have := t.dep_eq; omega
  | d + 1, t, p, o, hd, h, s, hs => by
    rw [spots_eq] at hs
    rcases List.mem_cons.1 hs with rfl | hs
    · exact h
    · have key : ∀ (l : List Nd) (i o : Nat), (∀ k (hk : k < l.length), l[k].dep ≤ d ∧ SI w ad l[k] (p ++ [i + k])) → s ∈ spotsL l p i o → SI w ad s.nd s.path := by
        intro l
        induction l with
        | nil => intro i o _ hm; simp [spotsL] at hm
        | cons x l ih =>
          intro i o hk hm
          rw [spotsL] at hm
          rcases List.mem_append.1 hm with hm | hm
          · obtain ⟨h1, h2⟩ := hk 0 (by simp)
            exact SI.spot d x (p ++ [i]) o h1 h2 s hm
          · refine ih (i + 1) _ (fun k hk' => ?_) hm
            have := hk (k + 1) (by simpa using hk')
            rw [show i + 1 + k = i + (k + 1) by omega]
            exact this
      refine key t.kids 0 _ (fun k hk => ⟨?_, ?_⟩) hs
      · have := t.kid_dep (List.getElem_mem hk); omega
      · rw [Nat.zero_add]; exact h.kid hk

end Go.Proofs.YtgfhhpodcnohpaaDoor
