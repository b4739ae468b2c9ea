/- A tree in memory, node by node with its kids. It has no conditions. -/
import Derived.Test.YtfecajeenmnoeaaSPa
import Derived.Test.YtfecajeenmnoeaaSCc
namespace Go.Proofs.Ytfecajeenmnoeaa
open Go.RowKit Go.Shelf
set_option linter.unusedVariables false

/-- A node and what hangs on it lie in memory: the node at a path where ad says. -/
inductive TA (w : World) (ad : List Nat → Nat × Nat) : Nd → List Nat → Prop
  | mk {t : Nd} {p : List Nat} {a : Option Addr} {cap : Nat} (hb : (ad p).1 < w.heap.size) (h0 : w.cell? ⟨(ad p).1, (ad p).2, none⟩ = some (.int .i64 t.id))
      (h1 : w.cell? ⟨(ad p).1, (ad p).2 + 1, none⟩ = some (.int .i64 t.kind)) (h2 : w.cell? ⟨(ad p).1, (ad p).2 + 2, none⟩ = some (.string t.text)) (h3 : w.cell? ⟨(ad p).1, (ad p).2 + 3, none⟩ = some (.slice a t.kids.length cap))
      (hkv : KV (fun _ => True) w a t.kids.length cap t.kids) (ha : ∀ i, i < t.kids.length → ∃ o, a = some ⟨(ad (p ++ [i])).1, o, none⟩ ∧ (ad (p ++ [i])).2 = o + i * 4)
      (hk : ∀ i (hi : i < t.kids.length), TA w ad t.kids[i] (p ++ [i])) : TA w ad t p
theorem TA.kid {w : World} {ad : List Nat → Nat × Nat} {t : Nd} {p : List Nat} (h : TA w ad t p) {i : Nat} (hi : i < t.kids.length) : TA w ad t.kids[i] (p ++ [i]) := by
  cases h with
  | mk hb h0 h1 h2 h3 hkv ha hk => exact hk i hi
theorem TA.sh {w : World} {ad : List Nat → Nat × Nat} {t : Nd} {p : List Nat} (h : TA w ad t p) : SH w ad t p := by
  induction h with
  | mk hb h0 h1 h2 h3 hkv ha hk ih => exact .mk hb h1 h2 h3 hkv.len.2.1 hkv.len.2.2 ha ih
theorem TA.si {w : World} {ad : List Nat → Nat × Nat} {t : Nd} {p : List Nat} (h : TA w ad t p) : SI w ad t p := by
  induction h with
  | mk hb h0 h1 h2 h3 hkv ha hk ih => exact .mk h0 hb ih
theorem TA.on {w w' : World} {ad : List Nat → Nat × Nat} {t : Nd} {p : List Nat} (h : TA w ad t p) (hb : Below w.heap.size w w') : TA w' ad t p := by
  induction h with
  | mk hb' h0 h1 h2 h3 hkv ha hk ih =>
    have e := hb.block _ hb'
    refine .mk (by have := hb.size; omega) ?_ ?_ ?_ ?_ (hkv.on hb) ha (fun i hi => ih i hi)
    · simp only [World.cell?, e] at h0 ⊢; exact h0
    · simp only [World.cell?, e] at h1 ⊢; exact h1
    · simp only [World.cell?, e] at h2 ⊢; exact h2
    · simp only [World.cell?, e] at h3 ⊢; exact h3
/-- A node's cells, wherever its block lies as it lay. -/
theorem TA.cells {w : World} {ad : List Nat → Nat × Nat} {t : Nd} {p : List Nat} (h : TA w ad t p) : ∃ b o a cap, ad p = (b, o) ∧ b < w.heap.size ∧ KV (fun _ => True) w a t.kids.length cap t.kids ∧
    (∀ i, i < t.kids.length → ∃ b' o', a = some ⟨b', o', none⟩ ∧ ad (p ++ [i]) = (b', o' + i * 4)) ∧
    ∀ V : World, V.heap[b]? = w.heap[b]? → V.cell? ⟨b, o, none⟩ = some (.int .i64 t.id) ∧ V.cell? ⟨b, o + 1, none⟩ = some (.int .i64 t.kind) ∧ V.cell? ⟨b, o + 2, none⟩ = some (.string t.text) ∧ V.cell? ⟨b, o + 3, none⟩ = some (.slice a t.kids.length cap) := by
  cases h with
  | @mk _ _ a cap hb h0 h1 h2 h3 hkv ha hk =>
    refine ⟨(ad p).1, (ad p).2, a, cap, rfl, hb, hkv, fun i hi => ?_, fun V hV => ?_⟩
    · obtain ⟨o, h4, h5⟩ := ha i hi
      exact ⟨_, o, h4, Prod.ext rfl h5⟩
    · simp only [World.cell?, hV] at h0 h1 h2 h3 ⊢
      exact ⟨h0, h1, h2, h3⟩
theorem TA.shift {w : World} {ad ad' : List Nat → Nat × Nat} {t : Nd} {p : List Nat} (h : TA w ad t p) : ∀ p', (∀ r, ad' (p' ++ r) = ad (p ++ r)) → TA w ad' t p' := by
  induction h with
  | @mk t p a cap hb' h0 h1 h2 h3 hkv ha hk ih =>
    intro p' he
    have e : ad' p' = ad p := by have := he []; simpa using this
    have ek : ∀ i, ad' (p' ++ [i]) = ad (p ++ [i]) := fun i => he [i]
    refine .mk (by rw [e]; exact hb') (by rw [e]; exact h0) (by rw [e]; exact h1) (by rw [e]; exact h2) (by rw [e]; exact h3) hkv (fun i hi => by rw [ek]; exact ha i hi) (fun i hi => ih i hi _ (fun r => ?_))
    rw [List.append_assoc, List.append_assoc]; exact he ([i] ++ r)
theorem kv_ta {G : Nat → Prop} {w : World} {a : Option Addr} {n cap : Nat} {kids : List Nd} (h : KV G w a n cap kids) :
    ∃ ad : List Nat → Nat × Nat, (∀ i, i < kids.length → ∃ o, a = some ⟨(ad [i]).1, o, none⟩ ∧ (ad [i]).2 = o + i * 4) ∧ ∀ i (hi : i < kids.length), TA w ad kids[i] [i] := by
  induction h with
  | nil h1 h2 => exact ⟨fun _ => (0, 0), fun i hi => by simp at hi, fun i hi => by simp at hi⟩
  | @cons b off n cap kids u un uc hn h0 hle hmx hb hG hc hk ih =>
    have ih' : ∀ k, ∃ ad : List Nat → Nat × Nat, ∀ (hk : k < kids.length), (∀ i, i < kids[k].kids.length → ∃ o, u k = some ⟨(ad [i]).1, o, none⟩ ∧ (ad [i]).2 = o + i * 4) ∧ ∀ i (hi : i < kids[k].kids.length), TA w ad kids[k].kids[i] [i] := fun k => by
      by_cases hk' : k < kids.length
      · obtain ⟨ad, h1⟩ := ih k hk'
        exact ⟨ad, fun _ => h1⟩
      · exact ⟨fun _ => (0, 0), fun h => absurd h hk'⟩
    obtain ⟨adk, hadk⟩ := Classical.axiomOfChoice ih'
    refine ⟨fun p => match p with
      | [] => (0, 0)
      | [i] => (b, off + i * 4)
      | i :: j :: r => adk i (j :: r), fun i hi => ⟨off, rfl, rfl⟩, fun i hi => ?_⟩
    obtain ⟨q0, q1, q2, q3⟩ := hc i hi
    obtain ⟨e1, e2⟩ := hadk i hi
    have hki := hk i hi
    obtain ⟨k1, k2, k3⟩ := hki.len
    rw [← k1] at q3 hki
    refine .mk hb q0 q1 q2 q3 (hki.keep (Nat.le_refl _) (fun _ _ _ => rfl) (fun _ _ _ => trivial)) (fun j hj => ?_) (fun j hj => ?_)
    · exact e1 j hj
    · exact (e2 j hj).shift _ (fun r => rfl)
/-- A node in a block of its own. -/
theorem root_ta {G : Nat → Prop} {w W : World} {t : Nd} {a : Option Addr} {n cap : Nat} (h : KV G w a n cap t.kids) (hw : Below w.heap.size w W) {q : Nat} (hq : Blk W q 25 (ndc t a n cap)) :
    ∃ ad, ad [] = (q, 0) ∧ TA W ad t [] := by
  obtain ⟨ad, h1, h2⟩ := kv_ta h
  have hkv := (h.on hw).keep (G' := fun _ => True) (Nat.le_refl _) (fun _ _ _ => rfl) (fun _ _ _ => trivial)
  obtain ⟨k1, k2, k3⟩ := h.len
  subst k1
  refine ⟨fun p => match p with
    | [] => (q, 0)
    | i :: r => ad (i :: r), rfl, .mk hq.lt (hq.cell 0) (hq.cell 1) (hq.cell 2) (hq.cell 3) hkv (fun i hi => h1 i hi) (fun i hi => ?_)⟩
  exact ((h2 i hi).on hw).shift _ (fun r => rfl)

/-- The node that a path leads to, and its offset. -/
def getN : Nd → List Int → Option (Nd × Nat)
  | t, [] => some (t, 0)
  | t, k :: p => if h : 0 ≤ k ∧ k.toNat < t.kids.length then (getN t.kids[k.toNat] p).map fun x => (x.1, pws (t.kids.take k.toNat) + x.2) else none
theorem getN_snoc : ∀ (p : List Int) (t : Nd) (k : Int) (x : Nd) (o : Nat), getN t p = some (x, o) → getN t (p ++ [k]) = if h : 0 ≤ k ∧ k.toNat < x.kids.length then some (x.kids[k.toNat], o + pws (x.kids.take k.toNat)) else none
  | [], t, k, x, o, h => by
    simp only [getN, Option.some.injEq, Prod.mk.injEq] at h
    obtain ⟨rfl, rfl⟩ := h
    simp only [List.nil_append, getN]
    by_cases hk : 0 ≤ k ∧ k.toNat < t.kids.length
    · rw [dif_pos hk, dif_pos hk]; simp
    · rw [dif_neg hk, dif_neg hk]
  | j :: p, t, k, x, o, h => by
    rw [getN] at h
    by_cases hj : 0 ≤ j ∧ j.toNat < t.kids.length
    · rw [dif_pos hj] at h
      obtain ⟨⟨y, o'⟩, h1, h2⟩ := Option.map_eq_some_iff.1 h
      simp only [Prod.mk.injEq] at h2
      obtain ⟨rfl, rfl⟩ := h2
      have ih := getN_snoc p t.kids[j.toNat] k y o' h1
      rw [List.cons_append, getN, dif_pos hj, ih]
      by_cases hk : 0 ≤ k ∧ k.toNat < y.kids.length
      · rw [dif_pos hk, dif_pos hk]; simp [Nat.add_assoc]
      · rw [dif_neg hk, dif_neg hk]; rfl
    · rw [dif_neg hj] at h; cases h
theorem getN_none : ∀ (p : List Int) (t : Nd) (r : List Int), getN t p = none → getN t (p ++ r) = none
  | [], t, r, h => by simp [getN] at h
  | j :: p, t, r, h => by
    rw [getN] at h
    rw [List.cons_append, getN]
    by_cases hj : 0 ≤ j ∧ j.toNat < t.kids.length
    · rw [dif_pos hj] at h ⊢
      rw [getN_none p _ r (by simpa using h)]; rfl
    · rw [dif_neg hj]
/-- A path as numbers. -/
abbrev nat (p : List Int) : List Nat := p.map Int.toNat
theorem TA.get {w : World} {ad : List Nat → Nat × Nat} : ∀ (z : List Int) (t : Nd) (p : List Nat) (x : Nd) (o : Nat), TA w ad t p → getN t z = some (x, o) → TA w ad x (p ++ nat z)
  | [], t, p, x, o, h, hg => by
    simp only [getN, Option.some.injEq, Prod.mk.injEq] at hg
    obtain ⟨rfl, _⟩ := hg
    simpa using h
  | j :: z, t, p, x, o, h, hg => by
    rw [getN] at hg
    by_cases hj : 0 ≤ j ∧ j.toNat < t.kids.length
    · rw [dif_pos hj] at hg
      obtain ⟨⟨y, o'⟩, h1, h2⟩ := Option.map_eq_some_iff.1 hg
      simp only [Prod.mk.injEq] at h2
      obtain ⟨rfl, _⟩ := h2
      have := TA.get z _ _ y o' (h.kid hj.2) h1
      rw [List.append_assoc] at this
      exact this
    · rw [dif_neg hj] at hg; cases hg
theorem getN_bd : ∀ (z : List Int) (t x : Nd) (o : Nat), getN t z = some (x, o) → o + x.pw ≤ t.pw ∧ x.cnt ≤ t.cnt
  | [], t, x, o, hg => by
    simp only [getN, Option.some.injEq, Prod.mk.injEq] at hg
    obtain ⟨rfl, rfl⟩ := hg
    omega
  | j :: z, t, x, o, hg => by
    rw [getN] at hg
    by_cases hj : 0 ≤ j ∧ j.toNat < t.kids.length
    · rw [dif_pos hj] at hg
      obtain ⟨⟨y, o'⟩, h1, h2⟩ := Option.map_eq_some_iff.1 hg
      simp only [Prod.mk.injEq] at h2
      obtain ⟨rfl, rfl⟩ := h2
      have h3 := getN_bd z _ y o' h1
      have h4 := t.kid_cnt (List.getElem_mem hj.2)
      have h5 := pws_take t.kids j.toNat hj.2
      have h6 := pws_le t.kids (j.toNat + 1)
      have h7 := t.pw_eq
      omega
    · rw [dif_neg hj] at hg; cases hg

end Go.Proofs.Ytfecajeenmnoeaa
