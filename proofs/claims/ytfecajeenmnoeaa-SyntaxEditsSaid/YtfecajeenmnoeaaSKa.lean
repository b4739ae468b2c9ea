/- No two nodes of a cloned tree lie at one place; kids in memory out of the places of their nodes. It has no conditions. -/
import Derived.Test.YtfecajeenmnoeaaSTa
import Derived.Test.YtfecajeenmnoeaaSRn
namespace Go.Proofs.Ytfecajeenmnoeaa
open Go.RowKit Go.Shelf
set_option linter.unusedVariables false

mutual
theorem spots_pre : ∀ (t : Nd) (p r : List Nat) (o : Nat), spots t (p ++ r) o = (spots t r o).map fun s => ⟨p ++ s.path, s.nd, s.off⟩
  | .mk i k x ks, p, r, o => by
    rw [spots, spots, List.map_cons, spotsL_pre ks p r]
theorem spotsL_pre : ∀ (l : List Nd) (p r : List Nat) (i o : Nat), spotsL l (p ++ r) i o = (spotsL l r i o).map fun s => ⟨p ++ s.path, s.nd, s.off⟩
  | [], p, r, i, o => by simp [spotsL]
  | x :: l, p, r, i, o => by
    rw [spotsL, spotsL, List.map_append, spotsL_pre l p r, List.append_assoc, spots_pre x p (r ++ [i])]
end
mutual
theorem spots_path : ∀ (t : Nd) (r : List Nat) (o : Nat), ∀ s ∈ spots t r o, ∃ z, s.path = r ++ z
  | .mk i k x ks, r, o, s, hs => by
    rw [spots] at hs
    rcases List.mem_cons.1 hs with rfl | hs
    · exact ⟨[], by simp⟩
    · obtain ⟨j, z, h⟩ := spotsL_path ks r 0 _ s hs
      exact ⟨j :: z, h⟩
theorem spotsL_path : ∀ (l : List Nd) (r : List Nat) (i o : Nat), ∀ s ∈ spotsL l r i o, ∃ j z, s.path = r ++ j :: z
  | [], r, i, o, s, hs => by simp [spotsL] at hs
  | x :: l, r, i, o, s, hs => by
    rw [spotsL] at hs
    rcases List.mem_append.1 hs with hs | hs
    · obtain ⟨z, h⟩ := spots_path x (r ++ [i]) o s hs
      exact ⟨i, z, by rw [h, List.append_assoc]; rfl⟩
    · exact spotsL_path l r (i + 1) _ s hs
end
theorem KL.split {P : Nat → Nat → Option Addr → Nat → Nat → List Nd → Prop} : ∀ (l : List Nd) (us : List (Option Addr × Nat × Nat)) (lo hi : Nat), KL P lo hi l us →
    ∃ m : Nat → Nat, m 0 = lo ∧ m l.length ≤ hi ∧ ∀ (k : Nat) (t : Nd) (u : Option Addr × Nat × Nat), l[k]? = some t → us[k]? = some u → P (m k) (m (k + 1)) u.1 u.2.1 u.2.2 t.kids
  | [], us, lo, hi, h => ⟨fun _ => lo, rfl, h.2, fun k t u h1 => by simp at h1⟩
  | _ :: _, [], lo, hi, h => h.elim
  | x :: l, v :: us, lo, hi, h => by
    obtain ⟨mid, h1, h2⟩ := h
    obtain ⟨m, e0, e1, e2⟩ := KL.split l us mid hi h2
    refine ⟨fun k => match k with | 0 => lo | k + 1 => m k, rfl, e1, fun k t u h3 h4 => ?_⟩
    cases k with
    | zero =>
      simp at h3 h4
      subst h3 h4
      show P lo (m 0) _ _ _ _
      rw [e0]; exact h1
    | succ k => exact e2 k t u (by simpa using h3) (by simpa using h4)

/-- Two places at different addresses. -/
abbrev Apart (ad : List Nat → Nat × Nat) (s s' : Spot) : Prop := ad s.path ≠ ad s'.path
theorem pw_list (ad : List Nat → Nat × Nat) (b : Nat) (m : Nat → Nat) : ∀ (l : List Nd) (i o : Nat), (∀ k, k < l.length → ad [i + k] = (b, (i + k) * 4)) → b < m i → (∀ k, k < l.length → m (i + k) ≤ m (i + k + 1)) →
    (∀ k (hk : k < l.length) (o : Nat), ∀ s ∈ spotsL l[k].kids [i + k] 0 o, m (i + k) ≤ (ad s.path).1 ∧ (ad s.path).1 < m (i + k + 1)) → (∀ k (hk : k < l.length) (o : Nat), (spotsL l[k].kids [i + k] 0 o).Pairwise (Apart ad)) →
    (∀ s ∈ spotsL l [] i o, (∃ k, k < l.length ∧ ad s.path = (b, (i + k) * 4)) ∨ (m i ≤ (ad s.path).1 ∧ (ad s.path).1 < m (i + l.length))) ∧ m i ≤ m (i + l.length) ∧ (spotsL l [] i o).Pairwise (Apart ad)
  | [], i, o, _, _, _, _, _ => ⟨fun s hs => by simp [spotsL] at hs, by simp, by simp [spotsL]⟩
  | x :: l, i, o, h1, h2, h3, h4, h5 => by
    have a0 := h1 0 (by simp)
    have a3 := h3 0 (by simp)
    simp only [Nat.add_zero] at a0 a3
    obtain ⟨r1, r2, r3⟩ := pw_list ad b m l (i + 1) (o + x.pw) (fun k hk => by have := h1 (k + 1) (by simpa using hk); rwa [show i + (k + 1) = i + 1 + k by omega] at this) (by omega) (fun k hk => by have := h3 (k + 1) (by simpa using hk); rwa [show i + (k + 1) = i + 1 + k by omega] at this)
      (fun k hk o s hs => by
        have := h4 (k + 1) (by simpa using hk) o s (by rw [show i + (k + 1) = i + 1 + k by omega]; simpa using hs)
        rwa [show i + (k + 1) = i + 1 + k by omega] at this)
      (fun k hk o => by
        have := h5 (k + 1) (by simpa using hk) o
        rw [show i + (k + 1) = i + 1 + k by omega] at this
        simpa using this)
    have b4 : ∀ (o : Nat), ∀ s ∈ spotsL x.kids [i] 0 o, m i ≤ (ad s.path).1 ∧ (ad s.path).1 < m (i + 1) := fun o s hs => h4 0 (by simp) o s (by simpa using hs)
    have b5 : ∀ (o : Nat), (spotsL x.kids [i] 0 o).Pairwise (Apart ad) := fun o => by have := h5 0 (by simp) o; simpa only [List.getElem_cons_zero, Nat.add_zero] using this
    rw [show i + 1 + l.length = i + (l.length + 1) by omega] at r1 r2
    have hsp : spots x ([] ++ [i]) o = ⟨[i], x, o⟩ :: spotsL x.kids [i] 0 (o + if x.leaf then x.text.size else 0) := by rw [List.nil_append, spots_eq]
    have hx : ∀ s ∈ spots x ([] ++ [i]) o, ad s.path = (b, i * 4) ∨ (m i ≤ (ad s.path).1 ∧ (ad s.path).1 < m (i + 1)) := fun s hs => by
      rw [hsp] at hs
      rcases List.mem_cons.1 hs with rfl | hs
      · exact .inl a0
      · exact .inr (b4 _ s hs)
    refine ⟨fun s hs => ?_, by rw [List.length_cons]; omega, ?_⟩
    · rw [spotsL] at hs
      rcases List.mem_append.1 hs with hs | hs
      · rcases hx s hs with h | h
        · exact .inl ⟨0, by simp, by simpa using h⟩
        · exact .inr ⟨h.1, by rw [List.length_cons]; omega⟩
      · rcases r1 s hs with ⟨k, hk, h⟩ | h
        · exact .inl ⟨k + 1, by simpa using hk, by rw [h, show i + 1 + k = i + (k + 1) by omega]⟩
        · exact .inr ⟨by omega, by rw [List.length_cons]; exact h.2⟩
    · rw [spotsL, List.pairwise_append]
      refine ⟨?_, r3, fun s hs s' hs' e => ?_⟩
      · rw [hsp, List.pairwise_cons]
        exact ⟨fun s hs e => by
          have := b4 _ s hs
          have e : ad [i] = ad s.path := e
          rw [← e, a0] at this
          have : m i ≤ b := this.1
          omega, b5 _⟩
      · have e : ad s.path = ad s'.path := e
        rcases hx s hs with h | h <;> rcases r1 s' hs' with ⟨k, hk, h'⟩ | h'
        · rw [h, h'] at e
          simp only [Prod.mk.injEq] at e
          omega
        · rw [← e, h] at h'
          have : m (i + 1) ≤ b := h'.1
          omega
        · rw [e, h'] at h
          have : m i ≤ b := h.1
          omega
        · rw [← e] at h'; omega

/-- Where the nodes of cloned kids lie. -/
theorem ki_ad : ∀ (d : Nat) {w : World} {lo hi : Nat} {a : Option Addr} {n cap : Nat} {kids : List Nd}, KI d w lo hi a n cap kids →
    ∃ ad : List Nat → Nat × Nat, (∀ i, i < kids.length → a = some ⟨(ad [i]).1, 0, none⟩ ∧ (ad [i]).2 = i * 4) ∧ (∀ i (hi : i < kids.length), TA w ad kids[i] [i]) ∧ (∀ o, ∀ s ∈ spotsL kids [] 0 o, lo ≤ (ad s.path).1 ∧ (ad s.path).1 < hi ∧ w.frozen? ⟨(ad s.path).1, (ad s.path).2, none⟩ = false ∧ w.frozen? ⟨(ad s.path).1, (ad s.path).2 + 1, none⟩ = false ∧ w.frozen? ⟨(ad s.path).1, (ad s.path).2 + 2, none⟩ = false ∧ w.frozen? ⟨(ad s.path).1, (ad s.path).2 + 3, none⟩ = false ∧ ∃ m, (ad s.path).2 = m * 4) ∧ ∀ o, (spotsL kids [] 0 o).Pairwise (Apart ad)
  | 0, _, _, _, _, _, _, _, h => h.elim
  | d + 1, w, lo, hi, a, n, cap, kids, h => by
    rcases h with ⟨rfl, _, _, _, _⟩ | ⟨b, us, h1, rfl, rfl, h4, h5, h6⟩
    · exact ⟨fun _ => (0, 0), fun i hi => by simp at hi, fun i hi => by simp at hi, fun o s hs => by simp [spotsL] at hs, fun o => by simp [spotsL]⟩
    · have hlb := h4.lt b rfl
      obtain ⟨m, m0, ml, mk⟩ := KL.split _ _ _ _ h6
      have hus : ∀ k, k < kids.length → ∃ u, us[k]? = some u := fun k hk => ⟨_, List.getElem?_eq_getElem (by rw [h1]; exact hk)⟩
      have ih' : ∀ k, ∃ ad : List Nat → Nat × Nat, ∀ (hk : k < kids.length) (u : Option Addr × Nat × Nat), us[k]? = some u → (∀ i, i < kids[k].kids.length → u.1 = some ⟨(ad [i]).1, 0, none⟩ ∧ (ad [i]).2 = i * 4) ∧ (∀ i (hi : i < kids[k].kids.length), TA w ad kids[k].kids[i] [i]) ∧ (∀ o, ∀ s ∈ spotsL kids[k].kids [] 0 o, m k ≤ (ad s.path).1 ∧ (ad s.path).1 < m (k + 1) ∧ w.frozen? ⟨(ad s.path).1, (ad s.path).2, none⟩ = false ∧ w.frozen? ⟨(ad s.path).1, (ad s.path).2 + 1, none⟩ = false ∧ w.frozen? ⟨(ad s.path).1, (ad s.path).2 + 2, none⟩ = false ∧ w.frozen? ⟨(ad s.path).1, (ad s.path).2 + 3, none⟩ = false ∧ ∃ m, (ad s.path).2 = m * 4) ∧ ∀ o, (spotsL kids[k].kids [] 0 o).Pairwise (Apart ad) := fun k => by
        by_cases hk' : k < kids.length
        · obtain ⟨u, hu⟩ := hus k hk'
          obtain ⟨ad, g1, g2, g3, g4⟩ := ki_ad d (mk k kids[k] u (List.getElem?_eq_getElem hk') hu)
          exact ⟨ad, fun _ u' hu' => by rw [hu] at hu'; cases hu'; exact ⟨g1, g2, g3, g4⟩⟩
        · exact ⟨fun _ => (0, 0), fun h => absurd h hk'⟩
      obtain ⟨adk, hadk⟩ := Classical.axiomOfChoice ih'
      obtain ⟨ad, hadd⟩ : ∃ ad : List Nat → Nat × Nat, ad = fun p => match p with
        | [] => (0, 0)
        | [i] => (b, i * 4)
        | i :: j :: r => adk i (j :: r) := ⟨_, rfl⟩
      have hs1 : ∀ i, ad [i] = (b, i * 4) := fun i => by rw [hadd]
      have hs2 : ∀ i z, z ≠ [] → ad ([i] ++ z) = adk i z := fun i z hz => by
        cases z with
        | nil => exact absurd rfl hz
        | cons j r => rw [hadd]; rfl
      have hsub : ∀ k (hk : k < kids.length) (o : Nat), ∀ s ∈ spotsL kids[k].kids [k] 0 o, ∃ s' ∈ spotsL kids[k].kids [] 0 o, ad s.path = adk k s'.path := fun k hk o s hs => by
        have := spotsL_pre kids[k].kids [k] [] 0 o
        rw [List.append_nil] at this
        rw [this] at hs
        obtain ⟨s', h1, rfl⟩ := List.mem_map.1 hs
        obtain ⟨j, z, hp⟩ := spotsL_path _ _ _ _ s' h1
        exact ⟨s', h1, hs2 k s'.path (by rw [hp]; simp)⟩
      have hmono : ∀ k, k < kids.length → m (0 + k) ≤ m (0 + k + 1) := fun k hk => by
        obtain ⟨u, hu⟩ := hus k hk
        rw [Nat.zero_add]
        exact KI.le d (mk k kids[k] u (List.getElem?_eq_getElem hk) hu)
      have key := fun o => pw_list ad b m kids 0 o (fun k hk => by rw [Nat.zero_add]; exact hs1 k) (by omega) hmono
        (fun k hk o s hs => by
          rw [Nat.zero_add] at hs ⊢
          obtain ⟨u, hu⟩ := hus k hk
          obtain ⟨s', h1, h2⟩ := hsub k hk o s hs
          have := (hadk k hk u hu).2.2.1 o s' h1
          rw [h2]; exact ⟨this.1, this.2.1⟩)
        (fun k hk o => by
          rw [Nat.zero_add]
          obtain ⟨u, hu⟩ := hus k hk
          have hp := (hadk k hk u hu).2.2.2 o
          have hpre := spotsL_pre kids[k].kids [k] [] 0 o
          rw [List.append_nil] at hpre
          rw [hpre, List.pairwise_map]
          refine hp.imp_of_mem ?_
          intro s s' hs hs' hne e
          obtain ⟨j, z, hz⟩ := spotsL_path _ _ _ _ s hs
          obtain ⟨j', z', hz'⟩ := spotsL_path _ _ _ _ s' hs'
          have e : ad ([k] ++ s.path) = ad ([k] ++ s'.path) := e
          rw [hs2 k s.path (by rw [hz]; simp), hs2 k s'.path (by rw [hz']; simp)] at e
          exact hne e)
      refine ⟨ad, fun i hi => ⟨by rw [hs1], by rw [hs1]⟩, fun i hi' => ?_, fun o s hs => ?_, fun o => (key o).2.2⟩
      · obtain ⟨u, hu⟩ := hus i hi'
        obtain ⟨g1, g2, g3, g4⟩ := hadk i hi' u hu
        have hg := kcs_get kids us i kids[i] u (List.getElem?_eq_getElem hi') hu
        have hki := mk i kids[i] u (List.getElem?_eq_getElem hi') hu
        have hkv := KI.kv d (G := fun _ => True) hki (fun _ _ _ => trivial)
        have hlen := hkv.len
        rw [← hlen.1] at hkv
        refine .mk (by rw [hs1]; exact hlb.2) (by rw [hs1]; exact (h4.cellAt _ (by omega)).trans hg.1) (by rw [hs1]; exact (h4.cellAt _ (by omega)).trans hg.2.1) (by rw [hs1]; exact (h4.cellAt _ (by omega)).trans hg.2.2.1) (by rw [hs1, hlen.1]; exact (h4.cellAt _ (by omega)).trans hg.2.2.2) hkv (fun j hj => ?_) (fun j hj => ?_)
        · rw [hs2 i [j] (by simp)]
          exact ⟨0, (g1 j hj).1, by rw [Nat.zero_add]; exact (g1 j hj).2⟩
        · refine (g2 j hj).shift _ (fun r => ?_)
          rw [List.append_assoc]
          exact hs2 i ([j] ++ r) (by simp)
      · obtain ⟨hm1, hm2⟩ : m 0 = b + 1 ∧ m kids.length ≤ hi := ⟨m0, ml⟩
        rcases (key o).1 s hs with ⟨k, hk, h⟩ | h
        · rw [h]
          exact ⟨hlb.1, by have := (key o).2.1; rw [Nat.zero_add] at this; omega, h4.frozenAt _, h4.frozenAt _, h4.frozenAt _, h4.frozenAt _, _, rfl⟩
        · have hfr : ∀ (l : List Nd) (i o : Nat), (∀ k (hk : k < l.length), ∃ hk' : i + k < kids.length, l[k] = kids[i + k]) → ∀ s ∈ spotsL l [] i o, (∃ k, ad s.path = (b, k * 4)) ∨ (w.frozen? ⟨(ad s.path).1, (ad s.path).2, none⟩ = false ∧ w.frozen? ⟨(ad s.path).1, (ad s.path).2 + 1, none⟩ = false ∧ w.frozen? ⟨(ad s.path).1, (ad s.path).2 + 2, none⟩ = false ∧ w.frozen? ⟨(ad s.path).1, (ad s.path).2 + 3, none⟩ = false ∧ ∃ m, (ad s.path).2 = m * 4) := by
            intro l
            induction l with
            | nil => intro i o _ s hs; simp [spotsL] at hs
            | cons x l ih =>
              intro i o hl s hs
              rw [spotsL] at hs
              rcases List.mem_append.1 hs with hs | hs
              · rw [List.nil_append, spots_eq] at hs
                rcases List.mem_cons.1 hs with rfl | hs
                · exact .inl ⟨i, hs1 i⟩
                · obtain ⟨hk, hx⟩ := hl 0 (by simp)
                  simp only [List.getElem_cons_zero, Nat.add_zero] at hx hk
                  obtain ⟨u, hu⟩ := hus i hk
                  rw [hx] at hs
                  obtain ⟨s', g1, g2⟩ := hsub i hk _ s hs
                  rw [g2]
                  exact .inr ((hadk i hk u hu).2.2.1 _ s' g1).2.2
              · refine ih (i + 1) _ (fun k hk => ?_) s hs
                obtain ⟨h1, h2⟩ := hl (k + 1) (by simpa using hk)
                refine ⟨by omega, ?_⟩
                rw [List.getElem_cons_succ] at h2
                rw [h2]
                congr 1
                omega
          rcases hfr kids 0 o (fun k hk => ⟨by omega, by simp⟩) s hs with ⟨k, hk⟩ | hf
          · rw [hk]
            exact ⟨hlb.1, by have := (key o).2.1; rw [Nat.zero_add] at this; omega, h4.frozenAt _, h4.frozenAt _, h4.frozenAt _, h4.frozenAt _, _, rfl⟩
          · rw [Nat.zero_add] at h
            exact ⟨by omega, by omega, hf⟩

end Go.Proofs.Ytfecajeenmnoeaa
