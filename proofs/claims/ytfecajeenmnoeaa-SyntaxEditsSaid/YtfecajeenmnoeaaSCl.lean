/- The program's clone of a node: nothing of it is shared, and no two of its nodes lie at one place. Conditions: trees of at most 100000 nodes. -/
import Derived.Test.YtfecajeenmnoeaaSCn
import Derived.Deep.RegionLaw
namespace Go.Proofs.Ytfecajeenmnoeaa
open Go.RowKit Go.Shelf
set_option linter.unusedVariables false

/-- Kids, one after the other, each in blocks of its own. -/
def KL (P : Nat → Nat → Option Addr → Nat → Nat → List Nd → Prop) : Nat → Nat → List Nd → List (Option Addr × Nat × Nat) → Prop
  | lo, hi, [], us => us = [] ∧ lo ≤ hi
  | _, _, _ :: _, [] => False
  | lo, hi, t :: l, u :: us => ∃ mid, P lo mid u.1 u.2.1 u.2.2 t.kids ∧ KL P mid hi l us
/-- The kids of a node lie in blocks from lo on, below hi, each in blocks of its own. -/
def KI : Nat → World → Nat → Nat → Option Addr → Nat → Nat → List Nd → Prop
  | 0, _, _, _, _, _, _, _ => False
  | d + 1, w, lo, hi, a, n, cap, kids => (kids = [] ∧ n = 0 ∧ lo ≤ hi ∧ (a = none → cap = 0) ∧ cap ≤ 9223372036854775807) ∨
      ∃ b us, us.length = kids.length ∧ a = some ⟨b, 0, none⟩ ∧ n = kids.length ∧ w.ownsRow lo 25 4 (.slice (some ⟨b, 0, none⟩) kids.length cap) kids.length (kcs kids us) ∧ kids ≠ [] ∧ KL (KI d w) (b + 1) hi kids us
theorem KL.le {P : Nat → Nat → Option Addr → Nat → Nat → List Nd → Prop} (hp : ∀ lo mid a n c ks, P lo mid a n c ks → lo ≤ mid) : ∀ (l : List Nd) (us : List (Option Addr × Nat × Nat)) (lo hi : Nat), KL P lo hi l us → lo ≤ hi
  | [], us, lo, hi, h => h.2
  | _ :: _, [], lo, hi, h => h.elim
  | t :: l, u :: us, lo, hi, h => by
    obtain ⟨m, k1, k2⟩ := h
    exact Nat.le_trans (hp _ _ _ _ _ _ k1) (KL.le hp l us m hi k2)
theorem KL.snoc {P : Nat → Nat → Option Addr → Nat → Nat → List Nd → Prop} {t : Nd} {u : Option Addr × Nat × Nat} {mid hi : Nat} (h2 : P mid hi u.1 u.2.1 u.2.2 t.kids) (hm : mid ≤ hi) : ∀ (l : List Nd) (us : List (Option Addr × Nat × Nat)) (lo : Nat), KL P lo mid l us → (∀ lo mid' a n c ks, mid' ≤ mid → P mid' hi a n c ks → lo ≤ mid' → P lo hi a n c ks) → KL P lo hi (l ++ [t]) (us ++ [u])
  | [], us, lo, h, hw => by
    obtain ⟨rfl, h1⟩ := h
    exact ⟨hi, hw lo mid _ _ _ _ (Nat.le_refl _) h2 h1, rfl, Nat.le_refl _⟩
  | _ :: _, [], lo, h, hw => h.elim
  | x :: l, v :: us, lo, h, hw => by
    obtain ⟨m, k1, k2⟩ := h
    exact ⟨m, k1, KL.snoc h2 hm l us m k2 hw⟩
theorem KI.le : ∀ (d : Nat) {w : World} {lo hi : Nat} {a : Option Addr} {n cap : Nat} {kids : List Nd}, KI d w lo hi a n cap kids → lo ≤ hi
  | 0, _, _, _, _, _, _, _, h => h.elim
  | d + 1, w, lo, hi, a, n, cap, kids, h => by
    rcases h with ⟨_, _, h, _⟩ | ⟨b, us, h1, rfl, h3, h4, h5, h6⟩
    · exact h
    · have := (h4.lt b rfl).1
      have := KL.le (fun lo mid a n c ks h => KI.le d h) _ _ _ _ h6
      omega
theorem KI.keep : ∀ (d : Nat) {w w' : World} {lo hi : Nat} {a : Option Addr} {n cap : Nat} {kids : List Nd}, KI d w lo hi a n cap kids → (∀ b, lo ≤ b → b < hi → w'.heap[b]? = w.heap[b]?) → KI d w' lo hi a n cap kids
  | 0, _, _, _, _, _, _, _, _, h, _ => h.elim
  | d + 1, w, w', lo, hi, a, n, cap, kids, h, hb => by
    rcases h with h | ⟨b, us, h1, rfl, h3, h4, h5, h6⟩
    · exact .inl h
    · have hlb := (h4.lt b rfl).1
      have hle := KL.le (fun lo mid a n c ks h => KI.le d h) _ _ _ _ h6
      refine .inr ⟨b, us, h1, rfl, h3, own_same h4 (fun g hg => ?_), h5, ?_⟩
      · cases hg; exact hb b hlb (by omega)
      · have key : ∀ (l : List Nd) (us : List (Option Addr × Nat × Nat)) (lo' : Nat), lo ≤ lo' → KL (KI d w) lo' hi l us → KL (KI d w') lo' hi l us := by
          intro l
          induction l with
          | nil => intro us lo' _ h; exact h
          | cons x l ih =>
            intro us lo' hl h
            cases us with
            | nil => exact h.elim
            | cons v us =>
              obtain ⟨m, k1, k2⟩ := h
              have l1 := KI.le d k1
              have l2 := KL.le (fun lo mid a n c ks h => KI.le d h) _ _ _ _ k2
              exact ⟨m, KI.keep d k1 (fun b h1 h2 => hb b (by omega) (by omega)), ih us m (by omega) k2⟩
        exact key kids us (b + 1) (by omega) h6
theorem own_base3 {w : World} {b b' e size n : Nat} {v : Value} {xs : List Value} (h : w.ownsRow b e size v n xs) (hb : ∀ g, v.ownBlock = some g → b' ≤ g) : w.ownsRow b' e size v n xs := by
  refine ⟨h.1, ?_⟩
  rcases h.2 with hn | ⟨g, cap, cur, rfl, h1, r⟩
  · exact .inl hn
  · exact .inr ⟨g, cap, cur, rfl, hb g rfl, r⟩
theorem KI.lo : ∀ (d : Nat) {w : World} {lo lo' hi : Nat} {a : Option Addr} {n cap : Nat} {kids : List Nd}, KI d w lo hi a n cap kids → lo' ≤ lo → KI d w lo' hi a n cap kids
  | 0, _, _, _, _, _, _, _, _, h, _ => h.elim
  | d + 1, w, lo, lo', hi, a, n, cap, kids, h, hb => by
    rcases h with ⟨h1, h2, h3, h4⟩ | ⟨b, us, h1, rfl, h3, h4, h5, h6⟩
    · exact .inl ⟨h1, h2, by omega, h4⟩
    · exact .inr ⟨b, us, h1, rfl, h3, own_base2 h4 hb, h5, h6⟩
theorem KL.hi {P : Nat → Nat → Option Addr → Nat → Nat → List Nd → Prop} : ∀ (l : List Nd) (us : List (Option Addr × Nat × Nat)) (lo hi hi' : Nat), hi ≤ hi' → KL P lo hi l us → KL P lo hi' l us
  | [], us, lo, hi, hi', hh, h => ⟨h.1, by have := h.2; omega⟩
  | _ :: _, [], lo, hi, hi', hh, h => h.elim
  | t :: l, u :: us, lo, hi, hi', hh, h => by
    obtain ⟨mid, h1, h2⟩ := h
    exact ⟨mid, h1, KL.hi l us mid hi hi' hh h2⟩
theorem KI.hi (d : Nat) {w : World} {lo hi hi' : Nat} {a : Option Addr} {n cap : Nat} {kids : List Nd} (h : KI d w lo hi a n cap kids) (hh : hi ≤ hi') : KI d w lo hi' a n cap kids := by
  cases d with
  | zero => exact h.elim
  | succ d =>
    rcases h with ⟨h1, h2, h3, h4⟩ | ⟨b, us, h1, rfl, h3, h4, h5, h6⟩
    · exact .inl ⟨h1, h2, by omega, h4⟩
    · exact .inr ⟨b, us, h1, rfl, h3, h4, h5, KL.hi _ _ _ _ _ hh h6⟩
/-- The kids lie in memory. -/
theorem KI.kv : ∀ (d : Nat) {w : World} {lo hi : Nat} {a : Option Addr} {n cap : Nat} {kids : List Nd} {G : Nat → Prop}, KI d w lo hi a n cap kids → (∀ b, lo ≤ b → b < hi → G b) → KV G w a n cap kids
  | 0, _, _, _, _, _, _, _, _, h, _ => h.elim
  | d + 1, w, lo, hi, a, n, cap, kids, G, h, hG => by
    rcases h with ⟨rfl, rfl, h3, h4, h5⟩ | ⟨b, us, h1, rfl, rfl, h4, h5, h6⟩
    · exact .nil h4 h5
    · have hlb := (h4.lt b rfl)
      have hle := KL.le (fun lo mid a n c ks h => KI.le d h) _ _ _ _ h6
      have key : ∀ (l : List Nd) (us : List (Option Addr × Nat × Nat)) (lo' : Nat), lo ≤ lo' → KL (KI d w) lo' hi l us → ∀ (k : Nat) (t : Nd) (u : Option Addr × Nat × Nat), l[k]? = some t → us[k]? = some u → KV G w u.1 u.2.1 u.2.2 t.kids := by
        intro l
        induction l with
        | nil => intro us lo' _ h k t u h1; simp at h1
        | cons x l ih =>
          intro us lo' hl h k t u h1 h2
          cases us with
          | nil => exact h.elim
          | cons v us =>
            obtain ⟨m, k1, k2⟩ := h
            have l1 := KI.le d k1
            have l2 := KL.le (fun lo mid a n c ks h => KI.le d h) _ _ _ _ k2
            cases k with
            | zero =>
              simp at h1 h2
              subst h1 h2
              exact KI.kv d k1 (fun b h1 h2 => hG b (by omega) (by omega))
            | succ k => exact ih us m (by omega) k2 k t u (by simpa using h1) (by simpa using h2)
      have hus : ∀ k, k < kids.length → ∃ u, us[k]? = some u := fun k hk => ⟨_, List.getElem?_eq_getElem (by rw [h1]; exact hk)⟩
      rcases h4.2 with ⟨e1, e2⟩ | ⟨g, c, cur, e1, e2, e3, e4, e5, _⟩
      · cases e1
      · simp only [Value.slice.injEq] at e1
        obtain ⟨e0, _, rfl⟩ := e1
        cases e0
        refine .cons (fun k => (us[k]?.getD (none, 0, 0)).1) (fun k => (us[k]?.getD (none, 0, 0)).2.1) (fun k => (us[k]?.getD (none, 0, 0)).2.2) rfl (fun e => h5 (List.eq_nil_of_length_eq_zero e)) e4 (by unfold maxLen at e5; omega) hlb.2 (hG b hlb.1 (by omega)) (fun k hk => ?_) (fun k hk => ?_)
        · obtain ⟨u, hu⟩ := hus k hk
          have hg := kcs_get kids us k kids[k] u (List.getElem?_eq_getElem hk) hu
          simp only [hu, Option.getD_some]
          rw [← hg.1, ← hg.2.1, ← hg.2.2.1, ← hg.2.2.2, Nat.zero_add]
          exact ⟨h4.cellAt _ (by omega), h4.cellAt _ (by omega), h4.cellAt _ (by omega), h4.cellAt _ (by omega)⟩
        · obtain ⟨u, hu⟩ := hus k hk
          simp only [hu, Option.getD_some]
          exact key kids us (b + 1) (by omega) h6 k kids[k] u (List.getElem?_eq_getElem hk) hu
theorem kcs_set : ∀ (l : List Nd) (us : List (Option Addr × Nat × Nat)) (k : Nat) (t : Nd) (v : Option Addr × Nat × Nat), l[k]? = some t → k < us.length →
    ((((kcs l us).set (k * 4) (.int .i64 t.id)).set (k * 4 + 1) (.int .i64 t.kind)).set (k * 4 + 2) (.string t.text)).set (k * 4 + 3) (.slice v.1 v.2.1 v.2.2) = kcs l (us.set k v)
  | [], us, k, t, v, h, _ => by simp at h
  | _ :: _, [], k, t, v, _, h => by simp at h
  | x :: l, u :: us, 0, t, v, h, _ => by
    simp at h; subst h
    simp [kcs]
  | x :: l, u :: us, k + 1, t, v, h, hk => by
    have ih := kcs_set l us k t v (by simpa using h) (by simpa using hk)
    rw [show (k + 1) * 4 = k * 4 + 1 + 1 + 1 + 1 by omega]
    simp only [List.set_cons_succ, kcs]
    rw [← ih]

end Go.Proofs.Ytfecajeenmnoeaa
