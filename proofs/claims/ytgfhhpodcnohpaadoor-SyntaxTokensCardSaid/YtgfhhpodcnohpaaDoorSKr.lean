/- Kids that are being built: a row of nodes of a call's own, and what hangs on them. It has no conditions. -/
import Derived.Test.YtgfhhpodcnohpaaDoorSPk
import Derived.Test.YtgfhhpodcnohpaaDoorSNo
import Derived.Test.YtgfhhpodcnohpaaDoorSTd
namespace Go.Proofs.YtgfhhpodcnohpaaDoor
open Go.RowKit Go.Shelf
set_option linter.unusedVariables false

/-- The cells of nodes in a row. -/
def kcs : List Nd → List (Option Addr × Nat × Nat) → List Value
  | t :: l, u :: us => .int .i64 t.id :: .int .i64 t.kind :: .string t.text :: .slice u.1 u.2.1 u.2.2 :: kcs l us
  | _, _ => []
theorem kcs_app : ∀ (a b : List Nd) (ua ub : List (Option Addr × Nat × Nat)), ua.length = a.length → kcs (a ++ b) (ua ++ ub) = kcs a ua ++ kcs b ub
  | [], b, [], ub, _ => rfl
  | x :: a, b, u :: ua, ub, h => by
    have := kcs_app a b ua ub (by simpa using h)
    simp only [List.cons_append, kcs, this]
  | [], b, u :: ua, ub, h => by simp at h
  | x :: a, b, [], ub, h => by simp at h
theorem kcs_len : ∀ (a : List Nd) (ua : List (Option Addr × Nat × Nat)), ua.length = a.length → (kcs a ua).length = a.length * 4
  | [], [], _ => rfl
  | x :: a, u :: ua, h => by
    have := kcs_len a ua (by simpa using h)
    simp only [kcs, List.length_cons, this]; omega
  | [], u :: ua, h => by simp at h
  | x :: a, [], h => by simp at h
theorem kcs_one : ∀ (a : List Nd) (ua : List (Option Addr × Nat × Nat)), ∀ u ∈ kcs a ua, u.oneCell' = true
  | [], _, u, h => by simp [kcs] at h
  | _ :: _, [], u, h => by simp [kcs] at h
  | x :: a, y :: ua, u, h => by
    simp only [kcs, List.mem_cons] at h
    rcases h with rfl | rfl | rfl | rfl | h
    · rfl
    · rfl
    · rfl
    · rfl
    · exact kcs_one a ua u h
theorem kcs_get : ∀ (a : List Nd) (ua : List (Option Addr × Nat × Nat)) (k : Nat) (t : Nd) (u : Option Addr × Nat × Nat), a[k]? = some t → ua[k]? = some u →
    (kcs a ua)[k * 4]? = some (.int .i64 t.id) ∧ (kcs a ua)[k * 4 + 1]? = some (.int .i64 t.kind) ∧ (kcs a ua)[k * 4 + 2]? = some (.string t.text) ∧ (kcs a ua)[k * 4 + 3]? = some (.slice u.1 u.2.1 u.2.2)
  | [], _, k, t, u, h, _ => by simp at h
  | _ :: _, [], k, t, u, _, h => by simp at h
  | x :: a, y :: ua, 0, t, u, h1, h2 => by
    simp at h1 h2
    subst h1 h2
    exact ⟨rfl, rfl, rfl, rfl⟩
  | x :: a, y :: ua, k + 1, t, u, h1, h2 => by
    have := kcs_get a ua k t u (by simpa using h1) (by simpa using h2)
    rw [show (k + 1) * 4 = k * 4 + 1 + 1 + 1 + 1 by omega]
    exact this

/-- Kids in a row of a call's own, and what hangs on them in blocks of G. -/
structure KRow (G : Nat → Prop) (B : Nat) (w : World) (v : Value) (kids : List Nd) (us : List (Option Addr × Nat × Nat)) : Prop where
  len : us.length = kids.length
  own : w.ownsRow B 60 4 v kids.length (kcs kids us)
  sub : ∀ (k : Nat) (t : Nd) (u : Option Addr × Nat × Nat), kids[k]? = some t → us[k]? = some u → KV (fun b => G b ∧ v.ownBlock ≠ some b) w u.1 u.2.1 u.2.2 t.kids
theorem KRow.nil (G : Nat → Prop) (B : Nat) (w : World) : KRow G B w (.slice none 0 0) [] [] :=
  ⟨rfl, World.ownsRow_nil _ _ _ _, fun k t u h => by simp at h⟩
theorem KRow.keep {G : Nat → Prop} {B : Nat} {w w' : World} {v : Value} {kids : List Nd} {us : List (Option Addr × Nat × Nat)} (h : KRow G B w v kids us) (hz : w.heap.size ≤ w'.heap.size) (hb : ∀ b, (G b ∨ v.ownBlock = some b) → b < w.heap.size → w'.heap[b]? = w.heap[b]?) : KRow G B w' v kids us :=
  ⟨h.len, own_same h.own (fun g hg => hb g (.inr hg) (h.own.lt g hg).2), fun k t u h1 h2 => (h.sub k t u h1 h2).keep hz (fun b hG hlt => hb b (.inl hG.1) hlt) (fun _ h _ => h)⟩
/-- A node is appended. -/
theorem KRow.push {G : Nat → Prop} {B : Nat} {w X w' : World} {v : Value} {kids : List Nd} {us : List (Option Addr × Nat × Nat)} (h : KRow G B w v kids us) {t : Nd} {a : Option Addr} {n cap : Nat}
    (hk : KV (fun b => G b ∧ v.ownBlock ≠ some b) w a n cap t.kids) (hX : Below w.heap.size w X) (hg : X.grownBy w' v.ownBlock) {g c : Nat} (hat : v.ownBlock = some g ∨ w.heap.size ≤ g)
    (hown : w'.ownsRow B 60 4 (.slice (some ⟨g, 0, none⟩) (kids.length + 1) c) (kids.length + 1) (kcs kids us ++ [.int .i64 t.id, .int .i64 t.kind, .string t.text, .slice a n cap])) :
    KRow G B w' (.slice (some ⟨g, 0, none⟩) (kids.length + 1) c) (kids ++ [t]) (us ++ [(a, n, cap)]) := by
  have hz := hX.size
  have hz2 := hg.size
  have hkeep : ∀ {a : Option Addr} {n cap : Nat} {ks : List Nd}, KV (fun b => G b ∧ v.ownBlock ≠ some b) w a n cap ks → KV (fun b => G b ∧ (Value.slice (some ⟨g, 0, none⟩) (kids.length + 1) c).ownBlock ≠ some b) w' a n cap ks := fun h => by
    refine h.keep (by omega) (fun b hG hlt => (hg.block b (by omega) (fun e => hG.2 e.symm)).trans (hX.block b hlt)) (fun b hG hlt => ⟨hG.1, fun e => ?_⟩)
    simp only [Value.ownBlock, Option.some.injEq] at e
    subst e
    exact hat.elim hG.2 (fun e => by omega)
  refine ⟨by simp [h.len], ?_, fun k t' u h1 h2 => ?_⟩
  · rw [List.length_append, kcs_app _ _ _ _ h.len]
    exact hown
  · by_cases hlt : k < kids.length
    · rw [List.getElem?_append_left hlt] at h1
      rw [List.getElem?_append_left (by rw [h.len]; exact hlt)] at h2
      exact hkeep (h.sub k t' u h1 h2)
    · rw [List.getElem?_append_right (by omega)] at h1
      rw [List.getElem?_append_right (by rw [h.len]; omega)] at h2
      have hk0 : k - kids.length = 0 := by
        have := (List.getElem?_eq_some_iff.1 h1).1
        simp at this; omega
      rw [hk0] at h1
      rw [h.len, hk0] at h2
      simp at h1 h2
      subst h1 h2
      exact hkeep hk
/-- The row's kids lie in memory. -/
theorem KRow.kv {G G' : Nat → Prop} {B : Nat} {w : World} {a : Option Addr} {m cap : Nat} {kids : List Nd} {us : List (Option Addr × Nat × Nat)} (h : KRow G B w (.slice a m cap) kids us) (hG : ∀ b, (G b ∨ (Value.slice a m cap).ownBlock = some b) → b < w.heap.size → G' b) : KV G' w a m cap kids ∧ m = kids.length := by
  have hm : m = kids.length := by
    rcases h.own.2 with ⟨h1, h2⟩ | ⟨g, c, cur, h1, _⟩
    · simp only [Value.slice.injEq] at h1; omega
    · simp only [Value.slice.injEq] at h1; omega
  refine ⟨?_, hm⟩
  subst hm
  by_cases h0 : kids.length = 0
  · have hn : kids = [] := List.eq_nil_of_length_eq_zero h0
    subst hn
    rcases h.own.2 with ⟨h1, h2⟩ | ⟨g, c, cur, h1, h2, h3, h4, h5, _⟩
    · simp only [Value.slice.injEq] at h1
      exact .nil (fun _ => h1.2.2) (by omega)
    · simp only [Value.slice.injEq] at h1
      exact .nil (fun e => by rw [h1.1] at e; cases e) (by unfold maxLen at h5; omega)
  · rcases h.own.2 with ⟨h1, h2⟩ | ⟨g, c, cur, h1, h2, h3, h4, h5, _⟩
    · exact absurd h2 h0
    · simp only [Value.slice.injEq] at h1
      obtain ⟨rfl, _, rfl⟩ := h1
      have hgl := (h.own.lt g rfl).2
      have hus : ∀ k, k < kids.length → ∃ u, us[k]? = some u := fun k hk => ⟨_, List.getElem?_eq_getElem (by rw [h.len]; exact hk)⟩
      refine .cons (fun k => (us[k]?.getD (none, 0, 0)).1) (fun k => (us[k]?.getD (none, 0, 0)).2.1) (fun k => (us[k]?.getD (none, 0, 0)).2.2) rfl h0 h4 (by unfold maxLen at h5; omega) hgl (hG g (.inr rfl) hgl) (fun k hk => ?_) (fun k hk => ?_)
      · obtain ⟨u, hu⟩ := hus k hk
        have hg := kcs_get kids us k kids[k] u (List.getElem?_eq_getElem hk) hu
        simp only [hu, Option.getD_some]
        rw [← hg.1, ← hg.2.1, ← hg.2.2.1, ← hg.2.2.2, Nat.zero_add]
        exact ⟨h.own.cellAt _ (by omega), h.own.cellAt _ (by omega), h.own.cellAt _ (by omega), h.own.cellAt _ (by omega)⟩
      · obtain ⟨u, hu⟩ := hus k hk
        have := h.sub k kids[k] u (List.getElem?_eq_getElem hk) hu
        simp only [hu, Option.getD_some]
        exact this.keep (Nat.le_refl _) (fun _ _ _ => rfl) (fun b hb hlt => hG b (.inl hb.1) hlt)

/-- What a generated tree is: tidy, small. -/
structure Sm (d : Nat) (t : Nd) : Prop where
  tidy : t.tidy
  dep : t.dep ≤ d + 1
  cnt : t.cnt ≤ 5 ^ d
  pw : t.pw ≤ 8 * t.cnt
theorem tidys_app : ∀ (a b : List Nd), tidys (a ++ b) ↔ tidys a ∧ tidys b
  | [], b => by simp [tidys]
  | x :: a, b => by rw [List.cons_append, tidys, tidys, tidys_app a b, and_assoc]
/-- Small kids. -/
structure Sms (d : Nat) (l : List Nd) : Prop where
  tidy : tidys l
  dep : deps l ≤ d + 1
  cnt : cnts l ≤ l.length * 5 ^ d
  pw : pws l ≤ 8 * cnts l
theorem Sms.nil (d : Nat) : Sms d [] := ⟨by simp [tidys], by simp [deps], by simp [cnts], by simp [pws]⟩
theorem Sms.push {d : Nat} {l : List Nd} {t : Nd} (h : Sms d l) (ht : Sm d t) : Sms d (l ++ [t]) := by
  refine ⟨(tidys_app _ _).2 ⟨h.tidy, by rw [tidys, tidys]; exact ⟨ht.tidy, trivial⟩⟩, ?_, ?_, ?_⟩
  · rw [deps_app]; have := h.dep; have := ht.dep; simp [deps]; omega
  · rw [cnts_app, List.length_append, Nat.add_mul]; have := h.cnt; have := ht.cnt; simp [cnts]; omega
  · rw [pws_app, cnts_app]; have := h.pw; have := ht.pw; simp [pws, cnts]; omega
theorem Sms.root {d : Nat} {l : List Nd} (h : Sms d l) (hl : l.length ≤ 4) (i k : Int) (hk : ¬ (0 ≤ k ∧ k ≤ 8)) : Sm (d + 1) (.mk i k ⟨#[]⟩ l) := by
  have h1 := h.cnt
  have h2 : l.length * 5 ^ d ≤ 4 * 5 ^ d := Nat.mul_le_mul_right _ hl
  have h3 : 1 ≤ 5 ^ d := Nat.one_le_pow _ _ (by omega)
  refine ⟨by rw [Nd.tidy]; exact ⟨fun e => absurd e hk, h.tidy⟩, ?_, ?_, ?_⟩
  · rw [Nd.dep]; have := h.dep; omega
  · rw [Nd.cnt, Nat.pow_succ]; omega
  · rw [Nd.pw, Nd.cnt, if_neg hk]; have := h.pw; omega
theorem Sm.leaf (d : Nat) (i k : Int) (x : ByteArray) (hx : x.size ≤ 8) : Sm d (.mk i k x []) := by
  have h3 : 1 ≤ 5 ^ d := Nat.one_le_pow _ _ (by omega)
  refine ⟨by rw [Nd.tidy]; exact ⟨fun _ => rfl, by simp [tidys]⟩, ?_, ?_, ?_⟩
  · rw [Nd.dep]; simp [deps]
  · rw [Nd.cnt]; simp [cnts]; omega
  · rw [Nd.pw, Nd.cnt]; simp [pws, cnts]; split <;> omega

end Go.Proofs.YtgfhhpodcnohpaaDoor
