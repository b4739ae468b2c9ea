/- SRz, with the texts that only it needs in front of it: SRl, SRt, SRv. It has no conditions. -/
import Derived.Test.YtfecajeenmnoeaaSNp
import Derived.Test.YtfecajeenmnoeaaSRg
import Derived.Test.YtfecajeenmnoeaaSFi
import Derived.Test.YtfecajeenmnoeaaSGe
import Derived.Test.YtfecajeenmnoeaaSSa

/- The tree with the node at a path replaced, as data and in memory. Mathematics; it has no conditions. -/
namespace Go.Proofs.Ytfecajeenmnoeaa
open Go.RowKit Go.Shelf
set_option linter.unusedVariables false

/-- The tree with the node at a path replaced. -/
def replN : Nd → List Int → Nd → Option Nd
  | _, [], b => some b
  | t, k :: z, b => if h : 0 ≤ k ∧ k.toNat < t.kids.length then (replN t.kids[k.toNat] z b).map fun y => .mk t.id t.kind t.text (t.kids.set k.toNat y) else none
theorem replN_none : ∀ (z : List Int) (t b : Nd), replN t z b = none ↔ getN t z = none
  | [], t, b => by simp [replN, getN]
  | k :: z, t, b => by
    rw [replN, getN]
    by_cases h : 0 ≤ k ∧ k.toNat < t.kids.length
    · rw [dif_pos h, dif_pos h, Option.map_eq_none_iff, Option.map_eq_none_iff]
      exact replN_none z _ b
    · rw [dif_neg h, dif_neg h]
      exact ⟨fun _ => rfl, fun _ => rfl⟩
theorem replN_some {t b x : Nd} {o : Nat} {z : List Int} (h : getN t z = some (x, o)) : ∃ y, replN t z b = some y := by
  cases hr : replN t z b with
  | some y => exact ⟨y, rfl⟩
  | none => rw [(replN_none z t b).1 hr] at h; cases h
theorem replN_get : ∀ (z : List Int) (t b y : Nd), replN t z b = some y → ∃ o, getN y z = some (b, o)
  | [], t, b, y, h => by
    simp only [replN, Option.some.injEq] at h
    subst h
    exact ⟨0, rfl⟩
  | k :: z, t, b, y, h => by
    rw [replN] at h
    by_cases hk : 0 ≤ k ∧ k.toNat < t.kids.length
    · rw [dif_pos hk] at h
      obtain ⟨y', h1, rfl⟩ := Option.map_eq_some_iff.1 h
      obtain ⟨o, h2⟩ := replN_get z _ b y' h1
      have hk' : 0 ≤ k ∧ k.toNat < (Nd.mk t.id t.kind t.text (t.kids.set k.toNat y')).kids.length := ⟨hk.1, by simpa [Nd.kids] using hk.2⟩
      rw [getN, dif_pos hk']
      have e : (Nd.mk t.id t.kind t.text (t.kids.set k.toNat y')).kids[k.toNat]'hk'.2 = y' := by simp [Nd.kids]
      rw [e, h2]
      exact ⟨_, rfl⟩
    · rw [dif_neg hk] at h; cases h
theorem cnts_set : ∀ (l : List Nd) (k : Nat) (h : k < l.length) (y : Nd), cnts (l.set k y) + l[k].cnt = cnts l + y.cnt
  | x :: l, 0, h, y => by rw [List.set_cons_zero, cnts, cnts, List.getElem_cons_zero]; omega
  | x :: l, k + 1, h, y => by
    have := cnts_set l k (by simpa using h) y
    rw [List.set_cons_succ, cnts, cnts, List.getElem_cons_succ]; omega
theorem pws_set : ∀ (l : List Nd) (k : Nat) (h : k < l.length) (y : Nd), pws (l.set k y) + l[k].pw = pws l + y.pw
  | x :: l, 0, h, y => by rw [List.set_cons_zero, pws, pws, List.getElem_cons_zero]; omega
  | x :: l, k + 1, h, y => by
    have := pws_set l k (by simpa using h) y
    rw [List.set_cons_succ, pws, pws, List.getElem_cons_succ]; omega
theorem tidys_set : ∀ (l : List Nd) (k : Nat) (y : Nd), tidys l → y.tidy → tidys (l.set k y)
  | [], k, y, h, hy => by simpa using h
  | x :: l, 0, y, h, hy => by rw [tidys] at h; rw [List.set_cons_zero, tidys]; exact ⟨hy, h.2⟩
  | x :: l, k + 1, y, h, hy => by rw [tidys] at h; rw [List.set_cons_succ, tidys]; exact ⟨h.1, tidys_set l k y h.2 hy⟩
theorem replN_sz : ∀ (z : List Int) (t b y : Nd), replN t z b = some y → y.cnt ≤ t.cnt + b.cnt ∧ y.pw ≤ t.pw + b.pw ∧ (t.tidy → b.tidy → y.tidy)
  | [], t, b, y, h => by
    simp only [replN, Option.some.injEq] at h
    subst h
    exact ⟨by omega, by omega, fun _ h => h⟩
  | k :: z, t, b, y, h => by
    rw [replN] at h
    by_cases hk : 0 ≤ k ∧ k.toNat < t.kids.length
    · rw [dif_pos hk] at h
      obtain ⟨y', h1, rfl⟩ := Option.map_eq_some_iff.1 h
      obtain ⟨g1, g2, g3⟩ := replN_sz z _ b y' h1
      have e1 := cnts_set t.kids k.toNat hk.2 y'
      have e2 := pws_set t.kids k.toNat hk.2 y'
      have e3 := t.cnt_eq
      have e4 := t.pw_eq
      refine ⟨by rw [Nd.cnt]; omega, ?_, fun ht hb => ?_⟩
      · have : (Nd.mk t.id t.kind t.text (t.kids.set k.toNat y')).pw = (if t.leaf then t.text.size else 0) + pws (t.kids.set k.toNat y') := Nd.pw_eq _
        omega
      · rw [Nd.tidy]
        refine ⟨fun hl => ?_, tidys_set _ _ _ (tidy_kids ht) (g3 (tidys_mem (tidy_kids ht) (List.getElem_mem hk.2)) hb)⟩
        have h0 : t.kids = [] := by obtain ⟨i, kk, x, ks⟩ := t; rw [Nd.tidy] at ht; exact ht.1 hl
        have := hk.2
        rw [h0] at this
        simp at this
    · rw [dif_neg hk] at h; cases h

/-- A path leads to a node. -/
def Vp : Nd → List Nat → Prop
  | _, [] => True
  | t, i :: z => ∃ h : i < t.kids.length, Vp t.kids[i] z
theorem vp_spot : ∀ (z : List Nat) (t : Nd) (p : List Nat) (o : Nat), Vp t z → ∃ s ∈ spots t p o, s.path = p ++ z
  | [], t, p, o, h => ⟨⟨p, t, o⟩, by rw [spots_eq]; exact List.mem_cons_self .., by simp⟩
  | i :: z, t, p, o, ⟨hi, h⟩ => by
    obtain ⟨pre, post, e, _⟩ := spotsL_get t.kids p 0 (o + if t.leaf then t.text.size else 0) i hi
    obtain ⟨s, h1, h2⟩ := vp_spot z t.kids[i] (p ++ [0 + i]) (o + (if t.leaf then t.text.size else 0) + pws (t.kids.take i)) h
    refine ⟨s, ?_, ?_⟩
    · rw [spots_eq, e]
      exact List.mem_cons_of_mem _ (List.mem_append_left _ (List.mem_append_right _ h1))
    · rw [h2, Nat.zero_add, List.append_assoc]; rfl
theorem vp_get : ∀ (z : List Int) (t x : Nd) (o : Nat), getN t z = some (x, o) → Vp t (nat z)
  | [], t, x, o, h => trivial
  | k :: z, t, x, o, h => by
    rw [getN] at h
    by_cases hk : 0 ≤ k ∧ k.toNat < t.kids.length
    · rw [dif_pos hk] at h
      obtain ⟨⟨y, o'⟩, h1, h2⟩ := Option.map_eq_some_iff.1 h
      exact ⟨hk.2, vp_get z _ y o' h1⟩
    · rw [dif_neg hk] at h; cases h
theorem pw_apart {ad : List Nat → Nat × Nat} {t : Nd} {p : List Nat} {o : Nat} (h : (spots t p o).Pairwise (Apart ad)) {z z' : List Nat} (hz : Vp t z) (hz' : Vp t z') (hne : z ≠ z') : ad (p ++ z) ≠ ad (p ++ z') := by
  obtain ⟨s, h1, h2⟩ := vp_spot z t p o hz
  obtain ⟨s', h1', h2'⟩ := vp_spot z' t p o hz'
  obtain ⟨i, hi, rfl⟩ := List.mem_iff_getElem.1 h1
  obtain ⟨j, hj, rfl⟩ := List.mem_iff_getElem.1 h1'
  have hp := List.pairwise_iff_getElem.1 h
  rw [← h2, ← h2']
  rcases Nat.lt_trichotomy i j with hl | hl | hl
  · exact hp i j hi hj hl
  · subst hl
    rw [h2] at h2'
    exact absurd (List.append_cancel_left h2') hne
  · exact fun e => hp j i hj hi hl e.symm

/-- A node and its kids lie in memory at a place. -/
def NodeAt (G : Nat → Prop) (w : World) (x : Nat × Nat) (t : Nd) : Prop :=
  ∃ (u : Option Addr) (c : Nat), w.cell? ⟨x.1, x.2, none⟩ = some (.int .i64 t.id) ∧ w.cell? ⟨x.1, x.2 + 1, none⟩ = some (.int .i64 t.kind) ∧ w.cell? ⟨x.1, x.2 + 2, none⟩ = some (.string t.text) ∧ w.cell? ⟨x.1, x.2 + 3, none⟩ = some (.slice u t.kids.length c) ∧ KV G w u t.kids.length c t.kids
theorem kv_asm {G : Nat → Prop} {w : World} {a : Option Addr} {cap : Nat} {kids : List Nd} (ad1 : Nat → Nat × Nat) (hle : kids.length ≤ cap) (hmx : cap ≤ 9223372036854775807) (hnil : a = none → cap = 0)
    (ha : ∀ i, i < kids.length → ∃ o, a = some ⟨(ad1 i).1, o, none⟩ ∧ (ad1 i).2 = o + i * 4) (hG : ∀ i, i < kids.length → G (ad1 i).1 ∧ (ad1 i).1 < w.heap.size) (hN : ∀ i (hi : i < kids.length), NodeAt G w (ad1 i) kids[i]) : KV G w a kids.length cap kids := by
  by_cases h0 : kids.length = 0
  · have hn : kids = [] := List.eq_nil_of_length_eq_zero h0
    subst hn
    exact .nil hnil hmx
  · obtain ⟨o0, ho0, ho1⟩ := ha 0 (by omega)
    have hall : ∀ i, i < kids.length → ad1 i = ((ad1 0).1, o0 + i * 4) := fun i hi => by
      obtain ⟨o, e1, e2⟩ := ha i hi
      rw [ho0] at e1
      simp only [Option.some.injEq, Addr.mk.injEq, and_true] at e1
      exact Prod.ext e1.1.symm (by rw [e2, ← e1.2])
    subst ho0
    obtain ⟨g0, g1⟩ := hG 0 (by omega)
    refine .cons (fun k => (slOf (w.cell? ⟨(ad1 k).1, (ad1 k).2 + 3, none⟩)).1) (fun k => (slOf (w.cell? ⟨(ad1 k).1, (ad1 k).2 + 3, none⟩)).2.1) (fun k => (slOf (w.cell? ⟨(ad1 k).1, (ad1 k).2 + 3, none⟩)).2.2) rfl h0 hle hmx g1 g0 (fun k hk' => ?_) (fun k hk' => ?_)
    · obtain ⟨u, c, c0, c1, c2, c3, _⟩ := hN k hk'
      rw [hall k hk'] at c0 c1 c2 c3 ⊢
      refine ⟨c0, c1, c2, ?_⟩
      simp only [c3, slOf]
    · obtain ⟨u, c, c0, c1, c2, c3, hk⟩ := hN k hk'
      simp only [c3, slOf]
      exact hk
theorem TA.lt {w : World} {ad : List Nat → Nat × Nat} {t : Nd} {p : List Nat} (h : TA w ad t p) : (ad p).1 < w.heap.size := by
  cases h with
  | mk hb => exact hb
theorem TA.keep4 {G : Nat → Prop} {w w' : World} {ad : List Nat → Nat × Nat} {t : Nd} {p : List Nat} (h : TA w ad t p) (hz : w.heap.size ≤ w'.heap.size) :
    (∀ z, Vp t z → ∀ j, j < 4 → w'.cell? ⟨(ad (p ++ z)).1, (ad (p ++ z)).2 + j, none⟩ = w.cell? ⟨(ad (p ++ z)).1, (ad (p ++ z)).2 + j, none⟩) → (∀ z, Vp t z → z ≠ [] → G (ad (p ++ z)).1) → NodeAt G w' (ad p) t := by
  induction h with
  | @mk t p a cap hb h0 h1 h2 h3 hkv ha hk ih =>
    intro hc hG
    have hc0 := hc [] trivial
    rw [List.append_nil] at hc0
    refine ⟨a, cap, (hc0 0 (by omega)).trans h0, (hc0 1 (by omega)).trans h1, (hc0 2 (by omega)).trans h2, (hc0 3 (by omega)).trans h3, ?_⟩
    refine kv_asm (fun i => ad (p ++ [i])) hkv.len.2.1 hkv.len.2.2 (fun e => (hkv.nil_ e).2) ha (fun i hi => ⟨hG [i] ⟨hi, trivial⟩ (by simp), Nat.lt_of_lt_of_le (hk i hi).lt hz⟩) (fun i hi => ih i hi (fun z hv j hj => ?_) (fun z hv _ => ?_))
    · rw [List.append_assoc]
      exact hc (i :: z) ⟨hi, hv⟩ j hj
    · rw [List.append_assoc]
      exact hG (i :: z) ⟨hi, hv⟩ (by simp)
/-- The replaced tree in memory: four cells are others. -/
theorem TA.repl {G : Nat → Prop} {w w' : World} {ad : List Nat → Nat × Nat} {b : Nd} {ba : Option Addr} {bc : Nat} (hkb : KV G w' ba b.kids.length bc b.kids) (hz : w.heap.size ≤ w'.heap.size) : ∀ (z : List Int) (t : Nd) (p : List Nat) (y : Nd), TA w ad t p → replN t z b = some y →
    (∀ z', Vp t z' → z' ≠ nat z → ∀ j, j < 4 → w'.cell? ⟨(ad (p ++ z')).1, (ad (p ++ z')).2 + j, none⟩ = w.cell? ⟨(ad (p ++ z')).1, (ad (p ++ z')).2 + j, none⟩) → (∀ z', Vp t z' → z' ≠ [] → G (ad (p ++ z')).1) →
    w'.cell? ⟨(ad (p ++ nat z)).1, (ad (p ++ nat z)).2, none⟩ = some (.int .i64 b.id) → w'.cell? ⟨(ad (p ++ nat z)).1, (ad (p ++ nat z)).2 + 1, none⟩ = some (.int .i64 b.kind) → w'.cell? ⟨(ad (p ++ nat z)).1, (ad (p ++ nat z)).2 + 2, none⟩ = some (.string b.text) → w'.cell? ⟨(ad (p ++ nat z)).1, (ad (p ++ nat z)).2 + 3, none⟩ = some (.slice ba b.kids.length bc) →
    NodeAt G w' (ad p) y
  | [], t, p, y, hT, hr, ho, hG, c0, c1, c2, c3 => by
    simp only [replN, Option.some.injEq] at hr
    subst hr
    simp only [nat, List.map_nil, List.append_nil] at c0 c1 c2 c3
    exact ⟨ba, bc, c0, c1, c2, c3, hkb⟩
  | k :: z, t, p, y, hT, hr, ho, hG, c0, c1, c2, c3 => by
    rw [replN] at hr
    by_cases hk : 0 ≤ k ∧ k.toNat < t.kids.length
    · rw [dif_pos hk] at hr
      obtain ⟨y', h1, rfl⟩ := Option.map_eq_some_iff.1 hr
      obtain ⟨K, hK⟩ : ∃ K, k.toNat = K := ⟨_, rfl⟩
      have hnz : nat (k :: z) = K :: nat z := by rw [← hK]; rfl
      have hKl : K < t.kids.length := by rw [← hK]; exact hk.2
      rw [hnz] at ho c0 c1 c2 c3
      have h1' : replN t.kids[K] z b = some y' := by simp only [hK] at h1; exact h1
      simp only [hK]
      have hall : ∀ i (hi : i < t.kids.length), TA w ad t.kids[i] (p ++ [i]) := fun i hi => hT.kid hi
      cases hT with
      | @mk _ _ a cap hb h0 h1 h2 h3 hkv ha hkk =>
        have ho0 := ho [] trivial (by simp)
        rw [List.append_nil] at ho0
        have hl : (t.kids.set K y').length = t.kids.length := List.length_set
        refine ⟨a, cap, (ho0 0 (by omega)).trans h0, (ho0 1 (by omega)).trans h1, (ho0 2 (by omega)).trans h2, ?_, ?_⟩
        · show _ = some (Value.slice a (t.kids.set K y').length cap)
          rw [hl]; exact (ho0 3 (by omega)).trans h3
        · show KV G w' a (t.kids.set K y').length cap (t.kids.set K y')
          refine kv_asm (fun i => ad (p ++ [i])) (by rw [hl]; exact hkv.len.2.1) hkv.len.2.2 (fun e => (hkv.nil_ e).2) (fun i hi => ha i (by rw [← hl]; exact hi)) (fun i hi => ?_) (fun i hi => ?_)
          · rw [hl] at hi
            exact ⟨hG [i] ⟨hi, trivial⟩ (by simp), Nat.lt_of_lt_of_le (hall i hi).lt hz⟩
          · have hi' : i < t.kids.length := by rw [← hl]; exact hi
            by_cases hiK : i = K
            · subst hiK
              rw [List.getElem_set_self]
              have hap : ∀ r, p ++ [i] ++ r = p ++ i :: r := fun r => by rw [List.append_assoc]; rfl
              refine TA.repl hkb hz z t.kids[i] (p ++ [i]) y' (hall i hi') h1' (fun z' hv hne j hj => ?_) (fun z' hv _ => ?_) ?_ ?_ ?_ ?_
              · rw [hap]; exact ho (i :: z') ⟨hi', hv⟩ (fun e => hne (List.cons.inj e).2) j hj
              · rw [hap]; exact hG (i :: z') ⟨hi', hv⟩ (by simp)
              · rw [hap]; exact c0
              · rw [hap]; exact c1
              · rw [hap]; exact c2
              · rw [hap]; exact c3
            · rw [List.getElem_set_ne (fun e => hiK e.symm)]
              refine (hall i hi').keep4 hz (fun z' hv j hj => ?_) (fun z' hv _ => ?_)
              · rw [List.append_assoc]; exact ho (i :: z') ⟨hi', hv⟩ (fun e => hiK (List.cons.inj e).1) j hj
              · rw [List.append_assoc]; exact hG (i :: z') ⟨hi', hv⟩ (by simp)
    · rw [dif_neg hk] at hr; cases hr

end Go.Proofs.Ytfecajeenmnoeaa

/- The program's Replace. Conditions: trees of at most 100000 nodes and 1000000000 bytes, paths of at most 100000 indices. -/
namespace Go.Proofs.Ytfecajeenmnoeaa
open Go.RowKit Go.Shelf
set_option linter.unusedVariables false

/-- What Replace hands back. -/
def ReplP (G : Nat → Prop) (t : Nd) (zs : List Int) (b : Nd) (w : World) (e : Ending) (w' : World) : Prop := Below w.heap.size w w' ∧
  ((∃ (y : Nd) (u : Option Addr) (c : Nat), replN t zs b = some y ∧ e = .returned (.tuple #[ndv y u y.kids.length c, .bool true]) ∧ KV G w' u y.kids.length c y.kids) ∨
   (replN t zs b = none ∧ e = .returned (.tuple #[.agg #[.int .i64 0, .int .i64 0, .string ⟨#[]⟩, .slice none 0 0], .bool false])))
theorem set4_own {w : World} {B F : Nat} {v0 v1 v2 v3 : Value} (h : ∀ j, j < 4 → ∃ u, w.cell? ⟨B, F + j, none⟩ = some u) :
    let W := (((w.setCell ⟨B, F, none⟩ v0).setCell ⟨B, F + 1, none⟩ v1).setCell ⟨B, F + 2, none⟩ v2).setCell ⟨B, F + 3, none⟩ v3
    W.cell? ⟨B, F, none⟩ = some v0 ∧ W.cell? ⟨B, F + 1, none⟩ = some v1 ∧ W.cell? ⟨B, F + 2, none⟩ = some v2 ∧ W.cell? ⟨B, F + 3, none⟩ = some v3 := by
  intro W
  obtain ⟨u0, h0⟩ := h 0 (by omega)
  obtain ⟨u1, h1⟩ := h 1 (by omega)
  obtain ⟨u2, h2⟩ := h 2 (by omega)
  obtain ⟨u3, h3⟩ := h 3 (by omega)
  refine ⟨?_, ?_, ?_, ?_⟩
  · show ((((w.setCell ⟨B, F, none⟩ v0).setCell ⟨B, F + 1, none⟩ v1).setCell ⟨B, F + 2, none⟩ v2).setCell ⟨B, F + 3, none⟩ v3).cell? _ = _
    rw [cell_set_ne (by omega), cell_set_ne (by omega), cell_set_ne (by omega)]
    exact cell_set_self h0
  · show ((((w.setCell ⟨B, F, none⟩ v0).setCell ⟨B, F + 1, none⟩ v1).setCell ⟨B, F + 2, none⟩ v2).setCell ⟨B, F + 3, none⟩ v3).cell? _ = _
    rw [cell_set_ne (by omega), cell_set_ne (by omega)]
    exact cell_set_self ((cell_set_ne (by omega)).trans h1)
  · show ((((w.setCell ⟨B, F, none⟩ v0).setCell ⟨B, F + 1, none⟩ v1).setCell ⟨B, F + 2, none⟩ v2).setCell ⟨B, F + 3, none⟩ v3).cell? _ = _
    rw [cell_set_ne (by omega)]
    exact cell_set_self ((cell_set_ne (by omega)).trans ((cell_set_ne (by omega)).trans h2))
  · exact cell_set_self ((cell_set_ne (by omega)).trans ((cell_set_ne (by omega)).trans ((cell_set_ne (by omega)).trans h3)))
theorem set4_oth {w : World} {B F B' O : Nat} {v0 v1 v2 v3 : Value} (h : ¬ (B' = B ∧ F ≤ O ∧ O < F + 4)) :
    ((((w.setCell ⟨B, F, none⟩ v0).setCell ⟨B, F + 1, none⟩ v1).setCell ⟨B, F + 2, none⟩ v2).setCell ⟨B, F + 3, none⟩ v3).cell? ⟨B', O, none⟩ = w.cell? ⟨B', O, none⟩ := by
  rw [cell_set_ne (by omega), cell_set_ne (by omega), cell_set_ne (by omega), cell_set_ne (by omega)]
/-- The copy with the node replaced. -/
theorem repl_mem {V w8 : World} {ad : List Nat → Nat × Nat} {t b x y : Nd} {zs : List Int} {o g : Nat} {ba : Option Addr} {bc : Nat} (hTA : TA V ad t []) (hb8 : Below V.heap.size V w8) (hg : getN t zs = some (x, o)) (hr : replN t zs b = some y)
    (hpw : (spots t [] 0).Pairwise (Apart ad)) (h4 : ∀ s ∈ spots t [] 0, g ≤ (ad s.path).1 ∧ ∃ m, (ad s.path).2 = m * 4) (hgV : g ≤ V.heap.size) (hkb : KV (fun j => V.heap.size ≤ j) w8 ba b.kids.length bc b.kids) :
    (∀ j, j < 4 → ∃ u, w8.cell? ⟨(ad (nat zs)).1, (ad (nat zs)).2 + j, none⟩ = some u) ∧ (ad (nat zs)).1 < V.heap.size ∧
    NodeAt (fun j => g ≤ j) ((((w8.setCell ⟨(ad (nat zs)).1, (ad (nat zs)).2, none⟩ (.int .i64 b.id)).setCell ⟨(ad (nat zs)).1, (ad (nat zs)).2 + 1, none⟩ (.int .i64 b.kind)).setCell ⟨(ad (nat zs)).1, (ad (nat zs)).2 + 2, none⟩ (.string b.text)).setCell ⟨(ad (nat zs)).1, (ad (nat zs)).2 + 3, none⟩ (.slice ba b.kids.length bc)) (ad []) y := by
  have hvp := vp_get zs t x o hg
  have hTx := TA.get zs t [] x o hTA hg
  rw [List.nil_append] at hTx
  have hlt := hTx.lt
  have h8 : ∀ z, Vp t z → (ad z).1 < V.heap.size := fun z hz => by
    obtain ⟨s, hs, he⟩ := vp_spot z t [] 0 hz
    have := SI.spot t.dep t [] 0 (Nat.le_refl _) hTA.si s hs
    rw [he, List.nil_append] at this
    cases this with
    | mk _ hb _ => exact hb
  have h44 : ∀ z, Vp t z → g ≤ (ad z).1 ∧ ∃ m, (ad z).2 = m * 4 := fun z hz => by
    obtain ⟨s, hs, he⟩ := vp_spot z t [] 0 hz
    have := h4 s hs
    rw [he, List.nil_append] at this
    exact this
  obtain ⟨bb, ff, ka, kc, had, _, _, _, hcell⟩ := hTx.cells
  obtain ⟨d0, d1, d2, d3⟩ := hcell w8 (hb8.block _ (by rw [had] at hlt; exact hlt))
  have hex : ∀ j, j < 4 → ∃ u, w8.cell? ⟨(ad (nat zs)).1, (ad (nat zs)).2 + j, none⟩ = some u := fun j hj => by
    rw [had]
    match j, hj with
    | 0, _ => exact ⟨_, d0⟩
    | 1, _ => exact ⟨_, d1⟩
    | 2, _ => exact ⟨_, d2⟩
    | 3, _ => exact ⟨_, d3⟩
  refine ⟨hex, hlt, ?_⟩
  obtain ⟨e0, e1, e2, e3⟩ := set4_own (v0 := .int .i64 b.id) (v1 := .int .i64 b.kind) (v2 := .string b.text) (v3 := .slice ba b.kids.length bc) hex
  obtain ⟨hbb, hss⟩ := set4 w8 (ad (nat zs)).1 (ad (nat zs)).2 (.int .i64 b.id) (.int .i64 b.kind) (.string b.text) (.slice ba b.kids.length bc)
  have hkb9 := hkb.keep (G' := fun j => g ≤ j) (w' := ((((w8.setCell ⟨(ad (nat zs)).1, (ad (nat zs)).2, none⟩ (.int .i64 b.id)).setCell ⟨(ad (nat zs)).1, (ad (nat zs)).2 + 1, none⟩ (.int .i64 b.kind)).setCell ⟨(ad (nat zs)).1, (ad (nat zs)).2 + 2, none⟩ (.string b.text)).setCell ⟨(ad (nat zs)).1, (ad (nat zs)).2 + 3, none⟩ (.slice ba b.kids.length bc))) (by rw [hss]; exact Nat.le_refl _) (fun j hj _ => hbb j (by have : V.heap.size ≤ j := hj; omega)) (fun j hj _ => by have : V.heap.size ≤ j := hj; show g ≤ j; omega)
  refine TA.repl hkb9 (by rw [hss]; exact hb8.size) zs t [] y hTA hr (fun z' hv hne j hj => ?_) (fun z' hv _ => ?_) ?_ ?_ ?_ ?_
  · rw [List.nil_append]
    have hap := pw_apart hpw hv hvp hne
    rw [List.nil_append, List.nil_append] at hap
    obtain ⟨_, m, hm⟩ := h44 z' hv
    obtain ⟨_, m', hm'⟩ := h44 _ hvp
    rw [set4_oth (fun e => hap (Prod.ext e.1 (by omega)))]
    exact World.cell?_of_block (w := V) (a := ⟨(ad z').1, (ad z').2 + j, none⟩) (hb8.block _ (h8 z' hv))
  · rw [List.nil_append]; exact (h44 z' hv).1
  · rw [List.nil_append]; exact e0
  · rw [List.nil_append]; exact e1
  · rw [List.nil_append]; exact e2
  · rw [List.nil_append]; exact e3

set_option maxRecDepth 100000 in
set_option maxHeartbeats 8000000 in
theorem preplace_any (t : Nd) (a : Option Addr) (n cap : Nat) (pa : Option Addr) (pc : Nat) (zs : List Int) (b : Nd) (ba : Option Addr) (bn bc : Nat) (w : World) (G G' : Nat → Prop) (hK : KV G w a n cap t.kids) (hB : KV G' w ba bn bc b.kids) (hc : t.cnt ≤ 100000) (hw : t.pw ≤ 1000000000) (hcb : b.cnt ≤ 100000) (hp : Sli .i64 w pa pc zs) (hz : zs.length ≤ 100000) :
    Calls Try.prog 29 #[ndv t a n cap, .slice pa zs.length pc, ndv b ba bn bc] w (ReplP (fun j => w.heap.size ≤ j) t zs b w) := by
  obtain ⟨q, hq⟩ : ∃ q, w.heap.size = q := ⟨_, rfl⟩
  obtain ⟨W2, hW2⟩ : ∃ W, ((w.alloc (.cells (ndc t a n cap) 25)).alloc (.cells (ndc b ba bn bc) 25)).alloc (.cells #[.int .i64 0, .int .i64 0, .string ⟨#[]⟩, .slice none 0 0] 25) = W := ⟨_, rfl⟩
  have b2 : Below q w W2 := by rw [← hW2, ← hq]; exact (((Below.refl _ _).alloc (Nat.le_refl _) _).alloc (by simp) _).alloc (by simp; omega) _
  have k1 : Blk W2 q 25 (ndc t a n cap) := by rw [← hW2, ← hq]; exact ((Blk.new _ _ _).alloc _).alloc _
  have k1b : Blk W2 (q + 1) 25 (ndc b ba bn bc) := by
    rw [← hW2, ← hq]
    have := Blk.new (w.alloc (.cells (ndc t a n cap) 25)) 25 (ndc b ba bn bc)
    rw [World.size_alloc] at this
    exact this.alloc _
  have k2 : Blk W2 (q + 2) 25 #[.int .i64 0, .int .i64 0, .string ⟨#[]⟩, .slice none 0 0] := by
    rw [← hW2, ← hq]
    have := Blk.new ((w.alloc (.cells (ndc t a n cap) 25)).alloc (.cells (ndc b ba bn bc) 25)) 25 #[.int .i64 0, .int .i64 0, .string ⟨#[]⟩, .slice none 0 0]
    rw [World.size_alloc, World.size_alloc] at this
    exact this
  have s2 : W2.heap.size = q + 3 := by rw [← hW2, ← hq]; simp
  have hkl := hK.len.1
  have hbl := hB.len.1
  have HCL := Lib.hid (clone_any t.dep t a n cap W2 G (Nat.le_refl _) (hK.on (by rw [hq]; exact b2)) hc)
  have HCB : Hid (∀ W, Below W2.heap.size W2 W → Calls Try.prog 54 #[ndv b ba bn bc] W (ClP b.dep b.id b.kind b.text b.kids bn W)) := fun W hW => clone_any b.dep b ba bn bc W G' (Nat.le_refl _) (hB.on (by rw [hq]; exact b2.trans (hW.mono (by omega)))) hcb
  have HFIN0 : Hid (∀ (W : World) (ad : List Nat → Nat × Nat), Below W2.heap.size W2 W → TA W ad t [] → Calls Try.prog 56 #[.pointer (some ⟨(ad []).1, (ad []).2, none⟩), .slice pa zs.length pc] W (FindP ad t zs W)) := fun W ad hW hT => pfind_any ad t pa pc zs W hT (hp.below (by rw [hq]; exact b2.trans (hW.mono (by omega)))) hz hc hw
  have HBX : Hid (∀ W, Below W2.heap.size W2 W → W.cell? ⟨q + 1, 0, none⟩ = some (.int .i64 b.id) ∧ W.cell? ⟨q + 1, 1, none⟩ = some (.int .i64 b.kind) ∧ W.cell? ⟨q + 1, 2, none⟩ = some (.string b.text) ∧ W.cell? ⟨q + 1, 3, none⟩ = some (.slice ba bn bc)) := fun W hW => by
    have kk := k1b.same (hW.block (q + 1) k1b.lt)
    exact ⟨kk.cell 0, kk.cell 1, kk.cell 2, kk.cell 3⟩
  obtain ⟨pn, hpn⟩ : ∃ z, zs.length = z := ⟨_, rfl⟩
  rw [hpn] at HFIN0 ⊢
  obtain ⟨id, hid⟩ : ∃ x, t.id = x := ⟨_, rfl⟩
  obtain ⟨kd, hkd⟩ : ∃ x, t.kind = x := ⟨_, rfl⟩
  obtain ⟨tx, htx⟩ : ∃ x, t.text = x := ⟨_, rfl⟩
  obtain ⟨bi, hbi⟩ : ∃ x, b.id = x := ⟨_, rfl⟩
  obtain ⟨bk, hbk⟩ : ∃ x, b.kind = x := ⟨_, rfl⟩
  obtain ⟨bt, hbt⟩ : ∃ x, b.text = x := ⟨_, rfl⟩
  have HBN := Lib.hid (And.intro hbi (And.intro hbk hbt))
  have HDN := Lib.hid (And.intro hid (And.intro hkd htx))
  unfold ndv ndc at *
  rw [hid, hkd, htx, hbi, hbk, hbt] at hW2
  rw [hid, hkd, htx] at HCL
  rw [hbi, hbk, hbt] at HCB HBX
  rw [hid, hkd, htx, hbi, hbk, hbt]
  have HW2 := Lib.hid hW2; have HQ := Lib.hid hq; have HK2 := Lib.hid k2; have HB2 := Lib.hid b2; have HS2 := Lib.hid s2; have HKL := Lib.hid hkl; have HBL := Lib.hid hbl
  clear hK hB hc hw hcb hp hz hW2 b2 k1 k1b k2 s2 hid hkd htx hbi hbk hbt hq hkl hbl hpn
  go_enter Try.func29, Try.ntmps29
  go_wp2_with fail
  rw [HW2.out, HQ.out]
  go_wp2_with fail
  refine HCL.out.mono ?_
  rintro e w3 ⟨a', c', rfl, hki, b3⟩
  obtain ⟨nb, hnb⟩ : ∃ z, w3.heap.size = z := ⟨_, rfl⟩
  obtain ⟨W5, hW5⟩ : ∃ W, w3.alloc (.cells #[.int .i64 id, .int .i64 kd, .string tx, .slice a' n c'] 25) = W := ⟨_, rfl⟩
  have hs2 := HS2.out
  have hz3 := b3.size
  have b5 : Below nb w3 W5 := by rw [← hW5, ← hnb]; exact (Below.refl _ _).alloc (Nat.le_refl _) _
  have s5 : W5.heap.size = nb + 1 := by rw [← hW5, ← hnb]; simp
  have k5 : Blk W5 nb 25 #[.int .i64 id, .int .i64 kd, .string tx, .slice a' n c'] := by rw [← hW5, ← hnb]; exact Blk.new _ _ _
  obtain ⟨adk, h1, h2, h3, h4⟩ := ki_ad _ hki
  have hkv5 := ((KI.kv _ (G := fun _ => True) hki (fun _ _ _ => trivial)).on (by rw [hnb]; exact b5))
  obtain ⟨ad, had⟩ : ∃ ad : List Nat → Nat × Nat, ad = fun p => match p with
    | [] => (nb, 0)
    | i :: r => adk (i :: r) := ⟨_, rfl⟩
  have had0 : ad [] = (nb, 0) := by rw [had]
  have hadn : ∀ z, z ≠ [] → ad z = adk z := fun z hz => by
    cases z with
    | nil => exact absurd rfl hz
    | cons i r => rw [had]
  have hsp := spots_eq t [] 0
  have hkid : ∀ o, ∀ s ∈ spotsL t.kids [] 0 o, ad s.path = adk s.path := fun o s hs => by
    obtain ⟨j, z, hp⟩ := spotsL_path _ _ _ _ s hs
    exact hadn _ (by rw [hp]; simp)
  have hTA : TA W5 ad t [] := by
    obtain ⟨hk1, hk2, hk3⟩ := HDN.out
    have hn := HKL.out
    rw [← hn] at hkv5
    refine .mk (by rw [had0]; exact k5.lt) (by rw [had0, hk1]; exact k5.cell 0) (by rw [had0, hk2]; exact k5.cell 1) (by rw [had0, hk3]; exact k5.cell 2) (by rw [had0, hn]; exact k5.cell 3) hkv5 (fun i hi => ?_) (fun i hi => ?_)
    · rw [List.nil_append, hadn [i] (by simp)]
      exact ⟨0, (h1 i hi).1, by rw [Nat.zero_add]; exact (h1 i hi).2⟩
    · refine ((h2 i hi).on (by rw [hnb]; exact b5)).shift _ (fun r => ?_)
      rw [List.nil_append]
      exact hadn ([i] ++ r) (by simp)
  have hBD : ∀ s ∈ spots t [] 0, (q + 3 ≤ (ad s.path).1 ∧ ∃ m, (ad s.path).2 = m * 4) ∧ (ad s.path).1 ≤ nb ∧ ∀ j, j < 4 → W5.frozen? ⟨(ad s.path).1, (ad s.path).2 + j, none⟩ = false := fun s hs => by
    rw [hsp] at hs
    rcases List.mem_cons.1 hs with rfl | hs
    · rw [had0]
      exact ⟨⟨by show q + 3 ≤ nb; omega, 0, rfl⟩, Nat.le_refl _, fun j _ => k5.frozen _⟩
    · rw [hkid _ s hs]
      obtain ⟨g1, g2, f0, f1, f2, f3, g3⟩ := h3 _ s hs
      refine ⟨⟨by omega, g3⟩, by omega, fun j hj => ?_⟩
      have hfb : ∀ O, W5.frozen? ⟨(adk s.path).1, O, none⟩ = w3.frozen? ⟨(adk s.path).1, O, none⟩ := fun O => World.frozen?_of_block (w := w3) (a := ⟨(adk s.path).1, O, none⟩) (b5.block _ (by show (adk s.path).1 < nb; omega))
      rw [hfb]
      match j, hj with
      | 0, _ => exact f0
      | 1, _ => exact f1
      | 2, _ => exact f2
      | 3, _ => exact f3
  have hPW : (spots t [] 0).Pairwise (Apart ad) := by
    rw [hsp, List.pairwise_cons]
    refine ⟨fun s hs e => ?_, (h4 _).imp_of_mem ?_⟩
    · have e : ad [] = ad s.path := e
      rw [had0, hkid _ s hs] at e
      have := (h3 _ s hs).2.1
      rw [← e] at this
      have : nb < w3.heap.size := this
      omega
    · intro s s' hs hs' hne e
      have e : ad s.path = ad s'.path := e
      rw [hkid _ s hs, hkid _ s' hs'] at e
      exact hne e
  have HB5 : Hid (Below q w W5) := (HB2.out.trans (b3.mono (by omega))).trans (b5.mono (by omega))
  have b25 : Below W2.heap.size W2 W5 := b3.trans (b5.mono (by omega))
  have HB25 := Lib.hid b25
  have HFI := HFIN0.out W5 ad b25 hTA
  rw [had0] at HFI
  have HFI := Lib.hid HFI
  have HKR5 : Hid (Blk W5 (q + 2) 25 #[.int .i64 0, .int .i64 0, .string ⟨#[]⟩, .slice none 0 0]) := (HK2.out.same (b3.block _ HK2.out.lt)).same (b5.block _ (by omega))
  have HTA := Lib.hid hTA; have HBD := Lib.hid hBD; have HPW := Lib.hid hPW; have HAD0 := Lib.hid had0; have HW5 := Lib.hid hW5; have HS5 := Lib.hid s5; have HNB := Lib.hid hnb
  have hqnb : q + 3 ≤ nb := by omega
  clear hki b3 hW5 b5 k5 h1 h2 h3 h4 hkv5 had had0 hadn hsp hkid hTA hBD hPW hs2 hz3 s5 b25 hnb
  go_wp2_with fail
  rw [HW5.out, HNB.out]
  refine HFI.out.mono ?_
  rintro e w6 ⟨b6, ⟨x, o, fa, fn, fc, hg, rfl⟩ | ⟨hg, rfl⟩⟩
  · obtain ⟨B, hBB⟩ : ∃ z, (ad (nat zs)).1 = z := ⟨_, rfl⟩
    obtain ⟨F, hFF⟩ : ∃ z, (ad (nat zs)).2 = z := ⟨_, rfl⟩
    obtain ⟨y, hy⟩ := replN_some (b := b) hg
    obtain ⟨W7, hW7⟩ : ∃ W, w6.alloc (.cells #[.pointer (some ⟨B, F, none⟩), .slice fa fn fc, .int .i64 (o : Int)] 84) = W := ⟨_, rfl⟩
    have b7 : Below w6.heap.size w6 W7 := by rw [← hW7]; exact (Below.refl _ _).alloc (Nat.le_refl _) _
    have k7 : Blk W7 w6.heap.size 84 #[.pointer (some ⟨B, F, none⟩), .slice fa fn fc, .int .i64 (o : Int)] := by rw [← hW7]; exact Blk.new _ _ _
    have s7 : W7.heap.size = w6.heap.size + 1 := by rw [← hW7]; simp
    have hz6 := b6.size
    have hs5 := HS5.out
    have hs2 := HS2.out
    have b57 : Below W5.heap.size W5 W7 := b6.trans (b7.mono hz6)
    have b27 : Below W2.heap.size W2 W7 := HB25.out.trans (b57.mono HB25.out.size)
    have HCB7 := Lib.hid (HCB.out W7.drew b27.drew)
    have hTA7 : TA W7.drew ad t [] := HTA.out.on b57.drew
    obtain ⟨sx, hsx, hsp⟩ := vp_spot _ t [] 0 (vp_get zs t x o hg)
    have hbd := HBD.out sx hsx
    rw [hsp, List.nil_append, hBB, hFF] at hbd
    have HSTEP : Hid (∀ (a2 : Option Addr) (c2 : Nat) (w8 : World), KI b.dep w8 W7.drew.heap.size w8.heap.size a2 bn c2 b.kids → Below W7.drew.heap.size W7.drew w8 →
        (∀ j, j < 4 → ∃ u, w8.cell? ⟨B, F + j, none⟩ = some u) ∧ (∀ j, j < 4 → w8.frozen? ⟨B, F + j, none⟩ = false) ∧ w8.cell? ⟨w6.heap.size, 0, none⟩ = some (.pointer (some ⟨B, F, none⟩)) ∧
        ∃ (u : Option Addr) (c : Nat), ∃ W9, (((w8.setCell ⟨B, F, none⟩ (.int .i64 bi)).setCell ⟨B, F + 1, none⟩ (.int .i64 bk)).setCell ⟨B, F + 2, none⟩ (.string bt)).setCell ⟨B, F + 3, none⟩ (.slice a2 bn c2) = W9 ∧
        W9.cell? ⟨nb, 0, none⟩ = some (.int .i64 y.id) ∧ W9.cell? ⟨nb, 1, none⟩ = some (.int .i64 y.kind) ∧ W9.cell? ⟨nb, 2, none⟩ = some (.string y.text) ∧ W9.cell? ⟨nb, 3, none⟩ = some (.slice u y.kids.length c) ∧ KV (fun j => q + 3 ≤ j) W9 u y.kids.length c y.kids ∧ Blk W9 (q + 2) 25 #[.int .i64 0, .int .i64 0, .string ⟨#[]⟩, .slice none 0 0] ∧ Below q w W9) := fun a2 c2 w8 hki2 b8 => by
      have hbl := HBL.out
      have hzz : W7.drew.heap.size = W7.heap.size := rfl
      have hkb := KI.kv _ (G := fun j => W7.drew.heap.size ≤ j) hki2 (fun j h _ => h)
      rw [← hbl] at hkb
      obtain ⟨m1, m2, m3⟩ := repl_mem (g := q + 3) hTA7 b8 hg hy HPW.out (fun s hs => (HBD.out s hs).1) (by rw [hzz]; omega) hkb
      rw [hBB, hFF] at m1 m3
      obtain ⟨g1, g2, g3⟩ := HBN.out
      rw [g1, g2, g3, hbl, HAD0.out] at m3
      obtain ⟨u, c, c0, c1, c2', c3, hkv⟩ := m3
      obtain ⟨hbb, hss⟩ := set4 w8 B F (.int .i64 bi) (.int .i64 bk) (.string bt) (.slice a2 bn c2)
      have hB8 : ∀ j, j < W7.heap.size → w8.heap[j]? = W7.heap[j]? := fun j hj => b8.block j hj
      refine ⟨m1, fun j hj => ?_, ?_, u, c, _, rfl, c0, c1, c2', c3, hkv, ?_, ?_⟩
      · have e1 : w8.frozen? ⟨B, F + j, none⟩ = W5.frozen? ⟨B, F + j, none⟩ := World.frozen?_of_block (w := W5) (a := ⟨B, F + j, none⟩) ((hB8 B (by omega)).trans (b57.block B (by omega)))
        rw [e1]
        exact hbd.2.2 j hj
      · exact (k7.same (hB8 _ (by omega))).cell 0
      · exact (HKR5.out.same (b57.block _ (by omega))).same ((hbb _ (by omega)).trans (hB8 _ (by omega)))
      · have hq7 : Below q w W7.drew := (HB5.out.trans (b57.mono (by omega))).drew
        have hq8 : Below q w w8 := hq7.trans (b8.mono (by rw [hzz]; omega))
        exact (((hq8.setCell (p := ⟨B, F, none⟩) (by show q ≤ B; omega) _).setCell (p := ⟨B, F + 1, none⟩) (by show q ≤ B; omega) _).setCell (p := ⟨B, F + 2, none⟩) (by show q ≤ B; omega) _).setCell (p := ⟨B, F + 3, none⟩) (by show q ≤ B; omega) _
    have hbx0 := HBX.out W7.drew b27.drew
    obtain ⟨x0, x1, x2, x3⟩ := hbx0
    have p0 := k7.cell 0
    simp only [List.getElem?_toArray, List.getElem?_cons_zero] at p0
    have p0 : W7.drew.cell? ⟨w6.heap.size, 0, none⟩ = some (.pointer (some ⟨B, F, none⟩)) := p0
    have HY := Lib.hid hy; have HW7 := Lib.hid hW7
    have hne1 : ¬ (B = w6.heap.size) := by omega
    have hne2 : ¬ (w6.heap.size = B) := by omega
    rw [hBB, hFF]
    clear b6 hg hBB hFF hy hW7 b7 k7 s7 hz6 hs5 hs2 b57 b27 hTA7 hsx hsp hbd
    go_wp2_with fail
    rw [HW7.out]
    go_region_law (first | (go_simp; go_at_call 54; refine HCB7.out.mono ?_; rintro e w8 ⟨a2, c2, rfl, hki2, b8⟩; obtain ⟨m1, m2, p8, u, c, W9, hW9, r0, r1, r2, r3, hkv9, hz9, hb9⟩ := HSTEP.out a2 c2 w8 hki2 b8; obtain ⟨v0, u0⟩ := m1 0 (by omega); obtain ⟨v1, u1⟩ := m1 1 (by omega); obtain ⟨v2, u2⟩ := m1 2 (by omega); obtain ⟨v3, u3⟩ := m1 3 (by omega); have f0 := m2 0 (by omega); have f1 := m2 1 (by omega); have f2 := m2 2 (by omega); have f3 := m2 3 (by omega); rw [Nat.add_zero] at u0 f0; have HW9 := Lib.hid hW9; have HR := Lib.hid (And.intro r0 (And.intro r1 (And.intro r2 r3))); have HKV9 := Lib.hid hkv9; have HZ9 := Lib.hid hz9; have HB9 := Lib.hid hb9; clear hki2 b8 m1 m2 hW9 r0 r1 r2 r3 hkv9 hz9 hb9))
    all_goals
      rw [HW9.out]
      obtain ⟨r0, r1, r2, r3⟩ := HR.out
      have hfin : Blk ((((W9.setCell ⟨q + 2, 0, none⟩ (.int .i64 y.id)).setCell ⟨q + 2, 1, none⟩ (.int .i64 y.kind)).setCell ⟨q + 2, 2, none⟩ (.string y.text)).setCell ⟨q + 2, 3, none⟩ (.slice u y.kids.length c)) (q + 2) 25 #[.int .i64 y.id, .int .i64 y.kind, .string y.text, .slice u y.kids.length c] ∧
          ReplP (fun j => w.heap.size ≤ j) t zs b w (.returned (.tuple #[.agg #[.int .i64 y.id, .int .i64 y.kind, .string y.text, .slice u y.kids.length c], .bool true])) ((((W9.setCell ⟨q + 2, 0, none⟩ (.int .i64 y.id)).setCell ⟨q + 2, 1, none⟩ (.int .i64 y.kind)).setCell ⟨q + 2, 2, none⟩ (.string y.text)).setCell ⟨q + 2, 3, none⟩ (.slice u y.kids.length c)) := by
        obtain ⟨hbb, hss⟩ := set4 W9 (q + 2) 0 (.int .i64 y.id) (.int .i64 y.kind) (.string y.text) (.slice u y.kids.length c)
        simp only [Nat.zero_add] at hbb hss
        refine ⟨by simpa using (((HZ9.out.set 0 (.int .i64 y.id)).set 1 (.int .i64 y.kind)).set 2 (.string y.text)).set 3 (.slice u y.kids.length c), ?_, .inl ⟨y, u, c, HY.out, rfl, ?_⟩⟩
        · rw [HQ.out]
          exact (((HB9.out.setCell (p := ⟨q + 2, 0, none⟩) (by show q ≤ q + 2; omega) _).setCell (p := ⟨q + 2, 1, none⟩) (by show q ≤ q + 2; omega) _).setCell (p := ⟨q + 2, 2, none⟩) (by show q ≤ q + 2; omega) _).setCell (p := ⟨q + 2, 3, none⟩) (by show q ≤ q + 2; omega) _
        · exact HKV9.out.keep (by rw [hss]; exact Nat.le_refl _) (fun j hj _ => hbb j (by have : q + 3 ≤ j := hj; omega)) (fun j hj _ => by have : q + 3 ≤ j := hj; show w.heap.size ≤ j; have := HQ.out; omega)
      obtain ⟨hz, hfin⟩ := hfin
      have HZF := Lib.hid hz; have HF := Lib.hid hfin
      have y0 := HZ9.out.cell 0
      have y1 := HZ9.out.cell 1
      have y2 := HZ9.out.cell 2
      have y3 := HZ9.out.cell 3
      have g0 := HZ9.out.frozen 0
      have g1 := HZ9.out.frozen 1
      have g2 := HZ9.out.frozen 2
      have g3 := HZ9.out.frozen 3
      simp only [List.getElem?_toArray, List.getElem?_cons_zero, List.getElem?_cons_succ] at y0 y1 y2 y3
      obtain ⟨yn, hyn⟩ : ∃ v, y.kids.length = v := ⟨_, rfl⟩
      obtain ⟨yi, hyi⟩ : ∃ v, y.id = v := ⟨_, rfl⟩
      obtain ⟨yk, hyk⟩ : ∃ v, y.kind = v := ⟨_, rfl⟩
      obtain ⟨yt, hyt⟩ : ∃ v, y.text = v := ⟨_, rfl⟩
      rw [hyi] at r0; rw [hyk] at r1; rw [hyt] at r2; rw [hyn] at r3
      rw [hyi, hyk, hyt, hyn] at HZF HF
      have hd1 : ¬ (nb = q + 2) := by omega
      have hd2 : ¬ (q + 2 = nb) := by omega
      clear hz hfin hyn hyi hyk hyt u0 u1 u2 u3 f0 f1 f2 f3 p8 x0 x1 x2 x3 p0
      go_wp2_with fail
      have z0 := HZF.out.cell 0
      have z1 := HZF.out.cell 1
      have z2 := HZF.out.cell 2
      have z3 := HZF.out.cell 3
      simp only [List.getElem?_toArray, List.getElem?_cons_zero, List.getElem?_cons_succ] at z0 z1 z2 z3
      refine bodyPost_ret (v := .tuple #[.agg #[.int .i64 yi, .int .i64 yk, .string yt, .slice u yn c], .bool true]) (by simp [results, Try.results29, go_sem, z0, z1, z2, z3]) rfl HF.out
  · obtain ⟨W4, hW4⟩ : ∃ W, w6.alloc (.cells #[.pointer none, .slice none 0 0, .int .i64 0] 84) = W := ⟨_, rfl⟩
    have b4 : Below w6.heap.size w6 W4 := by rw [← hW4]; exact (Below.refl _ _).alloc (Nat.le_refl _) _
    have hz3 := b6.size
    have hs5 := HS5.out
    have hkq : Blk W4 (q + 2) 25 #[.int .i64 0, .int .i64 0, .string ⟨#[]⟩, .slice none 0 0] := (HKR5.out.same (b6.block _ HKR5.out.lt)).same (b4.block _ (by omega))
    have hfin : ReplP (fun j => w.heap.size ≤ j) t zs b w (.returned (.tuple #[.agg #[.int .i64 0, .int .i64 0, .string ⟨#[]⟩, .slice none 0 0], .bool false])) ((((W4.setCell ⟨q + 2, 0, none⟩ (.int .i64 0)).setCell ⟨q + 2, 1, none⟩ (.int .i64 0)).setCell ⟨q + 2, 2, none⟩ (.string ⟨#[]⟩)).setCell ⟨q + 2, 3, none⟩ (.slice none 0 0)) := by
      refine ⟨?_, .inr ⟨(replN_none zs t b).2 hg, rfl⟩⟩
      rw [HQ.out]
      exact (((((HB5.out.trans (b6.mono (by omega))).trans (b4.mono (by omega))).setCell (p := ⟨q + 2, 0, none⟩) (by show q ≤ q + 2; omega) _).setCell (p := ⟨q + 2, 1, none⟩) (by show q ≤ q + 2; omega) _).setCell (p := ⟨q + 2, 2, none⟩) (by show q ≤ q + 2; omega) _).setCell (p := ⟨q + 2, 3, none⟩) (by show q ≤ q + 2; omega) _
    have hz : Blk ((((W4.setCell ⟨q + 2, 0, none⟩ (.int .i64 0)).setCell ⟨q + 2, 1, none⟩ (.int .i64 0)).setCell ⟨q + 2, 2, none⟩ (.string ⟨#[]⟩)).setCell ⟨q + 2, 3, none⟩ (.slice none 0 0)) (q + 2) 25 #[.int .i64 0, .int .i64 0, .string ⟨#[]⟩, .slice none 0 0] := by simpa using (((hkq.set 0 (.int .i64 0)).set 1 (.int .i64 0)).set 2 (.string ⟨#[]⟩)).set 3 (.slice none 0 0)
    have y0 := hkq.cell 0
    have y1 := hkq.cell 1
    have y2 := hkq.cell 2
    have y3 := hkq.cell 3
    have f0 := hkq.frozen 0
    have f1 := hkq.frozen 1
    have f2 := hkq.frozen 2
    have f3 := hkq.frozen 3
    simp only [List.getElem?_toArray, List.getElem?_cons_zero, List.getElem?_cons_succ] at y0 y1 y2 y3
    have HZ := Lib.hid hz; have HF := Lib.hid hfin
    clear hkq hfin hz b4 b6 hz3 hs5
    subst hW4
    go_wp2_with fail
    have z0 := HZ.out.cell 0
    have z1 := HZ.out.cell 1
    have z2 := HZ.out.cell 2
    have z3 := HZ.out.cell 3
    simp only [List.getElem?_toArray, List.getElem?_cons_zero, List.getElem?_cons_succ] at z0 z1 z2 z3
    refine bodyPost_ret (v := .tuple #[.agg #[.int .i64 0, .int .i64 0, .string ⟨#[]⟩, .slice none 0 0], .bool false]) (by simp [results, Try.results29, go_sem, z0, z1, z2, z3]) rfl HF.out

end Go.Proofs.Ytfecajeenmnoeaa

/- The reference's Replace. Conditions: trees of at most 100000 nodes, paths of at most 100000 indices. -/
namespace Go.Proofs.Ytfecajeenmnoeaa
open Go.RowKit Go.Shelf
set_option linter.unusedVariables false

/-- A row of kids with one of them stored anew. -/
theorem rrepl_mem {G : Nat → Prop} {W8 : World} {B g n c K : Nat} {ks : List Nd} {us : List (Option Addr × Nat × Nat)} {y : Nd} {u : Option Addr} {cu : Nat} (hrow : W8.ownsRow B 25 4 (.slice (some ⟨g, 0, none⟩) n c) n (kcs ks us)) (hl : us.length = ks.length) (hn : ks.length = n)
    (hsub : ∀ (k : Nat) (t : Nd) (v : Option Addr × Nat × Nat), ks[k]? = some t → us[k]? = some v → KV (fun j => G j ∧ j ≠ g) W8 v.1 v.2.1 v.2.2 t.kids) (hy : KV (fun j => G j ∧ j ≠ g) W8 u y.kids.length cu y.kids) (hK : K < n) (hGg : G g) :
    KV G ((((W8.setCell ⟨g, K * 4, none⟩ (.int .i64 y.id)).setCell ⟨g, K * 4 + 1, none⟩ (.int .i64 y.kind)).setCell ⟨g, K * 4 + 2, none⟩ (.string y.text)).setCell ⟨g, K * 4 + 3, none⟩ (.slice u y.kids.length cu)) (some ⟨g, 0, none⟩) n c (ks.set K y) := by
  obtain ⟨hbb, hss⟩ := set4 W8 g (K * 4) (.int .i64 y.id) (.int .i64 y.kind) (.string y.text) (.slice u y.kids.length cu)
  have hgl := hrow.lt g rfl
  have hlen : (ks.set K y).length = n := by rw [List.length_set, hn]
  have hcm : n ≤ c ∧ c ≤ maxLen := by
    rcases hrow.2 with ⟨h1, h2⟩ | ⟨g', c', cur, h1, h2, h3, h4, h5, _⟩
    · simp at h1
    · simp only [Value.slice.injEq] at h1
      obtain ⟨_, _, rfl⟩ := h1
      exact ⟨h4, h5⟩
  have hkl := kcs_len ks us hl
  have hex : ∀ j, j < 4 → ∃ v, W8.cell? ⟨g, K * 4 + j, none⟩ = some v := fun j hj => ⟨_, (hrow.cellAt (K * 4 + j) (by omega)).trans (List.getElem?_eq_getElem (by rw [hkl]; omega))⟩
  obtain ⟨e0, e1, e2, e3⟩ := set4_own (v0 := .int .i64 y.id) (v1 := .int .i64 y.kind) (v2 := .string y.text) (v3 := .slice u y.kids.length cu) hex
  have key := kv_asm (G := G) (w := (((W8.setCell ⟨g, K * 4, none⟩ (.int .i64 y.id)).setCell ⟨g, K * 4 + 1, none⟩ (.int .i64 y.kind)).setCell ⟨g, K * 4 + 2, none⟩ (.string y.text)).setCell ⟨g, K * 4 + 3, none⟩ (.slice u y.kids.length cu)) (a := some ⟨g, 0, none⟩) (cap := c) (kids := ks.set K y) (fun i => (g, i * 4)) (by rw [hlen]; exact hcm.1) (by have := hcm.2; unfold maxLen at this; omega) (fun e => by cases e) (fun i hi => ⟨0, rfl, by simp⟩) (fun i hi => ⟨hGg, by rw [hss]; exact hgl.2⟩) (fun i hi => ?_)
  · rw [hlen] at key; exact key
  · have hin : i < ks.length := by rw [List.length_set] at hi; exact hi
    by_cases hiK : i = K
    · subst hiK
      rw [List.getElem_set_self]
      exact ⟨u, cu, e0, e1, e2, e3, hy.keep (by rw [hss]; exact Nat.le_refl _) (fun j hj _ => hbb j hj.2) (fun j hj _ => hj.1)⟩
    · rw [List.getElem_set_ne (fun e => hiK e.symm)]
      obtain ⟨v, hv⟩ : ∃ v, us[i]? = some v := ⟨_, List.getElem?_eq_getElem (by rw [hl]; exact hin)⟩
      have hg := kcs_get ks us i ks[i] v (List.getElem?_eq_getElem hin) hv
      have hs := hsub i ks[i] v (List.getElem?_eq_getElem hin) hv
      have hsl := hs.len
      have hc : ∀ j, j < 4 → ((((W8.setCell ⟨g, K * 4, none⟩ (.int .i64 y.id)).setCell ⟨g, K * 4 + 1, none⟩ (.int .i64 y.kind)).setCell ⟨g, K * 4 + 2, none⟩ (.string y.text)).setCell ⟨g, K * 4 + 3, none⟩ (.slice u y.kids.length cu)).cell? ⟨g, i * 4 + j, none⟩ = (kcs ks us)[i * 4 + j]? := fun j hj => by
        rw [set4_oth (by omega)]
        exact hrow.cellAt (i * 4 + j) (by omega)
      obtain ⟨v1, v2, v3⟩ := v
      have h3 := (hc 3 (by omega)).trans hg.2.2.2
      simp only at hs hsl h3
      rw [← hsl.1] at hs h3
      exact ⟨v1, v3, (hc 0 (by omega)).trans hg.1, (hc 1 (by omega)).trans hg.2.1, (hc 2 (by omega)).trans hg.2.2.1, h3, hs.keep (by rw [hss]; exact Nat.le_refl _) (fun j hj _ => hbb j hj.2) (fun j hj _ => hj.1)⟩
theorem sli_tail {w : World} {a : Option Addr} {cap : Nat} {k : Int} {z : List Int} (h : Sli .i64 w a cap (k :: z)) : ∃ pb po, a = some ⟨pb, po, none⟩ ∧ w.cell? ⟨pb, po, none⟩ = some (.int .i64 k) ∧ pb < w.heap.size ∧ Sli .i64 w (some ⟨pb, po + 1, none⟩) (cap - 1) z := by
  rcases h.cells with h0 | ⟨pb, po, rfl, hlt, hc⟩
  · cases h0
  · have hle := h.le
    simp only [List.length_cons] at hle
    refine ⟨pb, po, rfl, by simpa using hc 0 (by simp), hlt, by omega, by have := h.mx; omega, (fun e => by cases e), .inr ⟨pb, po + 1, rfl, hlt, fun j hj => ?_⟩⟩
    have := hc (j + 1) (by simp; omega)
    rw [List.getElem?_cons_succ] at this
    rw [show po + 1 + j = po + (j + 1) by omega]
    exact this
/-- What is known at the call of the kid: the tree, by and the result in blocks of their own. -/
structure RvW (w : World) (q : Nat) (ct cb : Array Value) (W : World) : Prop where
  kt : Blk W q 25 ct
  kb : Blk W (q + 1) 25 cb
  kr : Blk W (q + 2) 25 #[.int .i64 0, .int .i64 0, .string ⟨#[]⟩, .slice none 0 0]
  o : Below q w W
theorem RvW.on {w : World} {q : Nat} {ct cb : Array Value} {W W' : World} (h : RvW w q ct cb W) (hb : Below W.heap.size W W') : RvW w q ct cb W' :=
  ⟨h.kt.same (hb.block _ h.kt.lt), h.kb.same (hb.block _ h.kb.lt), h.kr.same (hb.block _ h.kr.lt), h.o.trans (hb.mono (by have := h.kt.lt; omega))⟩
theorem RvW.oth {w : World} {q : Nat} {ct cb : Array Value} {W : World} (h : RvW w q ct cb W) {r : Nat} (hr : q + 3 ≤ r) (v0 v1 v2 v3 : Value) : RvW w q ct cb ((((W.setCell ⟨r, 0, none⟩ v0).setCell ⟨r, 1, none⟩ v1).setCell ⟨r, 2, none⟩ v2).setCell ⟨r, 3, none⟩ v3) := by
  obtain ⟨hb, hs⟩ := set4 W r 0 v0 v1 v2 v3
  simp only [Nat.zero_add] at hb hs
  exact ⟨h.kt.same (hb _ (by omega)), h.kb.same (hb _ (by omega)), h.kr.same (hb _ (by omega)), (((h.o.setCell (p := ⟨r, 0, none⟩) (by show q ≤ r; omega) _).setCell (p := ⟨r, 1, none⟩) (by show q ≤ r; omega) _).setCell (p := ⟨r, 2, none⟩) (by show q ≤ r; omega) _).setCell (p := ⟨r, 3, none⟩) (by show q ≤ r; omega) _⟩
theorem RvW.new (w : World) (ct cb : Array Value) : RvW w w.heap.size ct cb (((w.alloc (.cells ct 25)).alloc (.cells cb 25)).alloc (.cells #[.int .i64 0, .int .i64 0, .string ⟨#[]⟩, .slice none 0 0] 25)) := by
  refine ⟨((Blk.new _ _ _).alloc _).alloc _, ?_, ?_, (((Below.refl _ _).alloc (Nat.le_refl _) _).alloc (by simp) _).alloc (by simp; omega) _⟩
  · have := Blk.new (w.alloc (.cells ct 25)) 25 cb
    rw [World.size_alloc] at this
    exact this.alloc _
  · have := Blk.new ((w.alloc (.cells ct 25)).alloc (.cells cb 25)) 25 #[.int .i64 0, .int .i64 0, .string ⟨#[]⟩, .slice none 0 0]
    rw [World.size_alloc, World.size_alloc] at this
    exact this
/-- The result's block, filled. -/
theorem RvW.fill {w : World} {q : Nat} {ct cb : Array Value} {W : World} (h : RvW w q ct cb W) (i k : Int) (x : ByteArray) (u : Option Addr) (n c : Nat) :
    Blk ((((W.setCell ⟨q + 2, 0, none⟩ (.int .i64 i)).setCell ⟨q + 2, 1, none⟩ (.int .i64 k)).setCell ⟨q + 2, 2, none⟩ (.string x)).setCell ⟨q + 2, 3, none⟩ (.slice u n c)) (q + 2) 25 #[.int .i64 i, .int .i64 k, .string x, .slice u n c] ∧
    Below q w ((((W.setCell ⟨q + 2, 0, none⟩ (.int .i64 i)).setCell ⟨q + 2, 1, none⟩ (.int .i64 k)).setCell ⟨q + 2, 2, none⟩ (.string x)).setCell ⟨q + 2, 3, none⟩ (.slice u n c)) :=
  ⟨by simpa using (((h.kr.set 0 (.int .i64 i)).set 1 (.int .i64 k)).set 2 (.string x)).set 3 (.slice u n c),
   (((h.o.setCell (p := ⟨q + 2, 0, none⟩) (by show q ≤ q + 2; omega) _).setCell (p := ⟨q + 2, 1, none⟩) (by show q ≤ q + 2; omega) _).setCell (p := ⟨q + 2, 2, none⟩) (by show q ≤ q + 2; omega) _).setCell (p := ⟨q + 2, 3, none⟩) (by show q ≤ q + 2; omega) _⟩

set_option maxRecDepth 100000 in
set_option maxHeartbeats 8000000 in
theorem rreplace_nil (t : Nd) (a : Option Addr) (n cap : Nat) (pa : Option Addr) (pc : Nat) (b : Nd) (ba : Option Addr) (bn bc : Nat) (B : Nat) (w : World) (hB : KV (fun j => j < B) w ba bn bc b.kids) :
    Calls Try.prog 19 #[ndv t a n cap, .slice pa 0 pc, ndv b ba bn bc] w (ReplP (fun j => j < B ∨ w.heap.size ≤ j) t [] b w) := by
  have hbl := hB.len.1
  have hfin : ReplP (fun j => j < B ∨ w.heap.size ≤ j) t [] b w (.returned (.tuple #[ndv b ba bn bc, .bool true])) (((w.alloc (.cells (ndc t a n cap) 25)).alloc (.cells (ndc b ba bn bc) 25)).alloc (.cells (ndc b ba bn bc) 25)) := by
    have hb : Below w.heap.size w (((w.alloc (.cells (ndc t a n cap) 25)).alloc (.cells (ndc b ba bn bc) 25)).alloc (.cells (ndc b ba bn bc) 25)) := (((Below.refl _ _).alloc (Nat.le_refl _) _).alloc (by simp) _).alloc (by simp; omega) _
    refine ⟨hb, .inl ⟨b, ba, bc, rfl, by rw [hbl], ?_⟩⟩
    rw [hbl]
    exact (hB.on hb).keep (Nat.le_refl _) (fun _ _ _ => rfl) (fun _ h _ => .inl h)
  unfold ndv ndc at *
  obtain ⟨id, hid⟩ : ∃ x, t.id = x := ⟨_, rfl⟩
  obtain ⟨kd, hkd⟩ : ∃ x, t.kind = x := ⟨_, rfl⟩
  obtain ⟨tx, htx⟩ : ∃ x, t.text = x := ⟨_, rfl⟩
  obtain ⟨bi, hbi⟩ : ∃ x, b.id = x := ⟨_, rfl⟩
  obtain ⟨bk, hbk⟩ : ∃ x, b.kind = x := ⟨_, rfl⟩
  obtain ⟨bt, hbt⟩ : ∃ x, b.text = x := ⟨_, rfl⟩
  rw [hid, hkd, htx, hbi, hbk, hbt] at hfin ⊢
  have HF := Lib.hid hfin
  clear hB hbl hfin hid hkd htx hbi hbk hbt
  go_enter Try.func19, Try.ntmps19
  go_wp2_with fail
  refine bodyPost_ret (v := .tuple #[.agg #[.int .i64 bi, .int .i64 bk, .string bt, .slice ba bn bc], .bool true]) (by simp [results, Try.results19, go_sem]) rfl HF.out

set_option maxRecDepth 100000 in
set_option maxHeartbeats 8000000 in
theorem rreplace_cons (GP : Nat → Prop) (k : Int) (z : List Int) (t : Nd) (a : Option Addr) (n cap : Nat) (pa : Option Addr) (pc : Nat) (b : Nd) (ba : Option Addr) (bn bc : Nat) (B : Nat) (w : World) (hGP : ∀ j, GP j ↔ (j < B ∨ w.heap.size ≤ j)) (hBw : B ≤ w.heap.size) (hK : KV (fun j => j < B) w a n cap t.kids) (hB : KV (fun j => j < B) w ba bn bc b.kids) (hc : t.cnt ≤ 100000) (hp : Sli .i64 w pa pc (k :: z)) (hz : (k :: z).length ≤ 100000)
    (hrec : ∀ (x : Nd) (u : Option Addr) (un uc : Nat) (qa : Option Addr) (qc : Nat) (W : World), x ∈ t.kids → B ≤ W.heap.size → KV (fun j => j < B) W u un uc x.kids → KV (fun j => j < B) W ba bn bc b.kids → Sli .i64 W qa qc z → Calls Try.prog 19 #[ndv x u un uc, .slice qa z.length qc, ndv b ba bn bc] W (ReplP (fun j => j < B ∨ W.heap.size ≤ j) x z b W)) :
    Calls Try.prog 19 #[ndv t a n cap, .slice pa (k :: z).length pc, ndv b ba bn bc] w (ReplP GP t (k :: z) b w) := by
  obtain ⟨pb, po, rfl, hpc, hpl, hpt⟩ := sli_tail hp
  obtain ⟨i4, hi4, iy0, iy1, iy2⟩ := info_parts infoNd
  obtain ⟨hkl, hnc, hcm⟩ := hK.len
  have hple := hp.le
  obtain ⟨A, hA⟩ : ∃ A, (if pc = 1 then some (⟨pb, po, none⟩ : Addr) else some ⟨pb, po + 1, none⟩) = A := ⟨_, rfl⟩
  have hpt : Sli .i64 w A (pc - 1) z := by
    rw [← hA]
    by_cases h : pc = 1
    · rw [if_pos h]
      have h0 : z.length = 0 := by rw [List.length_cons] at hple; omega
      exact ⟨by omega, by omega, (fun e => by cases e), .inl (List.eq_nil_of_length_eq_zero h0)⟩
    · rw [if_neg h]; exact hpt
  have hpmx := hp.mx
  obtain ⟨q, hq⟩ : ∃ q, w.heap.size = q := ⟨_, rfl⟩
  have hv := RvW.new w (ndc t a n cap) (ndc b ba bn bc)
  obtain ⟨W2, hW2⟩ : ∃ W, ((w.alloc (.cells (ndc t a n cap) 25)).alloc (.cells (ndc b ba bn bc) 25)).alloc (.cells #[.int .i64 0, .int .i64 0, .string ⟨#[]⟩, .slice none 0 0] 25) = W := ⟨_, rfl⟩
  rw [hW2, hq] at hv
  have hbw := hv.o
  have hs2 : W2.heap.size = q + 3 := by rw [← hW2, ← hq]; simp
  have hkn := t.kids_len
  have q1 : W2.cell? ⟨pb, po, none⟩ = some (.int .i64 k) := (hbw.cell (p := ⟨pb, po, none⟩) (by show pb < q; omega)).trans hpc
  obtain ⟨pn, hpn⟩ : ∃ m, z.length = m := ⟨_, rfl⟩
  rw [List.length_cons, hpn] at hple hz ⊢
  have e3 := hv.kt.cell 3
  have y0 := hv.kr.cell 0
  have y1 := hv.kr.cell 1
  have y2 := hv.kr.cell 2
  have y3 := hv.kr.cell 3
  have f0 := hv.kr.frozen 0
  have f1 := hv.kr.frozen 1
  have f2 := hv.kr.frozen 2
  have f3 := hv.kr.frozen 3
  unfold ndv ndc at *
  simp only [List.getElem?_toArray, List.getElem?_cons_zero, List.getElem?_cons_succ] at e3 y0 y1 y2 y3
  have q1e := q1
  rw [← hW2] at q1e
  have HNONE : Hid (replN t (k :: z) b = none → ∀ W, RvW w q #[.int .i64 t.id, .int .i64 t.kind, .string t.text, .slice a n cap] #[.int .i64 b.id, .int .i64 b.kind, .string b.text, .slice ba bn bc] W →
      Blk ((((W.setCell ⟨q + 2, 0, none⟩ (.int .i64 0)).setCell ⟨q + 2, 1, none⟩ (.int .i64 0)).setCell ⟨q + 2, 2, none⟩ (.string ⟨#[]⟩)).setCell ⟨q + 2, 3, none⟩ (.slice none 0 0)) (q + 2) 25 #[.int .i64 0, .int .i64 0, .string ⟨#[]⟩, .slice none 0 0] ∧
      ReplP GP t (k :: z) b w (.returned (.tuple #[.agg #[.int .i64 0, .int .i64 0, .string ⟨#[]⟩, .slice none 0 0], .bool false])) ((((W.setCell ⟨q + 2, 0, none⟩ (.int .i64 0)).setCell ⟨q + 2, 1, none⟩ (.int .i64 0)).setCell ⟨q + 2, 2, none⟩ (.string ⟨#[]⟩)).setCell ⟨q + 2, 3, none⟩ (.slice none 0 0))) := fun hr W hW => by
    obtain ⟨h1, h2⟩ := hW.fill 0 0 ⟨#[]⟩ none 0 0
    exact ⟨h1, by rw [hq]; exact h2, .inr ⟨hr, rfl⟩⟩
  have HNW : Hid (replN t (k :: z) b = none → ReplP GP t (k :: z) b w (.returned (.tuple #[.agg #[.int .i64 0, .int .i64 0, .string ⟨#[]⟩, .slice none 0 0], .bool false])) W2) := fun hr => ⟨by rw [hq]; exact hbw, .inr ⟨hr, rfl⟩⟩
  have HY : Hid (W2.cell? ⟨q + 1 + 1, 0, none⟩ = some (.int .i64 0) ∧ W2.cell? ⟨q + 1 + 1, 1, none⟩ = some (.int .i64 0) ∧ W2.cell? ⟨q + 1 + 1, 2, none⟩ = some (.string ⟨#[]⟩) ∧ W2.cell? ⟨q + 1 + 1, 3, none⟩ = some (.slice none 0 0)) := ⟨y0, y1, y2, y3⟩
  have HRN : Hid (¬ (0 ≤ k ∧ k.toNat < t.kids.length) → replN t (k :: z) b = none) := fun h => by rw [replN, dif_neg h]
  by_cases k0 : k < 0
  · have HF := Lib.hid (HNW.out (HRN.out (by omega)))
    have HW2 := Lib.hid hW2; have HQ := Lib.hid hq
    clear hK hB hrec hp hpt hv hW2 hq hpn hs2
    go_enter Try.func19, Try.ntmps19
    go_wp2_with fail
    rw [HW2.out, HQ.out]
    obtain ⟨z0, z1, z2, z3⟩ := HY.out
    refine bodyPost_ret (v := .tuple #[.agg #[.int .i64 0, .int .i64 0, .string ⟨#[]⟩, .slice none 0 0], .bool false]) (by simp [results, Try.results19, go_sem, z0, z1, z2, z3]) rfl HF.out
  · by_cases k1 : (n : Int) ≤ k
    · have HF := Lib.hid (HNW.out (HRN.out (by omega)))
      have HW2 := Lib.hid hW2; have HQ := Lib.hid hq
      clear hK hB hrec hp hpt hv hW2 hq hpn hs2
      go_enter Try.func19, Try.ntmps19
      go_wp2_with fail
      rw [HW2.out, HQ.out]
      obtain ⟨z0, z1, z2, z3⟩ := HY.out
      refine bodyPost_ret (v := .tuple #[.agg #[.int .i64 0, .int .i64 0, .string ⟨#[]⟩, .slice none 0 0], .bool false]) (by simp [results, Try.results19, go_sem, z0, z1, z2, z3]) rfl HF.out
    · obtain ⟨K, rfl⟩ : ∃ K : Nat, k = (K : Int) := ⟨k.toNat, by omega⟩
      have hKn : K < n := by omega
      have hKn2 : (K : Int) < (n : Int) := by omega
      have hKl : K < t.kids.length := by omega
      have k1' : ¬ (n : Int) ≤ (K : Int) := k1
      have k2' : 0 ≤ (K : Int) := by omega
      obtain ⟨kb, ko, u, un, uc, rfl, _, hkb, hku, hcell⟩ := hK.kid hKl
      have hRK : replN t ((K : Int) :: z) b = (replN t.kids[K] z b).map fun y => .mk t.id t.kind t.text (t.kids.set K y) := by
        rw [replN, dif_pos ⟨k2', by simpa using hKl⟩]; simp
      have HREC : Hid (∀ W, Below W2.heap.size W2 W → Calls Try.prog 19 #[.agg #[.int .i64 t.kids[K].id, .int .i64 t.kids[K].kind, .string t.kids[K].text, .slice u un uc], .slice A z.length (pc - 1), .agg #[.int .i64 b.id, .int .i64 b.kind, .string b.text, .slice ba bn bc]] W (ReplP (fun j => j < B ∨ W.heap.size ≤ j) t.kids[K] z b W)) := fun W hW => by
        have hb : Below w.heap.size w W := by rw [hq]; exact hbw.trans (hW.mono (by omega))
        exact hrec _ u un uc _ _ W (List.getElem_mem hKl) (by have := hb.size; omega) (hku.on hb) (hB.on hb) (hpt.below hb)
      have hd := hcell W2.drew (hbw.block kb (by omega))
      have HSB : Hid (∀ W, Below W2.heap.size W2 W → W.cell? ⟨q, 3, none⟩ = some (.slice (some ⟨kb, ko, none⟩) n cap) ∧ W.cell? ⟨q + 1, 0, none⟩ = some (.int .i64 b.id) ∧ W.cell? ⟨q + 1, 1, none⟩ = some (.int .i64 b.kind) ∧ W.cell? ⟨q + 1, 2, none⟩ = some (.string b.text) ∧ W.cell? ⟨q + 1, 3, none⟩ = some (.slice ba bn bc)) := fun W hW => by
        have kk := hv.on hW
        exact ⟨kk.kt.cell 3, kk.kb.cell 0, kk.kb.cell 1, kk.kb.cell 2, kk.kb.cell 3⟩
      have HSK : Hid (∀ W, Below W2.heap.size W2 W → W.cell? ⟨kb, ko + K * 4, none⟩ = some (.int .i64 t.kids[K].id) ∧ W.cell? ⟨kb, ko + K * 4 + 1, none⟩ = some (.int .i64 t.kids[K].kind) ∧ W.cell? ⟨kb, ko + K * 4 + 2, none⟩ = some (.string t.kids[K].text) ∧ W.cell? ⟨kb, ko + K * 4 + 3, none⟩ = some (.slice u un uc)) := fun W hW => hcell W ((hW.block kb (by omega)).trans (hbw.block kb (by omega)))
      obtain ⟨x, hx⟩ : ∃ x, t.kids[K] = x := ⟨_, rfl⟩
      rw [hx] at hRK
      simp only [hx] at HREC HSK
      rw [hpn] at HREC
      obtain ⟨xi, hxi⟩ : ∃ y, x.id = y := ⟨_, rfl⟩
      obtain ⟨xk, hxk⟩ : ∃ y, x.kind = y := ⟨_, rfl⟩
      obtain ⟨xt, hxt⟩ : ∃ y, x.text = y := ⟨_, rfl⟩
      rw [hxi, hxk, hxt] at HREC HSK
      obtain ⟨bi, hbi⟩ : ∃ y, b.id = y := ⟨_, rfl⟩
      obtain ⟨bk, hbk⟩ : ∃ y, b.kind = y := ⟨_, rfl⟩
      obtain ⟨bt, hbt⟩ : ∃ y, b.text = y := ⟨_, rfl⟩
      obtain ⟨ti, hti⟩ : ∃ y, t.id = y := ⟨_, rfl⟩
      obtain ⟨tk, htk⟩ : ∃ y, t.kind = y := ⟨_, rfl⟩
      obtain ⟨tt, htt⟩ : ∃ y, t.text = y := ⟨_, rfl⟩
      simp only [hbi, hbk, hbt, hti, htk, htt] at hW2 hv q1e HREC HSB HNONE hRK ⊢
      have HSX : Hid (∀ V, Below W2.heap.size W2 V → V.cell? ⟨q, 3, none⟩ = some (.slice (some ⟨kb, ko, none⟩) n cap) ∧ V.cell? ⟨q + 1, 0, none⟩ = some (.int .i64 bi) ∧ V.cell? ⟨q + 1, 1, none⟩ = some (.int .i64 bk) ∧ V.cell? ⟨q + 1, 2, none⟩ = some (.string bt) ∧ V.cell? ⟨q + 1, 3, none⟩ = some (.slice ba bn bc) ∧ V.cell? ⟨kb, ko + K * 4, none⟩ = some (.int .i64 xi) ∧ V.cell? ⟨kb, ko + K * 4 + 1, none⟩ = some (.int .i64 xk) ∧ V.cell? ⟨kb, ko + K * 4 + 2, none⟩ = some (.string xt) ∧ V.cell? ⟨kb, ko + K * 4 + 3, none⟩ = some (.slice u un uc)) := fun V hV => by
        obtain ⟨h1, h2, h3, h4, h5⟩ := HSB.out V hV
        exact ⟨h1, h2, h3, h4, h5, HSK.out V hV⟩
      have h1p : (1 : Int) ≤ (pn : Int) + 1 := by omega
      have hne1 : ¬ (q + 1 + 1 = W2.heap.size) := by omega
      have hne2 : ¬ (W2.heap.size = q + 1 + 1) := by omega
      have HW2 := Lib.hid hW2; have HQ := Lib.hid hq; have HV := Lib.hid hv; have HRK := Lib.hid hRK; have HKV := Lib.hid hK; have HS2 := Lib.hid hs2; have HKL := Lib.hid hkl; have HPW := Lib.hid hbw; have HBW := Lib.hid hBw; have HGP := Lib.hid hGP
      have HKN : Hid (n ≤ 100000) := by show _ ≤ _; omega
      clear hGP hK hB hrec hp hpt hv hW2 hq hpn hs2 hcell hd hx hxi hxk hxt hRK hku k0 k1 hbi hbk hbt hti htk htt
      go_enter Try.func19, Try.ntmps19
      go_wp2_with fail
      rw [HW2.out, HQ.out]
      cases hr : replN x z b with
      | none =>
        have HRECN : Hid (∀ W, Below W2.heap.size W2 W → Calls Try.prog 19 #[.agg #[.int .i64 xi, .int .i64 xk, .string xt, .slice u un uc], .slice A pn (pc - 1), .agg #[.int .i64 bi, .int .i64 bk, .string bt, .slice ba bn bc]] W fun e w' => e = .returned (.tuple #[.agg #[.int .i64 0, .int .i64 0, .string ⟨#[]⟩, .slice none 0 0], .bool false]) ∧ Below W.heap.size W w') := fun W hW => (HREC.out W hW).mono (by
          rintro e w' ⟨hb, ⟨y, u', c', h1, _⟩ | ⟨_, h1⟩⟩
          · rw [hr] at h1; cases h1
          · exact ⟨h1, hb⟩)
        refine wp_region_held (S := (fun V : World => V.cell? ⟨q, 3, none⟩ = some (.slice (some ⟨kb, ko, none⟩) n cap) ∧ V.cell? ⟨q + 1, 0, none⟩ = some (.int .i64 bi) ∧ V.cell? ⟨q + 1, 1, none⟩ = some (.int .i64 bk) ∧ V.cell? ⟨q + 1, 2, none⟩ = some (.string bt) ∧ V.cell? ⟨q + 1, 3, none⟩ = some (.slice ba bn bc) ∧ V.cell? ⟨kb, ko + K * 4, none⟩ = some (.int .i64 xi) ∧ V.cell? ⟨kb, ko + K * 4 + 1, none⟩ = some (.int .i64 xk) ∧ V.cell? ⟨kb, ko + K * 4 + 2, none⟩ = some (.string xt) ∧ V.cell? ⟨kb, ko + K * 4 + 3, none⟩ = some (.slice u un uc))) (by kernel_rfl) ?_
        change wpAnyH _ _ _ _ _ _ _ _ (World.drew _)
        have hS0 := HSX.out W2.drew (Below.refl _ _).drew
        refine takeH (i := 0) (d := (some 30)) (v := ?_) rfl rfl (by kernel_rfl) (by kernel_rfl) (by kernel_rfl) (fun _ _ _ h => h) (Or.inl ⟨by kernel_rfl, ?_⟩) hS0 ?_
        rotate_left
        focus (intro w hSw; (try dsimp only at hSw); go_simp; first | done | with_reducible rfl)
        try simp only [Act.put]
        try simp only [List.setIfInBounds_toArray]
        try simp only [List.set_cons_succ]
        try simp only [List.set_cons_zero]
        refine takeH (i := 1) (d := (some 31)) (v := ?_) rfl rfl (by kernel_rfl) (by kernel_rfl) (by kernel_rfl) (fun _ _ _ h => h) (Or.inl ⟨by kernel_rfl, ?_⟩) hS0 ?_
        rotate_left
        focus (intro w hSw; (try dsimp only at hSw); go_simp; first | done | with_reducible rfl)
        try simp only [Act.put]
        try simp only [List.setIfInBounds_toArray]
        try simp only [List.set_cons_succ]
        try simp only [List.set_cons_zero]
        refine takeH (i := 2) (d := (some 32)) (v := ?_) rfl rfl (by kernel_rfl) (by kernel_rfl) (by kernel_rfl) (fun _ _ _ h => h) (Or.inl ⟨by kernel_rfl, ?_⟩) hS0 ?_
        rotate_left
        focus (intro w hSw; (try dsimp only at hSw); go_simp; first | done | with_reducible rfl)
        try simp only [Act.put]
        try simp only [List.setIfInBounds_toArray]
        try simp only [List.set_cons_succ]
        try simp only [List.set_cons_zero]
        refine takeH (i := 3) (d := (some 33)) (v := ?_) rfl rfl (by kernel_rfl) (by kernel_rfl) (by kernel_rfl) (fun _ _ _ h => h) (Or.inl ⟨by kernel_rfl, ?_⟩) hS0 ?_
        rotate_left
        focus (intro w hSw; (try dsimp only at hSw); go_simp; first | done | with_reducible rfl)
        try simp only [Act.put]
        try simp only [List.setIfInBounds_toArray]
        try simp only [List.set_cons_succ]
        try simp only [List.set_cons_zero]
        refine takeH (i := 4) (d := (some 34)) (v := ?_) rfl rfl (by kernel_rfl) (by kernel_rfl) (by kernel_rfl) (fun _ _ _ h => h) (Or.inl ⟨by kernel_rfl, ?_⟩) hS0 ?_
        rotate_left
        focus (intro w hSw; (try dsimp only at hSw); go_simp; first | done | with_reducible rfl)
        try simp only [Act.put]
        try simp only [List.setIfInBounds_toArray]
        try simp only [List.set_cons_succ]
        try simp only [List.set_cons_zero]
        refine takeH (i := 5) (d := (some 35)) (v := ?_) rfl rfl (by kernel_rfl) (by kernel_rfl) (by kernel_rfl) (fun _ _ _ h => h) (Or.inl ⟨by kernel_rfl, ?_⟩) hS0 ?_
        rotate_left
        focus (intro w hSw; (try dsimp only at hSw); go_simp; first | done | with_reducible rfl)
        try simp only [Act.put]
        try simp only [List.setIfInBounds_toArray]
        try simp only [List.set_cons_succ]
        try simp only [List.set_cons_zero]
        refine takeH (i := 6) (d := (some 36)) (v := ?_) rfl rfl (by kernel_rfl) (by kernel_rfl) (by kernel_rfl) (fun _ _ _ h => h) (Or.inl ⟨by kernel_rfl, ?_⟩) hS0 ?_
        rotate_left
        focus (intro w hSw; (try dsimp only at hSw); go_simp; first | done | with_reducible rfl)
        try simp only [Act.put]
        try simp only [List.setIfInBounds_toArray]
        try simp only [List.set_cons_succ]
        try simp only [List.set_cons_zero]
        refine takeH (i := 7) (d := (some 37)) (v := ?_) rfl rfl (by kernel_rfl) (by kernel_rfl) (by kernel_rfl) (fun _ _ _ h => h) (Or.inl ⟨by kernel_rfl, ?_⟩) hS0 ?_
        rotate_left
        focus (intro w hSw; (try dsimp only at hSw); go_simp; first | done | with_reducible rfl)
        try simp only [Act.put]
        try simp only [List.setIfInBounds_toArray]
        try simp only [List.set_cons_succ]
        try simp only [List.set_cons_zero]
        refine wpAnyH_ready (rs := [8, 12]) (by kernel_rfl) (by simp) ?_
        refine AllReadyH.cons (o := _) rfl (fun K' hK => ?_) (AllReadyH.cons (o := _) rfl (fun K' hK => ?_) AllReadyH.nil)
        · go_simp
          go_at_call 19
          refine (HRECN.out W2.drew (Below.refl _ _).drew).mono ?_
          rintro e w6 ⟨rfl, b6⟩
          have b26 : Below W2.heap.size W2 w6 := (Below.refl _ W2).drew.trans b6
          have hS6 := HSX.out w6 b26
          try go_simp
          refine hK.out _ _ hS6 (fun hHeld => ?_)
          clear hK K' hHeld
          try simp only [Act.put]
          try simp only [List.setIfInBounds_toArray]
          try simp only [List.set_cons_succ]
          try simp only [List.set_cons_zero]
          refine takeH (i := 9) (d := (some 29)) (v := ?_) rfl rfl (by kernel_rfl) (by kernel_rfl) (by kernel_rfl) (fun _ _ _ h => h) (Or.inl ⟨by kernel_rfl, ?_⟩) hS6 ?_
          rotate_left
          focus (intro w hSw; (try dsimp only at hSw); go_simp; first | done | with_reducible rfl)
          try simp only [Act.put]
          try simp only [List.setIfInBounds_toArray]
          try simp only [List.set_cons_succ]
          try simp only [List.set_cons_zero]
          refine takeH (i := 10) (d := (some 39)) (v := ?_) rfl rfl (by kernel_rfl) (by kernel_rfl) (by kernel_rfl) (fun _ _ _ h => h) (Or.inl ⟨by kernel_rfl, ?_⟩) hS6 ?_
          rotate_left
          focus (intro w hSw; (try dsimp only at hSw); go_simp; first | done | with_reducible rfl)
          try simp only [Act.put]
          try simp only [List.setIfInBounds_toArray]
          try simp only [List.set_cons_succ]
          try simp only [List.set_cons_zero]
          refine takeH (i := 11) (d := (some 40)) (v := ?_) rfl rfl (by kernel_rfl) (by kernel_rfl) (by kernel_rfl) (fun _ _ _ h => h) (Or.inl ⟨by kernel_rfl, ?_⟩) hS6 ?_
          rotate_left
          focus (intro w hSw; (try dsimp only at hSw); go_simp; first | done | with_reducible rfl)
          try simp only [Act.put]
          try simp only [List.setIfInBounds_toArray]
          try simp only [List.set_cons_succ]
          try simp only [List.set_cons_zero]
          refine wpAnyH_ready (rs := [12]) (by kernel_rfl) (by simp) ?_
          refine AllReadyH.cons (o := _) rfl (fun K' hK => ?_) AllReadyH.nil
          go_simp
          have b27 : Below W2.heap.size W2 (w6.alloc (.cells #[.int .i64 0, .int .i64 0, .string ⟨#[]⟩, .slice none 0 0] 25)) := b26.alloc b26.size _
          have hS7 := HSX.out _ b27
          refine hK.out _ _ hS7 (fun hHeld => ?_)
          clear hK K' hHeld
          try simp only [Act.put]
          try simp only [List.setIfInBounds_toArray]
          try simp only [List.set_cons_succ]
          try simp only [List.set_cons_zero]
          refine wpAnyH_ready (rs := [13]) (by kernel_rfl) (by simp) ?_
          refine AllReadyH.cons (o := _) rfl (fun K' hK => ?_) AllReadyH.nil
          go_simp
          obtain ⟨W8, hW8⟩ : ∃ W, w6.alloc (.cells #[.int .i64 0, .int .i64 0, .string ⟨#[]⟩, .slice none 0 0] 25) = W := ⟨_, rfl⟩
          have b28 : Below W2.heap.size W2 W8 := by rw [← hW8]; exact b26.alloc b26.size _
          rw [hW8]
          have HV8 := Lib.hid (HV.out.on b28)
          have hS8 := HSX.out W8 b28
          refine hK.out _ _ hS8 (fun hHeld => ?_)
          clear hK K' hHeld
          try simp only [Act.put]
          try simp only [List.setIfInBounds_toArray]
          try simp only [List.set_cons_succ]
          try simp only [List.set_cons_zero]
          refine takeH (i := 14) (d := (some 10)) (v := ?_) rfl rfl (by kernel_rfl) (by kernel_rfl) (by kernel_rfl) (fun _ _ _ h => h) (Or.inl ⟨by kernel_rfl, ?_⟩) hS8 ?_
          rotate_left
          focus (intro w hSw; (try dsimp only at hSw); go_simp; first | done | with_reducible rfl)
          try simp only [Act.put]
          try simp only [List.setIfInBounds_toArray]
          try simp only [List.set_cons_succ]
          try simp only [List.set_cons_zero]
          refine wpAnyH_done (by kernel_rfl) ?_ _
          obtain ⟨hz8, hf8⟩ := HNONE.out (by rw [HRK.out, hr]; rfl) W8 HV8.out
          have HZ := Lib.hid hz8; have HF := Lib.hid hf8
          have x0 : W8.cell? ⟨q + 1 + 1, 0, none⟩ = some (.int .i64 0) := HV8.out.kr.cell 0
          have g0 : W8.frozen? ⟨q + 1 + 1, 0, none⟩ = false := HV8.out.kr.frozen 0
          have x1 : W8.cell? ⟨q + 1 + 1, 1, none⟩ = some (.int .i64 0) := HV8.out.kr.cell 1
          have g1 : W8.frozen? ⟨q + 1 + 1, 1, none⟩ = false := HV8.out.kr.frozen 1
          have x2 : W8.cell? ⟨q + 1 + 1, 2, none⟩ = some (.string ⟨#[]⟩) := HV8.out.kr.cell 2
          have g2 : W8.frozen? ⟨q + 1 + 1, 2, none⟩ = false := HV8.out.kr.frozen 2
          have x3 : W8.cell? ⟨q + 1 + 1, 3, none⟩ = some (.slice none 0 0) := HV8.out.kr.cell 3
          have g3 : W8.frozen? ⟨q + 1 + 1, 3, none⟩ = false := HV8.out.kr.frozen 3
          clear hz8 hf8 b6 b26 hS6 hS0 hS8 b28 b27 hS7 hW8
          go_wp2_with fail
          have z0 : ((((W8.setCell ⟨q + 1 + 1, 0, none⟩ (.int .i64 0)).setCell ⟨q + 1 + 1, 1, none⟩ (.int .i64 0)).setCell ⟨q + 1 + 1, 2, none⟩ (.string ⟨#[]⟩)).setCell ⟨q + 1 + 1, 3, none⟩ (.slice none 0 0)).cell? ⟨q + 1 + 1, 0, none⟩ = some (.int .i64 0) := HZ.out.cell 0
          have z1 : ((((W8.setCell ⟨q + 1 + 1, 0, none⟩ (.int .i64 0)).setCell ⟨q + 1 + 1, 1, none⟩ (.int .i64 0)).setCell ⟨q + 1 + 1, 2, none⟩ (.string ⟨#[]⟩)).setCell ⟨q + 1 + 1, 3, none⟩ (.slice none 0 0)).cell? ⟨q + 1 + 1, 1, none⟩ = some (.int .i64 0) := HZ.out.cell 1
          have z2 : ((((W8.setCell ⟨q + 1 + 1, 0, none⟩ (.int .i64 0)).setCell ⟨q + 1 + 1, 1, none⟩ (.int .i64 0)).setCell ⟨q + 1 + 1, 2, none⟩ (.string ⟨#[]⟩)).setCell ⟨q + 1 + 1, 3, none⟩ (.slice none 0 0)).cell? ⟨q + 1 + 1, 2, none⟩ = some (.string ⟨#[]⟩) := HZ.out.cell 2
          have z3 : ((((W8.setCell ⟨q + 1 + 1, 0, none⟩ (.int .i64 0)).setCell ⟨q + 1 + 1, 1, none⟩ (.int .i64 0)).setCell ⟨q + 1 + 1, 2, none⟩ (.string ⟨#[]⟩)).setCell ⟨q + 1 + 1, 3, none⟩ (.slice none 0 0)).cell? ⟨q + 1 + 1, 3, none⟩ = some (.slice none 0 0) := HZ.out.cell 3
          refine bodyPost_ret (v := .tuple #[.agg #[.int .i64 0, .int .i64 0, .string ⟨#[]⟩, .slice none 0 0], .bool false]) (by simp [results, Try.results19, go_sem, z0, z1, z2, z3]) rfl HF.out
        · go_simp
          have b25 : Below W2.heap.size W2 (W2.drew.alloc (.cells #[.int .i64 0, .int .i64 0, .string ⟨#[]⟩, .slice none 0 0] 25)) := (Below.refl _ _).drew.alloc (Nat.le_refl _) _
          have hS5 := HSX.out _ b25
          refine hK.out _ _ hS5 (fun hHeld => ?_)
          clear hK K' hHeld
          try simp only [Act.put]
          try simp only [List.setIfInBounds_toArray]
          try simp only [List.set_cons_succ]
          try simp only [List.set_cons_zero]
          refine wpAnyH_ready (rs := [8]) (by kernel_rfl) (by simp) ?_
          refine AllReadyH.cons (o := _) rfl (fun K' hK => ?_) AllReadyH.nil
          go_simp
          go_at_call 19
          refine (HRECN.out _ b25).mono ?_
          rintro e w6 ⟨rfl, b6⟩
          have b26 : Below W2.heap.size W2 w6 := b25.trans (b6.mono b25.size)
          have hS6 := HSX.out w6 b26
          have kr : Blk w6 W2.heap.size 25 #[.int .i64 0, .int .i64 0, .string ⟨#[]⟩, .slice none 0 0] := (Blk.new W2.drew 25 #[.int .i64 0, .int .i64 0, .string ⟨#[]⟩, .slice none 0 0]).same (b6.block W2.heap.size (by simp))
          try go_simp
          refine hK.out _ _ hS6 (fun hHeld => ?_)
          clear hK K' hHeld
          try simp only [Act.put]
          try simp only [List.setIfInBounds_toArray]
          try simp only [List.set_cons_succ]
          try simp only [List.set_cons_zero]
          refine takeH (i := 9) (d := (some 29)) (v := ?_) rfl rfl (by kernel_rfl) (by kernel_rfl) (by kernel_rfl) (fun _ _ _ h => h) (Or.inl ⟨by kernel_rfl, ?_⟩) hS6 ?_
          rotate_left
          focus (intro w hSw; (try dsimp only at hSw); go_simp; first | done | with_reducible rfl)
          try simp only [Act.put]
          try simp only [List.setIfInBounds_toArray]
          try simp only [List.set_cons_succ]
          try simp only [List.set_cons_zero]
          refine takeH (i := 10) (d := (some 39)) (v := ?_) rfl rfl (by kernel_rfl) (by kernel_rfl) (by kernel_rfl) (fun _ _ _ h => h) (Or.inl ⟨by kernel_rfl, ?_⟩) hS6 ?_
          rotate_left
          focus (intro w hSw; (try dsimp only at hSw); go_simp; first | done | with_reducible rfl)
          try simp only [Act.put]
          try simp only [List.setIfInBounds_toArray]
          try simp only [List.set_cons_succ]
          try simp only [List.set_cons_zero]
          refine takeH (i := 11) (d := (some 40)) (v := ?_) rfl rfl (by kernel_rfl) (by kernel_rfl) (by kernel_rfl) (fun _ _ _ h => h) (Or.inl ⟨by kernel_rfl, ?_⟩) hS6 ?_
          rotate_left
          focus (intro w hSw; (try dsimp only at hSw); go_simp; first | done | with_reducible rfl)
          try simp only [Act.put]
          try simp only [List.setIfInBounds_toArray]
          try simp only [List.set_cons_succ]
          try simp only [List.set_cons_zero]
          refine wpAnyH_ready (rs := [13]) (by kernel_rfl) (by simp) ?_
          refine AllReadyH.cons (o := _) rfl (fun K' hK => ?_) AllReadyH.nil
          have r0 := kr.cell 0
          have r1 := kr.cell 1
          have r2 := kr.cell 2
          have r3 := kr.cell 3
          have s0 := kr.frozen 0
          have s1 := kr.frozen 1
          have s2 := kr.frozen 2
          have s3 := kr.frozen 3
          simp only [List.getElem?_toArray, List.getElem?_cons_zero, List.getElem?_cons_succ] at r0 r1 r2 r3
          go_simp
          obtain ⟨W8, hW8⟩ : ∃ W, ((((w6.setCell ⟨W2.heap.size, 0, none⟩ (.int .i64 0)).setCell ⟨W2.heap.size, 1, none⟩ (.int .i64 0)).setCell ⟨W2.heap.size, 2, none⟩ (.string ⟨#[]⟩)).setCell ⟨W2.heap.size, 3, none⟩ (.slice none 0 0)) = W := ⟨_, rfl⟩
          have b28 : Below W2.heap.size W2 W8 := by rw [← hW8]; exact (((b26.setCell (p := ⟨W2.heap.size, 0, none⟩) (Nat.le_refl _) _).setCell (p := ⟨W2.heap.size, 1, none⟩) (Nat.le_refl _) _).setCell (p := ⟨W2.heap.size, 2, none⟩) (Nat.le_refl _) _).setCell (p := ⟨W2.heap.size, 3, none⟩) (Nat.le_refl _) _
          rw [hW8]
          have HV8 := Lib.hid (HV.out.on b28)
          have hS8 := HSX.out W8 b28
          refine hK.out _ _ hS8 (fun hHeld => ?_)
          clear hK K' hHeld
          try simp only [Act.put]
          try simp only [List.setIfInBounds_toArray]
          try simp only [List.set_cons_succ]
          try simp only [List.set_cons_zero]
          refine takeH (i := 14) (d := (some 10)) (v := ?_) rfl rfl (by kernel_rfl) (by kernel_rfl) (by kernel_rfl) (fun _ _ _ h => h) (Or.inl ⟨by kernel_rfl, ?_⟩) hS8 ?_
          rotate_left
          focus (intro w hSw; (try dsimp only at hSw); go_simp; first | done | with_reducible rfl)
          try simp only [Act.put]
          try simp only [List.setIfInBounds_toArray]
          try simp only [List.set_cons_succ]
          try simp only [List.set_cons_zero]
          refine wpAnyH_done (by kernel_rfl) ?_ _
          obtain ⟨hz8, hf8⟩ := HNONE.out (by rw [HRK.out, hr]; rfl) W8 HV8.out
          have HZ := Lib.hid hz8; have HF := Lib.hid hf8
          have x0 : W8.cell? ⟨q + 1 + 1, 0, none⟩ = some (.int .i64 0) := HV8.out.kr.cell 0
          have g0 : W8.frozen? ⟨q + 1 + 1, 0, none⟩ = false := HV8.out.kr.frozen 0
          have x1 : W8.cell? ⟨q + 1 + 1, 1, none⟩ = some (.int .i64 0) := HV8.out.kr.cell 1
          have g1 : W8.frozen? ⟨q + 1 + 1, 1, none⟩ = false := HV8.out.kr.frozen 1
          have x2 : W8.cell? ⟨q + 1 + 1, 2, none⟩ = some (.string ⟨#[]⟩) := HV8.out.kr.cell 2
          have g2 : W8.frozen? ⟨q + 1 + 1, 2, none⟩ = false := HV8.out.kr.frozen 2
          have x3 : W8.cell? ⟨q + 1 + 1, 3, none⟩ = some (.slice none 0 0) := HV8.out.kr.cell 3
          have g3 : W8.frozen? ⟨q + 1 + 1, 3, none⟩ = false := HV8.out.kr.frozen 3
          clear hz8 hf8 b6 b26 hS6 hS0 hS8 b28 b25 hS5 kr r0 r1 r2 r3 s0 s1 s2 s3 hW8
          go_wp2_with fail
          have z0 : ((((W8.setCell ⟨q + 1 + 1, 0, none⟩ (.int .i64 0)).setCell ⟨q + 1 + 1, 1, none⟩ (.int .i64 0)).setCell ⟨q + 1 + 1, 2, none⟩ (.string ⟨#[]⟩)).setCell ⟨q + 1 + 1, 3, none⟩ (.slice none 0 0)).cell? ⟨q + 1 + 1, 0, none⟩ = some (.int .i64 0) := HZ.out.cell 0
          have z1 : ((((W8.setCell ⟨q + 1 + 1, 0, none⟩ (.int .i64 0)).setCell ⟨q + 1 + 1, 1, none⟩ (.int .i64 0)).setCell ⟨q + 1 + 1, 2, none⟩ (.string ⟨#[]⟩)).setCell ⟨q + 1 + 1, 3, none⟩ (.slice none 0 0)).cell? ⟨q + 1 + 1, 1, none⟩ = some (.int .i64 0) := HZ.out.cell 1
          have z2 : ((((W8.setCell ⟨q + 1 + 1, 0, none⟩ (.int .i64 0)).setCell ⟨q + 1 + 1, 1, none⟩ (.int .i64 0)).setCell ⟨q + 1 + 1, 2, none⟩ (.string ⟨#[]⟩)).setCell ⟨q + 1 + 1, 3, none⟩ (.slice none 0 0)).cell? ⟨q + 1 + 1, 2, none⟩ = some (.string ⟨#[]⟩) := HZ.out.cell 2
          have z3 : ((((W8.setCell ⟨q + 1 + 1, 0, none⟩ (.int .i64 0)).setCell ⟨q + 1 + 1, 1, none⟩ (.int .i64 0)).setCell ⟨q + 1 + 1, 2, none⟩ (.string ⟨#[]⟩)).setCell ⟨q + 1 + 1, 3, none⟩ (.slice none 0 0)).cell? ⟨q + 1 + 1, 3, none⟩ = some (.slice none 0 0) := HZ.out.cell 3
          refine bodyPost_ret (v := .tuple #[.agg #[.int .i64 0, .int .i64 0, .string ⟨#[]⟩, .slice none 0 0], .bool false]) (by simp [results, Try.results19, go_sem, z0, z1, z2, z3]) rfl HF.out
      | some y => 
        have HRECS : Hid (∀ W, Below W2.heap.size W2 W → Calls Try.prog 19 #[.agg #[.int .i64 xi, .int .i64 xk, .string xt, .slice u un uc], .slice A pn (pc - 1), .agg #[.int .i64 bi, .int .i64 bk, .string bt, .slice ba bn bc]] W fun e w' => ∃ uy cy, e = .returned (.tuple #[.agg #[.int .i64 y.id, .int .i64 y.kind, .string y.text, .slice uy y.kids.length cy], .bool true]) ∧ KV (fun j => j < B ∨ W.heap.size ≤ j) w' uy y.kids.length cy y.kids ∧ Below W.heap.size W w') := fun W hW => (HREC.out W hW).mono (by
          rintro e w' ⟨hb, ⟨y2, u', c', h1, h2, h3⟩ | ⟨h1, _⟩⟩
          · rw [hr] at h1; cases h1
            exact ⟨u', c', h2, h3, hb⟩
          · rw [hr] at h1; cases h1)
        have HRY : Hid (replN t ((K : Int) :: z) b = some (.mk ti tk tt (t.kids.set K y))) := by
          show _ = _
          rw [HRK.out, hr]; rfl
        obtain ⟨ks, hks⟩ : ∃ l, y.kids = l := ⟨_, rfl⟩
        obtain ⟨yi, hyi⟩ : ∃ l, y.id = l := ⟨_, rfl⟩
        obtain ⟨yk, hyk⟩ : ∃ l, y.kind = l := ⟨_, rfl⟩
        obtain ⟨yt, hyt⟩ : ∃ l, y.text = l := ⟨_, rfl⟩
        obtain ⟨ny, hny⟩ : ∃ l, y.kids.length = l := ⟨_, rfl⟩
        have HYN := Lib.hid (And.intro hyi (And.intro hyk (And.intro hyt hny)))
        rw [hyi, hyk, hyt, hny] at HRECS
        clear hks hyi hyk hyt hny
        refine wp_region_held (S := (fun V : World => V.cell? ⟨q, 3, none⟩ = some (.slice (some ⟨kb, ko, none⟩) n cap) ∧ V.cell? ⟨q + 1, 0, none⟩ = some (.int .i64 bi) ∧ V.cell? ⟨q + 1, 1, none⟩ = some (.int .i64 bk) ∧ V.cell? ⟨q + 1, 2, none⟩ = some (.string bt) ∧ V.cell? ⟨q + 1, 3, none⟩ = some (.slice ba bn bc) ∧ V.cell? ⟨kb, ko + K * 4, none⟩ = some (.int .i64 xi) ∧ V.cell? ⟨kb, ko + K * 4 + 1, none⟩ = some (.int .i64 xk) ∧ V.cell? ⟨kb, ko + K * 4 + 2, none⟩ = some (.string xt) ∧ V.cell? ⟨kb, ko + K * 4 + 3, none⟩ = some (.slice u un uc))) (by kernel_rfl) ?_
        change wpAnyH _ _ _ _ _ _ _ _ (World.drew _)
        have hS0 := HSX.out W2.drew (Below.refl _ _).drew
        refine takeH (i := 0) (d := (some 30)) (v := ?_) rfl rfl (by kernel_rfl) (by kernel_rfl) (by kernel_rfl) (fun _ _ _ h => h) (Or.inl ⟨by kernel_rfl, ?_⟩) hS0 ?_
        rotate_left
        focus (intro w hSw; (try dsimp only at hSw); go_simp; first | done | with_reducible rfl)
        try simp only [Act.put]
        try simp only [List.setIfInBounds_toArray]
        try simp only [List.set_cons_succ]
        try simp only [List.set_cons_zero]
        refine takeH (i := 1) (d := (some 31)) (v := ?_) rfl rfl (by kernel_rfl) (by kernel_rfl) (by kernel_rfl) (fun _ _ _ h => h) (Or.inl ⟨by kernel_rfl, ?_⟩) hS0 ?_
        rotate_left
        focus (intro w hSw; (try dsimp only at hSw); go_simp; first | done | with_reducible rfl)
        try simp only [Act.put]
        try simp only [List.setIfInBounds_toArray]
        try simp only [List.set_cons_succ]
        try simp only [List.set_cons_zero]
        refine takeH (i := 2) (d := (some 32)) (v := ?_) rfl rfl (by kernel_rfl) (by kernel_rfl) (by kernel_rfl) (fun _ _ _ h => h) (Or.inl ⟨by kernel_rfl, ?_⟩) hS0 ?_
        rotate_left
        focus (intro w hSw; (try dsimp only at hSw); go_simp; first | done | with_reducible rfl)
        try simp only [Act.put]
        try simp only [List.setIfInBounds_toArray]
        try simp only [List.set_cons_succ]
        try simp only [List.set_cons_zero]
        refine takeH (i := 3) (d := (some 33)) (v := ?_) rfl rfl (by kernel_rfl) (by kernel_rfl) (by kernel_rfl) (fun _ _ _ h => h) (Or.inl ⟨by kernel_rfl, ?_⟩) hS0 ?_
        rotate_left
        focus (intro w hSw; (try dsimp only at hSw); go_simp; first | done | with_reducible rfl)
        try simp only [Act.put]
        try simp only [List.setIfInBounds_toArray]
        try simp only [List.set_cons_succ]
        try simp only [List.set_cons_zero]
        refine takeH (i := 4) (d := (some 34)) (v := ?_) rfl rfl (by kernel_rfl) (by kernel_rfl) (by kernel_rfl) (fun _ _ _ h => h) (Or.inl ⟨by kernel_rfl, ?_⟩) hS0 ?_
        rotate_left
        focus (intro w hSw; (try dsimp only at hSw); go_simp; first | done | with_reducible rfl)
        try simp only [Act.put]
        try simp only [List.setIfInBounds_toArray]
        try simp only [List.set_cons_succ]
        try simp only [List.set_cons_zero]
        refine takeH (i := 5) (d := (some 35)) (v := ?_) rfl rfl (by kernel_rfl) (by kernel_rfl) (by kernel_rfl) (fun _ _ _ h => h) (Or.inl ⟨by kernel_rfl, ?_⟩) hS0 ?_
        rotate_left
        focus (intro w hSw; (try dsimp only at hSw); go_simp; first | done | with_reducible rfl)
        try simp only [Act.put]
        try simp only [List.setIfInBounds_toArray]
        try simp only [List.set_cons_succ]
        try simp only [List.set_cons_zero]
        refine takeH (i := 6) (d := (some 36)) (v := ?_) rfl rfl (by kernel_rfl) (by kernel_rfl) (by kernel_rfl) (fun _ _ _ h => h) (Or.inl ⟨by kernel_rfl, ?_⟩) hS0 ?_
        rotate_left
        focus (intro w hSw; (try dsimp only at hSw); go_simp; first | done | with_reducible rfl)
        try simp only [Act.put]
        try simp only [List.setIfInBounds_toArray]
        try simp only [List.set_cons_succ]
        try simp only [List.set_cons_zero]
        refine takeH (i := 7) (d := (some 37)) (v := ?_) rfl rfl (by kernel_rfl) (by kernel_rfl) (by kernel_rfl) (fun _ _ _ h => h) (Or.inl ⟨by kernel_rfl, ?_⟩) hS0 ?_
        rotate_left
        focus (intro w hSw; (try dsimp only at hSw); go_simp; first | done | with_reducible rfl)
        try simp only [Act.put]
        try simp only [List.setIfInBounds_toArray]
        try simp only [List.set_cons_succ]
        try simp only [List.set_cons_zero]
        refine wpAnyH_ready (rs := [8, 12]) (by kernel_rfl) (by simp) ?_
        refine AllReadyH.cons (o := _) rfl (fun K' hK => ?_) (AllReadyH.cons (o := _) rfl (fun K' hK => ?_) AllReadyH.nil)
        · go_simp
          go_at_call 19
          refine (HRECS.out W2.drew (Below.refl _ _).drew).mono ?_
          rintro e w6 ⟨uy, cy, rfl, hky, b6⟩
          have b26 : Below W2.heap.size W2 w6 := (Below.refl _ W2).drew.trans b6
          have hS6 := HSX.out w6 b26
          try go_simp
          refine hK.out _ _ hS6 (fun hHeld => ?_)
          clear hK K' hHeld
          try simp only [Act.put]
          try simp only [List.setIfInBounds_toArray]
          try simp only [List.set_cons_succ]
          try simp only [List.set_cons_zero]
          refine takeH (i := 9) (d := (some 29)) (v := ?_) rfl rfl (by kernel_rfl) (by kernel_rfl) (by kernel_rfl) (fun _ _ _ h => h) (Or.inl ⟨by kernel_rfl, ?_⟩) hS6 ?_
          rotate_left
          focus (intro w hSw; (try dsimp only at hSw); go_simp; first | done | with_reducible rfl)
          try simp only [Act.put]
          try simp only [List.setIfInBounds_toArray]
          try simp only [List.set_cons_succ]
          try simp only [List.set_cons_zero]
          refine takeH (i := 10) (d := (some 39)) (v := ?_) rfl rfl (by kernel_rfl) (by kernel_rfl) (by kernel_rfl) (fun _ _ _ h => h) (Or.inl ⟨by kernel_rfl, ?_⟩) hS6 ?_
          rotate_left
          focus (intro w hSw; (try dsimp only at hSw); go_simp; first | done | with_reducible rfl)
          try simp only [Act.put]
          try simp only [List.setIfInBounds_toArray]
          try simp only [List.set_cons_succ]
          try simp only [List.set_cons_zero]
          refine takeH (i := 11) (d := (some 40)) (v := ?_) rfl rfl (by kernel_rfl) (by kernel_rfl) (by kernel_rfl) (fun _ _ _ h => h) (Or.inl ⟨by kernel_rfl, ?_⟩) hS6 ?_
          rotate_left
          focus (intro w hSw; (try dsimp only at hSw); go_simp; first | done | with_reducible rfl)
          try simp only [Act.put]
          try simp only [List.setIfInBounds_toArray]
          try simp only [List.set_cons_succ]
          try simp only [List.set_cons_zero]
          refine wpAnyH_ready (rs := [12]) (by kernel_rfl) (by simp) ?_
          refine AllReadyH.cons (o := _) rfl (fun K' hK => ?_) AllReadyH.nil
          go_simp
          have b27 : Below W2.heap.size W2 (w6.alloc (.cells #[.int .i64 0, .int .i64 0, .string ⟨#[]⟩, .slice none 0 0] 25)) := b26.alloc b26.size _
          have hS7 := HSX.out _ b27
          refine hK.out _ _ hS7 (fun hHeld => ?_)
          clear hK K' hHeld
          try simp only [Act.put]
          try simp only [List.setIfInBounds_toArray]
          try simp only [List.set_cons_succ]
          try simp only [List.set_cons_zero]
          refine wpAnyH_ready (rs := [13]) (by kernel_rfl) (by simp) ?_
          refine AllReadyH.cons (o := _) rfl (fun K' hK => ?_) AllReadyH.nil
          go_simp
          obtain ⟨W8, hW8⟩ : ∃ W, w6.alloc (.cells #[.int .i64 yi, .int .i64 yk, .string yt, .slice uy ny cy] 25) = W := ⟨_, rfl⟩
          have b28 : Below W2.heap.size W2 W8 := by rw [← hW8]; exact b26.alloc b26.size _
          rw [hW8]
          have HV8 := Lib.hid (HV.out.on b28)
          have hS8 := HSX.out W8 b28
          refine hK.out _ _ hS8 (fun hHeld => ?_)
          clear hK K' hHeld
          try simp only [Act.put]
          try simp only [List.setIfInBounds_toArray]
          try simp only [List.set_cons_succ]
          try simp only [List.set_cons_zero]
          refine takeH (i := 14) (d := (some 10)) (v := ?_) rfl rfl (by kernel_rfl) (by kernel_rfl) (by kernel_rfl) (fun _ _ _ h => h) (Or.inl ⟨by kernel_rfl, ?_⟩) hS8 ?_
          rotate_left
          focus (intro w hSw; (try dsimp only at hSw); go_simp; first | done | with_reducible rfl)
          try simp only [Act.put]
          try simp only [List.setIfInBounds_toArray]
          try simp only [List.set_cons_succ]
          try simp only [List.set_cons_zero]
          refine wpAnyH_done (by kernel_rfl) ?_ _
          have hrb : Blk W8 w6.heap.size 25 #[.int .i64 yi, .int .i64 yk, .string yt, .slice uy ny cy] := by rw [← hW8]; exact Blk.new _ _ _
          have hky8 : KV (fun j => j < B ∨ q + 3 ≤ j) W8 uy ny cy y.kids := by
            rw [← hW8]
            exact hky.keep (by simp) (fun j _ hj => Below.heap_alloc _ _ j hj) (fun j hj _ => hj.imp id (fun h => by have := HS2.out; have h : W2.heap.size ≤ j := h; omega))
          have hrq : q + 3 ≤ w6.heap.size := by have := HS2.out; have := b26.size; omega
          have hb8 : Below q w W8 := HV8.out.o
          obtain ⟨us, hul, hsub, hcells⟩ := HKV.out.row
          have h3 := HQ.out
          have hkb' : kb < w.heap.size := by omega
          have HUS := Lib.hid (And.intro hul hsub)
          have HCE : Hid (∀ j v, (kcs t.kids us)[j]? = some v → W8.cell? ((⟨kb, ko, none⟩ : Addr).add j) = some v) := fun j v hj => by
            have h1 := hcells _ rfl j v hj
            exact (World.cell?_of_block (w := w) (a := (⟨kb, ko, none⟩ : Addr).add j) (hb8.block _ (by rw [addr_add]; show kb < q; omega))).trans h1
          have HLE : Hid ((kcs t.kids us).length = n * 4) := by show _ = _; rw [kcs_len _ _ hul, HKL.out]
          have HNK := HKN.out
          have c3 : W8.cell? ⟨q, 3, none⟩ = some (.slice (some ⟨kb, ko, none⟩) n cap) := HV8.out.kt.cell 3
          have HRB := Lib.hid hrb; have HKY8 := Lib.hid hky8
          obtain ⟨r, hr8⟩ : ∃ r, w6.heap.size = r := ⟨_, rfl⟩
          rw [hr8] at HRB hrq ⊢
          have HOW : Hid (W8.ownsRow W8.heap.size 25 4 (.slice none 0 0) 0 []) := World.ownsRow_nil _ _ _ _
          clear b6 b26 hS6 hS0 hS8 b28 hky b27 hS7 hW8 hrb hky8 hb8 hul hsub hcells h3 hr8
          go_wp2_with (at_builtin; refine wpList_append_own_at _ rfl _ _ 23 rfl W8.heap.size 25 i4 (.agg #[.int .i64 0, .int .i64 0, .string ⟨#[]⟩, .slice none 0 0]) 4 56 Try.underlying23 hi4 iy0 iy1 iy2 rfl (by decide) _ 0 [] rfl HOW.out ⟨kb, ko, none⟩ n cap (kcs t.kids us) rfl HLE.out HCE.out (kcs_one _ _) (by unfold maxLen; omega) (by omega) (Nat.le_refl _) ?_; intro v6 w9 hown6 hgrow6 hnn6 hat6; refine Hid.out ?_)
          rw [Nat.zero_add, List.nil_append] at hown6
          have b89 : Below W8.heap.size W8 w9 := (Below.refl _ W8).grown hgrow6 (Nat.le_refl _) (fun k hk => by cases hk)
          obtain ⟨n', hn'⟩ : ∃ n', n = n' + 1 := ⟨n - 1, by omega⟩
          obtain ⟨g, c9, rfl⟩ : ∃ g c9, v6 = .slice (some ⟨g, 0, none⟩) n c9 := by
            have h1 := hown6
            rw [hn'] at h1 ⊢
            obtain ⟨g, cp, h2⟩ := ownsRow_succ h1
            exact ⟨g, cp, h2⟩
          have hgl := hown6.lt g rfl
          have HV9 := Lib.hid (HV8.out.on b89)
          have HRB9 := Lib.hid (HRB.out.same (b89.block r HRB.out.lt))
          have hrg : r < g := by have := HRB.out.lt; omega
          have hqg : q + 2 < g := by omega
          have hRM := rrepl_mem (G := fun j => j < B ∨ q + 3 ≤ j) (y := y) (K := K) hown6 HUS.out.1 HKL.out
            (fun k0 t0 v0 h1 h2 => (HUS.out.2 k0 t0 v0 h1 h2).keep (by have := HV9.out.o.size; exact this) (fun j hj hlt => HV9.out.o.block j (by have := HQ.out; omega)) (fun j hj hlt => ⟨.inl hj, by have := HQ.out; omega⟩))
            (by rw [HYN.out.2.2.2]; exact HKY8.out.keep b89.size (fun j hj hlt => b89.block j hlt) (fun j hj hlt => ⟨hj, by omega⟩)) hKn (.inr (by omega))
          rw [HYN.out.1, HYN.out.2.1, HYN.out.2.2.1, HYN.out.2.2.2] at hRM
          obtain ⟨W10, hW10⟩ : ∃ W, ((((w9.setCell ⟨g, K * 4, none⟩ (.int .i64 yi)).setCell ⟨g, K * 4 + 1, none⟩ (.int .i64 yk)).setCell ⟨g, K * 4 + 2, none⟩ (.string yt)).setCell ⟨g, K * 4 + 3, none⟩ (.slice uy ny cy)) = W := ⟨_, rfl⟩
          rw [hW10] at hRM
          obtain ⟨hbb, hss⟩ := set4 w9 g (K * 4) (.int .i64 yi) (.int .i64 yk) (.string yt) (.slice uy ny cy)
          rw [hW10] at hbb hss
          have hV10 : RvW w q #[.int .i64 ti, .int .i64 tk, .string tt, .slice (some ⟨kb, ko, none⟩) n cap] #[.int .i64 bi, .int .i64 bk, .string bt, .slice ba bn bc] W10 := ⟨HV9.out.kt.same (hbb _ (by omega)), HV9.out.kb.same (hbb _ (by omega)), HV9.out.kr.same (hbb _ (by omega)), by
            rw [← hW10]
            exact (((HV9.out.o.setCell (p := ⟨g, K * 4, none⟩) (by show q ≤ g; omega) _).setCell (p := ⟨g, K * 4 + 1, none⟩) (by show q ≤ g; omega) _).setCell (p := ⟨g, K * 4 + 2, none⟩) (by show q ≤ g; omega) _).setCell (p := ⟨g, K * 4 + 3, none⟩) (by show q ≤ g; omega) _⟩
          obtain ⟨W11, hW11⟩ : ∃ W, W10.setCell ⟨q, 3, none⟩ (.slice (some ⟨g, 0, none⟩) n c9) = W := ⟨_, rfl⟩
          have hbq : ∀ j, j ≠ q → W11.heap[j]? = W10.heap[j]? := fun j hj => by rw [← hW11]; exact Below.heap_setCell W10 ⟨q, 3, none⟩ _ j hj
          have hV11 : RvW w q #[.int .i64 ti, .int .i64 tk, .string tt, .slice (some ⟨g, 0, none⟩) n c9] #[.int .i64 bi, .int .i64 bk, .string bt, .slice ba bn bc] W11 := ⟨by rw [← hW11]; simpa using hV10.kt.set 3 (.slice (some ⟨g, 0, none⟩) n c9), hV10.kb.same (hbq _ (by omega)), hV10.kr.same (hbq _ (by omega)), by rw [← hW11]; exact hV10.o.setCell (p := ⟨q, 3, none⟩) (Nat.le_refl _) _⟩
          have hz11 : W11.heap.size = w9.heap.size := by rw [← hW11, ← hss]; simp [World.setCell]
          obtain ⟨hZf, hBf⟩ := hV11.fill ti tk tt (some ⟨g, 0, none⟩) n c9
          obtain ⟨hb2, hs2⟩ := set4 W11 (q + 2) 0 (.int .i64 ti) (.int .i64 tk) (.string tt) (.slice (some ⟨g, 0, none⟩) n c9)
          simp only [Nat.zero_add] at hb2 hs2
          have hF : ReplP GP t ((K : Int) :: z) b w (.returned (.tuple #[.agg #[.int .i64 ti, .int .i64 tk, .string tt, .slice (some ⟨g, 0, none⟩) n c9], .bool true])) ((((W11.setCell ⟨q + 2, 0, none⟩ (.int .i64 ti)).setCell ⟨q + 2, 1, none⟩ (.int .i64 tk)).setCell ⟨q + 2, 2, none⟩ (.string tt)).setCell ⟨q + 2, 3, none⟩ (.slice (some ⟨g, 0, none⟩) n c9)) := by
            have hln : (t.kids.set K y).length = n := by rw [List.length_set, HKL.out]
            have h3 := HQ.out
            have h4 := HBW.out
            refine ⟨by rw [h3]; exact hBf, .inl ⟨_, some ⟨g, 0, none⟩, c9, HRY.out, ?_, ?_⟩⟩
            · show _ = Ending.returned (.tuple #[.agg #[.int .i64 ti, .int .i64 tk, .string tt, .slice (some ⟨g, 0, none⟩) (t.kids.set K y).length c9], .bool true])
              rw [hln]
            · show KV _ _ _ (t.kids.set K y).length _ (t.kids.set K y)
              rw [hln]
              exact hRM.keep (by rw [hs2, hz11, hss]; exact Nat.le_refl _) (fun j hj _ => (hb2 j (by omega)).trans (hbq j (by omega))) (fun j hj _ => (HGP.out j).2 (hj.imp id (fun h => by omega)))
          rw [← hW11, ← hW10] at hF hZf hV11
          rw [← hW10] at hV10
          have HZ := Lib.hid hZf; have HF := Lib.hid hF
          have cq3 := hV10.kt.cell 3
          have fq3 := hV10.kt.frozen 3
          have y0 := hV11.kt.cell 0
          have y1 := hV11.kt.cell 1
          have y2 := hV11.kt.cell 2
          have y3 := hV11.kt.cell 3
          simp only [List.getElem?_toArray, List.getElem?_cons_zero, List.getElem?_cons_succ] at cq3 y0 y1 y2 y3
          have x0 : (((((w9.setCell ⟨g, K * 4, none⟩ (.int .i64 yi)).setCell ⟨g, K * 4 + 1, none⟩ (.int .i64 yk)).setCell ⟨g, K * 4 + 2, none⟩ (.string yt)).setCell ⟨g, K * 4 + 3, none⟩ (.slice uy ny cy)).setCell ⟨q, 3, none⟩ (.slice (some ⟨g, 0, none⟩) n c9)).cell? ⟨q + 1 + 1, 0, none⟩ = some (.int .i64 0) := hV11.kr.cell 0
          have g0 : (((((w9.setCell ⟨g, K * 4, none⟩ (.int .i64 yi)).setCell ⟨g, K * 4 + 1, none⟩ (.int .i64 yk)).setCell ⟨g, K * 4 + 2, none⟩ (.string yt)).setCell ⟨g, K * 4 + 3, none⟩ (.slice uy ny cy)).setCell ⟨q, 3, none⟩ (.slice (some ⟨g, 0, none⟩) n c9)).frozen? ⟨q + 1 + 1, 0, none⟩ = false := hV11.kr.frozen 0
          have x1 : (((((w9.setCell ⟨g, K * 4, none⟩ (.int .i64 yi)).setCell ⟨g, K * 4 + 1, none⟩ (.int .i64 yk)).setCell ⟨g, K * 4 + 2, none⟩ (.string yt)).setCell ⟨g, K * 4 + 3, none⟩ (.slice uy ny cy)).setCell ⟨q, 3, none⟩ (.slice (some ⟨g, 0, none⟩) n c9)).cell? ⟨q + 1 + 1, 1, none⟩ = some (.int .i64 0) := hV11.kr.cell 1
          have g1 : (((((w9.setCell ⟨g, K * 4, none⟩ (.int .i64 yi)).setCell ⟨g, K * 4 + 1, none⟩ (.int .i64 yk)).setCell ⟨g, K * 4 + 2, none⟩ (.string yt)).setCell ⟨g, K * 4 + 3, none⟩ (.slice uy ny cy)).setCell ⟨q, 3, none⟩ (.slice (some ⟨g, 0, none⟩) n c9)).frozen? ⟨q + 1 + 1, 1, none⟩ = false := hV11.kr.frozen 1
          have x2 : (((((w9.setCell ⟨g, K * 4, none⟩ (.int .i64 yi)).setCell ⟨g, K * 4 + 1, none⟩ (.int .i64 yk)).setCell ⟨g, K * 4 + 2, none⟩ (.string yt)).setCell ⟨g, K * 4 + 3, none⟩ (.slice uy ny cy)).setCell ⟨q, 3, none⟩ (.slice (some ⟨g, 0, none⟩) n c9)).cell? ⟨q + 1 + 1, 2, none⟩ = some (.string ⟨#[]⟩) := hV11.kr.cell 2
          have g2 : (((((w9.setCell ⟨g, K * 4, none⟩ (.int .i64 yi)).setCell ⟨g, K * 4 + 1, none⟩ (.int .i64 yk)).setCell ⟨g, K * 4 + 2, none⟩ (.string yt)).setCell ⟨g, K * 4 + 3, none⟩ (.slice uy ny cy)).setCell ⟨q, 3, none⟩ (.slice (some ⟨g, 0, none⟩) n c9)).frozen? ⟨q + 1 + 1, 2, none⟩ = false := hV11.kr.frozen 2
          have x3 : (((((w9.setCell ⟨g, K * 4, none⟩ (.int .i64 yi)).setCell ⟨g, K * 4 + 1, none⟩ (.int .i64 yk)).setCell ⟨g, K * 4 + 2, none⟩ (.string yt)).setCell ⟨g, K * 4 + 3, none⟩ (.slice uy ny cy)).setCell ⟨q, 3, none⟩ (.slice (some ⟨g, 0, none⟩) n c9)).cell? ⟨q + 1 + 1, 3, none⟩ = some (.slice none 0 0) := hV11.kr.cell 3
          have g3 : (((((w9.setCell ⟨g, K * 4, none⟩ (.int .i64 yi)).setCell ⟨g, K * 4 + 1, none⟩ (.int .i64 yk)).setCell ⟨g, K * 4 + 2, none⟩ (.string yt)).setCell ⟨g, K * 4 + 3, none⟩ (.slice uy ny cy)).setCell ⟨q, 3, none⟩ (.slice (some ⟨g, 0, none⟩) n c9)).frozen? ⟨q + 1 + 1, 3, none⟩ = false := hV11.kr.frozen 3
          have d0 := HRB9.out.cell 0
          have d1 := HRB9.out.cell 1
          have d2 := HRB9.out.cell 2
          have d3 := HRB9.out.cell 3
          simp only [List.getElem?_toArray, List.getElem?_cons_zero, List.getElem?_cons_succ] at d0 d1 d2 d3
          have hkl := kcs_len _ _ HUS.out.1
          have hex : ∀ j, j < 4 → ∃ v, w9.cell? ⟨g, K * 4 + j, none⟩ = some v := fun j hj => ⟨_, (hown6.cellAt (K * 4 + j) (by omega)).trans (List.getElem?_eq_getElem (by rw [hkl, HKL.out]; omega))⟩
          obtain ⟨v0, p0⟩ := hex 0 (by omega)
          obtain ⟨v1, p1⟩ := hex 1 (by omega)
          obtain ⟨v2, p2⟩ := hex 2 (by omega)
          obtain ⟨v3, p3⟩ := hex 3 (by omega)
          rw [Nat.add_zero] at p0
          have f0 := hown6.frozenAt (K * 4)
          have f1 := hown6.frozenAt (K * 4 + 1)
          have f2 := hown6.frozenAt (K * 4 + 2)
          have f3 := hown6.frozenAt (K * 4 + 3)
          have hn1 : ¬ (r = g) := by omega
          have hn2 : ¬ (g = r) := by omega
          clear hown6 hgrow6 hnn6 hat6 b89 hn' hgl hRM hbb hss hbq hz11 hZf hBf hb2 hs2 hF hkl hex hW10 hW11 hV10 hV11
          refine Lib.hid ?_
          go_wp2_with fail
          have z0 : (((((((((w9.setCell ⟨g, K * 4, none⟩ (.int .i64 yi)).setCell ⟨g, K * 4 + 1, none⟩ (.int .i64 yk)).setCell ⟨g, K * 4 + 2, none⟩ (.string yt)).setCell ⟨g, K * 4 + 3, none⟩ (.slice uy ny cy)).setCell ⟨q, 3, none⟩ (.slice (some ⟨g, 0, none⟩) n c9)).setCell ⟨q + 1 + 1, 0, none⟩ (.int .i64 ti)).setCell ⟨q + 1 + 1, 1, none⟩ (.int .i64 tk)).setCell ⟨q + 1 + 1, 2, none⟩ (.string tt)).setCell ⟨q + 1 + 1, 3, none⟩ (.slice (some ⟨g, 0, none⟩) n c9)).cell? ⟨q + 1 + 1, 0, none⟩ = some (.int .i64 ti) := HZ.out.cell 0
          have z1 : (((((((((w9.setCell ⟨g, K * 4, none⟩ (.int .i64 yi)).setCell ⟨g, K * 4 + 1, none⟩ (.int .i64 yk)).setCell ⟨g, K * 4 + 2, none⟩ (.string yt)).setCell ⟨g, K * 4 + 3, none⟩ (.slice uy ny cy)).setCell ⟨q, 3, none⟩ (.slice (some ⟨g, 0, none⟩) n c9)).setCell ⟨q + 1 + 1, 0, none⟩ (.int .i64 ti)).setCell ⟨q + 1 + 1, 1, none⟩ (.int .i64 tk)).setCell ⟨q + 1 + 1, 2, none⟩ (.string tt)).setCell ⟨q + 1 + 1, 3, none⟩ (.slice (some ⟨g, 0, none⟩) n c9)).cell? ⟨q + 1 + 1, 1, none⟩ = some (.int .i64 tk) := HZ.out.cell 1
          have z2 : (((((((((w9.setCell ⟨g, K * 4, none⟩ (.int .i64 yi)).setCell ⟨g, K * 4 + 1, none⟩ (.int .i64 yk)).setCell ⟨g, K * 4 + 2, none⟩ (.string yt)).setCell ⟨g, K * 4 + 3, none⟩ (.slice uy ny cy)).setCell ⟨q, 3, none⟩ (.slice (some ⟨g, 0, none⟩) n c9)).setCell ⟨q + 1 + 1, 0, none⟩ (.int .i64 ti)).setCell ⟨q + 1 + 1, 1, none⟩ (.int .i64 tk)).setCell ⟨q + 1 + 1, 2, none⟩ (.string tt)).setCell ⟨q + 1 + 1, 3, none⟩ (.slice (some ⟨g, 0, none⟩) n c9)).cell? ⟨q + 1 + 1, 2, none⟩ = some (.string tt) := HZ.out.cell 2
          have z3 : (((((((((w9.setCell ⟨g, K * 4, none⟩ (.int .i64 yi)).setCell ⟨g, K * 4 + 1, none⟩ (.int .i64 yk)).setCell ⟨g, K * 4 + 2, none⟩ (.string yt)).setCell ⟨g, K * 4 + 3, none⟩ (.slice uy ny cy)).setCell ⟨q, 3, none⟩ (.slice (some ⟨g, 0, none⟩) n c9)).setCell ⟨q + 1 + 1, 0, none⟩ (.int .i64 ti)).setCell ⟨q + 1 + 1, 1, none⟩ (.int .i64 tk)).setCell ⟨q + 1 + 1, 2, none⟩ (.string tt)).setCell ⟨q + 1 + 1, 3, none⟩ (.slice (some ⟨g, 0, none⟩) n c9)).cell? ⟨q + 1 + 1, 3, none⟩ = some (.slice (some ⟨g, 0, none⟩) n c9) := HZ.out.cell 3
          refine bodyPost_ret (v := .tuple #[.agg #[.int .i64 ti, .int .i64 tk, .string tt, .slice (some ⟨g, 0, none⟩) n c9], .bool true]) (by simp [results, Try.results19, go_sem, z0, z1, z2, z3]) rfl HF.out
        · go_simp
          have b25 : Below W2.heap.size W2 (W2.drew.alloc (.cells #[.int .i64 0, .int .i64 0, .string ⟨#[]⟩, .slice none 0 0] 25)) := (Below.refl _ _).drew.alloc (Nat.le_refl _) _
          have hS5 := HSX.out _ b25
          refine hK.out _ _ hS5 (fun hHeld => ?_)
          clear hK K' hHeld
          try simp only [Act.put]
          try simp only [List.setIfInBounds_toArray]
          try simp only [List.set_cons_succ]
          try simp only [List.set_cons_zero]
          refine wpAnyH_ready (rs := [8]) (by kernel_rfl) (by simp) ?_
          refine AllReadyH.cons (o := _) rfl (fun K' hK => ?_) AllReadyH.nil
          go_simp
          go_at_call 19
          refine (HRECS.out _ b25).mono ?_
          rintro e w6 ⟨uy, cy, rfl, hky, b6⟩
          have b26 : Below W2.heap.size W2 w6 := b25.trans (b6.mono b25.size)
          have hS6 := HSX.out w6 b26
          have kr : Blk w6 W2.heap.size 25 #[.int .i64 0, .int .i64 0, .string ⟨#[]⟩, .slice none 0 0] := (Blk.new W2.drew 25 #[.int .i64 0, .int .i64 0, .string ⟨#[]⟩, .slice none 0 0]).same (b6.block W2.heap.size (by simp))
          try go_simp
          refine hK.out _ _ hS6 (fun hHeld => ?_)
          clear hK K' hHeld
          try simp only [Act.put]
          try simp only [List.setIfInBounds_toArray]
          try simp only [List.set_cons_succ]
          try simp only [List.set_cons_zero]
          refine takeH (i := 9) (d := (some 29)) (v := ?_) rfl rfl (by kernel_rfl) (by kernel_rfl) (by kernel_rfl) (fun _ _ _ h => h) (Or.inl ⟨by kernel_rfl, ?_⟩) hS6 ?_
          rotate_left
          focus (intro w hSw; (try dsimp only at hSw); go_simp; first | done | with_reducible rfl)
          try simp only [Act.put]
          try simp only [List.setIfInBounds_toArray]
          try simp only [List.set_cons_succ]
          try simp only [List.set_cons_zero]
          refine takeH (i := 10) (d := (some 39)) (v := ?_) rfl rfl (by kernel_rfl) (by kernel_rfl) (by kernel_rfl) (fun _ _ _ h => h) (Or.inl ⟨by kernel_rfl, ?_⟩) hS6 ?_
          rotate_left
          focus (intro w hSw; (try dsimp only at hSw); go_simp; first | done | with_reducible rfl)
          try simp only [Act.put]
          try simp only [List.setIfInBounds_toArray]
          try simp only [List.set_cons_succ]
          try simp only [List.set_cons_zero]
          refine takeH (i := 11) (d := (some 40)) (v := ?_) rfl rfl (by kernel_rfl) (by kernel_rfl) (by kernel_rfl) (fun _ _ _ h => h) (Or.inl ⟨by kernel_rfl, ?_⟩) hS6 ?_
          rotate_left
          focus (intro w hSw; (try dsimp only at hSw); go_simp; first | done | with_reducible rfl)
          try simp only [Act.put]
          try simp only [List.setIfInBounds_toArray]
          try simp only [List.set_cons_succ]
          try simp only [List.set_cons_zero]
          refine wpAnyH_ready (rs := [13]) (by kernel_rfl) (by simp) ?_
          refine AllReadyH.cons (o := _) rfl (fun K' hK => ?_) AllReadyH.nil
          have r0 := kr.cell 0
          have r1 := kr.cell 1
          have r2 := kr.cell 2
          have r3 := kr.cell 3
          have s0 := kr.frozen 0
          have s1 := kr.frozen 1
          have s2 := kr.frozen 2
          have s3 := kr.frozen 3
          simp only [List.getElem?_toArray, List.getElem?_cons_zero, List.getElem?_cons_succ] at r0 r1 r2 r3
          go_simp
          obtain ⟨W8, hW8⟩ : ∃ W, ((((w6.setCell ⟨W2.heap.size, 0, none⟩ (.int .i64 yi)).setCell ⟨W2.heap.size, 1, none⟩ (.int .i64 yk)).setCell ⟨W2.heap.size, 2, none⟩ (.string yt)).setCell ⟨W2.heap.size, 3, none⟩ (.slice uy ny cy)) = W := ⟨_, rfl⟩
          have b28 : Below W2.heap.size W2 W8 := by rw [← hW8]; exact (((b26.setCell (p := ⟨W2.heap.size, 0, none⟩) (Nat.le_refl _) _).setCell (p := ⟨W2.heap.size, 1, none⟩) (Nat.le_refl _) _).setCell (p := ⟨W2.heap.size, 2, none⟩) (Nat.le_refl _) _).setCell (p := ⟨W2.heap.size, 3, none⟩) (Nat.le_refl _) _
          rw [hW8]
          have HV8 := Lib.hid (HV.out.on b28)
          have hS8 := HSX.out W8 b28
          refine hK.out _ _ hS8 (fun hHeld => ?_)
          clear hK K' hHeld
          try simp only [Act.put]
          try simp only [List.setIfInBounds_toArray]
          try simp only [List.set_cons_succ]
          try simp only [List.set_cons_zero]
          refine takeH (i := 14) (d := (some 10)) (v := ?_) rfl rfl (by kernel_rfl) (by kernel_rfl) (by kernel_rfl) (fun _ _ _ h => h) (Or.inl ⟨by kernel_rfl, ?_⟩) hS8 ?_
          rotate_left
          focus (intro w hSw; (try dsimp only at hSw); go_simp; first | done | with_reducible rfl)
          try simp only [Act.put]
          try simp only [List.setIfInBounds_toArray]
          try simp only [List.set_cons_succ]
          try simp only [List.set_cons_zero]
          refine wpAnyH_done (by kernel_rfl) ?_ _
          have hrb : Blk W8 W2.heap.size 25 #[.int .i64 yi, .int .i64 yk, .string yt, .slice uy ny cy] := by rw [← hW8]; simpa using (((kr.set 0 (.int .i64 yi)).set 1 (.int .i64 yk)).set 2 (.string yt)).set 3 (.slice uy ny cy)
          have hky8 : KV (fun j => j < B ∨ q + 3 ≤ j) W8 uy ny cy y.kids := by
            obtain ⟨hbb, hss⟩ := set4 w6 W2.heap.size 0 (.int .i64 yi) (.int .i64 yk) (.string yt) (.slice uy ny cy)
            simp only [Nat.zero_add] at hbb hss
            rw [← hW8]
            have h2 := HS2.out
            have h3 := HQ.out
            have h4 := HBW.out
            have hsz : (W2.drew.alloc (.cells #[.int .i64 0, .int .i64 0, .string ⟨#[]⟩, .slice none 0 0] 25)).heap.size = W2.heap.size + 1 := by rw [World.size_alloc]; rfl
            rw [hsz] at hky
            exact hky.keep (by rw [hss]; exact Nat.le_refl _) (fun j hj _ => hbb j (by rcases hj with h | h <;> omega)) (fun j hj _ => hj.imp id (fun h => by omega))
          have hrq : q + 3 ≤ W2.heap.size := by have := HS2.out; omega
          have hb8 : Below q w W8 := HV8.out.o
          obtain ⟨us, hul, hsub, hcells⟩ := HKV.out.row
          have h3 := HQ.out
          have hkb' : kb < w.heap.size := by omega
          have HUS := Lib.hid (And.intro hul hsub)
          have HCE : Hid (∀ j v, (kcs t.kids us)[j]? = some v → W8.cell? ((⟨kb, ko, none⟩ : Addr).add j) = some v) := fun j v hj => by
            have h1 := hcells _ rfl j v hj
            exact (World.cell?_of_block (w := w) (a := (⟨kb, ko, none⟩ : Addr).add j) (hb8.block _ (by rw [addr_add]; show kb < q; omega))).trans h1
          have HLE : Hid ((kcs t.kids us).length = n * 4) := by show _ = _; rw [kcs_len _ _ hul, HKL.out]
          have HNK := HKN.out
          have c3 : W8.cell? ⟨q, 3, none⟩ = some (.slice (some ⟨kb, ko, none⟩) n cap) := HV8.out.kt.cell 3
          have HRB := Lib.hid hrb; have HKY8 := Lib.hid hky8
          obtain ⟨r, hr8⟩ : ∃ r, W2.heap.size = r := ⟨_, rfl⟩
          rw [hr8] at HRB hrq ⊢
          have HOW : Hid (W8.ownsRow W8.heap.size 25 4 (.slice none 0 0) 0 []) := World.ownsRow_nil _ _ _ _
          clear b6 b26 hS6 hS0 hS8 b28 hky b25 hS5 kr r0 r1 r2 r3 s0 s1 s2 s3 hW8 hrb hky8 hb8 hul hsub hcells h3 hr8
          go_wp2_with (at_builtin; refine wpList_append_own_at _ rfl _ _ 23 rfl W8.heap.size 25 i4 (.agg #[.int .i64 0, .int .i64 0, .string ⟨#[]⟩, .slice none 0 0]) 4 56 Try.underlying23 hi4 iy0 iy1 iy2 rfl (by decide) _ 0 [] rfl HOW.out ⟨kb, ko, none⟩ n cap (kcs t.kids us) rfl HLE.out HCE.out (kcs_one _ _) (by unfold maxLen; omega) (by omega) (Nat.le_refl _) ?_; intro v6 w9 hown6 hgrow6 hnn6 hat6; refine Hid.out ?_)
          rw [Nat.zero_add, List.nil_append] at hown6
          have b89 : Below W8.heap.size W8 w9 := (Below.refl _ W8).grown hgrow6 (Nat.le_refl _) (fun k hk => by cases hk)
          obtain ⟨n', hn'⟩ : ∃ n', n = n' + 1 := ⟨n - 1, by omega⟩
          obtain ⟨g, c9, rfl⟩ : ∃ g c9, v6 = .slice (some ⟨g, 0, none⟩) n c9 := by
            have h1 := hown6
            rw [hn'] at h1 ⊢
            obtain ⟨g, cp, h2⟩ := ownsRow_succ h1
            exact ⟨g, cp, h2⟩
          have hgl := hown6.lt g rfl
          have HV9 := Lib.hid (HV8.out.on b89)
          have HRB9 := Lib.hid (HRB.out.same (b89.block r HRB.out.lt))
          have hrg : r < g := by have := HRB.out.lt; omega
          have hqg : q + 2 < g := by omega
          have hRM := rrepl_mem (G := fun j => j < B ∨ q + 3 ≤ j) (y := y) (K := K) hown6 HUS.out.1 HKL.out
            (fun k0 t0 v0 h1 h2 => (HUS.out.2 k0 t0 v0 h1 h2).keep (by have := HV9.out.o.size; exact this) (fun j hj hlt => HV9.out.o.block j (by have := HQ.out; omega)) (fun j hj hlt => ⟨.inl hj, by have := HQ.out; omega⟩))
            (by rw [HYN.out.2.2.2]; exact HKY8.out.keep b89.size (fun j hj hlt => b89.block j hlt) (fun j hj hlt => ⟨hj, by omega⟩)) hKn (.inr (by omega))
          rw [HYN.out.1, HYN.out.2.1, HYN.out.2.2.1, HYN.out.2.2.2] at hRM
          obtain ⟨W10, hW10⟩ : ∃ W, ((((w9.setCell ⟨g, K * 4, none⟩ (.int .i64 yi)).setCell ⟨g, K * 4 + 1, none⟩ (.int .i64 yk)).setCell ⟨g, K * 4 + 2, none⟩ (.string yt)).setCell ⟨g, K * 4 + 3, none⟩ (.slice uy ny cy)) = W := ⟨_, rfl⟩
          rw [hW10] at hRM
          obtain ⟨hbb, hss⟩ := set4 w9 g (K * 4) (.int .i64 yi) (.int .i64 yk) (.string yt) (.slice uy ny cy)
          rw [hW10] at hbb hss
          have hV10 : RvW w q #[.int .i64 ti, .int .i64 tk, .string tt, .slice (some ⟨kb, ko, none⟩) n cap] #[.int .i64 bi, .int .i64 bk, .string bt, .slice ba bn bc] W10 := ⟨HV9.out.kt.same (hbb _ (by omega)), HV9.out.kb.same (hbb _ (by omega)), HV9.out.kr.same (hbb _ (by omega)), by
            rw [← hW10]
            exact (((HV9.out.o.setCell (p := ⟨g, K * 4, none⟩) (by show q ≤ g; omega) _).setCell (p := ⟨g, K * 4 + 1, none⟩) (by show q ≤ g; omega) _).setCell (p := ⟨g, K * 4 + 2, none⟩) (by show q ≤ g; omega) _).setCell (p := ⟨g, K * 4 + 3, none⟩) (by show q ≤ g; omega) _⟩
          obtain ⟨W11, hW11⟩ : ∃ W, W10.setCell ⟨q, 3, none⟩ (.slice (some ⟨g, 0, none⟩) n c9) = W := ⟨_, rfl⟩
          have hbq : ∀ j, j ≠ q → W11.heap[j]? = W10.heap[j]? := fun j hj => by rw [← hW11]; exact Below.heap_setCell W10 ⟨q, 3, none⟩ _ j hj
          have hV11 : RvW w q #[.int .i64 ti, .int .i64 tk, .string tt, .slice (some ⟨g, 0, none⟩) n c9] #[.int .i64 bi, .int .i64 bk, .string bt, .slice ba bn bc] W11 := ⟨by rw [← hW11]; simpa using hV10.kt.set 3 (.slice (some ⟨g, 0, none⟩) n c9), hV10.kb.same (hbq _ (by omega)), hV10.kr.same (hbq _ (by omega)), by rw [← hW11]; exact hV10.o.setCell (p := ⟨q, 3, none⟩) (Nat.le_refl _) _⟩
          have hz11 : W11.heap.size = w9.heap.size := by rw [← hW11, ← hss]; simp [World.setCell]
          obtain ⟨hZf, hBf⟩ := hV11.fill ti tk tt (some ⟨g, 0, none⟩) n c9
          obtain ⟨hb2, hs2⟩ := set4 W11 (q + 2) 0 (.int .i64 ti) (.int .i64 tk) (.string tt) (.slice (some ⟨g, 0, none⟩) n c9)
          simp only [Nat.zero_add] at hb2 hs2
          have hF : ReplP GP t ((K : Int) :: z) b w (.returned (.tuple #[.agg #[.int .i64 ti, .int .i64 tk, .string tt, .slice (some ⟨g, 0, none⟩) n c9], .bool true])) ((((W11.setCell ⟨q + 2, 0, none⟩ (.int .i64 ti)).setCell ⟨q + 2, 1, none⟩ (.int .i64 tk)).setCell ⟨q + 2, 2, none⟩ (.string tt)).setCell ⟨q + 2, 3, none⟩ (.slice (some ⟨g, 0, none⟩) n c9)) := by
            have hln : (t.kids.set K y).length = n := by rw [List.length_set, HKL.out]
            have h3 := HQ.out
            have h4 := HBW.out
            refine ⟨by rw [h3]; exact hBf, .inl ⟨_, some ⟨g, 0, none⟩, c9, HRY.out, ?_, ?_⟩⟩
            · show _ = Ending.returned (.tuple #[.agg #[.int .i64 ti, .int .i64 tk, .string tt, .slice (some ⟨g, 0, none⟩) (t.kids.set K y).length c9], .bool true])
              rw [hln]
            · show KV _ _ _ (t.kids.set K y).length _ (t.kids.set K y)
              rw [hln]
              exact hRM.keep (by rw [hs2, hz11, hss]; exact Nat.le_refl _) (fun j hj _ => (hb2 j (by omega)).trans (hbq j (by omega))) (fun j hj _ => (HGP.out j).2 (hj.imp id (fun h => by omega)))
          rw [← hW11, ← hW10] at hF hZf hV11
          rw [← hW10] at hV10
          have HZ := Lib.hid hZf; have HF := Lib.hid hF
          have cq3 := hV10.kt.cell 3
          have fq3 := hV10.kt.frozen 3
          have y0 := hV11.kt.cell 0
          have y1 := hV11.kt.cell 1
          have y2 := hV11.kt.cell 2
          have y3 := hV11.kt.cell 3
          simp only [List.getElem?_toArray, List.getElem?_cons_zero, List.getElem?_cons_succ] at cq3 y0 y1 y2 y3
          have x0 : (((((w9.setCell ⟨g, K * 4, none⟩ (.int .i64 yi)).setCell ⟨g, K * 4 + 1, none⟩ (.int .i64 yk)).setCell ⟨g, K * 4 + 2, none⟩ (.string yt)).setCell ⟨g, K * 4 + 3, none⟩ (.slice uy ny cy)).setCell ⟨q, 3, none⟩ (.slice (some ⟨g, 0, none⟩) n c9)).cell? ⟨q + 1 + 1, 0, none⟩ = some (.int .i64 0) := hV11.kr.cell 0
          have g0 : (((((w9.setCell ⟨g, K * 4, none⟩ (.int .i64 yi)).setCell ⟨g, K * 4 + 1, none⟩ (.int .i64 yk)).setCell ⟨g, K * 4 + 2, none⟩ (.string yt)).setCell ⟨g, K * 4 + 3, none⟩ (.slice uy ny cy)).setCell ⟨q, 3, none⟩ (.slice (some ⟨g, 0, none⟩) n c9)).frozen? ⟨q + 1 + 1, 0, none⟩ = false := hV11.kr.frozen 0
          have x1 : (((((w9.setCell ⟨g, K * 4, none⟩ (.int .i64 yi)).setCell ⟨g, K * 4 + 1, none⟩ (.int .i64 yk)).setCell ⟨g, K * 4 + 2, none⟩ (.string yt)).setCell ⟨g, K * 4 + 3, none⟩ (.slice uy ny cy)).setCell ⟨q, 3, none⟩ (.slice (some ⟨g, 0, none⟩) n c9)).cell? ⟨q + 1 + 1, 1, none⟩ = some (.int .i64 0) := hV11.kr.cell 1
          have g1 : (((((w9.setCell ⟨g, K * 4, none⟩ (.int .i64 yi)).setCell ⟨g, K * 4 + 1, none⟩ (.int .i64 yk)).setCell ⟨g, K * 4 + 2, none⟩ (.string yt)).setCell ⟨g, K * 4 + 3, none⟩ (.slice uy ny cy)).setCell ⟨q, 3, none⟩ (.slice (some ⟨g, 0, none⟩) n c9)).frozen? ⟨q + 1 + 1, 1, none⟩ = false := hV11.kr.frozen 1
          have x2 : (((((w9.setCell ⟨g, K * 4, none⟩ (.int .i64 yi)).setCell ⟨g, K * 4 + 1, none⟩ (.int .i64 yk)).setCell ⟨g, K * 4 + 2, none⟩ (.string yt)).setCell ⟨g, K * 4 + 3, none⟩ (.slice uy ny cy)).setCell ⟨q, 3, none⟩ (.slice (some ⟨g, 0, none⟩) n c9)).cell? ⟨q + 1 + 1, 2, none⟩ = some (.string ⟨#[]⟩) := hV11.kr.cell 2
          have g2 : (((((w9.setCell ⟨g, K * 4, none⟩ (.int .i64 yi)).setCell ⟨g, K * 4 + 1, none⟩ (.int .i64 yk)).setCell ⟨g, K * 4 + 2, none⟩ (.string yt)).setCell ⟨g, K * 4 + 3, none⟩ (.slice uy ny cy)).setCell ⟨q, 3, none⟩ (.slice (some ⟨g, 0, none⟩) n c9)).frozen? ⟨q + 1 + 1, 2, none⟩ = false := hV11.kr.frozen 2
          have x3 : (((((w9.setCell ⟨g, K * 4, none⟩ (.int .i64 yi)).setCell ⟨g, K * 4 + 1, none⟩ (.int .i64 yk)).setCell ⟨g, K * 4 + 2, none⟩ (.string yt)).setCell ⟨g, K * 4 + 3, none⟩ (.slice uy ny cy)).setCell ⟨q, 3, none⟩ (.slice (some ⟨g, 0, none⟩) n c9)).cell? ⟨q + 1 + 1, 3, none⟩ = some (.slice none 0 0) := hV11.kr.cell 3
          have g3 : (((((w9.setCell ⟨g, K * 4, none⟩ (.int .i64 yi)).setCell ⟨g, K * 4 + 1, none⟩ (.int .i64 yk)).setCell ⟨g, K * 4 + 2, none⟩ (.string yt)).setCell ⟨g, K * 4 + 3, none⟩ (.slice uy ny cy)).setCell ⟨q, 3, none⟩ (.slice (some ⟨g, 0, none⟩) n c9)).frozen? ⟨q + 1 + 1, 3, none⟩ = false := hV11.kr.frozen 3
          have d0 := HRB9.out.cell 0
          have d1 := HRB9.out.cell 1
          have d2 := HRB9.out.cell 2
          have d3 := HRB9.out.cell 3
          simp only [List.getElem?_toArray, List.getElem?_cons_zero, List.getElem?_cons_succ] at d0 d1 d2 d3
          have hkl := kcs_len _ _ HUS.out.1
          have hex : ∀ j, j < 4 → ∃ v, w9.cell? ⟨g, K * 4 + j, none⟩ = some v := fun j hj => ⟨_, (hown6.cellAt (K * 4 + j) (by omega)).trans (List.getElem?_eq_getElem (by rw [hkl, HKL.out]; omega))⟩
          obtain ⟨v0, p0⟩ := hex 0 (by omega)
          obtain ⟨v1, p1⟩ := hex 1 (by omega)
          obtain ⟨v2, p2⟩ := hex 2 (by omega)
          obtain ⟨v3, p3⟩ := hex 3 (by omega)
          rw [Nat.add_zero] at p0
          have f0 := hown6.frozenAt (K * 4)
          have f1 := hown6.frozenAt (K * 4 + 1)
          have f2 := hown6.frozenAt (K * 4 + 2)
          have f3 := hown6.frozenAt (K * 4 + 3)
          have hn1 : ¬ (r = g) := by omega
          have hn2 : ¬ (g = r) := by omega
          clear hown6 hgrow6 hnn6 hat6 b89 hn' hgl hRM hbb hss hbq hz11 hZf hBf hb2 hs2 hF hkl hex hW10 hW11 hV10 hV11
          refine Lib.hid ?_
          go_wp2_with fail
          have z0 : (((((((((w9.setCell ⟨g, K * 4, none⟩ (.int .i64 yi)).setCell ⟨g, K * 4 + 1, none⟩ (.int .i64 yk)).setCell ⟨g, K * 4 + 2, none⟩ (.string yt)).setCell ⟨g, K * 4 + 3, none⟩ (.slice uy ny cy)).setCell ⟨q, 3, none⟩ (.slice (some ⟨g, 0, none⟩) n c9)).setCell ⟨q + 1 + 1, 0, none⟩ (.int .i64 ti)).setCell ⟨q + 1 + 1, 1, none⟩ (.int .i64 tk)).setCell ⟨q + 1 + 1, 2, none⟩ (.string tt)).setCell ⟨q + 1 + 1, 3, none⟩ (.slice (some ⟨g, 0, none⟩) n c9)).cell? ⟨q + 1 + 1, 0, none⟩ = some (.int .i64 ti) := HZ.out.cell 0
          have z1 : (((((((((w9.setCell ⟨g, K * 4, none⟩ (.int .i64 yi)).setCell ⟨g, K * 4 + 1, none⟩ (.int .i64 yk)).setCell ⟨g, K * 4 + 2, none⟩ (.string yt)).setCell ⟨g, K * 4 + 3, none⟩ (.slice uy ny cy)).setCell ⟨q, 3, none⟩ (.slice (some ⟨g, 0, none⟩) n c9)).setCell ⟨q + 1 + 1, 0, none⟩ (.int .i64 ti)).setCell ⟨q + 1 + 1, 1, none⟩ (.int .i64 tk)).setCell ⟨q + 1 + 1, 2, none⟩ (.string tt)).setCell ⟨q + 1 + 1, 3, none⟩ (.slice (some ⟨g, 0, none⟩) n c9)).cell? ⟨q + 1 + 1, 1, none⟩ = some (.int .i64 tk) := HZ.out.cell 1
          have z2 : (((((((((w9.setCell ⟨g, K * 4, none⟩ (.int .i64 yi)).setCell ⟨g, K * 4 + 1, none⟩ (.int .i64 yk)).setCell ⟨g, K * 4 + 2, none⟩ (.string yt)).setCell ⟨g, K * 4 + 3, none⟩ (.slice uy ny cy)).setCell ⟨q, 3, none⟩ (.slice (some ⟨g, 0, none⟩) n c9)).setCell ⟨q + 1 + 1, 0, none⟩ (.int .i64 ti)).setCell ⟨q + 1 + 1, 1, none⟩ (.int .i64 tk)).setCell ⟨q + 1 + 1, 2, none⟩ (.string tt)).setCell ⟨q + 1 + 1, 3, none⟩ (.slice (some ⟨g, 0, none⟩) n c9)).cell? ⟨q + 1 + 1, 2, none⟩ = some (.string tt) := HZ.out.cell 2
          have z3 : (((((((((w9.setCell ⟨g, K * 4, none⟩ (.int .i64 yi)).setCell ⟨g, K * 4 + 1, none⟩ (.int .i64 yk)).setCell ⟨g, K * 4 + 2, none⟩ (.string yt)).setCell ⟨g, K * 4 + 3, none⟩ (.slice uy ny cy)).setCell ⟨q, 3, none⟩ (.slice (some ⟨g, 0, none⟩) n c9)).setCell ⟨q + 1 + 1, 0, none⟩ (.int .i64 ti)).setCell ⟨q + 1 + 1, 1, none⟩ (.int .i64 tk)).setCell ⟨q + 1 + 1, 2, none⟩ (.string tt)).setCell ⟨q + 1 + 1, 3, none⟩ (.slice (some ⟨g, 0, none⟩) n c9)).cell? ⟨q + 1 + 1, 3, none⟩ = some (.slice (some ⟨g, 0, none⟩) n c9) := HZ.out.cell 3
          refine bodyPost_ret (v := .tuple #[.agg #[.int .i64 ti, .int .i64 tk, .string tt, .slice (some ⟨g, 0, none⟩) n c9], .bool true]) (by simp [results, Try.results19, go_sem, z0, z1, z2, z3]) rfl HF.out

theorem rreplace_any : ∀ (zs : List Int) (t : Nd) (a : Option Addr) (n cap : Nat) (pa : Option Addr) (pc : Nat) (b : Nd) (ba : Option Addr) (bn bc : Nat) (B : Nat) (w : World), B ≤ w.heap.size → KV (fun j => j < B) w a n cap t.kids → KV (fun j => j < B) w ba bn bc b.kids → t.cnt ≤ 100000 → Sli .i64 w pa pc zs → zs.length ≤ 100000 →
    Calls Try.prog 19 #[ndv t a n cap, .slice pa zs.length pc, ndv b ba bn bc] w (ReplP (fun j => j < B ∨ w.heap.size ≤ j) t zs b w)
  | [], t, a, n, cap, pa, pc, b, ba, bn, bc, B, w, hBw, hK, hB, hc, hp, hz => rreplace_nil t a n cap pa pc b ba bn bc B w hB
  | k :: z, t, a, n, cap, pa, pc, b, ba, bn, bc, B, w, hBw, hK, hB, hc, hp, hz => rreplace_cons _ k z t a n cap pa pc b ba bn bc B w (fun j => Iff.rfl) hBw hK hB hc hp hz (fun x u un uc qa qc W hx h1 h2 h3 h4 => rreplace_any z x u un uc qa qc b ba bn bc B W h1 h2 h3 (by have := t.kid_cnt hx; omega) h4 (by rw [List.length_cons] at hz; omega))

end Go.Proofs.Ytfecajeenmnoeaa

/- What a round of SyntaxReplace calls, under one set of values. Conditions: trees of at most 50000 nodes and 1000000 bytes, paths of at most 1000 indices. -/
namespace Go.Proofs.Ytfecajeenmnoeaa
open Go.RowKit Go.Shelf
set_option linter.unusedVariables false

/-- A call hands back a node (and ok). -/
def NdP (lo : Nat) (vi vk : Int) (vt : ByteArray) (nv : Nat) (kv : List Nd) (more : Array Value) (w : World) (e : Ending) (w' : World) : Prop :=
  ∃ (u : Option Addr) (c : Nat), e = .returned (.tuple (#[.agg #[.int .i64 vi, .int .i64 vk, .string vt, .slice u nv c]] ++ more)) ∧ KV (fun j => j < lo ∨ w.heap.size ≤ j) w' u nv c kv ∧ Below w.heap.size w w'
/-- What a round calls. -/
structure RPack (tv xv : Value) (zs : List Int) (L : Nat) (w8 : World) (yi yk : Int) (yt : ByteArray) (ny : Nat) (ky : List Nd) (ok : Bool) (ki kk : Int) (kt : ByteArray) (nk : Nat) (kks : List Nd) (o : Nat) (th : Bool) : Prop where
  prog : ∀ (W : World) (pa : Option Addr) (pc : Nat), Below w8.heap.size w8 W → Sli .i64 W pa pc zs → Calls Try.prog 29 #[tv, .slice pa L pc, xv] W (NdP w8.heap.size yi yk yt ny ky #[.bool ok] W)
  ref : ∀ (W : World) (pa : Option Addr) (pc : Nat), Below w8.heap.size w8 W → Sli .i64 W pa pc zs → Calls Try.prog 19 #[tv, .slice pa L pc, xv] W (NdP w8.heap.size yi yk yt ny ky #[.bool ok] W)
  same : ∀ (W : World) (u u' : Option Addr) (c c' : Nat), KV (fun _ => True) W u ny c ky → KV (fun _ => True) W u' ny c' ky → Calls Try.prog 26 #[.agg #[.int .i64 yi, .int .i64 yk, .string yt, .slice u ny c], .agg #[.int .i64 yi, .int .i64 yk, .string yt, .slice u' ny c']] W fun e w' => e = .returned (.bool true) ∧ Below W.heap.size W w'
  get : ∀ (W : World) (u : Option Addr) (c : Nat) (pa : Option Addr) (pc : Nat), KV (fun _ => True) W u ny c ky → Sli .i64 W pa pc zs → Calls Try.prog 30 #[.agg #[.int .i64 yi, .int .i64 yk, .string yt, .slice u ny c], .slice pa L pc] W (NdP w8.heap.size ki kk kt nk kks #[.int .i64 (o : Int), .bool th] W)
  put : ok = true → th = true ∧ ∀ (W : World) (u : Option Addr) (c : Nat), Below w8.heap.size w8 W → KV (fun _ => True) W u nk c kks → Calls Try.prog 26 #[.agg #[.int .i64 ki, .int .i64 kk, .string kt, .slice u nk c], xv] W fun e w' => e = .returned (.bool true) ∧ Below W.heap.size W w'

theorem repl_pack (t x : Nd) (ta xa : Option Addr) (tn tc xn xc : Nat) (zs : List Int) (w8 : World) (G G' : Nat → Prop) (hkt : KV G w8 ta tn tc t.kids) (hkx : KV G' w8 xa xn xc x.kids) (hct : t.cnt ≤ 50000) (hcx : x.cnt ≤ 50000) (hpt : t.pw ≤ 1000000) (hpx : x.pw ≤ 1000000) (hz : zs.length ≤ 1000) :
    ∃ yi yk yt ny ky ok ki kk kt nk kks o th, RPack (ndv t ta tn tc) (ndv x xa xn xc) zs zs.length w8 yi yk yt ny ky ok ki kk kt nk kks o th := by
  have hlt : ∀ (W : World), Below w8.heap.size w8 W → KV (fun j => j < w8.heap.size) W ta tn tc t.kids ∧ KV (fun j => j < w8.heap.size) W xa xn xc x.kids := fun W hW =>
    ⟨hkt.keep hW.size (fun j _ h => hW.block j h) (fun _ _ h => h), hkx.keep hW.size (fun j _ h => hW.block j h) (fun _ _ h => h)⟩
  have hxl := hkx.len.1
  cases hr : replN t zs x with
  | some y =>
    obtain ⟨g1, g2, _⟩ := replN_sz zs t x y hr
    obtain ⟨o, hg⟩ := replN_get zs t x y hr
    refine ⟨y.id, y.kind, y.text, y.kids.length, y.kids, true, x.id, x.kind, x.text, x.kids.length, x.kids, o, true, fun W pa pc hW hp => ?_, fun W pa pc hW hp => ?_, fun W u u' c c' h1 h2 => same_any y u _ c u' _ c' W _ h1 h2 (by omega), fun W u c pa pc h1 hp => ?_, fun _ => ⟨rfl, fun W u c hW h1 => ?_⟩⟩
    · refine (preplace_any t ta tn tc pa pc zs x xa xn xc W _ _ (hkt.on hW) (hkx.on hW) (by omega) (by omega) (by omega) hp (by omega)).mono ?_
      rintro e w' ⟨hb, ⟨y', u, c, h1, h2, h3⟩ | ⟨h1, _⟩⟩
      · rw [hr] at h1; cases h1
        exact ⟨u, c, h2, h3.keep (Nat.le_refl _) (fun _ _ _ => rfl) (fun _ h _ => .inr h), hb⟩
      · rw [hr] at h1; cases h1
    · refine (rreplace_any zs t ta tn tc pa pc x xa xn xc w8.heap.size W hW.size (hlt W hW).1 (hlt W hW).2 (by omega) hp (by omega)).mono ?_
      rintro e w' ⟨hb, ⟨y', u, c, h1, h2, h3⟩ | ⟨h1, _⟩⟩
      · rw [hr] at h1; cases h1
        exact ⟨u, c, h2, h3, hb⟩
      · rw [hr] at h1; cases h1
    · refine (pget_any y u _ c pa pc zs W _ h1 (by omega) (by omega) hp (by omega)).mono ?_
      rintro e w' ⟨hb, ⟨x', o', u, c, h1, h2, h3⟩ | ⟨h1, _⟩⟩
      · rw [hg] at h1; cases h1
        exact ⟨u, c, h2, h3.keep (Nat.le_refl _) (fun _ _ _ => rfl) (fun _ h _ => .inr h), hb⟩
      · rw [hg] at h1; cases h1
    · rw [← hxl]
      exact same_any x u _ c xa _ xc W (fun _ => True) h1 ((by rw [hxl]; exact hkx.on hW : KV G' W xa x.kids.length xc x.kids).keep (Nat.le_refl _) (fun _ _ _ => rfl) (fun _ _ _ => trivial)) (by omega)
  | none =>
    have hgz : getN (.mk 0 0 ⟨#[]⟩ []) zs = none := by
      cases zs with
      | nil => simp [replN] at hr
      | cons k z => rw [getN, dif_neg (by simp [Nd.kids])]
    have hz0 : ∀ (W : World) (P : Nat → Prop), KV P W none 0 0 ([] : List Nd) := fun W P => .nil (fun _ => rfl) (by omega)
    refine ⟨0, 0, ⟨#[]⟩, 0, [], false, 0, 0, ⟨#[]⟩, 0, [], 0, false, fun W pa pc hW hp => ?_, fun W pa pc hW hp => ?_, fun W u u' c c' h1 h2 => same_any (.mk 0 0 ⟨#[]⟩ []) u 0 c u' 0 c' W _ h1 h2 (by simp [Nd.cnt, cnts]), fun W u c pa pc h1 hp => ?_, fun h => by cases h⟩
    · refine (preplace_any t ta tn tc pa pc zs x xa xn xc W _ _ (hkt.on hW) (hkx.on hW) (by omega) (by omega) (by omega) hp (by omega)).mono ?_
      rintro e w' ⟨hb, ⟨y', u, c, h1, h2, h3⟩ | ⟨_, h1⟩⟩
      · rw [hr] at h1; cases h1
      · exact ⟨none, 0, h1, hz0 _ _, hb⟩
    · refine (rreplace_any zs t ta tn tc pa pc x xa xn xc w8.heap.size W hW.size (hlt W hW).1 (hlt W hW).2 (by omega) hp (by omega)).mono ?_
      rintro e w' ⟨hb, ⟨y', u, c, h1, h2, h3⟩ | ⟨_, h1⟩⟩
      · rw [hr] at h1; cases h1
      · exact ⟨none, 0, h1, hz0 _ _, hb⟩
    · refine (pget_any (.mk 0 0 ⟨#[]⟩ []) u 0 c pa pc zs W _ h1 (by simp [Nd.cnt, cnts]) (by simp [Nd.pw, pws, ByteArray.size]) hp (by omega)).mono ?_
      rintro e w' ⟨hb, ⟨x', o', u, c, h1, h2, h3⟩ | ⟨_, h1⟩⟩
      · rw [hgz] at h1; cases h1
      · exact ⟨none, 0, h1, hz0 _ _, hb⟩

end Go.Proofs.Ytfecajeenmnoeaa
