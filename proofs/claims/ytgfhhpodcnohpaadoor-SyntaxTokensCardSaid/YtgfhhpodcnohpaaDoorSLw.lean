/- SLw, with the texts that only it needs in front of it: SSp, SVi, SVs, SGw, SPl, SLv. It has no conditions. -/
import Derived.Test.YtgfhhpodcnohpaaDoorSNd
import Derived.Test.YtgfhhpodcnohpaaDoorGiv
import Derived.Test.YtgfhhpodcnohpaaDoorSRf
import Derived.Maps.OwnIn
import Derived.Deep.RegionHeld3
import Derived.Laws.EntriesVeiled

/- The shape of a tree in memory, with the addresses of its nodes; its places in preorder; the program's isLeaf. Conditions: the kids' slices are whole. -/
namespace Go.Proofs.YtgfhhpodcnohpaaDoor
open Go.RowKit Go.Shelf
set_option linter.unusedVariables false

/-- A node and what hangs on it lie in memory: the node at a path at the block and the place that ad names. The IDs are not looked at. -/
inductive SH (w : World) (ad : List Nat → Nat × Nat) : Nd → List Nat → Prop
  | mk {t : Nd} {p : List Nat} {a : Option Addr} {cap : Nat} (hb : (ad p).1 < w.heap.size)
      (h1 : w.cell? ⟨(ad p).1, (ad p).2 + 1, none⟩ = some (.int .i64 t.kind)) (h2 : w.cell? ⟨(ad p).1, (ad p).2 + 2, none⟩ = some (.string t.text)) (h3 : w.cell? ⟨(ad p).1, (ad p).2 + 3, none⟩ = some (.slice a t.kids.length cap))
      (hle : t.kids.length ≤ cap) (hmx : cap ≤ 9223372036854775807) (ha : ∀ i, i < t.kids.length → ∃ o, a = some ⟨(ad (p ++ [i])).1, o, none⟩ ∧ (ad (p ++ [i])).2 = o + i * 4)
      (hk : ∀ i (hi : i < t.kids.length), SH w ad t.kids[i] (p ++ [i])) : SH w ad t p
theorem SH.kid {w : World} {ad : List Nat → Nat × Nat} {t : Nd} {p : List Nat} (h : SH w ad t p) {i : Nat} (hi : i < t.kids.length) : SH w ad t.kids[i] (p ++ [i]) := by
  cases h with
  | mk hb h1 h2 h3 hle hmx ha hk => exact hk i hi
/-- A node's cells, wherever its block lies as it lay. -/
theorem SH.cells {w : World} {ad : List Nat → Nat × Nat} {t : Nd} {p : List Nat} (h : SH w ad t p) : ∃ b o a cap, ad p = (b, o) ∧ b < w.heap.size ∧ t.kids.length ≤ cap ∧ cap ≤ 9223372036854775807 ∧
    (∀ i, i < t.kids.length → ∃ b' o', a = some ⟨b', o', none⟩ ∧ ad (p ++ [i]) = (b', o' + i * 4)) ∧
    ∀ V : World, V.heap[b]? = w.heap[b]? → V.cell? ⟨b, o + 1, none⟩ = some (.int .i64 t.kind) ∧ V.cell? ⟨b, o + 2, none⟩ = some (.string t.text) ∧ V.cell? ⟨b, o + 3, none⟩ = some (.slice a t.kids.length cap) := by
  cases h with
  | @mk _ _ a cap hb h1 h2 h3 hle hmx ha hk =>
    refine ⟨(ad p).1, (ad p).2, a, cap, rfl, hb, hle, hmx, fun i hi => ?_, fun V hV => ?_⟩
    · obtain ⟨o, h4, h5⟩ := ha i hi
      exact ⟨_, o, h4, Prod.ext rfl h5⟩
    · simp only [World.cell?, hV] at h1 h2 h3 ⊢
      exact ⟨h1, h2, h3⟩

mutual
/-- How far the program's offset goes over a node: its own text if it is a leaf, and its kids'. -/
def Nd.pw : Nd → Nat
  | .mk _ k t ks => (if 0 ≤ k ∧ k ≤ 8 then t.size else 0) + pws ks
def pws : List Nd → Nat
  | [] => 0
  | x :: l => x.pw + pws l
end
theorem Nd.pw_eq (t : Nd) : t.pw = (if t.leaf then t.text.size else 0) + pws t.kids := by cases t; rw [Nd.pw]; rfl
theorem pws_app : ∀ (a b : List Nd), pws (a ++ b) = pws a + pws b
  | [], b => by simp [pws]
  | x :: a, b => by rw [List.cons_append, pws, pws, pws_app a b]; omega
theorem pws_take (l : List Nd) (k : Nat) (h : k < l.length) : pws (l.take (k + 1)) = pws (l.take k) + (l[k]).pw := by
  rw [List.take_succ_eq_append_getElem h, pws_app]; simp [pws]
theorem pws_le (l : List Nd) (k : Nat) : pws (l.take k) ≤ pws l := by
  have h : pws l = pws (l.take k) + pws (l.drop k) := by rw [← pws_app, List.take_append_drop]
  omega
theorem cnts_app : ∀ (a b : List Nd), cnts (a ++ b) = cnts a + cnts b
  | [], b => by simp [cnts]
  | x :: a, b => by rw [List.cons_append, cnts, cnts, cnts_app a b]; omega
theorem cnts_take (l : List Nd) (k : Nat) (h : k < l.length) : cnts (l.take (k + 1)) = cnts (l.take k) + (l[k]).cnt := by
  rw [List.take_succ_eq_append_getElem h, cnts_app]; simp [cnts]
theorem cnts_le (l : List Nd) (k : Nat) : cnts (l.take k) ≤ cnts l := by
  have h : cnts l = cnts (l.take k) + cnts (l.drop k) := by rw [← cnts_app, List.take_append_drop]
  omega
/-- A node of a tree, the path that leads to it, its offset. -/
structure Spot where
  path : List Nat
  nd : Nd
  off : Nat
mutual
/-- All nodes in preorder, as the program goes over them. -/
def spots : Nd → List Nat → Nat → List Spot
  | .mk i k t ks, p, o => ⟨p, .mk i k t ks, o⟩ :: spotsL ks p 0 (o + if 0 ≤ k ∧ k ≤ 8 then t.size else 0)
def spotsL : List Nd → List Nat → Nat → Nat → List Spot
  | [], _, _, _ => []
  | x :: l, p, i, o => spots x (p ++ [i]) o ++ spotsL l p (i + 1) (o + x.pw)
end
theorem spots_eq (t : Nd) (p : List Nat) (o : Nat) : spots t p o = ⟨p, t, o⟩ :: spotsL t.kids p 0 (o + if t.leaf then t.text.size else 0) := by cases t; rw [spots]; rfl
mutual
theorem spots_len : ∀ (t : Nd) (p : List Nat) (o : Nat), (spots t p o).length = t.cnt
  | .mk i k t ks, p, o => by rw [spots, List.length_cons, spotsL_len ks, Nd.cnt]
theorem spotsL_len : ∀ (l : List Nd) (p : List Nat) (i o : Nat), (spotsL l p i o).length = cnts l
  | [], p, i, o => by simp [spotsL, cnts]
  | x :: l, p, i, o => by rw [spotsL, List.length_append, spots_len x, spotsL_len l, cnts]
end
theorem spotsL_get : ∀ (l : List Nd) (p : List Nat) (i o k : Nat) (h : k < l.length), ∃ pre post, spotsL l p i o = pre ++ spots l[k] (p ++ [i + k]) (o + pws (l.take k)) ++ post ∧ pre.length = cnts (l.take k)
  | [], p, i, o, k, h => by simp at h
  | x :: l, p, i, o, 0, h => ⟨[], spotsL l p (i + 1) (o + x.pw), by rw [spotsL]; simp [pws], by simp [cnts]⟩
  | x :: l, p, i, o, k + 1, h => by
    obtain ⟨pre, post, h1, h2⟩ := spotsL_get l p (i + 1) (o + x.pw) k (by simpa using h)
    refine ⟨spots x (p ++ [i]) o ++ pre, post, ?_, ?_⟩
    · rw [spotsL, h1]
      simp only [List.getElem_cons_succ, List.take_succ_cons, pws]
      rw [show i + 1 + k = i + (k + 1) by omega, show o + x.pw + pws (l.take k) = o + (x.pw + pws (l.take k)) by omega]
      simp
    · rw [List.length_append, spots_len, h2, List.take_succ_cons, cnts]

set_option maxRecDepth 100000 in
set_option maxHeartbeats 1000000 in
theorem pisleaf_any (t : Nd) (b off : Nat) (w : World) (h1 : w.cell? ⟨b, off + 1, none⟩ = some (.int .i64 t.kind)) :
    Calls Tryd.prog 97 #[.pointer (some ⟨b, off, none⟩)] w fun e w' => e = .returned (.bool (decide t.leaf)) ∧ w' = w := by
  obtain ⟨k, hk⟩ : ∃ i, t.kind = i := ⟨_, rfl⟩
  have hd : decide t.leaf = decide (0 ≤ k ∧ k ≤ 8) := decide_eq_decide.2 (by unfold Nd.leaf; rw [hk])
  rw [hd]
  rw [hk] at h1
  clear hd hk
  by_cases z1 : 0 ≤ k
  · by_cases z2 : k ≤ 8
    · rw [show decide (0 ≤ k ∧ k ≤ 8) = true by simp; omega]
      go_enter Tryd.func97, Tryd.ntmps97
      go_wp2
      go_ret
      exact ⟨rfl, rfl⟩
    · rw [show decide (0 ≤ k ∧ k ≤ 8) = false by simp; omega]
      go_enter Tryd.func97, Tryd.ntmps97
      go_wp2
      go_ret
      exact ⟨rfl, rfl⟩
  · rw [show decide (0 ≤ k ∧ k ≤ 8) = false by simp; omega]
    go_enter Tryd.func97, Tryd.ntmps97
    go_wp2
    go_ret
    exact ⟨rfl, rfl⟩

end Go.Proofs.YtgfhhpodcnohpaaDoor

/- The iterator over the places of a tree: what it keeps, and its visit, by induction on the depth. Conditions: trees of at most 100000 nodes and 1000000000 bytes. -/
namespace Go.Proofs.YtgfhhpodcnohpaaDoor
open Go.RowKit Go.Shelf
set_option linter.unusedVariables false
attribute [local go_sem] Oper.semAt_some

/-- A path, as integers in memory. -/
abbrev ints (p : List Nat) : List Value := p.map fun (i : Nat) => Value.int .i64 (i : Int)
/-- What visit is. -/
abbrev vstF (y : Nat) : Value := .func (.func 117) #[] #[.pointer (some ⟨y, 0, none⟩), .pointer (some ⟨y + 1, 0, none⟩), .pointer (some ⟨y + 2, 0, none⟩), .pointer (some ⟨y + 3, 0, none⟩)]
/-- What the iterator keeps in blocks of its own: yield, the path, the offset, visit; and the path's row. -/
structure VSt (l y : Nat) (J : Nat → (Nat → Prop) → World → Prop) (k : Nat) (T : Nat → Prop) (p : List Nat) (o : Nat) (pv : Value) (V : World) : Prop where
  j : J k T V
  size : y + 4 ≤ V.heap.size
  box : Boxed V y 126 (.func (.yield l) #[] #[])
  path : Boxed V (y + 1) 22 pv
  off : Boxed V (y + 2) 3 (.int .i64 (o : Int))
  vis : Boxed V (y + 3) 127 (vstF y)
  row : V.ownsRow (y + 4) 3 1 pv p.length (ints p)
  noT : ∀ j, y ≤ j → j < y + 4 → ¬ T j
  noR : ∀ g, pv.ownBlock = some g → ¬ T g
theorem VSt.lt_T {l y k : Nat} {J : Nat → (Nat → Prop) → World → Prop} {T : Nat → Prop} {p : List Nat} {o : Nat} {pv : Value} {V : World} (h : VSt l y J k T p o pv V) (hsz : ∀ k T A, J k T A → ∀ j, T j → j < A.heap.size) : ∀ j, V.heap.size ≤ j → ¬ T j := fun j hj hT => by
  have := hsz _ _ _ h.j j hT; omega
/-- Behind a round. -/
theorem VSt.rnd {l y k : Nat} {J : Nat → (Nat → Prop) → World → Prop} {T T' : Nat → Prop} {p : List Nat} {o : Nat} {pv : Value} {V V' : World} (h : VSt l y J k T p o pv V) (hr : Rnd T T' V V') (hj : J (k + 1) T' V') : VSt l y J (k + 1) T' p o pv V' := by
  have hn : ∀ j, j < V.heap.size → ¬ T j → ¬ T' j := fun j hj hT h2 => (hr.grew j h2).elim hT (fun e => by omega)
  have hs := h.size
  have hb : ∀ j, y ≤ j → j < y + 4 → V'.heap[j]? = V.heap[j]? := fun j h1 h2 => hr.block j (by omega) (h.noT j h1 h2)
  exact ⟨hj, by have := hr.size; omega, (hb _ (by omega) (by omega)).trans h.box, (hb _ (by omega) (by omega)).trans h.path, (hb _ (by omega) (by omega)).trans h.off, (hb _ (by omega) (by omega)).trans h.vis,
    own_same h.row (fun g hg => hr.block g (h.row.lt g hg).2 (h.noR g hg)), fun j h1 h2 => hn j (by omega) (h.noT j h1 h2), fun g hg => hn g (h.row.lt g hg).2 (h.noR g hg)⟩
/-- The offset is set anew. -/
theorem VSt.setOff {l y k : Nat} {J : Nat → (Nat → Prop) → World → Prop} {T : Nat → Prop} {p : List Nat} {o : Nat} {pv : Value} {V : World} (h : VSt l y J k T p o pv V) (hO : ∀ k T A C, J k T A → Oth T y A C → J k T C) (o' : Nat) : VSt l y J k T p o' pv (V.setCell ⟨y + 2, 0, none⟩ (.int .i64 (o' : Int))) := by
  have hg := grownBy_setCell' V (y + 2) (.int .i64 (o' : Int))
  have hb : ∀ j, j < V.heap.size → j ≠ y + 2 → (V.setCell ⟨y + 2, 0, none⟩ (.int .i64 (o' : Int))).heap[j]? = V.heap[j]? := fun j h1 h2 => hg.block j h1 (fun e => h2 (by cases e; rfl))
  have hs := h.size
  refine ⟨hO _ _ _ _ h.j ⟨hg.os, hg.tape, hg.output, hg.size, fun j hj hh => hb j hj (fun e => ?_)⟩, by have := hg.size; omega, (hb _ (by omega) (by omega)).trans h.box, (hb _ (by omega) (by omega)).trans h.path, h.off.set _, (hb _ (by omega) (by omega)).trans h.vis,
    own_same h.row (fun g hg => hb g (h.row.lt g hg).2 (by have := (h.row.lt g hg).1; omega)), h.noT, h.noR⟩
  subst e
  exact hh.elim (fun e => by omega) (h.noT _ (by omega) (by omega))
/-- The path is set anew: its row may be another. -/
theorem VSt.setPath {l y k : Nat} {J : Nat → (Nat → Prop) → World → Prop} {T : Nat → Prop} {p p' : List Nat} {o : Nat} {pv pv' : Value} {V V1 : World} (h : VSt l y J k T p o pv V) (hO : ∀ k T A C, J k T A → Oth T y A C → J k T C) (hsz : ∀ k T A, J k T A → ∀ j, T j → j < A.heap.size)
    (ho : V1.os = V.os ∧ V1.tape = V.tape ∧ V1.output = V.output) (hs1 : V.heap.size ≤ V1.heap.size) (hb : ∀ j, j < V.heap.size → some j ≠ pv.ownBlock → V1.heap[j]? = V.heap[j]?)
    (hrow : V1.ownsRow (y + 4) 3 1 pv' p'.length (ints p')) (hat : ∀ g, pv'.ownBlock = some g → pv.ownBlock = some g ∨ V.heap.size ≤ g) : VSt l y J k T p' o pv' (V1.setCell ⟨y + 1, 0, none⟩ pv') := by
  have hg := grownBy_setCell' V1 (y + 1) pv'
  have hrl := h.row.lt
  have hs := h.size
  have hb2 : ∀ j, j < V.heap.size → some j ≠ pv.ownBlock → j ≠ y + 1 → (V1.setCell ⟨y + 1, 0, none⟩ pv').heap[j]? = V.heap[j]? := fun j h1 h2 h3 => (hg.block j (by omega) (fun e => h3 (by cases e; rfl))).trans (hb j h1 h2)
  have hnb : ∀ j, j < y + 4 → some j ≠ pv.ownBlock := fun j hj e => by have := (hrl j e.symm).1; omega
  refine ⟨hO _ _ _ _ h.j ⟨hg.os.trans ho.1, hg.tape.trans ho.2.1, hg.output.trans ho.2.2, Nat.le_trans hs1 hg.size, fun j hj hh => hb2 j hj (fun e => ?_) (fun e => ?_)⟩, by have := hg.size; omega, (hb2 _ (by omega) (hnb _ (by omega)) (by omega)).trans h.box, ?_, (hb2 _ (by omega) (hnb _ (by omega)) (by omega)).trans h.off, (hb2 _ (by omega) (hnb _ (by omega)) (by omega)).trans h.vis,
    own_same hrow (fun g hg' => hg.block g (hrow.lt g hg').2 (fun e => by have := (hrow.lt g hg').1; cases e; omega)), h.noT, fun g hg' => (hat g hg').elim (fun e => h.noR g e) (fun e => h.lt_T hsz g e)⟩
  · exact hh.elim (fun e2 => by have := (hrl j e.symm).1; omega) (h.noR j e.symm)
  · subst e; exact hh.elim (fun e2 => by omega) (h.noT _ (by omega) (by omega))
  · have h1 : Boxed V1 (y + 1) 22 pv := (hb _ (by omega) (hnb _ (by omega))).trans h.path
    exact h1.set _
theorem VSt.drew {l y k : Nat} {J : Nat → (Nat → Prop) → World → Prop} {T : Nat → Prop} {p : List Nat} {o : Nat} {pv : Value} {V : World} (h : VSt l y J k T p o pv V) (hO : ∀ k T A C, J k T A → Oth T y A C → J k T C) : VSt l y J k T p o pv V.drew :=
  ⟨hO _ _ _ _ h.j (Oth.of_below (Below.refl _ _).drew), h.size, h.box, h.path, h.off, h.vis, own_same h.row (fun _ _ => rfl), h.noT, h.noR⟩
end Go.Proofs.YtgfhhpodcnohpaaDoor

/- The iterator over the places of a tree: its visit, by induction on the depth. Conditions: trees of at most 100000 nodes and 1000000000 bytes. -/
namespace Go.Proofs.YtgfhhpodcnohpaaDoor
open Go.RowKit Go.Shelf
set_option linter.unusedVariables false
attribute [local go_sem] Oper.semAt_some

/-- A row without its last element. -/
theorem own_cut {w : World} {b g q c : Nat} {e : TypeId} {xs ys : List Value} {v : Value} (h : w.ownsRow b e 1 (.slice (some ⟨g, 0, none⟩) (q + 1) c) (q + 1) ys) (hy : ys = xs ++ [v]) (hx : xs.length = q) : (q + 1 ≤ c ∧ c ≤ maxLen) ∧ w.ownsRow b e 1 (.slice (some ⟨g, 0, none⟩) q c) q xs := by
  rcases h.2 with ⟨h0, _⟩ | ⟨g', cap, cur, h0, h1, h2, h3, h4, h5, h6⟩
  · cases h0
  · simp only [Value.slice.injEq, Option.some.injEq, Addr.mk.injEq] at h0
    obtain ⟨⟨rfl, _⟩, _, rfl⟩ := h0
    refine ⟨⟨h3, h4⟩, by omega, .inr ⟨g, c, cur, rfl, h1, h2, by omega, h4, h5, ?_⟩⟩
    rw [hy] at h6
    have h7 := congrArg (List.take q) h6
    rw [List.take_take, List.take_left' hx] at h7
    rw [← h7]
    congr 1
    omega
/-- What a round over the places owes. -/
def YIv (l y : Nat) (ad : List Nat → Nat × Nat) (S : List Spot) (J : Nat → (Nat → Prop) → World → Prop) (St : (Nat → Prop) → World → Prop) : Prop :=
  ∀ k (hk : k < S.length) T W1 pv, y ≤ W1.heap.size → J k T W1 → W1.ownsRow y 3 1 pv S[k].path.length (ints S[k].path) → (∀ g, pv.ownBlock = some g → ¬ T g) →
    YieldAt Fence.wide 0 Tryd.prog l #[.agg #[.pointer (some ⟨(ad S[k].path).1, (ad S[k].path).2, none⟩), pv, .int .i64 (S[k].off : Int)]] W1 fun e W' => ∃ T', (e = .returned (.bool true) ∧ Rnd T T' W1 W' ∧ J (k + 1) T' W') ∨ (e = .returned (.bool false) ∧ Rnd (fun j => T j ∨ j = l) (fun j => T' j ∨ j = l) W1 W' ∧ St T' W')

set_option maxRecDepth 100000 in
set_option maxHeartbeats 4000000 in
theorem visit_any (l y : Nat) (ad : List Nat → Nat × Nat) (S : List Spot) (J : Nat → (Nat → Prop) → World → Prop) (St : (Nat → Prop) → World → Prop)
    (HO : Hid (∀ k T A C, J k T A → Oth T y A C → J k T C)) (HZ : Hid (∀ k T A, J k T A → ∀ j, T j → j < A.heap.size)) (HY : Hid (YIv l y ad S J St)) :
    ∀ (d : Nat) (t : Nd) (p : List Nat) (o k : Nat) (T : Nat → Prop) (pv : Value) (V : World), t.dep ≤ d → t.cnt ≤ 100000 → p.length + t.dep ≤ 100000 → o + t.pw ≤ 1000000000 →
      (∀ k T A, J k T A → SH A ad t p) → (∃ pre post, S = pre ++ spots t p o ++ post ∧ pre.length = k) → VSt l y J k T p o pv V →
      CallsIn Fence.wide 0 Tryd.prog 117 #[.pointer (some ⟨(ad p).1, (ad p).2, none⟩), .pointer (some ⟨y, 0, none⟩), .pointer (some ⟨y + 1, 0, none⟩), .pointer (some ⟨y + 2, 0, none⟩), .pointer (some ⟨y + 3, 0, none⟩)] V
        fun e V' => (e = .returned (.bool true) ∧ ∃ T' pv', VSt l y J (k + t.cnt) T' p (o + t.pw) pv' V') ∨ (e = .returned (.bool false) ∧ ∃ T', St T' V')
  | 0, t, p, o, k, T, pv, V, hd, hc, hpl, hw, hSh, hS, hV => by have := t.dep_eq; omega
  | d + 1, t, p, o, k, T, pv, V, hd, hc, hpl, hw, hSh, hS, hV => by
    obtain ⟨pre, post, hSe, hpre⟩ := hS
    have hse := spots_eq t p o
    obtain ⟨b, f, a, cap, had, hb, hle, hmx, hkad, hcell⟩ := (hSh _ _ _ hV.j).cells
    have hkS : k < S.length := by rw [hSe, List.length_append, List.length_append, spots_len, hpre]; have := t.cnt_eq; omega
    have hSk : S[k] = ⟨p, t, o⟩ := by
      have : S[k]? = some ⟨p, t, o⟩ := by
        rw [hSe, hse, List.append_assoc, List.getElem?_append_right (by omega), hpre, Nat.sub_self]; rfl
      exact (List.getElem?_eq_some_iff.1 this).2
    have hys := hV.size
    have hY := HY.out k hkS T V pv (by omega) hV.j
    rw [hSk] at hY
    have hY1 := hY (own_base2 hV.row (by omega)) hV.noR
    obtain ⟨pa, pc, rfl⟩ := own_slice hV.row
    dsimp only at hY1
    rw [had] at hY1 ⊢
    dsimp only at hY1 ⊢
    obtain ⟨fn, tmps, assign, body, hy, hR⟩ := hY1
    have HR := Lib.hid hR; have HV := Lib.hid hV; have HSH := Lib.hid hSh
    have cb := hV.box.cell; have cp := hV.path.cell; have co := hV.off.cell
    have HAD := Lib.hid had; have HSE := Lib.hid hSe; have HPRE := Lib.hid hpre
    have hpe := t.pw_eq; have hce := t.cnt_eq; have hde := t.dep_eq
    have hkl := t.kids_len
    have hkd : ∀ x ∈ t.kids, x.dep ≤ d ∧ x.cnt ≤ 100000 ∧ x.dep + 1 ≤ t.dep := fun x hx => by have := t.kid_dep hx; have := t.kid_cnt hx; omega
    have HKD := Lib.hid hkd
    obtain ⟨n, hn⟩ : ∃ n, t.kids.length = n := ⟨_, rfl⟩
    obtain ⟨q, hq⟩ : ∃ q, p.length = q := ⟨_, rfl⟩
    have hq5 : q ≤ 100000 := by omega
    have hn5 : n ≤ 100000 := by omega
    rw [hq] at cp hy
    have HN := Lib.hid hn; have HQ := Lib.hid hq
    have HPL := Lib.hid hpl; have HPE := Lib.hid hpe; have HCE := Lib.hid hce; have HW := Lib.hid hw
    clear hR hV hSh hcell hkad hY hse hSk hSe hpre had hpe hce hde hkl hkd hn hq hle hmx hb hd hc hpl hw
    refine callsIn_of_wp Tryd.func117 rfl trivial ?_ rfl
    simp only [Tryd.ntmps117, List.size_toArray, List.length_cons, List.length_nil, Nat.reduceAdd, Nat.reduceSub, Array.replicate_succ, Array.replicate_zero, List.push_toArray, List.append_toArray, List.nil_append, List.cons_append]
    gi_wp2
    refine ⟨rfl, HR.out.mono ?_⟩
    rintro e W4 ⟨T4, ⟨rfl, hr, hJ⟩ | ⟨rfl, hr, hJ⟩⟩
    · have HV4 : Hid (VSt l y J (k + 1) T4 p o (.slice pa p.length pc) W4) := HV.out.rnd hr hJ
      obtain ⟨b4, f4, a4, cap4, had4, hb4, hle4, hmx4, hkad4, hcell4⟩ := (HSH.out _ _ _ hJ).cells
      have hbf : b4 = b ∧ f4 = f := by
        have := had4.symm.trans HAD.out
        exact ⟨congrArg Prod.fst this, congrArg Prod.snd this⟩
      obtain ⟨rfl, rfl⟩ := hbf
      have HC4 := Lib.hid hcell4
      obtain ⟨d1, d2, d3⟩ := HC4.out W4 rfl
      have CL := Lib.hid (pisleaf_any t b4 f4 W4 d1)
      have co4 := HV4.out.off.cell
      have hfr := HV4.out.off.frozen
      rw [HN.out] at d3
      obtain ⟨tx, htx⟩ : ∃ x, t.text = x := ⟨_, rfl⟩
      obtain ⟨kd, hkd⟩ : ∃ x, t.kind = x := ⟨_, rfl⟩
      rw [htx] at d2
      rw [hkd] at d1
      have HTX := Lib.hid htx
      have hotx : t.leaf → o + tx.size ≤ 1000000000 := fun h => by
        have h1 := HPE.out; have h2 := HW.out
        rw [if_pos h, HTX.out] at h1; omega
      have HL : Hid (∃ o1, o1 = o + (if t.leaf then tx.size else 0) ∧ o1 + pws t.kids ≤ 1000000000) := ⟨_, rfl, by have h1 := HPE.out; have h2 := HW.out; rw [HTX.out] at h1; omega⟩
      clear hr hJ hy HR HV cb cp co had4 hb4 hle4 hmx4 hkad4 hcell4 htx hkd hys hkS
      have HKC : Hid (∀ k T A, J k T A → ∃ a cap, A.cell? ⟨b4, f4 + 3, none⟩ = some (.slice a n cap) ∧ n ≤ cap ∧ cap ≤ 9223372036854775807 ∧ ∀ i, i < n → ∃ b' o', a = some ⟨b', o', none⟩ ∧ ad (p ++ [i]) = (b', o' + i * 4)) := fun k T A h => by
        obtain ⟨b5, f5, a5, cap5, had5, hb5, hle5, hmx5, hkad5, hcell5⟩ := (HSH.out _ _ _ h).cells
        have hbf : b5 = b4 ∧ f5 = f4 := by
          have := had5.symm.trans HAD.out
          exact ⟨congrArg Prod.fst this, congrArg Prod.snd this⟩
        obtain ⟨rfl, rfl⟩ := hbf
        rw [HN.out] at hle5 hkad5 hcell5
        exact ⟨a5, cap5, (hcell5 A rfl).2.2, hle5, hmx5, hkad5⟩
      by_cases hlf : t.leaf
      case' pos =>
        rw [show decide t.leaf = true by simp [hlf]] at CL
        have hob := hotx hlf
        have m1 : IntKind.i64.wrap ((o : Int) + (tx.size : Int)) = ((o + tx.size : Nat) : Int) := by simp [IntKind.wrap, IntKind.signed, IntKind.bits]; omega
        have HO1 : Hid (∃ o1, o1 = o + tx.size ∧ o1 + pws t.kids ≤ 1000000000 ∧ o1 = o + (if t.leaf then t.text.size else 0)) := by
          obtain ⟨o1, h1, h2⟩ := HL.out
          rw [if_pos hlf] at h1
          exact ⟨o1, h1, h2, by rw [if_pos hlf, HTX.out]; exact h1⟩
        have HV5 : Hid (VSt l y J (k + 1) T4 p (o + tx.size) (.slice pa p.length pc) (W4.setCell ⟨y + 2, 0, none⟩ (.int .i64 ((o : Int) + (tx.size : Int)))).drew) := by
          have := (HV4.out.setOff HO.out (o + tx.size)).drew HO.out
          rwa [Int.natCast_add] at this
        clear hotx HL
        gi_wp2_with (refine ⟨trivial, rfl, ?_⟩; gi_at_call 97; refine (callsIn_wide.2 CL.out).mono ?_; rintro e w' ⟨rfl, rfl⟩)
        gi_region
        obtain ⟨X, hX⟩ : ∃ X, (w'.setCell ⟨y + 2, 0, none⟩ (.int .i64 ((o : Int) + (tx.size : Int)))).drew = X := ⟨_, rfl⟩
        rw [hX] at HV5 ⊢
        obtain ⟨o1, h1, h2, h3⟩ := HO1.out
        rw [← h1] at HV5
        have H1 := Lib.hid h2; have H2 := Lib.hid h3; have H3 := Lib.hid h1
        clear hX h1 h2 h3 d1 d2 d3 co4 hfr HC4 CL HV4 HO1
        obtain ⟨a5, cap5, d3, hle5, hmx5, _⟩ := HKC.out _ _ _ HV5.out.j
        gi_wp2
      case' neg =>
        rw [show decide t.leaf = false by simp [hlf]] at CL
        gi_wp2_with (refine ⟨trivial, rfl, ?_⟩; gi_at_call 97; refine (callsIn_wide.2 CL.out).mono ?_; rintro e w' ⟨rfl, rfl⟩)
        obtain ⟨X, hX⟩ : ∃ X, w' = X := ⟨_, rfl⟩
        rw [hX] at HV4 ⊢
        have HV5 := HV4
        obtain ⟨o1, h1, h2⟩ := HL.out
        rw [if_neg hlf] at h1
        have h3 : o = o1 := by omega
        have H1 := Lib.hid h2
        have H2 : Hid (o1 = o + if t.leaf then t.text.size else 0) := by show _ = _; rw [if_neg hlf]; omega
        rw [h3] at HV5
        have H3 := Lib.hid h3
        clear hX h1 h2 h3 d1 d2 d3 co4 hfr HC4 CL HV4 HL hotx
      all_goals
        clear hlf HTX
        gi_loopw [29] (fun i wr => ∃ (j : Nat) (T' : Nat → Prop) (pv' : Value), i = .int .i64 (j : Int) ∧ j ≤ n ∧ Hid (VSt l y J (k + 1 + cnts (t.kids.take j)) T' p (o1 + pws (t.kids.take j)) pv' wr)) (fun i _ => n - (intOf i).toNat)
        case atStart => exact ⟨0, T4, _, rfl, by omega, by simpa [cnts, pws] using HV5⟩
        case round =>
          obtain ⟨j, T', pv', rfl, hj, HVj⟩ := hrel
          by_cases hjn : j < n
          · have hjn2 : (j : Int) < (n : Int) := by omega
            have m2 : IntKind.i64.wrap ((j : Int) + 1) = (j : Int) + 1 := by simp [IntKind.wrap, IntKind.signed, IntKind.bits]; omega
            have hrowj := HVj.out.row
            obtain ⟨pj, cj, rfl⟩ := own_slice hrowj
            have cpj := HVj.out.path.cell
            have fpj := HVj.out.path.frozen
            rw [HQ.out] at hrowj
            have hysj := HVj.out.size
            obtain ⟨W1, hW1⟩ : ∃ W1, wr.alloc (.cells #[.int .i64 (j : Int)] 3) = W1 := ⟨_, rfl⟩
            have HW1 := Lib.hid hW1
            have hb1 : Below wr.heap.size wr W1 := by rw [← hW1]; exact (Below.refl _ _).alloc (Nat.le_refl _) _
            have HB1 := Lib.hid hb1
            have HRj : Hid (W1.ownsRow (y + 4) 3 1 (.slice pj q cj) q (ints p)) := own_same hrowj (fun g hg => hb1.block g (hrowj.lt g hg).2)
            have HNW : Hid (∀ i u, ([.int .i64 (j : Int)] : List Value)[i]? = some u → W1.cell? ((⟨wr.heap.size, 0, none⟩ : Addr).add i) = some u) := fun i u h => by
              have hk : Blk W1 wr.heap.size 3 #[.int .i64 (j : Int)] := by rw [← hW1]; exact Blk.new _ _ _
              cases i with
              | zero => simp at h; subst h; exact hk.cell 0
              | succ i => simp at h
            have hz1 : y + 4 ≤ W1.heap.size := by have := hb1.size; omega
            obtain ⟨i3, hi3, iy0, iy1, iy2⟩ := info_parts info3
            rw [HQ.out] at cpj
            have hjk : j < t.kids.length := by rw [HN.out]; exact hjn
            obtain ⟨x, hx⟩ : ∃ x, t.kids[j] = x := ⟨_, rfl⟩
            have hxm : x ∈ t.kids := by rw [← hx]; exact List.getElem_mem hjk
            obtain ⟨c, hc⟩ : ∃ c, k + 1 + cnts (t.kids.take j) = c := ⟨_, rfl⟩
            obtain ⟨oj, hoj⟩ : ∃ c, o1 + pws (t.kids.take j) = c := ⟨_, rfl⟩
            rw [hc, hoj] at HVj
            have HNX : Hid (k + 1 + cnts (t.kids.take (j + 1)) = c + x.cnt ∧ o1 + pws (t.kids.take (j + 1)) = oj + x.pw) := by
              rw [cnts_take _ _ hjk, pws_take _ _ hjk, hx, ← hc, ← hoj]
              show _ ∧ _
              omega
            have HREC : Hid (∀ T0 pv0 X0, VSt l y J c T0 (p ++ [j]) oj pv0 X0 → CallsIn Fence.wide 0 Tryd.prog 117 #[.pointer (some ⟨(ad (p ++ [j])).1, (ad (p ++ [j])).2, none⟩), .pointer (some ⟨y, 0, none⟩), .pointer (some ⟨y + 1, 0, none⟩), .pointer (some ⟨y + 2, 0, none⟩), .pointer (some ⟨y + 3, 0, none⟩)] X0
                fun e V' => (e = .returned (.bool true) ∧ ∃ T' pv', VSt l y J (c + x.cnt) T' (p ++ [j]) (oj + x.pw) pv' V') ∨ (e = .returned (.bool false) ∧ ∃ T', St T' V')) := fun T0 pv0 X0 h => by
              obtain ⟨k1, k2, k3⟩ := HKD.out x hxm
              obtain ⟨pr2, po2, e1, e2⟩ := spotsL_get t.kids p 0 o1 j hjk
              have hb := HNX.out.2
              have hb2 := pws_le t.kids (j + 1)
              have hb3 := H1.out
              have hP := HPL.out
              refine visit_any l y ad S J St HO HZ HY d x (p ++ [j]) oj c T0 pv0 X0 k1 k2 (by rw [List.length_append, List.length_singleton]; omega) (by omega) (fun k T A h => by have := (HSH.out k T A h).kid hjk; rwa [hx] at this) ⟨pre ++ ⟨p, t, o⟩ :: pr2, po2 ++ post, ?_, ?_⟩ h
              · rw [HSE.out, spots_eq, ← H2.out, e1, hx, hoj, Nat.zero_add]
                simp
              · rw [List.length_append, List.length_cons, e2, HPRE.out, ← hc]; omega
            have HPK : Hid (∀ w6, W1.grownBy w6 (Value.slice pj q cj).ownBlock → Boxed w6 (y + 1) 22 (.slice pj q cj)) := fun w6 hg => by
              have h1 := HVj.out.path
              rw [HQ.out] at h1
              refine (hg.block (y + 1) (by omega) (fun e => ?_)).trans ((hb1.block (y + 1) (by omega)).trans h1)
              have := (HRj.out.lt (y + 1) e.symm).1
              omega
            have HAT : Hid (∀ w6 g6 c6, w6.ownsRow (y + 4) 3 1 (.slice (some ⟨g6, 0, none⟩) (q + 1) c6) (q + 1) (ints p ++ [.int .i64 (j : Int)]) → W1.grownBy w6 (Value.slice pj q cj).ownBlock → ((Value.slice (some ⟨g6, 0, none⟩) (q + 1) c6).ownBlock = (Value.slice pj q cj).ownBlock ∨ (Value.slice (some ⟨g6, 0, none⟩) (q + 1) c6).ownBlock = some W1.heap.size) →
                VSt l y J c T' (p ++ [j]) oj (.slice (some ⟨g6, 0, none⟩) (q + 1) c6) (w6.setCell ⟨y + 1, 0, none⟩ (.slice (some ⟨g6, 0, none⟩) (q + 1) c6))) := fun w6 g6 c6 h1 h2 h3 => by
              have hv := HVj.out
              rw [HQ.out] at hv
              refine hv.setPath HO.out HZ.out ⟨h2.os.trans HB1.out.os, h2.tape.trans HB1.out.tape, h2.output.trans HB1.out.output⟩ (Nat.le_trans HB1.out.size h2.size) (fun i hi hne => (h2.block i (by have := HB1.out.size; omega) hne).trans (HB1.out.block i hi)) ?_ (fun g hg => ?_)
              · rw [List.length_append, List.length_singleton, HQ.out, ints, List.map_append]; exact h1
              · rw [hg] at h3
                exact h3.imp Eq.symm (fun e => by have := HB1.out.size; cases e; omega)
            have hmx : Tryd.prog.follows .mixedOrders = true := by kernel_rfl
            clear hrowj hb1 hW1 hx hxm hc hoj hjk
            gi_wp2_with (gi_at_builtin; rw [show wr.alloc (.cells #[.int .i64 (j : Int)] 3) = W1 from HW1.out]; refine wpListIn_append_own_at _ rfl _ _ 22 rfl (y + 4) 3 i3 (.int .i64 0) 1 8 Tryd.underlying22 hi3 iy0 iy1 iy2 rfl (by decide) (.slice pj q cj) q (ints p) rfl HRj.out ⟨wr.heap.size, 0, none⟩ 1 1 [.int .i64 (j : Int)] rfl rfl HNW.out (by intro u hu; simp at hu; subst hu; rfl) (by unfold maxLen; omega) (by omega) hz1 ?_; intro v6 w6 hown6 hgrow6 hnn6 hat6; obtain ⟨g6, c6, rfl⟩ := ownsRow_succ hown6; have cp6 := (HPK.out w6 hgrow6).cell; have fp6 := (HPK.out w6 hgrow6).frozen)
            have HV7 := Lib.hid (HAT.out w6 g6 c6 hown6 hgrow6 hat6)
            obtain ⟨W7, hW7⟩ : ∃ W7, w6.setCell ⟨y + 1, 0, none⟩ (.slice (some ⟨g6, 0, none⟩) (q + 1) c6) = W7 := ⟨_, rfl⟩
            rw [hW7] at HV7 ⊢
            have HV8 := Lib.hid (HV7.out.drew HO.out)
            obtain ⟨a7, cap7, d7, hle7, hmx7, hkad7⟩ := HKC.out _ _ _ HV7.out.j
            obtain ⟨b7, f7, rfl, had7⟩ := hkad7 j hjn
            have cv7 := HV7.out.vis.cell
            have HREC8 : Hid (CallsIn Fence.wide 0 Tryd.prog 117 #[.pointer (some ⟨b7, f7 + j * 4, none⟩), .pointer (some ⟨y, 0, none⟩), .pointer (some ⟨y + 1, 0, none⟩), .pointer (some ⟨y + 2, 0, none⟩), .pointer (some ⟨y + 3, 0, none⟩)] W7.drew
                fun e V' => ∃ bb : Bool, e = .returned (.bool bb) ∧ Hid ((bb = true → ∃ T' pv', VSt l y J (c + x.cnt) T' (p ++ [j]) (oj + x.pw) pv' V') ∧ (bb = false → ∃ T', St T' V'))) := by
              have h := HREC.out _ _ _ HV8.out
              rw [had7] at h
              refine h.mono ?_
              rintro e V' (⟨rfl, h⟩ | ⟨rfl, h⟩)
              · exact ⟨true, rfl, Lib.hid ⟨fun _ => h, (fun e => by cases e)⟩⟩
              · exact ⟨false, rfl, Lib.hid ⟨(fun e => by cases e), fun _ => h⟩⟩
            dsimp only [vstF] at cv7
            clear hW7 hown6 hgrow6 hnn6 hat6 cp6 fp6 hkad7 had7 cpj fpj HREC HPK HAT HVj HB1 HW1 HRj HNW hz1
            gi_region_with_o (first | (refine ⟨trivial, rfl, ?_⟩; gi_at_call 117; refine HREC8.out.mono ?_; rintro e w8 ⟨bb, rfl, H8⟩))
            all_goals
              clear HREC8 HV7 HV8 cv7 d7 hle7 hmx7
              cases bb with
              | false =>
                obtain ⟨T8, h8⟩ := H8.out.2 rfl
                have HF := Lib.hid h8
                clear H8 h8
                gi_wp2
                go_ret
                exact .inr ⟨rfl, T8, HF.out⟩
              | true =>
                obtain ⟨T8, pv8, h8⟩ := H8.out.1 rfl
                have hrow8 := h8.row
                rw [List.length_append, List.length_singleton, HQ.out] at hrow8
                obtain ⟨g8, c8, rfl⟩ := ownsRow_succ hrow8
                obtain ⟨hc8, hrow9⟩ := own_cut hrow8 (by show (ints (p ++ [j])) = ints p ++ [.int .i64 (j : Int)]; simp [ints]) (by simp [ints, HQ.out])
                have cp8 := h8.path.cell
                have fp8 := h8.path.frozen
                have HV9 : Hid (VSt l y J (k + 1 + cnts (t.kids.take (j + 1))) T8 p (o1 + pws (t.kids.take (j + 1))) (.slice (some ⟨g8, 0, none⟩) q c8) (w8.setCell ⟨y + 1, 0, none⟩ (.slice (some ⟨g8, 0, none⟩) q c8))) := by
                  rw [HNX.out.1, HNX.out.2]
                  exact h8.setPath HO.out HZ.out ⟨rfl, rfl, rfl⟩ (Nat.le_refl _) (fun _ _ _ => rfl) (by rw [HQ.out]; exact hrow9) (fun g hg => .inl hg)
                have m3 : IntKind.i64.wrap (((q + 1 : Nat) : Int) - 1) = (q : Int) := by simp [IntKind.wrap, IntKind.signed, IntKind.bits]; omega
                have m4 : IntKind.i64.wrap ((q : Int) + 1 - 1) = (q : Int) := by simp [IntKind.wrap, IntKind.signed, IntKind.bits]; omega
                have hy8 := h8.size
                clear h8 H8 hrow8 hrow9
                gi_wp2
                go_roundw
                case rel => exact ⟨j + 1, T8, _, by go_num, by omega, HV9⟩
                case measure => simp [intOf]; omega
          · have hin2 : ¬ ((j : Int) < (n : Int)) := by omega
            obtain rfl : j = n := by omega
            have hall : t.kids.take j = t.kids := List.take_of_length_le (Nat.le_of_eq HN.out)
            rw [hall] at HVj
            have HFIN : Hid (VSt l y J (k + t.cnt) T' p (o + t.pw) pv' wr) := by
              have h1 := HCE.out; have h2 := HPE.out; have h3 := H2.out
              have h4 := HVj.out
              rw [show k + 1 + cnts t.kids = k + t.cnt by omega, show o1 + pws t.kids = o + t.pw by omega] at h4
              exact h4
            clear hall
            gi_wp2
            go_ret
            exact .inl ⟨rfl, T', pv', HFIN.out⟩
    · gi_wp2
      go_ret
      exact .inr ⟨rfl, T4, hJ⟩

end Go.Proofs.YtgfhhpodcnohpaaDoor

/- A range over the places of a tree: the contract of such an iterator, and the law of the loop over it, with rounds that may end the function. Conditions: a round is left off its end or by a return. -/
namespace Go.Proofs.YtgfhhpodcnohpaaDoor
open Go.RowKit Go.Shelf
set_option linter.unusedVariables false

/-- An iterator that goes over the places S of the tree t, which lies at ad. -/
def Giw (g : Nat) (lb : Array Value) (ad : List Nat → Nat × Nat) (t : Nd) (S : List Spot) (w : World) : Prop :=
  ∀ (l : Nat) (J : Nat → (Nat → Prop) → World → Prop) (St : (Nat → Prop) → World → Prop) (T₀ : Nat → Prop) (W : World), Below w.heap.size w W → l < W.heap.size →
    (∀ k T A, J k T A → ∀ j, T j → j < A.heap.size) → (∀ k T A C, J k T A → Oth T W.heap.size A C → J k T C) → (∀ T A C, St T A → Oth T W.heap.size A C → St T C) → (∀ k T A, J k T A → SH A ad t []) →
    YIv l W.heap.size ad S J St → J 0 T₀ W →
    CallsIn Fence.wide 0 Tryd.prog g (#[.func (.yield l) #[] #[]] ++ lb) W fun e W' => (∃ v, e = .returned v) ∧ ∃ T', J S.length T' W' ∨ St T' W'

/-- How a round's body is left. -/
def goOnX (I : Nat → (Nat → Prop) → World → Prop) (St : (Nat → Prop) → World → Prop) (T : Nat → Prop) (k : Nat) (W : World) : Exit → Act → World → Prop
  | .normal, _, W' => ∃ T', I (k + 1) T' W' ∧ Rnd T T' W W'
  | .ret, _, W' => ∃ T', St T' W' ∧ Rnd T T' W W'
  | _, _, _ => False

/-- The record of a loop that a return has ended. -/
abbrev rcr (fn : FuncId) (tm : Array Value) (ps : Array Tmp) (assign body : Code) (df : Nat) : Loop := { state := .done, pending := some .ret, fn, tmps := tm, params := ps, assign, body, defers := df }

theorem one_roundX {P : Program} {l ws df : Nat} {fn : FuncId} {ps : Array Tmp} {assign body : Code} {tm : Array Value} (hfn : Fence.wide.fn fn)
    {vs : Array Value} (hps : vs.size = ps.size) {I : Nat → (Nat → Prop) → World → Prop} {St : (Nat → Prop) → World → Prop}
    (hI : ∀ k T A C, I k T A → Oth T ws A C → I k T C) (hSt : ∀ T A C, St T A → Oth T ws A C → St T C) (hw : ws ≤ l)
    {k : Nat} {T : Nat → Prop} {W : World} (hl : W.heap[l]? = some (.loop (rcd fn tm ps assign body df .ready))) (hlt : ¬ T l) (hi : I k T W)
    (a₁ : Act) (W2 : World) (hW2 : Below W.heap.size W W2)
    (hassign : ∀ (K : Act → World → Prop), K a₁ W2 → assign.wpIn (Fence.wide.inRound l) 0 P (Exit.then K (fun _ _ _ => False)) { tmps := (ps.zip vs).foldl (fun t (p, v) => t.setIfInBounds p v) tm, defers := [] } W)
    (hbody : ∀ (A : World), A.heap.size = W2.heap.size → (∀ j, j ≠ l → A.heap[j]? = W2.heap[j]?) → (∃ r, A.heap[l]? = some (.loop r)) → I k T A → body.wpIn (Fence.wide.inRound l) 0 P (goOnX I St T k A) a₁ A) :
    YieldAt Fence.wide 0 P l vs W fun e W' => ∃ T', ¬ T' l ∧ ((e = .returned (.bool true) ∧ Rnd T T' W W' ∧ I (k + 1) T' W' ∧ W'.heap[l]? = some (.loop (rcd fn tm ps assign body df .ready))) ∨
      (e = .returned (.bool false) ∧ Rnd (fun j => T j ∨ j = l) (fun j => T' j ∨ j = l) W W' ∧ St T' W' ∧ W'.heap[l]? = some (.loop (rcr fn tm ps assign body df)))) := by
  have hls : l < W.heap.size := (Array.getElem?_eq_some_iff.1 hl).1
  have hz2 := hW2.size
  refine ⟨fn, _, assign, body, run_yield (P := P) (args := vs) hl hps, roundIn_wide (n := 0) (roundIn_of_wpIn hfn (hassign _ ⟨_, run_beginRound (P := P) (r := rcd fn tm ps assign body df .ready) ((hW2.block l hls).trans hl) rfl, ?_⟩))⟩
  have hi0 : I k T W2 := hI _ _ _ _ hi (Oth.of_below hW2)
  obtain ⟨A, hA⟩ : ∃ A, W2.putObj l (.loop (rcd fn tm ps assign body df .busy)) = A := ⟨_, rfl⟩
  rw [show (World.putObj W2 l (Obj.loop _)) = A from hA]
  have hsA : A.heap.size = W2.heap.size := by rw [← hA]; simp
  have hlA : A.heap[l]? = some (.loop (rcd fn tm ps assign body df .busy)) := by rw [← hA]; exact World.putObj_heap_same (by omega)
  have hiA : I k T A := by rw [← hA]; exact hI _ _ _ _ hi0 (Oth.putObj _ hw hlt)
  have hoA : ∀ j, j ≠ l → A.heap[j]? = W2.heap[j]? := fun j hj => by rw [← hA]; exact World.putObj_heap_other hj
  refine wpIn_mono (hbody A hsA hoA ⟨_, hlA⟩ hiA) ?_
  rintro e a3 W3 hp
  cases e with
  | normal =>
    obtain ⟨T', hi3, hr3⟩ := hp
    have hl3 := (hr3.block l (by omega) hlt).trans hlA
    have hlt' : ¬ T' l := fun h => (hr3.grew _ h).elim hlt (fun e => by omega)
    have h3s := hr3.size
    refine ⟨_, _, run_endRound none hl3, T', hlt', .inl ⟨rfl, ⟨by simp; omega, fun j hj hT => ?_, fun j hj => (hr3.grew j hj).imp id (fun e => by omega)⟩, hI _ _ _ _ hi3 (Oth.putObj _ hw hlt'), World.putObj_heap_same (by omega)⟩⟩
    by_cases he : j = l
    · subst he; exact (World.putObj_heap_same (by omega)).trans hl.symm
    · rw [World.putObj_heap_other he, hr3.block j (by omega) hT, hoA j he]; exact hW2.block j hj
  | ret =>
    obtain ⟨T', hi3, hr3⟩ := hp
    have hl3 := (hr3.block l (by omega) hlt).trans hlA
    have hlt' : ¬ T' l := fun h => (hr3.grew _ h).elim hlt (fun e => by omega)
    have h3s := hr3.size
    refine ⟨_, _, run_endRound (some .ret) hl3, T', hlt', .inr ⟨rfl, ⟨by simp; omega, fun j hj hT => ?_, fun j hj => hj.elim (fun h => (hr3.grew j h).imp .inl (fun e => by omega)) (fun h => .inl (.inr h))⟩, hSt _ _ _ hi3 (Oth.putObj _ hw hlt'), World.putObj_heap_same (by omega)⟩⟩
    rw [World.putObj_heap_other (fun e => hT (.inr e)), hr3.block j (by omega) (fun e => hT (.inl e)), hoA j (fun e => hT (.inr e))]; exact hW2.block j hj
  | _ => exact hp.elim

/-- The law of the loop, outermost. -/
theorem wpIn_giw {n : Nat} {g : Operand} {ps : Array Tmp} {assign body : Code} {Q : Exit → Act → World → Prop} {a : Act} {w : World}
    {gf : Nat} {lb : Array Value} (hg : a.eval g = .func (.func gf) #[] lb) (eg : ∀ args w, (callFunc gf args).run Tryd.prog w = .ok (.enter gf args) w)
    {ad : List Nat → Nat × Nat} {t : Nd} {S : List Spot} (hseq : Giw gf lb ad t S w) (hps : ps.size = 1)
    (I : Nat → (Nat → Prop) → World → Prop) (St : (Nat → Prop) → World → Prop) (hI : ∀ k T A C, I k T A → Oth T w.heap.size A C → I k T C) (hSt : ∀ T A C, St T A → Oth T w.heap.size A C → St T C) (hS : ∀ k T A, I k T A → ∀ j, T j → j < A.heap.size)
    (hSh : ∀ k T A, I k T A → SH A ad t []) (T₀ : Nat → Prop) (hT : ∀ k, T₀ k → k < w.heap.size) (h0 : I 0 T₀ w)
    (hround : ∀ (l k : Nat) (hk : k < S.length) (T : Nat → Prop) (W : World) (pa : Option Addr) (pc : Nat), w.heap.size < l → l < W.heap.size → (∃ r, W.heap[l]? = some (.loop r)) → ¬ T l → I k T W →
      W.ownsRow (w.heap.size + 2) 3 1 (.slice pa S[k].path.length pc) S[k].path.length (ints S[k].path) → (∀ g, (Value.slice pa S[k].path.length pc).ownBlock = some g → ¬ T g) →
      ∃ (a₁ : Act) (W2 : World), Below W.heap.size W W2 ∧
        (∀ (K : Act → World → Prop), K a₁ W2 → assign.wpIn (Fence.wide.inRound l) 0 Tryd.prog (Exit.then K (fun _ _ _ => False)) { tmps := (ps.zip #[.agg #[.pointer (some ⟨(ad S[k].path).1, (ad S[k].path).2, none⟩), .slice pa S[k].path.length pc, .int .i64 (S[k].off : Int)]]).foldl (fun t (p, v) => t.setIfInBounds p v) a.tmps, defers := [] } W) ∧
        ∀ (A : World), A.heap.size = W2.heap.size → (∀ j, j ≠ l → A.heap[j]? = W2.heap[j]?) → (∃ r, A.heap[l]? = some (.loop r)) → I k T A → body.wpIn (Fence.wide.inRound l) 0 Tryd.prog (goOnX I St T k A) a₁ A)
    (hdone : ∀ (T : Nat → Prop) (W : World), w.heap.size + 2 ≤ W.heap.size → I S.length T W → ¬ T w.heap.size → W.heap[w.heap.size]? = some (.deferred (some [])) →
      Q .normal { a with defers := { target := .collected w.heap.size, args := #[] } :: a.defers } W)
    (hret : ∀ (T : Nat → Prop) (W : World), w.heap.size + 2 ≤ W.heap.size → St T W → ¬ T w.heap.size → W.heap[w.heap.size]? = some (.deferred (some [])) →
      Code.ret.wpIn Fence.wide n Tryd.prog Q { a with defers := { target := .collected w.heap.size, args := #[] } :: a.defers } W) :
    (Code.rangeFunc g ps assign body).wpIn Fence.wide n Tryd.prog Q a w := by
  refine wpIn_rangeFunc fun fn hfn => ?_
  let rc : LoopState → Loop := rcd fn a.tmps ps assign body w.heap.size
  let l := w.heap.size + 1
  obtain ⟨W1, hW1⟩ : ∃ W1, (w.alloc (.deferred (some []))).alloc (.loop (rc .ready)) = W1 := ⟨_, rfl⟩
  have hs1 : W1.heap.size = w.heap.size + 2 := by rw [← hW1]; simp
  have hb1 : Below w.heap.size w W1 := by rw [← hW1]; exact ((Below.refl _ w).alloc (Nat.le_refl _) _).alloc (by simp) _
  have hl1 : W1.heap[l]? = some (.loop (rc .ready)) := by
    rw [← hW1]; have := World.alloc_heap_new (w.alloc (.deferred (some []))) (.loop (rc .ready)); rwa [World.size_alloc] at this
  have hd1 : W1.heap[w.heap.size]? = some (.deferred (some [])) := by
    rw [← hW1]; exact (Below.heap_alloc _ _ _ (by simp)).trans (World.alloc_heap_new w _)
  refine ⟨l, [{ target := .collected w.heap.size, args := #[] }], W1, { target := .fn (.func gf) lb, args := #[.func (.yield l) #[] #[]] }, W1, gf,
    #[.func (.yield l) #[] #[]] ++ lb, W1, ?_, ?_, fun _ _ => trivial, ?_, fun h => by simp [Fence.wide] at h, ?_⟩
  · rw [← hW1]; exact run_enterLoop_outer _ _ _ _ _
  · simp only [resolve, hg]
    simp [go_sem]
  · simp [invoke, go_sem, eg]
  · refine callsIn_any ((hseq l (fun k T W => (I k T W ∧ W.heap[l]? = some (.loop (rc .ready)) ∧ ¬ T l) ∧ W.heap[w.heap.size]? = some (.deferred (some [])) ∧ ¬ T w.heap.size ∧ w.heap.size + 2 ≤ W.heap.size)
      (fun T W => (St T W ∧ W.heap[l]? = some (.loop (rcr fn a.tmps ps assign body w.heap.size)) ∧ ¬ T l) ∧ W.heap[w.heap.size]? = some (.deferred (some [])) ∧ ¬ T w.heap.size ∧ w.heap.size + 2 ≤ W.heap.size)
      T₀ W1 hb1 (by omega) (fun k T A h => hS k T A h.1.1) ?_ ?_ (fun k T A h => hSh k T A h.1.1) ?_ ⟨⟨hI _ _ _ _ h0 (Oth.of_below hb1), hl1, fun h => by have := hT _ h; omega⟩, hd1, fun h => by have := hT _ h; omega, by omega⟩).mono ?_)
    · rintro k T A C ⟨⟨hi, h2, h2'⟩, h3, h3', h4⟩ hb
      exact ⟨⟨hI _ _ _ _ hi (hb.mono (by omega) (fun _ h => h)), (hb.block _ (by omega) (.inl (by omega))).trans h2, h2'⟩, (hb.block _ (by omega) (.inl (by omega))).trans h3, h3', by have := hb.size; omega⟩
    · rintro T A C ⟨⟨hi, h2, h2'⟩, h3, h3', h4⟩ hb
      exact ⟨⟨hSt _ _ _ hi (hb.mono (by omega) (fun _ h => h)), (hb.block _ (by omega) (.inl (by omega))).trans h2, h2'⟩, (hb.block _ (by omega) (.inl (by omega))).trans h3, h3', by have := hb.size; omega⟩
    · intro k hk T W pv hyW hJ hrow hnR
      obtain ⟨⟨hi, hl, hlt⟩, hd, hdt, hsz⟩ := hJ
      obtain ⟨pa, pc, rfl⟩ := own_slice hrow
      obtain ⟨a₁, W2, h1, h2, h3⟩ := hround l k hk T W pa pc (by omega) (by omega) ⟨_, hl⟩ hlt hi (own_base2 hrow (by omega)) hnR
      have := one_roundX (P := Tryd.prog) (I := I) (St := St) (ws := w.heap.size) (df := w.heap.size) (tm := a.tmps) hfn (vs := #[.agg #[.pointer (some ⟨(ad S[k].path).1, (ad S[k].path).2, none⟩), .slice pa S[k].path.length pc, .int .i64 (S[k].off : Int)]]) (by rw [hps]; rfl) hI hSt (by omega) hl hlt hi a₁ W2 h1 h2 h3
      refine YieldAt.mono this ?_
      rintro e W' ⟨T', hlt', ⟨he, hr, h5, h6⟩ | ⟨he, hr, h5, h6⟩⟩
      · have := hr.size
        exact ⟨T', .inl ⟨he, hr, ⟨h5, h6, hlt'⟩, (hr.block _ (by omega) hdt).trans hd, fun h => (hr.grew _ h).elim hdt (fun e => by omega), by omega⟩⟩
      · have := hr.size
        exact ⟨T', .inr ⟨he, hr, ⟨h5, h6, hlt'⟩, (hr.block _ (by omega) (fun h => h.elim hdt (fun e => by omega))).trans hd, fun h => (hr.grew _ (.inl h)).elim (fun h => h.elim hdt (fun e => by omega)) (fun e => by omega), by omega⟩⟩
    · rintro e W2 ⟨⟨v, rfl⟩, T', ⟨⟨hi, hl, hlt⟩, hd, hdt, hsz⟩ | ⟨⟨hi, hl, hlt⟩, hd, hdt, hsz⟩⟩
      · exact ⟨none, _, run_endLoop hl (by simp [rc]), hdone T' _ (by simpa using hsz) (hI _ _ _ _ hi (Oth.putObj _ (by omega) hlt)) hdt ((World.putObj_heap_other (by omega)).trans hd)⟩
      · exact ⟨some .ret, _, run_endLoop hl (by simp), hret T' _ (by simpa using hsz) (hSt _ _ _ hi (Oth.putObj _ (by omega) hlt)) hdt ((World.putObj_heap_other (by omega)).trans hd)⟩

end Go.Proofs.YtgfhhpodcnohpaaDoor

/- The program's places: its iterator's contract. Conditions: trees of at most 100000 nodes and 1000000000 bytes. -/
namespace Go.Proofs.YtgfhhpodcnohpaaDoor
open Go.RowKit Go.Shelf
set_option linter.unusedVariables false
attribute [local go_sem] Oper.semAt_some

set_option maxRecDepth 100000 in
set_option maxHeartbeats 1000000 in
theorem places_any (v : Option Addr) (w : World) :
    Calls Tryd.prog 96 #[.pointer v] w fun e w' => e = .returned (.func (.func 116) #[] #[.pointer (some ⟨w.heap.size, 0, none⟩)]) ∧ w' = w.alloc (.cells #[.pointer v] 107) := by
  go_enter Tryd.func96, Tryd.ntmps96
  go_wp2
  go_ret
  exact ⟨rfl, rfl⟩
set_option maxRecDepth 100000 in
set_option maxHeartbeats 1000000 in
theorem leaves_any (v : Option Addr) (w : World) :
    Calls Tryd.prog 68 #[.pointer v] w fun e w' => e = .returned (.func (.func 95) #[] #[.pointer (some ⟨w.heap.size, 0, none⟩)]) ∧ w' = w.alloc (.cells #[.pointer v] 107) := by
  go_enter Tryd.func68, Tryd.ntmps68
  go_wp2
  go_ret
  exact ⟨rfl, rfl⟩

set_option maxRecDepth 100000 in
set_option maxHeartbeats 4000000 in
theorem places_giw (ad : List Nat → Nat × Nat) (t : Nd) (bl : Nat) (w : World) (hbl : Boxed w bl 107 (.pointer (some ⟨(ad []).1, (ad []).2, none⟩))) (hc : t.cnt ≤ 100000) (hw : t.pw ≤ 1000000000) :
    Giw 116 #[.pointer (some ⟨bl, 0, none⟩)] ad t (spots t [] 0) w := by
  intro l J St T₀ W hW _ hZ hO _ hSh hY h0
  obtain ⟨y, hy⟩ : ∃ y, W.heap.size = y := ⟨_, rfl⟩
  rw [hy] at hO hY
  have hbw : Boxed W bl 107 (.pointer (some ⟨(ad []).1, (ad []).2, none⟩)) := (hW.block bl hbl.lt).trans hbl
  obtain ⟨B, hB⟩ : ∃ B, (ad []).1 = B := ⟨_, rfl⟩
  obtain ⟨F, hF⟩ : ∃ F, (ad []).2 = F := ⟨_, rfl⟩
  rw [hB, hF] at hbw
  have hbl0 := hbw.lt
  have c0 := hbw.cell
  have HZ := Lib.hid hZ; have HO := Lib.hid hO; have HSH := Lib.hid hSh; have HY := Lib.hid hY; have HW := Lib.hid hy; have H0 := Lib.hid h0; have HB := Lib.hid hB; have HF := Lib.hid hF; have HC := Lib.hid hc; have HWD := Lib.hid hw; have HBW := Lib.hid hbw
  clear hW hbl hc hw hZ hO hSh hY h0 hbw hB hF hy
  refine callsIn_of_wp Tryd.func116 rfl trivial ?_ rfl
  simp only [Tryd.ntmps116, List.size_toArray, List.length_cons, List.length_nil, Nat.reduceAdd, Nat.reduceSub, Array.replicate_succ, Array.replicate_zero, List.push_toArray, List.append_toArray, List.nil_append, List.cons_append]
  obtain ⟨W4, hW4⟩ : ∃ W4, (((W.alloc (.cells #[.func (.yield l) #[] #[]] 126)).alloc (.cells #[.slice none 0 0] 22)).alloc (.cells #[.int .i64 0] 3)).alloc (.cells #[vstF W.heap.size] 127) = W4 := ⟨_, rfl⟩
  have hb4 : Below W.heap.size W W4 := by rw [← hW4]; exact ((((Below.refl _ W).alloc (Nat.le_refl _) _).alloc (by simp) _).alloc (by simp; omega) _).alloc (by simp; omega) _
  have HV4 : Hid (VSt l y J 0 T₀ [] 0 (.slice none 0 0) W4) := by
    have hT : ∀ j, y ≤ j → ¬ T₀ j := fun j hj h => by have := HZ.out _ _ _ H0.out j h; have := HW.out; omega
    have e1 := Boxed.new W 126 (.func (.yield l) #[] #[])
    have e2 := Boxed.new (W.alloc (.cells #[.func (.yield l) #[] #[]] 126)) 22 (.slice none 0 0)
    have e3 := Boxed.new ((W.alloc (.cells #[.func (.yield l) #[] #[]] 126)).alloc (.cells #[.slice none 0 0] 22)) 3 (.int .i64 0)
    have e4 := Boxed.new (((W.alloc (.cells #[.func (.yield l) #[] #[]] 126)).alloc (.cells #[.slice none 0 0] 22)).alloc (.cells #[.int .i64 0] 3)) 127 (vstF W.heap.size)
    have e1' := ((e1.alloc (.cells #[.slice none 0 0] 22)).alloc (.cells #[.int .i64 0] 3)).alloc (.cells #[vstF W.heap.size] 127)
    have e2' := (e2.alloc (.cells #[.int .i64 0] 3)).alloc (.cells #[vstF W.heap.size] 127)
    have e3' := e3.alloc (.cells #[vstF W.heap.size] 127)
    rw [hW4] at e1' e2' e3' e4
    rw [World.size_alloc] at e2'
    rw [World.size_alloc, World.size_alloc] at e3'
    rw [World.size_alloc, World.size_alloc, World.size_alloc] at e4
    have hw := HW.out
    have hs : W4.heap.size = y + 4 := by rw [← hW4, ← hw]; simp
    have hb := hb4
    rw [hw] at e1' e2' e3' e4 hb
    exact ⟨HO.out _ _ _ _ H0.out (Oth.of_below hb4), by omega, e1', e2', e3', e4, World.ownsRow_nil _ _ _ _, fun j h1 _ => hT j h1, fun g hg => by simp [Value.ownBlock] at hg⟩
  have HCL : Hid (CallsIn Fence.wide 0 Tryd.prog 117 #[.pointer (some ⟨B, F, none⟩), .pointer (some ⟨W.heap.size, 0, none⟩), .pointer (some ⟨W.heap.size + 1, 0, none⟩), .pointer (some ⟨W.heap.size + 1 + 1, 0, none⟩), .pointer (some ⟨W.heap.size + 1 + 1 + 1, 0, none⟩)] W4
        fun e V' => ∃ bb : Bool, e = .returned (.bool bb) ∧ ∃ T', J (spots t [] 0).length T' V' ∨ St T' V') := by
    have h := visit_any l y ad (spots t [] 0) J St HO HZ HY t.dep t [] 0 0 T₀ _ W4 (Nat.le_refl _) HC.out (by have := Nd.dep_cnt t; have := HC.out; simp; omega) (by have := HWD.out; omega) HSH.out ⟨[], [], by simp, rfl⟩ HV4.out
    rw [HB.out, HF.out] at h
    rw [HW.out]
    refine CallsIn.mono h ?_
    rintro e V' (⟨rfl, T', pv', hv⟩ | ⟨rfl, T', hs⟩)
    · refine ⟨true, rfl, T', .inl ?_⟩
      rw [spots_len]
      have := hv.j
      rwa [Nat.zero_add] at this
    · exact ⟨false, rfl, T', .inr hs⟩
  have cz : W4.cell? ⟨bl, 0, none⟩ = some (.pointer (some ⟨B, F, none⟩)) := (show Boxed W4 bl 107 _ from (hb4.block bl hbl0).trans HBW.out).cell
  rw [← hW4] at cz
  have HW4 := Lib.hid hW4
  clear hb4 hW4 HV4
  gi_wp2_with (refine ⟨trivial, rfl, ?_⟩; gi_at_call 117; rw [show (((W.alloc (.cells #[.func (.yield l) #[] #[]] 126)).alloc (.cells #[.slice none 0 0] 22)).alloc (.cells #[.int .i64 0] 3)).alloc (.cells #[vstF W.heap.size] 127) = W4 from HW4.out]; refine HCL.out.mono ?_; rintro e w8 ⟨bb, rfl, H8⟩)
  go_end0
  exact ⟨⟨_, rfl⟩, H8⟩

end Go.Proofs.YtgfhhpodcnohpaaDoor

/- The program's leaves: its iterator's contract. Conditions: trees of at most 100000 nodes and 1000000000 bytes. -/
namespace Go.Proofs.YtgfhhpodcnohpaaDoor
open Go.RowKit Go.Shelf
set_option linter.unusedVariables false
attribute [local go_sem] Oper.semAt_some

/-- The places of the leaves. -/
def lspots (t : Nd) : List Spot := (spots t [] 0).filter fun s => decide s.nd.leaf
/-- How many leaves are among the first k places. -/
def lcn (t : Nd) (k : Nat) : Nat := (((spots t [] 0).take k).filter fun s => decide s.nd.leaf).length
theorem lcn_zero (t : Nd) : lcn t 0 = 0 := by simp [lcn]
theorem lcn_all (t : Nd) : lcn t (spots t [] 0).length = (lspots t).length := by simp [lcn, lspots]
theorem lcn_leaf {t : Nd} {k : Nat} (h : k < (spots t [] 0).length) (hl : ((spots t [] 0)[k]).nd.leaf) : lcn t (k + 1) = lcn t k + 1 ∧ ∃ hm : lcn t k < (lspots t).length, (lspots t)[lcn t k] = (spots t [] 0)[k] := by
  have h1 : (spots t [] 0).take (k + 1) = (spots t [] 0).take k ++ [(spots t [] 0)[k]] := List.take_succ_eq_append_getElem h
  have h2 : lspots t = ((spots t [] 0).take (k + 1)).filter (fun s => decide s.nd.leaf) ++ ((spots t [] 0).drop (k + 1)).filter (fun s => decide s.nd.leaf) := by
    rw [← List.filter_append, List.take_append_drop]; rfl
  have h3 : ((spots t [] 0).take (k + 1)).filter (fun s => decide s.nd.leaf) = ((spots t [] 0).take k).filter (fun s => decide s.nd.leaf) ++ [(spots t [] 0)[k]] := by
    rw [h1, List.filter_append]; simp [hl]
  rw [h3] at h2
  refine ⟨by unfold lcn; rw [h3, List.length_append]; rfl, ?_, ?_⟩
  · rw [h2]; simp only [List.length_append, List.length_singleton]; unfold lcn; omega
  · have : (lspots t)[lcn t k]? = some (spots t [] 0)[k] := by
      rw [h2, List.append_assoc, List.getElem?_append_right (by unfold lcn; omega)]
      simp [lcn]
    exact (List.getElem?_eq_some_iff.1 this).2
theorem lcn_not {t : Nd} {k : Nat} (h : k < (spots t [] 0).length) (hl : ¬ ((spots t [] 0)[k]).nd.leaf) : lcn t (k + 1) = lcn t k := by
  have h1 : (spots t [] 0).take (k + 1) = (spots t [] 0).take k ++ [(spots t [] 0)[k]] := List.take_succ_eq_append_getElem h
  unfold lcn
  rw [h1, List.filter_append]; simp [hl]
/-- Every place of a tree lies in memory where the tree does. -/
theorem SH.spot {w : World} {ad : List Nat → Nat × Nat} : ∀ (d : Nat) (t : Nd) (p : List Nat) (o : Nat), t.dep ≤ d → SH w ad t p → ∀ s ∈ spots t p o, SH w ad s.nd s.path
  | 0, t, p, o, hd, _, _, _ => by have := t.dep_eq; omega
  | d + 1, t, p, o, hd, h, s, hs => by
    rw [spots_eq] at hs
    rcases List.mem_cons.1 hs with rfl | hs
    · exact h
    · have key : ∀ (l : List Nd) (i o : Nat), (∀ k (hk : k < l.length), l[k].dep ≤ d ∧ SH w ad l[k] (p ++ [i + k])) → s ∈ spotsL l p i o → SH w ad s.nd s.path := by
        intro l
        induction l with
        | nil => intro i o _ hm; simp [spotsL] at hm
        | cons x l ih =>
          intro i o hk hm
          rw [spotsL] at hm
          rcases List.mem_append.1 hm with hm | hm
          · obtain ⟨h1, h2⟩ := hk 0 (by simp)
            exact SH.spot d x (p ++ [i]) o h1 h2 s hm
          · refine ih (i + 1) _ (fun k hk' => ?_) hm
            have := hk (k + 1) (by simpa using hk')
            rw [show i + 1 + k = i + (k + 1) by omega]
            exact this
      refine key t.kids 0 _ (fun k hk => ⟨?_, ?_⟩) hs
      · have := t.kid_dep (List.getElem_mem hk); omega
      · rw [Nat.zero_add]; exact h.kid hk

end Go.Proofs.YtgfhhpodcnohpaaDoor

/- The program's leaves: its iterator's contract. Conditions: trees of at most 100000 nodes and 1000000000 bytes. -/
namespace Go.Proofs.YtgfhhpodcnohpaaDoor
open Go.RowKit Go.Shelf
set_option linter.unusedVariables false
attribute [local go_sem] Oper.semAt_some

theorem SH.kind {w : World} {ad : List Nat → Nat × Nat} {t : Nd} {p : List Nat} (h : SH w ad t p) : w.cell? ⟨(ad p).1, (ad p).2 + 1, none⟩ = some (.int .i64 t.kind) := by
  cases h with
  | mk hb h1 h2 h3 hle hmx ha hk => exact h1
theorem SH.txt {w : World} {ad : List Nat → Nat × Nat} {t : Nd} {p : List Nat} (h : SH w ad t p) : w.cell? ⟨(ad p).1, (ad p).2 + 2, none⟩ = some (.string t.text) := by
  cases h with
  | mk hb h1 h2 h3 hle hmx ha hk => exact h2
/-- A row of cells is not the record of a loop. -/
theorem own_row_ne {w : World} {b n l g : Nat} {e : TypeId} {v : Value} {xs : List Value} (h : w.ownsRow b e 1 v n xs) (hl : ∃ r, w.heap[l]? = some (.loop r)) (hg : v.ownBlock = some g) : g ≠ l := by
  rintro rfl
  obtain ⟨r, hr⟩ := hl
  rcases h.2 with ⟨rfl, _⟩ | ⟨g', cap, cur, rfl, h1, h2, _⟩
  · simp [Value.ownBlock] at hg
  · simp only [Value.ownBlock, Option.some.injEq] at hg
    subst hg
    rw [hr] at h2; cases h2

set_option maxRecDepth 100000 in
set_option maxHeartbeats 4000000 in
theorem leaves_giw (ad : List Nat → Nat × Nat) (t : Nd) (bl : Nat) (w : World) (hbl : Boxed w bl 107 (.pointer (some ⟨(ad []).1, (ad []).2, none⟩))) (hc : t.cnt ≤ 100000) (hw : t.pw ≤ 1000000000) :
    Giw 95 #[.pointer (some ⟨bl, 0, none⟩)] ad t (lspots t) w := by
  intro l J St T₀ W hW hlW hZ hO hOs hSh hY h0
  obtain ⟨y, hy⟩ : ∃ y, W.heap.size = y := ⟨_, rfl⟩
  rw [hy] at hO hOs hY hlW
  have hbw : Boxed W bl 107 (.pointer (some ⟨(ad []).1, (ad []).2, none⟩)) := (hW.block bl hbl.lt).trans hbl
  obtain ⟨W2, hW2⟩ : ∃ W2, (W.alloc (.cells #[.func (.yield l) #[] #[]] 126)).alloc (.cells #[.pointer (some ⟨(ad []).1, (ad []).2, none⟩)] 107) = W2 := ⟨_, rfl⟩
  have hb2 : Below y W W2 := by rw [← hW2, ← hy]; exact ((Below.refl _ W).alloc (Nat.le_refl _) _).alloc (by simp) _
  have hs2 : W2.heap.size = y + 2 := by rw [← hW2, ← hy]; simp
  have e1 : Boxed W2 y 126 (.func (.yield l) #[] #[]) := by rw [← hW2, ← hy]; exact (Boxed.new W _ _).alloc _
  have e2 : Boxed W2 (y + 1) 107 (.pointer (some ⟨(ad []).1, (ad []).2, none⟩)) := by
    rw [← hW2, ← hy]
    have := Boxed.new (W.alloc (.cells #[.func (.yield l) #[] #[]] 126)) 107 (.pointer (some ⟨(ad []).1, (ad []).2, none⟩))
    rwa [World.size_alloc] at this
  have HG := Lib.hid (places_giw ad t (y + 1) W2 e2 hc hw)
  have cz := (hbw.alloc (.cells #[.func (.yield l) #[] #[]] 126)).cell
  have HZ := Lib.hid hZ; have HO := Lib.hid hO; have HOS := Lib.hid hOs; have HSH := Lib.hid hSh; have HY := Lib.hid hY; have HW := Lib.hid hy; have H0 := Lib.hid h0
  have HW2 := Lib.hid hW2; have HS2 := Lib.hid hs2; have HB2 := Lib.hid hb2; have HE1 := Lib.hid e1
  have HT0 : Hid (∀ j, T₀ j → j < y) := fun j hj => by rw [← hy]; exact hZ _ _ _ h0 j hj
  have hmx : Tryd.prog.follows .mixedOrders = true := by kernel_rfl
  obtain ⟨rp, hrp⟩ : ∃ rp, (some ⟨(ad []).1, (ad []).2, none⟩ : Option Addr) = rp := ⟨_, rfl⟩
  rw [hrp] at cz HW2
  clear hW hbl hc hw hZ hO hOs hSh hY h0 hbw e1 e2 hW2 hs2 hb2 hy hrp
  refine callsIn_of_wp_marks Tryd.func95 rfl trivial ?_ rfl
  simp only [Tryd.ntmps95, List.size_toArray, List.length_cons, List.length_nil, Nat.reduceAdd, Nat.reduceSub, Array.replicate_succ, Array.replicate_zero, List.push_toArray, List.append_toArray, List.nil_append, List.cons_append]
  gi_wp2_with (first | (refine ⟨trivial, rfl, ?_⟩; gi_at_call 96; refine (callsIn_wide.2 (places_any _ _)).mono ?_; rintro e w' ⟨rfl, rfl⟩))
  rw [show (W.alloc (.cells #[.func (.yield l) #[] #[]] 126)).alloc (.cells #[.pointer rp] 107) = W2 from HW2.out]
  have hG := HG.out
  rw [HW.out]
  refine wpIn_giw (gf := 116) (lb := #[.pointer (some ⟨y + 1, 0, none⟩)]) rfl (enters_of Tryd.func116 (by kernel_rfl) rfl) hG rfl
    (fun k T A => ∃ T1, (∀ j, T j ↔ (T1 j ∨ j = l)) ∧ J (lcn t k) T1 A ∧ Boxed A y 126 (.func (.yield l) #[] #[]) ∧ ¬ T1 y ∧ y + 2 ≤ A.heap.size)
    (fun T A => ∃ T1, (∀ j, T j ↔ (T1 j ∨ j = l)) ∧ St T1 A)
    ?hI ?hSt ?hS ?hSh (fun j => T₀ j ∨ j = l) ?hT ?h0 ?hround ?hdone ?hret
  case hI =>
    rintro k T A C ⟨T1, h1, h2, h3, h4, h5⟩ ho
    rw [HS2.out] at ho
    have ho1 : Oth T1 y A C := ho.mono (by omega) (fun j hj => (h1 j).2 (.inl hj))
    exact ⟨T1, h1, HO.out _ _ _ _ h2 ho1, (ho.block y (by omega) (.inl (by omega))).trans h3, h4, by have := ho.size; omega⟩
  case hSt =>
    rintro T A C ⟨T1, h1, h2⟩ ho
    rw [HS2.out] at ho
    exact ⟨T1, h1, HOS.out _ _ _ h2 (ho.mono (by omega) (fun j hj => (h1 j).2 (.inl hj)))⟩
  case hS =>
    rintro k T A ⟨T1, h1, h2, h3, h4, h5⟩ j hj
    rcases (h1 j).1 hj with h | rfl
    · exact HZ.out _ _ _ h2 j h
    · omega
  case hSh =>
    rintro k T A ⟨T1, h1, h2, _⟩
    exact HSH.out _ _ _ h2
  case hT =>
    intro k hk
    rw [HS2.out]
    exact hk.elim (fun h => by have := HT0.out k h; omega) (fun h => by omega)
  case h0 =>
    refine ⟨T₀, fun j => Iff.rfl, ?_, HE1.out, fun h => by have := HT0.out y h; omega, by rw [HS2.out]; omega⟩
    rw [lcn_zero]
    exact HO.out _ _ _ _ H0.out (Oth.of_below (by rw [HW.out]; exact HB2.out))
  case hround =>
    rintro l' k hk T A pa pc hl hlA hlr hTl ⟨T1, h1, h2, h3, h4, h5⟩ hrow hnR
    obtain ⟨s, hs⟩ : ∃ s, (spots t [] 0)[k] = s := ⟨_, rfl⟩
    have hSHs := SH.spot t.dep t [] 0 (Nat.le_refl _) (HSH.out _ _ _ h2) s (by rw [← hs]; exact List.getElem_mem hk)
    rw [HS2.out] at hl hrow
    rw [hs] at hrow hnR ⊢
    refine ⟨?a1, ?W3, ?hb, ?asg, ?bo⟩
    case asg =>
      intro K hK
      gi_wp2
      exact hK
    case hb => exact (Below.refl _ _).alloc (Nat.le_refl _) _
    case bo =>
      intro A3 hA3 hsame hl3 hI3
      obtain ⟨T2, g1, g2, g3, g4, g5⟩ := hI3
      obtain rfl : T = fun j => T2 j ∨ j = l := funext fun j => propext (g1 j)
      have hS3 := SH.spot t.dep t [] 0 (Nat.le_refl _) (HSH.out _ _ _ g2) s (by rw [← hs]; exact List.getElem_mem hk)
      obtain ⟨b, hb⟩ : ∃ b, (ad s.path).1 = b := ⟨_, rfl⟩
      obtain ⟨f, hf⟩ : ∃ b, (ad s.path).2 = b := ⟨_, rfl⟩
      have d1 := hS3.kind
      obtain ⟨n, hn⟩ : ∃ n, s.path.length = n := ⟨_, rfl⟩
      have hBk : Blk A3 A.heap.size 109 #[.pointer (some ⟨b, f, none⟩), .slice pa n pc, .int .i64 (s.off : Int)] := by
        rw [← hb, ← hf, ← hn]
        exact (hsame A.heap.size (by omega)).trans (Blk.new A _ _)
      have p0 := hBk.cell 0
      have p1 := hBk.cell 1
      have p2 := hBk.cell 2
      simp only [List.getElem?_toArray, List.getElem?_cons_zero, List.getElem?_cons_succ] at p0 p1 p2
      have cy := g3.cell
      rw [hb, hf] at d1
      have CL := Lib.hid (pisleaf_any s.nd b f A3 d1)
      have hrow3 : A3.ownsRow y 3 1 (.slice pa s.path.length pc) s.path.length (ints s.path) := by
        refine own_base2 (own_same hrow (fun g hg => ?_)) (by omega : y ≤ y + 2 + 2)
        have hg2 := (hrow.lt g hg).2
        exact (hsame g (own_row_ne hrow hlr hg)).trans (((Below.refl _ A).alloc (Nat.le_refl _) _).block g hg2)
      have hnR3 : ∀ g, (Value.slice pa s.path.length pc).ownBlock = some g → ¬ T2 g := fun g hg h => hnR g hg (.inl h)
      by_cases hlf : s.nd.leaf
      · obtain ⟨hm1, hm, hget⟩ := lcn_leaf hk (by rw [hs]; exact hlf)
        have hY1 := HY.out (lcn t k) hm T2 A3 (.slice pa s.path.length pc) (by omega) g2 (by rw [hget, hs]; exact hrow3) hnR3
        rw [hget, hs, hb, hf, hn] at hY1
        obtain ⟨fn, tm, asg, bo, hy, hR1⟩ := hY1
        have HR1 := Lib.hid hR1
        have HM1 := Lib.hid hm1
        have HG3 := Lib.hid g3
        have HG5 := Lib.hid g5
        rw [show decide s.nd.leaf = true by simp [hlf]] at CL
        rw [hb, hf, hn]
        clear hR1 hm1 hm hget hrow3 hnR3 hlf d1 hS3 hBk hsame g3 hrow hnR hlr h1 h2 h3 h5 hA3 hSHs g1 hs
        gi_wp2_with (first | (refine ⟨trivial, rfl, ?_⟩; gi_at_call 97; refine (CallsIn.inRound l' (callsIn_wide.2 CL.out)).mono ?_; rintro e w' ⟨rfl, rfl⟩))
        refine ⟨rfl, HR1.out.mono ?_⟩
        rintro e w6 ⟨T6, ⟨rfl, hr, hJ6⟩ | ⟨rfl, hr, hJ6⟩⟩
        · have hr2 := hr.or (fun j => j = l)
          have hb6 : Boxed w6 y 126 (.func (.yield l) #[] #[]) := (hr.block y HG3.out.lt g4).trans HG3.out
          have hnt : ¬ T6 y := fun h => (hr.grew y h).elim g4 (fun e => by have := HG3.out.lt; omega)
          have hz6 := hr.size
          have HFIN := Lib.hid (And.intro hr2 (And.intro hb6 (And.intro hnt hJ6)))
          clear hr2 hb6 hnt hr hJ6 hy HR1
          gi_wp2
          obtain ⟨k1, k2, k3, k4⟩ := HFIN.out
          refine ⟨fun j => T6 j ∨ j = l, ⟨T6, fun _ => Iff.rfl, ?_, k2, k3, by have := HG5.out; omega⟩, k1⟩
          rw [HM1.out]; exact k4
        · have HFIN := Lib.hid (And.intro hr hJ6)
          clear hr hJ6 hy HR1
          gi_wp2
          exact ⟨fun j => T6 j ∨ j = l, ⟨T6, fun _ => Iff.rfl, HFIN.out.2⟩, HFIN.out.1⟩
      · have hm1 := lcn_not hk (by rw [hs]; exact hlf)
        have HFIN : Hid (J (lcn t (k + 1)) T2 A3 ∧ Boxed A3 y 126 (.func (.yield l) #[] #[]) ∧ ¬ T2 y ∧ y + 2 ≤ A3.heap.size) := ⟨by rw [hm1]; exact g2, g3, g4, g5⟩
        rw [show decide s.nd.leaf = false by simp [hlf]] at CL
        rw [hb, hf, hn]
        clear hm1 hrow3 hnR3 hlf d1 hS3 hBk hsame g3 hrow hnR hlr h1 h2 h3 h5 hA3 hSHs g1 hs
        gi_wp2_with (first | (refine ⟨trivial, rfl, ?_⟩; gi_at_call 97; refine (CallsIn.inRound l' (callsIn_wide.2 CL.out)).mono ?_; rintro e w' ⟨rfl, rfl⟩))
        refine ⟨fun _ h => (by cases h), ?_⟩
        gi_wp2
        exact ⟨fun j => T2 j ∨ j = l, ⟨T2, fun _ => Iff.rfl, HFIN.out⟩, Rnd.refl _ _⟩
  case hdone =>
    rintro T A hA ⟨T1, h1, h2, h3, h4, h5⟩ hTw hK
    rw [lcn_all] at h2
    have HJJ := Lib.hid h2
    have hT1 : ¬ T1 W2.heap.size := fun h => hTw ((h1 _).2 (.inl h))
    clear h1 h2 h3 h4
    gi_wp2
    refine ⟨by simp, .inl ⟨_, _, rfl, run_takeDeferred hK, ?_⟩⟩
    exact ⟨_, results_none rfl _ _ _, ⟨_, rfl⟩, T1, .inl (HO.out _ _ _ _ HJJ.out (Oth.putObj _ (by rw [HS2.out]; omega) hT1))⟩
  case hret =>
    rintro T A hA ⟨T1, h1, h2⟩ hTw hK
    have HJJ := Lib.hid h2
    have hT1 : ¬ T1 W2.heap.size := fun h => hTw ((h1 _).2 (.inl h))
    clear h1 h2
    gi_wp2
    refine ⟨by simp, .inl ⟨_, _, rfl, run_takeDeferred hK, ?_⟩⟩
    exact ⟨_, results_none rfl _ _ _, ⟨_, rfl⟩, T1, .inr (HOS.out _ _ _ HJJ.out (Oth.putObj _ (by rw [HS2.out]; omega) hT1))⟩

end Go.Proofs.YtgfhhpodcnohpaaDoor
