/- The iterator over the places of a tree: what it keeps, and its visit, by induction on the depth. Conditions: trees of at most 100000 nodes and 1000000000 bytes. -/
import Derived.Test.YtfecajeenmnoeaaSSp
import Derived.Test.YtfecajeenmnoeaaSRf
import Derived.Maps.OwnIn
namespace Go.Proofs.Ytfecajeenmnoeaa
open Go.RowKit Go.Shelf
set_option linter.unusedVariables false
attribute [local go_sem] Oper.semAt_some

/-- A path, as integers in memory. -/
abbrev ints (p : List Nat) : List Value := p.map fun (i : Nat) => Value.int .i64 (i : Int)
/-- What visit is. -/
abbrev vstF (y : Nat) : Value := .func (.func 66) #[] #[.pointer (some ⟨y, 0, none⟩), .pointer (some ⟨y + 1, 0, none⟩), .pointer (some ⟨y + 2, 0, none⟩), .pointer (some ⟨y + 3, 0, none⟩)]
/-- What the iterator keeps in blocks of its own: yield, the path, the offset, visit; and the path's row. -/
structure VSt (l y : Nat) (J : Nat → (Nat → Prop) → World → Prop) (k : Nat) (T : Nat → Prop) (p : List Nat) (o : Nat) (pv : Value) (V : World) : Prop where
  j : J k T V
  size : y + 4 ≤ V.heap.size
  box : Boxed V y 107 (.func (.yield l) #[] #[])
  path : Boxed V (y + 1) 22 pv
  off : Boxed V (y + 2) 3 (.int .i64 (o : Int))
  vis : Boxed V (y + 3) 108 (vstF y)
  row : V.ownsRow (y + 4) 3 1 pv p.length (ints p)
  noT : ∀ j, y ≤ j → j < y + 4 → ¬ T j
  noR : ∀ g, pv.ownBlock = some g → ¬ T g
theorem VSt.lt_T {l y k : Nat} {J : Nat → (Nat → Prop) → World → Prop} {T : Nat → Prop} {p : List Nat} {o : Nat} {pv : Value} {V : World} (h : VSt l y J k T p o pv V) (hsz : ∀ k T A, J k T A → ∀ j, T j → j < A.heap.size) : ∀ j, V.heap.size ≤ j → ¬ T j := fun j hj hT => by
  have := hsz _ _ _ h.j j hT; omega
/-- Behind a round. -/
theorem VSt.rnd {l y k : Nat} {J : Nat → (Nat → Prop) → World → Prop} {T T' : Nat → Prop} {p : List Nat} {o : Nat} {pv : Value} {V V' : World} (h : VSt l y J k T p o pv V) (hr : Rnd T T' V V') (hj : J (k + 1) T' V') : VSt l y J (k + 1) T' p o pv V' := by
  have hn : ∀ j, j < V.heap.size → ¬ T j → ¬ T' j := fun j hj hT h2 => (hr.grew j h2).elim hT (fun e => by omega)
  have hs := h.size
  have hb : ∀ j, y ≤ j → j < y + 4 → V'.heap[j]? = V.heap[j]? := fun j h1 h2 => hr.block j (by omega) (h.noT j h1 h2)
  exact ⟨hj, by have := hr.size; omega, (hb _ (by omega) (by omega)).trans h.box, (hb _ (by omega) (by omega)).trans h.path, (hb _ (by omega) (by omega)).trans h.off, (hb _ (by omega) (by omega)).trans h.vis,
    own_same h.row (fun g hg => hr.block g (h.row.lt g hg).2 (h.noR g hg)), fun j h1 h2 => hn j (by omega) (h.noT j h1 h2), fun g hg => hn g (h.row.lt g hg).2 (h.noR g hg)⟩
/-- The offset is set anew. -/
theorem VSt.setOff {l y k : Nat} {J : Nat → (Nat → Prop) → World → Prop} {T : Nat → Prop} {p : List Nat} {o : Nat} {pv : Value} {V : World} (h : VSt l y J k T p o pv V) (hO : ∀ k T A C, J k T A → Oth T y A C → J k T C) (o' : Nat) : VSt l y J k T p o' pv (V.setCell ⟨y + 2, 0, none⟩ (.int .i64 (o' : Int))) := by
  have hg := grownBy_setCell' V (y + 2) (.int .i64 (o' : Int))
  have hb : ∀ j, j < V.heap.size → j ≠ y + 2 → (V.setCell ⟨y + 2, 0, none⟩ (.int .i64 (o' : Int))).heap[j]? = V.heap[j]? := fun j h1 h2 => hg.block j h1 (fun e => h2 (by cases e; rfl))
  have hs := h.size
  refine ⟨hO _ _ _ _ h.j ⟨hg.os, hg.tape, hg.output, hg.size, fun j hj hh => hb j hj (fun e => ?_)⟩, by have := hg.size; omega, (hb _ (by omega) (by omega)).trans h.box, (hb _ (by omega) (by omega)).trans h.path, h.off.set _, (hb _ (by omega) (by omega)).trans h.vis,
    own_same h.row (fun g hg => hb g (h.row.lt g hg).2 (by have := (h.row.lt g hg).1; omega)), h.noT, h.noR⟩
  subst e
  exact hh.elim (fun e => by omega) (h.noT _ (by omega) (by omega))
/-- The path is set anew: its row may be another. -/
theorem VSt.setPath {l y k : Nat} {J : Nat → (Nat → Prop) → World → Prop} {T : Nat → Prop} {p p' : List Nat} {o : Nat} {pv pv' : Value} {V V1 : World} (h : VSt l y J k T p o pv V) (hO : ∀ k T A C, J k T A → Oth T y A C → J k T C) (hsz : ∀ k T A, J k T A → ∀ j, T j → j < A.heap.size)
    (ho : V1.os = V.os ∧ V1.tape = V.tape ∧ V1.output = V.output) (hs1 : V.heap.size ≤ V1.heap.size) (hb : ∀ j, j < V.heap.size → some j ≠ pv.ownBlock → V1.heap[j]? = V.heap[j]?)
    (hrow : V1.ownsRow (y + 4) 3 1 pv' p'.length (ints p')) (hat : ∀ g, pv'.ownBlock = some g → pv.ownBlock = some g ∨ V.heap.size ≤ g) : VSt l y J k T p' o pv' (V1.setCell ⟨y + 1, 0, none⟩ pv') := by
  have hg := grownBy_setCell' V1 (y + 1) pv'
  have hrl := h.row.lt
  have hs := h.size
  have hb2 : ∀ j, j < V.heap.size → some j ≠ pv.ownBlock → j ≠ y + 1 → (V1.setCell ⟨y + 1, 0, none⟩ pv').heap[j]? = V.heap[j]? := fun j h1 h2 h3 => (hg.block j (by omega) (fun e => h3 (by cases e; rfl))).trans (hb j h1 h2)
  have hnb : ∀ j, j < y + 4 → some j ≠ pv.ownBlock := fun j hj e => by have := (hrl j e.symm).1; omega
  refine ⟨hO _ _ _ _ h.j ⟨hg.os.trans ho.1, hg.tape.trans ho.2.1, hg.output.trans ho.2.2, Nat.le_trans hs1 hg.size, fun j hj hh => hb2 j hj (fun e => ?_) (fun e => ?_)⟩, by have := hg.size; omega, (hb2 _ (by omega) (hnb _ (by omega)) (by omega)).trans h.box, ?_, (hb2 _ (by omega) (hnb _ (by omega)) (by omega)).trans h.off, (hb2 _ (by omega) (hnb _ (by omega)) (by omega)).trans h.vis,
    own_same hrow (fun g hg' => hg.block g (hrow.lt g hg').2 (fun e => by have := (hrow.lt g hg').1; cases e; omega)), h.noT, fun g hg' => (hat g hg').elim (fun e => h.noR g e) (fun e => h.lt_T hsz g e)⟩
  · exact hh.elim (fun e2 => by have := (hrl j e.symm).1; omega) (h.noR j e.symm)
  · subst e; exact hh.elim (fun e2 => by omega) (h.noT _ (by omega) (by omega))
  · have h1 : Boxed V1 (y + 1) 22 pv := (hb _ (by omega) (hnb _ (by omega))).trans h.path
    exact h1.set _
theorem VSt.drew {l y k : Nat} {J : Nat → (Nat → Prop) → World → Prop} {T : Nat → Prop} {p : List Nat} {o : Nat} {pv : Value} {V : World} (h : VSt l y J k T p o pv V) (hO : ∀ k T A C, J k T A → Oth T y A C → J k T C) : VSt l y J k T p o pv V.drew :=
  ⟨hO _ _ _ _ h.j (Oth.of_below (Below.refl _ _).drew), h.size, h.box, h.path, h.off, h.vis, own_same h.row (fun _ _ => rfl), h.noT, h.noR⟩
end Go.Proofs.Ytfecajeenmnoeaa
