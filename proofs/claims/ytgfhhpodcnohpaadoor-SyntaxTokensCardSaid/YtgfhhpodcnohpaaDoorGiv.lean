/- A range over an iterator function of the program's own whose rounds all go on: the contract of such an iterator, with blocks that the rounds may turn and that may be named anew from round to round, and the law of the loop over it. Conditions: no round is left early. -/
import Derived.RangeFuncNested
import Derived.RangeFuncBound
import Derived.RangeFuncCalls
import Derived.RangeFuncLeaves
import Derived.Shelf.Abstract
import Derived.Shelf.RegionOpen
import Derived.WalkKit
import Derived.OwnWalkIn
import Derived.TacticsInMore
import Derived.LoopNIn
import Derived.LoopIn
import Derived.RangeFuncBox
import Derived.Test.YtgfhhpodcnohpaaDoorOnly
namespace Go.Proofs.YtgfhhpodcnohpaaDoor
open Go.RowKit Go.Shelf

/-- Of the blocks that lay in A, those at or above n that are not of T lie in C as they lay. -/
structure Oth (T : Nat → Prop) (n : Nat) (A C : World) : Prop where
  os : C.os = A.os
  tape : C.tape = A.tape
  output : C.output = A.output
  size : A.heap.size ≤ C.heap.size
  block : ∀ k, k < A.heap.size → (k < n ∨ T k) → C.heap[k]? = A.heap[k]?
theorem Oth.refl (T : Nat → Prop) (n : Nat) (A : World) : Oth T n A A := ⟨rfl, rfl, rfl, Nat.le_refl _, fun _ _ _ => rfl⟩
theorem Oth.of_below {T : Nat → Prop} {n : Nat} {A C : World} (h : Below A.heap.size A C) : Oth T n A C := ⟨h.os, h.tape, h.output, h.size, fun k hk _ => h.block k hk⟩
theorem Oth.trans {T : Nat → Prop} {n : Nat} {A B C : World} (h : Oth T n A B) (k : Oth T n B C) : Oth T n A C :=
  ⟨k.os.trans h.os, k.tape.trans h.tape, k.output.trans h.output, Nat.le_trans h.size k.size,
    fun i hi ht => (k.block i (by have := h.size; omega) ht).trans (h.block i hi ht)⟩
theorem Oth.mono {T T' : Nat → Prop} {n n' : Nat} {A C : World} (h : Oth T n A C) (hn : n' ≤ n) (hT : ∀ k, T' k → T k) : Oth T' n' A C :=
  ⟨h.os, h.tape, h.output, h.size, fun k hk hh => h.block k hk (hh.elim (fun a => .inl (by omega)) (fun a => .inr (hT k a)))⟩
theorem Oth.putObj {T : Nat → Prop} {n l : Nat} {A : World} (o : Obj) (hn : n ≤ l) (hT : ¬ T l) : Oth T n A (A.putObj l o) :=
  ⟨rfl, rfl, rfl, by simp, fun k _ hh => World.putObj_heap_other (fun e => by subst e; exact hh.elim (fun a => by omega) hT)⟩
theorem Oth.below {T : Nat → Prop} {n B : Nat} {A C : World} (h : Oth T n A C) (hB : B ≤ n) (hA : B ≤ A.heap.size) : Below B A C :=
  ⟨h.os, h.tape, h.output, h.size, fun k hk => h.block k (by omega) (.inl (by omega))⟩

/-- What a round turns: of the blocks that lay, those of T; and what T' names is of T or new. -/
structure Rnd (T T' : Nat → Prop) (A C : World) : Prop where
  size : A.heap.size ≤ C.heap.size
  block : ∀ k, k < A.heap.size → ¬ T k → C.heap[k]? = A.heap[k]?
  grew : ∀ k, T' k → T k ∨ A.heap.size ≤ k
theorem Rnd.refl (T : Nat → Prop) (A : World) : Rnd T T A A := ⟨Nat.le_refl _, fun _ _ _ => rfl, fun _ h => .inl h⟩
theorem Rnd.trans {T T' T'' : Nat → Prop} {A B C : World} (h : Rnd T T' A B) (k : Rnd T' T'' B C) : Rnd T T'' A C :=
  ⟨Nat.le_trans h.size k.size,
    fun i hi ht => (k.block i (by have := h.size; omega) (fun e => (h.grew i e).elim ht (fun e => by omega))).trans (h.block i hi ht),
    fun i hi => (k.grew i hi).elim (fun e => h.grew i e) (fun e => .inr (by have := h.size; omega))⟩
theorem Rnd.of_below {T : Nat → Prop} {A C : World} (h : Below A.heap.size A C) : Rnd T T A C := ⟨h.size, fun k hk _ => h.block k hk, fun _ h => .inl h⟩
theorem Rnd.or {T T' : Nat → Prop} {A C : World} (S : Nat → Prop) (h : Rnd T T' A C) : Rnd (fun k => T k ∨ S k) (fun k => T' k ∨ S k) A C :=
  ⟨h.size, fun k hk hT => h.block k hk (fun e => hT (.inl e)), fun k hk => hk.elim (fun e => (h.grew k e).elim (fun e => .inl (.inl e)) .inr) (fun e => .inl (.inr e))⟩
theorem Rnd.put {T : Nat → Prop} {l : Nat} {A : World} (o : Obj) (h : T l) : Rnd T T A (A.putObj l o) :=
  ⟨by simp, fun k _ hk => World.putObj_heap_other (fun e => hk (e ▸ h)), fun _ h => .inl h⟩

/-- An iterator that calls yield on 'encs 0', .., 'encs (N - 1)', its rounds all going on: it reads the blocks of R behind a round, and writes none that lay when it was called. -/
def Giv (P : Program) (g : Nat) (lb : Array Value) (encs : Nat → Array Value) (N : Nat) (R : Nat → Prop) (w : World) : Prop :=
  ∀ (l : Nat) (J : Nat → (Nat → Prop) → World → Prop) (T₀ : Nat → Prop) (W : World), Below w.heap.size w W → (∀ k, R k → ¬ T₀ k) →
    (∀ k T A, J k T A → ∀ j, T j → j < A.heap.size) →
    (∀ k T A C, J k T A → Oth T W.heap.size A C → J k T C) →
    (∀ k T W1, k < N → W.heap.size ≤ W1.heap.size → J k T W1 → YieldAt Fence.wide 0 P l (encs k) W1 fun e W' => e = .returned (.bool true) ∧ ∃ T', J (k + 1) T' W' ∧ Rnd T T' W1 W') →
    J 0 T₀ W → CallsIn Fence.wide 0 P g (#[.func (.yield l) #[] #[]] ++ lb) W fun e W' => (∃ v, e = .returned v) ∧ ∃ T', J N T' W'

theorem roundIn_wide {P : Program} {n m : Nat} {l : Nat} {f : FuncId} {tmps : Array Value} {a b : Code} {w : World} {R : Ending → World → Prop} (h : RoundIn Fence.wide n P l f tmps a b w R) : RoundIn Fence.wide m P l f tmps a b w R :=
  ⟨h.1, fun c cs _ => h.2 c cs (room_wide _)⟩
theorem callsIn_any {P : Program} {n m : Nat} {f : FuncId} {args : Array Value} {w : World} {R : Ending → World → Prop} (h : CallsIn Fence.wide n P f args w R) : CallsIn Fence.wide m P f args w R :=
  callsIn_wide.2 (callsIn_wide.1 h)
theorem yield_any {P : Program} {n m l : Nat} {vs : Array Value} {w : World} {R : Ending → World → Prop} (h : YieldAt Fence.wide n P l vs w R) : YieldAt Fence.wide m P l vs w R := by
  obtain ⟨fn, tm, asg, bo, hy, hr⟩ := h
  exact ⟨fn, tm, asg, bo, hy, roundIn_wide hr⟩

/-- How the body of a round is left: off its end. -/
def goOn (I : Nat → (Nat → Prop) → World → Prop) (T : Nat → Prop) (k : Nat) (W : World) : Exit → Act → World → Prop
  | .normal, _, W' => ∃ T', I (k + 1) T' W' ∧ Rnd T T' W W'
  | _, _, _ => False

/-- The record of the loop in a state. -/
abbrev rcd (fn : FuncId) (tm : Array Value) (ps : Array Tmp) (assign body : Code) (df : Nat) (st : LoopState) : Loop := { state := st, pending := none, fn, tmps := tm, params := ps, assign, body, defers := df }

/-- One round of the loop whose record is the block l. -/
theorem one_round {P : Program} {l ws df : Nat} {fn : FuncId} {ps : Array Tmp} {assign body : Code} {tm : Array Value} (hfn : Fence.wide.fn fn)
    {vs : Array Value} (hps : vs.size = ps.size) {cs : Array Value} {ty : TypeId} {a₁ : Nat → Act} {I : Nat → (Nat → Prop) → World → Prop}
    (hI : ∀ k T A C, I k T A → Oth T ws A C → I k T C) (hS : ∀ k T A, I k T A → ∀ j, T j → j < A.heap.size) (hw : ws ≤ l)
    {k : Nat} {T : Nat → Prop} {W : World} (hl : W.heap[l]? = some (.loop (rcd fn tm ps assign body df .ready))) (hlt : ¬ T l) (hi : I k T W)
    (hassign : ∀ (K : Act → World → Prop), K (a₁ W.heap.size) (W.alloc (.cells cs ty)) →
      assign.wpIn (Fence.wide.inRound l) 0 P (Exit.then K (fun _ _ _ => False)) { tmps := (ps.zip vs).foldl (fun t (p, v) => t.setIfInBounds p v) tm, defers := [] } W)
    (hbody : ∀ (A : World), l < W.heap.size → Blk A W.heap.size ty cs → ¬ T W.heap.size → (∃ r, A.heap[l]? = some (.loop r)) → I k T A →
      body.wpIn (Fence.wide.inRound l) 0 P (goOn I T k A) (a₁ W.heap.size) A) :
    YieldAt Fence.wide 0 P l vs W fun e W' => e = .returned (.bool true) ∧ ∃ T', (I (k + 1) T' W' ∧ W'.heap[l]? = some (.loop (rcd fn tm ps assign body df .ready)) ∧ ¬ T' l) ∧ Rnd T T' W W' := by
  have hls : l < W.heap.size := (Array.getElem?_eq_some_iff.1 hl).1
  refine ⟨fn, _, assign, body, run_yield (P := P) (args := vs) hl hps, roundIn_wide (n := 0) (roundIn_of_wpIn hfn (hassign _ ⟨_, run_beginRound (P := P) (r := rcd fn tm ps assign body df .ready) ((Below.heap_alloc _ _ _ hls).trans hl) rfl, ?_⟩))⟩
  obtain ⟨A0, hA0⟩ : ∃ A, W.alloc (.cells cs ty) = A := ⟨_, rfl⟩
  have hb0 : Below W.heap.size W A0 := by rw [← hA0]; exact (Below.refl _ _).alloc (Nat.le_refl _) _
  have hs0 : A0.heap.size = W.heap.size + 1 := by rw [← hA0]; simp
  have hk0 : Blk A0 W.heap.size ty cs := by rw [← hA0]; exact Blk.new _ _ _
  have hi0 : I k T A0 := hI _ _ _ _ hi (Oth.of_below hb0)
  rw [hA0]
  obtain ⟨A, hA⟩ : ∃ A, A0.putObj l (.loop (rcd fn tm ps assign body df .busy)) = A := ⟨_, rfl⟩
  rw [show (World.putObj A0 l (Obj.loop _)) = A from hA]
  have hsA : A.heap.size = W.heap.size + 1 := by rw [← hA]; simp [hs0]
  have hlA : A.heap[l]? = some (.loop (rcd fn tm ps assign body df .busy)) := by rw [← hA]; exact World.putObj_heap_same (by omega)
  have hiA : I k T A := by rw [← hA]; exact hI _ _ _ _ hi0 (Oth.putObj _ hw hlt)
  have hkA : Blk A W.heap.size ty cs := hk0.same (by rw [← hA]; exact World.putObj_heap_other (by omega))
  have hnT : ¬ T W.heap.size := fun h => by have := hS _ _ _ hi _ h; omega
  refine wpIn_mono (hbody A hls hkA hnT ⟨_, hlA⟩ hiA) ?_
  rintro e a3 W3 hp
  cases e with
  | normal =>
    obtain ⟨T', hi3, hr3⟩ := hp
    have hl3 := (hr3.block l (by omega) hlt).trans hlA
    have hlt' : ¬ T' l := fun h => (hr3.grew _ h).elim hlt (fun e => by omega)
    have h3s := hr3.size
    refine ⟨_, _, run_endRound none hl3, rfl, T', ⟨hI _ _ _ _ hi3 (Oth.putObj _ hw hlt'), World.putObj_heap_same (by omega), hlt'⟩, ?_⟩
    refine ⟨by simp; omega, fun j hj hT => ?_, fun j hj => (hr3.grew j hj).imp id (fun e => by omega)⟩
    by_cases he : j = l
    · subst he; exact (World.putObj_heap_same (by omega)).trans hl.symm
    · rw [World.putObj_heap_other he, hr3.block j (by omega) hT, ← hA, World.putObj_heap_other he]; exact hb0.block j hj
  | _ => exact hp.elim

/-- The law of the loop, outermost. -/
theorem wpIn_giv {P : Program} {n : Nat} {g : Operand} {ps : Array Tmp} {assign body : Code} {Q : Exit → Act → World → Prop} {a : Act} {w : World}
    {gf : Nat} {lb : Array Value} (hg : a.eval g = .func (.func gf) #[] lb) (eg : ∀ args w, (callFunc gf args).run P w = .ok (.enter gf args) w)
    {encs : Nat → Array Value} {N : Nat} {R : Nat → Prop} (hseq : Giv P gf lb encs N R w) (hps : ∀ k, (encs k).size = ps.size)
    (I : Nat → (Nat → Prop) → World → Prop) (hI : ∀ k T A C, I k T A → Oth T w.heap.size A C → I k T C) (hS : ∀ k T A, I k T A → ∀ j, T j → j < A.heap.size)
    (T₀ : Nat → Prop) (hT : ∀ k, T₀ k → k < w.heap.size ∧ ¬ R k) (h0 : I 0 T₀ w) (a₁ : Nat → Nat → Act) (cs : Nat → Array Value) (ty : TypeId)
    (hassign : ∀ (l k : Nat) (W : World) (K : Act → World → Prop), K (a₁ k W.heap.size) (W.alloc (.cells (cs k) ty)) →
      assign.wpIn (Fence.wide.inRound l) 0 P (Exit.then K (fun _ _ _ => False)) { tmps := (ps.zip (encs k)).foldl (fun t (p, v) => t.setIfInBounds p v) a.tmps, defers := [] } W)
    (hbody : ∀ (l k : Nat) (T : Nat → Prop) (B : Nat) (W : World), k < N → w.heap.size < l → l < B → Blk W B ty (cs k) → ¬ T B → (∃ r, W.heap[l]? = some (.loop r)) → ¬ T l → I k T W →
      body.wpIn (Fence.wide.inRound l) 0 P (goOn I T k W) (a₁ k B) W)
    (hdone : ∀ (T : Nat → Prop) (W : World), w.heap.size + 2 ≤ W.heap.size → I N T W → ¬ T w.heap.size → W.heap[w.heap.size]? = some (.deferred (some [])) →
      Q .normal { a with defers := { target := .collected w.heap.size, args := #[] } :: a.defers } W) :
    (Code.rangeFunc g ps assign body).wpIn Fence.wide n P Q a w := by
  refine wpIn_rangeFunc fun fn hfn => ?_
  let rc : LoopState → Loop := rcd fn a.tmps ps assign body w.heap.size
  let l := w.heap.size + 1
  obtain ⟨W1, hW1⟩ : ∃ W1, (w.alloc (.deferred (some []))).alloc (.loop (rc .ready)) = W1 := ⟨_, rfl⟩
  have hs1 : W1.heap.size = w.heap.size + 2 := by rw [← hW1]; simp
  have hb1 : Below w.heap.size w W1 := by rw [← hW1]; exact ((Below.refl _ w).alloc (Nat.le_refl _) _).alloc (by simp) _
  have hl1 : W1.heap[l]? = some (.loop (rc .ready)) := by
    rw [← hW1]; have := World.alloc_heap_new (w.alloc (.deferred (some []))) (.loop (rc .ready)); rwa [World.size_alloc] at this
  have hd1 : W1.heap[w.heap.size]? = some (.deferred (some [])) := by
    rw [← hW1]; exact (Below.heap_alloc _ _ _ (by simp)).trans (World.alloc_heap_new w _)
  refine ⟨l, [{ target := .collected w.heap.size, args := #[] }], W1, { target := .fn (.func gf) lb, args := #[.func (.yield l) #[] #[]] }, W1, gf,
    #[.func (.yield l) #[] #[]] ++ lb, W1, ?_, ?_, fun _ _ => trivial, ?_, fun h => by simp [Fence.wide] at h, ?_⟩
  · rw [← hW1]; exact run_enterLoop_outer _ _ _ _ _
  · simp only [resolve, hg]
    simp [go_sem]
  · simp [invoke, go_sem, eg]
  · refine callsIn_any ((hseq l (fun k T W => (I k T W ∧ W.heap[l]? = some (.loop (rc .ready)) ∧ ¬ T l) ∧ W.heap[w.heap.size]? = some (.deferred (some [])) ∧ ¬ T w.heap.size ∧ w.heap.size + 2 ≤ W.heap.size)
      T₀ W1 hb1 (fun k hk ht => (hT k ht).2 hk) (fun k T A h => hS k T A h.1.1) ?_ ?_ ⟨⟨hI _ _ _ _ h0 (Oth.of_below hb1), hl1, fun h => by have := (hT _ h).1; omega⟩, hd1, fun h => by have := (hT _ h).1; omega, by omega⟩).mono ?_)
    · rintro k T A C ⟨⟨hi, h2, h2'⟩, h3, h3', h4⟩ hb
      exact ⟨⟨hI _ _ _ _ hi (hb.mono (by omega) (fun _ h => h)), (hb.block _ (by omega) (.inl (by omega))).trans h2, h2'⟩, (hb.block _ (by omega) (.inl (by omega))).trans h3, h3', by have := hb.size; omega⟩
    · rintro k T W hk _ ⟨⟨hi, hl, hlt⟩, hd, hdt, hsz⟩
      have := one_round (P := P) (I := I) (ws := w.heap.size) (a₁ := a₁ k) (cs := cs k) (ty := ty) hfn (hps k) hI hS (by omega) hl hlt hi (fun K hK => hassign l k W K hK)
        (fun A h1 h2 h3 h4 h5 => hbody l k T _ A hk (by omega) h1 h2 h3 h4 hlt h5)
      refine YieldAt.mono this ?_
      rintro e W' ⟨he, T', h5, hr⟩
      have := hr.size
      exact ⟨he, T', ⟨h5, (hr.block _ (by omega) hdt).trans hd, fun h => (hr.grew _ h).elim hdt (fun e => by omega), by omega⟩, hr⟩
    · rintro e W2 ⟨⟨v, rfl⟩, T', ⟨hi, hl, hlt⟩, hd, hdt, hsz⟩
      exact ⟨none, _, run_endLoop hl (by simp [rc]), hdone T' _ (by simpa using hsz) (hI _ _ _ _ hi (Oth.putObj _ (by omega) hlt)) hdt ((World.putObj_heap_other (by omega)).trans hd)⟩

/-- The law of the loop, in a round of another. -/
theorem wpIn_givN {P : Program} {n : Nat} {g : Operand} {ps : Array Tmp} {assign body : Code} {Q : Exit → Act → World → Prop} {a : Act} {w : World}
    {l₀ : Nat} (hl₀ : ∃ r₀, w.heap[l₀]? = some (.loop r₀))
    {gf : Nat} {lb : Array Value} (hg : a.eval g = .func (.func gf) #[] lb) (eg : ∀ args w, (callFunc gf args).run P w = .ok (.enter gf args) w)
    {encs : Nat → Array Value} {N : Nat} {R : Nat → Prop} (hseq : Giv P gf lb encs N R w) (hps : ∀ k, (encs k).size = ps.size)
    (I : Nat → (Nat → Prop) → World → Prop) (hI : ∀ k T A C, I k T A → Oth T w.heap.size A C → I k T C) (hS : ∀ k T A, I k T A → ∀ j, T j → j < A.heap.size)
    (T₀ : Nat → Prop) (hT : ∀ k, T₀ k → k < w.heap.size ∧ ¬ R k) (h0 : I 0 T₀ w) (a₁ : Nat → Nat → Act) (cs : Nat → Array Value) (ty : TypeId)
    (hassign : ∀ (l k : Nat) (W : World) (K : Act → World → Prop), K (a₁ k W.heap.size) (W.alloc (.cells (cs k) ty)) →
      assign.wpIn (Fence.wide.inRound l) 0 P (Exit.then K (fun _ _ _ => False)) { tmps := (ps.zip (encs k)).foldl (fun t (p, v) => t.setIfInBounds p v) a.tmps, defers := [] } W)
    (hbody : ∀ (l k : Nat) (T : Nat → Prop) (B : Nat) (W : World), k < N → w.heap.size ≤ l → l < B → Blk W B ty (cs k) → ¬ T B → (∃ r, W.heap[l]? = some (.loop r)) → ¬ T l → I k T W →
      body.wpIn (Fence.wide.inRound l) 0 P (goOn I T k W) (a₁ k B) W)
    (hdone : ∀ (T : Nat → Prop) (W : World), w.heap.size + 1 ≤ W.heap.size → I N T W → Q .normal a W) :
    (Code.rangeFunc g ps assign body).wpIn (Fence.wide.inRound l₀) n P Q a w := by
  obtain ⟨r₀, hl₀⟩ := hl₀
  refine wpIn_rangeFunc fun fn hfn => ?_
  let rc : LoopState → Loop := rcd fn a.tmps ps assign body r₀.defers
  let l := w.heap.size
  obtain ⟨W1, hW1⟩ : ∃ W1, w.alloc (.loop (rc .ready)) = W1 := ⟨_, rfl⟩
  have hs1 : W1.heap.size = w.heap.size + 1 := by rw [← hW1]; simp
  have hb1 : Below w.heap.size w W1 := by rw [← hW1]; exact (Below.refl _ w).alloc (Nat.le_refl _) _
  have hl1 : W1.heap[l]? = some (.loop (rc .ready)) := by rw [← hW1]; exact World.alloc_heap_new w _
  refine ⟨l, [], W1, { target := .fn (.func gf) lb, args := #[.func (.yield l) #[] #[]] }, W1, gf,
    #[.func (.yield l) #[] #[]] ++ lb, W1, ?_, ?_, fun _ _ => trivial, ?_, fun h => by simp [Fence.wide, Fence.inRound] at h, ?_⟩
  · rw [← hW1]; exact run_enterLoop_inner hl₀ _ _ _ _ _
  · simp only [resolve, hg]
    simp [go_sem]
  · simp [invoke, go_sem, eg]
  · refine CallsIn.inRound l₀ (callsIn_any ((hseq l (fun k T W => (I k T W ∧ W.heap[l]? = some (.loop (rc .ready)) ∧ ¬ T l) ∧ w.heap.size + 1 ≤ W.heap.size)
      T₀ W1 hb1 (fun k hk ht => (hT k ht).2 hk) (fun k T A h => hS k T A h.1.1) ?_ ?_ ⟨⟨hI _ _ _ _ h0 (Oth.of_below hb1), hl1, fun h => by have := (hT _ h).1; omega⟩, by omega⟩).mono ?_))
    · rintro k T A C ⟨⟨hi, h2, h2'⟩, h4⟩ hb
      exact ⟨⟨hI _ _ _ _ hi (hb.mono (by omega) (fun _ h => h)), (hb.block _ (by omega) (.inl (by omega))).trans h2, h2'⟩, by have := hb.size; omega⟩
    · rintro k T W hk _ ⟨⟨hi, hl, hlt⟩, hsz⟩
      have := one_round (P := P) (I := I) (ws := w.heap.size) (a₁ := a₁ k) (cs := cs k) (ty := ty) hfn (hps k) hI hS (by omega) hl hlt hi (fun K hK => hassign l k W K hK)
        (fun A h1 h2 h3 h4 h5 => hbody l k T _ A hk (by omega) h1 h2 h3 h4 hlt h5)
      refine YieldAt.mono this ?_
      rintro e W' ⟨he, T', h5, hr⟩
      have := hr.size
      exact ⟨he, T', ⟨h5, by omega⟩, hr⟩
    · rintro e W2 ⟨⟨v, rfl⟩, T', ⟨hi, hl, hlt⟩, hsz⟩
      exact ⟨none, _, run_endLoop hl (by simp [rc]), hdone T' _ (by simpa using hsz) (hI _ _ _ _ hi (Oth.putObj _ (by omega) hlt))⟩

end Go.Proofs.YtgfhhpodcnohpaaDoor
