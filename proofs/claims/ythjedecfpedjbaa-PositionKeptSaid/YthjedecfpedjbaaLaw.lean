/- A range over an iterator function whose rounds all go on: the contract of such an iterator, and the law of the loop over it. Conditions: no round is left early; the rounds write listed blocks alone. -/
import Derived.RangeFuncNested
import Derived.RangeFuncBound
import Derived.RangeFuncCalls
import Derived.RangeFuncLeaves
import Derived.Shelf.Abstract
import Derived.Shelf.RegionOpen
import Derived.WalkKit
import Derived.OwnWalkIn
import Derived.TacticsInMore
import Derived.LoopNIn
import Derived.LoopIn
import Derived.RangeFuncBox
namespace Go.Proofs.Ythjedecfpedjbaa
open Go.RowKit Go.Shelf

/-- Of the blocks that lay, those in T alone may have turned. -/
def Keep (T : Nat → Prop) (W W' : World) : Prop := W.heap.size ≤ W'.heap.size ∧ ∀ k, k < W.heap.size → ¬ T k → W'.heap[k]? = W.heap[k]?
theorem Keep.refl (T : Nat → Prop) (W : World) : Keep T W W := ⟨Nat.le_refl _, fun _ _ _ => rfl⟩
theorem Keep.trans {T : Nat → Prop} {A B C : World} (h : Keep T A B) (k : Keep T B C) : Keep T A C :=
  ⟨Nat.le_trans h.1 k.1, fun i hi ht => (k.2 i (by have := h.1; omega) ht).trans (h.2 i hi ht)⟩
theorem Keep.mono {T T' : Nat → Prop} {A B : World} (h : Keep T A B) (hT : ∀ k, T k → T' k) : Keep T' A B := ⟨h.1, fun i hi ht => h.2 i hi (fun e => ht (hT i e))⟩
theorem Keep.of_below {T : Nat → Prop} {A B : World} (h : Below A.heap.size A B) : Keep T A B := ⟨h.size, fun k hk _ => h.block k hk⟩
theorem Keep.putObj (W : World) (l : Nat) (o : Obj) : Keep (· = l) W (W.putObj l o) := ⟨by simp, fun k _ hk => World.putObj_heap_other hk⟩

/-- An iterator that calls yield on 'encs 0', .., 'encs (N - 1)', its rounds all going on: it reads the blocks of R behind a round; the rounds write blocks of T that lay when it was called; it writes none that lay. -/
def Gives (P : Program) (g : Nat) (lb : Array Value) (encs : Nat → Array Value) (N : Nat) (R : Nat → Prop) (w : World) : Prop :=
  ∀ (l : Nat) (J : Nat → World → Prop) (T : Nat → Prop) (W : World), Below w.heap.size w W → (∀ k, T k → k < W.heap.size ∧ ¬ R k) →
    (∀ k A C, J k A → Below W.heap.size A C → J k C) →
    (∀ k W1, k < N → W.heap.size ≤ W1.heap.size → J k W1 → YieldAt Fence.wide 0 P l (encs k) W1 fun e W' => e = .returned (.bool true) ∧ J (k + 1) W' ∧ Keep T W1 W') →
    J 0 W → CallsIn Fence.wide 0 P g (#[.func (.yield l) #[] #[]] ++ lb) W fun e W' => (∃ v, e = .returned v) ∧ J N W'

theorem roundIn_wide {P : Program} {n m : Nat} {l : Nat} {f : FuncId} {tmps : Array Value} {a b : Code} {w : World} {R : Ending → World → Prop} (h : RoundIn Fence.wide n P l f tmps a b w R) : RoundIn Fence.wide m P l f tmps a b w R :=
  ⟨h.1, fun c cs _ => h.2 c cs (room_wide _)⟩
theorem callsIn_any {P : Program} {n m : Nat} {f : FuncId} {args : Array Value} {w : World} {R : Ending → World → Prop} (h : CallsIn Fence.wide n P f args w R) : CallsIn Fence.wide m P f args w R :=
  callsIn_wide.2 (callsIn_wide.1 h)

/-- How the body of a round is left: off its end. -/
def goesOn (I : Nat → World → Prop) (T : Nat → Prop) (k : Nat) (W : World) : Exit → Act → World → Prop
  | .normal, _, W' => I (k + 1) W' ∧ Keep T W W'
  | _, _, _ => False

/-- The law of the loop. -/
theorem wpIn_gives {P : Program} {n : Nat} {g : Operand} {ps : Array Tmp} {assign body : Code} {Q : Exit → Act → World → Prop} {a : Act} {w : World}
    {gf : Nat} {lb : Array Value} (hg : a.eval g = .func (.func gf) #[] lb) (eg : ∀ args w, (callFunc gf args).run P w = .ok (.enter gf args) w)
    {encs : Nat → Array Value} {N : Nat} {R : Nat → Prop} (hseq : Gives P gf lb encs N R w) (hps : ∀ k, (encs k).size = ps.size) (hR : ∀ k, R k → k < w.heap.size)
    (I : Nat → World → Prop) (hI : ∀ k A C, I k A → Below w.heap.size A C → I k C) (h0 : I 0 w) (T : Nat → Prop) (hT : ∀ k, T k → k < w.heap.size ∧ ¬ R k) (a₁ : Nat → Act)
    (hassign : ∀ (l k : Nat) (W : World) (K : Act → World → Prop), K (a₁ k) W →
      assign.wpIn (Fence.wide.inRound l) 0 P (Exit.then K (fun _ _ _ => False)) { tmps := (ps.zip (encs k)).foldl (fun t (p, v) => t.setIfInBounds p v) a.tmps, defers := [] } W)
    (hbody : ∀ (l k : Nat) (W : World), k < N → w.heap.size + 2 ≤ W.heap.size → I k W → body.wpIn (Fence.wide.inRound l) 0 P (goesOn I T k W) (a₁ k) W)
    (hdone : ∀ (W : World), w.heap.size + 2 ≤ W.heap.size → I N W → W.heap[w.heap.size]? = some (.deferred (some [])) → Q .normal { a with defers := { target := .collected w.heap.size, args := #[] } :: a.defers } W) :
    (Code.rangeFunc g ps assign body).wpIn Fence.wide n P Q a w := by
  refine wpIn_rangeFunc fun fn hfn => ?_
  let rc : LoopState → Option Code → Loop := fun st pe => { state := st, pending := pe, fn, tmps := a.tmps, params := ps, assign, body, defers := w.heap.size }
  let l := w.heap.size + 1
  obtain ⟨W1, hW1⟩ : ∃ W1, (w.alloc (.deferred (some []))).alloc (.loop (rc .ready none)) = W1 := ⟨_, rfl⟩
  have hs1 : W1.heap.size = w.heap.size + 2 := by rw [← hW1]; simp
  have hb1 : Below w.heap.size w W1 := by rw [← hW1]; exact ((Below.refl _ w).alloc (Nat.le_refl _) _).alloc (by simp) _
  have hl1 : W1.heap[l]? = some (.loop (rc .ready none)) := by
    rw [← hW1]; have := World.alloc_heap_new (w.alloc (.deferred (some []))) (.loop (rc .ready none)); rwa [World.size_alloc] at this
  have hd1 : W1.heap[w.heap.size]? = some (.deferred (some [])) := by
    rw [← hW1]; exact (Below.heap_alloc _ _ _ (by simp)).trans (World.alloc_heap_new w _)
  have put : ∀ (A : World) (o : Obj), w.heap.size + 2 ≤ A.heap.size → Below w.heap.size A (A.putObj l o) := fun A o hA =>
    ⟨rfl, rfl, rfl, by simp, fun k hk => World.putObj_heap_other (by omega)⟩
  refine ⟨l, [{ target := .collected w.heap.size, args := #[] }], W1, { target := .fn (.func gf) lb, args := #[.func (.yield l) #[] #[]] }, W1, gf,
    #[.func (.yield l) #[] #[]] ++ lb, W1, ?_, ?_, fun _ _ => trivial, ?_, fun h => by simp [Fence.wide] at h, ?_⟩
  · rw [← hW1]; exact run_enterLoop_outer _ _ _ _ _
  · simp only [resolve, hg]
    simp [go_sem]
  · simp [invoke, go_sem, eg]
  · refine callsIn_any ((hseq l (fun k W => I k W ∧ W.heap[l]? = some (.loop (rc .ready none)) ∧ W.heap[w.heap.size]? = some (.deferred (some [])) ∧ w.heap.size + 2 ≤ W.heap.size)
      (fun k => T k ∨ k = l) W1 hb1 ?_ ?_ ?_ ⟨hI _ _ _ h0 hb1, hl1, hd1, by omega⟩).mono ?_)
    · rintro k (h | rfl)
      · have := hT k h; exact ⟨by omega, this.2⟩
      · exact ⟨by omega, fun h => by have := hR _ h; omega⟩
    · rintro k A C ⟨hi, h2, h3, h4⟩ hb
      exact ⟨hI _ _ _ hi (hb.mono (by omega)), (hb.block _ (by omega)).trans h2, (hb.block _ (by omega)).trans h3, by have := hb.size; omega⟩
    · rintro k W hk _ ⟨hi, hl, hd, hsz⟩
      have hy := run_yield (P := P) (args := encs k) hl (hps k)
      refine ⟨fn, _, assign, body, hy, roundIn_wide (n := 0) (roundIn_of_wpIn hfn (hassign l k W _ ⟨_, run_beginRound hl rfl, ?_⟩))⟩
      obtain ⟨W2, hW2⟩ : ∃ W2, W.putObj l (.loop { rc .ready none with state := .busy }) = W2 := ⟨_, rfl⟩
      have hs2 : W2.heap.size = W.heap.size := by rw [← hW2]; simp
      have hl2 : W2.heap[l]? = some (.loop { rc .ready none with state := .busy }) := by rw [← hW2]; exact World.putObj_heap_same (by omega)
      have hd2 : W2.heap[w.heap.size]? = some (.deferred (some [])) := by rw [← hW2]; exact (World.putObj_heap_other (by omega)).trans hd
      have hk2 : Keep (fun k => T k ∨ k = l) W W2 := by rw [← hW2]; exact (Keep.putObj W l _).mono (fun k h => .inr h)
      have hi2 : I k W2 := by rw [← hW2]; exact hI _ _ _ hi (put _ _ hsz)
      have hT' : ∀ k, w.heap.size ≤ k → ¬ T k := fun k hk h => by have := hT k h; omega
      rw [show (World.putObj W l (Obj.loop _)) = W2 from hW2]
      refine wpIn_mono (hbody l k W2 hk (by omega) hi2) ?_
      rintro e a3 W3 hp
      cases e with
      | normal =>
        obtain ⟨hi3, hk3⟩ := hp
        have hl3 := (hk3.2 l (by omega) (hT' _ (by omega))).trans hl2
        have hd3 := (hk3.2 w.heap.size (by omega) (hT' _ (by omega))).trans hd2
        have h3s := hk3.1
        refine ⟨_, _, run_endRound none hl3, rfl, ⟨hI _ _ _ hi3 (put _ _ (by omega)), World.putObj_heap_same (by omega), (World.putObj_heap_other (by omega)).trans hd3, by simp; omega⟩, ?_⟩
        exact (hk2.trans (hk3.mono (fun k h => .inl h))).trans ((Keep.putObj W3 l _).mono (fun k h => .inr h))
      | _ => exact hp.elim
    · rintro e W2 ⟨⟨v, rfl⟩, hi, hl, hd, hsz⟩
      exact ⟨none, _, run_endLoop hl (by simp [rc]), hdone _ (by simpa using hsz) (hI _ _ _ hi (put _ _ hsz)) ((World.putObj_heap_other (by omega)).trans hd)⟩

end Go.Proofs.Ythjedecfpedjbaa
