/- Texts of one claim, put together: Str, Short, Bound, Wf, Giv, RegR, PJoin, POrd, PCnt, PEd6, SameInts, EMath. Each part says what it proves and under which conditions. -/
import Derived.Test.YtkehgoailhpenaaGreatRn02
import Derived.Laws.BytesArg
import Derived.Laws.IdiomStrings
import Derived.RangeFuncNested
import Derived.RangeFuncBound
import Derived.RangeFuncCalls
import Derived.RangeFuncLeaves
import Derived.Shelf.Abstract
import Derived.Shelf.RegionOpen
import Derived.WalkKit
import Derived.OwnWalkIn
import Derived.TacticsInMore
import Derived.LoopNIn
import Derived.LoopIn
import Derived.RangeFuncBox
import Derived.OrdersIn
import Derived.Deep.RegionHeld3

/- Strings made of bytes. It has no conditions. -/
namespace Go.Proofs.YtkehgoailhpenaaGreat
open Go.RowKit Go.Shelf
set_option linter.unusedVariables false

/-- The string of these bytes. -/
def bs (Z : List Int) : ByteArray := ⟨(Z.map (fun c => UInt8.ofNat c.toNat)).toArray⟩
theorem sb_bs {Z : List Int} (h : Byt Z) : sb (bs Z) = Z := by
  unfold sb bs
  simp only [List.map_map]
  conv => rhs; rw [← List.map_id Z]
  apply List.map_congr_left
  intro c hc
  have := h c hc
  simp only [Function.comp, id]
  have h1 : (UInt8.ofNat c.toNat).toNat = c.toNat := by
    rw [UInt8.toNat_ofNat']; omega
  rw [h1]; omega
theorem bs_size (Z : List Int) : (bs Z).size = Z.length := by simp [bs, ByteArray.size]
theorem conv_str (W : World) (a : Option Addr) (cap : Nat) (Z : List Int) (hz : Byt Z) (h : Sli .u8 W a cap Z) :
    (convert 96 9 (.slice a Z.length cap)).run Tryz.prog W = .ok (.string (bs Z)) W := by
  rcases h.cells with h0 | ⟨b, off, rfl, _, hc⟩
  · subst h0
    rw [List.length_nil, run_convert_bytes_string W _ _ 5 a 0 cap Tryz.underlying96 Tryz.underlying5 Tryz.underlying9]
    cases a with
    | none => simp [Conv.bytesToString]; rfl
    | some x => simp [Conv.bytesToString, loadCells]; rfl
  · have h1 := run_convert_bytes_back (P := Tryz.prog) W 96 9 5 ⟨b, off, none⟩ cap (Z.map (fun c => UInt8.ofNat c.toNat)) Tryz.underlying96 Tryz.underlying5 Tryz.underlying9 (fun j hj => by
      have hj' : j < Z.length := by simpa using hj
      rw [show (⟨b, off, none⟩ : Addr).add j = ⟨b, off + j, none⟩ by by_cases h0 : j = 0 <;> simp [Addr.add, h0], hc j hj']
      have hb := hz Z[j] (List.getElem_mem hj')
      have h2 : (UInt8.ofNat Z[j].toNat).toNat = Z[j].toNat := by rw [UInt8.toNat_ofNat']; omega
      simp only [List.getElem_map, h2]
      simp [hj']
      omega)
    rw [List.length_map] at h1
    exact h1

end Go.Proofs.YtkehgoailhpenaaGreat

/- Short takes the first bytes of a string. It has no conditions. -/
namespace Go.Proofs.YtkehgoailhpenaaGreat
open Go.RowKit Go.Shelf

/-- The first bytes of a string. -/
def shS (s : ByteArray) (M : Nat) : ByteArray := if M < s.size then s.extract 0 M else s
theorem shS_size (s : ByteArray) (M : Nat) : (shS s M).size ≤ M := by
  unfold shS; split
  · rw [ByteArray.size_extract]; omega
  · omega
theorem short_any (s : ByteArray) (M : Nat) (w : World) (_hs : s.size ≤ 9223372036854775807) (hM : M ≤ 1000) :
    Calls Tryz.prog 19 #[.string s, .int .i64 (M : Int)] w fun e w' => e = .returned (.string (shS s M)) ∧ w = w' := by
  by_cases h : M < s.size
  · have hr : shS s M = s.extract 0 M := if_pos h
    rw [hr]
    clear hr
    go_enter Tryz.func19, Tryz.ntmps19
    go_wp2
    go_ret
    exact ⟨rfl, rfl⟩
  · have hr : shS s M = s := if_neg h
    rw [hr]
    clear hr
    go_enter Tryz.func19, Tryz.ntmps19
    go_wp2
    go_ret
    exact ⟨rfl, rfl⟩

end Go.Proofs.YtkehgoailhpenaaGreat

/- Bound maps to a range around 0. Conditions: ranges up to 2^40. -/
namespace Go.Proofs.YtkehgoailhpenaaGreat
open Go.RowKit Go.Shelf
set_option linter.unusedVariables false

/-- Bound hands back a number from -m to m. -/
def InBound (m : Nat) (w : World) (e : Ending) (w' : World) : Prop := ∃ k : Int, -(m : Int) ≤ k ∧ k ≤ (m : Int) ∧ e = .returned (.int .i64 k) ∧ w = w'
theorem bound_any (x : Int) (m : Nat) (w : World) (h1 : -9223372036854775808 ≤ x) (h2 : x ≤ 9223372036854775807) (hm2 : m ≤ 1099511627776) :
    Calls Tryz.prog 34 #[.int .i64 x, .int .i64 (m : Int)] w (InBound m w) := by
  obtain ⟨M, hM⟩ : ∃ M : Nat, 2 * m + 1 = M := ⟨_, rfl⟩
  have hMi : 2 * (m : Int) + 1 = (M : Int) := by omega
  have c1 := fun W => around_any x M W h1 h2 (by omega) (by omega)
  have C1 := Lib.hid c1
  have HM := Lib.hid hMi
  have hMb : M ≤ 2199023255553 := by omega
  clear c1 hM
  go_enter Tryz.func34, Tryz.ntmps34
  go_wp2_with fail
  refine (C1.out _).mono ?_
  rintro e w' ⟨k, hk, rfl, rfl⟩
  have hkb : (k : Int) < 2 * (m : Int) + 1 := by have := HM.out; omega
  clear hMi
  go_wp2
  go_ret
  exact ⟨(k : Int) - (m : Int), by omega, by omega, rfl, rfl⟩

end Go.Proofs.YtkehgoailhpenaaGreat

/- What fits the kinds of integers. It has no conditions. -/
namespace Go.Proofs.YtkehgoailhpenaaGreat
open Go.RowKit
theorem wf_u64 {x : Int} (h : (Lit.int .u64 x).wf = true) : 0 ≤ x ∧ x < 18446744073709551616 := by
  simp only [Lit.wf, IntKind.min, IntKind.max, IntKind.signed, IntKind.bits, Bool.and_eq_true] at h
  simp at h; omega
theorem wf_i64 {x : Int} (h : (Lit.int .i64 x).wf = true) : -9223372036854775808 ≤ x ∧ x ≤ 9223372036854775807 := by
  simp only [Lit.wf, IntKind.min, IntKind.max, IntKind.signed, IntKind.bits, Bool.and_eq_true] at h
  simp at h; omega
theorem wf_u8 {x : Int} (h : (Lit.int .u8 x).wf = true) : 0 ≤ x ∧ x ≤ 255 := by
  simp only [Lit.wf, IntKind.min, IntKind.max, IntKind.signed, IntKind.bits, Bool.and_eq_true] at h
  simp at h; omega
end Go.Proofs.YtkehgoailhpenaaGreat

/- A range over an iterator function of the program's own whose rounds all go on: the contract of such an iterator, with blocks that the rounds may turn and that may be named anew from round to round, and the law of the loop over it. Conditions: no round is left early. -/
namespace Go.Proofs.YtkehgoailhpenaaGreat
open Go.RowKit Go.Shelf

/-- Of the blocks that lay in A, those at or above n that are not of T lie in C as they lay. -/
structure Oth (T : Nat → Prop) (n : Nat) (A C : World) : Prop where
  os : C.os = A.os
  tape : C.tape = A.tape
  output : C.output = A.output
  size : A.heap.size ≤ C.heap.size
  block : ∀ k, k < A.heap.size → (k < n ∨ T k) → C.heap[k]? = A.heap[k]?
theorem Oth.refl (T : Nat → Prop) (n : Nat) (A : World) : Oth T n A A := ⟨rfl, rfl, rfl, Nat.le_refl _, fun _ _ _ => rfl⟩
theorem Oth.of_below {T : Nat → Prop} {n : Nat} {A C : World} (h : Below A.heap.size A C) : Oth T n A C := ⟨h.os, h.tape, h.output, h.size, fun k hk _ => h.block k hk⟩
theorem Oth.trans {T : Nat → Prop} {n : Nat} {A B C : World} (h : Oth T n A B) (k : Oth T n B C) : Oth T n A C :=
  ⟨k.os.trans h.os, k.tape.trans h.tape, k.output.trans h.output, Nat.le_trans h.size k.size,
    fun i hi ht => (k.block i (by have := h.size; omega) ht).trans (h.block i hi ht)⟩
theorem Oth.mono {T T' : Nat → Prop} {n n' : Nat} {A C : World} (h : Oth T n A C) (hn : n' ≤ n) (hT : ∀ k, T' k → T k) : Oth T' n' A C :=
  ⟨h.os, h.tape, h.output, h.size, fun k hk hh => h.block k hk (hh.elim (fun a => .inl (by omega)) (fun a => .inr (hT k a)))⟩
theorem Oth.putObj {T : Nat → Prop} {n l : Nat} {A : World} (o : Obj) (hn : n ≤ l) (hT : ¬ T l) : Oth T n A (A.putObj l o) :=
  ⟨rfl, rfl, rfl, by simp, fun k _ hh => World.putObj_heap_other (fun e => by subst e; exact hh.elim (fun a => by omega) hT)⟩
theorem Oth.below {T : Nat → Prop} {n B : Nat} {A C : World} (h : Oth T n A C) (hB : B ≤ n) (hA : B ≤ A.heap.size) : Below B A C :=
  ⟨h.os, h.tape, h.output, h.size, fun k hk => h.block k (by omega) (.inl (by omega))⟩

/-- What a round turns: of the blocks that lay, those of T; and what T' names is of T or new. -/
structure Rnd (T T' : Nat → Prop) (A C : World) : Prop where
  size : A.heap.size ≤ C.heap.size
  block : ∀ k, k < A.heap.size → ¬ T k → C.heap[k]? = A.heap[k]?
  grew : ∀ k, T' k → T k ∨ A.heap.size ≤ k
theorem Rnd.refl (T : Nat → Prop) (A : World) : Rnd T T A A := ⟨Nat.le_refl _, fun _ _ _ => rfl, fun _ h => .inl h⟩
theorem Rnd.trans {T T' T'' : Nat → Prop} {A B C : World} (h : Rnd T T' A B) (k : Rnd T' T'' B C) : Rnd T T'' A C :=
  ⟨Nat.le_trans h.size k.size,
    fun i hi ht => (k.block i (by have := h.size; omega) (fun e => (h.grew i e).elim ht (fun e => by omega))).trans (h.block i hi ht),
    fun i hi => (k.grew i hi).elim (fun e => h.grew i e) (fun e => .inr (by have := h.size; omega))⟩
theorem Rnd.of_below {T : Nat → Prop} {A C : World} (h : Below A.heap.size A C) : Rnd T T A C := ⟨h.size, fun k hk _ => h.block k hk, fun _ h => .inl h⟩
theorem Rnd.or {T T' : Nat → Prop} {A C : World} (S : Nat → Prop) (h : Rnd T T' A C) : Rnd (fun k => T k ∨ S k) (fun k => T' k ∨ S k) A C :=
  ⟨h.size, fun k hk hT => h.block k hk (fun e => hT (.inl e)), fun k hk => hk.elim (fun e => (h.grew k e).elim (fun e => .inl (.inl e)) .inr) (fun e => .inl (.inr e))⟩
theorem Rnd.put {T : Nat → Prop} {l : Nat} {A : World} (o : Obj) (h : T l) : Rnd T T A (A.putObj l o) :=
  ⟨by simp, fun k _ hk => World.putObj_heap_other (fun e => hk (e ▸ h)), fun _ h => .inl h⟩

/-- An iterator that calls yield on 'encs 0', .., 'encs (N - 1)', its rounds all going on: it reads the blocks of R behind a round, and writes none that lay when it was called. -/
def Giv (P : Program) (g : Nat) (lb : Array Value) (encs : Nat → Array Value) (N : Nat) (R : Nat → Prop) (w : World) : Prop :=
  ∀ (l : Nat) (J : Nat → (Nat → Prop) → World → Prop) (T₀ : Nat → Prop) (W : World), Below w.heap.size w W → (∀ k, R k → ¬ T₀ k) →
    (∀ k T A, J k T A → ∀ j, T j → j < A.heap.size) →
    (∀ k T A C, J k T A → Oth T W.heap.size A C → J k T C) →
    (∀ k T W1, k < N → W.heap.size ≤ W1.heap.size → J k T W1 → YieldAt Fence.wide 0 P l (encs k) W1 fun e W' => e = .returned (.bool true) ∧ ∃ T', J (k + 1) T' W' ∧ Rnd T T' W1 W') →
    J 0 T₀ W → CallsIn Fence.wide 0 P g (#[.func (.yield l) #[] #[]] ++ lb) W fun e W' => (∃ v, e = .returned v) ∧ ∃ T', J N T' W'

theorem roundIn_wide {P : Program} {n m : Nat} {l : Nat} {f : FuncId} {tmps : Array Value} {a b : Code} {w : World} {R : Ending → World → Prop} (h : RoundIn Fence.wide n P l f tmps a b w R) : RoundIn Fence.wide m P l f tmps a b w R :=
  ⟨h.1, fun c cs _ => h.2 c cs (room_wide _)⟩
theorem callsIn_any {P : Program} {n m : Nat} {f : FuncId} {args : Array Value} {w : World} {R : Ending → World → Prop} (h : CallsIn Fence.wide n P f args w R) : CallsIn Fence.wide m P f args w R :=
  callsIn_wide.2 (callsIn_wide.1 h)
theorem yield_any {P : Program} {n m l : Nat} {vs : Array Value} {w : World} {R : Ending → World → Prop} (h : YieldAt Fence.wide n P l vs w R) : YieldAt Fence.wide m P l vs w R := by
  obtain ⟨fn, tm, asg, bo, hy, hr⟩ := h
  exact ⟨fn, tm, asg, bo, hy, roundIn_wide hr⟩

/-- How the body of a round is left: off its end. -/
def goOn (I : Nat → (Nat → Prop) → World → Prop) (T : Nat → Prop) (k : Nat) (W : World) : Exit → Act → World → Prop
  | .normal, _, W' => ∃ T', I (k + 1) T' W' ∧ Rnd T T' W W'
  | _, _, _ => False

/-- The record of the loop in a state. -/
abbrev rcd (fn : FuncId) (tm : Array Value) (ps : Array Tmp) (assign body : Code) (df : Nat) (st : LoopState) : Loop := { state := st, pending := none, fn, tmps := tm, params := ps, assign, body, defers := df }

/-- One round of the loop whose record is the block l. -/
theorem one_round {P : Program} {l ws df : Nat} {fn : FuncId} {ps : Array Tmp} {assign body : Code} {tm : Array Value} (hfn : Fence.wide.fn fn)
    {vs : Array Value} (hps : vs.size = ps.size) {cs : Array Value} {ty : TypeId} {a₁ : Nat → Act} {I : Nat → (Nat → Prop) → World → Prop}
    (hI : ∀ k T A C, I k T A → Oth T ws A C → I k T C) (hS : ∀ k T A, I k T A → ∀ j, T j → j < A.heap.size) (hw : ws ≤ l)
    {k : Nat} {T : Nat → Prop} {W : World} (hl : W.heap[l]? = some (.loop (rcd fn tm ps assign body df .ready))) (hlt : ¬ T l) (hi : I k T W)
    (hassign : ∀ (K : Act → World → Prop), K (a₁ W.heap.size) (W.alloc (.cells cs ty)) →
      assign.wpIn (Fence.wide.inRound l) 0 P (Exit.then K (fun _ _ _ => False)) { tmps := (ps.zip vs).foldl (fun t (p, v) => t.setIfInBounds p v) tm, defers := [] } W)
    (hbody : ∀ (A : World), l < W.heap.size → Blk A W.heap.size ty cs → ¬ T W.heap.size → (∃ r, A.heap[l]? = some (.loop r)) → I k T A →
      body.wpIn (Fence.wide.inRound l) 0 P (goOn I T k A) (a₁ W.heap.size) A) :
    YieldAt Fence.wide 0 P l vs W fun e W' => e = .returned (.bool true) ∧ ∃ T', (I (k + 1) T' W' ∧ W'.heap[l]? = some (.loop (rcd fn tm ps assign body df .ready)) ∧ ¬ T' l) ∧ Rnd T T' W W' := by
  have hls : l < W.heap.size := (Array.getElem?_eq_some_iff.1 hl).1
  refine ⟨fn, _, assign, body, run_yield (P := P) (args := vs) hl hps, roundIn_wide (n := 0) (roundIn_of_wpIn hfn (hassign _ ⟨_, run_beginRound (P := P) (r := rcd fn tm ps assign body df .ready) ((Below.heap_alloc _ _ _ hls).trans hl) rfl, ?_⟩))⟩
  obtain ⟨A0, hA0⟩ : ∃ A, W.alloc (.cells cs ty) = A := ⟨_, rfl⟩
  have hb0 : Below W.heap.size W A0 := by rw [← hA0]; exact (Below.refl _ _).alloc (Nat.le_refl _) _
  have hs0 : A0.heap.size = W.heap.size + 1 := by rw [← hA0]; simp
  have hk0 : Blk A0 W.heap.size ty cs := by rw [← hA0]; exact Blk.new _ _ _
  have hi0 : I k T A0 := hI _ _ _ _ hi (Oth.of_below hb0)
  rw [hA0]
  obtain ⟨A, hA⟩ : ∃ A, A0.putObj l (.loop (rcd fn tm ps assign body df .busy)) = A := ⟨_, rfl⟩
  rw [show (World.putObj A0 l (Obj.loop _)) = A from hA]
  have hsA : A.heap.size = W.heap.size + 1 := by rw [← hA]; simp [hs0]
  have hlA : A.heap[l]? = some (.loop (rcd fn tm ps assign body df .busy)) := by rw [← hA]; exact World.putObj_heap_same (by omega)
  have hiA : I k T A := by rw [← hA]; exact hI _ _ _ _ hi0 (Oth.putObj _ hw hlt)
  have hkA : Blk A W.heap.size ty cs := hk0.same (by rw [← hA]; exact World.putObj_heap_other (by omega))
  have hnT : ¬ T W.heap.size := fun h => by have := hS _ _ _ hi _ h; omega
  refine wpIn_mono (hbody A hls hkA hnT ⟨_, hlA⟩ hiA) ?_
  rintro e a3 W3 hp
  cases e with
  | normal =>
    obtain ⟨T', hi3, hr3⟩ := hp
    have hl3 := (hr3.block l (by omega) hlt).trans hlA
    have hlt' : ¬ T' l := fun h => (hr3.grew _ h).elim hlt (fun e => by omega)
    have h3s := hr3.size
    refine ⟨_, _, run_endRound none hl3, rfl, T', ⟨hI _ _ _ _ hi3 (Oth.putObj _ hw hlt'), World.putObj_heap_same (by omega), hlt'⟩, ?_⟩
    refine ⟨by simp; omega, fun j hj hT => ?_, fun j hj => (hr3.grew j hj).imp id (fun e => by omega)⟩
    by_cases he : j = l
    · subst he; exact (World.putObj_heap_same (by omega)).trans hl.symm
    · rw [World.putObj_heap_other he, hr3.block j (by omega) hT, ← hA, World.putObj_heap_other he]; exact hb0.block j hj
  | _ => exact hp.elim

/-- The law of the loop, outermost. -/
theorem wpIn_giv {P : Program} {n : Nat} {g : Operand} {ps : Array Tmp} {assign body : Code} {Q : Exit → Act → World → Prop} {a : Act} {w : World}
    {gf : Nat} {lb : Array Value} (hg : a.eval g = .func (.func gf) #[] lb) (eg : ∀ args w, (callFunc gf args).run P w = .ok (.enter gf args) w)
    {encs : Nat → Array Value} {N : Nat} {R : Nat → Prop} (hseq : Giv P gf lb encs N R w) (hps : ∀ k, (encs k).size = ps.size)
    (I : Nat → (Nat → Prop) → World → Prop) (hI : ∀ k T A C, I k T A → Oth T w.heap.size A C → I k T C) (hS : ∀ k T A, I k T A → ∀ j, T j → j < A.heap.size)
    (T₀ : Nat → Prop) (hT : ∀ k, T₀ k → k < w.heap.size ∧ ¬ R k) (h0 : I 0 T₀ w) (a₁ : Nat → Nat → Act) (cs : Nat → Array Value) (ty : TypeId)
    (hassign : ∀ (l k : Nat) (W : World) (K : Act → World → Prop), K (a₁ k W.heap.size) (W.alloc (.cells (cs k) ty)) →
      assign.wpIn (Fence.wide.inRound l) 0 P (Exit.then K (fun _ _ _ => False)) { tmps := (ps.zip (encs k)).foldl (fun t (p, v) => t.setIfInBounds p v) a.tmps, defers := [] } W)
    (hbody : ∀ (l k : Nat) (T : Nat → Prop) (B : Nat) (W : World), k < N → w.heap.size < l → l < B → Blk W B ty (cs k) → ¬ T B → (∃ r, W.heap[l]? = some (.loop r)) → ¬ T l → I k T W →
      body.wpIn (Fence.wide.inRound l) 0 P (goOn I T k W) (a₁ k B) W)
    (hdone : ∀ (T : Nat → Prop) (W : World), w.heap.size + 2 ≤ W.heap.size → I N T W → ¬ T w.heap.size → W.heap[w.heap.size]? = some (.deferred (some [])) →
      Q .normal { a with defers := { target := .collected w.heap.size, args := #[] } :: a.defers } W) :
    (Code.rangeFunc g ps assign body).wpIn Fence.wide n P Q a w := by
  refine wpIn_rangeFunc fun fn hfn => ?_
  let rc : LoopState → Loop := rcd fn a.tmps ps assign body w.heap.size
  let l := w.heap.size + 1
  obtain ⟨W1, hW1⟩ : ∃ W1, (w.alloc (.deferred (some []))).alloc (.loop (rc .ready)) = W1 := ⟨_, rfl⟩
  have hs1 : W1.heap.size = w.heap.size + 2 := by rw [← hW1]; simp
  have hb1 : Below w.heap.size w W1 := by rw [← hW1]; exact ((Below.refl _ w).alloc (Nat.le_refl _) _).alloc (by simp) _
  have hl1 : W1.heap[l]? = some (.loop (rc .ready)) := by
    rw [← hW1]; have := World.alloc_heap_new (w.alloc (.deferred (some []))) (.loop (rc .ready)); rwa [World.size_alloc] at this
  have hd1 : W1.heap[w.heap.size]? = some (.deferred (some [])) := by
    rw [← hW1]; exact (Below.heap_alloc _ _ _ (by simp)).trans (World.alloc_heap_new w _)
  refine ⟨l, [{ target := .collected w.heap.size, args := #[] }], W1, { target := .fn (.func gf) lb, args := #[.func (.yield l) #[] #[]] }, W1, gf,
    #[.func (.yield l) #[] #[]] ++ lb, W1, ?_, ?_, fun _ _ => trivial, ?_, fun h => by simp [Fence.wide] at h, ?_⟩
  · rw [← hW1]; exact run_enterLoop_outer _ _ _ _ _
  · simp only [resolve, hg]
    simp [go_sem]
  · simp [invoke, go_sem, eg]
  · refine callsIn_any ((hseq l (fun k T W => (I k T W ∧ W.heap[l]? = some (.loop (rc .ready)) ∧ ¬ T l) ∧ W.heap[w.heap.size]? = some (.deferred (some [])) ∧ ¬ T w.heap.size ∧ w.heap.size + 2 ≤ W.heap.size)
      T₀ W1 hb1 (fun k hk ht => (hT k ht).2 hk) (fun k T A h => hS k T A h.1.1) ?_ ?_ ⟨⟨hI _ _ _ _ h0 (Oth.of_below hb1), hl1, fun h => by have := (hT _ h).1; omega⟩, hd1, fun h => by have := (hT _ h).1; omega, by omega⟩).mono ?_)
    · rintro k T A C ⟨⟨hi, h2, h2'⟩, h3, h3', h4⟩ hb
      exact ⟨⟨hI _ _ _ _ hi (hb.mono (by omega) (fun _ h => h)), (hb.block _ (by omega) (.inl (by omega))).trans h2, h2'⟩, (hb.block _ (by omega) (.inl (by omega))).trans h3, h3', by have := hb.size; omega⟩
    · rintro k T W hk _ ⟨⟨hi, hl, hlt⟩, hd, hdt, hsz⟩
      have := one_round (P := P) (I := I) (ws := w.heap.size) (a₁ := a₁ k) (cs := cs k) (ty := ty) hfn (hps k) hI hS (by omega) hl hlt hi (fun K hK => hassign l k W K hK)
        (fun A h1 h2 h3 h4 h5 => hbody l k T _ A hk (by omega) h1 h2 h3 h4 hlt h5)
      refine YieldAt.mono this ?_
      rintro e W' ⟨he, T', h5, hr⟩
      have := hr.size
      exact ⟨he, T', ⟨h5, (hr.block _ (by omega) hdt).trans hd, fun h => (hr.grew _ h).elim hdt (fun e => by omega), by omega⟩, hr⟩
    · rintro e W2 ⟨⟨v, rfl⟩, T', ⟨hi, hl, hlt⟩, hd, hdt, hsz⟩
      exact ⟨none, _, run_endLoop hl (by simp [rc]), hdone T' _ (by simpa using hsz) (hI _ _ _ _ hi (Oth.putObj _ (by omega) hlt)) hdt ((World.putObj_heap_other (by omega)).trans hd)⟩

/-- The law of the loop, in a round of another. -/
theorem wpIn_givN {P : Program} {n : Nat} {g : Operand} {ps : Array Tmp} {assign body : Code} {Q : Exit → Act → World → Prop} {a : Act} {w : World}
    {l₀ : Nat} (hl₀ : ∃ r₀, w.heap[l₀]? = some (.loop r₀))
    {gf : Nat} {lb : Array Value} (hg : a.eval g = .func (.func gf) #[] lb) (eg : ∀ args w, (callFunc gf args).run P w = .ok (.enter gf args) w)
    {encs : Nat → Array Value} {N : Nat} {R : Nat → Prop} (hseq : Giv P gf lb encs N R w) (hps : ∀ k, (encs k).size = ps.size)
    (I : Nat → (Nat → Prop) → World → Prop) (hI : ∀ k T A C, I k T A → Oth T w.heap.size A C → I k T C) (hS : ∀ k T A, I k T A → ∀ j, T j → j < A.heap.size)
    (T₀ : Nat → Prop) (hT : ∀ k, T₀ k → k < w.heap.size ∧ ¬ R k) (h0 : I 0 T₀ w) (a₁ : Nat → Nat → Act) (cs : Nat → Array Value) (ty : TypeId)
    (hassign : ∀ (l k : Nat) (W : World) (K : Act → World → Prop), K (a₁ k W.heap.size) (W.alloc (.cells (cs k) ty)) →
      assign.wpIn (Fence.wide.inRound l) 0 P (Exit.then K (fun _ _ _ => False)) { tmps := (ps.zip (encs k)).foldl (fun t (p, v) => t.setIfInBounds p v) a.tmps, defers := [] } W)
    (hbody : ∀ (l k : Nat) (T : Nat → Prop) (B : Nat) (W : World), k < N → w.heap.size ≤ l → l < B → Blk W B ty (cs k) → ¬ T B → (∃ r, W.heap[l]? = some (.loop r)) → ¬ T l → I k T W →
      body.wpIn (Fence.wide.inRound l) 0 P (goOn I T k W) (a₁ k B) W)
    (hdone : ∀ (T : Nat → Prop) (W : World), w.heap.size + 1 ≤ W.heap.size → I N T W → Q .normal a W) :
    (Code.rangeFunc g ps assign body).wpIn (Fence.wide.inRound l₀) n P Q a w := by
  obtain ⟨r₀, hl₀⟩ := hl₀
  refine wpIn_rangeFunc fun fn hfn => ?_
  let rc : LoopState → Loop := rcd fn a.tmps ps assign body r₀.defers
  let l := w.heap.size
  obtain ⟨W1, hW1⟩ : ∃ W1, w.alloc (.loop (rc .ready)) = W1 := ⟨_, rfl⟩
  have hs1 : W1.heap.size = w.heap.size + 1 := by rw [← hW1]; simp
  have hb1 : Below w.heap.size w W1 := by rw [← hW1]; exact (Below.refl _ w).alloc (Nat.le_refl _) _
  have hl1 : W1.heap[l]? = some (.loop (rc .ready)) := by rw [← hW1]; exact World.alloc_heap_new w _
  refine ⟨l, [], W1, { target := .fn (.func gf) lb, args := #[.func (.yield l) #[] #[]] }, W1, gf,
    #[.func (.yield l) #[] #[]] ++ lb, W1, ?_, ?_, fun _ _ => trivial, ?_, fun h => by simp [Fence.wide, Fence.inRound] at h, ?_⟩
  · rw [← hW1]; exact run_enterLoop_inner hl₀ _ _ _ _ _
  · simp only [resolve, hg]
    simp [go_sem]
  · simp [invoke, go_sem, eg]
  · refine CallsIn.inRound l₀ (callsIn_any ((hseq l (fun k T W => (I k T W ∧ W.heap[l]? = some (.loop (rc .ready)) ∧ ¬ T l) ∧ w.heap.size + 1 ≤ W.heap.size)
      T₀ W1 hb1 (fun k hk ht => (hT k ht).2 hk) (fun k T A h => hS k T A h.1.1) ?_ ?_ ⟨⟨hI _ _ _ _ h0 (Oth.of_below hb1), hl1, fun h => by have := (hT _ h).1; omega⟩, by omega⟩).mono ?_))
    · rintro k T A C ⟨⟨hi, h2, h2'⟩, h4⟩ hb
      exact ⟨⟨hI _ _ _ _ hi (hb.mono (by omega) (fun _ h => h)), (hb.block _ (by omega) (.inl (by omega))).trans h2, h2'⟩, by have := hb.size; omega⟩
    · rintro k T W hk _ ⟨⟨hi, hl, hlt⟩, hsz⟩
      have := one_round (P := P) (I := I) (ws := w.heap.size) (a₁ := a₁ k) (cs := cs k) (ty := ty) hfn (hps k) hI hS (by omega) hl hlt hi (fun K hK => hassign l k W K hK)
        (fun A h1 h2 h3 h4 h5 => hbody l k T _ A hk (by omega) h1 h2 h3 h4 hlt h5)
      refine YieldAt.mono this ?_
      rintro e W' ⟨he, T', h5, hr⟩
      have := hr.size
      exact ⟨he, T', ⟨h5, by omega⟩, hr⟩
    · rintro e W2 ⟨⟨v, rfl⟩, T', ⟨hi, hl, hlt⟩, hsz⟩
      exact ⟨none, _, run_endLoop hl (by simp [rc]), hdone T' _ (by simpa using hsz) (hI _ _ _ _ hi (Oth.putObj _ (by omega) hlt))⟩

end Go.Proofs.YtkehgoailhpenaaGreat

/- A region that draws its order, in a round of a loop over a function, by the laws for regions outside: as long as it defers nothing. It has no conditions. -/
namespace Go.Proofs.YtkehgoailhpenaaGreat
open Go.RowKit Go.Shelf
set_option linter.unusedVariables false

def noDefer (ops : Array Oper) : Bool := ops.toList.all fun o => match o.op with | .defer _ => false | _ => true
theorem noDefer_spec {ops : Array Oper} (h : noDefer ops = true) {i : Nat} {o : Oper} (ho : ops[i]? = some o) : ∀ c, o.op ≠ .defer c := by
  intro c hc
  have hm : o ∈ ops.toList := by rw [Array.mem_toList_iff]; exact Array.mem_of_getElem? ho
  have := List.all_eq_true.1 h o hm
  simp [hc] at this
theorem wpOpIn_of {l n : Nat} {P : Program} {ops : Array Oper} {Q : Exit → Act → World → Prop} {i : Nat} {K : Act → World → Prop} {a : Act} {w : World} (hd : noDefer ops = true) (hQ : ¬ LetsOut Q)
    (h : wpOp P ops Q i K a w) : wpOpIn (Fence.wide.inRound l) n P ops Q i K a w := by
  unfold wpOp at h
  unfold wpOpIn
  cases ho : ops[i]? with
  | none => rw [ho] at h; exact h
  | some o =>
    rw [ho] at h
    simp only at h ⊢
    split at h
    · rename_i hw
      rw [if_pos hw]
      have h1 : o.wp P a w K Q := h.resolve_right (fun x => hQ x.2)
      refine ⟨fun _ _ => trivial, ?_⟩
      rw [Oper.semAt_eq _ _ _ (noDefer_spec hd ho)]
      unfold Oper.wp at h1
      generalize (execOp a.eval o).run P w = r at h1 ⊢
      cases r with
      | ok nx w1 =>
        cases nx with
        | enter f args => exact ⟨fun x => by simp [Fence.wide, Fence.inRound] at x, CallsIn.inRound l (callsIn_wide.2 h1)⟩
        | row r args =>
          refine ⟨fun x => by simp [Fence.wide, Fence.inRound] at x, ?_⟩
          intro c cs _
          obtain ⟨v, w', r1, s1⟩ := h1 c cs
          exact ⟨v, w', r1, stepsIn_wide.2 s1⟩
        | _ => first | exact h1 | exact h1.elim
      | halt h w1 => cases h <;> first | exact h1 | exact h1.elim
    · rename_i hw
      rw [if_neg hw]
      exact ⟨fun _ _ => trivial, h⟩
theorem wpAnyIn_of {l n : Nat} {P : Program} {md : Region.Mode} {ops : Array Oper} {Q : Exit → Act → World → Prop} (hd : noDefer ops = true) (hQ : ¬ LetsOut Q) :
    ∀ (fuel : Nat) (listed : Array Bool) (a : Act) (w : World), wpAny P md ops Q fuel listed a w → wpAnyIn (Fence.wide.inRound l) n P md ops Q fuel listed a w := by
  intro fuel
  induction fuel with
  | zero => intro listed a w h; exact h
  | succ fuel ih =>
    intro listed a w h
    refine ⟨h.1, fun i hi => ?_⟩
    have h1 := wpOpIn_of (l := l) (n := n) hd hQ (h.2 i hi)
    exact wpOpIn_mono (fun a w k => ih _ a w k) h1
/-- The beginning: S holds in the world behind the draw. -/
theorem region_round {l n id : Nat} {P : Program} {ops : Array Oper} {Q : Exit → Act → World → Prop} {a : Act} {w : World} {S : World → Prop} (hm : P.follows .mixedOrders = true) (hd : noDefer ops = true) (hQ : ¬ LetsOut Q) (hS : S w.drew)
    (h : S w.drew → wpAnyH P .any ops Q S ops.size (Array.replicate ops.size false) a w.drew) : (Code.region id ops true).wpIn (Fence.wide.inRound l) n P Q a w :=
  wpIn_region_any hm (wpAnyIn_of hd hQ _ _ _ _ (wpAny_of_held _ _ _ _ (h hS)))

end Go.Proofs.YtkehgoailhpenaaGreat

/- The mathematics of joined texts: their units, lines and positions. It has no conditions. -/
namespace Go.Proofs.YtkehgoailhpenaaGreat
open Go.RowKit
set_option linter.unusedVariables false

theorem lnsF_append (A B : List Int) : ∀ i, lnsF i (A ++ B) = lnsF i A ++ lnsF (i + A.length) B := by
  induction A with
  | nil => intro i; simp [lnsF]
  | cons c A ih =>
    intro i
    have h : i + (c :: A).length = i + 1 + A.length := by simp; omega
    rw [List.cons_append, lnsF, lnsF, ih (i + 1), h]
    split <;> simp
theorem lnsF_shift (n : Nat) (B : List Int) : ∀ i, lnsF (n + i) B = (lnsF i B).map (fun x => (n : Int) + x) := by
  induction B with
  | nil => intro i; rfl
  | cons c B ih =>
    intro i
    rw [lnsF, lnsF, Nat.add_assoc, ih (i + 1)]
    split
    · simp
    · rfl
theorem lns_join (A B : List Int) : lns (A ++ B) = lns A ++ (lns B).tail.map (fun x => (A.length : Int) + x) := by
  have := lnsF_shift A.length B 0
  rw [Nat.add_zero] at this
  simp only [lns, lnsF_append, Nat.zero_add, List.tail_cons, this, List.cons_append]
theorem unis_join {A B : List Int} (w : Whl A) : unis (A ++ B) = unis A + unis B := by
  have h := Bord.join w (Bord.full B)
  have := h.unis_take
  rwa [List.take_of_length_le (by rw [List.length_append]; exact Nat.le_refl _)] at this
theorem ab_right (A B : List Int) (k : Nat) : ab (A ++ B) (A.length + k) = ab B k := by unfold ab; rw [List.getElem?_append_right (by omega)]; congr 2; omega
theorem lf_left (A B : List Int) (i : Nat) (hi : i ≤ A.length) : lf (A ++ B) i = lf A i := by
  induction i with
  | zero => rfl
  | succ i ih =>
    have h := ab_append (A := A) (B := B) (j := i) (by omega)
    rw [lf, lf, h, ih (by omega)]
theorem lf_join (A B : List Int) (k : Nat) : lf (A ++ B) (A.length + k) = ((lf A A.length).1 + (lf B k).1, if (lf B k).1 = 0 then (lf A A.length).2 else A.length + (lf B k).2) := by
  induction k with
  | zero => rw [Nat.add_zero, lf_left A B _ (Nat.le_refl _)]; rfl
  | succ k ih =>
    have h := ab_right A B k
    rw [← Nat.add_assoc]
    by_cases h10 : ab B k = 10
    · rw [lf_nl h10, lf_nl (h.trans h10), ih]
      simp only
      rw [if_neg (by omega)]
      congr 1
    · rw [lf_no h10, lf_no (fun e => h10 (h.symm.trans e)), ih]
theorem lf_zero_start (Z : List Int) (k : Nat) (h : (lf Z k).1 = 0) : (lf Z k).2 = 0 := by
  have := lf_line (Z := Z) (i := 0) k (by rw [Nat.zero_add, h]; rfl)
  rw [Nat.zero_add] at this
  rw [this]; rfl
/-- A position in the second one of two texts, found behind the first one. -/
theorem pos_join {A B : List Int} (w : Whl A) {L U k l u : Nat} (hA : Pos A A.length L U) (hB : Pos B k l u) : Pos (A ++ B) (A.length + k) (L + l) (if l = 0 then U + u else u) := by
  obtain ⟨V, hV⟩ := hB.1
  have hl := lf_join A B k
  have hj := Bord.join w hV
  rw [← hA.2.1, ← hB.2.1] at hl
  refine ⟨⟨_, hj⟩, by rw [hl], ?_⟩
  rw [hl]
  simp only
  by_cases h0 : l = 0
  · rw [if_pos h0, if_pos h0]
    have hs := lf_zero_start B k (by rw [← hB.2.1]; exact h0)
    have hb := hB.2.2
    rw [hs, List.drop_zero, Nat.sub_zero] at hb
    obtain ⟨UF, hF⟩ := lf_bord (Z := A) (i := A.length) (Nat.le_refl _)
    have hle := (lf_le A A.length).1
    obtain ⟨w1, h1, h2⟩ := hF.diff (Bord.full A) hle
    obtain ⟨w2, h3, h4⟩ := (hF.append (B := B) w).diff (Bord.join w hb) (by omega)
    have := h1.det hA.2.2
    have e : w2 = U + u := by omega
    rwa [← e]
  · rw [if_neg h0, if_neg h0]
    have hb := hB.2.2
    have hle := (lf_le B k).1
    rw [← List.drop_drop, List.drop_left, show A.length + k - (A.length + (lf B k).2) = k - (lf B k).2 by omega]
    exact hb

end Go.Proofs.YtkehgoailhpenaaGreat

/- The mathematics of positions: their order, and borders. It has no conditions. -/
namespace Go.Proofs.YtkehgoailhpenaaGreat
open Go.RowKit
set_option linter.unusedVariables false

theorem at_border {Z : List Int} {x l u : Nat} {e : Int} {U : Nat} (h : AtSpec Z (x : Int) l u e) (hb : Bord Z x U) : e = 0 ∧ Pos Z x l u := by
  rcases h with ⟨rfl, rfl, rfl, h⟩ | ⟨rfl, rfl, rfl, i, hi, h1, h2⟩ | ⟨rfl, i, hi, h⟩
  · have := hb.le; omega
  · obtain rfl : x = i := by omega
    exact absurd ⟨U, hb⟩ h2
  · obtain rfl : x = i := by omega
    exact ⟨rfl, h⟩
theorem pos_lt {Z : List Int} {x y l u m v : Nat} (h : Pos Z x l u) (k : Pos Z y m v) (hxy : x < y) : l < m ∨ (l = m ∧ u < v) := by
  obtain ⟨n, rfl⟩ : ∃ n, y = x + n := ⟨y - x, by omega⟩
  have hm := lf_mono Z x n
  rw [← h.2.1, ← k.2.1] at hm
  rcases Nat.lt_or_ge l m with h1 | h1
  · exact .inl h1
  · obtain rfl : l = m := by omega
    refine .inr ⟨rfl, ?_⟩
    have e := h.same k
    have a := h.2.2
    have b := k.2.2
    have c := (lf_le Z x).1
    rw [e] at a c
    exact a.lt b (by omega)
/-- How two positions compare. -/
theorem pos_cmp {Z : List Int} {x y l u m v : Nat} (h : Pos Z x l u) (k : Pos Z y m v) :
    (x < y ∧ l < m) ∨ (x < y ∧ l = m ∧ u < v) ∨ (x = y ∧ l = m ∧ u = v) ∨ (y < x ∧ l = m ∧ v < u) ∨ (y < x ∧ m < l) := by
  rcases Nat.lt_trichotomy x y with h1 | rfl | h1
  · rcases pos_lt h k h1 with h2 | ⟨h2, h3⟩
    · exact .inl ⟨h1, h2⟩
    · exact .inr (.inl ⟨h1, h2, h3⟩)
  · exact .inr (.inr (.inl ⟨rfl, h.det k⟩))
  · rcases pos_lt k h h1 with h2 | ⟨h2, h3⟩
    · exact .inr (.inr (.inr (.inr ⟨h1, h2⟩)))
    · exact .inr (.inr (.inr (.inl ⟨h1, h2.symm, h3⟩)))
theorem bordI_pos (Z : List Int) : 1 ≤ (bordI Z).length := by
  obtain ⟨i, hi, _⟩ := bordI_has (Bord.zero Z)
  omega

end Go.Proofs.YtkehgoailhpenaaGreat

/- The mathematics of borders: how many there are. It has no conditions. -/
namespace Go.Proofs.YtkehgoailhpenaaGreat
open Go.RowKit
set_option linter.unusedVariables false

theorem bords_pair (Z : List Int) : ∀ i, (bords i Z).Pairwise (· < ·) := by
  induction hn : Z.length using Nat.strongRecOn generalizing Z with
  | _ n ih =>
    intro i
    by_cases h : Z = []
    · subst h; rw [bords_nil]; simp
    · have h1 := chr_pos Z
      have h2 := List.length_pos_iff.2 h
      rw [bords_cons i h, List.pairwise_cons]
      refine ⟨fun x hx => ?_, ih _ (by rw [List.length_drop]; omega) _ rfl _⟩
      obtain ⟨j, u, _, rfl⟩ := mem_bords.1 hx
      omega
/-- How many of the numbers are less than k. -/
def lesser (Q : List Nat) (k : Nat) : Nat := Q.countP (fun x => decide (x < k))
theorem lesser_zero (Q : List Nat) : lesser Q 0 = 0 := by unfold lesser; rw [List.countP_eq_zero]; intro x _; simp
theorem lesser_le (Q : List Nat) (k : Nat) : lesser Q k ≤ Q.length := List.countP_le_length
theorem lesser_all {Q : List Nat} {k : Nat} (h : ∀ x ∈ Q, x < k) : lesser Q k = Q.length := by
  unfold lesser
  rw [List.countP_eq_length]
  intro x hx
  exact decide_eq_true (h x hx)
theorem lesser_step {Q : List Nat} (h : Q.Pairwise (· < ·)) (k : Nat) : lesser Q (k + 1) = lesser Q k + (if k ∈ Q then 1 else 0) := by
  induction Q with
  | nil => rfl
  | cons c Q ih =>
    rw [List.pairwise_cons] at h
    have hi := ih h.2
    unfold lesser at hi ⊢
    rw [List.countP_cons, List.countP_cons, hi]
    rcases Nat.lt_trichotomy c k with h1 | h1 | h1
    · have : (k ∈ c :: Q) ↔ (k ∈ Q) := by rw [List.mem_cons]; exact ⟨fun h => h.resolve_left (by omega), Or.inr⟩
      simp only [this]
      rw [if_pos (decide_eq_true (by omega)), if_pos (decide_eq_true h1)]; omega
    · have hk : k ∉ Q := fun hm => by have := h.1 k hm; omega
      have e1 : decide (c < k + 1) = true := decide_eq_true (by omega)
      have e2 : decide (c < k) = false := decide_eq_false (by omega)
      rw [e1, e2]
      simp [hk, h1]
    · have hk : k ∉ Q := fun hm => by have := h.1 k hm; omega
      have hk2 : k ∉ c :: Q := by rw [List.mem_cons]; rintro (e | e); · omega
                                  · exact hk e
      have e1 : decide (c < k + 1) = false := decide_eq_false (by omega)
      have e2 : decide (c < k) = false := decide_eq_false (by omega)
      rw [e1, e2]
      simp [hk, hk2]
theorem lesser_border {Z : List Int} {k U : Nat} (h : Bord Z k U) : lesser (bords 0 Z) (k + 1) = lesser (bords 0 Z) k + 1 := by
  rw [lesser_step (bords_pair Z 0), if_pos (mem_bords.2 ⟨k, U, h, by omega⟩)]
theorem lesser_none {Z : List Int} {k : Nat} (h : ¬ ∃ U, Bord Z k U) : lesser (bords 0 Z) (k + 1) = lesser (bords 0 Z) k := by
  rw [lesser_step (bords_pair Z 0), if_neg (fun hm => by obtain ⟨j, u, hb, e⟩ := mem_bords.1 hm; obtain rfl : k = j := by omega
                                                         exact h ⟨u, hb⟩)]
  rfl
theorem lesser_end (Z : List Int) : lesser (bords 0 Z) (Z.length + 1) = (bordI Z).length := by
  rw [lesser_all, bordI, List.length_map]
  intro x hx
  obtain ⟨j, u, hb, rfl⟩ := mem_bords.1 hx
  have := hb.le
  omega
theorem at_none {Z : List Int} {x l u : Nat} {e : Int} (h : AtSpec Z (x : Int) l u e) (hx : x ≤ Z.length) (hb : ¬ ∃ U, Bord Z x U) : e = 1 := by
  rcases h with ⟨rfl, rfl, rfl, h⟩ | ⟨rfl, rfl, rfl, i, hi, h1, h2⟩ | ⟨rfl, i, hi, h⟩
  · omega
  · rfl
  · obtain rfl : x = i := by omega
    exact absurd h.1 hb

end Go.Proofs.YtkehgoailhpenaaGreat

/- The contract of Bytes at one edit, and what two borders make of it. Conditions: texts of at most 100000 bytes. -/
namespace Go.Proofs.YtkehgoailhpenaaGreat
open Go.RowKit Go.Shelf
set_option linter.unusedVariables false

theorem pbytes_one (s : ByteArray) (p : PE) (d : Ed) (er : Int) (q : Nat) (w : World) (hs : s.size ≤ 100000) (hp : p.fit) (hq : Blk w q 78 p.vals.toArray) (h : EdS (sb s) p d er) :
    Calls Tryz.prog 65 #[.string s, .slice (some ⟨q, 0, none⟩) 1 1] w fun e w' => Below w.heap.size w w' ∧
      ((er ≠ 0 ∧ e = .returned (.tuple #[.slice none 0 0, .int .i64 er])) ∨
       (er = 0 ∧ ∃ a cap, e = .returned (.tuple #[.slice a 1 cap, .int .i64 0]) ∧ 1 ≤ cap ∧ cap ≤ 9223372036854775807 ∧ ECells w'.heap.size w' a 1 (fun _ => d))) := by
  refine (pbytes_any s (some ⟨q, 0, none⟩) 1 1 (fun _ => p) (fun _ => d) (fun _ => er) w hs (by omega) (by omega) (fun _ _ => hp) (.inr ⟨q, 0, rfl, hq.lt, fun k hk i hi => ?_⟩) (fun _ _ => h)).mono ?_
  · obtain rfl : k = 0 := by omega
    rw [hq.cell]
    simp
  · rintro e w' (⟨hl, _⟩ | ⟨_, hb, ⟨er', ⟨k, _, h1, h2, _⟩, rfl⟩ | ⟨hz, a, cap, rfl, h1, h2, h3⟩⟩)
    · omega
    · simp only at h1
      subst h1
      exact ⟨hb, .inl ⟨h2, rfl⟩⟩
    · exact ⟨hb, .inr ⟨hz 0 (by omega), a, cap, rfl, h1, h2, h3⟩⟩
theorem border_mono {Z : List Int} {i j x y : Nat} (hj : j < (bordI Z).length) (h1 : (bordI Z)[i]?.getD 0 = (x : Int)) (h2 : (bordI Z)[j]?.getD 0 = (y : Int)) (hij : i ≤ j) : x ≤ y := by
  rcases Nat.lt_or_ge i j with h | h
  · have hl : (bordI Z).length = (bords 0 Z).length := by simp [bordI]
    have hp := List.pairwise_iff_getElem.1 (bords_pair Z 0) i j (by omega) (by omega) h
    have e1 : (bordI Z)[i]?.getD 0 = (((bords 0 Z)[i]'(by omega) : Nat) : Int) := by simp [bordI, show i < (bords 0 Z).length by omega]
    have e2 : (bordI Z)[j]?.getD 0 = (((bords 0 Z)[j]'(by omega) : Nat) : Int) := by simp [bordI, show j < (bords 0 Z).length by omega]
    rw [e1] at h1
    rw [e2] at h2
    omega
  · obtain rfl : i = j := by omega
    omega
theorem ed_there {Z : List Int} {l1 u1 l2 u2 x y : Nat} (t : ByteArray) (h1 : Pos Z x l1 u1) (h2 : Pos Z y l2 u2) (h : x ≤ y) : EdS Z ⟨l1, u1, l2, u2, t⟩ ⟨x, y, t⟩ 0 :=
  ⟨x, 0, y, 0, .inl ⟨rfl, l1, u1, rfl, rfl, h1⟩, .inl ⟨rfl, l2, u2, rfl, rfl, h2⟩, .inr (.inr (.inr ⟨rfl, rfl, h, rfl, rfl⟩))⟩
theorem ed_back {Z : List Int} {l1 u1 l2 u2 x y : Nat} (t : ByteArray) (h1 : Pos Z x l1 u1) (h2 : Pos Z y l2 u2) (h : y < x) : EdS Z ⟨l1, u1, l2, u2, t⟩ Ed.zero 1 :=
  ⟨x, 0, y, 0, .inl ⟨rfl, l1, u1, rfl, rfl, h1⟩, .inl ⟨rfl, l2, u2, rfl, rfl, h2⟩, .inr (.inr (.inl ⟨rfl, rfl, h, rfl, rfl⟩))⟩

end Go.Proofs.YtkehgoailhpenaaGreat

/- SameInts compares. Conditions: at most 100000 elements. -/
namespace Go.Proofs.YtkehgoailhpenaaGreat
open Go.RowKit Go.Shelf

set_option maxRecDepth 100000 in
set_option maxHeartbeats 1000000 in
theorem sameInts_any (a b : Option Addr) (ca cb : Nat) (xs ys : List Int) (w : World) (hx : Sli .i64 w a ca xs) (hy : Sli .i64 w b cb ys) (hl : xs.length ≤ 100000) (_hl2 : ys.length ≤ 100000) :
    Calls Tryz.prog 24 #[.slice a xs.length ca, .slice b ys.length cb] w fun e w' => e = .returned (.bool (decide (xs = ys))) ∧ Below w.heap.size w w' := by
  by_cases hne : xs.length = ys.length
  · have HX := Lib.hid hx.cells
    have HY := Lib.hid hy.cells
    obtain ⟨n, hn⟩ : ∃ n, xs.length = n := ⟨_, rfl⟩
    rw [← hne, hn]
    have hn2 : ys.length = n := by omega
    have HN := Lib.hid hn
    have HN2 := Lib.hid hn2
    have hln : n ≤ 100000 := by omega
    clear hx hy hne hn hn2 hl
    go_enter Tryz.func24, Tryz.ntmps24
    go_wp2
    go_loopw [5] (fun i wr => ∃ k : Nat, k ≤ n ∧ i = .int .i64 k ∧ xs.take k = ys.take k ∧ Below w.heap.size w wr) (fun i _ => n - (intOf i).toNat)
    case atStart => exact ⟨0, Nat.zero_le _, rfl, rfl, Below.refl _ _⟩
    case round =>
      obtain ⟨k, hk, rfl, htk, hB⟩ := hrel
      have HTK := Lib.hid htk
      clear htk
      by_cases hlt : k < n
      · have HX2 := HX.out.below hB
        have HY2 := HY.out.below hB
        rcases HX2 with h | ⟨b1, o1, h1, _, hc1⟩
        · exact absurd (congrArg List.length h) (by rw [HN.out]; simp; omega)
        rcases HY2 with h | ⟨b2, o2, h2, _, hc2⟩
        · exact absurd (congrArg List.length h) (by rw [HN2.out]; simp; omega)
        have hk1 := hc1 k (by rw [HN.out]; omega)
        have hk2 := hc2 k (by rw [HN2.out]; omega)
        have hstep := take_step xs ys k (by rw [HN.out]; omega) (by rw [HN2.out]; omega) HTK.out
        have hstop := take_stop xs ys k (by rw [HN.out]; omega) (by rw [HN2.out]; omega)
        generalize xs[k]?.getD 0 = x at hk1 hstep hstop
        generalize ys[k]?.getD 0 = y at hk2 hstep hstop
        have HS := Lib.hid hstep
        have HS2 := Lib.hid hstop
        clear hc1 hc2 hstep hstop
        subst h1 h2
        by_cases hxy : x = y
        · have HXY := Lib.hid hxy
          have hq : (x != y) = false := by simp [hxy]
          clear hxy
          go_wp2
          go_quiet (fail)
          go_wp2
          go_roundw
          case rel => exact ⟨k + 1, by omega, by go_num, HS.out HXY.out, below_drewN hB _⟩
          case measure => simp [intOf]; omega
        · have HXY := Lib.hid hxy
          have hq : (x != y) = true := by simp [hxy]
          clear hxy
          go_wp2
          go_quiet (fail)
          go_wp2
          go_ret
          exact ⟨by rw [decide_eq_false (HS2.out HXY.out)]; rfl, below_drewN hB _⟩
      · have hkn : k = n := by omega
        subst hkn
        go_wp2
        go_ret
        exact ⟨by rw [decide_eq_true (by have := HTK.out; rwa [List.take_of_length_le (by rw [HN.out]; omega), List.take_of_length_le (by rw [HN2.out]; omega)] at this)]; rfl, hB⟩
  · have hq : ((xs.length : Int) != (ys.length : Int)) = true := by simp; omega
    have hf : decide (xs = ys) = false := decide_eq_false (fun h => hne (by rw [h]))
    rw [hf]
    clear hf hne
    go_enter Tryz.func24, Tryz.ntmps24
    go_wp2
    go_ret
    exact ⟨rfl, Below.refl _ _⟩

end Go.Proofs.YtkehgoailhpenaaGreat

/- The mathematics of edits of texts: what Apply and Invert make, and that the inverse leads back. It has no conditions. -/
namespace Go.Proofs.YtkehgoailhpenaaGreat
open Go.RowKit
set_option linter.unusedVariables false

/-- An edit by offsets. -/
structure Ee where
  f : Nat
  t : Nat
  x : List Int
/-- The edits are valid for a text of n bytes, behind offset p. -/
def Vld (n p : Nat) : List Ee → Prop
  | [] => p ≤ n
  | e :: l => p ≤ e.f ∧ e.f ≤ e.t ∧ e.t ≤ n ∧ Vld n e.t l
theorem Vld.le {n p : Nat} {l : List Ee} (h : Vld n p l) : p ≤ n := by
  cases l with
  | nil => exact h
  | cons e l => obtain ⟨h1, h2, h3, _⟩ := h; omega
/-- The new text from offset p of the old one on. -/
def appl (s : List Int) (p : Nat) : List Ee → List Int
  | [] => s.drop p
  | e :: l => (s.drop p).take (e.f - p) ++ (e.x ++ appl s e.t l)
/-- The inverse; q is the offset in the new text that belongs to p. -/
def invl (s : List Int) (p q : Nat) : List Ee → List Ee
  | [] => []
  | e :: l => ⟨q + (e.f - p), q + (e.f - p) + e.x.length, (s.drop e.f).take (e.t - e.f)⟩ :: invl s e.t (q + (e.f - p) + e.x.length) l
theorem mid_len {s : List Int} {p f : Nat} (h1 : p ≤ f) (h2 : f ≤ s.length) : ((s.drop p).take (f - p)).length = f - p := by
  rw [List.length_take, List.length_drop]; omega
theorem glue {s : List Int} {p f t : Nat} (h1 : p ≤ f) (h2 : f ≤ t) : (s.drop p).take (f - p) ++ ((s.drop f).take (t - f) ++ s.drop t) = s.drop p := by
  have e1 : s.drop t = (s.drop f).drop (t - f) := by rw [List.drop_drop]; congr 1; omega
  have e2 : s.drop f = (s.drop p).drop (f - p) := by rw [List.drop_drop]; congr 1; omega
  rw [e1, List.take_append_drop, e2, List.take_append_drop]
/-- Applying the inverse returns the old text. -/
theorem appl_invl {s : List Int} : ∀ {l : List Ee} {p q : Nat} {pre : List Int}, Vld s.length p l → pre.length = q → appl (pre ++ appl s p l) q (invl s p q l) = s.drop p := by
  intro l
  induction l with
  | nil =>
    intro p q pre h hq
    simp only [invl, appl]
    rw [← hq, List.drop_left]
  | cons e l ih =>
    intro p q pre h hq
    obtain ⟨h1, h2, h3, h4⟩ := h
    have hm := mid_len (s := s) h1 (by omega)
    simp only [invl, appl]
    have hd : (pre ++ ((s.drop p).take (e.f - p) ++ (e.x ++ appl s e.t l))).drop q = (s.drop p).take (e.f - p) ++ (e.x ++ appl s e.t l) := by rw [← hq, List.drop_left]
    rw [hd, Nat.add_sub_cancel_left]
    have ht : ((s.drop p).take (e.f - p) ++ (e.x ++ appl s e.t l)).take (e.f - p) = (s.drop p).take (e.f - p) := by
      conv => lhs; arg 1; rw [← hm]
      rw [List.take_left]
    rw [ht]
    have hi := ih (p := e.t) (q := q + (e.f - p) + e.x.length) (pre := pre ++ ((s.drop p).take (e.f - p) ++ e.x)) h4 (by rw [List.length_append, List.length_append, hm]; omega)
    rw [show pre ++ ((s.drop p).take (e.f - p) ++ (e.x ++ appl s e.t l)) = (pre ++ ((s.drop p).take (e.f - p) ++ e.x)) ++ appl s e.t l by simp, hi]
    exact glue h1 h2
/-- The inverse is valid for the new text. -/
theorem invl_vld {s : List Int} : ∀ {l : List Ee} {p q : Nat}, Vld s.length p l → Vld (q + (appl s p l).length) q (invl s p q l) := by
  intro l
  induction l with
  | nil => intro p q h; simp only [invl, Vld]; omega
  | cons e l ih =>
    intro p q h
    obtain ⟨h1, h2, h3, h4⟩ := h
    have hm := mid_len (s := s) h1 (by omega)
    have hi := ih (q := q + (e.f - p) + e.x.length) h4
    simp only [invl, appl, Vld, List.length_append, hm]
    refine ⟨by omega, by omega, by omega, ?_⟩
    rw [show q + (e.f - p + (e.x.length + (appl s e.t l).length)) = q + (e.f - p) + e.x.length + (appl s e.t l).length by omega]
    exact hi
theorem invl_len (s : List Int) : ∀ (l : List Ee) (p q : Nat), (invl s p q l).length = l.length := by
  intro l
  induction l with
  | nil => intro p q; rfl
  | cons e l ih => intro p q; simp [invl, ih]

end Go.Proofs.YtkehgoailhpenaaGreat
