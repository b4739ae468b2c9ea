/- A range over the places of a tree: the contract of such an iterator, and the law of the loop over it, with rounds that may end the function. Conditions: a round is left off its end or by a return. -/
import Derived.Test.YtfecajeenmnoeaaSVs
namespace Go.Proofs.Ytfecajeenmnoeaa
open Go.RowKit Go.Shelf
set_option linter.unusedVariables false

/-- An iterator that goes over the places S of the tree t, which lies at ad. -/
def Giw (g : Nat) (lb : Array Value) (ad : List Nat → Nat × Nat) (t : Nd) (S : List Spot) (w : World) : Prop :=
  ∀ (l : Nat) (J : Nat → (Nat → Prop) → World → Prop) (St : (Nat → Prop) → World → Prop) (T₀ : Nat → Prop) (W : World), Below w.heap.size w W → l < W.heap.size →
    (∀ k T A, J k T A → ∀ j, T j → j < A.heap.size) → (∀ k T A C, J k T A → Oth T W.heap.size A C → J k T C) → (∀ T A C, St T A → Oth T W.heap.size A C → St T C) → (∀ k T A, J k T A → SH A ad t []) →
    YIv l W.heap.size ad S J St → J 0 T₀ W →
    CallsIn Fence.wide 0 Try.prog g (#[.func (.yield l) #[] #[]] ++ lb) W fun e W' => (∃ v, e = .returned v) ∧ ∃ T', J S.length T' W' ∨ St T' W'

/-- How a round's body is left. -/
def goOnX (I : Nat → (Nat → Prop) → World → Prop) (St : (Nat → Prop) → World → Prop) (T : Nat → Prop) (k : Nat) (W : World) : Exit → Act → World → Prop
  | .normal, _, W' => ∃ T', I (k + 1) T' W' ∧ Rnd T T' W W'
  | .ret, _, W' => ∃ T', St T' W' ∧ Rnd T T' W W'
  | _, _, _ => False

/-- The record of a loop that a return has ended. -/
abbrev rcr (fn : FuncId) (tm : Array Value) (ps : Array Tmp) (assign body : Code) (df : Nat) : Loop := { state := .done, pending := some .ret, fn, tmps := tm, params := ps, assign, body, defers := df }

theorem one_roundX {P : Program} {l ws df : Nat} {fn : FuncId} {ps : Array Tmp} {assign body : Code} {tm : Array Value} (hfn : Fence.wide.fn fn)
    {vs : Array Value} (hps : vs.size = ps.size) {I : Nat → (Nat → Prop) → World → Prop} {St : (Nat → Prop) → World → Prop}
    (hI : ∀ k T A C, I k T A → Oth T ws A C → I k T C) (hSt : ∀ T A C, St T A → Oth T ws A C → St T C) (hw : ws ≤ l)
    {k : Nat} {T : Nat → Prop} {W : World} (hl : W.heap[l]? = some (.loop (rcd fn tm ps assign body df .ready))) (hlt : ¬ T l) (hi : I k T W)
    (a₁ : Act) (W2 : World) (hW2 : Below W.heap.size W W2)
    (hassign : ∀ (K : Act → World → Prop), K a₁ W2 → assign.wpIn (Fence.wide.inRound l) 0 P (Exit.then K (fun _ _ _ => False)) { tmps := (ps.zip vs).foldl (fun t (p, v) => t.setIfInBounds p v) tm, defers := [] } W)
    (hbody : ∀ (A : World), A.heap.size = W2.heap.size → (∀ j, j ≠ l → A.heap[j]? = W2.heap[j]?) → (∃ r, A.heap[l]? = some (.loop r)) → I k T A → body.wpIn (Fence.wide.inRound l) 0 P (goOnX I St T k A) a₁ A) :
    YieldAt Fence.wide 0 P l vs W fun e W' => ∃ T', ¬ T' l ∧ ((e = .returned (.bool true) ∧ Rnd T T' W W' ∧ I (k + 1) T' W' ∧ W'.heap[l]? = some (.loop (rcd fn tm ps assign body df .ready))) ∨
      (e = .returned (.bool false) ∧ Rnd (fun j => T j ∨ j = l) (fun j => T' j ∨ j = l) W W' ∧ St T' W' ∧ W'.heap[l]? = some (.loop (rcr fn tm ps assign body df)))) := by
  have hls : l < W.heap.size := (Array.getElem?_eq_some_iff.1 hl).1
  have hz2 := hW2.size
  refine ⟨fn, _, assign, body, run_yield (P := P) (args := vs) hl hps, roundIn_wide (n := 0) (roundIn_of_wpIn hfn (hassign _ ⟨_, run_beginRound (P := P) (r := rcd fn tm ps assign body df .ready) ((hW2.block l hls).trans hl) rfl, ?_⟩))⟩
  have hi0 : I k T W2 := hI _ _ _ _ hi (Oth.of_below hW2)
  obtain ⟨A, hA⟩ : ∃ A, W2.putObj l (.loop (rcd fn tm ps assign body df .busy)) = A := ⟨_, rfl⟩
  rw [show (World.putObj W2 l (Obj.loop _)) = A from hA]
  have hsA : A.heap.size = W2.heap.size := by rw [← hA]; simp
  have hlA : A.heap[l]? = some (.loop (rcd fn tm ps assign body df .busy)) := by rw [← hA]; exact World.putObj_heap_same (by omega)
  have hiA : I k T A := by rw [← hA]; exact hI _ _ _ _ hi0 (Oth.putObj _ hw hlt)
  have hoA : ∀ j, j ≠ l → A.heap[j]? = W2.heap[j]? := fun j hj => by rw [← hA]; exact World.putObj_heap_other hj
  refine wpIn_mono (hbody A hsA hoA ⟨_, hlA⟩ hiA) ?_
  rintro e a3 W3 hp
  cases e with
  | normal =>
    obtain ⟨T', hi3, hr3⟩ := hp
    have hl3 := (hr3.block l (by omega) hlt).trans hlA
    have hlt' : ¬ T' l := fun h => (hr3.grew _ h).elim hlt (fun e => by omega)
    have h3s := hr3.size
    refine ⟨_, _, run_endRound none hl3, T', hlt', .inl ⟨rfl, ⟨by simp; omega, fun j hj hT => ?_, fun j hj => (hr3.grew j hj).imp id (fun e => by omega)⟩, hI _ _ _ _ hi3 (Oth.putObj _ hw hlt'), World.putObj_heap_same (by omega)⟩⟩
    by_cases he : j = l
    · subst he; exact (World.putObj_heap_same (by omega)).trans hl.symm
    · rw [World.putObj_heap_other he, hr3.block j (by omega) hT, hoA j he]; exact hW2.block j hj
  | ret =>
    obtain ⟨T', hi3, hr3⟩ := hp
    have hl3 := (hr3.block l (by omega) hlt).trans hlA
    have hlt' : ¬ T' l := fun h => (hr3.grew _ h).elim hlt (fun e => by omega)
    have h3s := hr3.size
    refine ⟨_, _, run_endRound (some .ret) hl3, T', hlt', .inr ⟨rfl, ⟨by simp; omega, fun j hj hT => ?_, fun j hj => hj.elim (fun h => (hr3.grew j h).imp .inl (fun e => by omega)) (fun h => .inl (.inr h))⟩, hSt _ _ _ hi3 (Oth.putObj _ hw hlt'), World.putObj_heap_same (by omega)⟩⟩
    rw [World.putObj_heap_other (fun e => hT (.inr e)), hr3.block j (by omega) (fun e => hT (.inl e)), hoA j (fun e => hT (.inr e))]; exact hW2.block j hj
  | _ => exact hp.elim

/-- The law of the loop, outermost. -/
theorem wpIn_giw {n : Nat} {g : Operand} {ps : Array Tmp} {assign body : Code} {Q : Exit → Act → World → Prop} {a : Act} {w : World}
    {gf : Nat} {lb : Array Value} (hg : a.eval g = .func (.func gf) #[] lb) (eg : ∀ args w, (callFunc gf args).run Try.prog w = .ok (.enter gf args) w)
    {ad : List Nat → Nat × Nat} {t : Nd} {S : List Spot} (hseq : Giw gf lb ad t S w) (hps : ps.size = 1)
    (I : Nat → (Nat → Prop) → World → Prop) (St : (Nat → Prop) → World → Prop) (hI : ∀ k T A C, I k T A → Oth T w.heap.size A C → I k T C) (hSt : ∀ T A C, St T A → Oth T w.heap.size A C → St T C) (hS : ∀ k T A, I k T A → ∀ j, T j → j < A.heap.size)
    (hSh : ∀ k T A, I k T A → SH A ad t []) (T₀ : Nat → Prop) (hT : ∀ k, T₀ k → k < w.heap.size) (h0 : I 0 T₀ w)
    (hround : ∀ (l k : Nat) (hk : k < S.length) (T : Nat → Prop) (W : World) (pa : Option Addr) (pc : Nat), w.heap.size < l → l < W.heap.size → (∃ r, W.heap[l]? = some (.loop r)) → ¬ T l → I k T W →
      W.ownsRow (w.heap.size + 2) 3 1 (.slice pa S[k].path.length pc) S[k].path.length (ints S[k].path) → (∀ g, (Value.slice pa S[k].path.length pc).ownBlock = some g → ¬ T g) →
      ∃ (a₁ : Act) (W2 : World), Below W.heap.size W W2 ∧
        (∀ (K : Act → World → Prop), K a₁ W2 → assign.wpIn (Fence.wide.inRound l) 0 Try.prog (Exit.then K (fun _ _ _ => False)) { tmps := (ps.zip #[.agg #[.pointer (some ⟨(ad S[k].path).1, (ad S[k].path).2, none⟩), .slice pa S[k].path.length pc, .int .i64 (S[k].off : Int)]]).foldl (fun t (p, v) => t.setIfInBounds p v) a.tmps, defers := [] } W) ∧
        ∀ (A : World), A.heap.size = W2.heap.size → (∀ j, j ≠ l → A.heap[j]? = W2.heap[j]?) → (∃ r, A.heap[l]? = some (.loop r)) → I k T A → body.wpIn (Fence.wide.inRound l) 0 Try.prog (goOnX I St T k A) a₁ A)
    (hdone : ∀ (T : Nat → Prop) (W : World), w.heap.size + 2 ≤ W.heap.size → I S.length T W → ¬ T w.heap.size → W.heap[w.heap.size]? = some (.deferred (some [])) →
      Q .normal { a with defers := { target := .collected w.heap.size, args := #[] } :: a.defers } W)
    (hret : ∀ (T : Nat → Prop) (W : World), w.heap.size + 2 ≤ W.heap.size → St T W → ¬ T w.heap.size → W.heap[w.heap.size]? = some (.deferred (some [])) →
      Code.ret.wpIn Fence.wide n Try.prog Q { a with defers := { target := .collected w.heap.size, args := #[] } :: a.defers } W) :
    (Code.rangeFunc g ps assign body).wpIn Fence.wide n Try.prog Q a w := by
  refine wpIn_rangeFunc fun fn hfn => ?_
  let rc : LoopState → Loop := rcd fn a.tmps ps assign body w.heap.size
  let l := w.heap.size + 1
  obtain ⟨W1, hW1⟩ : ∃ W1, (w.alloc (.deferred (some []))).alloc (.loop (rc .ready)) = W1 := ⟨_, rfl⟩
  have hs1 : W1.heap.size = w.heap.size + 2 := by rw [← hW1]; simp
  have hb1 : Below w.heap.size w W1 := by rw [← hW1]; exact ((Below.refl _ w).alloc (Nat.le_refl _) _).alloc (by simp) _
  have hl1 : W1.heap[l]? = some (.loop (rc .ready)) := by
    rw [← hW1]; have := World.alloc_heap_new (w.alloc (.deferred (some []))) (.loop (rc .ready)); rwa [World.size_alloc] at this
  have hd1 : W1.heap[w.heap.size]? = some (.deferred (some [])) := by
    rw [← hW1]; exact (Below.heap_alloc _ _ _ (by simp)).trans (World.alloc_heap_new w _)
  refine ⟨l, [{ target := .collected w.heap.size, args := #[] }], W1, { target := .fn (.func gf) lb, args := #[.func (.yield l) #[] #[]] }, W1, gf,
    #[.func (.yield l) #[] #[]] ++ lb, W1, ?_, ?_, fun _ _ => trivial, ?_, fun h => by simp [Fence.wide] at h, ?_⟩
  · rw [← hW1]; exact run_enterLoop_outer _ _ _ _ _
  · simp only [resolve, hg]
    simp [go_sem]
  · simp [invoke, go_sem, eg]
  · refine callsIn_any ((hseq l (fun k T W => (I k T W ∧ W.heap[l]? = some (.loop (rc .ready)) ∧ ¬ T l) ∧ W.heap[w.heap.size]? = some (.deferred (some [])) ∧ ¬ T w.heap.size ∧ w.heap.size + 2 ≤ W.heap.size)
      (fun T W => (St T W ∧ W.heap[l]? = some (.loop (rcr fn a.tmps ps assign body w.heap.size)) ∧ ¬ T l) ∧ W.heap[w.heap.size]? = some (.deferred (some [])) ∧ ¬ T w.heap.size ∧ w.heap.size + 2 ≤ W.heap.size)
      T₀ W1 hb1 (by omega) (fun k T A h => hS k T A h.1.1) ?_ ?_ (fun k T A h => hSh k T A h.1.1) ?_ ⟨⟨hI _ _ _ _ h0 (Oth.of_below hb1), hl1, fun h => by have := hT _ h; omega⟩, hd1, fun h => by have := hT _ h; omega, by omega⟩).mono ?_)
    · rintro k T A C ⟨⟨hi, h2, h2'⟩, h3, h3', h4⟩ hb
      exact ⟨⟨hI _ _ _ _ hi (hb.mono (by omega) (fun _ h => h)), (hb.block _ (by omega) (.inl (by omega))).trans h2, h2'⟩, (hb.block _ (by omega) (.inl (by omega))).trans h3, h3', by have := hb.size; omega⟩
    · rintro T A C ⟨⟨hi, h2, h2'⟩, h3, h3', h4⟩ hb
      exact ⟨⟨hSt _ _ _ hi (hb.mono (by omega) (fun _ h => h)), (hb.block _ (by omega) (.inl (by omega))).trans h2, h2'⟩, (hb.block _ (by omega) (.inl (by omega))).trans h3, h3', by have := hb.size; omega⟩
    · intro k hk T W pv hyW hJ hrow hnR
      obtain ⟨⟨hi, hl, hlt⟩, hd, hdt, hsz⟩ := hJ
      obtain ⟨pa, pc, rfl⟩ := own_slice hrow
      obtain ⟨a₁, W2, h1, h2, h3⟩ := hround l k hk T W pa pc (by omega) (by omega) ⟨_, hl⟩ hlt hi (own_base2 hrow (by omega)) hnR
      have := one_roundX (P := Try.prog) (I := I) (St := St) (ws := w.heap.size) (df := w.heap.size) (tm := a.tmps) hfn (vs := #[.agg #[.pointer (some ⟨(ad S[k].path).1, (ad S[k].path).2, none⟩), .slice pa S[k].path.length pc, .int .i64 (S[k].off : Int)]]) (by rw [hps]; rfl) hI hSt (by omega) hl hlt hi a₁ W2 h1 h2 h3
      refine YieldAt.mono this ?_
      rintro e W' ⟨T', hlt', ⟨he, hr, h5, h6⟩ | ⟨he, hr, h5, h6⟩⟩
      · have := hr.size
        exact ⟨T', .inl ⟨he, hr, ⟨h5, h6, hlt'⟩, (hr.block _ (by omega) hdt).trans hd, fun h => (hr.grew _ h).elim hdt (fun e => by omega), by omega⟩⟩
      · have := hr.size
        exact ⟨T', .inr ⟨he, hr, ⟨h5, h6, hlt'⟩, (hr.block _ (by omega) (fun h => h.elim hdt (fun e => by omega))).trans hd, fun h => (hr.grew _ (.inl h)).elim (fun h => h.elim hdt (fun e => by omega)) (fun e => by omega), by omega⟩⟩
    · rintro e W2 ⟨⟨v, rfl⟩, T', ⟨⟨hi, hl, hlt⟩, hd, hdt, hsz⟩ | ⟨⟨hi, hl, hlt⟩, hd, hdt, hsz⟩⟩
      · exact ⟨none, _, run_endLoop hl (by simp [rc]), hdone T' _ (by simpa using hsz) (hI _ _ _ _ hi (Oth.putObj _ (by omega) hlt)) hdt ((World.putObj_heap_other (by omega)).trans hd)⟩
      · exact ⟨some .ret, _, run_endLoop hl (by simp), hret T' _ (by simpa using hsz) (hSt _ _ _ hi (Oth.putObj _ (by omega) hlt)) hdt ((World.putObj_heap_other (by omega)).trans hd)⟩

end Go.Proofs.Ytfecajeenmnoeaa
