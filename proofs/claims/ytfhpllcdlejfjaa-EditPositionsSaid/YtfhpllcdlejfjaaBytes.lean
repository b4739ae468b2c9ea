/- Bytes, with the texts that only it needs in front of it: Math, Law, Iter, Words, Sum. It has no conditions. -/
import Derived.Test.YtfhpllcdlejfjaaBase
import Derived.RangeFuncNested
import Derived.RangeFuncBound
import Derived.RangeFuncCalls
import Derived.RangeFuncLeaves
import Derived.Shelf.Abstract
import Derived.Shelf.RegionOpen
import Derived.WalkKit
import Derived.OwnWalkIn
import Derived.TacticsInMore
import Derived.LoopNIn
import Derived.LoopIn
import Derived.RangeFuncBox
import Derived.Test.YtfhpllcdlejfjaaProg
import Derived.WalkSpells
import Derived.WalkLawsBesides
import Derived.BigQuiet
import Derived.Deep.QuietTactic
import Derived.Lib.Hide

/- The mathematics of hashes: mixing is injective in each argument; little-endian words; what Sum and Bytes compute. It has no conditions. -/
namespace Go.Proofs.Ytfhpllcdlejfjaa
open Go.RowKit

/-- A 64-bit word as the number that the program holds. -/
def U (b : BitVec 64) : Int := (b.toNat : Int)
theorem U_nonneg (b : BitVec 64) : 0 ≤ U b := by unfold U; omega
theorem U_lt (b : BitVec 64) : U b < 18446744073709551616 := by have := b.isLt; unfold U; omega
theorem U_inj {a b : BitVec 64} (h : U a = U b) : a = b := by
  unfold U at h; exact BitVec.eq_of_toNat_eq (by omega)
theorem U_beq (a b : BitVec 64) : (U a == U b) = decide (a = b) := by
  by_cases h : a = b
  · subst h; simp
  · simp [h]; exact fun e => h (U_inj e)
def Mult : BitVec 64 := 0x9E3779B97F4A7C15#64
def MultInv : BitVec 64 := 0xF1DE83E19937733D#64
theorem mult_inv : Mult * MultInv = 1#64 := by decide
def fold32 (m : BitVec 64) : BitVec 64 := m ^^^ (m >>> 32)
def mixB (s w : BitVec 64) : BitVec 64 := fold32 ((s ^^^ w) * Mult)
theorem fold32_twice (m : BitVec 64) : fold32 (fold32 m) = m := by
  unfold fold32
  rw [BitVec.ushiftRight_xor_distrib, ← BitVec.shiftRight_add]
  have : m >>> (32 + 32) = 0#64 := by
    apply BitVec.eq_of_toNat_eq
    rw [BitVec.toNat_ushiftRight, Nat.shiftRight_eq_div_pow]
    exact Nat.div_eq_of_lt m.isLt
  rw [this]
  simp [BitVec.xor_assoc]
theorem fold32_inj {a b : BitVec 64} (h : fold32 a = fold32 b) : a = b := by
  have := congrArg fold32 h; rwa [fold32_twice, fold32_twice] at this
theorem mul_inj {a b : BitVec 64} (h : a * Mult = b * Mult) : a = b := by
  have := congrArg (· * MultInv) h
  simpa [BitVec.mul_assoc, mult_inv] using this
theorem xor_inj_right {s a b : BitVec 64} (h : s ^^^ a = s ^^^ b) : a = b := by
  have := congrArg (s ^^^ ·) h
  simpa [← BitVec.xor_assoc] using this
theorem xor_inj_left {s a b : BitVec 64} (h : a ^^^ s = b ^^^ s) : a = b := by
  have := congrArg (· ^^^ s) h
  simpa [BitVec.xor_assoc] using this
theorem mixB_inj_right {s a b : BitVec 64} (h : mixB s a = mixB s b) : a = b := xor_inj_right (mul_inj (fold32_inj h))
theorem mixB_inj_left {s a b : BitVec 64} (h : mixB a s = mixB b s) : a = b := xor_inj_left (mul_inj (fold32_inj h))
/-- What the Go text of mix computes, on the numbers. -/
theorem mix_form (s v : BitVec 64) :
    bits BinOp.xor IntKind.u64 (IntKind.u64.wrap (bits BinOp.xor IntKind.u64 (U s) (U v) * 11400714819323198485))
      (IntKind.u64.wrap (bits BinOp.xor IntKind.u64 (U s) (U v) * 11400714819323198485) / 4294967296) = U (mixB s v) := by
  have wrapU : ∀ b : BitVec 64, IntKind.u64.wrap (U b) = U b := fun b => by
    have h1 := U_nonneg b; have h2 := U_lt b
    rw [wrap_u64]; omega
  have ofU : ∀ b : BitVec 64, BitVec.ofInt 64 (U b) = b := fun b => by
    unfold U; rw [BitVec.ofInt_natCast]; simp
  have xorU : ∀ a b : BitVec 64, bits BinOp.xor IntKind.u64 (U a) (U b) = U (a ^^^ b) := fun a b => by
    show IntKind.u64.wrap (((BitVec.ofInt 64 (U a)) ^^^ (BitVec.ofInt 64 (U b))).toNat : Int) = _
    rw [ofU, ofU]; exact wrapU (a ^^^ b)
  have mulU : ∀ a : BitVec 64, IntKind.u64.wrap (U a * 11400714819323198485) = U (a * Mult) := fun a => by
    have e : U (a * Mult) = (U a * 11400714819323198485) % 18446744073709551616 := by
      unfold U
      rw [BitVec.toNat_mul]
      have : Mult.toNat = 11400714819323198485 := by decide
      rw [this]; omega
    rw [e, wrap_u64]
  have shrU : ∀ a : BitVec 64, U a / (4294967296 : Int) = U (a >>> 32) := fun a => by
    unfold U
    rw [BitVec.toNat_ushiftRight, Nat.shiftRight_eq_div_pow]; omega
  rw [xorU, mulU, shrU, xorU]
  rfl
/-- The little-endian number of a group of bytes. -/
def leN : List Int → Nat
  | [] => 0
  | c :: cs => c.toNat + 256 * leN cs
theorem leN_lt : ∀ {l : List Int}, Byt l → leN l < 256 ^ l.length
  | [], _ => by simp [leN]
  | c :: cs, h => by
    have h1 := h.cons
    have h2 := leN_lt h1.2.2
    simp only [leN, List.length_cons, Nat.pow_succ]
    have : c.toNat ≤ 255 := by omega
    omega
theorem leN_snoc (l : List Int) (c : Int) : leN (l ++ [c]) = leN l + 256 ^ l.length * c.toNat := by
  induction l with
  | nil => simp [leN]
  | cons d ds ih =>
    simp only [List.cons_append, leN, ih, List.length_cons, Nat.pow_succ, Nat.mul_add]
    rw [Nat.mul_comm (256 ^ ds.length) 256, Nat.mul_assoc, Nat.add_assoc]
theorem leN_small {l : List Int} (h : Byt l) (hl : l.length ≤ 8) : leN l < 18446744073709551616 := by
  have h1 := leN_lt h
  have h2 : 256 ^ l.length ≤ 256 ^ 8 := Nat.pow_le_pow_right (by omega) hl
  have h3 : (256 : Nat) ^ 8 = 18446744073709551616 := by decide
  omega
theorem mix_form2 (s v : BitVec 64) :
    bits BinOp.xor IntKind.u64 (IntKind.u64.wrap (bits BinOp.xor IntKind.u64 (U s) (U v) * 11400714819323198485))
      (IntKind.u64.wrap ((IntKind.u64.wrap (bits BinOp.xor IntKind.u64 (U s) (U v) * 11400714819323198485)).tdiv 4294967296)) = U (mixB s v) := by
  rw [← mix_form s v]
  have h : 0 ≤ IntKind.u64.wrap (bits BinOp.xor IntKind.u64 (U s) (U v) * 11400714819323198485) := by rw [wrap_u64]; omega
  have h2 : IntKind.u64.wrap (bits BinOp.xor IntKind.u64 (U s) (U v) * 11400714819323198485) < 18446744073709551616 := by rw [wrap_u64]; omega
  generalize IntKind.u64.wrap (bits BinOp.xor IntKind.u64 (U s) (U v) * 11400714819323198485) = x at h h2 ⊢
  rw [Int.tdiv_eq_ediv_of_nonneg h, wrap_u64, Int.emod_eq_of_lt (by omega) (by omega)]
/-- One step of littleEndian, on the numbers. -/
theorem or_form (zs : List Int) (k : Nat) (hk : k < zs.length) (h8 : zs.length ≤ 8) (hz : Byt zs) :
    bits BinOp.or IntKind.u64 (leN (zs.take k) : Int) (IntKind.u64.wrap (IntKind.u64.wrap zs[k] * 2 ^ (8 * k))) = (leN (zs.take (k + 1)) : Int) := by
  have hb := hz zs[k] (List.getElem_mem hk)
  obtain ⟨c, hc⟩ : ∃ c : Nat, zs[k] = (c : Int) := ⟨zs[k].toNat, by omega⟩
  have hl : leN (zs.take k) < 256 ^ k := by have := leN_lt (hz.take k); rwa [List.length_take, Nat.min_eq_left (by omega)] at this
  have e2 : (256 : Nat) ^ k = 2 ^ (8 * k) := by rw [Nat.pow_mul]
  have hk8 : (2 : Nat) ^ (8 * k) * 256 ≤ 18446744073709551616 := by
    have h1 : (2 : Nat) ^ (8 * k) ≤ 2 ^ 56 := Nat.pow_le_pow_right (by omega) (by omega)
    have h2 : (2 : Nat) ^ 56 * 256 = 18446744073709551616 := by decide
    omega
  have hcu : c ≤ 255 := by omega
  have hsn : leN (zs.take (k + 1)) = leN (zs.take k) + 2 ^ (8 * k) * c := by
    rw [List.take_succ_eq_append_getElem hk, leN_snoc, List.length_take, Nat.min_eq_left (by omega), e2, hc]; simp
  have hm : 2 ^ (8 * k) * c < 18446744073709551616 := by
    have : 2 ^ (8 * k) * c ≤ 2 ^ (8 * k) * 255 := Nat.mul_le_mul_left _ hcu
    omega
  have hsum : leN (zs.take k) + 2 ^ (8 * k) * c < 18446744073709551616 := by
    have : 2 ^ (8 * k) * c ≤ 2 ^ (8 * k) * 255 := Nat.mul_le_mul_left _ hcu
    rw [e2] at hl; omega
  rw [hsn, hc]
  have w1 : IntKind.u64.wrap (IntKind.u64.wrap (c : Int) * 2 ^ (8 * k)) = ((2 ^ (8 * k) * c : Nat) : Int) := by
    rw [wrap_u64, wrap_u64, Int.emod_eq_of_lt (a := (c : Int)) (by omega) (by omega)]
    have : (c : Int) * 2 ^ (8 * k) = ((2 ^ (8 * k) * c : Nat) : Int) := by push_cast; rw [Int.mul_comm]
    rw [this]
    exact Int.emod_eq_of_lt (by omega) (by omega)
  rw [w1]
  show IntKind.u64.wrap (((BitVec.ofInt 64 (leN (zs.take k) : Int)) ||| (BitVec.ofInt 64 ((2 ^ (8 * k) * c : Nat) : Int))).toNat : Int) = _
  rw [BitVec.ofInt_natCast, BitVec.ofInt_natCast, BitVec.toNat_or, BitVec.toNat_ofNat, BitVec.toNat_ofNat, Nat.mod_eq_of_lt (by rw [e2] at hl; omega), Nat.mod_eq_of_lt hm]
  rw [Nat.or_comm, ← Nat.two_pow_add_eq_or_of_lt (by rw [← e2]; exact hl), wrap_u64, Int.emod_eq_of_lt (by omega) (by omega)]
  omega
/-- The number of groups, the k-th group, its word. -/
def nGroups (n : Nat) : Nat := (n + 7) / 8
def grp (l : List Int) (k : Nat) : List Int := (l.drop (8 * k)).take 8
def word (l : List Int) (k : Nat) : BitVec 64 := BitVec.ofNat 64 (leN (grp l k))
def wordsL (l : List Int) : List (BitVec 64) := (List.range (nGroups l.length)).map (word l)
theorem grp_len (l : List Int) (k : Nat) : (grp l k).length = min 8 (l.length - 8 * k) := by simp [grp]
theorem U_word {l : List Int} (h : Byt l) (k : Nat) : U (word l k) = (leN (grp l k) : Int) := by
  unfold U word
  rw [BitVec.toNat_ofNat, Nat.mod_eq_of_lt]
  exact leN_small ((h.drop _).take _) (by rw [grp_len]; omega)
def absorb (s : BitVec 64) (ws : List (BitVec 64)) : BitVec 64 := ws.foldl mixB s
theorem absorb_snoc (s : BitVec 64) (ws : List (BitVec 64)) (w : BitVec 64) : absorb s (ws ++ [w]) = mixB (absorb s ws) w := by simp [absorb]
theorem absorb_append (s : BitVec 64) (a b : List (BitVec 64)) : absorb s (a ++ b) = absorb (absorb s a) b := by simp [absorb]
theorem absorb_inj {ws : List (BitVec 64)} : ∀ {a b : BitVec 64}, absorb a ws = absorb b ws → a = b := by
  induction ws with
  | nil => intro a b h; exact h
  | cons w ws ih => intro a b h; exact mixB_inj_left (ih h)
/-- Sum, of a label's bytes and of integers. -/
def sumS (lab ws : List Int) : BitVec 64 :=
  mixB (absorb (mixB (mixB (absorb 0#64 (wordsL lab)) (BitVec.ofInt 64 lab.length)) (BitVec.ofInt 64 ws.length)) (ws.map (BitVec.ofInt 64))) 0#64
/-- Bytes. -/
def bytesS (lab b : List Int) : BitVec 64 := sumS lab ((wordsL b).map (fun w => wrap64 (U w)) ++ [(b.length : Int)])
theorem ofInt_wrap64 (b : BitVec 64) : BitVec.ofInt 64 (wrap64 (U b)) = b := by
  apply BitVec.eq_of_toNat_eq
  have h1 := b.isLt
  unfold wrap64 U
  rw [BitVec.toNat_ofInt]
  omega

end Go.Proofs.Ytfhpllcdlejfjaa

/- A range over an iterator function whose rounds all go on: the contract of such an iterator, and the law of the loop over it. Conditions: no round is left early; the rounds write listed blocks alone. -/
namespace Go.Proofs.Ytfhpllcdlejfjaa
open Go.RowKit Go.Shelf

/-- Of the blocks that lay, those in T alone may have turned. -/
def Keep (T : Nat → Prop) (W W' : World) : Prop := W.heap.size ≤ W'.heap.size ∧ ∀ k, k < W.heap.size → ¬ T k → W'.heap[k]? = W.heap[k]?
theorem Keep.refl (T : Nat → Prop) (W : World) : Keep T W W := ⟨Nat.le_refl _, fun _ _ _ => rfl⟩
theorem Keep.trans {T : Nat → Prop} {A B C : World} (h : Keep T A B) (k : Keep T B C) : Keep T A C :=
  ⟨Nat.le_trans h.1 k.1, fun i hi ht => (k.2 i (by have := h.1; omega) ht).trans (h.2 i hi ht)⟩
theorem Keep.mono {T T' : Nat → Prop} {A B : World} (h : Keep T A B) (hT : ∀ k, T k → T' k) : Keep T' A B := ⟨h.1, fun i hi ht => h.2 i hi (fun e => ht (hT i e))⟩
theorem Keep.of_below {T : Nat → Prop} {A B : World} (h : Below A.heap.size A B) : Keep T A B := ⟨h.size, fun k hk _ => h.block k hk⟩
theorem Keep.putObj (W : World) (l : Nat) (o : Obj) : Keep (· = l) W (W.putObj l o) := ⟨by simp, fun k _ hk => World.putObj_heap_other hk⟩

/-- An iterator that calls yield on 'encs 0', .., 'encs (N - 1)', its rounds all going on: it reads the blocks of R behind a round; the rounds write blocks of T that lay when it was called; it writes none that lay. -/
def Gives (P : Program) (g : Nat) (lb : Array Value) (encs : Nat → Array Value) (N : Nat) (R : Nat → Prop) (w : World) : Prop :=
  ∀ (l : Nat) (J : Nat → World → Prop) (T : Nat → Prop) (W : World), Below w.heap.size w W → (∀ k, T k → k < W.heap.size ∧ ¬ R k) →
    (∀ k A C, J k A → Below W.heap.size A C → J k C) →
    (∀ k W1, k < N → W.heap.size ≤ W1.heap.size → J k W1 → YieldAt Fence.wide 0 P l (encs k) W1 fun e W' => e = .returned (.bool true) ∧ J (k + 1) W' ∧ Keep T W1 W') →
    J 0 W → CallsIn Fence.wide 0 P g (#[.func (.yield l) #[] #[]] ++ lb) W fun e W' => (∃ v, e = .returned v) ∧ J N W'

theorem roundIn_wideL {P : Program} {n m : Nat} {l : Nat} {f : FuncId} {tmps : Array Value} {a b : Code} {w : World} {R : Ending → World → Prop} (h : RoundIn Fence.wide n P l f tmps a b w R) : RoundIn Fence.wide m P l f tmps a b w R :=
  ⟨h.1, fun c cs _ => h.2 c cs (room_wide _)⟩
theorem callsIn_anyL {P : Program} {n m : Nat} {f : FuncId} {args : Array Value} {w : World} {R : Ending → World → Prop} (h : CallsIn Fence.wide n P f args w R) : CallsIn Fence.wide m P f args w R :=
  callsIn_wide.2 (callsIn_wide.1 h)

/-- How the body of a round is left: off its end. -/
def goesOn (I : Nat → World → Prop) (T : Nat → Prop) (k : Nat) (W : World) : Exit → Act → World → Prop
  | .normal, _, W' => I (k + 1) W' ∧ Keep T W W'
  | _, _, _ => False

/-- The law of the loop. -/
theorem wpIn_gives {P : Program} {n : Nat} {g : Operand} {ps : Array Tmp} {assign body : Code} {Q : Exit → Act → World → Prop} {a : Act} {w : World}
    {gf : Nat} {lb : Array Value} (hg : a.eval g = .func (.func gf) #[] lb) (eg : ∀ args w, (callFunc gf args).run P w = .ok (.enter gf args) w)
    {encs : Nat → Array Value} {N : Nat} {R : Nat → Prop} (hseq : Gives P gf lb encs N R w) (hps : ∀ k, (encs k).size = ps.size) (hR : ∀ k, R k → k < w.heap.size)
    (I : Nat → World → Prop) (hI : ∀ k A C, I k A → Below w.heap.size A C → I k C) (h0 : I 0 w) (T : Nat → Prop) (hT : ∀ k, T k → k < w.heap.size ∧ ¬ R k) (a₁ : Nat → Act)
    (hassign : ∀ (l k : Nat) (W : World) (K : Act → World → Prop), K (a₁ k) W →
      assign.wpIn (Fence.wide.inRound l) 0 P (Exit.then K (fun _ _ _ => False)) { tmps := (ps.zip (encs k)).foldl (fun t (p, v) => t.setIfInBounds p v) a.tmps, defers := [] } W)
    (hbody : ∀ (l k : Nat) (W : World), k < N → w.heap.size + 2 ≤ W.heap.size → I k W → body.wpIn (Fence.wide.inRound l) 0 P (goesOn I T k W) (a₁ k) W)
    (hdone : ∀ (W : World), w.heap.size + 2 ≤ W.heap.size → I N W → W.heap[w.heap.size]? = some (.deferred (some [])) → Q .normal { a with defers := { target := .collected w.heap.size, args := #[] } :: a.defers } W) :
    (Code.rangeFunc g ps assign body).wpIn Fence.wide n P Q a w := by
  refine wpIn_rangeFunc fun fn hfn => ?_
  let rc : LoopState → Option Code → Loop := fun st pe => { state := st, pending := pe, fn, tmps := a.tmps, params := ps, assign, body, defers := w.heap.size }
  let l := w.heap.size + 1
  obtain ⟨W1, hW1⟩ : ∃ W1, (w.alloc (.deferred (some []))).alloc (.loop (rc .ready none)) = W1 := ⟨_, rfl⟩
  have hs1 : W1.heap.size = w.heap.size + 2 := by rw [← hW1]; simp
  have hb1 : Below w.heap.size w W1 := by rw [← hW1]; exact ((Below.refl _ w).alloc (Nat.le_refl _) _).alloc (by simp) _
  have hl1 : W1.heap[l]? = some (.loop (rc .ready none)) := by
    rw [← hW1]; have := World.alloc_heap_new (w.alloc (.deferred (some []))) (.loop (rc .ready none)); rwa [World.size_alloc] at this
  have hd1 : W1.heap[w.heap.size]? = some (.deferred (some [])) := by
    rw [← hW1]; exact (Below.heap_alloc _ _ _ (by simp)).trans (World.alloc_heap_new w _)
  have put : ∀ (A : World) (o : Obj), w.heap.size + 2 ≤ A.heap.size → Below w.heap.size A (A.putObj l o) := fun A o hA =>
    ⟨rfl, rfl, rfl, by simp, fun k hk => World.putObj_heap_other (by omega)⟩
  refine ⟨l, [{ target := .collected w.heap.size, args := #[] }], W1, { target := .fn (.func gf) lb, args := #[.func (.yield l) #[] #[]] }, W1, gf,
    #[.func (.yield l) #[] #[]] ++ lb, W1, ?_, ?_, fun _ _ => trivial, ?_, fun h => by simp [Fence.wide] at h, ?_⟩
  · rw [← hW1]; exact run_enterLoop_outer _ _ _ _ _
  · simp only [resolve, hg]
    simp [go_sem]
  · simp [invoke, go_sem, eg]
  · refine callsIn_anyL ((hseq l (fun k W => I k W ∧ W.heap[l]? = some (.loop (rc .ready none)) ∧ W.heap[w.heap.size]? = some (.deferred (some [])) ∧ w.heap.size + 2 ≤ W.heap.size)
      (fun k => T k ∨ k = l) W1 hb1 ?_ ?_ ?_ ⟨hI _ _ _ h0 hb1, hl1, hd1, by omega⟩).mono ?_)
    · rintro k (h | rfl)
      · have := hT k h; exact ⟨by omega, this.2⟩
      · exact ⟨by omega, fun h => by have := hR _ h; omega⟩
    · rintro k A C ⟨hi, h2, h3, h4⟩ hb
      exact ⟨hI _ _ _ hi (hb.mono (by omega)), (hb.block _ (by omega)).trans h2, (hb.block _ (by omega)).trans h3, by have := hb.size; omega⟩
    · rintro k W hk _ ⟨hi, hl, hd, hsz⟩
      have hy := run_yield (P := P) (args := encs k) hl (hps k)
      refine ⟨fn, _, assign, body, hy, roundIn_wideL (n := 0) (roundIn_of_wpIn hfn (hassign l k W _ ⟨_, run_beginRound hl rfl, ?_⟩))⟩
      obtain ⟨W2, hW2⟩ : ∃ W2, W.putObj l (.loop { rc .ready none with state := .busy }) = W2 := ⟨_, rfl⟩
      have hs2 : W2.heap.size = W.heap.size := by rw [← hW2]; simp
      have hl2 : W2.heap[l]? = some (.loop { rc .ready none with state := .busy }) := by rw [← hW2]; exact World.putObj_heap_same (by omega)
      have hd2 : W2.heap[w.heap.size]? = some (.deferred (some [])) := by rw [← hW2]; exact (World.putObj_heap_other (by omega)).trans hd
      have hk2 : Keep (fun k => T k ∨ k = l) W W2 := by rw [← hW2]; exact (Keep.putObj W l _).mono (fun k h => .inr h)
      have hi2 : I k W2 := by rw [← hW2]; exact hI _ _ _ hi (put _ _ hsz)
      have hT' : ∀ k, w.heap.size ≤ k → ¬ T k := fun k hk h => by have := hT k h; omega
      rw [show (World.putObj W l (Obj.loop _)) = W2 from hW2]
      refine wpIn_mono (hbody l k W2 hk (by omega) hi2) ?_
      rintro e a3 W3 hp
      cases e with
      | normal =>
        obtain ⟨hi3, hk3⟩ := hp
        have hl3 := (hk3.2 l (by omega) (hT' _ (by omega))).trans hl2
        have hd3 := (hk3.2 w.heap.size (by omega) (hT' _ (by omega))).trans hd2
        have h3s := hk3.1
        refine ⟨_, _, run_endRound none hl3, rfl, ⟨hI _ _ _ hi3 (put _ _ (by omega)), World.putObj_heap_same (by omega), (World.putObj_heap_other (by omega)).trans hd3, by simp; omega⟩, ?_⟩
        exact (hk2.trans (hk3.mono (fun k h => .inl h))).trans ((Keep.putObj W3 l _).mono (fun k h => .inr h))
      | _ => exact hp.elim
    · rintro e W2 ⟨⟨v, rfl⟩, hi, hl, hd, hsz⟩
      exact ⟨none, _, run_endLoop hl (by simp [rc]), hdone _ (by simpa using hsz) (hI _ _ _ hi (put _ _ hsz)) ((World.putObj_heap_other (by omega)).trans hd)⟩

end Go.Proofs.Ytfhpllcdlejfjaa

/- Contracts of mix, littleEndian, slices.Chunk and wordsOf. Conditions: bytes lie in cells. -/
namespace Go.Proofs.Ytfhpllcdlejfjaa
open Go.RowKit Go.Shelf

theorem ret_u64 {a b : Int} (h : a = b) : Ending.returned (.int .u64 a) = .returned (.int .u64 b) := by rw [h]

theorem mix_any (s v : BitVec 64) (w : World) :
    Calls Try.prog 80 #[.int .u64 (U s), .int .u64 (U v)] w fun e w' => e = .returned (.int .u64 (U (mixB s v))) ∧ w = w' := by
  go_enter Try.func80, Try.ntmps80
  go_wp2
  go_ret
  exact ⟨ret_u64 (mix_form s v), rfl⟩

set_option maxHeartbeats 400000 in
theorem le_any (b off n cap : Nat) (zs : List Int) (w : World) (hn : zs.length = n) (h8 : n ≤ 8) (hz : Byt zs)
    (hc : ∀ j, j < n → w.cell? ⟨b, off + j, none⟩ = some (.int .u8 (zs[j]?.getD 0))) :
    Calls Try.prog 79 #[.slice (some ⟨b, off, none⟩) n cap] w fun e w' => e = .returned (.int .u64 (leN zs : Int)) ∧ w = w' := by
  go_enter Try.func79, Try.ntmps79
  go_wp2
  go_loop [3, 8] (fun v i => ∃ k : Nat, k ≤ n ∧ i = .int .i64 k ∧ v = .int .u64 (leN (zs.take k) : Int)) (fun _ i => n - (intOf i).toNat)
  case atStart => exact ⟨0, Nat.zero_le _, rfl, rfl⟩
  case round =>
    obtain ⟨k, hk, rfl, rfl⟩ := hrel
    by_cases hlt : k < n
    · have hck := hc k hlt
      clear hc
      go_wp2
      go_round
      case rel => exact ⟨k + 1, by omega, by go_num, by rw [or_form zs k (by omega) (by omega) hz]⟩
      case measure => simp [intOf]; omega
    · obtain rfl : k = n := by omega
      go_wp2
      go_ret
      exact ⟨ret_u64 (by rw [List.take_of_length_le (by omega)]), rfl⟩

theorem chunk_any (a : Option Addr) (n cap : Nat) (w : World) :
    Calls Try.prog 78 #[.slice a n cap, .int .i64 8] w fun e w' =>
      e = .returned (.func (.func 86) #[] #[.pointer (some ⟨w.heap.size, 0, none⟩), .pointer (some ⟨w.heap.size + 1, 0, none⟩)]) ∧ w' = (w.alloc (.cells #[.slice a n cap] 62)).alloc (.cells #[.int .i64 8] 3) := by
  go_enter Try.func78, Try.ntmps78
  go_wp2
  go_ret
  exact ⟨rfl, rfl⟩

theorem wordsOf_any (a : Option Addr) (n cap : Nat) (w : World) :
    Calls Try.prog 59 #[.slice a n cap] w fun e w' =>
      e = .returned (.func (.func 77) #[] #[.pointer (some ⟨w.heap.size, 0, none⟩)]) ∧ w' = w.alloc (.cells #[.slice a n cap] 62) := by
  go_enter Try.func59, Try.ntmps59
  go_wp2
  go_ret
  exact ⟨rfl, rfl⟩

/-- The value of the k-th group of a slice. -/
def subV (b off len k : Nat) : Value := .slice (some ⟨b, off + 8 * k, none⟩) (min 8 (len - 8 * k)) (min 8 (len - 8 * k))

attribute [local go_sem] Oper.semAt_some

set_option maxRecDepth 100000 in
set_option maxHeartbeats 1000000 in
theorem chunk_gives (bs bn b off len cap : Nat) (w : World) (hl2 : len ≤ 1000000) (hlen : len ≤ cap) (_hcap : cap ≤ 9223372036854775807)
    (hs : w.cell? ⟨bs, 0, none⟩ = some (.slice (some ⟨b, off, none⟩) len cap)) (hn : w.cell? ⟨bn, 0, none⟩ = some (.int .i64 8)) (ls : bs < w.heap.size) (ln : bn < w.heap.size) :
    Gives Try.prog 86 #[.pointer (some ⟨bs, 0, none⟩), .pointer (some ⟨bn, 0, none⟩)] (fun k => #[subV b off len k]) (nGroups len) (fun k => k = bs ∨ k = bn) w := by
  intro l J T W hW hT hJ hY h0
  have hs1 := (hW.cell (p := ⟨bs, 0, none⟩) ls).trans hs
  have hn1 := (hW.cell (p := ⟨bn, 0, none⟩) ln).trans hn
  have hsz := hW.size
  refine callsIn_of_wp Try.func86 rfl trivial ?_ rfl
  simp only [Try.ntmps86, List.size_toArray, List.length_cons, List.length_nil, Nat.reduceAdd, Nat.reduceSub, Array.replicate_succ, Array.replicate_zero, List.push_toArray, List.append_toArray, List.nil_append, List.cons_append]
  gi_wp2
  gi_loopw [4] (fun i wr => ∃ k : Nat, k ≤ nGroups len ∧ i = .int .i64 ((8 * k : Nat) : Int) ∧ J k wr ∧ W.heap.size ≤ wr.heap.size ∧ wr.cell? ⟨bs, 0, none⟩ = some (.slice (some ⟨b, off, none⟩) len cap) ∧ wr.cell? ⟨bn, 0, none⟩ = some (.int .i64 8))
    (fun i _ => 8 * nGroups len - (intOf i).toNat)
  case atStart => exact ⟨0, Nat.zero_le _, rfl, h0, Nat.le_refl _, hs1, hn1⟩
  case round =>
    obtain ⟨k, hk, rfl, hJk, hsz1, hs2, hn2⟩ := hrel
    have hg : nGroups len * 8 ≤ len + 7 := by unfold nGroups; omega
    by_cases hlt : 8 * k < len
    · have hkN : k < nGroups len := by unfold nGroups; omega
      have hTs : ¬ T bs := fun h => (hT _ h).2 (.inl rfl)
      have hTn : ¬ T bn := fun h => (hT _ h).2 (.inr rfl)
      obtain ⟨fn, tmps, assign, body, hy, hR⟩ := hY k wr.drew hkN hsz1 (hJ _ _ _ hJk ((Below.refl _ _).drew))
      unfold subV at hy
      have hafter : ∀ W3, Keep T wr.drew W3 → W3.cell? ⟨bs, 0, none⟩ = some (.slice (some ⟨b, off, none⟩) len cap) ∧ W3.cell? ⟨bn, 0, none⟩ = some (.int .i64 8) ∧ W.heap.size ≤ W3.heap.size := fun W3 hk3 =>
        ⟨(World.cell?_of_block (w := wr.drew) (hk3.2 bs (by show bs < wr.heap.size; omega) hTs)).trans hs2, (World.cell?_of_block (w := wr.drew) (hk3.2 bn (by show bn < wr.heap.size; omega) hTn)).trans hn2, Nat.le_trans hsz1 hk3.1⟩
      have Hafter := Lib.hid hafter
      have HT := Lib.hid hT
      have HJ := Lib.hid hJ
      have HY := Lib.hid hY
      clear hafter hT hJ hY hTs hTn
      rcases Nat.lt_or_ge (len - 8 * k) 8 with hm | hm
      · obtain ⟨m, rfl⟩ : ∃ m, len = 8 * k + m := ⟨len - 8 * k, by omega⟩
        rw [Nat.min_eq_right (by omega), Nat.add_sub_cancel_left] at hy
        rw [Nat.add_sub_cancel_left] at hm
        have hm0 : 0 < m := by omega
        have ht : (8 * (k : Int) + (m : Int)).toNat = 8 * k + m := by omega
        gi_wp2
        gi_region
        gi_wp2_with fail
        refine ⟨rfl, hR.mono ?_⟩
        rintro e W3 ⟨rfl, hJ3, hk3⟩
        obtain ⟨hs3, hn3, hz3⟩ := Hafter.out W3 hk3
        gi_wp2
        go_roundw
        case rel => exact ⟨k + 1, by omega, by go_num, hJ3, hz3, hs3, hn3⟩
        case measure => simp [intOf]; omega
      · rw [Nat.min_eq_left (by omega)] at hy
        gi_wp2
        gi_region
        gi_wp2_with fail
        refine ⟨rfl, hR.mono ?_⟩
        rintro e W3 ⟨rfl, hJ3, hk3⟩
        obtain ⟨hs3, hn3, hz3⟩ := Hafter.out W3 hk3
        gi_wp2
        go_roundw
        case rel => exact ⟨k + 1, by omega, by go_num, hJ3, hz3, hs3, hn3⟩
        case measure => simp [intOf]; omega
    · gi_wp2
      go_end0
      have : k = nGroups len := by unfold nGroups at *; omega
      subst this
      exact ⟨⟨_, rfl⟩, hJk⟩

end Go.Proofs.Ytfhpllcdlejfjaa

/- The contract of the iterator that wordsOf returns. Conditions: the bytes lie in one block. -/
namespace Go.Proofs.Ytfhpllcdlejfjaa
open Go.RowKit Go.Shelf
attribute [local go_sem] Oper.semAt_some

set_option maxRecDepth 100000 in
set_option maxHeartbeats 400000 in
theorem chunk_gives0 (bs bn : Nat) (a : Option Addr) (cap : Nat) (encs : Nat → Array Value) (w : World)
    (hs : w.cell? ⟨bs, 0, none⟩ = some (.slice a 0 cap)) (hn : w.cell? ⟨bn, 0, none⟩ = some (.int .i64 8)) (ls : bs < w.heap.size) (ln : bn < w.heap.size) :
    Gives Try.prog 86 #[.pointer (some ⟨bs, 0, none⟩), .pointer (some ⟨bn, 0, none⟩)] encs 0 (fun k => k = bs ∨ k = bn) w := by
  intro l J T W hW hT hJ hY h0
  have hs1 := (hW.cell (p := ⟨bs, 0, none⟩) ls).trans hs
  have hn1 := (hW.cell (p := ⟨bn, 0, none⟩) ln).trans hn
  clear hY hJ hT
  refine callsIn_of_wp Try.func86 rfl trivial ?_ rfl
  simp only [Try.ntmps86, List.size_toArray, List.length_cons, List.length_nil, Nat.reduceAdd, Nat.reduceSub, Array.replicate_succ, Array.replicate_zero, List.push_toArray, List.append_toArray, List.nil_append, List.cons_append]
  gi_wp2
  gi_loopw [4] (fun i wr => i = .int .i64 0 ∧ J 0 wr ∧ wr.cell? ⟨bs, 0, none⟩ = some (.slice a 0 cap)) (fun _ _ => 0)
  case atStart => exact ⟨rfl, h0, hs1⟩
  case round =>
    obtain ⟨rfl, hJ0, hs2⟩ := hrel
    gi_wp2
    go_end0
    exact ⟨⟨_, rfl⟩, hJ0⟩

theorem yield_anyL {n m : Nat} {P : Program} {l : Nat} {args : Array Value} {W : World} {R : Ending → World → Prop} (h : YieldAt Fence.wide n P l args W R) : YieldAt Fence.wide m P l args W R := by
  obtain ⟨fn, tmps, assign, body, hy, hR⟩ := h
  exact ⟨fn, tmps, assign, body, hy, roundIn_wideL hR⟩

set_option maxRecDepth 100000 in
set_option maxHeartbeats 1000000 in
theorem words_gives (bb b off cap : Nat) (zs : List Int) (w : World) (hl2 : zs.length ≤ 1000000) (hlen : zs.length ≤ cap) (_hcap : cap ≤ 9223372036854775807) (hz : Byt zs)
    (hb : w.cell? ⟨bb, 0, none⟩ = some (.slice (some ⟨b, off, none⟩) zs.length cap)) (lb : bb < w.heap.size) (ld : b < w.heap.size)
    (hc : ∀ j, j < zs.length → w.cell? ⟨b, off + j, none⟩ = some (.int .u8 (zs[j]?.getD 0))) :
    Gives Try.prog 77 #[.pointer (some ⟨bb, 0, none⟩)] (fun k => #[.int .u64 (U (word zs k))]) (nGroups zs.length) (fun k => k = b) w := by
  intro l J T W hW hT hJ hY h0
  have hb1 := (hW.cell (p := ⟨bb, 0, none⟩) lb).trans hb
  have hsz := hW.size
  have HC := Lib.hid hc
  have HT := Lib.hid hT
  have HJ := Lib.hid hJ
  have HY := Lib.hid hY
  clear hc hT hJ hY
  refine callsIn_of_wp_marks Try.func77 rfl trivial ?_ rfl
  simp only [Try.ntmps77, List.size_toArray, List.length_cons, List.length_nil, Nat.reduceAdd, Nat.reduceSub, Array.replicate_succ, Array.replicate_zero, List.push_toArray, List.append_toArray, List.nil_append, List.cons_append]
  have hb2 : (W.alloc (.cells #[.func (.yield l) #[] #[]] 112)).cell? ⟨bb, 0, none⟩ = some (.slice (some ⟨b, off, none⟩) zs.length cap) :=
    (((Below.refl W.heap.size W).alloc (Nat.le_refl _) _).cell (p := ⟨bb, 0, none⟩) (by show bb < W.heap.size; omega)).trans hb1
  gi_wp2_with (refine ⟨trivial, rfl, ?_⟩; gi_at_call 78; refine (callsIn_wide.2 (chunk_any _ _ _ _)).mono ?_; rintro e w' ⟨rfl, rfl⟩)
  obtain ⟨W0, hW0⟩ : ∃ W0, ((W.alloc (.cells #[.func (.yield l) #[] #[]] 112)).alloc (.cells #[.slice (some ⟨b, off, none⟩) zs.length cap] 62)).alloc (.cells #[.int .i64 8] 3) = W0 := ⟨_, rfl⟩
  have hz0 : W0.heap.size = W.heap.size + 3 := by rw [← hW0]; simp
  have hB0 : Below W.heap.size W W0 := by rw [← hW0]; exact (((Below.refl _ _).alloc (Nat.le_refl _) _).alloc (by simp) _).alloc (by simp; omega) _
  have bY : Boxed W0 W.heap.size 112 (.func (.yield l) #[] #[]) := by rw [← hW0]; exact ((Boxed.new _ _ _).alloc _).alloc _
  have bS : Boxed W0 (W.heap.size + 1) 62 (.slice (some ⟨b, off, none⟩) zs.length cap) := by
    rw [← hW0]; have := Boxed.new (W.alloc (.cells #[.func (.yield l) #[] #[]] 112)) 62 (.slice (some ⟨b, off, none⟩) zs.length cap)
    rw [World.size_alloc] at this; exact this.alloc _
  have bN : Boxed W0 (W.heap.size + 2) 3 (.int .i64 8) := by
    rw [← hW0]; have := Boxed.new ((W.alloc (.cells #[.func (.yield l) #[] #[]] 112)).alloc (.cells #[.slice (some ⟨b, off, none⟩) zs.length cap] 62)) 3 (.int .i64 8)
    rw [World.size_alloc, World.size_alloc] at this; exact this
  have hblk : Below w.heap.size w W0 := hW.trans (hB0.mono hsz)
  rw [hW0]
  refine wpIn_gives (gf := 86) (lb := #[.pointer (some ⟨W.heap.size + 1, 0, none⟩), .pointer (some ⟨W.heap.size + 1 + 1, 0, none⟩)]) rfl (enters_of Try.func86 (by kernel_rfl) rfl)
    (chunk_gives (W.heap.size + 1) (W.heap.size + 1 + 1) b off zs.length cap W0 hl2 hlen _hcap bS.cell bN.cell (by omega) (by omega)) (fun _ => rfl) (fun k hk => by omega)
    (fun k A => J k A ∧ Boxed A W.heap.size 112 (.func (.yield l) #[] #[]) ∧ A.heap[b]? = W0.heap[b]?)
    (fun k A C hs hb => ⟨HJ.out _ _ _ hs.1 (hb.mono (by omega)), (hb.block _ (by omega)).trans hs.2.1, (hb.block _ (by omega)).trans hs.2.2⟩)
    ⟨HJ.out _ _ _ h0 hB0, bY, rfl⟩ T (fun k hk => ⟨by have := (HT.out k hk).1; omega, fun h => by have := (HT.out k hk).1; omega⟩)
    (fun k => { tmps := #[.func (.yield l) #[] #[], .pointer (some ⟨bb, 0, none⟩), .pointer (some ⟨W.heap.size, 0, none⟩), subV b off zs.length k, .slice (some ⟨b, off, none⟩) zs.length cap,
      .func (.func 86) #[] #[.pointer (some ⟨W.heap.size + 1, 0, none⟩), .pointer (some ⟨W.heap.size + 1 + 1, 0, none⟩)], subV b off zs.length k, undef, undef, undef, undef, undef], defers := [] }) ?assign ?body ?done
  case assign =>
    intro l' k A K hK
    gi_wp2
    exact hK
  case body =>
    rintro l' k A hk hzA ⟨hj, hy, hd⟩
    have hcy := hy.cell
    have hcs : ∀ j, j < min 8 (zs.length - 8 * k) → A.cell? ⟨b, off + 8 * k + j, none⟩ = some (.int .u8 ((grp zs k)[j]?.getD 0)) := fun j hj => by
      have h1 := HC.out (8 * k + j) (by omega)
      rw [← hblk.cell (p := ⟨b, off + (8 * k + j), none⟩) ld] at h1
      rw [Nat.add_assoc, World.cell?_of_block (w := W0) (w' := A) (a := ⟨b, off + (8 * k + j), none⟩) hd, h1]
      simp [grp, List.getElem?_drop, show j < 8 by omega]
    have hle := le_any b (off + 8 * k) (min 8 (zs.length - 8 * k)) (min 8 (zs.length - 8 * k)) (grp zs k) A.drew (by rw [grp_len]) (by omega) ((hz.drop _).take _) hcs
    rw [← U_word hz k] at hle
    obtain ⟨fn, tmps, assign, body, hyr, hR⟩ := HY.out k A.drew hk (by show W.heap.size ≤ A.heap.size; omega) (HJ.out _ _ _ hj (Below.refl _ _).drew)
    have Hcs := Lib.hid hcs
    have HR := Lib.hid hR
    clear hcs hR
    have hmx : Try.prog.follows .mixedOrders = true := by kernel_rfl
    gi_wp2
    gi_region_with_o (first | (refine ⟨rfl, HR.out.mono ?_⟩; rintro e W3 ⟨rfl, hJ3, hk3⟩) | (refine ⟨trivial, rfl, ?_⟩; gi_at_call 79; refine (CallsIn.inRound l' (callsIn_wide.2 hle)).mono ?_; rintro e w' ⟨rfl, rfl⟩))
    all_goals
      have hk4 : Keep T A W3 := ⟨hk3.1, hk3.2⟩
      have hn : ∀ j, W.heap.size ≤ j → ¬ T j := fun j h e => by have := (HT.out j e).1; omega
      have e1 : Boxed W3 W.heap.size 112 (.func (.yield l) #[] #[]) := (hk4.2 _ (by omega) (hn _ (Nat.le_refl _))).trans hy
      have e2 : W3.heap[b]? = W0.heap[b]? := (hk4.2 b (by omega) (fun e => (HT.out b e).2 rfl)).trans hd
      clear hn
      gi_wp2
      exact ⟨⟨hJ3, e1, e2⟩, hk4⟩
  case done =>
    rintro A hzA ⟨hj, hy, hd⟩ hK
    gi_wp2
    refine ⟨by simp, .inl ⟨_, _, rfl, run_takeDeferred hK, ?_⟩⟩
    refine ⟨_, results_none rfl _ _ _, ⟨_, rfl⟩, HJ.out _ _ _ hj ⟨rfl, rfl, rfl, by simp, fun k hk => World.putObj_heap_other (by omega)⟩⟩

set_option maxRecDepth 100000 in
set_option maxHeartbeats 1000000 in
theorem words_gives0 (bb : Nat) (a : Option Addr) (cap : Nat) (encs : Nat → Array Value) (R : Nat → Prop) (w : World)
    (hb : w.cell? ⟨bb, 0, none⟩ = some (.slice a 0 cap)) (lb : bb < w.heap.size) :
    Gives Try.prog 77 #[.pointer (some ⟨bb, 0, none⟩)] encs 0 R w := by
  intro l J T W hW hT hJ hY h0
  have hb1 := (hW.cell (p := ⟨bb, 0, none⟩) lb).trans hb
  have hsz := hW.size
  have HT := Lib.hid hT
  have HJ := Lib.hid hJ
  clear hT hJ hY
  refine callsIn_of_wp_marks Try.func77 rfl trivial ?_ rfl
  simp only [Try.ntmps77, List.size_toArray, List.length_cons, List.length_nil, Nat.reduceAdd, Nat.reduceSub, Array.replicate_succ, Array.replicate_zero, List.push_toArray, List.append_toArray, List.nil_append, List.cons_append]
  have hb2 : (W.alloc (.cells #[.func (.yield l) #[] #[]] 112)).cell? ⟨bb, 0, none⟩ = some (.slice a 0 cap) :=
    (((Below.refl W.heap.size W).alloc (Nat.le_refl _) _).cell (p := ⟨bb, 0, none⟩) (by show bb < W.heap.size; omega)).trans hb1
  gi_wp2_with (refine ⟨trivial, rfl, ?_⟩; gi_at_call 78; refine (callsIn_wide.2 (chunk_any _ _ _ _)).mono ?_; rintro e w' ⟨rfl, rfl⟩)
  obtain ⟨W0, hW0⟩ : ∃ W0, ((W.alloc (.cells #[.func (.yield l) #[] #[]] 112)).alloc (.cells #[.slice a 0 cap] 62)).alloc (.cells #[.int .i64 8] 3) = W0 := ⟨_, rfl⟩
  have hz0 : W0.heap.size = W.heap.size + 3 := by rw [← hW0]; simp
  have hB0 : Below W.heap.size W W0 := by rw [← hW0]; exact (((Below.refl _ _).alloc (Nat.le_refl _) _).alloc (by simp) _).alloc (by simp; omega) _
  have bS : Boxed W0 (W.heap.size + 1) 62 (.slice a 0 cap) := by
    rw [← hW0]; have := Boxed.new (W.alloc (.cells #[.func (.yield l) #[] #[]] 112)) 62 (.slice a 0 cap)
    rw [World.size_alloc] at this; exact this.alloc _
  have bN : Boxed W0 (W.heap.size + 2) 3 (.int .i64 8) := by
    rw [← hW0]; have := Boxed.new ((W.alloc (.cells #[.func (.yield l) #[] #[]] 112)).alloc (.cells #[.slice a 0 cap] 62)) 3 (.int .i64 8)
    rw [World.size_alloc, World.size_alloc] at this; exact this
  rw [hW0]
  refine wpIn_gives (gf := 86) (lb := #[.pointer (some ⟨W.heap.size + 1, 0, none⟩), .pointer (some ⟨W.heap.size + 1 + 1, 0, none⟩)]) rfl (enters_of Try.func86 (by kernel_rfl) rfl)
    (chunk_gives0 (W.heap.size + 1) (W.heap.size + 1 + 1) a cap (fun _ => #[undef]) W0 bS.cell bN.cell (by omega) (by omega)) (fun _ => rfl) (fun k hk => by omega)
    (fun k A => J k A)
    (fun k A C hs hb => HJ.out _ _ _ hs (hb.mono (by omega)))
    (HJ.out _ _ _ h0 hB0) T (fun k hk => ⟨by have := (HT.out k hk).1; omega, fun h => by have := (HT.out k hk).1; omega⟩)
    (fun k => { tmps := #[.func (.yield l) #[] #[], .pointer (some ⟨bb, 0, none⟩), .pointer (some ⟨W.heap.size, 0, none⟩), undef, .slice a 0 cap,
      .func (.func 86) #[] #[.pointer (some ⟨W.heap.size + 1, 0, none⟩), .pointer (some ⟨W.heap.size + 1 + 1, 0, none⟩)], undef, undef, undef, undef, undef, undef], defers := [] }) ?assign ?body ?done
  case assign =>
    intro l' k A K hK
    gi_wp2
    exact hK
  case body =>
    intro l' k A hk
    exact absurd hk (Nat.not_lt_zero _)
  case done =>
    rintro A hzA hj hK
    gi_wp2
    refine ⟨by simp, .inl ⟨_, _, rfl, run_takeDeferred hK, ?_⟩⟩
    refine ⟨_, results_none rfl _ _ _, ⟨_, rfl⟩, HJ.out _ _ _ hj ⟨rfl, rfl, rfl, by simp, fun k hk => World.putObj_heap_other (by omega)⟩⟩
end Go.Proofs.Ytfhpllcdlejfjaa

/- The contract of Sum: it returns what P1.1 says, and writes nothing that lay. Conditions: the label has at most 1000 bytes, the list at most 1000 integers. -/
namespace Go.Proofs.Ytfhpllcdlejfjaa
open Go.RowKit Go.Shelf
attribute [local go_sem] Oper.semAt_some



theorem wrap_ofInt (n : Int) : IntKind.u64.wrap n = U (BitVec.ofInt 64 n) := by
  rw [wrap_u64]; unfold U; rw [BitVec.toNat_ofInt]; omega
theorem natU (n m : Nat) (h : n ≤ 1000000) (e : m = n) : (n : Int) = U (BitVec.ofInt 64 m) := by
  subst e; rw [← wrap_ofInt, wrap_u64]; omega
theorem mix_at (s v : BitVec 64) (x y : Int) (hx : x = U s) (hy : y = U v) (w : World) :
    Calls Try.prog 80 #[.int .u64 x, .int .u64 y] w fun e w' => e = .returned (.int .u64 (U (mixB s v))) ∧ w = w' := by
  subst hx hy; exact mix_any s v w

/-- The state when the label has been absorbed, its length and the number of integers. -/
def headS (lab : List Int) (n : Nat) : BitVec 64 := mixB (mixB (absorb 0#64 (wordsL lab)) (BitVec.ofInt 64 lab.length)) (BitVec.ofInt 64 n)
theorem sumS_head (lab ws : List Int) : sumS lab ws = mixB (absorb (headS lab ws.length) (ws.map (BitVec.ofInt 64))) 0#64 := rfl
/-- The state behind k groups. -/
def labS (lab : List Int) (k : Nat) : BitVec 64 := absorb 0#64 ((List.range k).map (word lab))
theorem labS_succ (lab : List Int) (k : Nat) : labS lab (k + 1) = mixB (labS lab k) (word lab k) := by
  unfold labS; rw [List.range_succ, List.map_append, List.map_singleton, absorb_snoc]
theorem labS_all (lab : List Int) : labS lab (nGroups lab.length) = absorb 0#64 (wordsL lab) := rfl

theorem Keep.setCell {T : Nat → Prop} {W : World} {b : Nat} (hT : T b) (v : Value) : Keep T W (W.setCell ⟨b, 0, none⟩ v) :=
  ⟨by simp [World.setCell], fun k _ hk => Below.heap_setCell _ _ _ k (fun e => hk (e ▸ hT))⟩

/-- The state behind k integers. -/
def accS (S : BitVec 64) (ws : List Int) (k : Nat) : BitVec 64 := absorb S ((ws.take k).map (BitVec.ofInt 64))
theorem accS_succ (S : BitVec 64) (ws : List Int) (k : Nat) (h : k < ws.length) : accS S ws (k + 1) = mixB (accS S ws k) (BitVec.ofInt 64 (ws[k]?.getD 0)) := by
  unfold accS; rw [List.take_succ_eq_append_getElem h, List.map_append, List.map_singleton, absorb_snoc]; simp [h]
theorem accS_all (S : BitVec 64) (ws : List Int) : accS S ws ws.length = absorb S (ws.map (BitVec.ofInt 64)) := by unfold accS; rw [List.take_length]

set_option maxRecDepth 100000 in
set_option maxHeartbeats 1000000 in
theorem sum_any (s : ByteArray) (a : Option Addr) (cap : Nat) (ws : List Int) (w : World) (hs : s.size ≤ 1000) (hl : ws.length ≤ 1000) (hc : Cells .i64 w a ws) :
    Calls Try.prog 60 #[.string s, .slice a ws.length cap] w fun e w' => e = .returned (.int .u64 (U (sumS (sb s) ws))) ∧ Below w.heap.size w w' := by
  have hcore : ∃ b off, (ws.length = 0 ∨ (a = some ⟨b, off, none⟩ ∧ b < w.heap.size)) ∧ ∀ j, j < ws.length → w.cell? ⟨b, off + j, none⟩ = some (.int .i64 (ws[j]?.getD 0)) := by
    rcases hc with rfl | ⟨b, off, ha, hlt, hcb⟩
    · exact ⟨0, 0, .inl rfl, fun j hj => absurd hj (Nat.not_lt_zero _)⟩
    · exact ⟨b, off, .inr ⟨ha, hlt⟩, hcb⟩
  obtain ⟨b, off, hab, hcb⟩ := hcore
  have HCB := Lib.hid hcb
  clear hcb hc
  have HAB := Lib.hid hab
  clear hab
  refine (callsIn_wide (n := 0)).1 ?_
  refine callsIn_of_wp_marks Try.func60 rfl trivial ?_ rfl
  simp only [Try.ntmps60, List.size_toArray, List.length_cons, List.length_nil, Nat.reduceAdd, Nat.reduceSub, Array.replicate_succ, Array.replicate_zero, List.push_toArray, List.append_toArray, List.nil_append, List.cons_append]
  have kc := fun (W : World) => run_bytes_of_string (P := Try.prog) W 9 62 5 s Try.underlying9 Try.underlying62 Try.underlying5
  gi_wp2_with (refine ⟨trivial, rfl, ?_⟩; gi_at_call 59; refine (callsIn_wide.2 (wordsOf_any _ _ _ _)).mono ?_; rintro e w' ⟨rfl, rfl⟩)
  have hG1 := grownCap_ge (w.alloc (.cells #[.int .u64 0] 60)) s.size 0 5
  have hG2 := grownCap_le_maxLen (w.alloc (.cells #[.int .u64 0] 60)) s.size 0 5 (by unfold maxLen; omega)
  clear kc
  generalize grownCap (w.alloc (.cells #[.int .u64 0] 60)) s.size 0 5 = G at hG1 hG2 ⊢
  unfold maxLen at hG2
  obtain ⟨W0, hW0⟩ : ∃ W0, (((w.alloc (.cells #[.int .u64 0] 60)).alloc (.cells (bytesRow s G) 5 ((bytesRow s G).size, (bytesRow s G).size + 1))).alloc (.cells #[.slice (some ⟨w.heap.size + 1, 0, none⟩) s.size G] 62)).drew = W0 := ⟨_, rfl⟩
  have hz0 : W0.heap.size = w.heap.size + 3 := by rw [← hW0]; show Array.size (World.heap (World.alloc _ _)) = _; simp
  have hB0 : Below w.heap.size w W0 := by rw [← hW0]; exact ((((Below.refl _ _).alloc (Nat.le_refl _) _).alloc (by simp) _).alloc (by simp; omega) _).drew
  have bX : Boxed W0 w.heap.size 60 (.int .u64 0) := by rw [← hW0]; exact ((Boxed.new _ _ _).alloc _).alloc _
  have bD : W0.heap[w.heap.size + 1]? = some (.cells (bytesRow s G) 5 ((bytesRow s G).size, (bytesRow s G).size + 1)) := by
    rw [← hW0]
    have h1 := World.alloc_heap_new (w.alloc (.cells #[.int .u64 0] 60)) (.cells (bytesRow s G) 5 ((bytesRow s G).size, (bytesRow s G).size + 1))
    rw [World.size_alloc] at h1
    exact (Below.heap_alloc _ _ _ (by simp)).trans h1
  have bB : Boxed W0 (w.heap.size + 1 + 1) 62 (.slice (some ⟨w.heap.size + 1, 0, none⟩) s.size G) := by
    rw [← hW0]
    have h1 := World.alloc_heap_new ((w.alloc (.cells #[.int .u64 0] 60)).alloc (.cells (bytesRow s G) 5 ((bytesRow s G).size, (bytesRow s G).size + 1))) (.cells #[.slice (some ⟨w.heap.size + 1, 0, none⟩) s.size G] 62)
    rw [World.size_alloc, World.size_alloc] at h1
    exact h1
  rw [hW0]
  clear hW0
  have hsl := sb_len s
  rw [← hsl] at bB
  refine wpIn_gives (gf := 77) (lb := #[.pointer (some ⟨w.heap.size + 1 + 1, 0, none⟩)]) rfl (enters_of Try.func77 (by kernel_rfl) rfl)
    (words_gives (w.heap.size + 1 + 1) (w.heap.size + 1) 0 G (sb s) W0 (by omega) (by omega) hG2 (sb_byt s) bB.cell (by omega) (by omega) (fun j hj => bytesRow_cell s G W0 5 _ _ bD j (by omega))) (fun _ => rfl) (fun k hk => by omega)
    (fun k A => Boxed A w.heap.size 60 (.int .u64 (U (labS (sb s) k))) ∧ Below w.heap.size w A)
    (fun k A C hs hb => ⟨(hb.block _ (by omega)).trans hs.1, hs.2.trans (hb.mono (by omega))⟩)
    ⟨bX, hB0⟩ (fun k => k = w.heap.size) (fun k hk => by omega)
    (fun k => { tmps := #[.string s, Value.slice a ws.length cap, undef, undef, .int .u64 0, .pointer (some ⟨w.heap.size, 0, none⟩), .int .u64 (U (word (sb s) k)), undef, undef, .string s,
      .slice (some ⟨w.heap.size + 1, 0, none⟩) s.size G, .func (.func 77) #[] #[.pointer (some ⟨w.heap.size + 1 + 1, 0, none⟩)], .int .u64 (U (word (sb s) k)),
      undef, undef, undef, undef, undef, undef, undef, undef, undef, undef, undef, undef, undef, undef, undef, undef, undef, undef, undef, undef, undef, undef, undef, undef, undef, undef], defers := [] }) ?assign ?body ?done
  case assign =>
    intro l' k A K hK
    gi_wp2
    exact hK
  case body =>
    rintro l' k A hk hzA ⟨hx, hBA⟩
    have hcx := hx.cell
    have hfx := hx.frozen
    gi_wp2_with (refine ⟨trivial, rfl, ?_⟩; gi_at_call 80; refine (CallsIn.inRound l' (callsIn_wide.2 (mix_any _ _ _))).mono ?_; rintro e w' ⟨rfl, rfl⟩)
    refine ⟨⟨?_, hBA.setCell (p := ⟨w.heap.size, 0, none⟩) (Nat.le_refl _) _⟩, Keep.setCell (T := fun k => k = w.heap.size) (by rfl) _⟩
    rw [labS_succ]
    exact hx.set _
  case done =>
    rintro A hzA ⟨hx, hBA⟩ hK
    rw [labS_all] at hx
    have hcx := hx.cell
    have hfx := hx.frozen
    obtain ⟨S0, hS0⟩ : ∃ S0, absorb 0#64 (wordsL (sb s)) = S0 := ⟨_, rfl⟩
    obtain ⟨S1, hS1⟩ : ∃ S1, mixB S0 (BitVec.ofInt 64 (sb s).length) = S1 := ⟨_, rfl⟩
    obtain ⟨S2, hS2⟩ : ∃ S2, mixB S1 (BitVec.ofInt 64 ws.length) = S2 := ⟨_, rfl⟩
    have hm1 := fun W => mix_at S0 (BitVec.ofInt 64 (sb s).length) (U S0) (s.size : Int) rfl (natU s.size (sb s).length (by omega) (by omega)) W
    have hm2 := fun W => mix_at S1 (BitVec.ofInt 64 ws.length) (U S1) (ws.length : Int) rfl (natU ws.length ws.length (by omega) rfl) W
    have hhead : headS (sb s) ws.length = S2 := by unfold headS; rw [hS0, hS1, hS2]
    rw [hS0] at hcx hx
    rw [hS1] at hm1
    rw [hS2] at hm2
    have HH := Lib.hid hhead
    have HM1 := Lib.hid hm1
    have HM2 := Lib.hid hm2
    have HX := Lib.hid hx
    clear hS0 hS1 hS2 hm1 hm2 hhead hsl hx
    gi_wp2_with fail
    refine ⟨trivial, rfl, ?_⟩
    refine (callsIn_wide.2 (HM1.out _)).mono ?_
    rintro e w' ⟨rfl, rfl⟩
    gi_wp2_with fail
    refine ⟨trivial, rfl, ?_⟩
    refine (callsIn_wide.2 (HM2.out _)).mono ?_
    rintro e w' ⟨rfl, rfl⟩
    gi_wp2_with fail
    gi_loopw [28] (fun i wr => ∃ k : Nat, k ≤ ws.length ∧ i = .int .i64 k ∧ Boxed wr w.heap.size 60 (.int .u64 (U (accS S2 ws k))) ∧ wr.heap[w.heap.size + 3]? = some (.deferred (some [])) ∧ Below w.heap.size w wr)
      (fun i _ => ws.length - (intOf i).toNat)
    case atStart => exact ⟨0, Nat.zero_le _, rfl, (HX.out.set _).set _, (Below.heap_setCell _ _ _ _ (by show w.heap.size + 3 ≠ w.heap.size; omega)).trans ((Below.heap_setCell _ _ _ _ (by show w.heap.size + 3 ≠ w.heap.size; omega)).trans (hz0 ▸ hK)), (hBA.setCell (p := ⟨w.heap.size, 0, none⟩) (Nat.le_refl _) _).setCell (p := ⟨w.heap.size, 0, none⟩) (Nat.le_refl _) _⟩
    case round =>
      obtain ⟨k, hk, rfl, hxr, hKr, hBr⟩ := hrel
      have hcr := hxr.cell
      have hfr := hxr.frozen
      clear hcx hfx
      by_cases hlt : k < ws.length
      · obtain ⟨ha, hbl⟩ : a = some ⟨b, off, none⟩ ∧ b < w.heap.size := HAB.out.resolve_left (by omega)
        have hck := (hBr.cell (p := ⟨b, off + k, none⟩) hbl).trans (HCB.out k hlt)
        have hm := fun W => mix_at (accS S2 ws k) (BitVec.ofInt 64 (ws[k]?.getD 0)) (U (accS S2 ws k)) (IntKind.u64.wrap (ws[k]?.getD 0)) rfl (wrap_ofInt _) W
        rw [← accS_succ S2 ws k hlt] at hm
        obtain ⟨S4, hS4⟩ : ∃ S4, accS S2 ws (k + 1) = S4 := ⟨_, rfl⟩
        obtain ⟨S5, hS5⟩ : ∃ S5, accS S2 ws k = S5 := ⟨_, rfl⟩
        rw [hS4, hS5] at hm
        rw [hS5] at hcr hxr
        generalize ws[k]?.getD 0 = x at hck hm
        have HM := Lib.hid hm
        have HS4 := Lib.hid hS4
        have HXR := Lib.hid hxr
        clear hm hS4 hS5 hxr
        subst ha
        gi_wp2_with fail
        refine ⟨trivial, rfl, ?_⟩
        with_reducible refine (callsIn_wide.2 (HM.out _)).mono ?_
        rintro e w' ⟨rfl, rfl⟩
        gi_wp2_with fail
        go_roundw
        case rel => exact ⟨k + 1, by omega, by go_num, by rw [HS4.out]; exact HXR.out.set _, (Below.heap_setCell _ _ _ _ (by show w.heap.size + 3 ≠ w.heap.size; omega)).trans hKr, hBr.setCell (p := ⟨w.heap.size, 0, none⟩) (Nat.le_refl _) _⟩
        case measure => simp [intOf]; omega
      · have hkl : k = ws.length := by omega
        subst hkl
        obtain ⟨S3, hS3⟩ : ∃ S3, accS S2 ws ws.length = S3 := ⟨_, rfl⟩
        rw [hS3] at hxr hcr
        have hm := fun W => mix_at S3 0#64 (U S3) 0 rfl rfl W
        have hfin : mixB S3 0#64 = sumS (sb s) ws := by rw [sumS_head, HH.out, ← hS3, accS_all]
        rw [hfin] at hm
        have HM := Lib.hid hm
        clear hm hfin hS3
        gi_wp2_with fail
        refine ⟨trivial, rfl, ?_⟩
        refine (callsIn_wide.2 (HM.out _)).mono ?_
        rintro e w' ⟨rfl, rfl⟩
        gi_wp2
        refine ⟨by simp, .inl ⟨_, _, rfl, run_takeDeferred hKr, ?_⟩⟩
        refine ⟨_, results_tmp rfl _ _ _, rfl, hBr.trans ⟨rfl, rfl, rfl, by simp, fun j hj => World.putObj_heap_other (by omega)⟩⟩

end Go.Proofs.Ytfhpllcdlejfjaa

/- The contract of Bytes. Conditions: the label has at most 1000 bytes, the slice at most 1000 bytes. -/
namespace Go.Proofs.Ytfhpllcdlejfjaa
open Go.RowKit Go.Shelf
attribute [local go_sem] Oper.semAt_some

/-- The iterator's contract, whatever the slice: it reads blocks below B alone. -/
theorem words_gives_any (bb B : Nat) (a : Option Addr) (cap : Nat) (zs : List Int) (w : World) (hl2 : zs.length ≤ 1000000) (hlen : zs.length ≤ cap) (hcap : cap ≤ 9223372036854775807) (hz : Byt zs)
    (hb : w.cell? ⟨bb, 0, none⟩ = some (.slice a zs.length cap)) (lb : bb < w.heap.size) (hB : B ≤ w.heap.size)
    (hc : zs = [] ∨ ∃ b off, a = some ⟨b, off, none⟩ ∧ b < B ∧ ∀ j, j < zs.length → w.cell? ⟨b, off + j, none⟩ = some (.int .u8 (zs[j]?.getD 0))) :
    Gives Try.prog 77 #[.pointer (some ⟨bb, 0, none⟩)] (fun k => #[.int .u64 (U (word zs k))]) (nGroups zs.length) (fun k => k < B) w := by
  rcases hc with rfl | ⟨b, off, rfl, hlt, hcs⟩
  · exact words_gives0 bb a cap _ _ w hb lb
  · intro l J T W hW hT hJ hY h0
    exact words_gives bb b off cap zs w hl2 hlen hcap hz hb lb (by omega) hcs l J T W hW (fun k hk => ⟨(hT k hk).1, fun e => (hT k hk).2 (by omega)⟩) hJ hY h0
/-- What Bytes collects from the first k groups. -/
def colS (zs : List Int) (k : Nat) : List Int := (List.range k).map (fun j => wrap64 (U (word zs j)))
theorem colS_len (zs : List Int) (k : Nat) : (colS zs k).length = k := by simp [colS]
theorem colS_succ (zs : List Int) (k : Nat) : colS zs (k + 1) = colS zs k ++ [wrap64 (U (word zs k))] := by simp [colS, List.range_succ]
theorem bytesS_col (lab zs : List Int) : bytesS lab zs = sumS lab (colS zs (nGroups zs.length) ++ [(zs.length : Int)]) := by
  unfold bytesS colS wordsL; rw [List.map_map]; rfl
set_option maxRecDepth 100000 in
set_option maxHeartbeats 1000000 in
theorem bytes_any (s : ByteArray) (a : Option Addr) (cap : Nat) (zs : List Int) (w : World) (hs : s.size ≤ 1000) (hl : zs.length ≤ 1000) (hlen : zs.length ≤ cap) (hcap : cap ≤ 9223372036854775807) (hz : Byt zs) (hc : Cells .u8 w a zs) :
    Calls Try.prog 38 #[.string s, .slice a zs.length cap] w fun e w' => e = .returned (.int .u64 (U (bytesS (sb s) zs))) ∧ Below w.heap.size w w' := by
  obtain ⟨i0, hi, hz0, hz1, hz2⟩ := info_parts info3
  have HC := Lib.hid hc
  have HZ := Lib.hid hz
  clear hc hz
  refine (callsIn_wide (n := 0)).1 ?_
  refine callsIn_of_wp_marks Try.func38 rfl trivial ?_ rfl
  simp only [Try.ntmps38, List.size_toArray, List.length_cons, List.length_nil, Nat.reduceAdd, Nat.reduceSub, Array.replicate_succ, Array.replicate_zero, List.push_toArray, List.append_toArray, List.nil_append, List.cons_append]
  obtain ⟨m, hm⟩ : ∃ m, zs.length / 8 + 2 = m := ⟨_, rfl⟩
  have hmi : ((zs.length : Int) / 8 + 2) = (m : Int) := by omega
  have hgm : nGroups zs.length + 1 ≤ m := by unfold nGroups; omega
  have hmb : m ≤ 1000 := by omega
  have HMI := Lib.hid hmi
  clear hm hmi
  gi_wp2_with (first | (gi_at_make; refine wpListIn_make_own _ rfl _ _ 23 rfl w.heap.size 3 i0 (.int .i64 0) 1 Try.underlying23 hi hz0 hz1 .i64 .i64 _ m rfl rfl HMI.out (by rw [hz2]; omega) (by unfold maxLen; omega) (Nat.le_refl _) ?_; intro w1 hown1 hgrow1) | (refine ⟨trivial, rfl, ?_⟩; gi_at_call 59; refine (callsIn_wide.2 (wordsOf_any _ _ _ _)).mono ?_; rintro e w' ⟨rfl, rfl⟩))
  obtain ⟨g, hg⟩ : ∃ g, w.heap.size = g := ⟨_, rfl⟩
  rw [hg] at hown1
  have hg1 : g < w1.heap.size := (hown1.lt g rfl).2
  obtain ⟨X, hX⟩ : ∃ X, w1.heap.size = X := ⟨_, rfl⟩
  obtain ⟨W0, hW0⟩ : ∃ W0, (w1.alloc (.cells #[.slice (some ⟨w.heap.size, 0, none⟩) 0 m] 23)).alloc (.cells #[.slice a zs.length cap] 62) = W0 := ⟨_, rfl⟩
  have hz0' : W0.heap.size = X + 2 := by rw [← hW0]; simp [hX]
  have hB1 : Below w.heap.size w w1 := (Below.refl _ _).grown hgrow1 (Nat.le_refl _) (fun k e => by cases e)
  have hB0 : Below w.heap.size w W0 := by rw [← hW0]; exact (hB1.alloc hB1.size _).alloc (by simp; have := hB1.size; omega) _
  have bX : Boxed W0 X 23 (.slice (some ⟨g, 0, none⟩) 0 m) := by rw [← hW0, ← hX, ← hg]; exact (Boxed.new _ _ _).alloc _
  have bB : Boxed W0 (X + 1) 62 (.slice a zs.length cap) := by
    rw [← hW0, ← hX]
    have h1 := Boxed.new (w1.alloc (.cells #[.slice (some ⟨w.heap.size, 0, none⟩) 0 m] 23)) 62 (.slice a zs.length cap)
    rw [World.size_alloc] at h1
    exact h1
  have hown0 : W0.ownsRow w.heap.size 3 1 (.slice (some ⟨g, 0, none⟩) 0 m) 0 [] := by rw [← hW0, hg]; exact (hown1.alloc _).alloc _
  rw [hW0, hX, hg]
  clear hW0 hown1 hgrow1 hB1
  rw [hX] at hg1
  have HG := Lib.hid hg
  have hgle : g ≤ w.heap.size := by omega
  have hgge : w.heap.size ≤ g := by omega
  clear hX hg hi
  obtain ⟨i0', hi', hz0'', hz1', hz2'⟩ := info_parts info3
  refine wpIn_gives (gf := 77) (lb := #[.pointer (some ⟨X + 1, 0, none⟩)]) rfl (enters_of Try.func77 (by kernel_rfl) rfl)
    (words_gives_any (X + 1) w.heap.size a cap zs W0 (by omega) hlen hcap HZ.out bB.cell (by omega) (by omega) ?cells) (fun _ => rfl) (fun k hk => by omega)
    (fun k A => Boxed A X 23 (.slice (some ⟨g, 0, none⟩) k m) ∧ A.ownsRow w.heap.size 3 1 (.slice (some ⟨g, 0, none⟩) k m) k ((colS zs k).map (Value.int .i64)) ∧ Below w.heap.size w A)
    (fun k A C hs hb => ⟨(hb.block _ (by omega)).trans hs.1, own_same hs.2.1 (fun j e => by cases e; exact hb.block g (by omega)), hs.2.2.trans (hb.mono (by omega))⟩)
    ⟨bX, hown0, hB0⟩ (fun k => k = X ∨ k = g) (fun k hk => by omega)
    (fun k => { tmps := #[.string s, .slice a zs.length cap, undef, undef, .int .u64 0, .pointer (some ⟨X, 0, none⟩), .int .u64 (U (word zs k)), .slice a zs.length cap, .int .i64 (zs.length : Int), .int .i64 ((zs.length : Int) / 8),
      .int .i64 ((zs.length : Int) / 8 + 2), .slice (some ⟨g, 0, none⟩) 0 m, .slice a zs.length cap, .func (.func 77) #[] #[.pointer (some ⟨X + 1, 0, none⟩)], .int .u64 (U (word zs k)), undef, undef, undef, undef, undef, undef, undef, undef, undef, undef, undef, undef], defers := [] }) ?assign ?body ?done
  case cells =>
    rcases HC.out with h | ⟨b, off, h1, h2, h3⟩
    · exact .inl h
    · exact .inr ⟨b, off, h1, h2, fun j hj => (hB0.cell (p := ⟨b, off + j, none⟩) h2).trans (h3 j hj)⟩
  case assign =>
    intro l' k A K hK
    gi_wp2
    exact hK
  case body =>
    rintro l' k A hk hzA ⟨hx, hown, hBA⟩
    have hcx := hx.cell
    have hfx := hx.frozen
    have hkm : k + 1 ≤ m := by omega
    gi_wp2_with (gi_at_builtin; refine wpListIn_append_fits _ rfl _ _ 23 rfl w.heap.size 3 i0' 1 Try.underlying23 hi' hz1' g k m ((colS zs k).map (Value.int .i64)) rfl (hown.alloc _) ⟨A.heap.size, 0, none⟩ 1 1 [.int .i64 (wrap64 (U (word zs k)))] rfl rfl (cell_one_new _ _ _) (fun x hx => by simp at hx; subst hx; rfl) (by omega) ?_; intro w3 hown3 hgrow3; have b3 := (hx.alloc (.cells #[.int .i64 (wrap64 (U (word zs k)))] 3)).kept hgrow3 (by simp; omega); have c3 := b3.cell; have f3 := b3.frozen)
    have hg3 := hgrow3.size
    rw [World.size_alloc] at hg3
    refine ⟨⟨b3.set _, own_same (A := w3) ?_ (fun j e => by cases e; exact Below.heap_setCell _ _ _ g (by show g ≠ X; omega)), ?_⟩, ?_⟩
    · rw [colS_succ, List.map_append]; exact hown3
    · exact ((hBA.alloc hBA.size _).grown hgrow3 (by rw [World.size_alloc]; have := hBA.size; omega) (fun j e => by cases e; omega)).setCell (p := ⟨X, 0, none⟩) (by show w.heap.size ≤ X; omega) _
    · refine ⟨by show A.heap.size ≤ (w3.setCell _ _).heap.size; simp [World.setCell]; omega, fun j hj hT => ?_⟩
      rw [Below.heap_setCell _ _ _ j (fun e => hT (.inl e)), hgrow3.block j (by rw [World.size_alloc]; omega) (fun e => hT (.inr (by simpa using e))), Below.heap_alloc _ _ _ hj]
  case done =>
    rintro A hzA ⟨hx, hown, hBA⟩ hK
    have hcx := hx.cell
    have hfx := hx.frozen
    obtain ⟨K, hKn⟩ : ∃ K, nGroups zs.length = K := ⟨_, rfl⟩
    rw [hKn] at hgm hown hcx hx
    have HKN := Lib.hid hKn
    clear hKn
    gi_wp2_with (gi_at_builtin; refine wpListIn_append_fits _ rfl _ _ 23 rfl w.heap.size 3 i0' 1 Try.underlying23 hi' hz1' g K m ((colS zs K).map (Value.int .i64)) rfl (hown.alloc _) ⟨A.heap.size, 0, none⟩ 1 1 [.int .i64 (zs.length : Int)] rfl rfl (cell_one_new _ _ _) (fun x hx => by simp at hx; subst hx; rfl) (by omega) ?_; intro w3 hown3 hgrow3)
    have hB3 : Below w.heap.size w w3 := (hBA.alloc hBA.size _).grown hgrow3 (by rw [World.size_alloc]; have := hBA.size; omega) (fun j e => by cases e; omega)
    have hg3 := hgrow3.size
    rw [World.size_alloc] at hg3
    have hK3 : w3.heap[X + 2]? = some (.deferred (some [])) := by
      rw [hgrow3.block (X + 2) (by rw [World.size_alloc]; omega) (by simp; omega), Below.heap_alloc _ _ _ (by omega), ← hz0']; exact hK
    have hsum : Calls Try.prog 60 #[.string s, .slice (some ⟨g, 0, none⟩) (K + 1) m] w3 fun e w' => e = .returned (.int .u64 (U (bytesS (sb s) zs))) ∧ Below w3.heap.size w3 w' := by
      have h1 := sum_any s (some ⟨g, 0, none⟩) m (colS zs K ++ [(zs.length : Int)]) w3 hs (by simp [colS_len]; omega) (cells_of_own (by rw [List.map_append]; exact hown3))
      rw [List.length_append, colS_len] at h1
      rw [bytesS_col, HKN.out]
      exact h1
    refine ⟨trivial, rfl, ?_⟩
    refine (callsIn_wide.2 hsum).mono ?_
    clear hsum hcx hfx hgrow3 hown3 hx hown
    rintro e w' ⟨rfl, hb⟩
    have hK4 := (hb.block (X + 2) (by omega)).trans hK3
    have hs4 := hb.size
    have HB := Lib.hid hb
    clear hb hK3
    gi_wp2
    refine ⟨by simp, .inl ⟨_, _, rfl, run_takeDeferred hK4, ?_⟩⟩
    refine ⟨_, results_tmp rfl _ _ _, rfl, (hB3.trans (HB.out.mono hB3.size)).trans ⟨rfl, rfl, rfl, by simp, fun j hj => World.putObj_heap_other (by omega)⟩⟩

theorem bytes_sli (s : ByteArray) (a : Option Addr) (cap : Nat) (zs : List Int) (w : World) (h : Sli .u8 w a cap zs) (hs : s.size ≤ 1000) (hl : zs.length ≤ 1000) (hz : Byt zs) (r : Int) (hr : U (bytesS (sb s) zs) = r) :
    Calls Try.prog 38 #[.string s, .slice a zs.length cap] w fun e w' => e = .returned (.int .u64 r) ∧ Below w.heap.size w w' := by
  subst hr; exact bytes_any s a cap zs w hs hl h.le h.mx hz h.cells
theorem sum_sli (s : ByteArray) (a : Option Addr) (cap : Nat) (ws : List Int) (w : World) (h : Sli .i64 w a cap ws) (hs : s.size ≤ 1000) (hl : ws.length ≤ 1000) (r : Int) (hr : U (sumS (sb s) ws) = r) :
    Calls Try.prog 60 #[.string s, .slice a ws.length cap] w fun e w' => e = .returned (.int .u64 r) ∧ Below w.heap.size w w' := by
  subst hr; exact sum_any s a cap ws w hs hl h.cells

end Go.Proofs.Ytfhpllcdlejfjaa
