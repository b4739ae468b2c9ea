/- Lists of edits by offsets in memory, and edits as they come in. It has no conditions. -/
import Derived.Test.YtfhpllcdlejfjaaEVal
import Derived.Test.YtfhpllcdlejfjaaEInv
import Derived.Test.YtfhpllcdlejfjaaRowI
import Derived.Test.YtfhpllcdlejfjaaStr
import Derived.Test.YtfhpllcdlejfjaaOnly
namespace Go.Proofs.Ytfhpllcdlejfjaa
open Go.RowKit Go.Shelf
set_option linter.unusedVariables false

/-! Bytes of texts. -/
theorem sb_cut (s : ByteArray) (f t : Nat) : sb (s.extract f t) = ((sb s).drop f).take (t - f) := by
  simp only [sb, ByteArray.data_extract, Array.toList_extract, List.map_take, List.map_drop, List.extract_eq_take_drop]
theorem sb_add (a b : ByteArray) : sb (a ++ b) = sb a ++ sb b := by simp [sb, ByteArray.data_append]
theorem bs_sb (s : ByteArray) : bs (sb s) = s := by
  unfold bs sb
  rw [List.map_map]
  have : ((fun c : Int => UInt8.ofNat c.toNat) ∘ fun c : UInt8 => (c.toNat : Int)) = id := by funext c; simp
  rw [this, List.map_id]
theorem sb_inj {a b : ByteArray} (h : sb a = sb b) : a = b := by rw [← bs_sb a, ← bs_sb b, h]
theorem bs_add {a b : List Int} : bs (a ++ b) = bs a ++ bs b := by
  apply ByteArray.ext; simp [bs, ByteArray.data_append]
theorem bs_cut (s : ByteArray) (f t : Nat) : bs (((sb s).drop f).take (t - f)) = s.extract f t := by rw [← sb_cut, bs_sb]

/-! Edits as they come in. -/
def Er.vals (e : Er) : List Value := [.int .i64 e.f, .int .i64 e.t, .string e.x]
structure Er.Fit (e : Er) : Prop where
  f1 : -9223372036854775808 ≤ e.f
  f2 : e.f ≤ 9223372036854775807
  t1 : -9223372036854775808 ≤ e.t
  t2 : e.t ≤ 9223372036854775807
  x : e.x.size ≤ 100000
def dE : Er := ⟨0, 0, ⟨#[]⟩⟩
def eg (es : List Er) (k : Nat) : Er := es[k]?.getD dE
theorem eg_eq {es : List Er} {k : Nat} (h : k < es.length) : es[k]? = some (eg es k) := by simp [eg, List.getElem?_eq_getElem h]
theorem eg_drop {es : List Er} {k : Nat} (h : k < es.length) : es.drop k = eg es k :: es.drop (k + 1) := by
  rw [List.drop_eq_getElem_cons h]; simp [eg, List.getElem?_eq_getElem h]
theorem eg_mem {es : List Er} {k : Nat} (h : k < es.length) : eg es k ∈ es := List.mem_of_getElem? (eg_eq h)
theorem eg_left {es ys : List Er} {k : Nat} (h : k < es.length) : eg (es ++ ys) k = eg es k := by simp [eg, List.getElem?_append_left h]
theorem take_eg {es : List Er} {k : Nat} (h : k < es.length) : es.take (k + 1) = es.take k ++ [eg es k] := by rw [List.take_add_one, eg_eq h]; rfl

/-- The cells of edits, one after the other. -/
def rv (es : List Er) : List Value := es.flatMap Er.vals
theorem rv_nil : rv [] = [] := rfl
theorem rv_cons (e : Er) (es : List Er) : rv (e :: es) = e.vals ++ rv es := rfl
theorem rv_add (a b : List Er) : rv (a ++ b) = rv a ++ rv b := by simp [rv]
theorem rv_snoc (a : List Er) (e : Er) : rv (a ++ [e]) = rv a ++ e.vals := by simp [rv]
theorem rv_len (es : List Er) : (rv es).length = es.length * 3 := by
  induction es with
  | nil => rfl
  | cons e es ih => rw [rv_cons, List.length_append, ih]; simp [Er.vals]; omega
theorem rv_get : ∀ (es : List Er) (k i : Nat), k < es.length → i < 3 → (rv es)[k * 3 + i]? = (eg es k).vals[i]? := by
  intro es
  induction es with
  | nil => intro k i h; simp at h
  | cons e es ih =>
    intro k i hk hi
    rw [rv_cons]
    cases k with
    | zero => rw [List.getElem?_append_left (by simp [Er.vals]; omega)]; simp [eg]
    | succ k =>
      rw [List.getElem?_append_right (by simp [Er.vals]; omega), show (k + 1) * 3 + i - e.vals.length = k * 3 + i by simp [Er.vals]; omega, ih k i (by simpa using hk) hi]
      simp [eg]

/-- The edits' cells lie in memory, below block B. -/
def RC (B : Nat) (w : World) (a : Option Addr) (es : List Er) : Prop :=
  es.length = 0 ∨ ∃ b off, a = some ⟨b, off, none⟩ ∧ b < B ∧ ∀ k, k < es.length → ∀ i, i < 3 → w.cell? ⟨b, off + k * 3 + i, none⟩ = (eg es k).vals[i]?
/-- A slice of edits lies in memory, below block B. -/
structure ES (B : Nat) (w : World) (a : Option Addr) (cap : Nat) (es : List Er) : Prop where
  le : es.length ≤ cap
  mx : cap ≤ 9223372036854775807
  nil : a = none → es.length = 0
  cells : RC B w a es
theorem ES.keep {B : Nat} {w w' : World} {a : Option Addr} {cap : Nat} {es : List Er} (h : ES B w a cap es) (hb : ∀ b, b < B → w'.heap[b]? = w.heap[b]?) : ES B w' a cap es := by
  refine ⟨h.le, h.mx, h.nil, ?_⟩
  rcases h.cells with h0 | ⟨b, off, ha, hlt, hc⟩
  · exact .inl h0
  · refine .inr ⟨b, off, ha, hlt, fun k hk i hi => ?_⟩
    rw [← hc k hk i hi]
    simp only [World.cell?, hb b hlt]
theorem ES.below {B : Nat} {w w' : World} {a : Option Addr} {cap : Nat} {es : List Er} (h : ES B w a cap es) (hb : Below B w w') : ES B w' a cap es := h.keep hb.block
theorem ES.mono {B B' : Nat} {w : World} {a : Option Addr} {cap : Nat} {es : List Er} (h : ES B w a cap es) (hb : B ≤ B') : ES B' w a cap es := by
  refine ⟨h.le, h.mx, h.nil, ?_⟩
  rcases h.cells with h0 | ⟨b, off, ha, hlt, hc⟩
  · exact .inl h0
  · exact .inr ⟨b, off, ha, by omega, hc⟩
theorem ES.on {w w' : World} {a : Option Addr} {cap : Nat} {es : List Er} (h : ES w.heap.size w a cap es) (hb : Below w.heap.size w w') : ES w'.heap.size w' a cap es := (h.below hb).mono hb.size
theorem ES.none (B : Nat) (w : World) : ES B w none 0 [] := ⟨by simp, by omega, fun _ => by simp, .inl rfl⟩
theorem RC.core {B : Nat} {w : World} {a : Option Addr} {es : List Er} (h : RC B w a es) :
    ∃ b off, (es.length = 0 ∨ (a = some ⟨b, off, none⟩ ∧ b < B)) ∧ ∀ k, k < es.length → ∀ W : World, W.heap[b]? = w.heap[b]? →
      W.cell? ⟨b, off + k * 3, none⟩ = some (.int .i64 (eg es k).f) ∧ W.cell? ⟨b, off + k * 3 + 1, none⟩ = some (.int .i64 (eg es k).t) ∧ W.cell? ⟨b, off + k * 3 + 2, none⟩ = some (.string (eg es k).x) := by
  rcases h with h0 | ⟨b, off, ha, hlt, hc⟩
  · exact ⟨0, 0, .inl h0, fun k hk => by omega⟩
  · refine ⟨b, off, .inr ⟨ha, hlt⟩, fun k hk W hW => ?_⟩
    have hh : ∀ i, i < 3 → W.cell? ⟨b, off + k * 3 + i, none⟩ = (eg es k).vals[i]? := by
      intro i hi; rw [← hc k hk i hi]; simp only [World.cell?, hW]
    exact ⟨hh 0 (by omega), hh 1 (by omega), hh 2 (by omega)⟩

theorem infoEd : (Try.prog.info? 32).map (fun i => (i.zero, i.size, i.bytes)) = some (some (.agg #[.int .i64 0, .int .i64 0, .string ⟨#[]⟩]), 3, 32) := by kernel_rfl
theorem es_of_own {w : World} {lo n : Nat} {v : Value} {es : List Er} (h : w.ownsRow lo 32 3 v n (rv es)) : n = es.length ∧ ∃ a cap, v = .slice a es.length cap ∧ ES w.heap.size w a cap es := by
  obtain ⟨a, cap, rfl⟩ := own_slice h
  have hn : n = es.length := by have := h.1; rw [rv_len] at this; omega
  subst hn
  refine ⟨rfl, a, cap, rfl, ?_⟩
  rcases h.2 with ⟨hv, h0⟩ | ⟨g, cp, cur, hv, _, hg, h1, h2, _, _⟩
  · simp only [Value.slice.injEq] at hv
    obtain ⟨rfl, _, rfl⟩ := hv
    exact ⟨by omega, by omega, fun _ => h0, .inl h0⟩
  · simp only [Value.slice.injEq, true_and] at hv
    obtain ⟨rfl, rfl⟩ := hv
    refine ⟨h1, by unfold maxLen at h2; omega, (fun h => by cases h), .inr ⟨g, 0, rfl, (Array.getElem?_eq_some_iff.1 hg).1, fun j hj i hi => ?_⟩⟩
    rw [Nat.zero_add, h.cellAt (j * 3 + i) (by omega)]
    exact rv_get es j i hj hi

/-- A call hands back a slice of these edits and an error. -/
def NewES (w : World) (es : List Er) (er : Int) (e : Ending) (w' : World) : Prop :=
  ∃ a cap, e = .returned (.tuple #[.slice a es.length cap, .int .i64 er]) ∧ ES w'.heap.size w' a cap es ∧ Below w.heap.size w w'
/-- A call hands back a slice of these edits. -/
def NewE1 (w : World) (es : List Er) (e : Ending) (w' : World) : Prop :=
  ∃ a cap, e = .returned (.slice a es.length cap) ∧ ES w'.heap.size w' a cap es ∧ Below w.heap.size w w'

/-! From edits as they come in to edits by offsets, and back. -/
def ees (es : List Er) : List Ee := es.map fun e => e.ee sb
def er (e : Ee) : Er := ⟨e.f, e.t, bs e.x⟩
def ers (l : List Ee) : List Er := l.map er
theorem ers_len (l : List Ee) : (ers l).length = l.length := by simp [ers]
theorem ees_len (l : List Er) : (ees l).length = l.length := by simp [ees]
theorem ees_ers {l : List Ee} (h : ∀ e ∈ l, Byt e.x) : ees (ers l) = l := by
  unfold ees ers
  rw [List.map_map]
  conv => rhs; rw [← List.map_id l]
  refine List.map_congr_left fun e he => ?_
  obtain ⟨f, t, x⟩ := e
  simp only [Function.comp, er, Er.ee, sb_bs (h _ he), Int.toNat_natCast, id]
theorem ees_cons (e : Er) (l : List Er) : ees (e :: l) = e.ee sb :: ees l := rfl
theorem ees_drop (es : List Er) (k : Nat) : ees (es.drop k) = (ees es).drop k := by simp [ees, List.map_drop]
theorem ees_byt (es : List Er) : ∀ e ∈ ees es, Byt e.x := by
  intro e he
  obtain ⟨x, _, rfl⟩ := List.mem_map.1 he
  exact sb_byt _
theorem vErr_ok {n : Nat} {es : List Er} (h : vErr (n : Int) es = 0) : es.length ≤ 64 ∧ Vld n 0 (ees es) ∧ ∀ e ∈ es, 0 ≤ e.f ∧ e.f ≤ e.t ∧ e.t ≤ (n : Int) := by
  unfold vErr at h
  split at h
  · omega
  · have := vE_ok sb (n := n) (p := 0) h (by omega)
    exact ⟨by omega, this.1, this.2⟩
theorem vErr_ways (n : Int) (es : List Er) : vErr n es = 0 ∨ vErr n es = 1 ∨ vErr n es = 4 ∨ vErr n es = 5 := by
  unfold vErr
  split
  · simp
  · rcases vE_ways n es 0 with h | h | h <;> simp [h]
theorem vErr_ers {n : Nat} {l : List Ee} (h : Vld n 0 l) (hl : l.length ≤ 64) (hb : ∀ e ∈ l, Byt e.x) : vErr (n : Int) (ers l) = 0 := by
  unfold vErr
  rw [if_neg (by rw [ers_len]; omega)]
  refine vE_of_vld sb (p := 0) (fun e he => ?_) ?_
  · obtain ⟨x, _, rfl⟩ := List.mem_map.1 he
    exact ⟨Int.natCast_nonneg _, Int.natCast_nonneg _⟩
  · rw [show (ers l).map (fun e => e.ee sb) = ees (ers l) from rfl, ees_ers hb]; exact h
theorem appl_byt {s : List Int} (hs : Byt s) : ∀ {l : List Ee} {p : Nat}, (∀ e ∈ l, Byt e.x) → Byt (appl s p l) := by
  intro l
  induction l with
  | nil => intro p _; exact hs.drop p
  | cons e l ih =>
    intro p h c hc
    simp only [appl, List.mem_append] at hc
    rcases hc with hc | hc | hc
    · exact (hs.drop p).take _ c hc
    · exact h e (by simp) c hc
    · exact ih (fun x hx => h x (by simp [hx])) c hc
/-- The new text, or the empty one if the edits are not valid. -/
def apS (s : ByteArray) (es : List Er) : ByteArray := if vErr (s.size : Int) es = 0 then bs (appl (sb s) 0 (ees es)) else ⟨#[]⟩
theorem apS_ok {s : ByteArray} {es : List Er} (h : vErr (s.size : Int) es = 0) : sb (apS s es) = appl (sb s) 0 (ees es) := by
  unfold apS
  rw [if_pos h, sb_bs (appl_byt (sb_byt s) (ees_byt es))]
theorem apS_bad {s : ByteArray} {es : List Er} (h : vErr (s.size : Int) es ≠ 0) : apS s es = ⟨#[]⟩ := by unfold apS; rw [if_neg h]

end Go.Proofs.Ytfhpllcdlejfjaa
