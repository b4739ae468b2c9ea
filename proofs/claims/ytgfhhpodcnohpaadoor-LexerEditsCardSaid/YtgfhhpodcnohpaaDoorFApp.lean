/- FApp, with the texts that only it needs in front of it: EVal, FdE, FVr, FPc, FPart. It has no conditions. -/
import Derived.Test.YtgfhhpodcnohpaaDoorEMath
import Derived.Test.YtgfhhpodcnohpaaDoorRowI
import Derived.Test.YtgfhhpodcnohpaaDoorSBd
import Derived.Test.YtgfhhpodcnohpaaDoorOnly
import Derived.Test.YtgfhhpodcnohpaaDoorGiv
import Derived.Deep.RegionHeld3

/- The mathematics of Valid: the error of a list of edits, and what no error means. It has no conditions. -/
namespace Go.Proofs.YtgfhhpodcnohpaaDoor
open Go.RowKit
set_option linter.unusedVariables false

/-- An edit as it comes in. -/
structure Er where
  f : Int
  t : Int
  x : ByteArray
def Er.ee (e : Er) (sb : ByteArray → List Int) : Ee := ⟨e.f.toNat, e.t.toNat, sb e.x⟩
/-- The error of the first edit that has one, behind an edit that ends at p. -/
def vE (n p : Int) : List Er → Int
  | [] => 0
  | e :: l => if e.f < 0 ∨ e.t < e.f ∨ n < e.t then 5 else if e.f < p then 1 else vE n e.t l
def vErr (n : Int) (l : List Er) : Int := if 64 < l.length then 4 else vE n 0 l
theorem vE_ways (n : Int) : ∀ (l : List Er) (p : Int), vE n p l = 0 ∨ vE n p l = 1 ∨ vE n p l = 5 := by
  intro l
  induction l with
  | nil => intro p; exact .inl rfl
  | cons e l ih =>
    intro p
    simp only [vE]
    split
    · exact .inr (.inr rfl)
    · split
      · exact .inr (.inl rfl)
      · exact ih e.t
/-- No error: the edits are valid. -/
theorem vE_ok {n : Nat} (sb : ByteArray → List Int) : ∀ {l : List Er} {p : Nat}, vE (n : Int) (p : Int) l = 0 → p ≤ n → Vld n p (l.map (fun e => e.ee sb)) ∧ ∀ e ∈ l, 0 ≤ e.f ∧ e.f ≤ e.t ∧ e.t ≤ (n : Int) := by
  intro l
  induction l with
  | nil => intro p _ hp; exact ⟨hp, by simp⟩
  | cons e l ih =>
    intro p h hp
    simp only [vE] at h
    split at h
    · omega
    · rename_i h1
      split at h
      · omega
      · rename_i h2
        have ht : ((e.t.toNat : Nat) : Int) = e.t := by omega
        have hi := ih (p := e.t.toNat) (by rw [ht]; exact h) (by omega)
        refine ⟨⟨?_, ?_, ?_, hi.1⟩, fun x hx => ?_⟩
        · show p ≤ e.f.toNat; omega
        · show e.f.toNat ≤ e.t.toNat; omega
        · show e.t.toNat ≤ n; omega
        · rcases List.mem_cons.1 hx with rfl | hx
          · omega
          · exact hi.2 x hx
/-- Valid edits have no error. -/
theorem vE_of_vld {n : Nat} (sb : ByteArray → List Int) : ∀ {l : List Er} {p : Nat}, (∀ e ∈ l, 0 ≤ e.f ∧ 0 ≤ e.t) → Vld n p (l.map (fun e => e.ee sb)) → vE (n : Int) (p : Int) l = 0 := by
  intro l
  induction l with
  | nil => intro p _ _; rfl
  | cons e l ih =>
    intro p hc h
    have h0 := hc e (by simp)
    obtain ⟨h1, h2, h3, h4⟩ := h
    have g1 : p ≤ e.f.toNat := h1
    have g2 : e.f.toNat ≤ e.t.toNat := h2
    have g3 : e.t.toNat ≤ n := h3
    have hi := ih (p := e.t.toNat) (fun x hx => hc x (by simp [hx])) h4
    rw [show ((e.t.toNat : Nat) : Int) = e.t by omega] at hi
    simp only [vE]
    rw [if_neg (by omega), if_neg (by omega)]
    exact hi

end Go.Proofs.YtgfhhpodcnohpaaDoor

/- Lists of edits by offsets in memory, and edits as they come in. It has no conditions. -/
namespace Go.Proofs.YtgfhhpodcnohpaaDoor
open Go.RowKit Go.Shelf
set_option linter.unusedVariables false


/-! Edits as they come in. -/
def Er.vals (e : Er) : List Value := [.int .i64 e.f, .int .i64 e.t, .string e.x]
structure Er.Fit (e : Er) : Prop where
  f1 : -9223372036854775808 ≤ e.f
  f2 : e.f ≤ 9223372036854775807
  t1 : -9223372036854775808 ≤ e.t
  t2 : e.t ≤ 9223372036854775807
  x : e.x.size ≤ 100000
def dE : Er := ⟨0, 0, ⟨#[]⟩⟩
def eg (es : List Er) (k : Nat) : Er := es[k]?.getD dE
theorem eg_eq {es : List Er} {k : Nat} (h : k < es.length) : es[k]? = some (eg es k) := by simp [eg, List.getElem?_eq_getElem h]
theorem eg_drop {es : List Er} {k : Nat} (h : k < es.length) : es.drop k = eg es k :: es.drop (k + 1) := by
  rw [List.drop_eq_getElem_cons h]; simp [eg, List.getElem?_eq_getElem h]
theorem eg_mem {es : List Er} {k : Nat} (h : k < es.length) : eg es k ∈ es := List.mem_of_getElem? (eg_eq h)
theorem eg_left {es ys : List Er} {k : Nat} (h : k < es.length) : eg (es ++ ys) k = eg es k := by simp [eg, List.getElem?_append_left h]
theorem take_eg {es : List Er} {k : Nat} (h : k < es.length) : es.take (k + 1) = es.take k ++ [eg es k] := by rw [List.take_add_one, eg_eq h]; rfl

/-- The cells of edits, one after the other. -/
def rv (es : List Er) : List Value := es.flatMap Er.vals
theorem rv_nil : rv [] = [] := rfl
theorem rv_cons (e : Er) (es : List Er) : rv (e :: es) = e.vals ++ rv es := rfl
theorem rv_add (a b : List Er) : rv (a ++ b) = rv a ++ rv b := by simp [rv]
theorem rv_snoc (a : List Er) (e : Er) : rv (a ++ [e]) = rv a ++ e.vals := by simp [rv]
theorem rv_len (es : List Er) : (rv es).length = es.length * 3 := by
  induction es with
  | nil => rfl
  | cons e es ih => rw [rv_cons, List.length_append, ih]; simp [Er.vals]; omega
theorem rv_get : ∀ (es : List Er) (k i : Nat), k < es.length → i < 3 → (rv es)[k * 3 + i]? = (eg es k).vals[i]? := by
  intro es
  induction es with
  | nil => intro k i h; simp at h
  | cons e es ih =>
    intro k i hk hi
    rw [rv_cons]
    cases k with
    | zero => rw [List.getElem?_append_left (by simp [Er.vals]; omega)]; simp [eg]
    | succ k =>
      rw [List.getElem?_append_right (by simp [Er.vals]; omega), show (k + 1) * 3 + i - e.vals.length = k * 3 + i by simp [Er.vals]; omega, ih k i (by simpa using hk) hi]
      simp [eg]

/-- The edits' cells lie in memory, below block B. -/
def RC (B : Nat) (w : World) (a : Option Addr) (es : List Er) : Prop :=
  es.length = 0 ∨ ∃ b off, a = some ⟨b, off, none⟩ ∧ b < B ∧ ∀ k, k < es.length → ∀ i, i < 3 → w.cell? ⟨b, off + k * 3 + i, none⟩ = (eg es k).vals[i]?
/-- A slice of edits lies in memory, below block B. -/
structure ES (B : Nat) (w : World) (a : Option Addr) (cap : Nat) (es : List Er) : Prop where
  le : es.length ≤ cap
  mx : cap ≤ 9223372036854775807
  nil : a = none → es.length = 0
  cells : RC B w a es
theorem ES.keep {B : Nat} {w w' : World} {a : Option Addr} {cap : Nat} {es : List Er} (h : ES B w a cap es) (hb : ∀ b, b < B → w'.heap[b]? = w.heap[b]?) : ES B w' a cap es := by
  refine ⟨h.le, h.mx, h.nil, ?_⟩
  rcases h.cells with h0 | ⟨b, off, ha, hlt, hc⟩
  · exact .inl h0
  · refine .inr ⟨b, off, ha, hlt, fun k hk i hi => ?_⟩
    rw [← hc k hk i hi]
    simp only [World.cell?, hb b hlt]
theorem ES.below {B : Nat} {w w' : World} {a : Option Addr} {cap : Nat} {es : List Er} (h : ES B w a cap es) (hb : Below B w w') : ES B w' a cap es := h.keep hb.block
theorem ES.mono {B B' : Nat} {w : World} {a : Option Addr} {cap : Nat} {es : List Er} (h : ES B w a cap es) (hb : B ≤ B') : ES B' w a cap es := by
  refine ⟨h.le, h.mx, h.nil, ?_⟩
  rcases h.cells with h0 | ⟨b, off, ha, hlt, hc⟩
  · exact .inl h0
  · exact .inr ⟨b, off, ha, by omega, hc⟩
theorem ES.on {w w' : World} {a : Option Addr} {cap : Nat} {es : List Er} (h : ES w.heap.size w a cap es) (hb : Below w.heap.size w w') : ES w'.heap.size w' a cap es := (h.below hb).mono hb.size
theorem ES.none (B : Nat) (w : World) : ES B w none 0 [] := ⟨by simp, by omega, fun _ => by simp, .inl rfl⟩
theorem RC.core {B : Nat} {w : World} {a : Option Addr} {es : List Er} (h : RC B w a es) :
    ∃ b off, (es.length = 0 ∨ (a = some ⟨b, off, none⟩ ∧ b < B)) ∧ ∀ k, k < es.length → ∀ W : World, W.heap[b]? = w.heap[b]? →
      W.cell? ⟨b, off + k * 3, none⟩ = some (.int .i64 (eg es k).f) ∧ W.cell? ⟨b, off + k * 3 + 1, none⟩ = some (.int .i64 (eg es k).t) ∧ W.cell? ⟨b, off + k * 3 + 2, none⟩ = some (.string (eg es k).x) := by
  rcases h with h0 | ⟨b, off, ha, hlt, hc⟩
  · exact ⟨0, 0, .inl h0, fun k hk => by omega⟩
  · refine ⟨b, off, .inr ⟨ha, hlt⟩, fun k hk W hW => ?_⟩
    have hh : ∀ i, i < 3 → W.cell? ⟨b, off + k * 3 + i, none⟩ = (eg es k).vals[i]? := by
      intro i hi; rw [← hc k hk i hi]; simp only [World.cell?, hW]
    exact ⟨hh 0 (by omega), hh 1 (by omega), hh 2 (by omega)⟩

theorem infoEd : (Tryd.prog.info? 55).map (fun i => (i.zero, i.size, i.bytes)) = some (some (.agg #[.int .i64 0, .int .i64 0, .string ⟨#[]⟩]), 3, 32) := by kernel_rfl
theorem es_of_own {w : World} {lo n : Nat} {v : Value} {es : List Er} (h : w.ownsRow lo 55 3 v n (rv es)) : n = es.length ∧ ∃ a cap, v = .slice a es.length cap ∧ ES w.heap.size w a cap es := by
  obtain ⟨a, cap, rfl⟩ := own_slice h
  have hn : n = es.length := by have := h.1; rw [rv_len] at this; omega
  subst hn
  refine ⟨rfl, a, cap, rfl, ?_⟩
  rcases h.2 with ⟨hv, h0⟩ | ⟨g, cp, cur, hv, _, hg, h1, h2, _, _⟩
  · simp only [Value.slice.injEq] at hv
    obtain ⟨rfl, _, rfl⟩ := hv
    exact ⟨by omega, by omega, fun _ => h0, .inl h0⟩
  · simp only [Value.slice.injEq, true_and] at hv
    obtain ⟨rfl, rfl⟩ := hv
    refine ⟨h1, by unfold maxLen at h2; omega, (fun h => by cases h), .inr ⟨g, 0, rfl, (Array.getElem?_eq_some_iff.1 hg).1, fun j hj i hi => ?_⟩⟩
    rw [Nat.zero_add, h.cellAt (j * 3 + i) (by omega)]
    exact rv_get es j i hj hi

/-- A call hands back a slice of these edits and an error. -/
def NewES (w : World) (es : List Er) (er : Int) (e : Ending) (w' : World) : Prop :=
  ∃ a cap, e = .returned (.tuple #[.slice a es.length cap, .int .i64 er]) ∧ ES w'.heap.size w' a cap es ∧ Below w.heap.size w w'
/-- A call hands back a slice of these edits. -/
def NewE1 (w : World) (es : List Er) (e : Ending) (w' : World) : Prop :=
  ∃ a cap, e = .returned (.slice a es.length cap) ∧ ES w'.heap.size w' a cap es ∧ Below w.heap.size w w'

/-! From edits as they come in to edits by offsets, and back. -/
def ees (es : List Er) : List Ee := es.map fun e => e.ee sb
def er (e : Ee) : Er := ⟨e.f, e.t, bs e.x⟩
def ers (l : List Ee) : List Er := l.map er
theorem ers_len (l : List Ee) : (ers l).length = l.length := by simp [ers]
theorem ees_len (l : List Er) : (ees l).length = l.length := by simp [ees]
theorem ees_ers {l : List Ee} (h : ∀ e ∈ l, Byt e.x) : ees (ers l) = l := by
  unfold ees ers
  rw [List.map_map]
  conv => rhs; rw [← List.map_id l]
  refine List.map_congr_left fun e he => ?_
  obtain ⟨f, t, x⟩ := e
  simp only [Function.comp, er, Er.ee, sb_bs (h _ he), Int.toNat_natCast, id]
theorem ees_cons (e : Er) (l : List Er) : ees (e :: l) = e.ee sb :: ees l := rfl
theorem ees_drop (es : List Er) (k : Nat) : ees (es.drop k) = (ees es).drop k := by simp [ees, List.map_drop]
theorem ees_byt (es : List Er) : ∀ e ∈ ees es, Byt e.x := by
  intro e he
  obtain ⟨x, _, rfl⟩ := List.mem_map.1 he
  exact sb_byt _
theorem vErr_ok {n : Nat} {es : List Er} (h : vErr (n : Int) es = 0) : es.length ≤ 64 ∧ Vld n 0 (ees es) ∧ ∀ e ∈ es, 0 ≤ e.f ∧ e.f ≤ e.t ∧ e.t ≤ (n : Int) := by
  unfold vErr at h
  split at h
  · omega
  · have := vE_ok sb (n := n) (p := 0) h (by omega)
    exact ⟨by omega, this.1, this.2⟩
theorem vErr_ways (n : Int) (es : List Er) : vErr n es = 0 ∨ vErr n es = 1 ∨ vErr n es = 4 ∨ vErr n es = 5 := by
  unfold vErr
  split
  · simp
  · rcases vE_ways n es 0 with h | h | h <;> simp [h]
theorem vErr_ers {n : Nat} {l : List Ee} (h : Vld n 0 l) (hl : l.length ≤ 64) (hb : ∀ e ∈ l, Byt e.x) : vErr (n : Int) (ers l) = 0 := by
  unfold vErr
  rw [if_neg (by rw [ers_len]; omega)]
  refine vE_of_vld sb (p := 0) (fun e he => ?_) ?_
  · obtain ⟨x, _, rfl⟩ := List.mem_map.1 he
    exact ⟨Int.natCast_nonneg _, Int.natCast_nonneg _⟩
  · rw [show (ers l).map (fun e => e.ee sb) = ees (ers l) from rfl, ees_ers hb]; exact h
theorem appl_byt {s : List Int} (hs : Byt s) : ∀ {l : List Ee} {p : Nat}, (∀ e ∈ l, Byt e.x) → Byt (appl s p l) := by
  intro l
  induction l with
  | nil => intro p _; exact hs.drop p
  | cons e l ih =>
    intro p h c hc
    simp only [appl, List.mem_append] at hc
    rcases hc with hc | hc | hc
    · exact (hs.drop p).take _ c hc
    · exact h e (by simp) c hc
    · exact ih (fun x hx => h x (by simp [hx])) c hc
/-- The new text, or the empty one if the edits are not valid. -/
def apS (s : ByteArray) (es : List Er) : ByteArray := if vErr (s.size : Int) es = 0 then bs (appl (sb s) 0 (ees es)) else ⟨#[]⟩
theorem apS_ok {s : ByteArray} {es : List Er} (h : vErr (s.size : Int) es = 0) : sb (apS s es) = appl (sb s) 0 (ees es) := by
  unfold apS
  rw [if_pos h, sb_bs (appl_byt (sb_byt s) (ees_byt es))]
theorem apS_bad {s : ByteArray} {es : List Er} (h : vErr (s.size : Int) es ≠ 0) : apS s es = ⟨#[]⟩ := by unfold apS; rw [if_neg h]

end Go.Proofs.YtgfhhpodcnohpaaDoor

/- The contracts of the program's validFor and Valid. Conditions: texts of at most 10000000 bytes, lists of at most 1000 edits of 64-bit numbers. -/
namespace Go.Proofs.YtgfhhpodcnohpaaDoor
open Go.RowKit Go.Shelf
set_option linter.unusedVariables false

set_option maxRecDepth 100000 in
set_option maxHeartbeats 1000000 in
theorem vfor_any (z : Int) (a : Option Addr) (cap : Nat) (es : List Er) (w : World) (hz : 0 ≤ z) (hz2 : z ≤ 9223372036854775807) (hn : es.length ≤ 1000) (hfit : ∀ e ∈ es, e.Fit) (hS : ES w.heap.size w a cap es) :
    Calls Tryd.prog 91 #[.int .i64 z, .slice a es.length cap] w fun e w' => e = .returned (.int .i64 (vErr z es)) ∧ Below w.heap.size w w' := by
  obtain ⟨n, hn'⟩ : ∃ n, es.length = n := ⟨_, rfl⟩
  obtain ⟨R, hR⟩ : ∃ R, vErr z es = R := ⟨_, rfl⟩
  have hcap := hS.le
  rw [hR]
  rw [hn'] at hn hcap ⊢
  obtain ⟨B, hB⟩ : ∃ B, w.heap.size = B := ⟨_, rfl⟩
  by_cases hlim : 64 < n
  · have hl2 : (64 : Int) < (n : Int) := by omega
    have hRv : R = 4 := by rw [← hR]; unfold vErr; rw [if_pos (by omega)]
    clear hS hfit hR
    go_enter Tryd.func91, Tryd.ntmps91
    go_wp2
    go_ret
    exact ⟨by first | rfl | (rw [hRv]; rfl), Below.refl _ _⟩
  · have hl2 : ¬ (64 : Int) < (n : Int) := by omega
    have hRv : vE z 0 es = R := by rw [← hR]; unfold vErr; rw [if_neg (by omega)]
    obtain ⟨b, off, hab, hcell⟩ := hS.cells.core
    rw [hn'] at hab hcell
    rw [hB] at hab
    have HE := Lib.hid hn'; have HAB := Lib.hid hab; have HC := Lib.hid hcell; have HB := Lib.hid hB; have HF := Lib.hid hfit
    have H0 : Hid (vE z 0 (es.drop 0) = R) := hRv
    clear hS hfit hR hRv hab hcell hB hn'
    go_enter Tryd.func91, Tryd.ntmps91
    go_wp2_with fail
    go_loopw [5, 13] (fun u q wr => ∃ (k : Nat) (p : Int), k ≤ n ∧ u = .int .i64 p ∧ q = .int .i64 (k : Int) ∧ Hid (vE z p (es.drop k) = R) ∧ Hid (Below B w wr)) (fun _ q _ => n - (intOf q).toNat)
    case atStart => exact ⟨0, 0, by omega, rfl, rfl, H0, Below.refl _ _⟩
    case round =>
      obtain ⟨k, p, hk, rfl, rfl, HI, HR⟩ := hrel
      by_cases hlt : k < n
      · obtain ⟨ha, hbB⟩ := HAB.out.resolve_left (by omega)
        subst ha
        obtain ⟨c0, c1, c2⟩ := HC.out k hlt wr (HR.out.block b hbB)
        have hkk : (k : Int) < (n : Int) := by omega
        have hBr : B ≤ wr.heap.size := by have := HR.out.size; have := HB.out; omega
        have hstep := HI.out
        rw [eg_drop (by rw [HE.out]; exact hlt)] at hstep
        simp only [vE] at hstep
        obtain ⟨fit1, fit2, fit3, fit4, _⟩ := HF.out _ (eg_mem (es := es) (k := k) (by rw [HE.out]; exact hlt))
        obtain ⟨x, hx⟩ : ∃ x, (eg es k).f = x := ⟨_, rfl⟩
        obtain ⟨y, hy⟩ : ∃ y, (eg es k).t = y := ⟨_, rfl⟩
        obtain ⟨s, hs⟩ : ∃ s, (eg es k).x = s := ⟨_, rfl⟩
        rw [hx, hy] at hstep
        rw [hx] at c0 fit1 fit2
        rw [hy] at c1 fit3 fit4
        rw [hs] at c2
        have HA := Lib.hid (HR.out.alloc hBr (.cells #[.int .i64 x, .int .i64 y, .string s] 55))
        by_cases h1 : x < 0
        · have hr : R = 5 := by rw [← hstep, if_pos (.inl h1)]
          clear hstep hx hy hs
          go_wp2
          go_ret
          exact ⟨by first | rfl | (rw [hr]; rfl), by rw [HB.out]; exact HA.out⟩
        · by_cases h2 : y < x
          · have hr : R = 5 := by rw [← hstep, if_pos (.inr (.inl h2))]
            clear hstep hx hy hs
            go_wp2
            go_ret
            exact ⟨by first | rfl | (rw [hr]; rfl), by rw [HB.out]; exact HA.out⟩
          · by_cases h3 : z < y
            · have hr : R = 5 := by rw [← hstep, if_pos (.inr (.inr h3))]
              clear hstep hx hy hs
              go_wp2
              go_ret
              exact ⟨by first | rfl | (rw [hr]; rfl), by rw [HB.out]; exact HA.out⟩
            · by_cases h4 : x < p
              · have hr : R = 1 := by rw [← hstep, if_neg (by omega), if_pos h4]
                clear hstep hx hy hs
                go_wp2
                go_ret
                exact ⟨by first | rfl | (rw [hr]; rfl), by rw [HB.out]; exact HA.out⟩
              · have HR2 : Hid (vE z y (es.drop (k + 1)) = R) := by rw [← hstep, if_neg (by omega), if_neg h4]; exact rfl
                clear hstep hx hy hs
                go_wp2
                go_roundw
                case rel => exact ⟨k + 1, y, by omega, rfl, by go_num, HR2, HA.out⟩
                case measure => simp [intOf]; omega
      · obtain rfl : n = k := by omega
        have hr : R = 0 := by rw [← HI.out, List.drop_eq_nil_of_le (by rw [HE.out]; omega)]; rfl
        go_wp2
        go_ret
        exact ⟨by first | rfl | (rw [hr]; rfl), by rw [HB.out]; exact HR.out⟩

set_option maxRecDepth 100000 in
theorem pvalid_any (s : ByteArray) (a : Option Addr) (cap : Nat) (es : List Er) (w : World) (hs : s.size ≤ 10000000) (hn : es.length ≤ 1000) (hfit : ∀ e ∈ es, e.Fit) (hS : ES w.heap.size w a cap es) :
    Calls Tryd.prog 63 #[.string s, .slice a es.length cap] w fun e w' => e = .returned (.int .i64 (vErr (s.size : Int) es)) ∧ Below w.heap.size w w' := by
  have C := Lib.hid (vfor_any (s.size : Int) a cap es w (by omega) (by omega) hn hfit hS)
  clear hS hfit
  go_enter Tryd.func63, Tryd.ntmps63
  go_wp2_with fail
  refine C.out.mono ?_
  rintro e w2 ⟨rfl, hb⟩
  go_wp2
  go_ret
  exact ⟨rfl, hb⟩

end Go.Proofs.YtgfhhpodcnohpaaDoor

/- The parts of a new text, and the contracts of end and parts. It has no conditions. -/
namespace Go.Proofs.YtgfhhpodcnohpaaDoor
open Go.RowKit Go.Shelf
set_option linter.unusedVariables false

/-- A part of a new text. -/
structure Pc where
  f : Int
  t : Int
  q : Int
  x : ByteArray
  k : Bool
def Pc.val (p : Pc) : Value := .agg #[.int .i64 p.f, .int .i64 p.t, .int .i64 p.q, .string p.x, .bool p.k]
def dP : Pc := ⟨0, 0, 0, ⟨#[]⟩, false⟩
def Pc.cells (p : Pc) : Array Value := #[.int .i64 p.f, .int .i64 p.t, .int .i64 p.q, .string p.x, .bool p.k]
/-- The parts of the new text, from offset f of the old one and q of the new one on. -/
def prl (s : ByteArray) (f q : Nat) : List Er → List Pc
  | [] => [⟨f, s.size, q, s.extract f s.size, true⟩]
  | e :: l => ⟨f, e.f, q, s.extract f e.f.toNat, true⟩ :: ⟨e.f, e.t, (q : Int) + (e.f - f), e.x, false⟩ :: prl s e.t.toNat (q + (e.f.toNat - f) + e.x.size) l
theorem prl_len (s : ByteArray) : ∀ (l : List Er) (f q : Nat), (prl s f q l).length = 2 * l.length + 1 := by
  intro l
  induction l with
  | nil => intro f q; rfl
  | cons e l ih => intro f q; simp only [prl, List.length_cons, ih]; omega
def pg (l : List Pc) (k : Nat) : Pc := l[k]?.getD dP
theorem pg_drop {l m : List Pc} {j : Nat} {p : Pc} (h : l.drop j = p :: m) : pg l j = p := by
  have : (l.drop j)[0]? = some p := by rw [h]; rfl
  rw [List.getElem?_drop, Nat.add_zero] at this
  simp [pg, this]
theorem drop_up {α : Type} {l m : List α} {j : Nat} {p : α} (h : l.drop j = p :: m) : l.drop (j + 1) = m := by
  rw [← List.drop_drop, h]; rfl

set_option maxRecDepth 100000 in
theorem end_any (p : Pc) (w : World) (h1 : -9223372036854775808 ≤ p.q + p.x.size) (h2 : p.q + p.x.size ≤ 9223372036854775807) :
    Calls Tryd.prog 93 #[p.val] w fun e w' => e = .returned (.int .i64 (p.q + p.x.size)) ∧ Below w.heap.size w w' := by
  obtain ⟨f, t, q, x, k⟩ := p
  simp only [Pc.val] at h1 h2 ⊢
  have H := Lib.hid ((Below.refl w.heap.size w).alloc (Nat.le_refl _) (.cells #[.int .i64 f, .int .i64 t, .int .i64 q, .string x, .bool k] 99))
  go_enter Tryd.func93, Tryd.ntmps93
  go_wp2
  go_ret
  exact ⟨rfl, H.out⟩

theorem parts_any (s : ByteArray) (a : Option Addr) (n cap : Nat) (w : World) :
    Calls Tryd.prog 64 #[.string s, .slice a n cap] w fun e w' =>
      e = .returned (.func (.func 92) #[] #[.pointer (some ⟨w.heap.size + 1, 0, none⟩), .pointer (some ⟨w.heap.size, 0, none⟩)]) ∧ w' = (w.alloc (.cells #[.string s] 9)).alloc (.cells #[.slice a n cap] 56) := by
  go_enter Tryd.func64, Tryd.ntmps64
  go_wp2
  go_ret
  exact ⟨rfl, rfl⟩

end Go.Proofs.YtgfhhpodcnohpaaDoor

/- The contract of the iterator that parts returns. Conditions: a valid list of at most 64 edits for a text of at most 10000000 bytes. -/
namespace Go.Proofs.YtgfhhpodcnohpaaDoor
open Go.RowKit Go.Shelf
set_option linter.unusedVariables false
attribute [local go_sem] Oper.semAt_some

set_option maxRecDepth 100000 in
set_option maxHeartbeats 1000000 in
theorem part_giv (s : ByteArray) (bl bs : Nat) (a : Option Addr) (cap : Nat) (es : List Er) (w : World) (hs : s.size ≤ 10000000) (hv : vErr (s.size : Int) es = 0) (hfit : ∀ e ∈ es, e.x.size ≤ 100000)
    (hbl : Boxed w bl 56 (.slice a es.length cap)) (hbs : Boxed w bs 9 (.string s)) (hS : ES w.heap.size w a cap es) :
    Giv Tryd.prog 92 #[.pointer (some ⟨bl, 0, none⟩), .pointer (some ⟨bs, 0, none⟩)] (fun k => #[(pg (prl s 0 0 es) k).val]) (2 * es.length + 1) (fun k => k = bs ∨ 0 < es.length ∧ ∃ off, a = some ⟨k, off, none⟩) w := by
  intro l J T₀ W hW hR hB hO hY h0
  obtain ⟨n, hn⟩ : ∃ n, es.length = n := ⟨_, rfl⟩
  obtain ⟨hlim, hvld, hbd⟩ := vErr_ok hv
  have hbl0 : Boxed W bl 56 (.slice a es.length cap) := (hW.block bl hbl.lt).trans hbl
  have hbl1 := hbl0.cell
  dsimp only at hY hR
  have hbs1 : Boxed W bs 9 (.string s) := (hW.block bs hbs.lt).trans hbs
  have hlbs := hbs1.lt
  have hsz := hW.size
  have HV0 : Hid (vE (s.size : Int) ((0 : Nat) : Int) (es.drop 0) = 0) := by
    have := hv
    unfold vErr at this
    rw [if_neg (by omega)] at this
    exact this
  have HP0s : Hid (prl s 0 0 (es.drop 0) = (prl s 0 0 es).drop (2 * 0)) := rfl
  obtain ⟨b, off, hab, hcell⟩ := (hS.on hW).cells.core
  rw [hn] at hbl1 hab hcell hlim hY hR ⊢
  have HN := Lib.hid hn; have HAB := Lib.hid hab; have HC := Lib.hid hcell; have HR := Lib.hid hR; have HB := Lib.hid hB; have HO := Lib.hid hO; have HY := Lib.hid hY; have HD := Lib.hid hbd; have HF := Lib.hid hfit; have HBS := Lib.hid hbs1
  have hcap := hS.le
  rw [hn] at hcap
  have HX : Hid (hbs1.lt = hbs1.lt) := rfl
  clear hv hvld hab hcell hR hB hO hY hbd hfit hS hbl hbs hbs1 hbl0 hn HX
  refine callsIn_of_wp Tryd.func92 rfl trivial ?_ rfl
  simp only [Tryd.ntmps92, List.size_toArray, List.length_cons, List.length_nil, Nat.reduceAdd, Nat.reduceSub, Array.replicate_succ, Array.replicate_zero, List.push_toArray, List.append_toArray, List.nil_append, List.cons_append]
  gi_wp2
  gi_loopw [4, 5, 12] (fun u v i wr => ∃ (k f q : Nat) (T : Nat → Prop), k ≤ n ∧ u = .int .i64 (f : Int) ∧ v = .int .i64 (q : Int) ∧ i = .int .i64 (k : Int) ∧ f ≤ s.size ∧ q ≤ f + 100000 * k ∧
      Hid (prl s f q (es.drop k) = (prl s 0 0 es).drop (2 * k)) ∧ Hid (vE (s.size : Int) (f : Int) (es.drop k) = 0) ∧ Hid (J (2 * k) T wr) ∧ Hid (Rnd T₀ T W wr)) (fun _ _ i _ => n - (intOf i).toNat)
  case atStart => exact ⟨0, 0, 0, T₀, by omega, rfl, rfl, rfl, by omega, by omega, HP0s, HV0, h0, Rnd.refl _ _⟩
  case round =>
    obtain ⟨k, f, q, T, hk, rfl, rfl, rfl, hf, hq, HP, HV, HJ, HRn⟩ := hrel
    by_cases hlt : k < n
    · obtain ⟨ha, hbB⟩ := HAB.out.resolve_left (by omega)
      subst ha
      have hkl : k < es.length := by rw [HN.out]; exact hlt
      have hstep := HV.out
      have hpp := HP.out
      rw [eg_drop hkl] at hstep hpp
      obtain ⟨hd0, hd1, hd2⟩ := HD.out _ (eg_mem hkl)
      have hxl := HF.out _ (eg_mem hkl)
      obtain ⟨x, hx⟩ : ∃ x : Nat, (eg es k).f = (x : Int) := ⟨(eg es k).f.toNat, by omega⟩
      obtain ⟨y, hy⟩ : ∃ y : Nat, (eg es k).t = (y : Int) := ⟨(eg es k).t.toNat, by omega⟩
      obtain ⟨z, hz⟩ : ∃ z, (eg es k).x = z := ⟨_, rfl⟩
      simp only [vE] at hstep
      simp only [prl] at hpp
      rw [hx, hy, hz] at hpp
      rw [hx, hy] at hstep
      rw [hx] at hd0 hd1
      rw [hy] at hd1 hd2
      simp only [Int.toNat_natCast] at hpp
      rw [hz] at hxl
      rw [if_neg (by omega)] at hstep
      by_cases hfx : (x : Int) < (f : Int)
      · rw [if_pos hfx] at hstep; omega
      rw [if_neg hfx] at hstep
      have hxy : x ≤ y := by omega
      have hys : y ≤ s.size := by omega
      have hfx2 : f ≤ x := by omega
      have hp1 := pg_drop hpp.symm
      have hp2 := pg_drop (drop_up hpp.symm)
      have HPn : Hid (prl s y (q + (x - f) + z.size) (es.drop (k + 1)) = (prl s 0 0 es).drop (2 * (k + 1))) := (drop_up (drop_up hpp.symm)).symm
      have HVn : Hid (vE (s.size : Int) (y : Int) (es.drop (k + 1)) = 0) := hstep
      have hwb : wr.heap[b]? = W.heap[b]? := HRn.out.block b hbB (HR.out b (.inr ⟨by omega, off, rfl⟩))
      have hwbs : wr.heap[bs]? = W.heap[bs]? := HRn.out.block bs hlbs (HR.out bs (.inl rfl))
      obtain ⟨c0, c1, c2⟩ := HC.out k hlt wr hwb
      rw [hx] at c0
      rw [hy] at c1
      rw [hz] at c2
      have hcs : Boxed wr bs 9 (.string s) := hwbs.trans HBS.out
      have cs0 := ((hcs.alloc (.cells #[.int .i64 (x : Int), .int .i64 (y : Int), .string z] 55)).alloc (.cells #[.int .i64 0, .int .i64 0, .int .i64 0, .string ⟨#[]⟩, .bool false] 99)).cell
      have cs1 := (hcs.alloc (.cells #[.int .i64 (x : Int), .int .i64 (y : Int), .string z] 55)).cell
      have hkk : (k : Int) < (n : Int) := by omega
      have hBr : W.heap.size ≤ wr.heap.size := HRn.out.size
      have h1 := Lib.hid hp1; have h2 := Lib.hid hp2; have h3 := Lib.hid hwb; have h4 := Lib.hid hwbs
      clear hstep hpp hp1 hp2 hwb hwbs hx hy hz hcs
      gi_wp2
      gi_region
      obtain ⟨p0, hp0⟩ : ∃ p, wr.heap.size = p := ⟨_, rfl⟩
      obtain ⟨x1, hx1⟩ : ∃ r, s.extract f x = r := ⟨_, rfl⟩
      have hx1s : x1.size = x - f := by rw [← hx1, ByteArray.size_extract]; omega
      obtain ⟨W2, hW2⟩ : ∃ W2, ((wr.alloc (.cells #[.int .i64 (x : Int), .int .i64 (y : Int), .string z] 55)).alloc (.cells #[.int .i64 (f : Int), .int .i64 (x : Int), .int .i64 (q : Int), .string x1, .bool true] 99)).drew = W2 := ⟨_, rfl⟩
      rw [hx1, hW2, hp0]
      rw [hp0] at hBr
      have bE : Blk W2 p0 55 #[.int .i64 (x : Int), .int .i64 (y : Int), .string z] := by
        rw [← hW2, ← hp0]; exact (Blk.new wr _ _).alloc _
      have bP : Blk W2 (p0 + 1) 99 #[.int .i64 (f : Int), .int .i64 (x : Int), .int .i64 (q : Int), .string x1, .bool true] := by
        rw [← hW2, ← hp0]
        have := Blk.new (wr.alloc (.cells #[.int .i64 (x : Int), .int .i64 (y : Int), .string z] 55)) 99 #[.int .i64 (f : Int), .int .i64 (x : Int), .int .i64 (q : Int), .string x1, .bool true]
        rw [World.size_alloc] at this
        exact this
      have s2 : W2.heap.size = p0 + 2 := by rw [← hW2, ← hp0]; show (World.alloc (World.alloc wr _) _).heap.size = _; simp
      have b2 : Below p0 wr W2 := by rw [← hW2, ← hp0]; exact (((Below.refl _ _).alloc (Nat.le_refl _) _).alloc (by simp) _).drew
      have C := Lib.hid (fun W => end_any ⟨f, x, q, x1, true⟩ W (by show -9223372036854775808 ≤ (q : Int) + (x1.size : Int); omega) (by show (q : Int) + (x1.size : Int) ≤ 9223372036854775807; omega))
      simp only [Pc.val] at C
      obtain ⟨S, hSd⟩ : ∃ S : World → Prop, (fun w' => w'.cell? ⟨p0, 0, none⟩ = some (.int .i64 (x : Int)) ∧ w'.cell? ⟨p0, 1, none⟩ = some (.int .i64 (y : Int)) ∧ w'.cell? ⟨p0, 2, none⟩ = some (.string z) ∧ w'.cell? ⟨p0 + 1, 0, none⟩ = some (.int .i64 (f : Int)) ∧ w'.cell? ⟨p0 + 1, 1, none⟩ = some (.int .i64 (x : Int)) ∧ w'.cell? ⟨p0 + 1, 2, none⟩ = some (.int .i64 (q : Int)) ∧ w'.cell? ⟨p0 + 1, 3, none⟩ = some (.string x1) ∧ w'.cell? ⟨p0 + 1, 4, none⟩ = some (.bool true) ∧ p0 + 2 ≤ w'.heap.size) = S := ⟨_, rfl⟩
      have hSe : ∀ w', S w' ↔ (w'.cell? ⟨p0, 0, none⟩ = some (.int .i64 (x : Int)) ∧ w'.cell? ⟨p0, 1, none⟩ = some (.int .i64 (y : Int)) ∧ w'.cell? ⟨p0, 2, none⟩ = some (.string z) ∧ w'.cell? ⟨p0 + 1, 0, none⟩ = some (.int .i64 (f : Int)) ∧ w'.cell? ⟨p0 + 1, 1, none⟩ = some (.int .i64 (x : Int)) ∧ w'.cell? ⟨p0 + 1, 2, none⟩ = some (.int .i64 (q : Int)) ∧ w'.cell? ⟨p0 + 1, 3, none⟩ = some (.string x1) ∧ w'.cell? ⟨p0 + 1, 4, none⟩ = some (.bool true) ∧ p0 + 2 ≤ w'.heap.size) := fun w' => by rw [← hSd]
      have s0 : S W2.drew := by
        rw [hSe]
        exact ⟨by simpa using bE.cell 0, by simpa using bE.cell 1, by simpa using bE.cell 2, by simpa using bP.cell 0, by simpa using bP.cell 1, by simpa using bP.cell 2, by simpa using bP.cell 3, by simpa using bP.cell 4, by show p0 + 2 ≤ W2.heap.size; omega⟩
      have KC : ∀ w1 w', S w1 → Below w1.heap.size w1 w' → S w' := by
        intro w1 w' h hb
        rw [hSe] at h ⊢
        obtain ⟨g0, g1, g2, g3, g4, g5, g6, g7, g8⟩ := h
        have hh : ∀ b i, b < p0 + 2 → w'.cell? ⟨b, i, none⟩ = w1.cell? ⟨b, i, none⟩ := fun b i hb2 => hb.cell (p := ⟨b, i, none⟩) (by show b < w1.heap.size; omega)
        refine ⟨(hh _ _ (by omega)).trans g0, (hh _ _ (by omega)).trans g1, (hh _ _ (by omega)).trans g2, (hh _ _ (by omega)).trans g3, (hh _ _ (by omega)).trans g4, (hh _ _ (by omega)).trans g5, (hh _ _ (by omega)).trans g6, (hh _ _ (by omega)).trans g7, by have := hb.size; omega⟩
      have KA : ∀ w1 o, S w1 → S (w1.alloc o) := fun w1 o h => KC _ _ h ((Below.refl _ _).alloc (Nat.le_refl _) _)
      have KS : ∀ w1 B v0 v1 v2 v3 v4, S w1 → p0 + 2 ≤ B → S (((((w1.setCell ⟨B, 0, none⟩ v0).setCell ⟨B, 1, none⟩ v1).setCell ⟨B, 2, none⟩ v2).setCell ⟨B, 3, none⟩ v3).setCell ⟨B, 4, none⟩ v4) := by
        intro w1 B v0 v1 v2 v3 v4 h hB
        have hb : Below (p0 + 2) w1 (((((w1.setCell ⟨B, 0, none⟩ v0).setCell ⟨B, 1, none⟩ v1).setCell ⟨B, 2, none⟩ v2).setCell ⟨B, 3, none⟩ v3).setCell ⟨B, 4, none⟩ v4) :=
          (((((Below.refl _ _).setCell (p := ⟨B, 0, none⟩) hB _).setCell (p := ⟨B, 1, none⟩) hB _).setCell (p := ⟨B, 2, none⟩) hB _).setCell (p := ⟨B, 3, none⟩) hB _).setCell (p := ⟨B, 4, none⟩) hB _
        rw [hSe] at h ⊢
        obtain ⟨g0, g1, g2, g3, g4, g5, g6, g7, g8⟩ := h
        have hh : ∀ b i, b < p0 + 2 → World.cell? (((((w1.setCell ⟨B, 0, none⟩ v0).setCell ⟨B, 1, none⟩ v1).setCell ⟨B, 2, none⟩ v2).setCell ⟨B, 3, none⟩ v3).setCell ⟨B, 4, none⟩ v4) ⟨b, i, none⟩ = w1.cell? ⟨b, i, none⟩ := fun b i hb2 => hb.cell (p := ⟨b, i, none⟩) hb2
        refine ⟨(hh _ _ (by omega)).trans g0, (hh _ _ (by omega)).trans g1, (hh _ _ (by omega)).trans g2, (hh _ _ (by omega)).trans g3, (hh _ _ (by omega)).trans g4, (hh _ _ (by omega)).trans g5, (hh _ _ (by omega)).trans g6, (hh _ _ (by omega)).trans g7, by have := hb.size; omega⟩
      have HKS := Lib.hid KS
      clear KS
      have HB2s : p0 + 2 ≤ W2.heap.size := by omega
      obtain ⟨k0, k1, k2, k3, k4, k5, k6, k7, _⟩ := (hSe _).1 s0
      have HK := Lib.hid KC; have HKA := Lib.hid KA; have HSE := Lib.hid hSe; have HE := Lib.hid bE; have HPp := Lib.hid bP; have HS2 := Lib.hid s2; have HB2 := Lib.hid b2; have HX1 := Lib.hid hx1; have HXS := Lib.hid hx1s; have HP0 := Lib.hid hp0; have S0 := Lib.hid s0
      clear KC KA hSe hSd bE bP s2 b2 hx1 hx1s hp0 hW2 cs0 cs1 c0 c1 c2 s0
      have KZ : ∀ wa, Below (W2.drew.alloc (.cells #[.int .i64 0, .int .i64 0, .int .i64 0, .string ⟨#[]⟩, .bool false] 99)).heap.size (W2.drew.alloc (.cells #[.int .i64 0, .int .i64 0, .int .i64 0, .string ⟨#[]⟩, .bool false] 99)) wa → Blk wa W2.heap.size 99 #[.int .i64 0, .int .i64 0, .int .i64 0, .string ⟨#[]⟩, .bool false] := by
        intro wa hb
        refine Blk.same ?_ (hb.block _ (by rw [World.size_alloc]; exact Nat.lt_succ_self _))
        exact Blk.new W2.drew _ _
      have S1 : Hid (S (W2.alloc (.cells #[.int .i64 0, .int .i64 0, .int .i64 0, .string ⟨#[]⟩, .bool false] 99)).drew) := HKA.out W2.drew _ S0.out
      have HKZ := Lib.hid KZ
      clear KZ
      have hmx : Tryd.prog.follows .mixedOrders = true := by kernel_rfl
      gi_wp2
      refine wpIn_wide.2 ?_
      go_region_held3 (fun w' => w'.cell? ⟨p0, 0, none⟩ = some (.int .i64 (x : Int)) ∧ w'.cell? ⟨p0, 1, none⟩ = some (.int .i64 (y : Int)) ∧ w'.cell? ⟨p0, 2, none⟩ = some (.string z) ∧ w'.cell? ⟨p0 + 1, 0, none⟩ = some (.int .i64 (f : Int)) ∧ w'.cell? ⟨p0 + 1, 1, none⟩ = some (.int .i64 (x : Int)) ∧ w'.cell? ⟨p0 + 1, 2, none⟩ = some (.int .i64 (q : Int)) ∧ w'.cell? ⟨p0 + 1, 3, none⟩ = some (.string x1) ∧ w'.cell? ⟨p0 + 1, 4, none⟩ = some (.bool true) ∧ p0 + 2 ≤ w'.heap.size) (first | with_reducible exact (HSE.out _).1 S0.out | with_reducible exact (HSE.out _).1 sA | with_reducible exact (HSE.out _).1 (HKA.out _ _ sA) | with_reducible exact (HSE.out _).1 (HKA.out _ _ S0.out) | with_reducible exact (HSE.out _).1 (HKS.out _ _ _ _ _ _ _ sA HB2s) | with_reducible exact (HSE.out _).1 (HKS.out _ _ _ _ _ _ _ (HKA.out _ _ sA) (((HSE.out _).1 sA).2.2.2.2.2.2.2.2)) | with_reducible exact (HSE.out _).1 S1.out)
        (first | (go_at_call 93; refine (C.out _).mono ?_; rintro e wA ⟨rfl, bA⟩; have zA : Blk wA W2.heap.size 99 #[.int .i64 0, .int .i64 0, .int .i64 0, .string ⟨#[]⟩, .bool false] := (HKZ.out _ bA); have sA := HK.out _ _ (HKA.out _ _ S0.out) bA; have z0 := zA.cell 0; have z1 := zA.cell 1; have z2 := zA.cell 2; have z3 := zA.cell 3; have z4 := zA.cell 4; have y0 := zA.frozen 0; have y1 := zA.frozen 1; have y2 := zA.frozen 2; have y3 := zA.frozen 3; have y4 := zA.frozen 4; simp only [List.getElem?_toArray, List.getElem?_cons_zero, List.getElem?_cons_succ] at z0 z1 z2 z3 z4)
               | (go_at_call 93; refine (C.out _).mono ?_; rintro e wA ⟨rfl, bA⟩; have sA := HK.out _ _ S0.out bA))
      all_goals
        first
        | (have b1 := ((((zA.set 0 (.int .i64 (x : Int))).set 1 (.int .i64 (y : Int))).set 2 (.int .i64 ((q : Int) + (x1.size : Int)))).set 3 (.string z)).set 4 (.bool false)
           have bA2 : Below (p0 + 2) W2 wA := (((Below.refl _ W2).drew.alloc HB2s _)).trans (bA.mono (Nat.le_trans HB2s (by show W2.heap.size ≤ (World.alloc W2 _).heap.size; rw [World.size_alloc]; exact Nat.le_succ _)))
           have F0 := And.intro b1 (And.intro (HKS.out wA W2.heap.size (.int .i64 (x : Int)) (.int .i64 (y : Int)) (.int .i64 ((q : Int) + (x1.size : Int))) (.string z) (.bool false) sA HB2s) (And.intro (((((bA2.setCell (p := ⟨W2.heap.size, 0, none⟩) HB2s (.int .i64 (x : Int))).setCell (p := ⟨W2.heap.size, 1, none⟩) HB2s (.int .i64 (y : Int))).setCell (p := ⟨W2.heap.size, 2, none⟩) HB2s (.int .i64 ((q : Int) + (x1.size : Int)))).setCell (p := ⟨W2.heap.size, 3, none⟩) HB2s (.string z)).setCell (p := ⟨W2.heap.size, 4, none⟩) HB2s (.bool false)) HB2s))
           obtain ⟨W3, hW3⟩ : ∃ W3, (((((wA.setCell ⟨W2.heap.size, 0, none⟩ (.int .i64 (x : Int))).setCell ⟨W2.heap.size, 1, none⟩ (.int .i64 (y : Int))).setCell ⟨W2.heap.size, 2, none⟩ (.int .i64 ((q : Int) + (x1.size : Int)))).setCell ⟨W2.heap.size, 3, none⟩ (.string z)).setCell ⟨W2.heap.size, 4, none⟩ (.bool false)) = W3 := ⟨_, rfl⟩
           obtain ⟨B3, hB3⟩ : ∃ B3, W2.heap.size = B3 := ⟨_, rfl⟩
           rw [hW3, hB3] at F0
           rw [hW3, hB3]
           have F3 : Hid (Blk W3 B3 99 #[.int .i64 (x : Int), .int .i64 (y : Int), .int .i64 ((q : Int) + (x1.size : Int)), .string z, .bool false] ∧ S W3 ∧ Below (p0 + 2) W2 W3 ∧ p0 + 2 ≤ B3) := F0
           clear F0 b1 hW3 hB3 z0 z1 z2 z3 z4 y0 y1 y2 y3 y4 zA)
        | (have bA2 : Below (p0 + 2) W2 wA := (Below.refl _ W2).drew.trans (bA.mono (by show p0 + 2 ≤ W2.heap.size; omega))
           have hA := bA2.size
           have F0 := And.intro (Blk.new wA 99 #[.int .i64 (x : Int), .int .i64 (y : Int), .int .i64 ((q : Int) + (x1.size : Int)), .string z, .bool false]) (And.intro (HKA.out wA (.cells #[.int .i64 (x : Int), .int .i64 (y : Int), .int .i64 ((q : Int) + (x1.size : Int)), .string z, .bool false] 99) sA) (And.intro (bA2.alloc (by omega) (.cells #[.int .i64 (x : Int), .int .i64 (y : Int), .int .i64 ((q : Int) + (x1.size : Int)), .string z, .bool false] 99)) (show p0 + 2 ≤ wA.heap.size by omega)))
           obtain ⟨W3, hW3⟩ : ∃ W3, wA.alloc (.cells #[.int .i64 (x : Int), .int .i64 (y : Int), .int .i64 ((q : Int) + (x1.size : Int)), .string z, .bool false] 99) = W3 := ⟨_, rfl⟩
           obtain ⟨B3, hB3⟩ : ∃ B3, wA.heap.size = B3 := ⟨_, rfl⟩
           rw [hW3, hB3] at F0
           rw [hW3, hB3]
           have F3 : Hid (Blk W3 B3 99 #[.int .i64 (x : Int), .int .i64 (y : Int), .int .i64 ((q : Int) + (x1.size : Int)), .string z, .bool false] ∧ S W3 ∧ Below (p0 + 2) W2 W3 ∧ p0 + 2 ≤ B3) := F0
           clear F0 hW3 hB3 hA)
        clear HKS HKZ S1 bA2 bA sA k0 k1 k2 k3 k4 k5 k6 k7
        obtain ⟨bB, bS, b3, hB3⟩ := F3.out
        obtain ⟨g0, g1, g2, g3, g4, g5, g6, g7, g8⟩ := (HSE.out _).1 bS
        have hb3 : Below p0 wr W3 := HB2.out.trans (b3.mono (by omega))
        have hTl : ∀ j, T j → j < p0 := fun j hj => by rw [← HP0.out]; exact HB.out _ _ _ HJ.out j hj
        have hJ3 : J (2 * k) T W3 := HO.out _ _ _ _ HJ.out (Oth.of_below (by rw [HP0.out]; exact hb3))
        have hY1 := HY.out (2 * k) T W3 (by omega) (by have := hb3.size; have := HP0.out; omega) hJ3
        rw [h1.out, HX1.out] at hY1
        obtain ⟨fn, tmps, assign, body, hy, hR1⟩ := hY1
        simp only [Pc.val] at hy
        have HR1 := Lib.hid hR1
        have HB3 := Lib.hid hb3; have HTl := Lib.hid hTl; have HbB := Lib.hid bB; have HbS := Lib.hid bS
        clear hR1 hb3 hTl hJ3 bB bS b3
        gi_wp2
        refine ⟨rfl, HR1.out.mono ?_⟩
        rintro e W4 ⟨rfl, T4, hJ4, hr4⟩
        have hp0l : p0 < W3.heap.size := by have := HbB.out.lt; omega
        have hT3 : ∀ j, p0 ≤ j → ¬ T j := fun j hj h => by have := HTl.out j h; omega
        have hb4 : Blk W4 B3 99 #[.int .i64 (x : Int), .int .i64 (y : Int), .int .i64 ((q : Int) + (x1.size : Int)), .string z, .bool false] := HbB.out.same (hr4.block B3 HbB.out.lt (hT3 _ (by omega)))
        have hpp4 : W4.heap[p0]? = W3.heap[p0]? := hr4.block p0 hp0l (hT3 _ (Nat.le_refl _))
        have m0 := hb4.cell 0; have m1 := hb4.cell 1; have m2 := hb4.cell 2; have m3 := hb4.cell 3; have m4 := hb4.cell 4
        simp only [List.getElem?_toArray, List.getElem?_cons_zero, List.getElem?_cons_succ] at m0 m1 m2 m3 m4
        have hT4 : ∀ j, p0 ≤ j → j < W3.heap.size → ¬ T4 j := fun j h1 h2 h => (hr4.grew j h).elim (hT3 j h1) (fun e => by omega)
        have hrn4 : Rnd T₀ T4 W W4 := (HRn.out.trans (Rnd.of_below (by rw [HP0.out]; exact HB3.out))).trans hr4
        have hY2 := HY.out (2 * k + 1) T4 W4 (by omega) hrn4.size hJ4
        rw [h2.out] at hY2
        obtain ⟨fn2, tmps2, assign2, body2, hy2, hR2⟩ := hY2
        have hq1 : (q : Int) + ((x : Int) - (f : Int)) = (q : Int) + (x1.size : Int) := by rw [HXS.out]; omega
        simp only [Pc.val, hq1] at hy2
        have HR2 := Lib.hid hR2
        have HRn4 := Lib.hid hrn4; have Hb4 := Lib.hid hb4; have Hpp4 := Lib.hid hpp4; have HT4 := Lib.hid hT4; have HT3 := Lib.hid hT3
        have hW3s := hr4.size
        clear hR2 hrn4 hb4 hpp4 hT4 hT3 hJ4 hr4 hy HR1 g0 g1 g2 g3 g4 g5 g6 g7
        gi_wp2
        refine ⟨rfl, HR2.out.mono ?_⟩
        rintro e W5 ⟨rfl, T5, hJ5, hr5⟩
        have hb5 : Blk W5 B3 99 #[.int .i64 (x : Int), .int .i64 (y : Int), .int .i64 ((q : Int) + (x1.size : Int)), .string z, .bool false] := Hb4.out.same (hr5.block B3 Hb4.out.lt (HT4.out _ (by omega) HbB.out.lt))
        have hpp5 : W5.heap[p0]? = W3.heap[p0]? := (hr5.block p0 (by omega) (HT4.out _ (Nat.le_refl _) hp0l)).trans Hpp4.out
        have hrn5 : Rnd T₀ T5 W W5 := HRn4.out.trans hr5
        clear m0 m1 m2 m3 m4
        have KF : ∀ w', Below W5.heap.size W5 w' → w'.cell? ⟨p0, 1, none⟩ = some (.int .i64 (y : Int)) ∧ w'.cell? ⟨B3, 0, none⟩ = some (.int .i64 (x : Int)) ∧ w'.cell? ⟨B3, 1, none⟩ = some (.int .i64 (y : Int)) ∧ w'.cell? ⟨B3, 2, none⟩ = some (.int .i64 ((q : Int) + (x1.size : Int))) ∧ w'.cell? ⟨B3, 3, none⟩ = some (.string z) ∧ w'.cell? ⟨B3, 4, none⟩ = some (.bool false) := by
          intro w' hb
          have e2 := hb5.same (hb.block B3 hb5.lt)
          have e1 : W5.heap[p0]? = W3.heap[p0]? := hpp5
          have hlp : p0 < W5.heap.size := by have := hr5.size; omega
          have e3 : w'.cell? ⟨p0, 1, none⟩ = some (.int .i64 (y : Int)) := by
            rw [hb.cell (p := ⟨p0, 1, none⟩) hlp, World.cell?_of_block (w := W3) (w' := W5) (a := ⟨p0, 1, none⟩) e1]
            exact ((HSE.out _).1 HbS.out).2.1
          have m0 := e2.cell 0; have m1 := e2.cell 1; have m2 := e2.cell 2; have m3 := e2.cell 3; have m4 := e2.cell 4
          simp only [List.getElem?_toArray, List.getElem?_cons_zero, List.getElem?_cons_succ] at m0 m1 m2 m3 m4
          exact ⟨e3, m0, m1, m2, m3, m4⟩
        obtain ⟨m9, m0, m1, m2, m3, m4⟩ := KF W5 (Below.refl _ _)
        have C2 := Lib.hid (fun W => end_any ⟨x, y, (q : Int) + (x1.size : Int), z, false⟩ W (by show -9223372036854775808 ≤ (q : Int) + (x1.size : Int) + (z.size : Int); rw [HXS.out]; omega) (by show (q : Int) + (x1.size : Int) + (z.size : Int) ≤ 9223372036854775807; rw [HXS.out]; omega))
        simp only [Pc.val] at C2
        have HRn5 := Lib.hid hrn5; have HKF := Lib.hid KF; have HJ5 := Lib.hid hJ5
        have hrz := hr5.size
        clear KF hb5 hpp5 hrn5 hr5 hJ5 hy2 HR2
        gi_wp2
        refine wpIn_wide.2 ?_
        go_region_held3 (fun w' => w'.cell? ⟨p0, 1, none⟩ = some (.int .i64 (y : Int)) ∧ w'.cell? ⟨B3, 0, none⟩ = some (.int .i64 (x : Int)) ∧ w'.cell? ⟨B3, 1, none⟩ = some (.int .i64 (y : Int)) ∧ w'.cell? ⟨B3, 2, none⟩ = some (.int .i64 ((q : Int) + (x1.size : Int))) ∧ w'.cell? ⟨B3, 3, none⟩ = some (.string z) ∧ w'.cell? ⟨B3, 4, none⟩ = some (.bool false)) (first | with_reducible exact sE | exact HKF.out _ (Below.refl W5.heap.size W5).drew)
          (first | (go_at_call 93; refine (C2.out _).mono ?_; rintro e wE ⟨rfl, bE⟩; have sE := HKF.out _ ((Below.refl _ W5).drew.trans bE)))
        all_goals
          have hbe : Below W5.heap.size W5 wE := (Below.refl _ W5).drew.trans bE
          have HJe : Hid (J (2 * (k + 1)) T5 wE) := HO.out _ _ _ _ HJ5.out (Oth.of_below hbe)
          have HRe : Hid (Rnd T₀ T5 W wE) := HRn5.out.trans (Rnd.of_below hbe)
          have hqe : (q : Int) + (x1.size : Int) + (z.size : Int) = ((q + (x - f) + z.size : Nat) : Int) := by rw [HXS.out]; omega
          have hqb : q + (x - f) + z.size ≤ y + 100000 * (k + 1) := by omega
          have HQE := Lib.hid hqe
          clear hbe bE sE hqe m9 m0 m1 m2 m3 m4
          gi_wp2
          go_roundw
          case rel => exact ⟨k + 1, y, q + (x - f) + z.size, T5, by omega, rfl, by rw [HQE.out], by go_num, hys, hqb, HPn, HVn, HJe, HRe⟩
          case measure => simp [intOf]; omega
    · obtain rfl : n = k := by omega
      have hpl : (prl s 0 0 es).drop (2 * n) = [⟨(f : Int), (s.size : Int), (q : Int), s.extract f s.size, true⟩] := by
        rw [← HP.out, List.drop_eq_nil_of_le (by rw [HN.out]; exact Nat.le_refl _)]; rfl
      have hp1 := pg_drop hpl
      have hwbs : wr.heap[bs]? = W.heap[bs]? := HRn.out.block bs hlbs (HR.out bs (.inl rfl))
      have hcs : Boxed wr bs 9 (.string s) := hwbs.trans HBS.out
      have cs := hcs.cell
      have hY1 := HY.out (2 * n) T wr.drew (by omega) HRn.out.size (HO.out _ _ _ _ HJ.out (Oth.of_below (Below.refl _ _).drew))
      rw [hp1] at hY1
      obtain ⟨fn, tmps, assign, body, hy, hR1⟩ := hY1
      simp only [Pc.val] at hy
      have HR1 := Lib.hid hR1
      have hmx : Tryd.prog.follows .mixedOrders = true := by kernel_rfl
      clear hpl hp1 hwbs hcs hR1
      gi_wp2
      gi_region_with_o (first | (refine ⟨rfl, HR1.out.mono ?_⟩; rintro e W4 ⟨rfl, T4, hJ4, hr4⟩))
      all_goals
        gi_wp2
        go_end0
        exact ⟨⟨_, rfl⟩, T4, hJ4⟩

end Go.Proofs.YtgfhhpodcnohpaaDoor

/- The contract of the program's Apply. Conditions: texts of at most 10000000 bytes, lists of at most 1000 edits. -/
namespace Go.Proofs.YtgfhhpodcnohpaaDoor
open Go.RowKit Go.Shelf
set_option linter.unusedVariables false
attribute [local go_sem] Oper.semAt_some

/-- The bytes of parts. -/
def ptx (l : List Pc) : List Int := l.flatMap fun p => sb p.x
theorem ptx_byt (l : List Pc) : Byt (ptx l) := by
  intro c hc
  obtain ⟨p, _, h⟩ := List.mem_flatMap.1 hc
  exact sb_byt _ c h
theorem ptx_take {l : List Pc} {k : Nat} (h : k < l.length) : ptx (l.take (k + 1)) = ptx (l.take k) ++ sb (pg l k).x := by
  unfold ptx pg
  rw [List.take_add_one, List.getElem?_eq_getElem h, List.flatMap_append]
  simp
theorem ptx_prl (s : ByteArray) : ∀ (es : List Er) (f q : Nat), (∀ e ∈ es, 0 ≤ e.f) → ptx (prl s f q es) = appl (sb s) f (ees es) := by
  intro es
  induction es with
  | nil =>
    intro f q _
    simp only [prl, ptx, List.flatMap_cons, List.flatMap_nil, List.append_nil, ees, List.map_nil, appl]
    rw [sb_cut, List.take_of_length_le (by rw [List.length_drop, sb_len]; exact Nat.le_refl _)]
  | cons e es ih =>
    intro f q h
    simp only [prl, ptx, List.flatMap_cons]
    rw [show List.flatMap (fun p => sb p.x) (prl s e.t.toNat (q + (e.f.toNat - f) + e.x.size) es) = appl (sb s) e.t.toNat (ees es) from ih _ _ (fun x hx => h x (by simp [hx]))]
    rw [sb_cut, ees_cons]
    rfl
theorem ptx_len {s : ByteArray} : ∀ {es : List Er} {f q : Nat}, (∀ e ∈ es, e.x.size ≤ 100000) → ∀ l, l <+: prl s f q es → (ptx l).length ≤ (es.length + 1) * (s.size + 100000) := by
  intro es
  induction es with
  | nil =>
    intro f q _ l hl
    have h1 : (ptx l).length ≤ (ptx (prl s f q [])).length := by
      obtain ⟨r, hr⟩ := hl
      rw [← hr]; simp [ptx]
    have h2 : (ptx (prl s f q [])).length ≤ s.size := by simp [ptx, prl, sb_len]
    simp only [List.length_nil]; omega
  | cons e es ih =>
    intro f q h l hl
    have hx := h e (by simp)
    obtain ⟨r, hr⟩ := hl
    have h0 : (ptx l).length ≤ (ptx (prl s f q (e :: es))).length := by rw [← hr]; simp [ptx]
    have h1 : (ptx (prl s f q (e :: es))).length ≤ s.size + 100000 + (ptx (prl s e.t.toNat (q + (e.f.toNat - f) + e.x.size) es)).length := by
      simp [ptx, prl, sb_len]; omega
    have h2 := ih (f := e.t.toNat) (q := q + (e.f.toNat - f) + e.x.size) (fun x hx => h x (by simp [hx])) _ (List.prefix_refl _)
    simp only [List.length_cons]
    rw [Nat.add_mul (es.length + 1) 1]
    omega

set_option maxRecDepth 100000 in
set_option maxHeartbeats 1000000 in
theorem papply_any (s : ByteArray) (a : Option Addr) (cap : Nat) (es : List Er) (w : World) (hs : s.size ≤ 10000000) (hn : es.length ≤ 1000) (hfit : ∀ e ∈ es, e.Fit) (hS : ES w.heap.size w a cap es) :
    Calls Tryd.prog 36 #[.string s, .slice a es.length cap] w fun e w' => e = .returned (.tuple #[.string (apS s es), .int .i64 (vErr (s.size : Int) es)]) ∧ Below w.heap.size w w' := by
  have CV := Lib.hid (pvalid_any s a cap es w hs hn hfit hS)
  have HS := Lib.hid hS; have HF := Lib.hid hfit
  obtain ⟨n, hn'⟩ : ∃ n, es.length = n := ⟨_, rfl⟩
  rw [hn'] at CV hn ⊢
  by_cases hv : vErr (s.size : Int) es = 0
  · have HV := Lib.hid hv
    rw [hv] at CV ⊢
    have HN := Lib.hid hn'
    clear hv hn' hS hfit
    refine (callsIn_wide (n := 0)).1 ?_
    refine callsIn_of_wp_marks Tryd.func36 rfl trivial ?_ rfl
    simp only [Tryd.ntmps36, List.size_toArray, List.length_cons, List.length_nil, Nat.reduceAdd, Nat.reduceSub, Array.replicate_succ, Array.replicate_zero, List.push_toArray, List.append_toArray, List.nil_append, List.cons_append]
    gi_wp2_with (first | (refine ⟨trivial, rfl, ?_⟩; gi_at_call 63; refine (callsIn_wide.2 CV.out).mono ?_; rintro e w1 ⟨rfl, hb1⟩) | (refine ⟨trivial, rfl, ?_⟩; gi_at_call 64; refine (callsIn_wide.2 (parts_any _ _ _ _ _)).mono ?_; rintro e w' ⟨rfl, rfl⟩))
    obtain ⟨b0, hb0⟩ : ∃ b, w1.heap.size = b := ⟨_, rfl⟩
    obtain ⟨W0, hW0⟩ : ∃ W, ((w1.alloc (.cells #[.pointer none, .slice none 0 0] 94)).alloc (.cells #[.string s] 9)).alloc (.cells #[.slice a n cap] 56) = W := ⟨_, rfl⟩
    have hs0 : W0.heap.size = b0 + 3 := by rw [← hW0, ← hb0]; simp
    have hB0 : Below b0 w1 W0 := by rw [← hW0, ← hb0]; exact (((Below.refl _ _).alloc (Nat.le_refl _) _).alloc (by simp) _).alloc (by simp; omega) _
    have bB : Blk W0 b0 94 #[.pointer none, .slice none 0 0] := by rw [← hW0, ← hb0]; exact ((Blk.new _ _ _).alloc _).alloc _
    have bS : Boxed W0 (b0 + 1) 9 (.string s) := by
      rw [← hW0, ← hb0]
      have := Boxed.new (w1.alloc (.cells #[.pointer none, .slice none 0 0] 94)) 9 (.string s)
      rw [World.size_alloc] at this; exact this.alloc _
    have bL : Boxed W0 (b0 + 2) 56 (.slice a n cap) := by
      rw [← hW0, ← hb0]
      have := Boxed.new ((w1.alloc (.cells #[.pointer none, .slice none 0 0] 94)).alloc (.cells #[.string s] 9)) 56 (.slice a n cap)
      rw [World.size_alloc, World.size_alloc] at this; exact this
    rw [hW0, hb0]
    have hwb : w.heap.size ≤ b0 := by rw [← hb0]; exact hb1.size
    have hbw0 : Below w.heap.size w W0 := hb1.trans (hB0.mono hwb)
    have hBl0 : Bl b0 (fun j => j = b0) (ptx ((prl s 0 0 es).take 0)) W0 := ⟨_, _, bB, World.ownsRow_nil _ _ _ _, .inl rfl, fun j => by simp [Value.ownBlock], fun _ => rfl⟩
    obtain ⟨hlim, hvld, hbd⟩ := vErr_ok HV.out
    have hxs : ∀ e ∈ es, e.x.size ≤ 100000 := fun e he => (HF.out e he).x
    have hnl := HN.out
    have hG := part_giv s (b0 + 2) (b0 + 1) a cap es W0 hs HV.out hxs (by rw [hnl]; exact bL) bS ((HS.out.on hbw0))
    have hRa : ∀ k, (k = b0 + 1 ∨ 0 < es.length ∧ ∃ off, a = some ⟨k, off, none⟩) → k ≠ b0 := by
      rintro k (rfl | ⟨hp, off, rfl⟩)
      · omega
      · rcases HS.out.cells with h0 | ⟨g, o, hg, hlt, _⟩
        · omega
        · cases hg; omega
    refine wpIn_giv (gf := 92) (lb := #[.pointer (some ⟨b0 + 1 + 1, 0, none⟩), .pointer (some ⟨b0 + 1, 0, none⟩)]) rfl (enters_of Tryd.func92 (by kernel_rfl) rfl)
      hG (fun _ => rfl)
      (fun k T A => Bl b0 T (ptx ((prl s 0 0 es).take k)) A ∧ Below w.heap.size w A)
      (fun k T A C hi ho => ⟨hi.1.oth ho, hi.2.trans (ho.below (by omega) hi.2.size)⟩)
      (fun k T A hi => hi.1.lt)
      (fun j => j = b0) (fun k hk => ⟨by omega, fun h => hRa k h hk⟩) ⟨hBl0, hbw0⟩
      (fun k B => { tmps := #[.string s, .slice a n cap, undef, undef, .string ⟨#[]⟩, .int .i64 0, .int .i64 0, .pointer (some ⟨b0, 0, none⟩), .pointer (some ⟨B, 0, none⟩), .string s, .slice a n cap, .int .i64 0, .int .i64 0, .bool false, undef,
        .string s, .slice a n cap, .func (.func 92) #[] #[.pointer (some ⟨b0 + 1 + 1, 0, none⟩), .pointer (some ⟨b0 + 1, 0, none⟩)], (pg (prl s 0 0 es) k).val, undef, undef, undef, undef], defers := [] })
      (fun k => (pg (prl s 0 0 es) k).cells) 99 ?assign ?body ?done
    case assign =>
      intro l' k A K hK
      simp only [Pc.val, Pc.cells] at hK ⊢
      gi_wp2
      exact hK
    case body =>
      rintro l' k T B A hk hl hlB hBk hTB hl' hTl ⟨hBl, hBA⟩
      have hkl : k < (prl s 0 0 es).length := by rw [prl_len]; exact hk
      obtain ⟨p, hp⟩ : ∃ p, pg (prl s 0 0 es) k = p := ⟨_, rfl⟩
      simp only [hp] at hBk ⊢
      have c3 : A.cell? ⟨B, 3, none⟩ = some (.string p.x) := by simpa [Pc.cells] using hBk.cell 3
      have hxl : (ptx ((prl s 0 0 es).take k)).length + p.x.size ≤ 70000000000 := by
        have h1 := ptx_len (s := s) (f := 0) (q := 0) hxs _ (List.take_prefix (k + 1) (prl s 0 0 es))
        rw [ptx_take hkl, hp, List.length_append, sb_len] at h1
        have h2 : (es.length + 1) * (s.size + 100000) ≤ 65 * 10100000 := Nat.mul_le_mul (by omega) (by omega)
        omega
      have CW := Lib.hid (write_any b0 T _ p.x A hBl hxl)
      have HBA := Lib.hid hBA; have HP := Lib.hid hp; have HT := Lib.hid (ptx_take hkl)
      clear hBk hBl hBA hxl hp
      gi_wp2_with (refine ⟨trivial, rfl, ?_⟩; gi_at_call 65; refine (CallsIn.inRound l' (callsIn_wide.2 CW.out)).mono ?_; rintro e w' ⟨⟨r, rfl⟩, ⟨T', hb', hr'⟩, hbw⟩)
      refine ⟨T', ⟨?_, HBA.out.trans (hbw.mono hwb)⟩, hr'⟩
      rw [HT.out, HP.out]
      exact hb'
    case done =>
      rintro T A hA ⟨hBl, hBA⟩ hTw hK
      have htx : ptx ((prl s 0 0 es).take (2 * es.length + 1)) = appl (sb s) 0 (ees es) := by
        rw [List.take_of_length_le (by rw [prl_len]; exact Nat.le_refl _)]
        exact ptx_prl s es 0 0 (fun e he => (hbd e he).1)
      have hln : (ptx ((prl s 0 0 es).take (2 * es.length + 1))).length ≤ 70000000000 := by
        have h1 := ptx_len (s := s) (f := 0) (q := 0) hxs _ (List.take_prefix (2 * es.length + 1) (prl s 0 0 es))
        have h2 : (es.length + 1) * (s.size + 100000) ≤ 65 * 10100000 := Nat.mul_le_mul (by omega) (by omega)
        omega
      have CS := string_any b0 T _ A hBl (ptx_byt _) hln
      rw [htx] at CS
      have hap : bs (appl (sb s) 0 (ees es)) = apS s es := by unfold apS; rw [if_pos HV.out]
      rw [hap] at CS
      have CS := Lib.hid CS; have HBA := Lib.hid hBA; have HKK := Lib.hid hK
      clear hBl hBA htx hln hap hK
      gi_wp2_with (refine ⟨trivial, rfl, ?_⟩; gi_at_call 66; refine (callsIn_wide.2 CS.out).mono ?_; rintro e w' ⟨rfl, hbw, hrw⟩)
      have hK2 : w'.heap[W0.heap.size]? = some (.deferred (some [])) := (hrw.block _ (by omega) hTw).trans HKK.out
      have hF : Below w.heap.size w (w'.putObj W0.heap.size (.deferred none)) := (HBA.out.trans (hbw.mono hwb)).trans ⟨rfl, rfl, rfl, by simp, fun k hk => World.putObj_heap_other (by omega)⟩
      rw [hs0] at hK2 hF
      refine ⟨by simp, .inl ⟨_, _, rfl, run_takeDeferred hK2, ?_⟩⟩
      exact ⟨_, results_tmp2 rfl _ _ _, rfl, hF⟩
  · have hap : apS s es = ⟨#[]⟩ := apS_bad hv
    have HV := Lib.hid hv
    have hq : (vErr (s.size : Int) es != 0) = true := by simp [hv]
    generalize vErr (s.size : Int) es = er at CV HV hq hv ⊢
    rw [hap]
    clear hv hn' hS hfit hap
    go_enter Tryd.func36, Tryd.ntmps36
    go_wp2_with fail
    refine CV.out.mono ?_
    rintro e w1 ⟨rfl, hb1⟩
    go_wp2
    go_ret2
    exact ⟨rfl, hb1⟩

end Go.Proofs.YtgfhhpodcnohpaaDoor
