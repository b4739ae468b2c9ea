/- Texts of one claim, put together: EMp, ELv, ERi, EOp, EDg, EDw, EIw, ECq, ECn, ENp, ESr, EJn. Each part says what it proves and under which conditions. -/
import Derived.Test.YtkehgoailhpenaaRc05
import Derived.BigQuiet
import Derived.Deep.QuietTactic
import Derived.Deep.Slices
import Derived.BigRegion

/- The contract of the program's Map. Conditions: lists of at most 1000 edits whose offsets, like the offset, lie within 2^42 of 0. -/
namespace Go.Proofs.Ytkehgoailhpenaa
open Go.RowKit Go.Shelf
set_option linter.unusedVariables false

/-- The program's loop. -/
def mpP (off : Int) (af : Bool) : List Er → Int → Int
  | [], g => off + g
  | e :: l, g =>
    if e.f < off ∧ off < e.t then (if af then e.f + g + e.x.size else e.f + g)
    else if e.f = off ∧ e.t = off then (if af then mpP off af l (g + e.x.size) else mpP off af l g)
    else if e.t ≤ off then mpP off af l (g + ((e.x.size : Int) - (e.t - e.f)))
    else mpP off af l g
def mpV (es : List Er) (off : Int) (af : Bool) : Int := if vErr 9223372036854775807 es = 0 then mpP off af es 0 else off
def Near (n : Int) : Prop := -4398046511104 ≤ n ∧ n ≤ 4398046511104

theorem vErr_max {es : List Er} (h : vErr 9223372036854775807 es = 0) : es.length ≤ 64 ∧ ∀ e ∈ es, 0 ≤ e.f ∧ e.f ≤ e.t := by
  have h1 := vErr_ok (n := 9223372036854775807) h
  exact ⟨h1.1, fun e he => ⟨(h1.2.2 e he).1, (h1.2.2 e he).2.1⟩⟩

end Go.Proofs.Ytkehgoailhpenaa

/- The examples of the chapter hold. It has no conditions. -/
namespace Go.Proofs.Ytkehgoailhpenaa
open Go.RowKit Go.Shelf
set_option linter.unusedVariables false

def exS : ByteArray := ⟨#[97, 98, 99, 100]⟩
def exT : ByteArray := ⟨#[97, 120, 121, 99, 122, 100]⟩
def exE : List Er := [⟨1, 2, ⟨#[120, 121]⟩⟩, ⟨3, 3, ⟨#[122]⟩⟩]
theorem ex_err : vErr (exS.size : Int) exE = 0 := by decide +kernel
theorem ex_app : apS exS exE = exT := by
  apply sb_inj
  rw [apS_ok ex_err]
  decide +kernel
theorem ex_inv : ∃ e1 e2 : Er, ivS exS exE = [e1, e2] ∧ e2.f = 4 := by
  refine ⟨_, _, by unfold ivS; rw [if_pos ex_err]; rfl, ?_⟩
  decide +kernel
theorem ex_map1 : mpV exE 3 true = 5 := by decide +kernel
theorem ex_map2 : mpV exE 3 false = 4 := by decide +kernel
theorem ex_fit : ∀ e ∈ exE, e.Fit := by
  intro e he
  simp only [exE, List.mem_cons, List.not_mem_nil, or_false] at he
  rcases he with rfl | rfl <;> exact ⟨by decide, by decide, by decide, by decide, by decide⟩
theorem ex_near : ∀ e ∈ exE, Near e.f ∧ Near e.t := by
  intro e he
  simp only [exE, List.mem_cons, List.not_mem_nil, or_false] at he
  rcases he with rfl | rfl <;> exact ⟨⟨by decide, by decide⟩, ⟨by decide, by decide⟩⟩
theorem ex_dif {es : List Er} (h : DifR ⟨#[97, 97]⟩ ⟨#[97]⟩ es) : ∃ e : Er, es = [e] ∧ e.f = 1 := by
  have h1 : Pre (sb ⟨#[97, 97]⟩) (sb ⟨#[97]⟩) 1 := by
    refine ⟨by decide +kernel, by decide +kernel, fun i hi => ?_, .inr (.inl (by decide +kernel))⟩
    obtain rfl : i = 0 := by omega
    decide +kernel
  have h2 : Suf (sb ⟨#[97, 97]⟩) (sb ⟨#[97]⟩) 1 0 := ⟨by decide +kernel, by decide +kernel, fun i hi => by omega, .inr (.inl (by decide +kernel))⟩
  have h3 : (⟨#[97, 97]⟩ : ByteArray) ≠ ⟨#[97]⟩ := by decide +kernel
  have := h.det (.inr ⟨h3, 1, 0, h1, h2, rfl⟩)
  exact ⟨_, this, rfl⟩

end Go.Proofs.Ytkehgoailhpenaa

/- The contract of the reference's Invert. Conditions: texts of at most 10000000 bytes, lists of at most 1000 edits. -/
namespace Go.Proofs.Ytkehgoailhpenaa
open Go.RowKit Go.Shelf
set_option linter.unusedVariables false


end Go.Proofs.Ytkehgoailhpenaa

/- Slices of edits by offsets that come in. It has no conditions. -/
namespace Go.Proofs.Ytkehgoailhpenaa
open Go.RowKit Go.Shelf Go.ChangeShapes
set_option linter.unusedVariables false

theorem i64_of_wf {x : Int} (h : (Lit.int .i64 x).wf = true) : -9223372036854775808 ≤ x ∧ x ≤ 9223372036854775807 := wf_i64 h
set_option maxRecDepth 100000 in
theorem open_er {H : Type} {enc : TypeId × Value → H} {w : World} {base : Nat} {spare : Nat → Bool} {held : Bool} {fuel : Nat} {cs : List Value} {x : DataW H × List MemPlace} (h : DataW.trod enc Try.prog w base spare held fuel 82 cs = some x) :
    ∃ p : Er, cs = p.vals ∧ p.Big := by
  obtain ⟨xs, n, _, _, hlen, hxl, hf⟩ := DataW.trod_struct Try.underlying82 h
  have c5 : Try.prog.cellsOf 82 = 3 := by kernel_rfl
  have c2 : Try.prog.cellsOf 3 = 1 := by kernel_rfl
  have c1 : Try.prog.cellsOf 9 = 1 := by kernel_rfl
  rw [c5] at hlen
  match cs, hlen with
  | [v0, v1, v2], _ =>
    match xs, hxl with
    | [z0, z1, z2], _ =>
      have g0 := hf 0 _ rfl
      have g1 := hf 1 _ rfl
      have g2 := hf 2 _ rfl
      simp [c2, c1] at g0 g1 g2
      obtain ⟨l, e0, _, w0⟩ := DataW.trod_int Try.underlying3 g0
      obtain ⟨u, e1, _, w1⟩ := DataW.trod_int Try.underlying3 g1
      obtain ⟨t, e2, _, h3⟩ := DataW.trod_string Try.underlying9 g2
      simp only [List.cons.injEq, and_true] at e0 e1 e2
      subst e0 e1 e2
      have a0 := wf_i64 w0
      have a1 := wf_i64 w1
      unfold maxLen at h3
      exact ⟨⟨l, u, t⟩, rfl, a0.1, a0.2, a1.1, a1.2, by show t.size ≤ 9223372036854775807; omega⟩
theorem add_add3 (b off x y : Nat) : ((⟨b, off, none⟩ : Addr).add x).add y = ⟨b, off + x + y, none⟩ := by
  by_cases hx : x = 0 <;> by_cases hy : y = 0 <;> simp [Addr.add, hx, hy]
/-- What the frame of a law tells of a slice of edits that came in. -/
def IsEs (w : World) (a : Option Addr) (len cap : Nat) : Prop :=
  ∃ es : List Er, es.length = len ∧ (∀ e ∈ es, e.Big) ∧ ES w.heap.size w a cap es
theorem eg_of (f : Nat → Er) (n k : Nat) (h : k < n) : eg ((List.range n).map f) k = f k := by
  simp [eg, h]
theorem open_es {H : Type} {enc : TypeId × Value → H} {W : World} {fuel : Nat} {a : Option Addr} {len cap : Nat} {x : DataW H × List MemPlace} (h : DataW.trod enc Try.prog W 0 (fun _ => true) true fuel 45 [.slice a len cap] = some x) : IsEs W a len cap := by
  have c5 : Try.prog.cellsOf 82 = 3 := by kernel_rfl
  rcases Deep.open_slice Try.underlying45 h with ⟨hcs, _⟩ | ⟨ad, l, c, m, n, D, Pl, hcs, _, hl, hm, hmm, _, hx⟩
  · simp only [List.cons.injEq, Value.slice.injEq, and_true] at hcs
    obtain ⟨rfl, rfl, rfl⟩ := hcs
    exact ⟨[], rfl, by simp, ES.none _ _⟩
  · simp only [List.cons.injEq, Value.slice.injEq, and_true] at hcs
    obtain ⟨rfl, rfl, rfl⟩ := hcs
    have hlm : len ≤ m := by rw [hmm]; simp; exact hl
    rw [c5] at hx
    have each : ∀ k, k < len → ∃ p : Er, p.Big ∧ ∀ i, i < 3 → W.cell? ((ad.add (k * 3)).add i) = p.vals[i]? := by
      intro k hk
      obtain ⟨cs', h1, h2⟩ := hx k (by omega)
      obtain ⟨_, _, hcell⟩ := World.cells?_some h1
      obtain ⟨p, rfl, hp⟩ := open_er h2
      exact ⟨p, hp, hcell⟩
    let f : Nat → Er := fun k => if hk : k < len then (each k hk).choose else dE
    have hfb : ∀ k, k < len → (f k).Big := fun k hk => by simp only [f, dif_pos hk]; exact (each k hk).choose_spec.1
    have hfc : ∀ k, k < len → ∀ i, i < 3 → W.cell? ((ad.add (k * 3)).add i) = (f k).vals[i]? := fun k hk => by simp only [f, dif_pos hk]; exact (each k hk).choose_spec.2
    have hln : ((List.range len).map f).length = len := by simp
    refine ⟨(List.range len).map f, hln, ?_, ?_⟩
    · intro e he
      obtain ⟨k, hk, rfl⟩ := List.mem_map.1 he
      exact hfb k (List.mem_range.1 hk)
    · refine ⟨by rw [hln]; exact hl, by unfold maxLen at hm; omega, (fun h => by cases h), ?_⟩
      by_cases h0 : len = 0
      · exact .inl (by rw [hln]; exact h0)
      · obtain ⟨b, off, spot⟩ := ad
        have hc0 := hfc 0 (by omega) 0 (by omega)
        have hspot : spot = none := by simpa [Addr.add] using World.cell?_spot hc0
        subst hspot
        have hlt : b < W.heap.size := by
          have := World.block_lt_of_cell? W _ hc0
          simpa [Addr.add] using this
        refine .inr ⟨b, off, rfl, hlt, fun k hk i hi => ?_⟩
        rw [hln] at hk
        rw [eg_of f len k hk, ← hfc k hk i hi, add_add3]

end Go.Proofs.Ytkehgoailhpenaa

/- The walk of EditDiff. It has no conditions. -/
namespace Go.Proofs.Ytkehgoailhpenaa
open Go.RowKit Go.Shelf
set_option linter.unusedVariables false

theorem sb_cut_at (s : ByteArray) (f t i : Nat) (h : f + i < t) (ht : t ≤ s.size) : (sb (s.extract f t))[i]? = (sb s)[f + i]? := by
  rw [sb_cut, List.getElem?_take, if_pos (by omega), List.getElem?_drop]
/-- What is known of the edit of Diff. -/
structure DifE (a b : ByteArray) (e : Er) : Prop where
  p : 0 ≤ e.f
  q : e.f ≤ e.t
  r : e.t ≤ (a.size : Int)
  ne : a.extract e.f.toNat e.t.toNat ≠ e.x
  fst : 0 < (a.extract e.f.toNat e.t.toNat).size → 0 < e.x.size → (sb (a.extract e.f.toNat e.t.toNat))[0]? ≠ (sb e.x)[0]?
  lst : 0 < (a.extract e.f.toNat e.t.toNat).size → 0 < e.x.size → (sb (a.extract e.f.toNat e.t.toNat))[(a.extract e.f.toNat e.t.toNat).size - 1]? ≠ (sb e.x)[e.x.size - 1]?
theorem difr_ok {a b : ByteArray} {es : List Er} (h : DifR a b es) (ha : a.size ≤ 1000) (hb : b.size ≤ 1000) :
    vErr (a.size : Int) es = 0 ∧ apS a es = b ∧ es.length ≤ 1 ∧ (∀ e ∈ es, e.Fit) ∧ ∀ e ∈ es, DifE a b e := by
  rcases h with ⟨rfl, rfl⟩ | ⟨hne, p, q, hp, hq, rfl⟩
  · refine ⟨rfl, ?_, by simp, by simp, by simp⟩
    apply sb_inj
    rw [apS_ok rfl]; rfl
  · have hvld := dif_vld hp hq
    have happ := dif_appl hp hq
    have hends := dif_ends hp hq
    have hdn := dif_ne hp hq (fun e => hne (sb_inj e))
    have hp1 := hp.1; have hp2 := hp.2.1; have hq1 := hq.1; have hq2 := hq.2.1
    rw [sb_len] at hp1 hp2 hq1 hq2
    rw [sb_len, sb_len] at hends hdn
    have hbyt : ∀ e ∈ [dif (sb a) (sb b) p q], Byt e.x := by
      intro e he
      simp only [List.mem_singleton] at he
      subst he
      exact ((sb_byt b).drop p).take _
    have hx : (er (dif (sb a) (sb b) p q)).x = b.extract p (b.size - q) := by
      simp only [er, dif, sb_len]
      exact bs_cut b p (b.size - q)
    have hf : (er (dif (sb a) (sb b) p q)).f = (p : Int) := rfl
    have ht : (er (dif (sb a) (sb b) p q)).t = ((a.size - q : Nat) : Int) := by simp only [er, dif, sb_len]
    have hv : vErr (a.size : Int) [er (dif (sb a) (sb b) p q)] = 0 := vErr_ers (l := [dif (sb a) (sb b) p q]) (by rw [sb_len] at hvld; exact hvld) (by simp) hbyt
    have hxs : (b.extract p (b.size - q)).size = b.size - q - p := by rw [ByteArray.size_extract]; omega
    have hos : (a.extract p (a.size - q)).size = a.size - q - p := by rw [ByteArray.size_extract]; omega
    refine ⟨hv, ?_, by simp, ?_, ?_⟩
    · apply sb_inj
      rw [apS_ok hv, show ees [er (dif (sb a) (sb b) p q)] = [dif (sb a) (sb b) p q] from ees_ers hbyt]
      exact happ
    · intro e he
      simp only [List.mem_singleton] at he
      subst he
      refine ⟨?_, ?_, ?_, ?_, ?_⟩
      · rw [hf]; omega
      · rw [hf]; omega
      · rw [ht]; omega
      · rw [ht]; omega
      · rw [hx, hxs]; omega
    · intro e he
      simp only [List.mem_singleton] at he
      subst he
      have hfst : 0 < a.size - q - p → 0 < b.size - q - p → (sb (a.extract p (a.size - q)))[0]? ≠ (sb (b.extract p (b.size - q)))[0]? := by
        intro h1 h2
        rw [sb_cut_at _ _ _ _ (by omega) (by omega), sb_cut_at _ _ _ _ (by omega) (by omega)]
        exact (hends (by omega) (by omega)).1
      have hlst : 0 < a.size - q - p → 0 < b.size - q - p → (sb (a.extract p (a.size - q)))[a.size - q - p - 1]? ≠ (sb (b.extract p (b.size - q)))[b.size - q - p - 1]? := by
        intro h1 h2
        rw [sb_cut_at _ _ _ _ (by omega) (by omega), sb_cut_at _ _ _ _ (by omega) (by omega)]
        rw [show p + (a.size - q - p - 1) = a.size - 1 - q by omega, show p + (b.size - q - p - 1) = b.size - 1 - q by omega]
        exact (hends (by omega) (by omega)).2
      refine ⟨by rw [hf]; omega, by rw [hf, ht]; omega, by rw [ht]; omega, ?_, ?_, ?_⟩
      · rw [hf, ht, hx, Int.toNat_natCast, Int.toNat_natCast]
        intro he
        have hsz := congrArg ByteArray.size he
        rw [hxs, hos] at hsz
        by_cases h0 : 0 < a.size - q - p
        · exact hfst h0 (by omega) (by rw [he])
        · exact hdn ⟨by omega, by omega⟩
      · rw [hf, ht, hx, Int.toNat_natCast, Int.toNat_natCast, hos, hxs]; exact hfst
      · rw [hf, ht, hx, Int.toNat_natCast, Int.toNat_natCast, hos, hxs]; exact hlst

theorem emp_true {s : ByteArray} (h : s.size = 0) : (s.toList == []) = true := by
  rw [ByteArray.toList_eq]
  have : s.data.toList = [] := List.eq_nil_of_length_eq_zero (by simpa using h)
  rw [this]; rfl
theorem emp_false {s : ByteArray} (h : 0 < s.size) : (s.toList == []) = false := by
  rw [ByteArray.toList_eq, beq_eq_false_iff_ne]
  intro e
  have : s.data.toList.length = 0 := by rw [e]; rfl
  have h2 : 0 < s.data.size := h
  rw [Array.length_toList] at this; omega

end Go.Proofs.Ytkehgoailhpenaa

/- The walk of EditDiff. It has no conditions. -/
namespace Go.Proofs.Ytkehgoailhpenaa
open Go.RowKit Go.Shelf
set_option linter.unusedVariables false

theorem appl_le {s : List Int} {c : Nat} : ∀ {l : List Ee} {p : Nat}, Vld s.length p l → (∀ e ∈ l, e.x.length ≤ c) → (appl s p l).length ≤ s.length - p + c * l.length := by
  intro l
  induction l with
  | nil => intro p h _; simp [appl]
  | cons e l ih =>
    intro p h hx
    obtain ⟨h1, h2, h3, h4⟩ := h
    have hm := mid_len (s := s) h1 (by omega)
    have hi := ih h4 (fun x h => hx x (by simp [h]))
    have he := hx e (by simp)
    simp only [appl, List.length_append, hm, List.length_cons, Nat.mul_add, Nat.mul_one]
    omega
theorem apS_size {s : ByteArray} {es : List Er} {c : Nat} (h : vErr (s.size : Int) es = 0) (hx : ∀ e ∈ es, e.x.size ≤ c) : (apS s es).size ≤ s.size + c * es.length := by
  have h1 := apS_ok h
  have h2 := (vErr_ok h).2.1
  rw [← sb_len (apS s es), h1]
  have := appl_le (s := sb s) (c := c) (l := ees es) (p := 0) (by rw [sb_len]; exact h2) (fun e he => by
    obtain ⟨x, hx', rfl⟩ := List.mem_map.1 he
    show (sb x.x).length ≤ c
    rw [sb_len]; exact hx x hx')
  rw [sb_len, ees_len] at this
  omega

end Go.Proofs.Ytkehgoailhpenaa

/- The walk of EditInvert. It has no conditions. -/
namespace Go.Proofs.Ytkehgoailhpenaa
open Go.RowKit Go.Shelf
set_option linter.unusedVariables false

theorem invl_byt {s : List Int} (hs : Byt s) : ∀ (l : List Ee) (p q : Nat), ∀ e ∈ invl s p q l, Byt e.x := by
  intro l
  induction l with
  | nil => intro p q e he; simp [invl] at he
  | cons e l ih =>
    intro p q x hx
    simp only [invl, List.mem_cons] at hx
    rcases hx with rfl | hx
    · exact (hs.drop _).take _
    · exact ih _ _ x hx
theorem invl_short {s : List Int} : ∀ (l : List Ee) (p q : Nat), ∀ e ∈ invl s p q l, e.x.length ≤ s.length := by
  intro l
  induction l with
  | nil => intro p q e he; simp [invl] at he
  | cons e l ih =>
    intro p q x hx
    simp only [invl, List.mem_cons] at hx
    rcases hx with rfl | hx
    · simp only [List.length_take, List.length_drop]; omega
    · exact ih _ _ x hx
theorem iv_ok {s : ByteArray} {es : List Er} (hv : vErr (s.size : Int) es = 0) :
    vErr ((apS s es).size : Int) (ivS s es) = 0 ∧ apS (apS s es) (ivS s es) = s ∧ (ivS s es).length = es.length ∧ ∀ e ∈ ivS s es, e.x.size ≤ s.size := by
  obtain ⟨hl, hvld, _⟩ := vErr_ok hv
  have hiv : ivS s es = ers (invl (sb s) 0 0 (ees es)) := by unfold ivS; rw [if_pos hv]
  have hvld' : Vld (sb s).length 0 (ees es) := by rw [sb_len]; exact hvld
  have hap := apS_ok hv
  have hb := invl_byt (sb_byt s) (ees es) 0 0
  have hsz : (appl (sb s) 0 (ees es)).length = (apS s es).size := by rw [← sb_len (apS s es), hap]
  have h1 := invl_vld (q := 0) hvld'
  rw [Nat.zero_add, hsz] at h1
  have h2 := appl_invl (s := sb s) (l := ees es) (p := 0) (q := 0) (pre := []) hvld' rfl
  rw [List.nil_append, List.drop_zero] at h2
  have hlen : (invl (sb s) 0 0 (ees es)).length = es.length := by rw [invl_len, ees_len]
  have hve : vErr ((apS s es).size : Int) (ivS s es) = 0 := by rw [hiv]; exact vErr_ers h1 (by rw [hlen]; exact hl) hb
  refine ⟨hve, ?_, by rw [hiv, ers_len, hlen], ?_⟩
  · apply sb_inj
    rw [apS_ok hve, hap, hiv, ees_ers hb]
    exact h2
  · intro e he
    rw [hiv] at he
    obtain ⟨x, hx, rfl⟩ := List.mem_map.1 he
    have := invl_short (s := sb s) (ees es) 0 0 x hx
    rw [sb_len] at this
    show (bs x.x).size ≤ s.size
    rw [bs_size]; exact this
/-- Valid edits with short texts fit. -/
theorem fit_of {n : Nat} {es : List Er} (hv : vErr (n : Int) es = 0) (hn : n ≤ 10000000) (hx : ∀ e ∈ es, e.x.size ≤ 100000) : ∀ e ∈ es, e.Fit := by
  intro e he
  have h1 := (vErr_ok hv).2.2 e he
  have h2 := hx e he
  exact ⟨by omega, by omega, by omega, by omega, h2⟩
theorem SlI.on {w w' : World} {a : Option Addr} {n : Nat} (h : SlI w.heap.size w a n) (hb : Below w.heap.size w w') : SlI w'.heap.size w' a n := by
  rcases h.below hb with h0 | ⟨b, off, x1, x2, x3⟩
  · exact .inl h0
  · exact .inr ⟨b, off, x1, by have := hb.size; omega, x3⟩

end Go.Proofs.Ytkehgoailhpenaa

/- What a composition of valid edits is: valid, and leads to the same text; with the inverse, nothing. It has no conditions. -/
namespace Go.Proofs.Ytkehgoailhpenaa
open Go.RowKit Go.Shelf
set_option linter.unusedVariables false

theorem arl_short {s u : ByteArray} : ∀ {K : List Kp} {f q : Nat}, ∀ e ∈ arl s u f q K, e.x.size ≤ u.size := by
  have hg : ∀ f t q r, ∀ e ∈ gap s u f t q r, e.x.size ≤ u.size := by
    intro f t q r e he
    unfold gap at he
    split at he
    · simp at he
    · simp only [List.mem_singleton] at he
      subst he
      simp only [ByteArray.size_extract]
      omega
  intro K
  induction K with
  | nil => intro f q e he; exact hg _ _ _ _ e he
  | cons p K ih =>
    intro f q e he
    simp only [arl, List.mem_append] at he
    exact he.elim (hg _ _ _ _ e) (ih e)
theorem comp_ok {s : ByteArray} {a b : List Er} (ha : vErr (s.size : Int) a = 0) (hb : vErr ((apS s a).size : Int) b = 0) (hl : a.length + b.length + 3 ≤ 64) :
    cmE s a b = 0 ∧ cmS s a b = ers (cmpl (sb s) (ees a) (ees b)) ∧ vErr (s.size : Int) (cmS s a b) = 0 ∧ apS s (cmS s a b) = apS (apS s a) b ∧ (cmS s a b).length ≤ a.length + b.length + 3 ∧ ∀ e ∈ cmS s a b, e.x.size ≤ (apS (apS s a) b).size := by
  obtain ⟨_, va, _⟩ := vErr_ok ha
  obtain ⟨_, vb, _⟩ := vErr_ok hb
  have ht := apS_ok ha
  have hu := apS_ok hb
  have hlen := cmpl_len ha hb ht
  have hE : cmE s a b = 0 := by
    unfold cmE
    rw [if_pos ha, if_pos hb, if_neg (by omega)]
  have hC : cmS s a b = ers (cmpl (sb s) (ees a) (ees b)) := by unfold cmS; rw [if_pos hE]
  obtain ⟨K, k1, k2, k3⟩ := kept_comp (s := s) (t := apS s a) (u := apS (apS s a) b) ha hb ht hu
  have hbyt : ∀ e ∈ cmpl (sb s) (ees a) (ees b), Byt e.x := by rw [← k3]; exact ees_byt _
  have hCa : cmS s a b = arl s (apS (apS s a) b) 0 0 K := by rw [hC, ← k3, ers_ees arl_pos]
  have va' : Vld (sb s).length 0 (ees a) := by rw [sb_len]; exact va
  have vb' : Vld (appl (sb s) 0 (ees a)).length 0 (ees b) := by rw [← ht, sb_len]; exact vb
  obtain ⟨c1, c2⟩ := cmpl_appl va' vb'
  rw [sb_len] at c1
  have hv : vErr (s.size : Int) (cmS s a b) = 0 := by rw [hC]; exact vErr_ers c1 (by omega) hbyt
  refine ⟨hE, hC, hv, ?_, by rw [hC, ers_len]; exact hlen, ?_⟩
  · refine sb_inj ?_
    rw [apS_ok hv, hC, ees_ers hbyt, c2, ← ht, ← hu]
  · rw [hCa]
    exact arl_short
theorem comp_inv {s : ByteArray} {a : List Er} (ha : vErr (s.size : Int) a = 0) (hl : a.length ≤ 20) : cmE s a (ivS s a) = 0 ∧ cmS s a (ivS s a) = [] := by
  obtain ⟨_, va, _⟩ := vErr_ok ha
  obtain ⟨o1, _, o3, _⟩ := iv_ok ha
  obtain ⟨c1, c2, _⟩ := comp_ok ha o1 (by omega)
  refine ⟨c1, ?_⟩
  have hiv : ivS s a = ers (invl (sb s) 0 0 (ees a)) := by unfold ivS; rw [if_pos ha]
  rw [c2, hiv, ees_ers (invl_byt (sb_byt s) (ees a) 0 0), cmpl_inv (by rw [sb_len]; exact va)]
  rfl

end Go.Proofs.Ytkehgoailhpenaa

/- The mathematics of the program's Normal: a composition with no edits is the normal form. It has no conditions. -/
namespace Go.Proofs.Ytkehgoailhpenaa
open Go.RowKit Go.Shelf
set_option linter.unusedVariables false

theorem filt_pend {s : List Int} {a p : Nat} {x : List Int} (h : a ≤ p) (l : List Ee) : ((if a < p ∨ x ≠ [] then [(⟨a, p, x⟩ : Ee)] else []) ++ l).filter (Chg s) = ((⟨a, p, x⟩ : Ee) :: l).filter (Chg s) := by
  by_cases hc : a < p ∨ x ≠ []
  · rw [if_pos hc]; rfl
  · rw [if_neg hc]
    have h1 : a = p := by omega
    have h2 : x = [] := Classical.byContradiction fun e => hc (.inr e)
    subst h1 h2
    have : Chg s ⟨a, a, []⟩ = false := by unfold Chg; simp
    rw [List.nil_append, List.filter_cons, this]
    rfl
theorem srcl_nil (s : List Int) (p : Nat) (hp : p ≤ s.length) : srcl s p [] = pcs s p (s.length - p) := by
  unfold pcs
  rw [List.take_of_length_le (by rw [List.length_drop]; exact Nat.le_refl _)]
  rfl
theorem canon_srcl {s : List Int} : ∀ {l : List Ee} {a p : Nat} {x : List Int}, a ≤ p → Vld s.length p l → (canon s.length a x (srcl s p l)).filter (Chg s) = (jn ⟨a, p, x⟩ l).filter (Chg s) := by
  intro l
  induction l with
  | nil =>
    intro a p x ha h
    have hp : p ≤ s.length := h
    rw [srcl_nil s p hp]
    simp only [jn]
    by_cases hz : p = s.length
    · subst hz
      rw [Nat.sub_self, pcs_zero]
      simp only [canon]
      have := filt_pend (s := s) (x := x) ha []
      rw [List.append_nil] at this
      exact this
    · have hc := canon_piece (S := s) (n := s.length) (a := a) (x := x) (z := []) (k := p) (m := s.length - p) (by omega) (by omega)
      rw [List.append_nil] at hc
      have hl : canon s.length s.length [] [] = [] := by simp [canon]
      rw [hc, show p + (s.length - p) = s.length by omega, hl]
      exact filt_pend ha []
  | cons e l ih =>
    intro a p x ha h
    obtain ⟨h1, h2, h3, h4⟩ := h
    have hs : srcl s p (e :: l) = pcs s p (e.f - p) ++ (e.x.map (fun c => ((c, none) : Int × Option Nat)) ++ srcl s e.t l) := rfl
    have hx : (e.x.map (fun c => ((c, none) : Int × Option Nat))).map Prod.fst = e.x := by rw [List.map_map]; exact List.map_id _
    rw [hs]
    simp only [jn]
    by_cases hz : p = e.f
    · rw [if_pos hz, show e.f - p = 0 by omega, pcs_zero, List.nil_append, canon_new (all_new e.x), hx]
      exact ih (by omega) h4
    · rw [if_neg hz, canon_piece (by omega) (by omega), show p + (e.f - p) = e.f by omega, canon_new (all_new e.x), hx, List.nil_append, filt_pend ha, List.filter_cons, List.filter_cons, ih h2 h4]
/-- Composing with no edits gives the normal form. -/
theorem cmpl_nil {s : List Int} {l : List Ee} (h : Vld s.length 0 l) : cmpl s l [] = norml s l := by
  have hsrc := srcl_src h
  have hz : (srcl s 0 l).map Prod.fst = appl s 0 l := srcl_fst s l 0
  have ht : thru (srcl s 0 l) (srcl (appl s 0 l) 0 []) = srcl s 0 l := by
    rw [srcl_nil _ _ (Nat.zero_le _), thru_slice hz, List.drop_zero, Nat.sub_zero, List.take_of_length_le (by rw [← hz, List.length_map]; exact Nat.le_refl _)]
  unfold cmpl
  rw [ht]
  unfold norml
  rw [joinl_of_sep (canon_sep (x := []) hsrc), canon_srcl (Nat.le_refl _) h]
  cases l with
  | nil =>
    simp only [jn, joinl]
    have := filt_pend (s := s) (a := 0) (p := 0) (x := []) (Nat.le_refl _) []
    simpa using this.symm
  | cons e l =>
    simp only [jn, joinl]
    by_cases hz : (0 : Nat) = e.f
    · rw [if_pos hz]
      obtain ⟨f, t, x⟩ := e
      simp only at hz
      subst hz
      rfl
    · rw [if_neg hz]
      have := filt_pend (s := s) (a := 0) (p := 0) (x := []) (Nat.le_refl _) (jn e l)
      simpa using this.symm

end Go.Proofs.Ytkehgoailhpenaa

/- The contract of the program's Normal. Conditions: texts of at most 1000000 bytes, lists of at most 1000 edits. -/
namespace Go.Proofs.Ytkehgoailhpenaa
open Go.RowKit Go.Shelf
set_option linter.unusedVariables false

/-- The normal form of a list of edits, or nothing if it is not valid. -/
def nmS (s : ByteArray) (es : List Er) : List Er := if vErr (s.size : Int) es = 0 then ers (norml (sb s) (ees es)) else []
theorem cm_nil {s : ByteArray} {es : List Er} : cmE s es [] = vErr (s.size : Int) es ∧ cmS s es [] = nmS s es := by
  have hE : cmE s es [] = vErr (s.size : Int) es := by
    unfold cmE
    by_cases hv : vErr (s.size : Int) es = 0
    · obtain ⟨h1, h2, _⟩ := vErr_ok hv
      have hc : cmpl (sb s) (ees es) (ees []) = norml (sb s) (ees es) := cmpl_nil (by rw [sb_len]; exact h2)
      have hl := norml_len (sb s) (ees es)
      rw [ees_len] at hl
      have h0 : vErr ((apS s es).size : Int) [] = 0 := rfl
      rw [if_pos hv, if_pos h0, if_neg (by rw [hc]; omega), hv]
    · rw [if_neg hv]
  refine ⟨hE, ?_⟩
  unfold cmS nmS
  rw [hE]
  by_cases hv : vErr (s.size : Int) es = 0
  · rw [if_pos hv, if_pos hv]
    obtain ⟨h1, h2, _⟩ := vErr_ok hv
    have hc : cmpl (sb s) (ees es) (ees []) = norml (sb s) (ees es) := cmpl_nil (by rw [sb_len]; exact h2)
    rw [hc]
  · rw [if_neg hv, if_neg hv]
theorem apS_nil (s : ByteArray) : apS s [] = s := by
  have h : vErr (s.size : Int) [] = 0 := rfl
  refine sb_inj ?_
  rw [apS_ok h]
  rfl

set_option maxRecDepth 100000 in
set_option maxHeartbeats 1000000 in
theorem pnormal_any (s : ByteArray) (a : Option Addr) (c : Nat) (es : List Er) (w : World) (hs : s.size ≤ 1000000) (ht : (apS s es).size ≤ 1000000) (hn : es.length ≤ 1000) (hf : ∀ e ∈ es, e.Fit) (hS : ES w.heap.size w a c es) :
    Calls Try.prog 31 #[.string s, .slice a es.length c] w fun e w' => NewES w (nmS s es) (vErr (s.size : Int) es) e w' := by
  have C := pcompose_any s a none c 0 es [] w hs ht (by rw [apS_nil]; exact ht) hn (by simp) hf (by simp) hS (ES.none _ _)
  rw [cm_nil.1, cm_nil.2] at C
  obtain ⟨n, hnn⟩ : ∃ n, es.length = n := ⟨_, rfl⟩
  rw [hnn] at C ⊢
  have CC := Lib.hid C
  clear C hS hf hnn
  go_enter Try.func31, Try.ntmps31
  go_wp2_with fail
  refine CC.out.mono ?_
  rintro e w1 ⟨ad, cd, rfl, hES, hb⟩
  have HF := Lib.hid (And.intro hES hb)
  clear hES hb
  go_wp2_with fail
  go_ret2
  exact ⟨ad, cd, rfl, HF.out.1, HF.out.2⟩

end Go.Proofs.Ytkehgoailhpenaa

/- The contract of the reference's Sources. Conditions: texts of at most 100000 bytes, lists of at most 1000 edits, at most 1000000 sources. -/
namespace Go.Proofs.Ytkehgoailhpenaa
open Go.RowKit Go.Shelf
set_option linter.unusedVariables false

/-- Numbers from p on. -/
def rngI : Nat → Nat → List Int
  | _, 0 => []
  | p, m + 1 => (p : Int) :: rngI (p + 1) m
/-- The sources of a text's bytes after edits. -/
def srN (n : Nat) : Nat → List Er → List Int
  | p, [] => rngI p (n - p)
  | p, e :: l => rngI p (e.f.toNat - p) ++ (List.replicate e.x.size (-1) ++ srN n e.t.toNat l)
def enc (z : Int × Option Nat) : Int := match z.2 with
  | some k => (k : Int)
  | none => -1
theorem enc_pcs {S : List Int} : ∀ {m k : Nat}, k + m ≤ S.length → (pcs S k m).map enc = rngI k m := by
  intro m
  induction m with
  | zero => intro k _; rw [pcs_zero]; rfl
  | succ m ih =>
    intro k h
    rw [pcs_cons (by omega), List.map_cons, ih (by omega)]
    rfl
theorem enc_new (x : List Int) : (x.map (fun c => ((c, none) : Int × Option Nat))).map enc = List.replicate x.length (-1) := by
  rw [List.map_map]
  exact List.map_const' ..
theorem enc_srcl {s : ByteArray} : ∀ {l : List Er} {p : Nat}, Vld s.size p (ees l) → (srcl (sb s) p (ees l)).map enc = srN s.size p l := by
  intro l
  induction l with
  | nil =>
    intro p h
    have hp : p ≤ s.size := h
    show (srcl (sb s) p []).map enc = _
    rw [srcl_nil _ _ (by rw [sb_len]; exact hp), enc_pcs (by rw [sb_len]; omega), sb_len]
    rfl
  | cons e l ih =>
    intro p h
    rw [ees_cons] at h ⊢
    obtain ⟨h1, h2, h3, h4⟩ := h
    simp only [Er.ee] at h1 h2 h3 h4
    show (pcs (sb s) p (e.f.toNat - p) ++ ((sb e.x).map (fun c => ((c, none) : Int × Option Nat)) ++ srcl (sb s) e.t.toNat (ees l))).map enc = _
    rw [List.map_append, List.map_append, ih h4, enc_new, enc_pcs (by rw [sb_len]; omega), sb_len]
    rfl

/-- A row of integers of a call's own, and what lay lies as it lay. -/
def OutI (P : Nat) (w wr : World) (ov : Value) (zs : List Int) : Prop := wr.ownsRow P 3 1 ov zs.length (zs.map (Value.int .i64)) ∧ Below P w wr
theorem outi_step {P k : Nat} {w wr w3 : World} {ov v' : Value} {zs : List Int} {x : Int} {tmp : Obj} (h : OutI P w wr ov zs) (hP : P ≤ wr.heap.size) (hown3 : w3.ownsRow P 3 1 v' k (zs.map (Value.int .i64) ++ [.int .i64 x])) (hg : (wr.alloc tmp).grownBy w3 ov.ownBlock) : OutI P w w3 v' (zs ++ [x]) := by
  have h0 : zs.map (Value.int .i64) ++ [.int .i64 x] = (zs ++ [x]).map (Value.int .i64) := by simp
  rw [h0] at hown3
  have hk : k = (zs ++ [x]).length := by have := hown3.1; rw [List.length_map] at this; omega
  subst hk
  exact ⟨hown3, h.2.trans (((Below.refl _ _).alloc hP _).grown hg (by simp; omega) (fun g eg => (h.1.lt g eg).1))⟩
theorem infoI : (Try.prog.info? 3).map (fun i => (i.zero, i.size, i.bytes)) = some (some (.int .i64 0), 1, 8) := by kernel_rfl

set_option maxRecDepth 100000 in
set_option maxHeartbeats 4000000 in
theorem sources_any (n : Nat) (a : Option Addr) (cap : Nat) (es : List Er) (w : World) (hn : n ≤ 100000) (hl : es.length ≤ 1000) (hv : Vld n 0 (ees es)) (hp : ∀ e ∈ es, 0 ≤ e.f ∧ 0 ≤ e.t) (hx : ∀ e ∈ es, e.x.size ≤ 100000) (hm : (srN n 0 es).length ≤ 1000000) (hS : ES w.heap.size w a cap es) :
    Calls Try.prog 72 #[.int .i64 (n : Int), .slice a es.length cap] w (NewRow .i64 3 w (srN n 0 es)) := by
  obtain ⟨i3, hi3, hy0, hy1, hy2⟩ := info_parts infoI
  obtain ⟨P, hP⟩ : ∃ P, w.heap.size = P := ⟨_, rfl⟩
  obtain ⟨R, hR⟩ : ∃ R, srN n 0 es = R := ⟨_, rfl⟩
  obtain ⟨N, hN⟩ : ∃ N, es.length = N := ⟨_, rfl⟩
  have hcap := hS.le
  obtain ⟨b, addr, hab, hcell⟩ := hS.cells.core
  rw [hN] at hl hcap hab hcell ⊢
  rw [hP] at hab
  rw [hR] at hm ⊢
  have HE := Lib.hid hN; have HAB := Lib.hid hab; have HC := Lib.hid hcell; have HP := Lib.hid hP; have HQ := Lib.hid hp; have HX := Lib.hid hx; have HM := Lib.hid hm
  have H0 : Hid ((0 ≤ N → Vld n 0 (ees (es.drop 0)) ∧ R = [] ++ srN n 0 (es.drop 0)) ∧ (0 = N + 1 → R = [])) := ⟨fun _ => ⟨hv, by rw [← hR]; rfl⟩, fun h => by omega⟩
  have HO0 : Hid (OutI P w w (.slice none 0 0) []) := ⟨World.ownsRow_nil _ _ _ _, Below.refl _ _⟩
  clear hS hab hcell hP hp hx hR hv hm hN
  go_enter Try.func72, Try.ntmps72
  go_wp2_with fail
  go_loopw [5, 6, 7] (fun u v q wr => ∃ (k p : Nat) (acc : List Int), k ≤ N + 1 ∧ p ≤ n ∧ v = .int .i64 (p : Int) ∧ q = .int .i64 (k : Int) ∧ Hid ((k ≤ N → Vld n p (ees (es.drop k)) ∧ R = acc ++ srN n p (es.drop k)) ∧ (k = N + 1 → R = acc)) ∧ Hid (OutI P w wr u acc)) (fun _ _ q _ => N + 1 - (intOf q).toNat)
  case atStart => exact ⟨0, 0, [], by omega, by omega, rfl, rfl, H0, HO0⟩
  case round =>
    obtain ⟨k, p, acc, hk, hpn, rfl, rfl, HI, HR⟩ := hrel
    by_cases hkN : k < N
    · obtain ⟨ha, hbB⟩ := HAB.out.resolve_left (by omega)
      subst ha
      have hkl : k < es.length := by rw [HE.out]; exact hkN
      obtain ⟨c0, c1, c2⟩ := HC.out k hkN wr (HR.out.2.block b hbB)
      have hkk : (k : Int) < (N : Int) := by omega
      have hkk2 : (k : Int) ≤ (N : Int) := by omega
      obtain ⟨hvl, hri⟩ := HI.out.1 (by omega)
      rw [eg_drop hkl] at hvl hri
      rw [ees_cons] at hvl
      obtain ⟨p0, p1⟩ := HQ.out _ (eg_mem hkl)
      have hxl := HX.out _ (eg_mem hkl)
      obtain ⟨x, hx1⟩ : ∃ x : Nat, (eg es k).f = (x : Int) := ⟨(eg es k).f.toNat, by omega⟩
      obtain ⟨y, hy1'⟩ : ∃ y : Nat, (eg es k).t = (y : Int) := ⟨(eg es k).t.toNat, by omega⟩
      obtain ⟨z, hz1⟩ : ∃ z, (eg es k).x = z := ⟨_, rfl⟩
      obtain ⟨v1, v2, v3, v4⟩ := hvl
      simp only [Er.ee, hx1, hy1', Int.toNat_natCast] at v1 v2 v3 v4
      simp only [srN, hx1, hy1', hz1, Int.toNat_natCast] at hri
      rw [hx1] at c0
      rw [hz1] at hxl
      have HZ1 := Lib.hid hz1; have HY1 := Lib.hid hy1'
      obtain ⟨T2, hT2⟩ : ∃ T, srN n y (es.drop (k + 1)) = T := ⟨_, rfl⟩
      obtain ⟨T1, hT1⟩ : ∃ T, List.replicate z.size (-1) ++ T2 = T := ⟨_, rfl⟩
      rw [hT2, hT1] at hri
      have HRI := Lib.hid hri; have HT1 := Lib.hid hT1; have HT2 := Lib.hid hT2; have HV4 := Lib.hid v4
      clear hri hT1 hT2 v4 hx1 hy1' hz1 c1 c2
      go_wp2_with fail
      go_loopw [5, 6] (fun u q wr => ∃ (j : Nat) (acc : List Int), p ≤ j ∧ j ≤ x ∧ q = .int .i64 (j : Int) ∧ Hid (R = acc ++ (rngI j (x - j) ++ T1)) ∧ Hid (OutI P w wr u acc)) (fun _ q _ => x - (intOf q).toNat)
      case atStart => exact ⟨p, acc, by omega, by omega, rfl, HRI, HR⟩
      case round =>
        obtain ⟨j, acc, hj1, hj2, rfl, HI, HR⟩ := hrel
        by_cases hjx : j < x
        · have hjx2 : (j : Int) < (x : Int) := by omega
          have HI2 : Hid (R = (acc ++ [(j : Int)]) ++ (rngI (j + 1) (x - (j + 1)) ++ T1)) := Lib.hid (by
            rw [HI.out, show x - j = x - (j + 1) + 1 by omega]; simp [rngI])
          have hown := HR.out.1
          have hP2 : P ≤ wr.heap.size := by have := HR.out.2.size; have := HP.out; omega
          obtain ⟨M, hM⟩ : ∃ M, acc.length = M := ⟨_, rfl⟩
          rw [hM] at hown
          have hMl : M ≤ 1000000 := by have h1 := congrArg List.length HI.out; rw [List.length_append] at h1; have := HM.out; omega
          have HO := Lib.hid hown
          clear hown hM
          go_wp2_with (at_builtin; refine wpList_append_own _ rfl _ _ 22 rfl P 3 i3 (.int .i64 0) 1 8 Try.underlying22 hi3 hy0 hy1 hy2 rfl (by decide) u5 M (acc.map (Value.int .i64)) rfl (HO.out.alloc _) ⟨wr.heap.size, 0, none⟩ 1 1 [.int .i64 (j : Int)] rfl rfl (cell_one_new _ _ _) (fun x hx => by simp at hx; subst hx; rfl) (by unfold maxLen; omega) (by omega) (by simp; omega) ?_; intro v' w3 hown3 hgrow3 _; obtain ⟨A3, k3, rfl⟩ := own_slice hown3)
          have H3 : Hid (OutI P w w3 (.slice A3 (M + 1) k3) (acc ++ [(j : Int)])) := outi_step HR.out hP2 hown3 hgrow3
          clear hown3 hgrow3
          go_wp2
          go_roundw
          case rel => exact ⟨j + 1, _, by omega, by omega, by go_num, HI2, H3⟩
          case measure => simp [intOf]; omega
        · obtain rfl : x = j := by omega
          have hR2 : R = acc ++ T1 := by have := HI.out; rwa [Nat.sub_self, rngI, List.nil_append] at this
          have HI := Lib.hid hR2
          clear hR2 hjx
          have hkk3 : (k : Int) < (N : Int) := hkk
          go_wp2_with fail
          go_loopw [5, 9] (fun u q wr => ∃ (j : Nat) (acc : List Int), j ≤ z.size ∧ q = .int .i64 (j : Int) ∧ Hid (R = acc ++ (List.replicate (z.size - j) (-1) ++ T2)) ∧ Hid (OutI P w wr u acc)) (fun _ q _ => z.size - (intOf q).toNat)
          case atStart => exact ⟨0, acc, by omega, rfl, Lib.hid (by rw [HI.out, ← HT1.out]; rfl), HR⟩
          case round =>
            obtain ⟨j, acc, hj, rfl, HI, HR⟩ := hrel
            obtain ⟨_, c1, c2⟩ := HC.out k hkN wr (HR.out.2.block b hbB)
            rw [HZ1.out] at c2
            rw [HY1.out] at c1
            by_cases hjx : j < z.size
            · have hjx2 : (j : Int) < (z.size : Int) := by omega
              have HI2 : Hid (R = (acc ++ [(-1 : Int)]) ++ (List.replicate (z.size - (j + 1)) (-1) ++ T2)) := Lib.hid (by
                rw [HI.out, show z.size - j = z.size - (j + 1) + 1 by omega, List.replicate_succ]; simp)
              have hown := HR.out.1
              have hP2 : P ≤ wr.heap.size := by have := HR.out.2.size; have := HP.out; omega
              obtain ⟨M, hM⟩ : ∃ M, acc.length = M := ⟨_, rfl⟩
              rw [hM] at hown
              have hMl : M ≤ 1000000 := by have h1 := congrArg List.length HI.out; rw [List.length_append] at h1; have := HM.out; omega
              have HO := Lib.hid hown
              clear hown hM
              go_wp2_with (at_builtin; refine wpList_append_own _ rfl _ _ 22 rfl P 3 i3 (.int .i64 0) 1 8 Try.underlying22 hi3 hy0 hy1 hy2 rfl (by decide) u5 M (acc.map (Value.int .i64)) rfl (HO.out.alloc _) ⟨wr.heap.size, 0, none⟩ 1 1 [.int .i64 (-1)] rfl rfl (cell_one_new _ _ _) (fun x hx => by simp at hx; subst hx; rfl) (by unfold maxLen; omega) (by omega) (by simp; omega) ?_; intro v' w3 hown3 hgrow3 _; obtain ⟨A3, k3, rfl⟩ := own_slice hown3)
              have H3 : Hid (OutI P w w3 (.slice A3 (M + 1) k3) (acc ++ [(-1)])) := outi_step HR.out hP2 hown3 hgrow3
              clear hown3 hgrow3
              go_wp2
              go_roundw
              case rel => exact ⟨j + 1, _, by omega, by go_num, HI2, H3⟩
              case measure => simp [intOf]; omega
            · have hjz : z.size = j := by omega
              have hjx2 : ¬ (j : Int) < (z.size : Int) := by omega
              have hR3 : R = acc ++ T2 := by have := HI.out; rwa [hjz, Nat.sub_self, List.replicate_zero, List.nil_append] at this
              have HF : Hid ((k + 1 ≤ N → Vld n y (ees (es.drop (k + 1))) ∧ R = acc ++ srN n y (es.drop (k + 1))) ∧ (k + 1 = N + 1 → R = acc)) := ⟨fun _ => ⟨HV4.out, by rw [HT2.out]; exact hR3⟩, fun h => by omega⟩
              clear hR3 hjz
              go_wp2
              go_roundw
              case rel => exact ⟨k + 1, y, acc, by omega, by omega, rfl, by go_num, HF, HR⟩
              case measure => simp [intOf]; omega
    · by_cases hke : k = N
      · have hkk : ¬ (k : Int) < (N : Int) := by omega
        have hkk2 : (k : Int) ≤ (N : Int) := by omega
        obtain ⟨hvl, hri⟩ := HI.out.1 (by omega)
        rw [List.drop_eq_nil_of_le (by rw [HE.out]; omega)] at hri
        have HRI : Hid (R = acc ++ (rngI p (n - p) ++ [])) := Lib.hid (by rw [hri, List.append_nil]; rfl)
        clear hvl hri
        go_wp2_with fail
        go_loopw [5, 6] (fun u q wr => ∃ (j : Nat) (acc : List Int), p ≤ j ∧ j ≤ n ∧ q = .int .i64 (j : Int) ∧ Hid (R = acc ++ (rngI j (n - j) ++ [])) ∧ Hid (OutI P w wr u acc)) (fun _ q _ => n - (intOf q).toNat)
        case atStart => exact ⟨p, acc, by omega, by omega, rfl, HRI, HR⟩
        case round =>
          obtain ⟨j, acc, hj1, hj2, rfl, HI, HR⟩ := hrel
          by_cases hjx : j < n
          · have hjx2 : (j : Int) < (n : Int) := by omega
            have HI2 : Hid (R = (acc ++ [(j : Int)]) ++ (rngI (j + 1) (n - (j + 1)) ++ [])) := Lib.hid (by
              rw [HI.out, show n - j = n - (j + 1) + 1 by omega]; simp [rngI])
            have hown := HR.out.1
            have hP2 : P ≤ wr.heap.size := by have := HR.out.2.size; have := HP.out; omega
            obtain ⟨M, hM⟩ : ∃ M, acc.length = M := ⟨_, rfl⟩
            rw [hM] at hown
            have hMl : M ≤ 1000000 := by have h1 := congrArg List.length HI.out; rw [List.length_append] at h1; have := HM.out; omega
            have HO := Lib.hid hown
            clear hown hM
            go_wp2_with (at_builtin; refine wpList_append_own _ rfl _ _ 22 rfl P 3 i3 (.int .i64 0) 1 8 Try.underlying22 hi3 hy0 hy1 hy2 rfl (by decide) u5 M (acc.map (Value.int .i64)) rfl (HO.out.alloc _) ⟨wr.heap.size, 0, none⟩ 1 1 [.int .i64 (j : Int)] rfl rfl (cell_one_new _ _ _) (fun x hx => by simp at hx; subst hx; rfl) (by unfold maxLen; omega) (by omega) (by simp; omega) ?_; intro v' w3 hown3 hgrow3 _; obtain ⟨A3, k3, rfl⟩ := own_slice hown3)
            have H3 : Hid (OutI P w w3 (.slice A3 (M + 1) k3) (acc ++ [(j : Int)])) := outi_step HR.out hP2 hown3 hgrow3
            clear hown3 hgrow3
            go_wp2
            go_roundw
            case rel => exact ⟨j + 1, _, by omega, by omega, by go_num, HI2, H3⟩
            case measure => simp [intOf]; omega
          · obtain rfl : n = j := by omega
            have hR2 : R = acc ++ [] := by have := HI.out; rwa [Nat.sub_self, rngI, List.nil_append] at this
            have HF : Hid ((k + 1 ≤ N → Vld n n (ees (es.drop (k + 1))) ∧ R = acc ++ srN n n (es.drop (k + 1))) ∧ (k + 1 = N + 1 → R = acc)) := ⟨fun h => by omega, fun _ => by rw [hR2, List.append_nil]⟩
            clear hR2 hjx
            go_wp2
            go_roundw
            case rel => exact ⟨k + 1, n, acc, by omega, by omega, rfl, by go_num, HF, HR⟩
            case measure => simp [intOf]; omega
      · have hkk2 : ¬ (k : Int) ≤ (N : Int) := by omega
        have hR2 := HI.out.2 (by omega)
        subst hR2
        have h1 := HR.out
        have H1 := Lib.hid h1
        clear h1
        go_wp2
        go_ret
        exact ⟨_, rfl, by rw [HP.out]; exact H1.out.1, by rw [HP.out]; exact H1.out.2⟩

end Go.Proofs.Ytkehgoailhpenaa

/- The contract of the reference's joined. Conditions: lists of at most 20000 edits, with offsets from 0 to 10000000 and texts of at most 100000 bytes. -/
namespace Go.Proofs.Ytkehgoailhpenaa
open Go.RowKit Go.Shelf
set_option linter.unusedVariables false

/-- The edits with neighbors joined; c is the last one so far. -/
def jnE (c : Er) : List Er → List Er
  | [] => [c]
  | e :: l => if c.t = e.f then jnE ⟨c.f, e.t, c.x ++ e.x⟩ l else c :: jnE e l
def jnS : List Er → List Er
  | [] => []
  | e :: l => jnE e l
theorem jnE_ees : ∀ (l : List Er) (c : Er), 0 ≤ c.f → 0 ≤ c.t → (∀ e ∈ l, 0 ≤ e.f ∧ 0 ≤ e.t) → ees (jnE c l) = jn (c.ee sb) (ees l) ∧ ∀ e ∈ jnE c l, 0 ≤ e.f ∧ 0 ≤ e.t := by
  intro l
  induction l with
  | nil => intro c h1 h2 _; refine ⟨rfl, fun e he => ?_⟩; simp only [jnE, List.mem_singleton] at he; subst he; exact ⟨h1, h2⟩
  | cons e l ih =>
    intro c h1 h2 h
    have h0 := h e (by simp)
    have hl := fun x (hx : x ∈ l) => h x (by simp [hx])
    rw [ees_cons]
    simp only [jnE, jn]
    by_cases hc : c.t = e.f
    · rw [if_pos hc, if_pos (by show c.t.toNat = e.f.toNat; rw [hc])]
      have := ih ⟨c.f, e.t, c.x ++ e.x⟩ h1 h0.2 hl
      refine ⟨this.1.trans ?_, this.2⟩
      simp only [Er.ee, sb_add]
    · rw [if_neg hc, if_neg (by show ¬ c.t.toNat = e.f.toNat; omega)]
      have := ih e h0.1 h0.2 hl
      refine ⟨by rw [ees_cons, this.1], fun x hx => ?_⟩
      rcases List.mem_cons.1 hx with rfl | hx
      · exact ⟨h1, h2⟩
      · exact this.2 x hx
theorem jnS_eq {l : List Er} (h : ∀ e ∈ l, 0 ≤ e.f ∧ 0 ≤ e.t) : jnS l = ers (joinl (ees l)) := by
  cases l with
  | nil => rfl
  | cons e l =>
    have h0 := h e (by simp)
    have := jnE_ees l e h0.1 h0.2 (fun x hx => h x (by simp [hx]))
    rw [ees_cons]
    simp only [jnS, joinl]
    rw [← this.1, ers_ees this.2]
theorem rvs_t (fs : List Er) (c : Er) (y : Int) : (rv (fs ++ [c])).set (fs.length * 3 + 1) (.int .i64 y) = rv (fs ++ [⟨c.f, y, c.x⟩]) := by
  rw [rv_snoc, rv_snoc, ← rv_len, List.set_append_right _ _ (Nat.le_add_right _ _), Nat.add_sub_cancel_left]; rfl
theorem rvs_x (fs : List Er) (c : Er) (z : ByteArray) : (rv (fs ++ [c])).set (fs.length * 3 + 2) (.string z) = rv (fs ++ [⟨c.f, c.t, z⟩]) := by
  rw [rv_snoc, rv_snoc, ← rv_len, List.set_append_right _ _ (Nat.le_add_right _ _), Nat.add_sub_cancel_left]; rfl
theorem rvs_at (fs : List Er) (c : Er) (i : Nat) (hi : i < 3) : (rv (fs ++ [c]))[fs.length * 3 + i]? = c.vals[i]? := by
  rw [rv_snoc, ← rv_len, List.getElem?_append_right (Nat.le_add_right _ _), Nat.add_sub_cancel_left]
/-- The list so far: the first k edits are joined. -/
def Jst (R es : List Er) (k : Nat) (acc : List Er) : Prop :=
  (k = 0 ∧ acc = []) ∨ ∃ pre c, acc = pre ++ [c] ∧ R = pre ++ jnE c (es.drop k) ∧ pre.length < k ∧ c.x.size ≤ 100000 * k ∧ 0 ≤ c.t ∧ c.t ≤ 10000000

set_option maxRecDepth 100000 in
set_option maxHeartbeats 4000000 in
theorem joined_any (a : Option Addr) (cap : Nat) (es : List Er) (w : World) (hn : es.length ≤ 20000) (hpos : ∀ e ∈ es, 0 ≤ e.f ∧ e.f ≤ 10000000 ∧ 0 ≤ e.t ∧ e.t ≤ 10000000) (hx : ∀ e ∈ es, e.x.size ≤ 100000) (hS : ES w.heap.size w a cap es) :
    Calls Try.prog 91 #[.slice a es.length cap] w fun e w' => ∃ a' c', e = .returned (.slice a' (jnS es).length c') ∧ ES w'.heap.size w' a' c' (jnS es) ∧ Below w.heap.size w w' := by
  obtain ⟨i3, hi3, jy0, jy1, jy2⟩ := info_parts infoEd
  obtain ⟨n, hn'⟩ : ∃ n, es.length = n := ⟨_, rfl⟩
  obtain ⟨B, hB⟩ : ∃ B, w.heap.size = B := ⟨_, rfl⟩
  obtain ⟨R, hR⟩ : ∃ R, jnS es = R := ⟨_, rfl⟩
  have hcap := hS.le
  have hmx := hS.mx
  obtain ⟨b, addr, hab, hcell⟩ := hS.cells.core
  rw [hn'] at hn hcap hab hcell ⊢
  rw [hB] at hab
  rw [hR]
  have HE := Lib.hid hn'; have HAB := Lib.hid hab; have HC := Lib.hid hcell; have HB := Lib.hid hB; have HP := Lib.hid hpos; have HX := Lib.hid hx; have HRR := Lib.hid hR
  have H0 : Hid (Jst R es 0 []) := .inl ⟨rfl, rfl⟩
  have HO0 : Hid (w.ownsRow B 82 3 (.slice none 0 0) ([] : List Er).length (rv [])) := World.ownsRow_nil _ _ _ _
  have HB0 : Hid (Below B w w) := by rw [← hB]; exact Below.refl _ _
  clear hS hab hcell hB hn' hpos hx hR
  go_enter Try.func91, Try.ntmps91
  go_wp2_with fail
  go_loopw [3, 4] (fun u q wr => ∃ (k : Nat) (acc : List Er), k ≤ n ∧ q = .int .i64 (k : Int) ∧ Hid (Jst R es k acc) ∧ Hid (wr.ownsRow B 82 3 u acc.length (rv acc)) ∧ Hid (Below B w wr)) (fun _ q _ => n - (intOf q).toNat)
  case atStart => exact ⟨0, [], by omega, rfl, H0, HO0, HB0⟩
  case round =>
    obtain ⟨k, acc, hk, rfl, HI, HO, HR⟩ := hrel
    by_cases hlt : k < n
    · obtain ⟨ha, hbB⟩ := HAB.out.resolve_left (by omega)
      subst ha
      have hkl : k < es.length := by rw [HE.out]; exact hlt
      obtain ⟨c0, c1, c2⟩ := HC.out k hlt wr (HR.out.block b hbB)
      have hkk : (k : Int) < (n : Int) := by omega
      obtain ⟨p0, p1, p2, p3⟩ := HP.out _ (eg_mem hkl)
      have hxl := HX.out _ (eg_mem hkl)
      obtain ⟨x, hx1⟩ : ∃ x, (eg es k).f = x := ⟨_, rfl⟩
      obtain ⟨y, hy1⟩ : ∃ y, (eg es k).t = y := ⟨_, rfl⟩
      obtain ⟨z, hz1⟩ : ∃ z, (eg es k).x = z := ⟨_, rfl⟩
      have hst : eg es k = ⟨x, y, z⟩ := by rw [← hx1, ← hy1, ← hz1]
      rw [hx1] at c0 p0 p1
      rw [hy1] at c1 p2 p3
      rw [hz1] at c2 hxl
      have HST := Lib.hid hst
      have hBr : B ≤ wr.heap.size := by have := HR.out.size; have := HB.out; omega
      clear hst hx1 hy1 hz1
      rcases HI.out with ⟨rfl, rfl⟩ | ⟨pre, ⟨cf, ct, cx⟩, rfl, hR, hpl, hcx, ht0, ht1⟩
      · obtain ⟨A, cA, rfl⟩ := own_slice HO.out
        have hk1 : ¬ (0 : Int) < ((0 : Nat) : Int) := by omega
        have hkk0 : (0 : Int) < (n : Int) := by omega
        simp only [Nat.zero_mul, Nat.add_zero] at c0 c1 c2
        go_wp2_with fail
        go_quiet (fail)
        have HOD : Hid (wr.drew.ownsRow B 82 3 (.slice A 0 cA) 0 (rv [])) := own_same HO.out (fun g _ => rfl)
        go_wp2_with (at_builtin; refine wpList_append_own _ rfl _ _ 45 rfl B 82 i3 (.agg #[.int .i64 0, .int .i64 0, .string ⟨#[]⟩]) 3 32 Try.underlying45 hi3 jy0 jy1 jy2 rfl (by decide) (.slice A 0 cA) 0 (rv []) rfl (HOD.out.alloc _) ⟨_, 0, none⟩ 1 1 [.int .i64 x, .int .i64 y, .string z] rfl rfl (cells_newb _ [.int .i64 x, .int .i64 y, .string z] _ _ (by simp; try omega)) (fun x hx => by simp at hx; rcases hx with rfl | rfl | rfl <;> rfl) (by unfold maxLen; omega) (by omega) (by simp; omega) ?_; intro v' w6 hown6 hgrow6 _)
        have HRV : Hid (rv ([] ++ [(⟨x, y, z⟩ : Er)]) = rv [] ++ [.int .i64 x, .int .i64 y, .string z]) := rv_snoc _ _
        have HO6 : Hid (w6.ownsRow B 82 3 v' (([] : List Er) ++ [(⟨x, y, z⟩ : Er)]).length (rv ([] ++ [(⟨x, y, z⟩ : Er)]))) := by rw [HRV.out]; exact hown6
        have H6 : Hid (Below B w w6) := ((below_drewN HR.out _).alloc hBr _).grown hgrow6 (by simp; omega) (fun g eg => (HO.out.lt g eg).1)
        have HJ : Hid (Jst R es (0 + 1) ([] ++ [(⟨x, y, z⟩ : Er)])) := by
          refine .inr ⟨[], ⟨x, y, z⟩, rfl, ?_, by simp, by simp only; omega, p2, p3⟩
          have := HRR.out
          rw [show es = es.drop 0 from rfl, eg_drop hkl, HST.out] at this
          exact this.symm
        clear hown6 hgrow6
        go_wp2
        go_roundw
        case rel => exact ⟨0 + 1, _, by omega, by go_num, HJ, HO6, H6⟩
        case measure => simp [intOf]; omega
      · simp only at hcx ht0 ht1
        obtain ⟨j, hj⟩ : ∃ j, pre.length = j := ⟨_, rfl⟩
        have hown := HO.out
        have hm : (pre ++ [(⟨cf, ct, cx⟩ : Er)]).length = j + 1 := by rw [List.length_append, hj]; rfl
        rw [hm] at hown
        obtain ⟨A, cA, rfl⟩ := own_slice hown
        obtain ⟨g, cA', hAg⟩ := ownsRow_succ hown
        simp only [Value.slice.injEq, true_and] at hAg
        obtain ⟨rfl, rfl⟩ := hAg
        have hgB : B ≤ g := (row_lt hown).1
        obtain ⟨m, hmj⟩ : ∃ m, j + 1 = m := ⟨_, rfl⟩
        rw [hmj] at hown hm ⊢
        have hd : ∀ i, i < 3 → wr.cell? ⟨g, j * 3 + i, none⟩ = (⟨cf, ct, cx⟩ : Er).vals[i]? := fun i hi => by
          rw [hown.cellAt (j * 3 + i) (by omega), ← hj]; exact rvs_at pre _ i hi
        have d1 : wr.cell? ⟨g, j * 3 + 1, none⟩ = some (.int .i64 ct) := hd 1 (by omega)
        have d2 : wr.cell? ⟨g, j * 3 + 2, none⟩ = some (.string cx) := hd 2 (by omega)
        have e1 : wr.frozen? ⟨g, j * 3 + 1, none⟩ = false := hown.frozenAt (j * 3 + 1)
        have hk1 : (0 : Int) < (m : Int) := by omega
        have hdk : decide ((0 : Int) < (m : Int)) = true := by simp only [decide_eq_true_eq]; omega
        have hdn : decide (0 < m) = true := by simp only [decide_eq_true_eq]; omega
        have hj1 : IntKind.i64.wrap ((m : Int) - 1) = (j : Int) := by simp [IntKind.wrap, IntKind.signed, IntKind.bits]; omega
        have hj2 : (j : Int) < (m : Int) := by omega
        have hcap2 : m ≤ cA := by
          rcases hown.2 with ⟨hv, _⟩ | ⟨g', cp, cur, hv, _, _, h1, _⟩
          · simp at hv
          · simp only [Value.slice.injEq] at hv; omega
        have hmn : m ≤ 20000 := by omega
        have hmk : m ≤ k := by omega
        have HMJ := Lib.hid hmj
        have HOw := Lib.hid hown; have HM := Lib.hid hm; have HJ := Lib.hid hj; have HRc := Lib.hid hR
        clear hd hown hm hj hR hmj
        have HOD : Hid (wr.drew.ownsRow B 82 3 (.slice (some ⟨g, 0, none⟩) m cA) m (rv (pre ++ [(⟨cf, ct, cx⟩ : Er)]))) := own_same HOw.out (fun g _ => rfl)
        by_cases hq : ct = x
        · have hq1 : (ct == x) = true := by simp [hq]
          have hs1 : cx.size + z.size ≤ 9223372036854775807 := by omega
          have HQ := Lib.hid hq
          clear hq
          go_wp2_with fail
          go_quiet (fail)
          go_wp2_with fail
          obtain ⟨W1, hW1⟩ : ∃ W, (wr.drewN nq).setCell ⟨g, j * 3 + 1, none⟩ (.int .i64 y) = W := ⟨_, rfl⟩
          have o1 := ((own_same HOw.out (fun g _ => rfl) : World.ownsRow (wr.drewN nq) _ _ _ _ _ _).stored (j * 3 + 1) (.int .i64 y)).1
          rw [hW1, ← HJ.out, rvs_t] at o1
          simp only at o1
          have bl1 : Below B w W1 := by rw [← hW1]; exact (below_drewN HR.out _).setCell (p := ⟨g, j * 3 + 1, none⟩) hgB _
          obtain ⟨_, _, c6⟩ := HC.out k hlt W1 (bl1.block b hbB)
          rw [HST.out] at c6
          have d6 : W1.cell? ⟨g, j * 3 + 2, none⟩ = some (.string cx) := by
            rw [o1.cellAt (j * 3 + 2) (by omega), ← HJ.out]; exact rvs_at pre _ 2 (by omega)
          have e6 : W1.frozen? ⟨g, j * 3 + 2, none⟩ = false := o1.frozenAt (j * 3 + 2)
          have HO1 := Lib.hid o1; have HB1 := Lib.hid bl1; have HW1 := Lib.hid hW1
          clear o1 bl1 hW1
          rw [HW1.out]
          go_region
          go_wp2_with fail
          have HO7 : Hid ((W1.drew.setCell ⟨g, j * 3 + 2, none⟩ (.string (cx ++ z))).ownsRow B 82 3 (.slice (some ⟨g, 0, none⟩) m cA) (pre ++ [(⟨cf, y, cx ++ z⟩ : Er)]).length (rv (pre ++ [(⟨cf, y, cx ++ z⟩ : Er)]))) := by
            have := ((own_same HO1.out (fun g _ => rfl) : World.ownsRow W1.drew _ _ _ _ _ _).stored (j * 3 + 2) (.string (cx ++ z))).1
            rw [← HJ.out, rvs_x] at this
            simp only [HJ.out] at this
            rw [List.length_append, HJ.out, show j + [(⟨cf, y, cx ++ z⟩ : Er)].length = m from HMJ.out]
            exact this
          have H7 : Hid (Below B w (W1.drew.setCell ⟨g, j * 3 + 2, none⟩ (.string (cx ++ z)))) := HB1.out.drew.setCell (p := ⟨g, j * 3 + 2, none⟩) hgB _
          have HJ7 : Hid (Jst R es (k + 1) (pre ++ [(⟨cf, y, cx ++ z⟩ : Er)])) := by
            refine .inr ⟨pre, _, rfl, ?_, by omega, by simp only [ByteArray.size_append]; omega, p2, p3⟩
            have := HRc.out
            rw [eg_drop hkl, HST.out] at this
            simp only [jnE] at this
            rw [if_pos HQ.out] at this
            exact this
          go_roundw
          case rel => exact ⟨k + 1, _, by omega, by go_num, HJ7, HO7, H7⟩
          case measure => simp [intOf]; omega
        · have hq1 : (ct == x) = false := by simp [hq]
          have HQ := Lib.hid hq
          clear hq
          go_wp2_with fail
          go_quiet (fail)
          go_wp2_with (at_builtin; refine wpList_append_own _ rfl _ _ 45 rfl B 82 i3 (.agg #[.int .i64 0, .int .i64 0, .string ⟨#[]⟩]) 3 32 Try.underlying45 hi3 jy0 jy1 jy2 rfl (by decide) (.slice (some ⟨g, 0, none⟩) m cA) m (rv (pre ++ [(⟨cf, ct, cx⟩ : Er)])) rfl (HOD.out.alloc _) ⟨_, 0, none⟩ 1 1 [.int .i64 x, .int .i64 y, .string z] rfl rfl (cells_newb _ [.int .i64 x, .int .i64 y, .string z] _ _ (by simp; try omega)) (fun x hx => by simp at hx; rcases hx with rfl | rfl | rfl <;> rfl) (by unfold maxLen; omega) (by omega) (by simp; omega) ?_; intro v' w6 hown6 hgrow6 _)
          have HRV : Hid (rv ((pre ++ [(⟨cf, ct, cx⟩ : Er)]) ++ [(⟨x, y, z⟩ : Er)]) = rv (pre ++ [(⟨cf, ct, cx⟩ : Er)]) ++ [.int .i64 x, .int .i64 y, .string z]) := rv_snoc _ _
          have HO6 : Hid (w6.ownsRow B 82 3 v' ((pre ++ [(⟨cf, ct, cx⟩ : Er)]) ++ [(⟨x, y, z⟩ : Er)]).length (rv ((pre ++ [(⟨cf, ct, cx⟩ : Er)]) ++ [(⟨x, y, z⟩ : Er)]))) := by
            rw [HRV.out, List.length_append, HM.out]; exact hown6
          have H6 : Hid (Below B w w6) := ((below_drewN HR.out _).alloc hBr _).grown hgrow6 (by simp; omega) (fun g eg => (HOD.out.lt g eg).1)
          have HJ2 : Hid (Jst R es (k + 1) ((pre ++ [(⟨cf, ct, cx⟩ : Er)]) ++ [(⟨x, y, z⟩ : Er)])) := by
            refine .inr ⟨pre ++ [(⟨cf, ct, cx⟩ : Er)], ⟨x, y, z⟩, rfl, ?_, by rw [HM.out]; omega, by simp only; omega, p2, p3⟩
            have := HRc.out
            rw [eg_drop hkl, HST.out] at this
            simp only [jnE] at this
            rw [if_neg HQ.out] at this
            rw [this]; simp
          clear hown6 hgrow6
          go_wp2
          go_roundw
          case rel => exact ⟨k + 1, _, by omega, by go_num, HJ2, HO6, H6⟩
          case measure => simp [intOf]; omega
    · obtain rfl : n = k := by omega
      have hRa : R = acc := by
        rcases HI.out with ⟨rfl, rfl⟩ | ⟨pre, c, rfl, hR, _⟩
        · have := HE.out
          rw [← HRR.out, List.length_eq_zero_iff.1 this]; rfl
        · rw [hR, List.drop_eq_nil_of_le (by rw [HE.out]; omega)]; rfl
      subst hRa
      obtain ⟨_, ao, co, rfl, hES⟩ := es_of_own HO.out
      have HES := Lib.hid hES
      clear hES
      go_wp2
      go_ret
      exact ⟨ao, co, rfl, HES.out, by rw [HB.out]; exact HR.out⟩

end Go.Proofs.Ytkehgoailhpenaa
