/- Texts of one claim, put together: ECl, EMp, ELv, ERi, EOp, EDg, EDw, EIw, ECq, ECn, ENp, ESr. Each part says what it proves and under which conditions. -/
import Derived.Test.YtkehgoailhpenaaGreatRn05
import Derived.BigQuiet
import Derived.Deep.QuietTactic
import Derived.Deep.Slices

/- The mathematics of Compose: how many edits a composition has. It has no conditions. -/
namespace Go.Proofs.YtkehgoailhpenaaGreat
open Go.RowKit Go.Shelf
set_option linter.unusedVariables false

theorem comm_k (p1 p2 : Pc) : (comm p1 p2).k = true ↔ (p1.k = true ∧ p2.k = true ∧ max p1.q p2.f < min (p1.q + p1.x.size) p2.t) := by
  unfold comm
  split
  · rename_i h; exact ⟨fun _ => h, fun _ => rfl⟩
  · rename_i h; exact ⟨fun e => (by cases e), fun e => absurd e h⟩
theorem cnt_disj {A B C : Pc → Bool} (h1 : ∀ x, A x = true → C x = true ∧ B x = false) (h2 : ∀ x, B x = true → C x = true) (P : List Pc) : P.countP A + P.countP B ≤ P.countP C := by
  induction P with
  | nil => simp
  | cons x P ih =>
    rw [List.countP_cons, List.countP_cons, List.countP_cons]
    have a := h1 x
    have b := h2 x
    cases hA : A x
    · cases hB : B x
      · simp only [Bool.false_eq_true, if_false]; omega
      · have := b hB
        rw [this]
        simp only [Bool.false_eq_true, if_false, if_true]; omega
    · obtain ⟨c1, c2⟩ := a hA
      rw [c1, c2]
      simp only [Bool.false_eq_true, if_false, if_true]; omega
/-- How much one part of the second list keeps. -/
theorem in_len {s : ByteArray} {p2 : Pc} : ∀ {P : List Pc} {r : Nat}, Chn s r P →
    ((P.map fun p1 => comm p1 p2).filter (·.k)).length ≤ P.countP (fun p => p.k && decide (p2.f < p.q) && decide (p.q < p2.t)) + (if (r : Int) ≤ p2.f then 1 else 0) := by
  intro P
  induction P with
  | nil => intro r _; simp
  | cons p P ih =>
    intro r h
    obtain ⟨h1, _, h3⟩ := h
    have hi := ih h3
    rw [List.map_cons, List.filter_cons, List.countP_cons]
    by_cases hc : p.k = true ∧ p2.k = true ∧ max p.q p2.f < min (p.q + p.x.size) p2.t
    · rw [if_pos ((comm_k p p2).2 hc), List.length_cons]
      obtain ⟨c1, c2, c3⟩ := hc
      rw [if_neg (by omega)] at hi
      by_cases hr : (r : Int) ≤ p2.f
      · rw [if_pos hr]; omega
      · rw [if_neg hr]
        have : (p.k && decide (p2.f < p.q) && decide (p.q < p2.t)) = true := by
          rw [c1, decide_eq_true (by omega), decide_eq_true (by omega)]; rfl
        rw [if_pos this]; omega
    · rw [if_neg (fun e => hc ((comm_k p p2).1 e))]
      by_cases hr : ((r + p.x.size : Nat) : Int) ≤ p2.f
      · rw [if_pos hr] at hi
        have e1 : (if (r : Int) ≤ p2.f then 1 else 0) = (1 : Nat) := if_pos (by omega)
        rw [e1]; omega
      · rw [if_neg hr] at hi; omega
theorem out_len {s t : ByteArray} {P1 : List Pc} (h1 : Chn s 0 P1) : ∀ {es : List Er} {f q : Nat}, Vld t.size f (ees es) → (∀ e ∈ es, 0 ≤ e.f ∧ e.f ≤ e.t ∧ e.t ≤ (t.size : Int)) →
    ((kbl P1 (prl t f q es)).filter (·.k)).length ≤ P1.countP (fun p => p.k && decide ((f : Int) < p.q)) + es.length + 1 := by
  intro es
  induction es with
  | nil =>
    intro f q _ _
    have := in_len (p2 := ⟨f, t.size, q, t.extract f t.size, true⟩) h1
    simp only [prl, kbl, List.flatMap_cons, List.flatMap_nil, List.append_nil, List.length_nil]
    rw [if_pos (by simp only; omega)] at this
    have hm := cnt_disj (A := fun p : Pc => p.k && decide ((f : Int) < p.q) && decide (p.q < (t.size : Int))) (B := fun _ => false) (C := fun p => p.k && decide ((f : Int) < p.q)) (fun x hx => ⟨by simp only [Bool.and_eq_true] at hx ⊢; exact hx.1, rfl⟩) (fun x hx => by cases hx) P1
    simp only at this
    omega
  | cons e l ih =>
    intro f q hv hok
    obtain ⟨o1, o2, o3⟩ := hok e (by simp)
    obtain ⟨v1, v2, v3, v4⟩ := hv
    simp only [Er.ee] at v1 v2 v3 v4
    have hi := ih (f := e.t.toNat) (q := q + (e.f.toNat - f) + e.x.size) v4 (fun x hx => hok x (by simp [hx]))
    have ha := in_len (p2 := ⟨f, e.f, q, t.extract f e.f.toNat, true⟩) h1
    rw [if_pos (by simp only; omega)] at ha
    have hb : ((P1.map fun p1 => comm p1 ⟨e.f, e.t, (q : Int) + (e.f - f), e.x, false⟩).filter (·.k)) = [] := by
      rw [List.filter_eq_nil_iff]
      intro c hc
      obtain ⟨p1, _, rfl⟩ := List.mem_map.1 hc
      intro hk
      have := ((comm_k _ _).1 hk).2.1
      cases this
    have hk : kbl P1 (prl t f q (e :: l)) = (P1.map fun p1 => comm p1 ⟨f, e.f, q, t.extract f e.f.toNat, true⟩) ++ ((P1.map fun p1 => comm p1 ⟨e.f, e.t, (q : Int) + (e.f - f), e.x, false⟩) ++ kbl P1 (prl t e.t.toNat (q + (e.f.toNat - f) + e.x.size) l)) := rfl
    rw [hk, List.filter_append, List.filter_append, hb, List.nil_append, List.length_append, List.length_cons]
    have hm := cnt_disj (A := fun p : Pc => p.k && decide ((f : Int) < p.q) && decide (p.q < e.f)) (B := fun p => p.k && decide (((e.t.toNat : Nat) : Int) < p.q)) (C := fun p => p.k && decide ((f : Int) < p.q))
      (fun x hx => by
        simp only [Bool.and_eq_true, decide_eq_true_eq] at hx ⊢
        refine ⟨hx.1, ?_⟩
        rw [decide_eq_false (by omega), Bool.and_false])
      (fun x hx => by
        simp only [Bool.and_eq_true, decide_eq_true_eq] at hx ⊢
        exact ⟨hx.1, by omega⟩) P1
    simp only at ha
    omega
theorem prl_kept (s : ByteArray) : ∀ (es : List Er) (f q : Nat), (prl s f q es).countP (fun p => p.k) = es.length + 1 := by
  intro es
  induction es with
  | nil => intro f q; rfl
  | cons e l ih => intro f q; simp only [prl, List.countP_cons, ih, List.length_cons]; simp
/-- A composition has few edits. -/
theorem cmpl_len {s t : ByteArray} {a b : List Er} (ha : vErr (s.size : Int) a = 0) (hb : vErr (t.size : Int) b = 0) (ht : sb t = appl (sb s) 0 (ees a)) : (cmpl (sb s) (ees a) (ees b)).length ≤ a.length + b.length + 3 := by
  obtain ⟨u, hu⟩ : ∃ u, apS t b = u := ⟨_, rfl⟩
  obtain ⟨K, k1, k2, k3⟩ := kept_comp (s := s) (t := t) (u := u) ha hb ht (by rw [← hu]; exact apS_ok hb)
  rw [← k3, ees_len]
  have h1 := arl_len (s := s) (u := u) (K := K) (f := 0) (q := 0)
  have h2 := congrArg List.length k1
  rw [List.length_map] at h2
  obtain ⟨_, va, oa⟩ := vErr_ok ha
  obtain ⟨_, vb, ob⟩ := vErr_ok hb
  obtain ⟨_, c1⟩ := prl_seg (q := 0) va oa
  have h3 := out_len (t := t) c1 (q := 0) vb ob
  have h4 := cnt_disj (A := fun p : Pc => p.k && decide (((0 : Nat) : Int) < p.q)) (B := fun _ => false) (C := fun p => p.k) (fun x hx => ⟨by simp only [Bool.and_eq_true] at hx; exact hx.1, rfl⟩) (fun x hx => by cases hx) (prl s 0 0 a)
  rw [prl_kept] at h4
  omega

end Go.Proofs.YtkehgoailhpenaaGreat

/- The contract of the program's Map. Conditions: lists of at most 1000 edits whose offsets, like the offset, lie within 2^42 of 0. -/
namespace Go.Proofs.YtkehgoailhpenaaGreat
open Go.RowKit Go.Shelf
set_option linter.unusedVariables false

/-- The program's loop. -/
def mpP (off : Int) (af : Bool) : List Er → Int → Int
  | [], g => off + g
  | e :: l, g =>
    if e.f < off ∧ off < e.t then (if af then e.f + g + e.x.size else e.f + g)
    else if e.f = off ∧ e.t = off then (if af then mpP off af l (g + e.x.size) else mpP off af l g)
    else if e.t ≤ off then mpP off af l (g + ((e.x.size : Int) - (e.t - e.f)))
    else mpP off af l g
def mpV (es : List Er) (off : Int) (af : Bool) : Int := if vErr 9223372036854775807 es = 0 then mpP off af es 0 else off
def Near (n : Int) : Prop := -4398046511104 ≤ n ∧ n ≤ 4398046511104

theorem vErr_max {es : List Er} (h : vErr 9223372036854775807 es = 0) : es.length ≤ 64 ∧ ∀ e ∈ es, 0 ≤ e.f ∧ e.f ≤ e.t := by
  have h1 := vErr_ok (n := 9223372036854775807) h
  exact ⟨h1.1, fun e he => ⟨(h1.2.2 e he).1, (h1.2.2 e he).2.1⟩⟩

end Go.Proofs.YtkehgoailhpenaaGreat

/- The examples of the chapter hold. It has no conditions. -/
namespace Go.Proofs.YtkehgoailhpenaaGreat
open Go.RowKit Go.Shelf
set_option linter.unusedVariables false

def exS : ByteArray := ⟨#[97, 98, 99, 100]⟩
def exT : ByteArray := ⟨#[97, 120, 121, 99, 122, 100]⟩
def exE : List Er := [⟨1, 2, ⟨#[120, 121]⟩⟩, ⟨3, 3, ⟨#[122]⟩⟩]
theorem ex_err : vErr (exS.size : Int) exE = 0 := by decide +kernel
theorem ex_app : apS exS exE = exT := by
  apply sb_inj
  rw [apS_ok ex_err]
  decide +kernel
theorem ex_inv : ∃ e1 e2 : Er, ivS exS exE = [e1, e2] ∧ e2.f = 4 := by
  refine ⟨_, _, by unfold ivS; rw [if_pos ex_err]; rfl, ?_⟩
  decide +kernel
theorem ex_map1 : mpV exE 3 true = 5 := by decide +kernel
theorem ex_map2 : mpV exE 3 false = 4 := by decide +kernel
theorem ex_fit : ∀ e ∈ exE, e.Fit := by
  intro e he
  simp only [exE, List.mem_cons, List.not_mem_nil, or_false] at he
  rcases he with rfl | rfl <;> exact ⟨by decide, by decide, by decide, by decide, by decide⟩
theorem ex_near : ∀ e ∈ exE, Near e.f ∧ Near e.t := by
  intro e he
  simp only [exE, List.mem_cons, List.not_mem_nil, or_false] at he
  rcases he with rfl | rfl <;> exact ⟨⟨by decide, by decide⟩, ⟨by decide, by decide⟩⟩
theorem ex_dif {es : List Er} (h : DifR ⟨#[97, 97]⟩ ⟨#[97]⟩ es) : ∃ e : Er, es = [e] ∧ e.f = 1 := by
  have h1 : Pre (sb ⟨#[97, 97]⟩) (sb ⟨#[97]⟩) 1 := by
    refine ⟨by decide +kernel, by decide +kernel, fun i hi => ?_, .inr (.inl (by decide +kernel))⟩
    obtain rfl : i = 0 := by omega
    decide +kernel
  have h2 : Suf (sb ⟨#[97, 97]⟩) (sb ⟨#[97]⟩) 1 0 := ⟨by decide +kernel, by decide +kernel, fun i hi => by omega, .inr (.inl (by decide +kernel))⟩
  have h3 : (⟨#[97, 97]⟩ : ByteArray) ≠ ⟨#[97]⟩ := by decide +kernel
  have := h.det (.inr ⟨h3, 1, 0, h1, h2, rfl⟩)
  exact ⟨_, this, rfl⟩

end Go.Proofs.YtkehgoailhpenaaGreat

/- The contract of the reference's Invert. Conditions: texts of at most 10000000 bytes, lists of at most 1000 edits. -/
namespace Go.Proofs.YtkehgoailhpenaaGreat
open Go.RowKit Go.Shelf
set_option linter.unusedVariables false


end Go.Proofs.YtkehgoailhpenaaGreat

/- Slices of edits by offsets that come in. It has no conditions. -/
namespace Go.Proofs.YtkehgoailhpenaaGreat
open Go.RowKit Go.Shelf Go.ChangeShapes
set_option linter.unusedVariables false

theorem i64_of_wf {x : Int} (h : (Lit.int .i64 x).wf = true) : -9223372036854775808 ≤ x ∧ x ≤ 9223372036854775807 := wf_i64 h
set_option maxRecDepth 100000 in
theorem open_er {H : Type} {enc : TypeId × Value → H} {w : World} {base : Nat} {spare : Nat → Bool} {held : Bool} {fuel : Nat} {cs : List Value} {x : DataW H × List MemPlace} (h : DataW.trod enc Tryz.prog w base spare held fuel 84 cs = some x) :
    ∃ p : Er, cs = p.vals ∧ p.Big := by
  obtain ⟨xs, n, _, _, hlen, hxl, hf⟩ := DataW.trod_struct Tryz.underlying84 h
  have c5 : Tryz.prog.cellsOf 84 = 3 := by kernel_rfl
  have c2 : Tryz.prog.cellsOf 3 = 1 := by kernel_rfl
  have c1 : Tryz.prog.cellsOf 9 = 1 := by kernel_rfl
  rw [c5] at hlen
  match cs, hlen with
  | [v0, v1, v2], _ =>
    match xs, hxl with
    | [z0, z1, z2], _ =>
      have g0 := hf 0 _ rfl
      have g1 := hf 1 _ rfl
      have g2 := hf 2 _ rfl
      simp [c2, c1] at g0 g1 g2
      obtain ⟨l, e0, _, w0⟩ := DataW.trod_int Tryz.underlying3 g0
      obtain ⟨u, e1, _, w1⟩ := DataW.trod_int Tryz.underlying3 g1
      obtain ⟨t, e2, _, h3⟩ := DataW.trod_string Tryz.underlying9 g2
      simp only [List.cons.injEq, and_true] at e0 e1 e2
      subst e0 e1 e2
      have a0 := wf_i64 w0
      have a1 := wf_i64 w1
      unfold maxLen at h3
      exact ⟨⟨l, u, t⟩, rfl, a0.1, a0.2, a1.1, a1.2, by show t.size ≤ 9223372036854775807; omega⟩
theorem add_add3 (b off x y : Nat) : ((⟨b, off, none⟩ : Addr).add x).add y = ⟨b, off + x + y, none⟩ := by
  by_cases hx : x = 0 <;> by_cases hy : y = 0 <;> simp [Addr.add, hx, hy]
/-- What the frame of a law tells of a slice of edits that came in. -/
def IsEs (w : World) (a : Option Addr) (len cap : Nat) : Prop :=
  ∃ es : List Er, es.length = len ∧ (∀ e ∈ es, e.Big) ∧ ES w.heap.size w a cap es
theorem eg_of (f : Nat → Er) (n k : Nat) (h : k < n) : eg ((List.range n).map f) k = f k := by
  simp [eg, h]
theorem open_es {H : Type} {enc : TypeId × Value → H} {W : World} {fuel : Nat} {a : Option Addr} {len cap : Nat} {x : DataW H × List MemPlace} (h : DataW.trod enc Tryz.prog W 0 (fun _ => true) true fuel 38 [.slice a len cap] = some x) : IsEs W a len cap := by
  have c5 : Tryz.prog.cellsOf 84 = 3 := by kernel_rfl
  rcases Deep.open_slice Tryz.underlying38 h with ⟨hcs, _⟩ | ⟨ad, l, c, m, n, D, Pl, hcs, _, hl, hm, hmm, _, hx⟩
  · simp only [List.cons.injEq, Value.slice.injEq, and_true] at hcs
    obtain ⟨rfl, rfl, rfl⟩ := hcs
    exact ⟨[], rfl, by simp, ES.none _ _⟩
  · simp only [List.cons.injEq, Value.slice.injEq, and_true] at hcs
    obtain ⟨rfl, rfl, rfl⟩ := hcs
    have hlm : len ≤ m := by rw [hmm]; simp; exact hl
    rw [c5] at hx
    have each : ∀ k, k < len → ∃ p : Er, p.Big ∧ ∀ i, i < 3 → W.cell? ((ad.add (k * 3)).add i) = p.vals[i]? := by
      intro k hk
      obtain ⟨cs', h1, h2⟩ := hx k (by omega)
      obtain ⟨_, _, hcell⟩ := World.cells?_some h1
      obtain ⟨p, rfl, hp⟩ := open_er h2
      exact ⟨p, hp, hcell⟩
    let f : Nat → Er := fun k => if hk : k < len then (each k hk).choose else dE
    have hfb : ∀ k, k < len → (f k).Big := fun k hk => by simp only [f, dif_pos hk]; exact (each k hk).choose_spec.1
    have hfc : ∀ k, k < len → ∀ i, i < 3 → W.cell? ((ad.add (k * 3)).add i) = (f k).vals[i]? := fun k hk => by simp only [f, dif_pos hk]; exact (each k hk).choose_spec.2
    have hln : ((List.range len).map f).length = len := by simp
    refine ⟨(List.range len).map f, hln, ?_, ?_⟩
    · intro e he
      obtain ⟨k, hk, rfl⟩ := List.mem_map.1 he
      exact hfb k (List.mem_range.1 hk)
    · refine ⟨by rw [hln]; exact hl, by unfold maxLen at hm; omega, (fun h => by cases h), ?_⟩
      by_cases h0 : len = 0
      · exact .inl (by rw [hln]; exact h0)
      · obtain ⟨b, off, spot⟩ := ad
        have hc0 := hfc 0 (by omega) 0 (by omega)
        have hspot : spot = none := by simpa [Addr.add] using World.cell?_spot hc0
        subst hspot
        have hlt : b < W.heap.size := by
          have := World.block_lt_of_cell? W _ hc0
          simpa [Addr.add] using this
        refine .inr ⟨b, off, rfl, hlt, fun k hk i hi => ?_⟩
        rw [hln] at hk
        rw [eg_of f len k hk, ← hfc k hk i hi, add_add3]

end Go.Proofs.YtkehgoailhpenaaGreat

/- The walk of EditDiff. It has no conditions. -/
namespace Go.Proofs.YtkehgoailhpenaaGreat
open Go.RowKit Go.Shelf
set_option linter.unusedVariables false

theorem sb_cut_at (s : ByteArray) (f t i : Nat) (h : f + i < t) (ht : t ≤ s.size) : (sb (s.extract f t))[i]? = (sb s)[f + i]? := by
  rw [sb_cut, List.getElem?_take, if_pos (by omega), List.getElem?_drop]
/-- What is known of the edit of Diff. -/
structure DifE (a b : ByteArray) (e : Er) : Prop where
  p : 0 ≤ e.f
  q : e.f ≤ e.t
  r : e.t ≤ (a.size : Int)
  ne : a.extract e.f.toNat e.t.toNat ≠ e.x
  fst : 0 < (a.extract e.f.toNat e.t.toNat).size → 0 < e.x.size → (sb (a.extract e.f.toNat e.t.toNat))[0]? ≠ (sb e.x)[0]?
  lst : 0 < (a.extract e.f.toNat e.t.toNat).size → 0 < e.x.size → (sb (a.extract e.f.toNat e.t.toNat))[(a.extract e.f.toNat e.t.toNat).size - 1]? ≠ (sb e.x)[e.x.size - 1]?
theorem difr_ok {a b : ByteArray} {es : List Er} (h : DifR a b es) (ha : a.size ≤ 1000) (hb : b.size ≤ 1000) :
    vErr (a.size : Int) es = 0 ∧ apS a es = b ∧ es.length ≤ 1 ∧ (∀ e ∈ es, e.Fit) ∧ ∀ e ∈ es, DifE a b e := by
  rcases h with ⟨rfl, rfl⟩ | ⟨hne, p, q, hp, hq, rfl⟩
  · refine ⟨rfl, ?_, by simp, by simp, by simp⟩
    apply sb_inj
    rw [apS_ok rfl]; rfl
  · have hvld := dif_vld hp hq
    have happ := dif_appl hp hq
    have hends := dif_ends hp hq
    have hdn := dif_ne hp hq (fun e => hne (sb_inj e))
    have hp1 := hp.1; have hp2 := hp.2.1; have hq1 := hq.1; have hq2 := hq.2.1
    rw [sb_len] at hp1 hp2 hq1 hq2
    rw [sb_len, sb_len] at hends hdn
    have hbyt : ∀ e ∈ [dif (sb a) (sb b) p q], Byt e.x := by
      intro e he
      simp only [List.mem_singleton] at he
      subst he
      exact ((sb_byt b).drop p).take _
    have hx : (er (dif (sb a) (sb b) p q)).x = b.extract p (b.size - q) := by
      simp only [er, dif, sb_len]
      exact bs_cut b p (b.size - q)
    have hf : (er (dif (sb a) (sb b) p q)).f = (p : Int) := rfl
    have ht : (er (dif (sb a) (sb b) p q)).t = ((a.size - q : Nat) : Int) := by simp only [er, dif, sb_len]
    have hv : vErr (a.size : Int) [er (dif (sb a) (sb b) p q)] = 0 := vErr_ers (l := [dif (sb a) (sb b) p q]) (by rw [sb_len] at hvld; exact hvld) (by simp) hbyt
    have hxs : (b.extract p (b.size - q)).size = b.size - q - p := by rw [ByteArray.size_extract]; omega
    have hos : (a.extract p (a.size - q)).size = a.size - q - p := by rw [ByteArray.size_extract]; omega
    refine ⟨hv, ?_, by simp, ?_, ?_⟩
    · apply sb_inj
      rw [apS_ok hv, show ees [er (dif (sb a) (sb b) p q)] = [dif (sb a) (sb b) p q] from ees_ers hbyt]
      exact happ
    · intro e he
      simp only [List.mem_singleton] at he
      subst he
      refine ⟨?_, ?_, ?_, ?_, ?_⟩
      · rw [hf]; omega
      · rw [hf]; omega
      · rw [ht]; omega
      · rw [ht]; omega
      · rw [hx, hxs]; omega
    · intro e he
      simp only [List.mem_singleton] at he
      subst he
      have hfst : 0 < a.size - q - p → 0 < b.size - q - p → (sb (a.extract p (a.size - q)))[0]? ≠ (sb (b.extract p (b.size - q)))[0]? := by
        intro h1 h2
        rw [sb_cut_at _ _ _ _ (by omega) (by omega), sb_cut_at _ _ _ _ (by omega) (by omega)]
        exact (hends (by omega) (by omega)).1
      have hlst : 0 < a.size - q - p → 0 < b.size - q - p → (sb (a.extract p (a.size - q)))[a.size - q - p - 1]? ≠ (sb (b.extract p (b.size - q)))[b.size - q - p - 1]? := by
        intro h1 h2
        rw [sb_cut_at _ _ _ _ (by omega) (by omega), sb_cut_at _ _ _ _ (by omega) (by omega)]
        rw [show p + (a.size - q - p - 1) = a.size - 1 - q by omega, show p + (b.size - q - p - 1) = b.size - 1 - q by omega]
        exact (hends (by omega) (by omega)).2
      refine ⟨by rw [hf]; omega, by rw [hf, ht]; omega, by rw [ht]; omega, ?_, ?_, ?_⟩
      · rw [hf, ht, hx, Int.toNat_natCast, Int.toNat_natCast]
        intro he
        have hsz := congrArg ByteArray.size he
        rw [hxs, hos] at hsz
        by_cases h0 : 0 < a.size - q - p
        · exact hfst h0 (by omega) (by rw [he])
        · exact hdn ⟨by omega, by omega⟩
      · rw [hf, ht, hx, Int.toNat_natCast, Int.toNat_natCast, hos, hxs]; exact hfst
      · rw [hf, ht, hx, Int.toNat_natCast, Int.toNat_natCast, hos, hxs]; exact hlst

theorem emp_true {s : ByteArray} (h : s.size = 0) : (s.toList == []) = true := by
  rw [ByteArray.toList_eq]
  have : s.data.toList = [] := List.eq_nil_of_length_eq_zero (by simpa using h)
  rw [this]; rfl
theorem emp_false {s : ByteArray} (h : 0 < s.size) : (s.toList == []) = false := by
  rw [ByteArray.toList_eq, beq_eq_false_iff_ne]
  intro e
  have : s.data.toList.length = 0 := by rw [e]; rfl
  have h2 : 0 < s.data.size := h
  rw [Array.length_toList] at this; omega

end Go.Proofs.YtkehgoailhpenaaGreat

/- The walk of EditDiff. It has no conditions. -/
namespace Go.Proofs.YtkehgoailhpenaaGreat
open Go.RowKit Go.Shelf
set_option linter.unusedVariables false

theorem appl_le {s : List Int} {c : Nat} : ∀ {l : List Ee} {p : Nat}, Vld s.length p l → (∀ e ∈ l, e.x.length ≤ c) → (appl s p l).length ≤ s.length - p + c * l.length := by
  intro l
  induction l with
  | nil => intro p h _; simp [appl]
  | cons e l ih =>
    intro p h hx
    obtain ⟨h1, h2, h3, h4⟩ := h
    have hm := mid_len (s := s) h1 (by omega)
    have hi := ih h4 (fun x h => hx x (by simp [h]))
    have he := hx e (by simp)
    simp only [appl, List.length_append, hm, List.length_cons, Nat.mul_add, Nat.mul_one]
    omega
theorem apS_size {s : ByteArray} {es : List Er} {c : Nat} (h : vErr (s.size : Int) es = 0) (hx : ∀ e ∈ es, e.x.size ≤ c) : (apS s es).size ≤ s.size + c * es.length := by
  have h1 := apS_ok h
  have h2 := (vErr_ok h).2.1
  rw [← sb_len (apS s es), h1]
  have := appl_le (s := sb s) (c := c) (l := ees es) (p := 0) (by rw [sb_len]; exact h2) (fun e he => by
    obtain ⟨x, hx', rfl⟩ := List.mem_map.1 he
    show (sb x.x).length ≤ c
    rw [sb_len]; exact hx x hx')
  rw [sb_len, ees_len] at this
  omega

end Go.Proofs.YtkehgoailhpenaaGreat

/- The walk of EditInvert. It has no conditions. -/
namespace Go.Proofs.YtkehgoailhpenaaGreat
open Go.RowKit Go.Shelf
set_option linter.unusedVariables false

theorem invl_byt {s : List Int} (hs : Byt s) : ∀ (l : List Ee) (p q : Nat), ∀ e ∈ invl s p q l, Byt e.x := by
  intro l
  induction l with
  | nil => intro p q e he; simp [invl] at he
  | cons e l ih =>
    intro p q x hx
    simp only [invl, List.mem_cons] at hx
    rcases hx with rfl | hx
    · exact (hs.drop _).take _
    · exact ih _ _ x hx
theorem invl_short {s : List Int} : ∀ (l : List Ee) (p q : Nat), ∀ e ∈ invl s p q l, e.x.length ≤ s.length := by
  intro l
  induction l with
  | nil => intro p q e he; simp [invl] at he
  | cons e l ih =>
    intro p q x hx
    simp only [invl, List.mem_cons] at hx
    rcases hx with rfl | hx
    · simp only [List.length_take, List.length_drop]; omega
    · exact ih _ _ x hx
theorem iv_ok {s : ByteArray} {es : List Er} (hv : vErr (s.size : Int) es = 0) :
    vErr ((apS s es).size : Int) (ivS s es) = 0 ∧ apS (apS s es) (ivS s es) = s ∧ (ivS s es).length = es.length ∧ ∀ e ∈ ivS s es, e.x.size ≤ s.size := by
  obtain ⟨hl, hvld, _⟩ := vErr_ok hv
  have hiv : ivS s es = ers (invl (sb s) 0 0 (ees es)) := by unfold ivS; rw [if_pos hv]
  have hvld' : Vld (sb s).length 0 (ees es) := by rw [sb_len]; exact hvld
  have hap := apS_ok hv
  have hb := invl_byt (sb_byt s) (ees es) 0 0
  have hsz : (appl (sb s) 0 (ees es)).length = (apS s es).size := by rw [← sb_len (apS s es), hap]
  have h1 := invl_vld (q := 0) hvld'
  rw [Nat.zero_add, hsz] at h1
  have h2 := appl_invl (s := sb s) (l := ees es) (p := 0) (q := 0) (pre := []) hvld' rfl
  rw [List.nil_append, List.drop_zero] at h2
  have hlen : (invl (sb s) 0 0 (ees es)).length = es.length := by rw [invl_len, ees_len]
  have hve : vErr ((apS s es).size : Int) (ivS s es) = 0 := by rw [hiv]; exact vErr_ers h1 (by rw [hlen]; exact hl) hb
  refine ⟨hve, ?_, by rw [hiv, ers_len, hlen], ?_⟩
  · apply sb_inj
    rw [apS_ok hve, hap, hiv, ees_ers hb]
    exact h2
  · intro e he
    rw [hiv] at he
    obtain ⟨x, hx, rfl⟩ := List.mem_map.1 he
    have := invl_short (s := sb s) (ees es) 0 0 x hx
    rw [sb_len] at this
    show (bs x.x).size ≤ s.size
    rw [bs_size]; exact this
/-- Valid edits with short texts fit. -/
theorem fit_of {n : Nat} {es : List Er} (hv : vErr (n : Int) es = 0) (hn : n ≤ 10000000) (hx : ∀ e ∈ es, e.x.size ≤ 100000) : ∀ e ∈ es, e.Fit := by
  intro e he
  have h1 := (vErr_ok hv).2.2 e he
  have h2 := hx e he
  exact ⟨by omega, by omega, by omega, by omega, h2⟩
theorem SlI.on {w w' : World} {a : Option Addr} {n : Nat} (h : SlI w.heap.size w a n) (hb : Below w.heap.size w w') : SlI w'.heap.size w' a n := by
  rcases h.below hb with h0 | ⟨b, off, x1, x2, x3⟩
  · exact .inl h0
  · exact .inr ⟨b, off, x1, by have := hb.size; omega, x3⟩

end Go.Proofs.YtkehgoailhpenaaGreat

/- What a composition of valid edits is: valid, and leads to the same text; with the inverse, nothing. It has no conditions. -/
namespace Go.Proofs.YtkehgoailhpenaaGreat
open Go.RowKit Go.Shelf
set_option linter.unusedVariables false

theorem arl_short {s u : ByteArray} : ∀ {K : List Kp} {f q : Nat}, ∀ e ∈ arl s u f q K, e.x.size ≤ u.size := by
  have hg : ∀ f t q r, ∀ e ∈ gap s u f t q r, e.x.size ≤ u.size := by
    intro f t q r e he
    unfold gap at he
    split at he
    · simp at he
    · simp only [List.mem_singleton] at he
      subst he
      simp only [ByteArray.size_extract]
      omega
  intro K
  induction K with
  | nil => intro f q e he; exact hg _ _ _ _ e he
  | cons p K ih =>
    intro f q e he
    simp only [arl, List.mem_append] at he
    exact he.elim (hg _ _ _ _ e) (ih e)
theorem comp_ok {s : ByteArray} {a b : List Er} (ha : vErr (s.size : Int) a = 0) (hb : vErr ((apS s a).size : Int) b = 0) (hl : a.length + b.length + 3 ≤ 64) :
    cmE s a b = 0 ∧ cmS s a b = ers (cmpl (sb s) (ees a) (ees b)) ∧ vErr (s.size : Int) (cmS s a b) = 0 ∧ apS s (cmS s a b) = apS (apS s a) b ∧ (cmS s a b).length ≤ a.length + b.length + 3 ∧ ∀ e ∈ cmS s a b, e.x.size ≤ (apS (apS s a) b).size := by
  obtain ⟨_, va, _⟩ := vErr_ok ha
  obtain ⟨_, vb, _⟩ := vErr_ok hb
  have ht := apS_ok ha
  have hu := apS_ok hb
  have hlen := cmpl_len ha hb ht
  have hE : cmE s a b = 0 := by
    unfold cmE
    rw [if_pos ha, if_pos hb, if_neg (by omega)]
  have hC : cmS s a b = ers (cmpl (sb s) (ees a) (ees b)) := by unfold cmS; rw [if_pos hE]
  obtain ⟨K, k1, k2, k3⟩ := kept_comp (s := s) (t := apS s a) (u := apS (apS s a) b) ha hb ht hu
  have hbyt : ∀ e ∈ cmpl (sb s) (ees a) (ees b), Byt e.x := by rw [← k3]; exact ees_byt _
  have hCa : cmS s a b = arl s (apS (apS s a) b) 0 0 K := by rw [hC, ← k3, ers_ees arl_pos]
  have va' : Vld (sb s).length 0 (ees a) := by rw [sb_len]; exact va
  have vb' : Vld (appl (sb s) 0 (ees a)).length 0 (ees b) := by rw [← ht, sb_len]; exact vb
  obtain ⟨c1, c2⟩ := cmpl_appl va' vb'
  rw [sb_len] at c1
  have hv : vErr (s.size : Int) (cmS s a b) = 0 := by rw [hC]; exact vErr_ers c1 (by omega) hbyt
  refine ⟨hE, hC, hv, ?_, by rw [hC, ers_len]; exact hlen, ?_⟩
  · refine sb_inj ?_
    rw [apS_ok hv, hC, ees_ers hbyt, c2, ← ht, ← hu]
  · rw [hCa]
    exact arl_short
theorem comp_inv {s : ByteArray} {a : List Er} (ha : vErr (s.size : Int) a = 0) (hl : a.length ≤ 20) : cmE s a (ivS s a) = 0 ∧ cmS s a (ivS s a) = [] := by
  obtain ⟨_, va, _⟩ := vErr_ok ha
  obtain ⟨o1, _, o3, _⟩ := iv_ok ha
  obtain ⟨c1, c2, _⟩ := comp_ok ha o1 (by omega)
  refine ⟨c1, ?_⟩
  have hiv : ivS s a = ers (invl (sb s) 0 0 (ees a)) := by unfold ivS; rw [if_pos ha]
  rw [c2, hiv, ees_ers (invl_byt (sb_byt s) (ees a) 0 0), cmpl_inv (by rw [sb_len]; exact va)]
  rfl

end Go.Proofs.YtkehgoailhpenaaGreat

/- The mathematics of the program's Normal: a composition with no edits is the normal form. It has no conditions. -/
namespace Go.Proofs.YtkehgoailhpenaaGreat
open Go.RowKit Go.Shelf
set_option linter.unusedVariables false

theorem filt_pend {s : List Int} {a p : Nat} {x : List Int} (h : a ≤ p) (l : List Ee) : ((if a < p ∨ x ≠ [] then [(⟨a, p, x⟩ : Ee)] else []) ++ l).filter (Chg s) = ((⟨a, p, x⟩ : Ee) :: l).filter (Chg s) := by
  by_cases hc : a < p ∨ x ≠ []
  · rw [if_pos hc]; rfl
  · rw [if_neg hc]
    have h1 : a = p := by omega
    have h2 : x = [] := Classical.byContradiction fun e => hc (.inr e)
    subst h1 h2
    have : Chg s ⟨a, a, []⟩ = false := by unfold Chg; simp
    rw [List.nil_append, List.filter_cons, this]
    rfl
theorem srcl_nil (s : List Int) (p : Nat) (hp : p ≤ s.length) : srcl s p [] = pcs s p (s.length - p) := by
  unfold pcs
  rw [List.take_of_length_le (by rw [List.length_drop]; exact Nat.le_refl _)]
  rfl
theorem canon_srcl {s : List Int} : ∀ {l : List Ee} {a p : Nat} {x : List Int}, a ≤ p → Vld s.length p l → (canon s.length a x (srcl s p l)).filter (Chg s) = (jn ⟨a, p, x⟩ l).filter (Chg s) := by
  intro l
  induction l with
  | nil =>
    intro a p x ha h
    have hp : p ≤ s.length := h
    rw [srcl_nil s p hp]
    simp only [jn]
    by_cases hz : p = s.length
    · subst hz
      rw [Nat.sub_self, pcs_zero]
      simp only [canon]
      have := filt_pend (s := s) (x := x) ha []
      rw [List.append_nil] at this
      exact this
    · have hc := canon_piece (S := s) (n := s.length) (a := a) (x := x) (z := []) (k := p) (m := s.length - p) (by omega) (by omega)
      rw [List.append_nil] at hc
      have hl : canon s.length s.length [] [] = [] := by simp [canon]
      rw [hc, show p + (s.length - p) = s.length by omega, hl]
      exact filt_pend ha []
  | cons e l ih =>
    intro a p x ha h
    obtain ⟨h1, h2, h3, h4⟩ := h
    have hs : srcl s p (e :: l) = pcs s p (e.f - p) ++ (e.x.map (fun c => ((c, none) : Int × Option Nat)) ++ srcl s e.t l) := rfl
    have hx : (e.x.map (fun c => ((c, none) : Int × Option Nat))).map Prod.fst = e.x := by rw [List.map_map]; exact List.map_id _
    rw [hs]
    simp only [jn]
    by_cases hz : p = e.f
    · rw [if_pos hz, show e.f - p = 0 by omega, pcs_zero, List.nil_append, canon_new (all_new e.x), hx]
      exact ih (by omega) h4
    · rw [if_neg hz, canon_piece (by omega) (by omega), show p + (e.f - p) = e.f by omega, canon_new (all_new e.x), hx, List.nil_append, filt_pend ha, List.filter_cons, List.filter_cons, ih h2 h4]
/-- Composing with no edits gives the normal form. -/
theorem cmpl_nil {s : List Int} {l : List Ee} (h : Vld s.length 0 l) : cmpl s l [] = norml s l := by
  have hsrc := srcl_src h
  have hz : (srcl s 0 l).map Prod.fst = appl s 0 l := srcl_fst s l 0
  have ht : thru (srcl s 0 l) (srcl (appl s 0 l) 0 []) = srcl s 0 l := by
    rw [srcl_nil _ _ (Nat.zero_le _), thru_slice hz, List.drop_zero, Nat.sub_zero, List.take_of_length_le (by rw [← hz, List.length_map]; exact Nat.le_refl _)]
  unfold cmpl
  rw [ht]
  unfold norml
  rw [joinl_of_sep (canon_sep (x := []) hsrc), canon_srcl (Nat.le_refl _) h]
  cases l with
  | nil =>
    simp only [jn, joinl]
    have := filt_pend (s := s) (a := 0) (p := 0) (x := []) (Nat.le_refl _) []
    simpa using this.symm
  | cons e l =>
    simp only [jn, joinl]
    by_cases hz : (0 : Nat) = e.f
    · rw [if_pos hz]
      obtain ⟨f, t, x⟩ := e
      simp only at hz
      subst hz
      rfl
    · rw [if_neg hz]
      have := filt_pend (s := s) (a := 0) (p := 0) (x := []) (Nat.le_refl _) (jn e l)
      simpa using this.symm

end Go.Proofs.YtkehgoailhpenaaGreat

/- The contract of the program's Normal. Conditions: texts of at most 1000000 bytes, lists of at most 1000 edits. -/
namespace Go.Proofs.YtkehgoailhpenaaGreat
open Go.RowKit Go.Shelf
set_option linter.unusedVariables false

/-- The normal form of a list of edits, or nothing if it is not valid. -/
def nmS (s : ByteArray) (es : List Er) : List Er := if vErr (s.size : Int) es = 0 then ers (norml (sb s) (ees es)) else []
theorem cm_nil {s : ByteArray} {es : List Er} : cmE s es [] = vErr (s.size : Int) es ∧ cmS s es [] = nmS s es := by
  have hE : cmE s es [] = vErr (s.size : Int) es := by
    unfold cmE
    by_cases hv : vErr (s.size : Int) es = 0
    · obtain ⟨h1, h2, _⟩ := vErr_ok hv
      have hc : cmpl (sb s) (ees es) (ees []) = norml (sb s) (ees es) := cmpl_nil (by rw [sb_len]; exact h2)
      have hl := norml_len (sb s) (ees es)
      rw [ees_len] at hl
      have h0 : vErr ((apS s es).size : Int) [] = 0 := rfl
      rw [if_pos hv, if_pos h0, if_neg (by rw [hc]; omega), hv]
    · rw [if_neg hv]
  refine ⟨hE, ?_⟩
  unfold cmS nmS
  rw [hE]
  by_cases hv : vErr (s.size : Int) es = 0
  · rw [if_pos hv, if_pos hv]
    obtain ⟨h1, h2, _⟩ := vErr_ok hv
    have hc : cmpl (sb s) (ees es) (ees []) = norml (sb s) (ees es) := cmpl_nil (by rw [sb_len]; exact h2)
    rw [hc]
  · rw [if_neg hv, if_neg hv]
theorem apS_nil (s : ByteArray) : apS s [] = s := by
  have h : vErr (s.size : Int) [] = 0 := rfl
  refine sb_inj ?_
  rw [apS_ok h]
  rfl

end Go.Proofs.YtkehgoailhpenaaGreat

/- The contract of the reference's Sources. Conditions: texts of at most 100000 bytes, lists of at most 1000 edits, at most 1000000 sources. -/
namespace Go.Proofs.YtkehgoailhpenaaGreat
open Go.RowKit Go.Shelf
set_option linter.unusedVariables false

/-- Numbers from p on. -/
def rngI : Nat → Nat → List Int
  | _, 0 => []
  | p, m + 1 => (p : Int) :: rngI (p + 1) m
/-- The sources of a text's bytes after edits. -/
def srN (n : Nat) : Nat → List Er → List Int
  | p, [] => rngI p (n - p)
  | p, e :: l => rngI p (e.f.toNat - p) ++ (List.replicate e.x.size (-1) ++ srN n e.t.toNat l)
def enc (z : Int × Option Nat) : Int := match z.2 with
  | some k => (k : Int)
  | none => -1
theorem enc_pcs {S : List Int} : ∀ {m k : Nat}, k + m ≤ S.length → (pcs S k m).map enc = rngI k m := by
  intro m
  induction m with
  | zero => intro k _; rw [pcs_zero]; rfl
  | succ m ih =>
    intro k h
    rw [pcs_cons (by omega), List.map_cons, ih (by omega)]
    rfl
theorem enc_new (x : List Int) : (x.map (fun c => ((c, none) : Int × Option Nat))).map enc = List.replicate x.length (-1) := by
  rw [List.map_map]
  exact List.map_const' ..
theorem enc_srcl {s : ByteArray} : ∀ {l : List Er} {p : Nat}, Vld s.size p (ees l) → (srcl (sb s) p (ees l)).map enc = srN s.size p l := by
  intro l
  induction l with
  | nil =>
    intro p h
    have hp : p ≤ s.size := h
    show (srcl (sb s) p []).map enc = _
    rw [srcl_nil _ _ (by rw [sb_len]; exact hp), enc_pcs (by rw [sb_len]; omega), sb_len]
    rfl
  | cons e l ih =>
    intro p h
    rw [ees_cons] at h ⊢
    obtain ⟨h1, h2, h3, h4⟩ := h
    simp only [Er.ee] at h1 h2 h3 h4
    show (pcs (sb s) p (e.f.toNat - p) ++ ((sb e.x).map (fun c => ((c, none) : Int × Option Nat)) ++ srcl (sb s) e.t.toNat (ees l))).map enc = _
    rw [List.map_append, List.map_append, ih h4, enc_new, enc_pcs (by rw [sb_len]; omega), sb_len]
    rfl

/-- A row of integers of a call's own, and what lay lies as it lay. -/
def OutI (P : Nat) (w wr : World) (ov : Value) (zs : List Int) : Prop := wr.ownsRow P 3 1 ov zs.length (zs.map (Value.int .i64)) ∧ Below P w wr
theorem outi_step {P k : Nat} {w wr w3 : World} {ov v' : Value} {zs : List Int} {x : Int} {tmp : Obj} (h : OutI P w wr ov zs) (hP : P ≤ wr.heap.size) (hown3 : w3.ownsRow P 3 1 v' k (zs.map (Value.int .i64) ++ [.int .i64 x])) (hg : (wr.alloc tmp).grownBy w3 ov.ownBlock) : OutI P w w3 v' (zs ++ [x]) := by
  have h0 : zs.map (Value.int .i64) ++ [.int .i64 x] = (zs ++ [x]).map (Value.int .i64) := by simp
  rw [h0] at hown3
  have hk : k = (zs ++ [x]).length := by have := hown3.1; rw [List.length_map] at this; omega
  subst hk
  exact ⟨hown3, h.2.trans (((Below.refl _ _).alloc hP _).grown hg (by simp; omega) (fun g eg => (h.1.lt g eg).1))⟩
theorem infoI : (Tryz.prog.info? 3).map (fun i => (i.zero, i.size, i.bytes)) = some (some (.int .i64 0), 1, 8) := by kernel_rfl

end Go.Proofs.YtkehgoailhpenaaGreat
