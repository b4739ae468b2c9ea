/- Texts of one claim, put together: EOp, EDg, EDw, EIw, ECq, DBy, DSt, DDoc, DCl, DChk, DRem. Each part says what it proves and under which conditions. -/
import Derived.Test.YtkehgoailhpenaaGreatPE06
import Derived.Deep.Slices
import Derived.Maps.OwnSet
import Derived.Maps.OwnOps
import Derived.BigQuiet
import Derived.BigRegion
import Derived.Deep.QuietTactic
import Derived.OwnWalk
import Derived.Lib.SliceRun
import Derived.Maps.AppendAt

/- Slices of edits by offsets that come in. It has no conditions. -/
namespace Go.Proofs.YtkehgoailhpenaaGreat
open Go.RowKit Go.Shelf Go.ChangeShapes
set_option linter.unusedVariables false

theorem i64_of_wf {x : Int} (h : (Lit.int .i64 x).wf = true) : -9223372036854775808 ≤ x ∧ x ≤ 9223372036854775807 := wf_i64 h
set_option maxRecDepth 100000 in
theorem open_er {H : Type} {enc : TypeId × Value → H} {w : World} {base : Nat} {spare : Nat → Bool} {held : Bool} {fuel : Nat} {cs : List Value} {x : DataW H × List MemPlace} (h : DataW.trod enc Tryz.prog w base spare held fuel 84 cs = some x) :
    ∃ p : Er, cs = p.vals ∧ p.Big := by
  obtain ⟨xs, n, _, _, hlen, hxl, hf⟩ := DataW.trod_struct Tryz.underlying84 h
  have c5 : Tryz.prog.cellsOf 84 = 3 := by kernel_rfl
  have c2 : Tryz.prog.cellsOf 3 = 1 := by kernel_rfl
  have c1 : Tryz.prog.cellsOf 9 = 1 := by kernel_rfl
  rw [c5] at hlen
  match cs, hlen with
  | [v0, v1, v2], _ =>
    match xs, hxl with
    | [z0, z1, z2], _ =>
      have g0 := hf 0 _ rfl
      have g1 := hf 1 _ rfl
      have g2 := hf 2 _ rfl
      simp [c2, c1] at g0 g1 g2
      obtain ⟨l, e0, _, w0⟩ := DataW.trod_int Tryz.underlying3 g0
      obtain ⟨u, e1, _, w1⟩ := DataW.trod_int Tryz.underlying3 g1
      obtain ⟨t, e2, _, h3⟩ := DataW.trod_string Tryz.underlying9 g2
      simp only [List.cons.injEq, and_true] at e0 e1 e2
      subst e0 e1 e2
      have a0 := wf_i64 w0
      have a1 := wf_i64 w1
      unfold maxLen at h3
      exact ⟨⟨l, u, t⟩, rfl, a0.1, a0.2, a1.1, a1.2, by show t.size ≤ 9223372036854775807; omega⟩
theorem add_add3 (b off x y : Nat) : ((⟨b, off, none⟩ : Addr).add x).add y = ⟨b, off + x + y, none⟩ := by
  by_cases hx : x = 0 <;> by_cases hy : y = 0 <;> simp [Addr.add, hx, hy]
/-- What the frame of a law tells of a slice of edits that came in. -/
def IsEs (w : World) (a : Option Addr) (len cap : Nat) : Prop :=
  ∃ es : List Er, es.length = len ∧ (∀ e ∈ es, e.Big) ∧ ES w.heap.size w a cap es
theorem eg_of (f : Nat → Er) (n k : Nat) (h : k < n) : eg ((List.range n).map f) k = f k := by
  simp [eg, h]
theorem open_es {H : Type} {enc : TypeId × Value → H} {W : World} {fuel : Nat} {a : Option Addr} {len cap : Nat} {x : DataW H × List MemPlace} (h : DataW.trod enc Tryz.prog W 0 (fun _ => true) true fuel 38 [.slice a len cap] = some x) : IsEs W a len cap := by
  have c5 : Tryz.prog.cellsOf 84 = 3 := by kernel_rfl
  rcases Deep.open_slice Tryz.underlying38 h with ⟨hcs, _⟩ | ⟨ad, l, c, m, n, D, Pl, hcs, _, hl, hm, hmm, _, hx⟩
  · simp only [List.cons.injEq, Value.slice.injEq, and_true] at hcs
    obtain ⟨rfl, rfl, rfl⟩ := hcs
    exact ⟨[], rfl, by simp, ES.none _ _⟩
  · simp only [List.cons.injEq, Value.slice.injEq, and_true] at hcs
    obtain ⟨rfl, rfl, rfl⟩ := hcs
    have hlm : len ≤ m := by rw [hmm]; simp; exact hl
    rw [c5] at hx
    have each : ∀ k, k < len → ∃ p : Er, p.Big ∧ ∀ i, i < 3 → W.cell? ((ad.add (k * 3)).add i) = p.vals[i]? := by
      intro k hk
      obtain ⟨cs', h1, h2⟩ := hx k (by omega)
      obtain ⟨_, _, hcell⟩ := World.cells?_some h1
      obtain ⟨p, rfl, hp⟩ := open_er h2
      exact ⟨p, hp, hcell⟩
    let f : Nat → Er := fun k => if hk : k < len then (each k hk).choose else dE
    have hfb : ∀ k, k < len → (f k).Big := fun k hk => by simp only [f, dif_pos hk]; exact (each k hk).choose_spec.1
    have hfc : ∀ k, k < len → ∀ i, i < 3 → W.cell? ((ad.add (k * 3)).add i) = (f k).vals[i]? := fun k hk => by simp only [f, dif_pos hk]; exact (each k hk).choose_spec.2
    have hln : ((List.range len).map f).length = len := by simp
    refine ⟨(List.range len).map f, hln, ?_, ?_⟩
    · intro e he
      obtain ⟨k, hk, rfl⟩ := List.mem_map.1 he
      exact hfb k (List.mem_range.1 hk)
    · refine ⟨by rw [hln]; exact hl, by unfold maxLen at hm; omega, (fun h => by cases h), ?_⟩
      by_cases h0 : len = 0
      · exact .inl (by rw [hln]; exact h0)
      · obtain ⟨b, off, spot⟩ := ad
        have hc0 := hfc 0 (by omega) 0 (by omega)
        have hspot : spot = none := by simpa [Addr.add] using World.cell?_spot hc0
        subst hspot
        have hlt : b < W.heap.size := by
          have := World.block_lt_of_cell? W _ hc0
          simpa [Addr.add] using this
        refine .inr ⟨b, off, rfl, hlt, fun k hk i hi => ?_⟩
        rw [hln] at hk
        rw [eg_of f len k hk, ← hfc k hk i hi, add_add3]

end Go.Proofs.YtkehgoailhpenaaGreat

/- The walk of EditDiff. It has no conditions. -/
namespace Go.Proofs.YtkehgoailhpenaaGreat
open Go.RowKit Go.Shelf
set_option linter.unusedVariables false

theorem sb_cut_at (s : ByteArray) (f t i : Nat) (h : f + i < t) (ht : t ≤ s.size) : (sb (s.extract f t))[i]? = (sb s)[f + i]? := by
  rw [sb_cut, List.getElem?_take, if_pos (by omega), List.getElem?_drop]
/-- What is known of the edit of Diff. -/
structure DifE (a b : ByteArray) (e : Er) : Prop where
  p : 0 ≤ e.f
  q : e.f ≤ e.t
  r : e.t ≤ (a.size : Int)
  ne : a.extract e.f.toNat e.t.toNat ≠ e.x
  fst : 0 < (a.extract e.f.toNat e.t.toNat).size → 0 < e.x.size → (sb (a.extract e.f.toNat e.t.toNat))[0]? ≠ (sb e.x)[0]?
  lst : 0 < (a.extract e.f.toNat e.t.toNat).size → 0 < e.x.size → (sb (a.extract e.f.toNat e.t.toNat))[(a.extract e.f.toNat e.t.toNat).size - 1]? ≠ (sb e.x)[e.x.size - 1]?
theorem difr_ok {a b : ByteArray} {es : List Er} (h : DifR a b es) (ha : a.size ≤ 1000) (hb : b.size ≤ 1000) :
    vErr (a.size : Int) es = 0 ∧ apS a es = b ∧ es.length ≤ 1 ∧ (∀ e ∈ es, e.Fit) ∧ ∀ e ∈ es, DifE a b e := by
  rcases h with ⟨rfl, rfl⟩ | ⟨hne, p, q, hp, hq, rfl⟩
  · refine ⟨rfl, ?_, by simp, by simp, by simp⟩
    apply sb_inj
    rw [apS_ok rfl]; rfl
  · have hvld := dif_vld hp hq
    have happ := dif_appl hp hq
    have hends := dif_ends hp hq
    have hdn := dif_ne hp hq (fun e => hne (sb_inj e))
    have hp1 := hp.1; have hp2 := hp.2.1; have hq1 := hq.1; have hq2 := hq.2.1
    rw [sb_len] at hp1 hp2 hq1 hq2
    rw [sb_len, sb_len] at hends hdn
    have hbyt : ∀ e ∈ [dif (sb a) (sb b) p q], Byt e.x := by
      intro e he
      simp only [List.mem_singleton] at he
      subst he
      exact ((sb_byt b).drop p).take _
    have hx : (er (dif (sb a) (sb b) p q)).x = b.extract p (b.size - q) := by
      simp only [er, dif, sb_len]
      exact bs_cut b p (b.size - q)
    have hf : (er (dif (sb a) (sb b) p q)).f = (p : Int) := rfl
    have ht : (er (dif (sb a) (sb b) p q)).t = ((a.size - q : Nat) : Int) := by simp only [er, dif, sb_len]
    have hv : vErr (a.size : Int) [er (dif (sb a) (sb b) p q)] = 0 := vErr_ers (l := [dif (sb a) (sb b) p q]) (by rw [sb_len] at hvld; exact hvld) (by simp) hbyt
    have hxs : (b.extract p (b.size - q)).size = b.size - q - p := by rw [ByteArray.size_extract]; omega
    have hos : (a.extract p (a.size - q)).size = a.size - q - p := by rw [ByteArray.size_extract]; omega
    refine ⟨hv, ?_, by simp, ?_, ?_⟩
    · apply sb_inj
      rw [apS_ok hv, show ees [er (dif (sb a) (sb b) p q)] = [dif (sb a) (sb b) p q] from ees_ers hbyt]
      exact happ
    · intro e he
      simp only [List.mem_singleton] at he
      subst he
      refine ⟨?_, ?_, ?_, ?_, ?_⟩
      · rw [hf]; omega
      · rw [hf]; omega
      · rw [ht]; omega
      · rw [ht]; omega
      · rw [hx, hxs]; omega
    · intro e he
      simp only [List.mem_singleton] at he
      subst he
      have hfst : 0 < a.size - q - p → 0 < b.size - q - p → (sb (a.extract p (a.size - q)))[0]? ≠ (sb (b.extract p (b.size - q)))[0]? := by
        intro h1 h2
        rw [sb_cut_at _ _ _ _ (by omega) (by omega), sb_cut_at _ _ _ _ (by omega) (by omega)]
        exact (hends (by omega) (by omega)).1
      have hlst : 0 < a.size - q - p → 0 < b.size - q - p → (sb (a.extract p (a.size - q)))[a.size - q - p - 1]? ≠ (sb (b.extract p (b.size - q)))[b.size - q - p - 1]? := by
        intro h1 h2
        rw [sb_cut_at _ _ _ _ (by omega) (by omega), sb_cut_at _ _ _ _ (by omega) (by omega)]
        rw [show p + (a.size - q - p - 1) = a.size - 1 - q by omega, show p + (b.size - q - p - 1) = b.size - 1 - q by omega]
        exact (hends (by omega) (by omega)).2
      refine ⟨by rw [hf]; omega, by rw [hf, ht]; omega, by rw [ht]; omega, ?_, ?_, ?_⟩
      · rw [hf, ht, hx, Int.toNat_natCast, Int.toNat_natCast]
        intro he
        have hsz := congrArg ByteArray.size he
        rw [hxs, hos] at hsz
        by_cases h0 : 0 < a.size - q - p
        · exact hfst h0 (by omega) (by rw [he])
        · exact hdn ⟨by omega, by omega⟩
      · rw [hf, ht, hx, Int.toNat_natCast, Int.toNat_natCast, hos, hxs]; exact hfst
      · rw [hf, ht, hx, Int.toNat_natCast, Int.toNat_natCast, hos, hxs]; exact hlst

theorem emp_true {s : ByteArray} (h : s.size = 0) : (s.toList == []) = true := by
  rw [ByteArray.toList_eq]
  have : s.data.toList = [] := List.eq_nil_of_length_eq_zero (by simpa using h)
  rw [this]; rfl
theorem emp_false {s : ByteArray} (h : 0 < s.size) : (s.toList == []) = false := by
  rw [ByteArray.toList_eq, beq_eq_false_iff_ne]
  intro e
  have : s.data.toList.length = 0 := by rw [e]; rfl
  have h2 : 0 < s.data.size := h
  rw [Array.length_toList] at this; omega

end Go.Proofs.YtkehgoailhpenaaGreat

/- The walk of EditDiff. It has no conditions. -/
namespace Go.Proofs.YtkehgoailhpenaaGreat
open Go.RowKit Go.Shelf
set_option linter.unusedVariables false

theorem appl_le {s : List Int} {c : Nat} : ∀ {l : List Ee} {p : Nat}, Vld s.length p l → (∀ e ∈ l, e.x.length ≤ c) → (appl s p l).length ≤ s.length - p + c * l.length := by
  intro l
  induction l with
  | nil => intro p h _; simp [appl]
  | cons e l ih =>
    intro p h hx
    obtain ⟨h1, h2, h3, h4⟩ := h
    have hm := mid_len (s := s) h1 (by omega)
    have hi := ih h4 (fun x h => hx x (by simp [h]))
    have he := hx e (by simp)
    simp only [appl, List.length_append, hm, List.length_cons, Nat.mul_add, Nat.mul_one]
    omega
theorem apS_size {s : ByteArray} {es : List Er} {c : Nat} (h : vErr (s.size : Int) es = 0) (hx : ∀ e ∈ es, e.x.size ≤ c) : (apS s es).size ≤ s.size + c * es.length := by
  have h1 := apS_ok h
  have h2 := (vErr_ok h).2.1
  rw [← sb_len (apS s es), h1]
  have := appl_le (s := sb s) (c := c) (l := ees es) (p := 0) (by rw [sb_len]; exact h2) (fun e he => by
    obtain ⟨x, hx', rfl⟩ := List.mem_map.1 he
    show (sb x.x).length ≤ c
    rw [sb_len]; exact hx x hx')
  rw [sb_len, ees_len] at this
  omega

end Go.Proofs.YtkehgoailhpenaaGreat

/- The walk of EditInvert. It has no conditions. -/
namespace Go.Proofs.YtkehgoailhpenaaGreat
open Go.RowKit Go.Shelf
set_option linter.unusedVariables false

theorem invl_byt {s : List Int} (hs : Byt s) : ∀ (l : List Ee) (p q : Nat), ∀ e ∈ invl s p q l, Byt e.x := by
  intro l
  induction l with
  | nil => intro p q e he; simp [invl] at he
  | cons e l ih =>
    intro p q x hx
    simp only [invl, List.mem_cons] at hx
    rcases hx with rfl | hx
    · exact (hs.drop _).take _
    · exact ih _ _ x hx
theorem invl_short {s : List Int} : ∀ (l : List Ee) (p q : Nat), ∀ e ∈ invl s p q l, e.x.length ≤ s.length := by
  intro l
  induction l with
  | nil => intro p q e he; simp [invl] at he
  | cons e l ih =>
    intro p q x hx
    simp only [invl, List.mem_cons] at hx
    rcases hx with rfl | hx
    · simp only [List.length_take, List.length_drop]; omega
    · exact ih _ _ x hx
theorem iv_ok {s : ByteArray} {es : List Er} (hv : vErr (s.size : Int) es = 0) :
    vErr ((apS s es).size : Int) (ivS s es) = 0 ∧ apS (apS s es) (ivS s es) = s ∧ (ivS s es).length = es.length ∧ ∀ e ∈ ivS s es, e.x.size ≤ s.size := by
  obtain ⟨hl, hvld, _⟩ := vErr_ok hv
  have hiv : ivS s es = ers (invl (sb s) 0 0 (ees es)) := by unfold ivS; rw [if_pos hv]
  have hvld' : Vld (sb s).length 0 (ees es) := by rw [sb_len]; exact hvld
  have hap := apS_ok hv
  have hb := invl_byt (sb_byt s) (ees es) 0 0
  have hsz : (appl (sb s) 0 (ees es)).length = (apS s es).size := by rw [← sb_len (apS s es), hap]
  have h1 := invl_vld (q := 0) hvld'
  rw [Nat.zero_add, hsz] at h1
  have h2 := appl_invl (s := sb s) (l := ees es) (p := 0) (q := 0) (pre := []) hvld' rfl
  rw [List.nil_append, List.drop_zero] at h2
  have hlen : (invl (sb s) 0 0 (ees es)).length = es.length := by rw [invl_len, ees_len]
  have hve : vErr ((apS s es).size : Int) (ivS s es) = 0 := by rw [hiv]; exact vErr_ers h1 (by rw [hlen]; exact hl) hb
  refine ⟨hve, ?_, by rw [hiv, ers_len, hlen], ?_⟩
  · apply sb_inj
    rw [apS_ok hve, hap, hiv, ees_ers hb]
    exact h2
  · intro e he
    rw [hiv] at he
    obtain ⟨x, hx, rfl⟩ := List.mem_map.1 he
    have := invl_short (s := sb s) (ees es) 0 0 x hx
    rw [sb_len] at this
    show (bs x.x).size ≤ s.size
    rw [bs_size]; exact this
/-- Valid edits with short texts fit. -/
theorem fit_of {n : Nat} {es : List Er} (hv : vErr (n : Int) es = 0) (hn : n ≤ 10000000) (hx : ∀ e ∈ es, e.x.size ≤ 100000) : ∀ e ∈ es, e.Fit := by
  intro e he
  have h1 := (vErr_ok hv).2.2 e he
  have h2 := hx e he
  exact ⟨by omega, by omega, by omega, by omega, h2⟩
theorem SlI.on {w w' : World} {a : Option Addr} {n : Nat} (h : SlI w.heap.size w a n) (hb : Below w.heap.size w w') : SlI w'.heap.size w' a n := by
  rcases h.below hb with h0 | ⟨b, off, x1, x2, x3⟩
  · exact .inl h0
  · exact .inr ⟨b, off, x1, by have := hb.size; omega, x3⟩

end Go.Proofs.YtkehgoailhpenaaGreat

/- What a composition of valid edits is: valid, and leads to the same text; with the inverse, nothing. It has no conditions. -/
namespace Go.Proofs.YtkehgoailhpenaaGreat
open Go.RowKit Go.Shelf
set_option linter.unusedVariables false

theorem arl_short {s u : ByteArray} : ∀ {K : List Kp} {f q : Nat}, ∀ e ∈ arl s u f q K, e.x.size ≤ u.size := by
  have hg : ∀ f t q r, ∀ e ∈ gap s u f t q r, e.x.size ≤ u.size := by
    intro f t q r e he
    unfold gap at he
    split at he
    · simp at he
    · simp only [List.mem_singleton] at he
      subst he
      simp only [ByteArray.size_extract]
      omega
  intro K
  induction K with
  | nil => intro f q e he; exact hg _ _ _ _ e he
  | cons p K ih =>
    intro f q e he
    simp only [arl, List.mem_append] at he
    exact he.elim (hg _ _ _ _ e) (ih e)
theorem comp_ok {s : ByteArray} {a b : List Er} (ha : vErr (s.size : Int) a = 0) (hb : vErr ((apS s a).size : Int) b = 0) (hl : a.length + b.length + 3 ≤ 64) :
    cmE s a b = 0 ∧ cmS s a b = ers (cmpl (sb s) (ees a) (ees b)) ∧ vErr (s.size : Int) (cmS s a b) = 0 ∧ apS s (cmS s a b) = apS (apS s a) b ∧ (cmS s a b).length ≤ a.length + b.length + 3 ∧ ∀ e ∈ cmS s a b, e.x.size ≤ (apS (apS s a) b).size := by
  obtain ⟨_, va, _⟩ := vErr_ok ha
  obtain ⟨_, vb, _⟩ := vErr_ok hb
  have ht := apS_ok ha
  have hu := apS_ok hb
  have hlen := cmpl_len ha hb ht
  have hE : cmE s a b = 0 := by
    unfold cmE
    rw [if_pos ha, if_pos hb, if_neg (by omega)]
  have hC : cmS s a b = ers (cmpl (sb s) (ees a) (ees b)) := by unfold cmS; rw [if_pos hE]
  obtain ⟨K, k1, k2, k3⟩ := kept_comp (s := s) (t := apS s a) (u := apS (apS s a) b) ha hb ht hu
  have hbyt : ∀ e ∈ cmpl (sb s) (ees a) (ees b), Byt e.x := by rw [← k3]; exact ees_byt _
  have hCa : cmS s a b = arl s (apS (apS s a) b) 0 0 K := by rw [hC, ← k3, ers_ees arl_pos]
  have va' : Vld (sb s).length 0 (ees a) := by rw [sb_len]; exact va
  have vb' : Vld (appl (sb s) 0 (ees a)).length 0 (ees b) := by rw [← ht, sb_len]; exact vb
  obtain ⟨c1, c2⟩ := cmpl_appl va' vb'
  rw [sb_len] at c1
  have hv : vErr (s.size : Int) (cmS s a b) = 0 := by rw [hC]; exact vErr_ers c1 (by omega) hbyt
  refine ⟨hE, hC, hv, ?_, by rw [hC, ers_len]; exact hlen, ?_⟩
  · refine sb_inj ?_
    rw [apS_ok hv, hC, ees_ers hbyt, c2, ← ht, ← hu]
  · rw [hCa]
    exact arl_short
theorem comp_inv {s : ByteArray} {a : List Er} (ha : vErr (s.size : Int) a = 0) (hl : a.length ≤ 20) : cmE s a (ivS s a) = 0 ∧ cmS s a (ivS s a) = [] := by
  obtain ⟨_, va, _⟩ := vErr_ok ha
  obtain ⟨o1, _, o3, _⟩ := iv_ok ha
  obtain ⟨c1, c2, _⟩ := comp_ok ha o1 (by omega)
  refine ⟨c1, ?_⟩
  have hiv : ivS s a = ers (invl (sb s) 0 0 (ees a)) := by unfold ivS; rw [if_pos ha]
  rw [c2, hiv, ees_ers (invl_byt (sb_byt s) (ees a) 0 0), cmpl_inv (by rw [sb_len]; exact va)]
  rfl

end Go.Proofs.YtkehgoailhpenaaGreat

/- Bytes as a function: the edits by offsets that edits by positions become, and the error. Conditions: texts of at most 100000 bytes, lists of at most 1000 edits. -/
namespace Go.Proofs.YtkehgoailhpenaaGreat
open Go.RowKit Go.Shelf
set_option linter.unusedVariables false

theorem ed_ex (Z : List Int) (p : PE) : ∃ x : Ed × Int, EdS Z p x.1 x.2 := by
  obtain ⟨d, er, h⟩ := ed_total Z p
  exact ⟨(d, er), h⟩
/-- What an edit by positions becomes, and its error. -/
noncomputable def edD (Z : List Int) (p : PE) : Ed × Int := Classical.choose (ed_ex Z p)
theorem edD_ok (Z : List Int) (p : PE) : EdS Z p (edD Z p).1 (edD Z p).2 := Classical.choose_spec (ed_ex Z p)
theorem edD_eq {Z : List Int} {p : PE} {d : Ed} {er : Int} (h : EdS Z p d er) : edD Z p = (d, er) := by
  obtain ⟨h1, h2⟩ := (edD_ok Z p).det h
  exact Prod.ext h1 h2
def Ed.er (d : Ed) : Er := ⟨(d.f : Int), (d.o : Int), d.t⟩
/-- The first error. -/
noncomputable def pE0 (Z : List Int) : List PE → Int
  | [] => 0
  | p :: l => if (edD Z p).2 = 0 then pE0 Z l else (edD Z p).2
noncomputable def pE (s : ByteArray) (l : List PE) : Int := if 64 < l.length then 4 else pE0 (sb s) l
noncomputable def pL (s : ByteArray) (l : List PE) : List Er := if pE s l = 0 then l.map (fun p => (edD (sb s) p).1.er) else []
def dPE : PE := ⟨0, 0, 0, 0, ⟨#[]⟩⟩
def pG (ps : List PE) (k : Nat) : PE := ps[k]?.getD dPE
theorem pG_eq {ps : List PE} {k : Nat} (h : k < ps.length) : ps[k]? = some (pG ps k) := by simp [pG, List.getElem?_eq_getElem h]
theorem pG_mem {ps : List PE} {k : Nat} (h : k < ps.length) : pG ps k ∈ ps := List.mem_of_getElem? (pG_eq h)
theorem pG_drop {ps : List PE} {k : Nat} (h : k < ps.length) : ps.drop k = pG ps k :: ps.drop (k + 1) := by
  rw [List.drop_eq_getElem_cons h]; simp [pG, List.getElem?_eq_getElem h]
theorem pE0_drop (Z : List Int) (ps : List PE) : ∀ k, k ≤ ps.length → (∀ j, j < k → (edD Z (pG ps j)).2 = 0) → pE0 Z ps = pE0 Z (ps.drop k) := by
  intro k
  induction k with
  | zero => intro _ _; rfl
  | succ k ih =>
    intro hk h
    rw [ih (by omega) (fun j hj => h j (by omega)), pG_drop (by omega)]
    simp only [pE0]
    rw [if_pos (h k (by omega))]
theorem pE0_zero {Z : List Int} {ps : List PE} (h : ∀ j, j < ps.length → (edD Z (pG ps j)).2 = 0) : pE0 Z ps = 0 := by
  rw [pE0_drop Z ps ps.length (Nat.le_refl _) h, List.drop_length]; rfl
theorem pE0_first {Z : List Int} {ps : List PE} {er : Int} (h : FirstE ps.length (fun k => (edD Z (pG ps k)).2) er) : pE0 Z ps = er := by
  obtain ⟨k, h1, h2, h3, h4⟩ := h
  rw [pE0_drop Z ps k (by omega) h4, pG_drop h1]
  simp only [pE0]
  simp only at h2
  rw [if_neg (by rw [h2]; exact h3), h2]
theorem pE_det {s : ByteArray} {ps : List PE} {m : Nat} {er : Int} (h : Det ps.length (fun k => (edD (sb s) (pG ps k)).2) m er) : er = pE s ps ∧ m = (pL s ps).length := by
  unfold pL
  rcases h with ⟨h1, rfl, rfl⟩ | ⟨h1, h2, rfl⟩ | ⟨h1, h2, rfl, rfl⟩
  · have : pE s ps = 4 := by unfold pE; rw [if_pos h1]
    rw [this]; exact ⟨rfl, rfl⟩
  · have h3 : pE s ps = er := by unfold pE; rw [if_neg (by omega), pE0_first h2]
    obtain ⟨_, _, _, h4, _⟩ := h2
    rw [h3, if_neg h4]; exact ⟨rfl, rfl⟩
  · have h3 : pE s ps = 0 := by unfold pE; rw [if_neg (by omega), pE0_zero h2]
    rw [h3, if_pos rfl, List.length_map]; exact ⟨rfl, rfl⟩
theorem pL_get {s : ByteArray} {ps : List PE} {k : Nat} (h : k < (pL s ps).length) : eg (pL s ps) k = (edD (sb s) (pG ps k)).1.er := by
  unfold pL at h ⊢
  split at h
  · rename_i h0
    rw [if_pos h0]
    rw [List.length_map] at h
    simp [eg, pG, List.getElem?_eq_getElem h]
  · simp at h
theorem pL_len (s : ByteArray) (ps : List PE) : (pL s ps).length ≤ ps.length ∧ (pL s ps).length ≤ 64 := by
  unfold pL
  split
  · rename_i h
    rw [List.length_map]
    unfold pE at h
    split at h
    · omega
    · exact ⟨Nat.le_refl _, by omega⟩
  · exact ⟨Nat.zero_le _, Nat.zero_le _⟩
/-- A slice of edits by positions lies in memory, below block B. -/
structure PS (B : Nat) (w : World) (a : Option Addr) (cap : Nat) (ps : List PE) : Prop where
  le : ps.length ≤ cap
  mx : cap ≤ 9223372036854775807
  cells : PCells B w a ps.length (pG ps)
theorem PS.below {B : Nat} {w w' : World} {a : Option Addr} {cap : Nat} {ps : List PE} (h : PS B w a cap ps) (hb : Below B w w') : PS B w' a cap ps := ⟨h.le, h.mx, h.cells.below hb⟩
theorem PS.mono {B B' : Nat} {w : World} {a : Option Addr} {cap : Nat} {ps : List PE} (h : PS B w a cap ps) (hb : B ≤ B') : PS B' w a cap ps := ⟨h.le, h.mx, h.cells.mono hb⟩
theorem PS.on {w w' : World} {a : Option Addr} {cap : Nat} {ps : List PE} (h : PS w.heap.size w a cap ps) (hb : Below w.heap.size w w') : PS w'.heap.size w' a cap ps := (h.below hb).mono hb.size
theorem edD_fit {Z : List Int} {p : PE} (hZ : Z.length ≤ 100000) (hp : p.t.size ≤ 100000) : ((edD Z p).1.er).Fit := by
  obtain ⟨o1, e1, o2, e2, a1, a2, h⟩ := edD_ok Z p
  have l1 := off_le a1
  have l2 := off_le a2
  rcases h with ⟨_, _, h⟩ | ⟨_, _, _, h⟩ | ⟨_, _, _, _, h⟩ | ⟨_, _, _, _, h⟩
  all_goals (rw [h]; refine ⟨?_, ?_, ?_, ?_, ?_⟩)
  all_goals simp only [Ed.er, Ed.zero]
  all_goals first | omega | exact hp | exact Nat.zero_le _
theorem pL_fit {s : ByteArray} {ps : List PE} (hs : s.size ≤ 100000) (hp : ∀ p ∈ ps, p.t.size ≤ 100000) : ∀ e ∈ pL s ps, e.Fit := by
  unfold pL
  split
  · intro e he
    obtain ⟨p, hpm, rfl⟩ := List.mem_map.1 he
    exact edD_fit (by rw [sb_len]; exact hs) (hp p hpm)
  · intro e he; simp at he

/-- The block of a slice. -/
def blkOf (a : Option Addr) (b : Nat) : Prop := ∃ off, a = some ⟨b, off, none⟩
def BytesPostF (n : Nat) (ds : Nat → Ed) (ers : Nat → Int) (w : World) (e : Ending) (w' : World) : Prop :=
  (64 < n ∧ Below w.heap.size w w' ∧ e = .returned (.tuple #[.slice none 0 0, .int .i64 4])) ∨ (n ≤ 64 ∧ EdsPostF n ds ers w e w')
set_option maxRecDepth 100000 in
set_option maxHeartbeats 1000000 in
theorem pbytesF_any (s : ByteArray) (a : Option Addr) (n cap : Nat) (es : Nat → PE) (ds : Nat → Ed) (ers : Nat → Int) (w : World) (hs : s.size ≤ 100000) (hn : n ≤ 1000) (hcap : n ≤ cap) (hfit : ∀ k, k < n → (es k).fit) (hc : PCells w.heap.size w a n es) (h : ∀ k, k < n → EdS (sb s) (es k) (ds k) (ers k)) :
    Calls Tryz.prog 65 #[.string s, .slice a n cap] w (BytesPostF n ds ers w) := by
  obtain ⟨W1, hW1⟩ : ∃ W, w.alloc (.cells #[.string s] 9) = W := ⟨_, rfl⟩
  have hb1 : Below w.heap.size w W1 := by rw [← hW1]; exact (Below.refl _ _).alloc (Nat.le_refl _) _
  have hx1 : Boxed W1 w.heap.size 9 (.string s) := by rw [← hW1]; exact Boxed.new _ _ _
  have HB1 := Lib.hid hb1; have HW1 := Lib.hid hW1
  by_cases hlim : 64 < n
  · have hl2 : (64 : Int) < (n : Int) := by omega
    clear hW1 hx1 hb1 h hc hfit
    go_enter Tryz.func65, Tryz.ntmps65
    go_wp2
    go_ret2
    exact .inl ⟨hlim, by rw [show w.alloc (.cells #[.string s] 9) = W1 from HW1.out]; exact HB1.out, rfl⟩
  · have hl2 : ¬ (64 : Int) < (n : Int) := by omega
    have C := Lib.hid (conv_edsF s w.heap.size a n cap es ds ers W1 hs (by omega) hcap hfit ((hc.below hb1).mono hb1.size) hx1 h)
    clear hW1 hx1 hb1 h hc hfit
    go_enter Tryz.func65, Tryz.ntmps65
    go_wp2_with fail
    rw [show w.alloc (.cells #[.string s] 9) = W1 from HW1.out]
    refine C.out.mono ?_
    rintro e w2 ⟨hb, hway⟩
    have H2 := Lib.hid (HB1.out.trans (hb.mono HB1.out.size))
    clear hb
    rcases hway with ⟨er, hf, rfl⟩ | ⟨hz, a2, c2, rfl, hc2⟩
    · have HF := Lib.hid hf
      clear hf
      go_wp2
      go_ret2
      exact .inr ⟨by omega, H2.out, .inl ⟨er, HF.out, rfl⟩⟩
    · have HF := Lib.hid (And.intro hz hc2)
      have HZ1 : Hid (w.heap.size ≤ W1.heap.size) := HB1.out.size
      clear hz hc2
      go_wp2
      go_ret2
      exact .inr ⟨by omega, H2.out, .inr ⟨HF.out.1, a2, c2, rfl, HF.out.2.1, HF.out.2.2.1, HF.out.2.2.2.1, fun b off hb => Nat.le_trans HZ1.out (HF.out.2.2.2.2 b off hb)⟩⟩

theorem bytesF_one {n : Nat} {ds : Nat → Ed} {ers : Nat → Int} {w : World} {e : Ending} {w' : World} (h : BytesPostF n ds ers w e w') :
    ∃ m er a cap, e = .returned (.tuple #[.slice a m cap, .int .i64 er]) ∧ m ≤ cap ∧ cap ≤ 9223372036854775807 ∧ ECells w'.heap.size w' a m ds ∧ Det n ers m er ∧ Below w.heap.size w w' ∧ ∀ b, blkOf a b → w.heap.size ≤ b := by
  have hno : ∀ b, blkOf none b → w.heap.size ≤ b := fun b ⟨_, hb⟩ => by cases hb
  rcases h with ⟨h1, hb, rfl⟩ | ⟨h1, hb, ⟨er, hf, rfl⟩ | ⟨hz, a, cap, rfl, h2, h3, h4, h5⟩⟩
  · exact ⟨0, 4, none, 0, rfl, Nat.le_refl _, by omega, .inl rfl, .inl ⟨h1, rfl, rfl⟩, hb, hno⟩
  · exact ⟨0, er, none, 0, rfl, Nat.le_refl _, by omega, .inl rfl, .inr (.inl ⟨h1, hf, rfl⟩), hb, hno⟩
  · exact ⟨n, 0, a, cap, rfl, h2, h3, h4, .inr (.inr ⟨h1, hz, rfl, rfl⟩), hb, fun b ⟨off, ha⟩ => h5 b off ha⟩
/-- A call hands back a new slice of these edits, and an error. -/
def NewESF (w : World) (es : List Er) (er : Int) (e : Ending) (w' : World) : Prop :=
  ∃ a cap, e = .returned (.tuple #[.slice a es.length cap, .int .i64 er]) ∧ ES w'.heap.size w' a cap es ∧ (∀ b, blkOf a b → w.heap.size ≤ b) ∧ Below w.heap.size w w'

theorem dbytes_any (s : ByteArray) (a : Option Addr) (cap : Nat) (ps : List PE) (w : World) (hs : s.size ≤ 100000) (hn : ps.length ≤ 1000) (hfit : ∀ p ∈ ps, p.fit) (hS : PS w.heap.size w a cap ps) :
    Calls Tryz.prog 65 #[.string s, .slice a ps.length cap] w (NewESF w (pL s ps) (pE s ps)) := by
  refine (pbytesF_any s a ps.length cap (pG ps) (fun k => (edD (sb s) (pG ps k)).1) (fun k => (edD (sb s) (pG ps k)).2) w hs hn hS.le (fun k hk => hfit _ (pG_mem hk)) hS.cells (fun k hk => edD_ok _ _)).mono ?_
  intro e w' h
  obtain ⟨m, er, a', cap', rfl, h1, h2, h3, h4, h5, h6⟩ := bytesF_one h
  obtain ⟨rfl, rfl⟩ := pE_det h4
  refine ⟨a', cap', rfl, ⟨h1, h2, ?_, ?_⟩, h6, h5⟩
  · rintro rfl
    rcases h3 with h3 | ⟨g, hg, _⟩
    · exact h3
    · cases hg
  · rcases h3 with h3 | ⟨g, rfl, hg, hc⟩
    · exact .inl h3
    · refine .inr ⟨g, 0, rfl, hg, fun k hk i hi => ?_⟩
      rw [Nat.zero_add, pL_get hk]
      exact hc k hk i hi

end Go.Proofs.YtkehgoailhpenaaGreat

/- The state of a document, and how it lies in memory. It has no conditions. -/
namespace Go.Proofs.YtkehgoailhpenaaGreat
open Go.RowKit Go.Shelf Go.Maps
set_option linter.unusedVariables false

/-- The state of a document: its version, the texts that it remembers with the edits behind each, what it holds. -/
structure DS where
  v : Int
  ss : List (ByteArray × List Er)
  hs : List (Int × List PE)
def DS.text (s : DS) : ByteArray := (s.ss.getLast?.getD (⟨#[]⟩, [])).1

/-! Lists in memory that no call writes: their blocks are in G. -/
def EsG (G : Nat → Prop) (w : World) (v : Value) (es : List Er) : Prop :=
  ∃ a cap, v = .slice a es.length cap ∧ es.length ≤ cap ∧ cap ≤ 9223372036854775807 ∧ (a = none → es.length = 0) ∧
    (es.length = 0 ∨ ∃ b off, a = some ⟨b, off, none⟩ ∧ G b ∧ b < w.heap.size ∧ ∀ k, k < es.length → ∀ i, i < 3 → w.cell? ⟨b, off + k * 3 + i, none⟩ = (eg es k).vals[i]?)
def PsG (G : Nat → Prop) (w : World) (v : Value) (ps : List PE) : Prop :=
  ∃ a cap, v = .slice a ps.length cap ∧ ps.length ≤ cap ∧ cap ≤ 9223372036854775807 ∧
    (ps.length = 0 ∨ ∃ b off, a = some ⟨b, off, none⟩ ∧ G b ∧ b < w.heap.size ∧ ∀ k, k < ps.length → ∀ i, i < 5 → w.cell? ⟨b, off + k * 5 + i, none⟩ = (pG ps k).vals[i]?)
theorem EsG.keep {G G' : Nat → Prop} {w w' : World} {v : Value} {es : List Er} (h : EsG G w v es) (hz : w.heap.size ≤ w'.heap.size) (hG : ∀ b, G b → b < w.heap.size → w'.heap[b]? = w.heap[b]?) (hg : ∀ b, G b → G' b) : EsG G' w' v es := by
  obtain ⟨a, cap, h1, h2, h3, h4, h5⟩ := h
  refine ⟨a, cap, h1, h2, h3, h4, ?_⟩
  rcases h5 with h5 | ⟨b, off, k1, k2, k3, k4⟩
  · exact .inl h5
  · refine .inr ⟨b, off, k1, hg b k2, by omega, fun k hk i hi => ?_⟩
    rw [← k4 k hk i hi]
    simp only [World.cell?, hG b k2 k3]
theorem PsG.keep {G G' : Nat → Prop} {w w' : World} {v : Value} {ps : List PE} (h : PsG G w v ps) (hz : w.heap.size ≤ w'.heap.size) (hG : ∀ b, G b → b < w.heap.size → w'.heap[b]? = w.heap[b]?) (hg : ∀ b, G b → G' b) : PsG G' w' v ps := by
  obtain ⟨a, cap, h1, h2, h3, h5⟩ := h
  refine ⟨a, cap, h1, h2, h3, ?_⟩
  rcases h5 with h5 | ⟨b, off, k1, k2, k3, k4⟩
  · exact .inl h5
  · refine .inr ⟨b, off, k1, hg b k2, by omega, fun k hk i hi => ?_⟩
    rw [← k4 k hk i hi]
    simp only [World.cell?, hG b k2 k3]
theorem EsG.es {G : Nat → Prop} {w : World} {v : Value} {es : List Er} (h : EsG G w v es) : ∃ a cap, v = .slice a es.length cap ∧ ES w.heap.size w a cap es := by
  obtain ⟨a, cap, h1, h2, h3, h4, h5⟩ := h
  refine ⟨a, cap, h1, h2, h3, h4, ?_⟩
  rcases h5 with h5 | ⟨b, off, k1, _, k3, k4⟩
  · exact .inl h5
  · exact .inr ⟨b, off, k1, k3, k4⟩
theorem PsG.ps {G : Nat → Prop} {w : World} {v : Value} {ps : List PE} (h : PsG G w v ps) : ∃ a cap, v = .slice a ps.length cap ∧ PS w.heap.size w a cap ps := by
  obtain ⟨a, cap, h1, h2, h3, h5⟩ := h
  refine ⟨a, cap, h1, h2, h3, ?_⟩
  rcases h5 with h5 | ⟨b, off, k1, _, k3, k4⟩
  · exact .inl h5
  · exact .inr ⟨b, off, k1, k3, k4⟩
theorem EsG.of {w : World} {a : Option Addr} {cap : Nat} {es : List Er} {G : Nat → Prop} (h : ES w.heap.size w a cap es) (hG : es.length ≠ 0 → ∀ b, blkOf a b → G b) : EsG G w (.slice a es.length cap) es := by
  refine ⟨a, cap, rfl, h.le, h.mx, h.nil, ?_⟩
  rcases h.cells with h5 | ⟨b, off, k1, k3, k4⟩
  · exact .inl h5
  · by_cases h0 : es.length = 0
    · exact .inl h0
    · exact .inr ⟨b, off, k1, hG h0 b ⟨off, k1⟩, k3, k4⟩
theorem PsG.of {w : World} {a : Option Addr} {cap : Nat} {ps : List PE} {G : Nat → Prop} (h : PS w.heap.size w a cap ps) (hG : ps.length ≠ 0 → ∀ b, blkOf a b → G b) : PsG G w (.slice a ps.length cap) ps := by
  refine ⟨a, cap, rfl, h.le, h.mx, ?_⟩
  rcases h.cells with h5 | ⟨b, off, k1, k3, k4⟩
  · exact .inl h5
  · by_cases h0 : ps.length = 0
    · exact .inl h0
    · exact .inr ⟨b, off, k1, hG h0 b ⟨off, k1⟩, k3, k4⟩

theorem es_lt {w : World} {a : Option Addr} {cap : Nat} {es : List Er} (h : ES w.heap.size w a cap es) (h0 : es.length ≠ 0) {b : Nat} (hb : blkOf a b) : b < w.heap.size := by
  obtain ⟨b', off, k1, k3, _⟩ := h.cells.resolve_left h0
  obtain ⟨off', k2⟩ := hb
  rw [k1] at k2
  cases k2
  exact k3
theorem ps_lt {w : World} {a : Option Addr} {cap : Nat} {ps : List PE} (h : PS w.heap.size w a cap ps) (h0 : ps.length ≠ 0) {b : Nat} (hb : blkOf a b) : b < w.heap.size := by
  obtain ⟨b', off, k1, k3, _⟩ := h.cells.resolve_left h0
  obtain ⟨off', k2⟩ := hb
  rw [k1] at k2
  cases k2
  exact k3

/-! The held changes. -/
def RH (v : Value) : Option (DataW Value × List MemPlace) := some (.held v, [])
def kI (k : Int) : Lit := .int .i64 k
theorem kI_ne {a b : Int} (h : a ≠ b) : kI a ≠ kI b := fun e => h (by cases e; rfl)
theorem kI_key (k : Int) : WideAt.IsKeyLit (kI k) := trivial
structure HeldOk (G : Nat → Prop) (w : World) (D : DataW Value) (hs : List (Int × List PE)) : Prop where
  nodup : (hs.map Prod.fst).Nodup
  keys : ∀ k : Int, Maps.has D (kI k) = decide (k ∈ hs.map Prod.fst)
  elem : ∀ x ∈ hs, ∃ v, D.atKey (kI x.1) (.held (.slice none 0 0)) = .held v ∧ PsG G w v x.2
  size : Maps.size D = hs.length
theorem HeldOk.keep {G G' : Nat → Prop} {w w' : World} {D : DataW Value} {hs : List (Int × List PE)} (h : HeldOk G w D hs) (hz : w.heap.size ≤ w'.heap.size) (hG : ∀ b, G b → b < w.heap.size → w'.heap[b]? = w.heap[b]?) (hg : ∀ b, G b → G' b) : HeldOk G' w' D hs :=
  ⟨h.nodup, h.keys, fun x hx => by obtain ⟨v, h1, h2⟩ := h.elem x hx; exact ⟨v, h1, h2.keep hz hG hg⟩, h.size⟩
theorem HeldOk.empty (G : Nat → Prop) (w : World) : HeldOk G w (.map []) [] := ⟨by simp, fun k => by simp [Maps.has], fun x hx => by simp at hx, rfl⟩
theorem HeldOk.put {G : Nat → Prop} {w : World} {D : DataW Value} {hs : List (Int × List PE)} (h : HeldOk G w D hs) (hT : Tidy D) {k : Int} (hk : k ∉ hs.map Prod.fst) {v : Value} {l : List PE} (hv : PsG G w v l) : HeldOk G w (D.put (kI k) (.held v)) (hs ++ [(k, l)]) := by
  have hM := hT.isMap
  refine ⟨?_, fun j => ?_, fun x hx => ?_, ?_⟩
  · rw [List.map_append, List.map_singleton]
    exact List.nodup_append.2 ⟨h.nodup, by simp, fun a ha b hb => by simp only [List.mem_singleton] at hb; subst hb; exact fun e => hk (e ▸ ha)⟩
  · by_cases hj : j = k
    · subst hj
      rw [has_put_same hM (kI_key _)]
      simp
    · rw [has_put_other (kI_ne hj), h.keys]
      simp [hj]
  · rcases List.mem_append.1 hx with hx | hx
    · have hne : x.1 ≠ k := fun e => hk (e ▸ List.mem_map.2 ⟨x, hx, rfl⟩)
      obtain ⟨u, h1, h2⟩ := h.elem x hx
      exact ⟨u, by rw [atKey_put_other (kI_ne hne)]; exact h1, h2⟩
    · simp only [List.mem_singleton] at hx
      subst hx
      exact ⟨v, atKey_put_same hM (kI_key _) _ _, hv⟩
  · rw [size_put hT, h.keys, if_neg (by simpa using hk), h.size, List.length_append]; rfl
def delH (hs : List (Int × List PE)) (k : Int) : List (Int × List PE) := hs.filter (fun x => decide (x.1 ≠ k))
theorem delH_len {hs : List (Int × List PE)} {k : Int} (hn : (hs.map Prod.fst).Nodup) (hk : k ∈ hs.map Prod.fst) : (delH hs k).length + 1 = hs.length := by
  induction hs with
  | nil => simp at hk
  | cons x hs ih =>
    rw [List.map_cons, List.nodup_cons] at hn
    unfold delH at ih ⊢
    by_cases hx : x.1 = k
    · have hall : hs.filter (fun x => decide (x.1 ≠ k)) = hs := List.filter_eq_self.2 (fun y hy => by
        simp only [decide_eq_true_eq]
        exact fun e => hn.1 (by rw [hx, ← e]; exact List.mem_map.2 ⟨y, hy, rfl⟩))
      rw [List.filter_cons, if_neg (by simp [hx]), hall, List.length_cons]
    · have hk2 : k ∈ hs.map Prod.fst := by
        rw [List.map_cons] at hk
        exact (List.mem_cons.1 hk).resolve_left (fun e => hx e.symm)
      rw [List.filter_cons, if_pos (by simp [hx]), List.length_cons, List.length_cons, ih hn.2 hk2]
theorem HeldOk.del {G : Nat → Prop} {w : World} {D : DataW Value} {hs : List (Int × List PE)} (h : HeldOk G w D hs) (hT : Tidy D) {k : Int} (hk : k ∈ hs.map Prod.fst) : HeldOk G w (D.del (kI k)) (delH hs k) := by
  refine ⟨?_, fun j => ?_, fun x hx => ?_, ?_⟩
  · exact (h.nodup).sublist (List.Sublist.map _ List.filter_sublist)
  · by_cases hj : j = k
    · subst hj
      rw [has_del_same]
      symm
      simp only [decide_eq_false_iff_not]
      rintro hm
      obtain ⟨x, hx, hxj⟩ := List.mem_map.1 hm
      have := (List.mem_filter.1 hx).2
      simp [hxj] at this
    · rw [has_del_other (kI_ne hj), h.keys]
      congr 1
      apply propext
      constructor
      · intro hm
        obtain ⟨x, hx, hxj⟩ := List.mem_map.1 hm
        exact List.mem_map.2 ⟨x, List.mem_filter.2 ⟨hx, by simp [hxj, hj]⟩, hxj⟩
      · intro hm
        obtain ⟨x, hx, hxj⟩ := List.mem_map.1 hm
        exact List.mem_map.2 ⟨x, (List.mem_filter.1 hx).1, hxj⟩
  · obtain ⟨hx1, hx2⟩ := List.mem_filter.1 hx
    have hne : x.1 ≠ k := by simpa using hx2
    obtain ⟨u, h1, h2⟩ := h.elem x hx1
    exact ⟨u, by rw [atKey_del_other (kI_ne hne)]; exact h1, h2⟩
  · have h1 := size_del (k := kI k) hT
    have h2 := delH_len h.nodup hk
    rw [h.keys, if_pos (by simpa using hk), h.size] at h1
    omega

end Go.Proofs.YtkehgoailhpenaaGreat

/- A document in memory, and what a call on it may turn. It has no conditions. -/
namespace Go.Proofs.YtkehgoailhpenaaGreat
open Go.RowKit Go.Shelf Go.Maps
set_option linter.unusedVariables false

/-- The cells of states, one after the other. -/
def svals (vs : List (ByteArray × Value)) : List Value := vs.flatMap fun x => [.string x.1, x.2]
theorem svals_len (vs : List (ByteArray × Value)) : (svals vs).length = vs.length * 2 := by
  induction vs with
  | nil => rfl
  | cons x vs ih => simp only [svals, List.flatMap_cons, List.length_append] at ih ⊢; rw [ih]; simp; omega
theorem svals_app (a b : List (ByteArray × Value)) : svals (a ++ b) = svals a ++ svals b := by simp [svals]
theorem svals_get : ∀ (vs : List (ByteArray × Value)) (k : Nat) (h : k < vs.length), (svals vs)[k * 2]? = some (.string (vs[k]).1) ∧ (svals vs)[k * 2 + 1]? = some (vs[k]).2 := by
  intro vs
  induction vs with
  | nil => intro k h; simp at h
  | cons x vs ih =>
    intro k h
    have e : svals (x :: vs) = Value.string x.1 :: x.2 :: svals vs := rfl
    rw [e]
    cases k with
    | zero => exact ⟨rfl, rfl⟩
    | succ k =>
      have := ih k (by simpa using h)
      rw [show (k + 1) * 2 = k * 2 + 1 + 1 by omega]
      exact this
theorem svals_set1 : ∀ (vs : List (ByteArray × Value)) (k : Nat) (h : k < vs.length) (u : Value), (svals vs).set (k * 2 + 1) u = svals (vs.set k ((vs[k]).1, u)) := by
  intro vs
  induction vs with
  | nil => intro k h; simp at h
  | cons x vs ih =>
    intro k h u
    have e : svals (x :: vs) = Value.string x.1 :: x.2 :: svals vs := rfl
    rw [e]
    cases k with
    | zero => rfl
    | succ k =>
      have := ih k (by simpa using h) u
      rw [show (k + 1) * 2 + 1 = (k * 2 + 1) + 1 + 1 by omega, List.set_cons_succ, List.set_cons_succ, this]
      rfl

/-- What the parts of a document are. -/
structure DsOk (s : DS) : Prop where
  v0 : 0 ≤ s.v
  v1 : s.v ≤ 1099511627776
  ne : s.ss ≠ []
  len : s.ss.length ≤ 17
  text : ∀ x ∈ s.ss, x.1.size ≤ 4096
  eds : ∀ x ∈ s.ss, x.2.length ≤ 64 ∧ ∀ e ∈ x.2, e.Fit
  hlen : s.hs.length ≤ 16
  held : ∀ x ∈ s.hs, x.2.length ≤ 64 ∧ ∀ p ∈ x.2, p.fit ∧ p.t.size ≤ 100000
  hk : ∀ x ∈ s.hs, 1 ≤ x.1 ∧ x.1 ≤ 1099511627776
/-- A state in memory. -/
def StOk (G : Nat → Prop) (w : World) (x : ByteArray × Value) (y : ByteArray × List Er) : Prop := x.1 = y.1 ∧ EsG G w x.2 y.2
inductive All2 {α β : Type} (R : α → β → Prop) : List α → List β → Prop
  | nil : All2 R [] []
  | cons {a : α} {b : β} {l : List α} {m : List β} : R a b → All2 R l m → All2 R (a :: l) (b :: m)
theorem All2.len {α β : Type} {R : α → β → Prop} {l : List α} {m : List β} (h : All2 R l m) : l.length = m.length := by
  induction h with
  | nil => rfl
  | cons _ _ ih => simp [ih]
theorem All2.mono {α β : Type} {R R' : α → β → Prop} {l : List α} {m : List β} (h : All2 R l m) (hR : ∀ a b, R a b → R' a b) : All2 R' l m := by
  induction h with
  | nil => exact .nil
  | cons h _ ih => exact .cons (hR _ _ h) ih
theorem All2.app {α β : Type} {R : α → β → Prop} {l l' : List α} {m m' : List β} (h : All2 R l m) (h' : All2 R l' m') : All2 R (l ++ l') (m ++ m') := by
  induction h with
  | nil => exact h'
  | cons h _ ih => exact .cons h ih
theorem All2.at_ {α β : Type} {R : α → β → Prop} {l : List α} {m : List β} (h : All2 R l m) : ∀ (k : Nat) (h1 : k < l.length) (h2 : k < m.length), R l[k] m[k] := by
  induction h with
  | nil => intro k h1; simp at h1
  | cons h _ ih =>
    intro k h1 h2
    cases k with
    | zero => exact h
    | succ k => exact ih k (by simpa using h1) (by simpa using h2)
theorem All2.drop {α β : Type} {R : α → β → Prop} {l : List α} {m : List β} (h : All2 R l m) : ∀ k, All2 R (l.drop k) (m.drop k) := by
  induction h with
  | nil => intro k; simp only [List.drop_nil]; exact .nil
  | cons h t ih =>
    intro k
    cases k with
    | zero => exact .cons h t
    | succ k => exact ih k
theorem All2.set {α β : Type} {R : α → β → Prop} {l : List α} {m : List β} (h : All2 R l m) {a : α} {b : β} (hab : R a b) : ∀ k, All2 R (l.set k a) (m.set k b) := by
  induction h with
  | nil => intro k; exact .nil
  | cons h t ih =>
    intro k
    cases k with
    | zero => exact .cons hab t
    | succ k => exact .cons h (ih k)

/-- A document lies at block p: T are the blocks that a call on it writes, G those of its lists. -/
structure DocI (T G : Nat → Prop) (w : World) (p : Nat) (s : DS) : Prop where
  ok : DsOk s
  mem : ∃ g cap m D vs, Blk w p 72 #[.int .i64 s.v, .slice (some ⟨g, 0, none⟩) vs.length cap, .map (some m)] ∧
    w.ownsRow 0 68 2 (.slice (some ⟨g, 0, none⟩) vs.length cap) vs.length (svals vs) ∧ All2 (StOk G w) vs s.ss ∧
    w.ownsMap Tryz.prog 3 RH m (Maps.size D) D ∧ HeldOk G w D s.hs ∧ T g ∧ T m
  tp : T p
  lt : ∀ b, T b → b < w.heap.size
  glt : ∀ b, G b → b < w.heap.size
  apart : ∀ b, T b → ¬ G b
theorem ownsMap_same {w w' : World} {m n : Nat} {D : DataW Value} (h : w.ownsMap Tryz.prog 3 RH m n D) (hb : w'.heap[m]? = w.heap[m]?) : w'.ownsMap Tryz.prog 3 RH m n D := by
  obtain ⟨es, clock, h1, h2⟩ := h
  exact ⟨es, clock, hb.trans h1, h2⟩
theorem ownsMap_tight {w : World} {m n : Nat} {D : DataW Value} (h : w.ownsMap Tryz.prog 3 RH m n D) : w.ownsMap Tryz.prog 3 RH m (Maps.size D) D := by
  obtain ⟨es, clock, h1, h2, h3, h4⟩ := h
  refine ⟨es, clock, h1, h2, ?_, h4⟩
  rw [h4]
  exact Nat.le_of_eq (length_read (P := Tryz.prog) (k := 3) (R0 := RH) es).symm
/-- A document stays what it is while its blocks lie as they lay. -/
theorem DocI.keep {T G : Nat → Prop} {w w' : World} {p : Nat} {s : DS} (h : DocI T G w p s) (hz : w.heap.size ≤ w'.heap.size) (hb : ∀ b, T b ∨ G b → w'.heap[b]? = w.heap[b]?) : DocI T G w' p s := by
  obtain ⟨g, cap, m, D, vs, h1, h2, h3, h4, h5, h6, h7⟩ := h.mem
  refine ⟨h.ok, ⟨g, cap, m, D, vs, h1.same (hb p (.inl h.tp)), own_same h2 (fun j hj => by cases hj; exact hb g (.inl h6)), ?_, ownsMap_same h4 (hb m (.inl h7)), h5.keep hz (fun b hg _ => hb b (.inr hg)) (fun _ h => h), h6, h7⟩, h.tp, fun b hb' => by have := h.lt b hb'; omega, fun b hb' => by have := h.glt b hb'; omega, h.apart⟩
  exact h3.mono (fun x y hxy => ⟨hxy.1, hxy.2.keep hz (fun b hg _ => hb b (.inr hg)) (fun _ h => h)⟩)
theorem DocI.below {T G : Nat → Prop} {w w' : World} {p : Nat} {s : DS} (h : DocI T G w p s) (hb : Below w.heap.size w w') : DocI T G w' p s :=
  h.keep hb.size (fun b hT => hb.block b (hT.elim (h.lt b) (h.glt b)))

/-- What a call on a document turns. -/
structure Stp (T G T' G' : Nat → Prop) (w w' : World) : Prop where
  only : Only T w w'
  t : ∀ b, T' b → T b ∨ w.heap.size ≤ b
  g : ∀ b, G' b → G b ∨ w.heap.size ≤ b
theorem Stp.of_below {T G : Nat → Prop} {w w' : World} (h : Below w.heap.size w w') : Stp T G T G w w' := ⟨Only.of_below h, fun _ h => .inl h, fun _ h => .inl h⟩
theorem Stp.refl (T G : Nat → Prop) (w : World) : Stp T G T G w w := Stp.of_below (Below.refl _ _)
theorem Stp.trans {T G T1 G1 T2 G2 : Nat → Prop} {a b c : World} (h : Stp T G T1 G1 a b) (k : Stp T1 G1 T2 G2 b c) (hG : True) : Stp T G T2 G2 a c := by
  have hz := h.only.size
  refine ⟨⟨k.only.os.trans h.only.os, k.only.tape.trans h.only.tape, k.only.output.trans h.only.output, Nat.le_trans h.only.size k.only.size, fun i hi hT => ?_⟩, fun b hb => ?_, fun b hb => ?_⟩
  · rw [k.only.block i (by omega) (fun h1 => (h.t i h1).elim hT (fun e => by omega)), h.only.block i hi hT]
  · rcases k.t b hb with h1 | h1
    · exact h.t b h1
    · exact .inr (by omega)
  · rcases k.g b hb with h1 | h1
    · exact h.g b h1
    · exact .inr (by omega)
theorem Stp.below {T G T' G' : Nat → Prop} {a b : World} (h : Stp T G T' G' a b) {B : Nat} (hB : B ≤ a.heap.size) (hT : ∀ k, T k → B ≤ k) : Below B a b := h.only.below hB hT
/-- Another document stays as it is. -/
theorem DocI.apartFrom {T G T1 G1 T1' G1' : Nat → Prop} {w w' : World} {p : Nat} {s : DS} (h : DocI T G w p s) (k : Stp T1 G1 T1' G1' w w') (h1 : ∀ b, T b ∨ G b → ¬ T1 b) : DocI T G w' p s :=
  h.keep k.only.size (fun b hb => k.only.block b (hb.elim (h.lt b) (h.glt b)) (h1 b hb))

/-- The cells of a document, in a form that a walk reads. -/
theorem DocI.cells {T G : Nat → Prop} {w : World} {p : Nat} {s : DS} (h : DocI T G w p s) : ∃ g cap m n, n + 1 = s.ss.length ∧ n + 1 ≤ cap ∧ w.cell? ⟨p, 0, none⟩ = some (.int .i64 s.v) ∧ w.cell? ⟨p, 1, none⟩ = some (.slice (some ⟨g, 0, none⟩) (n + 1) cap) ∧ w.cell? ⟨p, 2, none⟩ = some (.map (some m)) ∧ w.cell? ⟨g, n * 2, none⟩ = some (.string s.text) := by
  obtain ⟨g, cap, m, D, vs, h1, h2, h3, h4, h5, h6, h7⟩ := h.mem
  have hl := h3.len
  have hne := h.ok.ne
  have hpos : 0 < s.ss.length := List.length_pos_iff.2 hne
  obtain ⟨n, hn⟩ : ∃ n, n + 1 = s.ss.length := ⟨s.ss.length - 1, by omega⟩
  have c0 := h1.cell 0
  have c1 := h1.cell 1
  have c2 := h1.cell 2
  simp only [List.getElem?_toArray, List.getElem?_cons_zero, List.getElem?_cons_succ] at c0 c1 c2
  rw [show vs.length = n + 1 by omega] at c1 h2
  have hcap : n + 1 ≤ cap := by
    rcases h2.2 with ⟨hv, _⟩ | ⟨g', cp, cur, hv, _, _, h1, _⟩
    · simp at hv
    · simp only [Value.slice.injEq] at hv; omega
  refine ⟨g, cap, m, n, hn, hcap, c0, c1, c2, ?_⟩
  rw [h2.cellAt (n * 2) (by omega), (svals_get vs n (by omega)).1]
  have := (h3.at_ n (by omega) (by omega)).1
  rw [this]
  unfold DS.text
  rw [List.getLast?_eq_getElem?, show s.ss.length - 1 = n by omega, List.getElem?_eq_getElem (by omega)]
  rfl

set_option maxRecDepth 100000 in
set_option maxHeartbeats 1000000 in
theorem text_any (T G : Nat → Prop) (p : Nat) (s : DS) (w : World) (h : DocI T G w p s) :
    Calls Tryz.prog 13 #[.pointer (some ⟨p, 0, none⟩)] w fun e w' => e = .returned (.string s.text) ∧ Below w.heap.size w w' := by
  have hl := h.ok.len
  obtain ⟨g, cap, m, n, h1, h2, c0, c1, c2, c3⟩ := h.cells
  obtain ⟨N, hN⟩ : ∃ N, n + 1 = N := ⟨_, rfl⟩
  rw [hN] at c1 h1 h2
  obtain ⟨t, ht⟩ : ∃ t, s.text = t := ⟨_, rfl⟩
  rw [ht] at c3 ⊢
  have hj1 : IntKind.i64.wrap ((N : Int) - 1) = (n : Int) := by simp [IntKind.wrap, IntKind.signed, IntKind.bits]; omega
  have hj2 : (n : Int) < (N : Int) := by omega
  clear h ht h1 hN c0 c2
  go_enter Tryz.func13, Tryz.ntmps13
  go_wp2_with fail
  go_quiet (fail)
  go_wp2
  go_ret
  exact ⟨rfl, below_drewN (Below.refl _ _) _⟩

set_option maxRecDepth 100000 in
set_option maxHeartbeats 1000000 in
theorem version_any (T G : Nat → Prop) (p : Nat) (s : DS) (w : World) (h : DocI T G w p s) :
    Calls Tryz.prog 20 #[.pointer (some ⟨p, 0, none⟩)] w fun e w' => e = .returned (.int .i64 s.v) ∧ w = w' := by
  obtain ⟨g, cap, m, n, h1, h2, c0, c1, c2, c3⟩ := h.cells
  obtain ⟨v, hv⟩ : ∃ t, s.v = t := ⟨_, rfl⟩
  rw [hv] at c0 ⊢
  clear h hv h1 h2 c1 c2 c3
  go_enter Tryz.func20, Tryz.ntmps20
  go_wp2
  go_ret
  exact ⟨rfl, rfl⟩

end Go.Proofs.YtkehgoailhpenaaGreat

/- The contracts of slices.Clone at edits by positions and at edits by offsets. Conditions: at most 100000 of them. -/
namespace Go.Proofs.YtkehgoailhpenaaGreat
open Go.RowKit Go.Shelf Go.Maps
set_option linter.unusedVariables false

theorem infoPE : (Tryz.prog.info? 78).map (fun i => (i.zero, i.size, i.bytes)) = some (some (.agg #[.int .i64 0, .int .i64 0, .int .i64 0, .int .i64 0, .string ⟨#[]⟩]), 5, 48) := by kernel_rfl
theorem infoEE : (Tryz.prog.info? 84).map (fun i => (i.zero, i.size, i.bytes)) = some (some (.agg #[.int .i64 0, .int .i64 0, .string ⟨#[]⟩]), 3, 32) := by kernel_rfl
theorem own_empty (w : World) (e : TypeId) (size : Nat) : (w.alloc (.cells #[] e)).ownsRow w.heap.size e size (.slice (some ⟨w.heap.size, 0, none⟩) 0 0) 0 [] :=
  ⟨by simp, .inr ⟨w.heap.size, 0, #[], rfl, Nat.le_refl _, World.alloc_heap_new w _, Nat.le_refl _, by unfold maxLen; omega, by simp, by simp⟩⟩
/-- The cells of edits by positions. -/
def pv (ps : List PE) : List Value := ps.flatMap PE.vals
theorem pv_len (ps : List PE) : (pv ps).length = ps.length * 5 := by
  induction ps with
  | nil => rfl
  | cons p ps ih => simp only [pv, List.flatMap_cons, List.length_append] at ih ⊢; rw [ih]; simp [PE.vals]; omega
theorem pv_get : ∀ (ps : List PE) (k i : Nat), k < ps.length → i < 5 → (pv ps)[k * 5 + i]? = (pG ps k).vals[i]? := by
  intro ps
  induction ps with
  | nil => intro k i h; simp at h
  | cons p ps ih =>
    intro k i hk hi
    have e : pv (p :: ps) = p.vals ++ pv ps := rfl
    rw [e]
    cases k with
    | zero => rw [List.getElem?_append_left (by simp [PE.vals]; omega)]; simp [pG]
    | succ k =>
      rw [List.getElem?_append_right (by simp [PE.vals]; omega), show (k + 1) * 5 + i - p.vals.length = k * 5 + i by simp [PE.vals]; omega, ih k i (by simpa using hk) hi]
      simp [pG]
theorem div_ex {k n c : Nat} (hc : 0 < c) (h : k < n * c) : ∃ a b, k = a * c + b ∧ b < c ∧ a < n := by
  refine ⟨k / c, k % c, ?_, Nat.mod_lt _ hc, ?_⟩
  · have := Nat.div_add_mod k c; rw [Nat.mul_comm] at this; omega
  · exact Nat.div_lt_of_lt_mul (by rw [Nat.mul_comm]; exact h)
theorem addr_add (b off j : Nat) : (⟨b, off, none⟩ : Addr).add j = ⟨b, off + j, none⟩ := by
  by_cases h : j = 0 <;> simp [Addr.add, h]
theorem pscells_at {B : Nat} {w : World} {b off cap : Nat} {ps : List PE} (h : ∀ k, k < ps.length → ∀ i, i < 5 → w.cell? ⟨b, off + k * 5 + i, none⟩ = (pG ps k).vals[i]?) : ∀ j u, (pv ps)[j]? = some u → w.cell? ((⟨b, off, none⟩ : Addr).add j) = some u := by
  intro j u hj
  have hlt : j < ps.length * 5 := by
    have := (List.getElem?_eq_some_iff.1 hj).1
    rwa [pv_len] at this
  obtain ⟨k, i, rfl, hi, hk⟩ := div_ex (by omega) hlt
  rw [pv_get ps k i hk hi] at hj
  rw [← hj, ← h k hk i hi]
  rw [addr_add, Nat.add_assoc]
theorem escells_at {w : World} {b off : Nat} {es : List Er} (h : ∀ k, k < es.length → ∀ i, i < 3 → w.cell? ⟨b, off + k * 3 + i, none⟩ = (eg es k).vals[i]?) : ∀ j u, (rv es)[j]? = some u → w.cell? ((⟨b, off, none⟩ : Addr).add j) = some u := by
  intro j u hj
  have hlt : j < es.length * 3 := by
    have := (List.getElem?_eq_some_iff.1 hj).1
    rwa [rv_len] at this
  obtain ⟨k, i, rfl, hi, hk⟩ := div_ex (by omega) hlt
  rw [rv_get es k i hk hi] at hj
  rw [← hj, ← h k hk i hi]
  rw [addr_add, Nat.add_assoc]
theorem ps_of_own {w : World} {lo n : Nat} {v : Value} {ps : List PE} (h : w.ownsRow lo 78 5 v n (pv ps)) : n = ps.length ∧ ∃ a cap, v = .slice a ps.length cap ∧ PS w.heap.size w a cap ps ∧ ∀ b, blkOf a b → lo ≤ b := by
  have hn : n = ps.length := by have := h.1; rw [pv_len] at this; omega
  subst hn
  refine ⟨rfl, ?_⟩
  rcases h.2 with ⟨rfl, h0⟩ | ⟨g, cap, cur, rfl, hb, hg, hle, hmx, _⟩
  · rw [h0]
    exact ⟨none, 0, rfl, ⟨by omega, by omega, .inl h0⟩, fun b hb => by obtain ⟨_, hb⟩ := hb; cases hb⟩
  · refine ⟨_, cap, rfl, ⟨hle, by unfold maxLen at hmx; omega, .inr ⟨g, 0, rfl, (Array.getElem?_eq_some_iff.1 hg).1, fun k hk i hi => ?_⟩⟩, fun b hb' => by obtain ⟨_, hb'⟩ := hb'; cases hb'; exact hb⟩
    have hlt : k * 5 + i < (pv ps).length := by rw [pv_len]; omega
    rw [Nat.zero_add, h.cellAt (k * 5 + i) (by first | exact hlt | (rw [pv_len] at hlt; omega)), pv_get ps k i hk hi]
theorem es_of_own2 {w : World} {lo n : Nat} {v : Value} {es : List Er} (h : w.ownsRow lo 84 3 v n (rv es)) : n = es.length ∧ ∃ a cap, v = .slice a es.length cap ∧ ES w.heap.size w a cap es ∧ ∀ b, blkOf a b → lo ≤ b := by
  obtain ⟨hn, a, cap, hv, hE⟩ := es_of_own h
  refine ⟨hn, a, cap, hv, hE, fun b hb => ?_⟩
  obtain ⟨off, rfl⟩ := hb
  exact (h.lt b (by rw [hv]; rfl)).1

theorem PE_one (ps : List PE) : ∀ u ∈ pv ps, u.oneCell' = true := by
  intro u hu
  obtain ⟨p, _, hp⟩ := List.mem_flatMap.1 hu
  simp only [PE.vals, List.mem_cons, List.not_mem_nil, or_false] at hp
  rcases hp with rfl | rfl | rfl | rfl | rfl <;> rfl
theorem EE_one (es : List Er) : ∀ u ∈ rv es, u.oneCell' = true := by
  intro u hu
  obtain ⟨p, _, hp⟩ := List.mem_flatMap.1 hu
  simp only [Er.vals, List.mem_cons, List.not_mem_nil, or_false] at hp
  rcases hp with rfl | rfl | rfl <;> rfl

set_option maxRecDepth 100000 in
set_option maxHeartbeats 2000000 in
theorem clonep_any (a : Option Addr) (cap : Nat) (ps : List PE) (w : World) (hn : ps.length ≤ 100000) (h : PS w.heap.size w a cap ps) :
    Calls Tryz.prog 45 #[.slice a ps.length cap] w fun e w' => ∃ a' c', e = .returned (.slice a' ps.length c') ∧ PS w'.heap.size w' a' c' ps ∧ (∀ b, blkOf a' b → w.heap.size ≤ b) ∧ Below w.heap.size w w' := by
  obtain ⟨i0, hi, hz0, hz1, hz2⟩ := info_parts infoPE
  obtain ⟨n, hn'⟩ : ∃ n, ps.length = n := ⟨_, rfl⟩
  have hle := h.le
  have hmx := h.mx
  have q1 : ∀ (w : World) (a : Option Addr) (n c n' c' : Nat), (binOp .eql 45 (.slice a n c) (.slice none n' c')).run Tryz.prog w = .ok (.bool a.isNone) w := fun w a n c n' c' => Lib.run_eql_slice_nil w _ _ a n c n' c' Tryz.underlying45
  have u1 : ∀ w, Sem.run Tryz.prog (underlying 45) w = .ok (TypeDesc.slice 78) w := run_underlying Tryz.underlying45
  have hl2 : (pv ps).length = n * 5 := by rw [pv_len, hn']
  rw [hn'] at hle hn ⊢
  cases a with
  | none =>
    have h0 : ps.length = 0 := by
      rcases h.cells with h0 | ⟨b, off, hb, _⟩
      · exact h0
      · cases hb
    obtain rfl : n = 0 := by omega
    have HN := Lib.hid h0
    clear h hl2 hn' h0
    go_enter Tryz.func45, Tryz.ntmps45
    go_wp2
    go_ret
    exact ⟨none, 0, rfl, ⟨by rw [HN.out]; omega, by omega, .inl HN.out⟩, (fun b hb => by obtain ⟨_, hb⟩ := hb; cases hb), Below.refl _ _⟩
  | some ad =>
    have hc : ∀ j u, (pv ps)[j]? = some u → w.cell? (ad.add j) = some u := by
      rcases h.cells with h0 | ⟨b, off, hb, hlt, hc⟩
      · intro j u hj
        have := (List.getElem?_eq_some_iff.1 hj).1
        rw [pv_len] at this
        omega
      · cases hb
        exact pscells_at (B := 0) (cap := cap) hc
    have HC := Lib.hid hc
    have HL2 := Lib.hid hl2; have HN := Lib.hid hn'
    clear h hl2 hn' hc
    go_enter Tryz.func45, Tryz.ntmps45
    go_wp2_with (at_builtin; refine wpList_append_own _ rfl _ _ 45 rfl w.heap.size 78 i0 (.agg #[.int .i64 0, .int .i64 0, .int .i64 0, .int .i64 0, .string ⟨#[]⟩]) 5 48 Tryz.underlying45 hi hz0 hz1 hz2 rfl (by decide) _ _ _ rfl (own_empty w 78 5) ad n cap (pv ps) rfl ?qc1 ?qc2 ?qc3 ?qc4 ?qc5 ?qc6 ?_)
    case qc1 => exact HL2.out
    case qc2 =>
      intro j u hj
      exact Lib.cell?_alloc_some _ (HC.out j u hj)
    case qc3 => exact PE_one ps
    case qc4 => unfold maxLen; omega
    case qc5 => omega
    case qc6 => simp
    intro v' w1 hown hgrow _
    have hown' : w1.ownsRow w.heap.size 78 5 v' n (pv ps) := by simpa using hown
    obtain ⟨_, a', c', rfl, hP, hb⟩ := ps_of_own hown'
    have HP := Lib.hid hP; have HB := Lib.hid hb
    have HF : Hid (Below w.heap.size w w1) := ((Below.refl _ w).alloc (Nat.le_refl _) _).grown hgrow (by simp) (by intro k hk; simp [Value.ownBlock] at hk; omega)
    clear hown hown' hgrow hP hb
    go_wp2
    go_ret
    exact ⟨a', c', by rw [HN.out]; rfl, HP.out, HB.out, HF.out⟩

set_option maxRecDepth 100000 in
set_option maxHeartbeats 2000000 in
theorem clonee_any (a : Option Addr) (cap : Nat) (ps : List Er) (w : World) (hn : ps.length ≤ 100000) (h : ES w.heap.size w a cap ps) :
    Calls Tryz.prog 38 #[.slice a ps.length cap] w fun e w' => ∃ a' c', e = .returned (.slice a' ps.length c') ∧ ES w'.heap.size w' a' c' ps ∧ (∀ b, blkOf a' b → w.heap.size ≤ b) ∧ Below w.heap.size w w' := by
  obtain ⟨i0, hi, hz0, hz1, hz2⟩ := info_parts infoEE
  obtain ⟨n, hn'⟩ : ∃ n, ps.length = n := ⟨_, rfl⟩
  have hle := h.le
  have hmx := h.mx
  have q1 : ∀ (w : World) (a : Option Addr) (n c n' c' : Nat), (binOp .eql 38 (.slice a n c) (.slice none n' c')).run Tryz.prog w = .ok (.bool a.isNone) w := fun w a n c n' c' => Lib.run_eql_slice_nil w _ _ a n c n' c' Tryz.underlying38
  have u1 : ∀ w, Sem.run Tryz.prog (underlying 38) w = .ok (TypeDesc.slice 84) w := run_underlying Tryz.underlying38
  have hl2 : (rv ps).length = n * 3 := by rw [rv_len, hn']
  rw [hn'] at hle hn ⊢
  cases a with
  | none =>
    have h0 : ps.length = 0 := by
      rcases h.cells with h0 | ⟨b, off, hb, _⟩
      · exact h0
      · cases hb
    obtain rfl : n = 0 := by omega
    have HN := Lib.hid h0
    clear h hl2 hn' h0
    go_enter Tryz.func38, Tryz.ntmps38
    go_wp2
    go_ret
    exact ⟨none, 0, rfl, ⟨by rw [HN.out]; omega, by omega, fun _ => HN.out, .inl HN.out⟩, (fun b hb => by obtain ⟨_, hb⟩ := hb; cases hb), Below.refl _ _⟩
  | some ad =>
    have hc : ∀ j u, (rv ps)[j]? = some u → w.cell? (ad.add j) = some u := by
      rcases h.cells with h0 | ⟨b, off, hb, hlt, hc⟩
      · intro j u hj
        have := (List.getElem?_eq_some_iff.1 hj).1
        rw [rv_len] at this
        omega
      · cases hb
        exact escells_at hc
    have HC := Lib.hid hc
    have HL2 := Lib.hid hl2; have HN := Lib.hid hn'
    clear h hl2 hn' hc
    go_enter Tryz.func38, Tryz.ntmps38
    go_wp2_with (at_builtin; refine wpList_append_own _ rfl _ _ 38 rfl w.heap.size 84 i0 (.agg #[.int .i64 0, .int .i64 0, .string ⟨#[]⟩]) 3 32 Tryz.underlying38 hi hz0 hz1 hz2 rfl (by decide) _ _ _ rfl (own_empty w 84 3) ad n cap (rv ps) rfl ?qc1 ?qc2 ?qc3 ?qc4 ?qc5 ?qc6 ?_)
    case qc1 => exact HL2.out
    case qc2 =>
      intro j u hj
      exact Lib.cell?_alloc_some _ (HC.out j u hj)
    case qc3 => exact EE_one ps
    case qc4 => unfold maxLen; omega
    case qc5 => omega
    case qc6 => simp
    intro v' w1 hown hgrow _
    have hown' : w1.ownsRow w.heap.size 84 3 v' n (rv ps) := by simpa using hown
    obtain ⟨_, a', c', rfl, hP, hb⟩ := es_of_own2 hown'
    have HP := Lib.hid hP; have HB := Lib.hid hb
    have HF : Hid (Below w.heap.size w w1) := ((Below.refl _ w).alloc (Nat.le_refl _) _).grown hgrow (by simp) (by intro k hk; simp [Value.ownBlock] at hk; omega)
    clear hown hown' hgrow hP hb
    go_wp2
    go_ret
    exact ⟨a', c', by rw [HN.out]; rfl, HP.out, HB.out, HF.out⟩

end Go.Proofs.YtkehgoailhpenaaGreat

/- The contracts of early and check. It has no conditions. -/
namespace Go.Proofs.YtkehgoailhpenaaGreat
open Go.RowKit Go.Shelf Go.Maps
set_option linter.unusedVariables false

theorem keyInt : Keyed Tryz.prog 3 := int_keyed Tryz.underlying3
theorem keyOfI {k : Int} (h1 : -9223372036854775808 ≤ k) (h2 : k ≤ 9223372036854775807) : keyOf Tryz.prog 3 (.int .i64 k) = some (kI k) := keyOf_int_mk Tryz.underlying3 (WalkArith.wf_i64 ⟨h1, h2⟩)
theorem zeroP (w : World) : (zeroValue 45).run Tryz.prog w = .ok (.slice none 0 0) w := by kernel_rfl
/-- A document's cells and its map. -/
theorem DocI.full {T G : Nat → Prop} {w : World} {p : Nat} {s : DS} (h : DocI T G w p s) : ∃ g cap m n D, n + 1 = s.ss.length ∧ n + 1 ≤ cap ∧ w.cell? ⟨p, 0, none⟩ = some (.int .i64 s.v) ∧ w.cell? ⟨p, 1, none⟩ = some (.slice (some ⟨g, 0, none⟩) (n + 1) cap) ∧ w.cell? ⟨p, 2, none⟩ = some (.map (some m)) ∧
    w.ownsMap Tryz.prog 3 RH m (Maps.size D) D ∧ HeldOk G w D s.hs ∧ T m ∧ p < w.heap.size := by
  obtain ⟨g, cap, m, D, vs, h1, h2, h3, h4, h5, h6, h7⟩ := h.mem
  have hl := h3.len
  have hpos : 0 < s.ss.length := List.length_pos_iff.2 h.ok.ne
  obtain ⟨n, hn⟩ : ∃ n, n + 1 = s.ss.length := ⟨s.ss.length - 1, by omega⟩
  have c0 := h1.cell 0
  have c1 := h1.cell 1
  have c2 := h1.cell 2
  simp only [List.getElem?_toArray, List.getElem?_cons_zero, List.getElem?_cons_succ] at c0 c1 c2
  rw [show vs.length = n + 1 by omega] at c1 h2
  have hcap : n + 1 ≤ cap := by
    rcases h2.2 with ⟨hv, _⟩ | ⟨g', cp, cur, hv, _, _, h1, _⟩
    · simp at hv
    · simp only [Value.slice.injEq] at hv; omega
  exact ⟨g, cap, m, n, D, hn, hcap, c0, c1, c2, h4, h5, h7, h1.lt⟩

set_option maxRecDepth 100000 in
set_option maxHeartbeats 1000000 in
theorem early_any (T G : Nat → Prop) (p : Nat) (s : DS) (w : World) (h : DocI T G w p s) (cv : Int) (a : Option Addr) (n cap : Nat) :
    Calls Tryz.prog 44 #[.pointer (some ⟨p, 0, none⟩), .agg #[.int .i64 cv, .slice a n cap]] w fun e w' => e = .returned (.bool (decide (s.v + 1 < cv))) ∧ Below w.heap.size w w' := by
  have hv0 := h.ok.v0
  have hv1 := h.ok.v1
  obtain ⟨W1, hW1⟩ : ∃ W, w.alloc (.cells #[.int .i64 cv, .slice a n cap] 47) = W := ⟨_, rfl⟩
  have b1 : Below w.heap.size w W1 := by rw [← hW1]; exact (Below.refl _ _).alloc (Nat.le_refl _) _
  have k1 : Blk W1 w.heap.size 47 #[.int .i64 cv, .slice a n cap] := by rw [← hW1]; exact Blk.new _ _ _
  obtain ⟨g, cp, m, n', D, _, _, c0, _⟩ := (h.below b1).full
  obtain ⟨q, hq⟩ : ∃ q, w.heap.size = q := ⟨_, rfl⟩
  have d0 := k1.cell 0
  simp only [List.getElem?_toArray, List.getElem?_cons_zero] at d0
  obtain ⟨v, hv⟩ : ∃ t, s.v = t := ⟨_, rfl⟩
  rw [hv] at c0 hv0 hv1 ⊢
  have HB := Lib.hid b1; have HW := Lib.hid hW1
  rw [hq] at d0
  have HQ := Lib.hid hq
  clear h hv b1 k1 hW1
  go_enter Tryz.func44, Tryz.ntmps44
  go_wp2_with fail
  rw [show w.alloc (.cells #[.int .i64 cv, .slice a n cap] 47) = W1 from HW.out]
  go_quiet (fail)
  go_wp2
  go_ret
  exact ⟨rfl, below_drewN HB.out _⟩

theorem RH_inv {v : Value} {d : DataW Value} {ps : List MemPlace} (h : RH v = some (d, ps)) : d = .held v := by
  unfold RH at h
  simp only [Option.some.injEq, Prod.mk.injEq] at h
  exact h.1.symm
/-- What a look-up in the map of the held changes gives. -/
theorem look_held {w : World} {m : Nat} {D : DataW Value} (hm : w.ownsMap Tryz.prog 3 RH m (Maps.size D) D) {k : Int} (h1 : -9223372036854775808 ≤ k) (h2 : k ≤ 9223372036854775807) :
    ∃ v, D.atKey (kI k) (.held (.slice none 0 0)) = .held v ∧ ∀ V : World, V.heap[m]? = w.heap[m]? → (Instr.lookup 70 (.map (some m)) (.int .i64 k) true).run Tryz.prog V = .ok (.tuple #[v, .bool (Maps.has D (kI k))]) V := by
  obtain ⟨v1, ps1, _, hv1⟩ := hm.look_ok keyInt Tryz.underlying70 (zeroP w) (R := RH) rfl (keyOfI h1 h2)
  have e1 := RH_inv hv1
  refine ⟨v1, e1, fun V hV => ?_⟩
  obtain ⟨v2, ps2, hr, hv2⟩ := (ownsMap_same hm hV).look_ok keyInt Tryz.underlying70 (zeroP _) (R := RH) rfl (keyOfI h1 h2)
  have e2 := RH_inv hv2
  have : v2 = v1 := by
    have h3 := e2.symm.trans e1
    simpa using h3
  rw [hr, this]
/-- The error of a change that does not depend on the text. -/
def chkE (s : DS) (cv : Int) (n : Nat) : Int :=
  if cv < 1 ∨ 1099511627776 < cv then 1 else if 64 < n then 4 else if cv ≤ s.v ∨ cv ∈ s.hs.map Prod.fst then 8 else if s.v + 1 < cv ∧ 16 ≤ s.hs.length then 4 else 0

set_option maxRecDepth 100000 in
set_option maxHeartbeats 4000000 in
theorem check_any (T G : Nat → Prop) (p : Nat) (s : DS) (w : World) (h : DocI T G w p s) (cv : Int) (a : Option Addr) (n cap : Nat) (h1 : -9223372036854775808 ≤ cv) (h2 : cv ≤ 9223372036854775807) :
    Calls Tryz.prog 43 #[.pointer (some ⟨p, 0, none⟩), .agg #[.int .i64 cv, .slice a n cap]] w fun e w' => e = .returned (.int .i64 (chkE s cv n)) ∧ Below w.heap.size w w' := by
  have hv0 := h.ok.v0
  have hv1 := h.ok.v1
  obtain ⟨W1, hW1⟩ : ∃ W, w.alloc (.cells #[.int .i64 cv, .slice a n cap] 47) = W := ⟨_, rfl⟩
  have b1 : Below w.heap.size w W1 := by rw [← hW1]; exact (Below.refl _ _).alloc (Nat.le_refl _) _
  have k1 : Blk W1 w.heap.size 47 #[.int .i64 cv, .slice a n cap] := by rw [← hW1]; exact Blk.new _ _ _
  have hD := h.below b1
  have CE := fun W (hW : Below W1.heap.size W1 W) => early_any T G p s W (hD.below hW) cv a n cap
  obtain ⟨g, cp, m, n', D, _, _, c0, _, c2, hm, hh, hTm, hpW⟩ := hD.full
  have hmW := hD.lt m hTm
  obtain ⟨bk, hbk⟩ : ∃ b : Bool, decide (cv ∈ s.hs.map Prod.fst) = b := ⟨_, rfl⟩
  have hkeys := (hh.keys cv).trans hbk
  obtain ⟨v1, _, hlook⟩ := look_held hm h1 h2
  rw [hkeys] at hlook
  have hsz := hh.size
  have hlen := fun V (hV : V.heap[m]? = W1.heap[m]?) => (ownsMap_same (w' := V) hm hV).len Tryz.underlying70 3
  rw [hsz] at hlen
  obtain ⟨q, hq⟩ : ∃ q, w.heap.size = q := ⟨_, rfl⟩
  have d0 := k1.cell 0
  have d1 := k1.cell 1
  simp only [List.getElem?_toArray, List.getElem?_cons_zero, List.getElem?_cons_succ] at d0 d1
  obtain ⟨R, hR⟩ : ∃ R, chkE s cv n = R := ⟨_, rfl⟩
  have hRE : R = if cv < 1 ∨ 1099511627776 < cv then 1 else if 64 < n then 4 else if cv ≤ s.v ∨ bk = true then 8 else if s.v + 1 < cv ∧ 16 ≤ s.hs.length then 4 else 0 := by
    rw [← hR]; unfold chkE; rw [← hbk]; simp only [decide_eq_true_eq]
  obtain ⟨L, hL⟩ : ∃ L, s.hs.length = L := ⟨_, rfl⟩
  obtain ⟨v, hv⟩ : ∃ t, s.v = t := ⟨_, rfl⟩
  rw [hv, hL] at hRE
  rw [hv] at c0 hv0 hv1
  simp only [hv] at CE
  rw [hL] at hlen
  rw [hR]
  have HBW := Lib.hid b1
  have HBQ : Hid (Below q w W1) := by rw [← hq]; exact b1
  have HW := Lib.hid hW1; have HCE := Lib.hid CE; have HRE := Lib.hid hRE; have HLK := Lib.hid hlook; have HLN := Lib.hid hlen
  rw [hq] at d0 d1
  clear h hv b1 k1 hW1 hD CE hRE hR hbk hkeys hsz hh hm hL hlook hlen
  go_enter Tryz.func43, Tryz.ntmps43
  by_cases hA : cv < 1
  · have hr := HRE.out; rw [if_pos (.inl hA)] at hr; subst hr
    go_wp2_with fail
    go_ret
    exact ⟨rfl, by rw [show w.alloc (.cells #[.int .i64 cv, .slice a n cap] 47) = W1 from HW.out]; first | exact HBQ.out | exact HBW.out⟩
  by_cases hB : 1099511627776 < cv
  · have hr := HRE.out; rw [if_pos (.inr hB)] at hr; subst hr
    go_wp2_with fail
    go_ret
    exact ⟨rfl, by rw [show w.alloc (.cells #[.int .i64 cv, .slice a n cap] 47) = W1 from HW.out]; first | exact HBQ.out | exact HBW.out⟩
  have hr := HRE.out
  rw [if_neg (by omega)] at hr
  by_cases hC : 64 < n
  · rw [if_pos hC] at hr; subst hr
    have hC2 : (64 : Int) < (n : Int) := by omega
    go_wp2_with fail
    go_ret
    exact ⟨rfl, by rw [show w.alloc (.cells #[.int .i64 cv, .slice a n cap] 47) = W1 from HW.out]; first | exact HBQ.out | exact HBW.out⟩
  rw [if_neg hC] at hr
  have hC2 : ¬ (64 : Int) < (n : Int) := by omega
  have hlk := HLK.out W1 rfl
  have hlk1 := HLK.out W1.drew rfl
  have HR := Lib.hid hr
  clear hr
  go_wp2_with fail
  rw [show w.alloc (.cells #[.int .i64 cv, .slice a n cap] 47) = W1 from HW.out]
  go_region
  by_cases hD : cv ≤ v ∨ bk = true
  · have hr := HR.out
    rw [if_pos hD] at hr; subst hr
    have hlt : bk = false → cv ≤ v := fun h => hD.resolve_right (by simp [h])
    cases bk with
    | true =>
      clear hD hlt
      go_wp2_with fail
      go_region
      go_wp2_with fail
      go_ret
      exact ⟨rfl, by first | exact HBQ.out.drew.drew | exact HBW.out.drew.drew⟩
    | false =>
      have hle := hlt rfl
      have hled : decide (cv ≤ v) = true := by simp [hle]
      clear hD hlt
      go_wp2_with fail
      go_region
      go_wp2_with fail
      go_ret
      exact ⟨rfl, by first | exact HBQ.out.drew.drew | exact HBW.out.drew.drew⟩
  · have hr := HR.out
    rw [if_neg hD] at hr
    obtain rfl : bk = false := by cases bk with | true => exact absurd (.inr rfl) hD | false => rfl
    have hle : ¬ cv ≤ v := fun h => hD (.inl h)
    have hled : decide (cv ≤ v) = false := by simp [hle]
    have HR2 := Lib.hid hr
    clear hD hr HR
    go_wp2_with fail
    go_region
    have hce := HCE.out W1.drew.drew (Below.refl _ _).drew.drew
    have hln := HLN.out
    go_wp2_with fail
    refine hce.mono ?_
    rintro e w5 ⟨rfl, b5⟩
    have B5 : Below W1.heap.size W1 w5 := (Below.refl _ _).drew.drew.trans b5
    have c25 : w5.cell? ⟨p, 2, none⟩ = some (.map (some m)) := (B5.cell (p := ⟨p, 2, none⟩) hpW).trans c2
    have hln5 := hln w5 (B5.block m hmW)
    have HB5 := Lib.hid B5
    have hr2 := HR2.out
    clear b5 B5 hln hce
    by_cases hE : v + 1 < cv
    · have hEd : decide (v + 1 < cv) = true := by simp [hE]
      rw [hEd]
      by_cases hF : 16 ≤ L
      · rw [if_pos ⟨hE, hF⟩] at hr2; subst hr2
        have hF2 : (16 : Int) ≤ (L : Int) := by omega
        go_wp2_with fail
        go_ret
        exact ⟨rfl, HBW.out.trans (HB5.out.mono HBW.out.size)⟩
      · rw [if_neg (fun h => hF h.2)] at hr2; subst hr2
        have hF2 : ¬ (16 : Int) ≤ (L : Int) := by omega
        go_wp2_with fail
        go_ret
        exact ⟨rfl, HBW.out.trans (HB5.out.mono HBW.out.size)⟩
    · have hEd : decide (v + 1 < cv) = false := by simp [hE]
      rw [hEd]
      rw [if_neg (fun h => hE h.1)] at hr2; subst hr2
      go_wp2_with fail
      go_ret
      exact ⟨rfl, HBW.out.trans (HB5.out.mono HBW.out.size)⟩

end Go.Proofs.YtkehgoailhpenaaGreat

/- The contract of remember, for a document that remembers at most 16 states. -/
namespace Go.Proofs.YtkehgoailhpenaaGreat
open Go.RowKit Go.Shelf Go.Maps
set_option linter.unusedVariables false

theorem infoSt : (Tryz.prog.info? 68).map (fun i => (i.zero, i.size, i.bytes)) = some (some (.agg #[.string ⟨#[]⟩, .slice none 0 0]), 2, 40) := by kernel_rfl
/-- The blocks that a call may write, and those that it has made. -/
def newT (T : Nat → Prop) (w w' : World) (b : Nat) : Prop := T b ∨ (w.heap.size ≤ b ∧ b < w'.heap.size)
theorem EsG.none (G : Nat → Prop) (w : World) : EsG G w (.slice Option.none 0 0) [] := ⟨Option.none, 0, rfl, by simp, by omega, fun _ => rfl, .inl rfl⟩

set_option maxRecDepth 100000 in
set_option maxHeartbeats 4000000 in
theorem remember_any (T G : Nat → Prop) (p : Nat) (s : DS) (t : ByteArray) (w : World) (h : DocI T G w p s) (hl : s.ss.length ≤ 16) (ht : t.size ≤ 4096) :
    Calls Tryz.prog 64 #[.pointer (some ⟨p, 0, none⟩), .string t] w fun e w' => (∃ rv, e = .returned rv) ∧ DocI (newT T w w') G w' p ⟨s.v, s.ss ++ [(t, [])], s.hs⟩ ∧ Only T w w' := by
  obtain ⟨i3, hi3, jy0, jy1, jy2⟩ := info_parts infoSt
  obtain ⟨g, cap, m, D, vs, h1, h2, h3, h4, h5, h6, h7⟩ := h.mem
  have hlen := h3.len
  obtain ⟨n, hn⟩ : ∃ n, vs.length = n := ⟨_, rfl⟩
  have hn16 : n ≤ 16 := by omega
  have hcap : n ≤ cap := by
    rcases h2.2 with ⟨hv, _⟩ | ⟨g', cp, cur, hv, _, _, k1, _⟩
    · simp at hv
    · simp only [Value.slice.injEq] at hv; omega
  have hmx : cap ≤ 9223372036854775807 := by
    rcases h2.2 with ⟨hv, _⟩ | ⟨g', cp, cur, hv, _, _, _, k1, _⟩
    · simp at hv
    · simp only [Value.slice.injEq] at hv; unfold maxLen at k1; omega
  have hgp : g ≠ p := by
    rintro rfl
    rcases h2.2 with ⟨hv, _⟩ | ⟨g', cp, cur, hv, _, hg, _⟩
    · simp at hv
    · simp only [Value.slice.injEq, Option.some.injEq, Addr.mk.injEq] at hv
      obtain ⟨⟨rfl, _⟩, _⟩ := hv
      unfold Blk at h1
      rw [hg] at h1
      simp at h1
  have hmp : m ≠ p := by
    rintro rfl
    obtain ⟨es, clock, k1, _⟩ := h4
    unfold Blk at h1
    rw [k1] at h1
    simp at h1
  have hmg : m ≠ g := by
    rintro rfl
    obtain ⟨es, clock, k1, _⟩ := h4
    rcases h2.2 with ⟨hv, _⟩ | ⟨g', cp, cur, hv, _, hg, _⟩
    · simp at hv
    · simp only [Value.slice.injEq, Option.some.injEq, Addr.mk.injEq] at hv
      obtain ⟨⟨rfl, _⟩, _⟩ := hv
      rw [k1] at hg
      simp at hg
  obtain ⟨v, hv⟩ : ∃ v, s.v = v := ⟨_, rfl⟩
  rw [hn, hv] at h1
  rw [hn] at h2
  have c1 := h1.cell 1
  simp only [List.getElem?_toArray, List.getElem?_cons_zero, List.getElem?_cons_succ] at c1
  have hplt := h1.lt
  have HKP : Hid (∀ w6, (w.alloc (.cells #[.string t, .slice none 0 0] 68)).grownBy w6 (some g) → Blk w6 p 72 #[.int .i64 v, .slice (some ⟨g, 0, none⟩) n cap, .map (some m)]) := fun w6 hg => by
    refine h1.same ((hg.block p (by simp; omega) (fun e => by cases e; exact hgp rfl)).trans ?_)
    exact Below.heap_alloc w _ p hplt
  have HFIN : Hid (∀ w6 v', w6.ownsRow 0 68 2 v' (n + 1) (svals vs ++ [.string t, .slice none 0 0]) → (w.alloc (.cells #[.string t, .slice none 0 0] 68)).grownBy w6 (some g) → (v'.ownBlock = some g ∨ v'.ownBlock = some (w.heap.size + 1)) →
      DocI (newT T w (w6.setCell ⟨p, 1, none⟩ v')) G (w6.setCell ⟨p, 1, none⟩ v') p ⟨s.v, s.ss ++ [(t, [])], s.hs⟩ ∧ Only T w (w6.setCell ⟨p, 1, none⟩ v')) := fun w6 v' hown hg hat => by
    have kp := HKP.out w6 hg
    obtain ⟨A, c6, rfl⟩ := own_slice hown
    obtain ⟨g6, c6', hv6⟩ := ownsRow_succ hown
    simp only [Value.slice.injEq, true_and] at hv6
    obtain ⟨rfl, rfl⟩ := hv6
    have hat2 : g6 = g ∨ g6 = w.heap.size + 1 := by
      rcases hat with e | e
      · exact .inl (by simpa [Value.ownBlock] using e)
      · exact .inr (by simpa [Value.ownBlock] using e)
    have hg6p : g6 ≠ p := by rcases hat2 with e | e <;> omega
    have hz6 : w.heap.size < w6.heap.size := by have := hg.size; simp at this; omega
    have hzs : (w6.setCell ⟨p, 1, none⟩ (.slice (some ⟨g6, 0, none⟩) (n + 1) c6)).heap.size = w6.heap.size := by simp [World.setCell]
    obtain ⟨w7, hw7⟩ : ∃ W, w6.setCell ⟨p, 1, none⟩ (.slice (some ⟨g6, 0, none⟩) (n + 1) c6) = W := ⟨_, rfl⟩
    have hblk : ∀ b, b ≠ p → w7.heap[b]? = w6.heap[b]? := fun b hb => by rw [← hw7]; exact Below.heap_setCell _ _ _ b (fun e => hb (by simpa using e))
    have hold : ∀ b, b < w.heap.size → b ≠ p → b ≠ g → w7.heap[b]? = w.heap[b]? := fun b hb hp hg' =>
      ((hblk b hp).trans (hg.block b (by simp; omega) (fun e => by cases e; exact hg' rfl))).trans (Below.heap_alloc w _ b hb)
    have kp7 : Blk w7 p 72 #[.int .i64 v, .slice (some ⟨g6, 0, none⟩) (n + 1) c6, .map (some m)] := by
      have := kp.set 1 (.slice (some ⟨g6, 0, none⟩) (n + 1) c6)
      rw [hw7] at this
      simpa using this
    rw [hw7] at hzs ⊢
    have hTp := h.tp
    have hg6lt : g6 < w6.heap.size := (row_lt hown).2
    have hGne : ∀ b, G b → b ≠ p ∧ b ≠ g := fun b hb => ⟨fun e => h.apart p hTp (e ▸ hb), fun e => h.apart g h6 (e ▸ hb)⟩
    have hGk : ∀ b, G b → b < w.heap.size → w7.heap[b]? = w.heap[b]? := fun b hb hlt => hold b hlt (hGne b hb).1 (hGne b hb).2
    have hmk : w7.heap[m]? = w.heap[m]? := hold m (h.lt m h7) hmp hmg
    have hvl : (vs ++ [(t, Value.slice none 0 0)]).length = n + 1 := by rw [List.length_append, hn]; rfl
    refine ⟨⟨⟨h.ok.v0, h.ok.v1, by simp, by simp only [List.length_append, List.length_cons, List.length_nil]; omega, ?_, ?_, h.ok.hlen, h.ok.held, h.ok.hk⟩, ⟨g6, c6, m, D, vs ++ [(t, .slice none 0 0)], ?_, ?_, ?_, ownsMap_same h4 hmk, h5.keep (by omega) hGk (fun _ h => h), ?_, .inl h7⟩, .inl hTp, ?_, ?_, ?_⟩, ?_⟩
    · intro x hx
      rcases List.mem_append.1 hx with hx | hx
      · exact h.ok.text x hx
      · simp only [List.mem_singleton] at hx; subst hx; exact ht
    · intro x hx
      rcases List.mem_append.1 hx with hx | hx
      · exact h.ok.eds x hx
      · simp only [List.mem_singleton] at hx; subst hx; exact ⟨Nat.zero_le _, fun e he => by simp at he⟩
    · rw [hvl]; show Blk w7 p _ #[.int .i64 s.v, _, _]; rw [hv]; exact kp7
    · rw [hvl, svals_app]; exact own_same hown (fun j hj => by cases hj; exact hblk g6 hg6p)
    · exact (h3.mono (fun x y hxy => ⟨hxy.1, hxy.2.keep (by omega) hGk (fun _ h => h)⟩)).app (.cons ⟨rfl, EsG.none _ _⟩ .nil)
    · rcases hat2 with e | e
      · exact .inl (e ▸ h6)
      · exact .inr ⟨by omega, by omega⟩
    · intro b hb
      rcases hb with hb | hb
      · have := h.lt b hb; omega
      · exact hb.2
    · intro b hb; have := h.glt b hb; omega
    · intro b hb hG
      rcases hb with hb | hb
      · exact h.apart b hb hG
      · have := h.glt b hG; omega
    · refine ⟨?_, ?_, ?_, by omega, fun k hk hT => hold k hk (fun e => hT (e ▸ hTp)) (fun e => hT (e ▸ h6))⟩
      · rw [← hw7]; exact hg.os
      · rw [← hw7]; exact hg.tape
      · rw [← hw7]; exact hg.output
  have HO := Lib.hid h2
  have hk1 : ¬ (16 : Int) < (n : Int) := by omega
  have hk2 : (n : Int) ≤ (cap : Int) := by omega
  clear h h1 h2 h3 h4 h5 h6 h7 hlen hn hgp hmp hmg hv hplt
  go_enter Tryz.func64, Tryz.ntmps64
  go_wp2_with (at_builtin; refine wpList_append_own_at _ rfl _ _ 69 rfl 0 68 i3 (.agg #[.string ⟨#[]⟩, .slice none 0 0]) 2 40 Tryz.underlying69 hi3 jy0 jy1 jy2 rfl (by decide) (.slice (some ⟨g, 0, none⟩) n cap) n (svals vs) rfl (HO.out.alloc _) ⟨_, 0, none⟩ 1 1 [.string t, .slice none 0 0] rfl rfl (cells_newb _ [.string t, .slice none 0 0] _ _ (by simp; try omega)) (fun x hx => by simp at hx; rcases hx with rfl | rfl <;> rfl) (by unfold maxLen; omega) (by omega) (Nat.zero_le _) ?_; intro v' w6 hown6 hgrow6 _ hat6; obtain ⟨ao, co, rfl⟩ := own_slice hown6; have hk6 := HKP.out w6 hgrow6; have c8 : w6.cell? ⟨p, 1, none⟩ = some (.slice (some ⟨g, 0, none⟩) n cap) := (by simpa using hk6.cell 1); have f8 := hk6.frozen 1)
  have hF := HFIN.out w6 (.slice ao (n + 1) co) hown6 hgrow6 (by simpa [Value.ownBlock] using hat6)
  refine bodyPost_end (results_none rfl _ _ _) rfl ?_
  exact ⟨⟨_, rfl⟩, hF⟩

end Go.Proofs.YtkehgoailhpenaaGreat
