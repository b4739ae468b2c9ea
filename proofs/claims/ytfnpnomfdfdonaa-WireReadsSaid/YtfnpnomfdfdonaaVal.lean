/- Values of all kinds as they lie in memory, and lists of them. It has no conditions. -/
import Derived.Test.YtfnpnomfdfdonaaRowI
import Derived.Test.YtfnpnomfdfdonaaWRound
namespace Go.Proofs.Ytfnpnomfdfdonaa
open Go.RowKit Go.Shelf
set_option linter.unusedVariables false

/-- A value: 0 unsigned, 1 signed, 2 truth value (in n), 3 string (in b), 4 byte slice, 5 list. -/
structure V where
  kind : Nat
  u : Nat
  n : Int
  b : List Int
  l : List Int
/-- What all values are that are written here: each field fits, and those of other kinds are zero. -/
structure Good (v : V) : Prop where
  k5 : v.kind ≤ 5
  u64 : v.u < 18446744073709551616
  n1 : -9223372036854775808 ≤ v.n
  n2 : v.n ≤ 9223372036854775807
  byt : Byt v.b
  i64 : I64 v.l
  bl : v.b.length ≤ 200
  ll : v.l.length ≤ 20
  z0 : v.kind ≠ 0 → v.u = 0
  z1 : v.kind ≠ 1 → v.kind ≠ 2 → v.n = 0
  z2 : v.kind = 2 → v.n = 0 ∨ v.n = 1
  z3 : v.kind ≠ 3 → v.kind ≠ 4 → v.b = []
  z5 : v.kind ≠ 5 → v.l = []

/-- What can be written. -/
structure Fit (v : V) : Prop where
  k5 : v.kind ≤ 5
  u64 : v.u < 18446744073709551616
  n1 : -9223372036854775808 ≤ v.n
  n2 : v.n ≤ 9223372036854775807
  byt : Byt v.b
  i64 : I64 v.l
  bl : v.b.length ≤ 2000
  ll : v.l.length ≤ 2000
theorem Good.fit {v : V} (h : Good v) : Fit v := ⟨h.k5, h.u64, h.n1, h.n2, h.byt, h.i64, by have := h.bl; omega, by have := h.ll; omega⟩
theorem good_b {k : Nat} (hk : k = 3 ∨ k = 4) {zs : List Int} (h : Byt zs) (hl : zs.length ≤ 200) : Good ⟨k, 0, 0, zs, []⟩ := by
  rcases hk with rfl | rfl <;> exact { k5 := by simp, u64 := by simp, n1 := by simp, n2 := by simp, byt := h, i64 := by intro c hc; simp at hc, bl := hl, ll := by simp, z0 := by simp, z1 := by simp, z2 := by simp, z3 := by simp, z5 := by simp }
theorem good_l {zs : List Int} (h : I64 zs) (hl : zs.length ≤ 20) : Good ⟨5, 0, 0, [], zs⟩ :=
  { k5 := by simp, u64 := by simp, n1 := by simp, n2 := by simp, byt := by intro c hc; simp at hc, i64 := h, bl := by simp, ll := hl, z0 := by simp, z1 := by simp, z2 := by simp, z3 := by simp, z5 := by simp }
theorem good_u {u : Nat} (h : u < 18446744073709551616) : Good ⟨0, u, 0, [], []⟩ :=
  { k5 := by simp, u64 := h, n1 := by simp, n2 := by simp, byt := by intro c hc; simp at hc, i64 := by intro c hc; simp at hc, bl := by simp, ll := by simp, z0 := by simp, z1 := by simp, z2 := by simp, z3 := by simp, z5 := by simp }
theorem good_n {n : Int} (h1 : -9223372036854775808 ≤ n) (h2 : n ≤ 9223372036854775807) : Good ⟨1, 0, n, [], []⟩ :=
  { k5 := by simp, u64 := by simp, n1 := h1, n2 := h2, byt := by intro c hc; simp at hc, i64 := by intro c hc; simp at hc, bl := by simp, ll := by simp, z0 := by simp, z1 := by simp, z2 := by simp, z3 := by simp, z5 := by simp }
theorem good_t {n : Int} (h : n = 0 ∨ n = 1) : Good ⟨2, 0, n, [], []⟩ :=
  { k5 := by simp, u64 := by simp, n1 := by simp only; omega, n2 := by simp only; omega, byt := by intro c hc; simp at hc, i64 := by intro c hc; simp at hc, bl := by simp, ll := by simp, z0 := by simp, z1 := by simp, z2 := fun _ => h, z3 := by simp, z5 := by simp }

/-- A slice of integers in a block of cells of a known type. -/
structure SlT (k : IntKind) (e : TypeId) (base : Nat) (w : World) (a : Option Addr) (cap : Nat) (zs : List Int) : Prop where
  le : zs.length ≤ cap
  mx : cap ≤ 9223372036854775807
  nil : a = none → cap = 0
  cells : zs = [] ∨ ∃ g off cur f, a = some ⟨g, off, none⟩ ∧ base ≤ g ∧ w.heap[g]? = some (.cells cur e f) ∧ ∀ j, j < zs.length → cur[off + j]? = some (.int k (zs[j]?.getD 0))
theorem SlT.sli {k : IntKind} {e : TypeId} {base : Nat} {w : World} {a : Option Addr} {cap : Nat} {zs : List Int} (h : SlT k e base w a cap zs) : Sli k w a cap zs := by
  refine ⟨h.le, h.mx, h.nil, ?_⟩
  rcases h.cells with h0 | ⟨g, off, cur, f, ha, hg, hb, hc⟩
  · exact .inl h0
  · exact .inr ⟨g, off, ha, (Array.getElem?_eq_some_iff.1 hb).1, fun j hj => by simp [World.cell?, hb, hc j hj]⟩
theorem SlT.keep {k : IntKind} {e : TypeId} {base : Nat} {w w' : World} {a : Option Addr} {cap : Nat} {zs : List Int} (h : SlT k e base w a cap zs)
    (hk : ∀ g cur f, base ≤ g → w.heap[g]? = some (.cells cur e f) → w'.heap[g]? = w.heap[g]?) : SlT k e base w' a cap zs := by
  refine ⟨h.le, h.mx, h.nil, ?_⟩
  rcases h.cells with h0 | ⟨g, off, cur, f, ha, hg, hb, hc⟩
  · exact .inl h0
  · exact .inr ⟨g, off, cur, f, ha, hg, (hk g cur f hg hb).trans hb, hc⟩
theorem SlT.nil_ (k : IntKind) (e : TypeId) (base : Nat) (w : World) : SlT k e base w none 0 [] := ⟨by simp, by omega, fun _ => rfl, .inl rfl⟩
theorem SlT.mono {k : IntKind} {e : TypeId} {base base' : Nat} {w : World} {a : Option Addr} {cap : Nat} {zs : List Int} (h : SlT k e base w a cap zs) (hb : base' ≤ base) : SlT k e base' w a cap zs := by
  refine ⟨h.le, h.mx, h.nil, ?_⟩
  rcases h.cells with h0 | ⟨g, off, cur, f, ha, hg, hbk, hc⟩
  · exact .inl h0
  · exact .inr ⟨g, off, cur, f, ha, by omega, hbk, hc⟩
theorem slT_of_own {k : IntKind} {e : TypeId} {base : Nat} {w : World} {a : Option Addr} {n cap : Nat} {zs : List Int} (h : w.ownsRow base e 1 (.slice a n cap) n (zs.map (Value.int k))) : SlT k e base w a cap zs := by
  have hn : n = zs.length := by have := h.1; simp at this; omega
  subst hn
  rcases h.2 with ⟨hv, h0⟩ | ⟨g, cap', cur, hv, hg, hb, hc, hm, hs, ht⟩
  · simp only [Value.slice.injEq] at hv
    obtain ⟨rfl, _, rfl⟩ := hv
    have : zs = [] := List.eq_nil_of_length_eq_zero (by omega)
    subst this
    exact SlT.nil_ _ _ _ _
  · simp only [Value.slice.injEq, true_and] at hv
    obtain ⟨rfl, rfl⟩ := hv
    refine ⟨hc, by unfold maxLen at hm; omega, (fun h => by cases h), .inr ⟨g, 0, cur, (0, 0), rfl, hg, hb, fun j hj => ?_⟩⟩
    have h1 : (cur.toList.take (zs.length * 1))[j]? = (zs.map (Value.int k))[j]? := by rw [ht]
    rw [List.getElem?_take, if_pos (by omega), List.getElem?_map] at h1
    simp [hj] at h1
    simpa [hj] using h1

/-- The five cells of a value. -/
def VAt (base : Nat) (w : World) (v : V) (cs : List Value) : Prop :=
  ∃ ab cb al cl, cs = [.int .i64 v.kind, .int .u64 v.u, .int .i64 v.n, .slice ab v.b.length cb, .slice al v.l.length cl] ∧ SlT .u8 5 base w ab cb v.b ∧ SlT .i64 3 base w al cl v.l
theorem VAt.keep {base : Nat} {w w' : World} {v : V} {cs : List Value} (h : VAt base w v cs) (hk : ∀ g cur e f, e ≠ 28 → base ≤ g → w.heap[g]? = some (.cells cur e f) → w'.heap[g]? = w.heap[g]?) : VAt base w' v cs := by
  obtain ⟨ab, cb, al, cl, h1, h2, h3⟩ := h
  exact ⟨ab, cb, al, cl, h1, h2.keep (fun g cur f a b => hk g cur _ f (by decide) a b), h3.keep (fun g cur f a b => hk g cur _ f (by decide) a b)⟩
theorem VAt.len {base : Nat} {w : World} {v : V} {cs : List Value} (h : VAt base w v cs) : cs.length = 5 := by
  obtain ⟨ab, cb, al, cl, rfl, _⟩ := h; rfl

theorem flat_len (css : List (List Value)) (h : ∀ c ∈ css, c.length = 5) : css.flatten.length = css.length * 5 := by
  induction css with
  | nil => rfl
  | cons c css ih =>
    have h1 := ih (fun x hx => h x (by simp [hx]))
    have h2 := h c (by simp)
    simp only [List.flatten_cons, List.length_append, List.length_cons, h1, h2]; omega
theorem flat_get (css : List (List Value)) (h : ∀ c ∈ css, c.length = 5) : ∀ (j i : Nat), i < 5 → css.flatten[j * 5 + i]? = (css[j]?.getD [])[i]? := by
  induction css with
  | nil => intro j i _; simp
  | cons c css ih =>
    intro j i hi
    have h2 := h c (by simp)
    cases j with
    | zero => simp only [List.flatten_cons, Nat.zero_mul, Nat.zero_add]; rw [List.getElem?_append_left (by omega)]; simp
    | succ j =>
      have h1 := ih (fun x hx => h x (by simp [hx])) j i hi
      rw [List.flatten_cons, List.getElem?_append_right (by omega), show (j + 1) * 5 + i - c.length = j * 5 + i by omega, h1]
      simp

/-- A list of values that a call owns. -/
structure VRow (base : Nat) (w : World) (ov : Value) (vs : List V) : Prop where
  ex : ∃ css : List (List Value), css.length = vs.length ∧ w.ownsRow base 28 5 ov vs.length css.flatten ∧ ∀ (j : Nat) (v : V) (c : List Value), vs[j]? = some v → css[j]? = some c → VAt base w v c
theorem VRow.nil_ (base : Nat) (w : World) : VRow base w (.slice none 0 0) [] := ⟨[], rfl, World.ownsRow_nil _ _ _ _, fun j v c h => by simp at h⟩
theorem VRow.len5 {base : Nat} {w : World} {vs : List V} {css : List (List Value)} (hl : css.length = vs.length) (h : ∀ (j : Nat) (v : V) (c : List Value), vs[j]? = some v → css[j]? = some c → VAt base w v c) : ∀ c ∈ css, c.length = 5 := by
  intro c hc
  obtain ⟨j, hj⟩ := List.mem_iff_getElem?.1 hc
  have hlt : j < css.length := (List.getElem?_eq_some_iff.1 hj).1
  exact (h j vs[j] c (List.getElem?_eq_getElem (by omega)) hj).len
/-- The cells of an element. -/
theorem VRow.at_ {base : Nat} {w : World} {ov : Value} {vs : List V} (h : VRow base w ov vs) {j : Nat} {v : V} (hj : vs[j]? = some v) :
    ∃ g cap ab cb al cl, ov = .slice (some ⟨g, 0, none⟩) vs.length cap ∧ base ≤ g ∧ g < w.heap.size ∧ SlT .u8 5 base w ab cb v.b ∧ SlT .i64 3 base w al cl v.l ∧
      w.cell? ⟨g, j * 5, none⟩ = some (.int .i64 v.kind) ∧ w.cell? ⟨g, j * 5 + 1, none⟩ = some (.int .u64 v.u) ∧ w.cell? ⟨g, j * 5 + 2, none⟩ = some (.int .i64 v.n) ∧
      w.cell? ⟨g, j * 5 + 3, none⟩ = some (.slice ab v.b.length cb) ∧ w.cell? ⟨g, j * 5 + 4, none⟩ = some (.slice al v.l.length cl) := by
  obtain ⟨css, hl, hown, hat⟩ := h.ex
  have hlt : j < vs.length := (List.getElem?_eq_some_iff.1 hj).1
  obtain ⟨m, hm⟩ : ∃ m, vs.length = m + 1 := ⟨vs.length - 1, by omega⟩
  have hown2 := hown
  rw [hm] at hown2
  obtain ⟨g, cap, hov⟩ := ownsRow_succ hown2
  rw [← hm] at hov
  subst hov
  have h5 := VRow.len5 hl hat
  have hc : css[j]? = some css[j] := List.getElem?_eq_getElem (by omega)
  obtain ⟨ab, cb, al, cl, hcs, hb, hL⟩ := hat j v css[j] hj hc
  have hg := hown.lt g rfl
  have hcell : ∀ i, i < 5 → w.cell? ⟨g, j * 5 + i, none⟩ = css[j][i]? := fun i hi => by
    rw [hown.cellAt (j * 5 + i) (by omega), flat_get css h5 j i hi, hc]; rfl
  refine ⟨g, cap, ab, cb, al, cl, rfl, hg.1, hg.2, hb, hL, ?_, ?_, ?_, ?_, ?_⟩
  · have := hcell 0 (by omega); rw [hcs] at this; simpa using this
  · have := hcell 1 (by omega); rw [hcs] at this; simpa using this
  · have := hcell 2 (by omega); rw [hcs] at this; simpa using this
  · have := hcell 3 (by omega); rw [hcs] at this; simpa using this
  · have := hcell 4 (by omega); rw [hcs] at this; simpa using this
theorem VRow.keep {base : Nat} {w w' : World} {ov : Value} {vs : List V} (h : VRow base w ov vs) (hb : ∀ b, base ≤ b → b < w.heap.size → w'.heap[b]? = w.heap[b]?) : VRow base w' ov vs := by
  obtain ⟨css, hl, hown, hat⟩ := h.ex
  exact ⟨css, hl, own_same hown (fun g e => hb g (hown.lt g e).1 (hown.lt g e).2), fun j v c a b => (hat j v c a b).keep (fun g cur e f _ hg hc => hb g hg (Array.getElem?_eq_some_iff.1 hc).1)⟩
theorem VRow.slice {base : Nat} {w : World} {ov : Value} {vs : List V} (h : VRow base w ov vs) : ∃ A cap, ov = .slice A vs.length cap := by
  obtain ⟨css, hl, hown, hat⟩ := h.ex; exact own_slice hown
theorem VRow.below {base : Nat} {w w' : World} {ov : Value} {vs : List V} (h : VRow base w ov vs) (hb : Below w.heap.size w w') : VRow base w' ov vs := h.keep (fun b _ h2 => hb.block b h2)

/-- What a value is written as. -/
def enc (v : V) : List Int :=
  if v.kind = 0 then vU v.u
  else if v.kind = 1 then vU (zz v.n)
  else if v.kind = 2 then [if v.n = 1 then 1 else 0]
  else if v.kind = 3 ∨ v.kind = 4 then vU v.b.length ++ v.b
  else vU v.l.length ++ vL v.l
def encs (vs : List V) : List Int := vs.flatMap enc
theorem enc_byt {v : V} (h : Good v) : Byt (enc v) := by
  unfold enc
  split
  · exact vU_byt _
  · split
    · exact vU_byt _
    · split
      · intro c hc; simp at hc; split at hc <;> omega
      · split
        · intro c hc; rcases List.mem_append.1 hc with h1 | h1
          · exact vU_byt _ c h1
          · exact h.byt c h1
        · intro c hc; rcases List.mem_append.1 hc with h1 | h1
          · exact vU_byt _ c h1
          · simp only [vL, List.mem_flatMap] at h1
            obtain ⟨n, _, h2⟩ := h1
            exact vU_byt _ c h2
theorem encs_byt {vs : List V} (h : ∀ v ∈ vs, Good v) : Byt (encs vs) := by
  intro c hc
  simp only [encs, List.mem_flatMap] at hc
  obtain ⟨v, hv, hc⟩ := hc
  exact enc_byt (h v hv) c hc
theorem enc_len {v : V} (h : Good v) : (enc v).length ≤ 220 := by
  have h1 := vU_len10 h.u64
  have h2 := vU_len10 (zz_lt h.n1 h.n2)
  have h3 := vU_len10 (n := v.b.length) (by have := h.bl; omega)
  have h4 := vU_len10 (n := v.l.length) (by have := h.ll; omega)
  have h5 := vL_len h.i64
  have h6 := h.bl
  have h7 := h.ll
  unfold enc
  split
  · omega
  · split
    · omega
    · split
      · simp
      · split
        · rw [List.length_append]; omega
        · rw [List.length_append]; omega
theorem encs_len {vs : List V} (h : ∀ v ∈ vs, Good v) : (encs vs).length ≤ 220 * vs.length := by
  induction vs with
  | nil => simp [encs]
  | cons v vs ih =>
    have h1 := ih (fun x hx => h x (by simp [hx]))
    have h2 := enc_len (h v (by simp))
    simp only [encs, List.flatMap_cons, List.length_append, List.length_cons] at h1 ⊢
    omega
theorem encs_append (a b : List V) : encs (a ++ b) = encs a ++ encs b := by simp [encs]
theorem encs_take_le (vs : List V) (k : Nat) : (encs (vs.take k)).length ≤ (encs vs).length := by
  have h := encs_append (vs.take k) (vs.drop k)
  rw [List.take_append_drop] at h
  rw [h, List.length_append]; omega
theorem encs_snoc (vs : List V) (k : Nat) (v : V) (h : vs[k]? = some v) : encs (vs.take (k + 1)) = encs (vs.take k) ++ enc v := by
  rw [List.take_add_one, h]; simp [encs]

end Go.Proofs.Ytfnpnomfdfdonaa
