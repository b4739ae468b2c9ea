/- Slices of edits that come in, and what the two calls of Bytes have in common. It has no conditions. -/
import Derived.Test.YthjedecfpedjbaaPEd5
import Derived.Deep.Slices
namespace Go.Proofs.Ythjedecfpedjbaa
open Go.RowKit Go.Shelf Go.ChangeShapes
set_option linter.unusedVariables false

theorem i64n_of_wf {x : Int} (h : (Lit.int .i64 x).wf = true) : I64n x := by
  simp only [Lit.wf, IntKind.min, IntKind.max, IntKind.signed, IntKind.bits, Bool.and_eq_true] at h
  simp at h; exact ⟨by omega, by omega⟩
theorem open_pos {H : Type} {enc : TypeId × Value → H} {w : World} {base : Nat} {spare : Nat → Bool} {held : Bool} {fuel : Nat} {v0 v1 : Value} {x : DataW H × List MemPlace} (h : DataW.trod enc Try.prog w base spare held fuel 32 [v0, v1] = some x) :
    ∃ l u, v0 = .int .i64 l ∧ v1 = .int .i64 u ∧ I64n l ∧ I64n u := by
  obtain ⟨y0, y1, m, _, _, hy0, hy1⟩ := trod_struct2 Try.underlying32 h
  have c1 : Try.prog.cellsOf 3 = 1 := by kernel_rfl
  simp only [c1, List.drop_zero, List.take_succ_cons, List.take_zero, List.drop_succ_cons] at hy0 hy1
  obtain ⟨l, e0, _, w0⟩ := DataW.trod_int Try.underlying3 hy0
  obtain ⟨u, e1, _, w1⟩ := DataW.trod_int Try.underlying3 hy1
  simp only [List.cons.injEq, and_true] at e0 e1
  exact ⟨l, u, e0, e1, i64n_of_wf w0, i64n_of_wf w1⟩
set_option maxRecDepth 100000 in
theorem open_ed {H : Type} {enc : TypeId × Value → H} {w : World} {base : Nat} {spare : Nat → Bool} {held : Bool} {fuel : Nat} {cs : List Value} {x : DataW H × List MemPlace} (h : DataW.trod enc Try.prog w base spare held fuel 43 cs = some x) :
    ∃ p : PE, cs = p.vals ∧ p.fit := by
  obtain ⟨xs, n, _, _, hlen, hxl, hf⟩ := DataW.trod_struct Try.underlying43 h
  have c5 : Try.prog.cellsOf 43 = 5 := by kernel_rfl
  have c2 : Try.prog.cellsOf 32 = 2 := by kernel_rfl
  have c1 : Try.prog.cellsOf 9 = 1 := by kernel_rfl
  rw [c5] at hlen
  match cs, hlen with
  | [v0, v1, v2, v3, v4], _ =>
    match xs, hxl with
    | [z0, z1, z2], _ =>
      have g0 := hf 0 _ rfl
      have g1 := hf 1 _ rfl
      have g2 := hf 2 _ rfl
      simp [c2, c1] at g0 g1 g2
      obtain ⟨l1, u1, rfl, rfl, a1, a2⟩ := open_pos g0
      obtain ⟨l2, u2, rfl, rfl, a3, a4⟩ := open_pos g1
      obtain ⟨t, e, _, _⟩ := DataW.trod_string Try.underlying9 g2
      simp only [List.cons.injEq, and_true] at e
      subst e
      exact ⟨⟨l1, u1, l2, u2, t⟩, rfl, a1, a2, a3, a4⟩
theorem add_add' (b off x y : Nat) : ((⟨b, off, none⟩ : Addr).add x).add y = ⟨b, off + x + y, none⟩ := by
  by_cases hx : x = 0 <;> by_cases hy : y = 0 <;> simp [Addr.add, hx, hy]
/-- A slice of edits that came in. -/
theorem open_eds {H : Type} {enc : TypeId × Value → H} {W : World} {fuel : Nat} {a : Option Addr} {len cap : Nat} {x : DataW H × List MemPlace} (h : DataW.trod enc Try.prog W 0 (fun _ => true) true fuel 41 [.slice a len cap] = some x) :
    len ≤ cap ∧ cap ≤ 9223372036854775807 ∧ (a = none → cap = 0) ∧ ∃ es : Nat → PE, PCells W.heap.size W a len es ∧ ∀ k, k < len → (es k).fit := by
  have c5 : Try.prog.cellsOf 43 = 5 := by kernel_rfl
  rcases Deep.open_slice Try.underlying41 h with ⟨hcs, _⟩ | ⟨ad, l, c, m, n, D, Pl, hcs, _, hl, hm, hmm, _, hx⟩
  · simp only [List.cons.injEq, Value.slice.injEq, and_true] at hcs
    obtain ⟨rfl, rfl, rfl⟩ := hcs
    exact ⟨Nat.le_refl _, by omega, fun _ => rfl, fun _ => ⟨0, 0, 0, 0, ⟨#[]⟩⟩, .inl rfl, fun k hk => by omega⟩
  · simp only [List.cons.injEq, Value.slice.injEq, and_true] at hcs
    obtain ⟨rfl, rfl, rfl⟩ := hcs
    have hlm : len ≤ m := by rw [hmm]; simp; exact hl
    rw [c5] at hx
    have each : ∀ k, k < len → ∃ p : PE, p.fit ∧ ∀ i, i < 5 → W.cell? ((ad.add (k * 5)).add i) = p.vals[i]? := by
      intro k hk
      obtain ⟨cs', h1, h2⟩ := hx k (by omega)
      obtain ⟨_, _, hcell⟩ := World.cells?_some h1
      obtain ⟨p, rfl, hp⟩ := open_ed h2
      exact ⟨p, hp, hcell⟩
    refine ⟨hl, by unfold maxLen at hm; omega, (fun h => by cases h), fun k => if hk : k < len then (each k hk).choose else ⟨0, 0, 0, 0, ⟨#[]⟩⟩, ?_, fun k hk => by simp only [dif_pos hk]; exact (each k hk).choose_spec.1⟩
    by_cases h0 : len = 0
    · exact .inl h0
    · obtain ⟨b, off, spot⟩ := ad
      have hc0 := (each 0 (by omega)).choose_spec.2 0 (by omega)
      have hspot : spot = none := by simpa [Addr.add] using World.cell?_spot hc0
      subst hspot
      have hlt : b < W.heap.size := by
        have := World.block_lt_of_cell? W _ hc0
        simpa [Addr.add] using this
      refine .inr ⟨b, off, rfl, hlt, fun k hk i hi => ?_⟩
      have h1 := (each k hk).choose_spec.2 i hi
      simp only [dif_pos hk]
      rw [add_add'] at h1
      exact h1

/-- What the frame of a law tells of a slice of edits that came in. -/
def IsEds (w : World) (a : Option Addr) (len cap : Nat) : Prop :=
  len ≤ cap ∧ cap ≤ 9223372036854775807 ∧ (a = none → cap = 0) ∧ ∃ es : Nat → PE, PCells w.heap.size w a len es ∧ ∀ k, k < len → (es k).fit
/-- The values of the first k edits by positions. -/
def pvals (es : Nat → PE) (k : Nat) : List Value := (List.range k).flatMap fun j => (es j).vals
theorem pvals_succ (es : Nat → PE) (k : Nat) : pvals es (k + 1) = pvals es k ++ (es k).vals := by unfold pvals; rw [List.range_succ]; simp
theorem pvals_len (es : Nat → PE) (k : Nat) : (pvals es k).length = k * 5 := by
  induction k with
  | zero => rfl
  | succ k ih => rw [pvals_succ, List.length_append, ih]; simp [PE.vals]; omega
theorem pvals_get (es : Nat → PE) (n k i : Nat) (hk : k < n) (hi : i < 5) : (pvals es n)[k * 5 + i]? = (es k).vals[i]? := by
  induction n with
  | zero => omega
  | succ n ih =>
    rw [pvals_succ]
    by_cases h : k = n
    · subst h
      rw [List.getElem?_append_right (by rw [pvals_len]; omega), pvals_len]
      congr 1; omega
    · rw [List.getElem?_append_left (by rw [pvals_len]; omega)]
      exact ih (by omega)
theorem pvals_congr {es fs : Nat → PE} (n : Nat) (h : ∀ k, k < n → es k = fs k) : pvals es n = pvals fs n := by
  induction n with
  | zero => rfl
  | succ n ih => rw [pvals_succ, pvals_succ, ih (fun k hk => h k (by omega)), h n (by omega)]
/-- The cells of a slice of edits, one after another. -/
theorem pcells_get {B : Nat} {w : World} {b off n : Nat} {es : Nat → PE} (h : ∀ k, k < n → ∀ i, i < 5 → w.cell? ⟨b, off + k * 5 + i, none⟩ = (es k).vals[i]?) (m : Nat) (hm : m ≤ n) :
    ∀ j u, (pvals es m)[j]? = some u → w.cell? ((⟨b, off, none⟩ : Addr).add j) = some u := by
  intro j u hj
  have hlt : j < m * 5 := by have := (List.getElem?_eq_some_iff.1 hj).1; rwa [pvals_len] at this
  have h1 := h (j / 5) (by omega) (j % 5) (by omega)
  have h2 := pvals_get es m (j / 5) (j % 5) (by omega) (by omega)
  rw [show j / 5 * 5 + j % 5 = j by omega, hj] at h2
  rw [← h2] at h1
  rw [← h1]
  congr 1
  by_cases hz : j = 0
  · subst hz; simp [Addr.add]
  · simp [Addr.add, hz]; omega
theorem pcells_of_own {w : World} {B n : Nat} {ov : Value} {es : Nat → PE} (h : w.ownsRow B 43 5 ov n (pvals es n)) :
    ∃ A cap, ov = .slice A n cap ∧ n ≤ cap ∧ cap ≤ 9223372036854775807 ∧ PCells w.heap.size w A n es ∧ ((A = none ∧ n = 0 ∧ cap = 0) ∨ ∃ g, A = some ⟨g, 0, none⟩ ∧ B ≤ g ∧ g < w.heap.size) := by
  rcases h.2 with ⟨rfl, h0⟩ | ⟨g, cp, cur, rfl, hB, hg, h1, h2, _, _⟩
  · subst h0
    exact ⟨none, 0, rfl, Nat.le_refl _, by omega, .inl rfl, .inl ⟨rfl, rfl, rfl⟩⟩
  · have hlt := (Array.getElem?_eq_some_iff.1 hg).1
    refine ⟨some ⟨g, 0, none⟩, cp, rfl, h1, by unfold maxLen at h2; omega, .inr ⟨g, 0, rfl, hlt, fun k hk i hi => ?_⟩, .inr ⟨g, rfl, hB, hlt⟩⟩
    rw [Nat.zero_add, h.cellAt (k * 5 + i) (by omega)]
    exact pvals_get es n k i hk hi

/-- What is determined of a call of Bytes: how many edits, and the error. -/
def Det (n : Nat) (ers : Nat → Int) (m : Nat) (er : Int) : Prop :=
  (64 < n ∧ m = 0 ∧ er = 4) ∨ (n ≤ 64 ∧ FirstE n ers er ∧ m = 0) ∨ (n ≤ 64 ∧ (∀ k, k < n → ers k = 0) ∧ m = n ∧ er = 0)
theorem Det.det {n : Nat} {ers : Nat → Int} {m m' : Nat} {er er' : Int} (h : Det n ers m er) (k : Det n ers m' er') : m = m' ∧ er = er' := by
  rcases h with ⟨h1, rfl, rfl⟩ | ⟨h1, h2, rfl⟩ | ⟨h1, h2, rfl, rfl⟩ <;> rcases k with ⟨k1, rfl, rfl⟩ | ⟨k1, k2, rfl⟩ | ⟨k1, k2, rfl, rfl⟩
  · exact ⟨rfl, rfl⟩
  · omega
  · omega
  · omega
  · exact ⟨rfl, h2.det k2⟩
  · obtain ⟨i, a, b, c, _⟩ := h2
    exact absurd (k2 i a) (by rw [b]; exact c)
  · omega
  · obtain ⟨i, a, b, c, _⟩ := k2
    exact absurd (h2 i a) (by rw [b]; exact c)
  · exact ⟨rfl, rfl⟩
theorem bytes_one {n : Nat} {ds : Nat → Ed} {ers : Nat → Int} {w : World} {e : Ending} {w' : World} (h : BytesPost n ds ers w e w') :
    ∃ m er a cap, e = .returned (.tuple #[.slice a m cap, .int .i64 er]) ∧ m ≤ cap ∧ cap ≤ 9223372036854775807 ∧ ECells w'.heap.size w' a m ds ∧ Det n ers m er ∧ Below w.heap.size w w' := by
  rcases h with ⟨h1, hb, rfl⟩ | ⟨h1, hb, ⟨er, hf, rfl⟩ | ⟨hz, a, cap, rfl, h2, h3, h4⟩⟩
  · exact ⟨0, 4, none, 0, rfl, Nat.le_refl _, by omega, .inl rfl, .inl ⟨h1, rfl, rfl⟩, hb⟩
  · exact ⟨0, er, none, 0, rfl, Nat.le_refl _, by omega, .inl rfl, .inr (.inl ⟨h1, hf, rfl⟩), hb⟩
  · exact ⟨n, 0, a, cap, rfl, h2, h3, h4, .inr (.inr ⟨h1, hz, rfl, rfl⟩), hb⟩

end Go.Proofs.Ythjedecfpedjbaa
