/- Slices of edits by offsets that come in. It has no conditions. -/
import Derived.Test.YtfhpllcdlejfjaaEFw
import Derived.Deep.Slices
namespace Go.Proofs.Ytfhpllcdlejfjaa
open Go.RowKit Go.Shelf Go.ChangeShapes
set_option linter.unusedVariables false

theorem i64_of_wf {x : Int} (h : (Lit.int .i64 x).wf = true) : -9223372036854775808 ≤ x ∧ x ≤ 9223372036854775807 := wf_i64 h
set_option maxRecDepth 100000 in
theorem open_er {H : Type} {enc : TypeId × Value → H} {w : World} {base : Nat} {spare : Nat → Bool} {held : Bool} {fuel : Nat} {cs : List Value} {x : DataW H × List MemPlace} (h : DataW.trod enc Try.prog w base spare held fuel 32 cs = some x) :
    ∃ p : Er, cs = p.vals ∧ p.Big := by
  obtain ⟨xs, n, _, _, hlen, hxl, hf⟩ := DataW.trod_struct Try.underlying32 h
  have c5 : Try.prog.cellsOf 32 = 3 := by kernel_rfl
  have c2 : Try.prog.cellsOf 3 = 1 := by kernel_rfl
  have c1 : Try.prog.cellsOf 9 = 1 := by kernel_rfl
  rw [c5] at hlen
  match cs, hlen with
  | [v0, v1, v2], _ =>
    match xs, hxl with
    | [z0, z1, z2], _ =>
      have g0 := hf 0 _ rfl
      have g1 := hf 1 _ rfl
      have g2 := hf 2 _ rfl
      simp [c2, c1] at g0 g1 g2
      obtain ⟨l, e0, _, w0⟩ := DataW.trod_int Try.underlying3 g0
      obtain ⟨u, e1, _, w1⟩ := DataW.trod_int Try.underlying3 g1
      obtain ⟨t, e2, _, h3⟩ := DataW.trod_string Try.underlying9 g2
      simp only [List.cons.injEq, and_true] at e0 e1 e2
      subst e0 e1 e2
      have a0 := wf_i64 w0
      have a1 := wf_i64 w1
      unfold maxLen at h3
      exact ⟨⟨l, u, t⟩, rfl, a0.1, a0.2, a1.1, a1.2, by show t.size ≤ 9223372036854775807; omega⟩
theorem add_add3 (b off x y : Nat) : ((⟨b, off, none⟩ : Addr).add x).add y = ⟨b, off + x + y, none⟩ := by
  by_cases hx : x = 0 <;> by_cases hy : y = 0 <;> simp [Addr.add, hx, hy]
/-- What the frame of a law tells of a slice of edits that came in. -/
def IsEs (w : World) (a : Option Addr) (len cap : Nat) : Prop :=
  ∃ es : List Er, es.length = len ∧ (∀ e ∈ es, e.Big) ∧ ES w.heap.size w a cap es
theorem eg_of (f : Nat → Er) (n k : Nat) (h : k < n) : eg ((List.range n).map f) k = f k := by
  simp [eg, h]
theorem open_es {H : Type} {enc : TypeId × Value → H} {W : World} {fuel : Nat} {a : Option Addr} {len cap : Nat} {x : DataW H × List MemPlace} (h : DataW.trod enc Try.prog W 0 (fun _ => true) true fuel 22 [.slice a len cap] = some x) : IsEs W a len cap := by
  have c5 : Try.prog.cellsOf 32 = 3 := by kernel_rfl
  rcases Deep.open_slice Try.underlying22 h with ⟨hcs, _⟩ | ⟨ad, l, c, m, n, D, Pl, hcs, _, hl, hm, hmm, _, hx⟩
  · simp only [List.cons.injEq, Value.slice.injEq, and_true] at hcs
    obtain ⟨rfl, rfl, rfl⟩ := hcs
    exact ⟨[], rfl, by simp, ES.none _ _⟩
  · simp only [List.cons.injEq, Value.slice.injEq, and_true] at hcs
    obtain ⟨rfl, rfl, rfl⟩ := hcs
    have hlm : len ≤ m := by rw [hmm]; simp; exact hl
    rw [c5] at hx
    have each : ∀ k, k < len → ∃ p : Er, p.Big ∧ ∀ i, i < 3 → W.cell? ((ad.add (k * 3)).add i) = p.vals[i]? := by
      intro k hk
      obtain ⟨cs', h1, h2⟩ := hx k (by omega)
      obtain ⟨_, _, hcell⟩ := World.cells?_some h1
      obtain ⟨p, rfl, hp⟩ := open_er h2
      exact ⟨p, hp, hcell⟩
    let f : Nat → Er := fun k => if hk : k < len then (each k hk).choose else dE
    have hfb : ∀ k, k < len → (f k).Big := fun k hk => by simp only [f, dif_pos hk]; exact (each k hk).choose_spec.1
    have hfc : ∀ k, k < len → ∀ i, i < 3 → W.cell? ((ad.add (k * 3)).add i) = (f k).vals[i]? := fun k hk => by simp only [f, dif_pos hk]; exact (each k hk).choose_spec.2
    have hln : ((List.range len).map f).length = len := by simp
    refine ⟨(List.range len).map f, hln, ?_, ?_⟩
    · intro e he
      obtain ⟨k, hk, rfl⟩ := List.mem_map.1 he
      exact hfb k (List.mem_range.1 hk)
    · refine ⟨by rw [hln]; exact hl, by unfold maxLen at hm; omega, (fun h => by cases h), ?_⟩
      by_cases h0 : len = 0
      · exact .inl (by rw [hln]; exact h0)
      · obtain ⟨b, off, spot⟩ := ad
        have hc0 := hfc 0 (by omega) 0 (by omega)
        have hspot : spot = none := by simpa [Addr.add] using World.cell?_spot hc0
        subst hspot
        have hlt : b < W.heap.size := by
          have := World.block_lt_of_cell? W _ hc0
          simpa [Addr.add] using this
        refine .inr ⟨b, off, rfl, hlt, fun k hk i hi => ?_⟩
        rw [hln] at hk
        rw [eg_of f len k hk, ← hfc k hk i hi, add_add3]

end Go.Proofs.Ytfhpllcdlejfjaa
