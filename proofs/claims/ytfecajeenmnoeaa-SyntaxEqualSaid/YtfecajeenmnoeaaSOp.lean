/- Trees that come in. It has no conditions. -/
import Derived.Test.YtfecajeenmnoeaaSTy
import Derived.Test.YtfecajeenmnoeaaWf
import Derived.ChangeArms
import Derived.Deep.Slices
namespace Go.Proofs.Ytfecajeenmnoeaa
open Go.RowKit Go.Shelf Go.ChangeShapes
set_option linter.unusedVariables false

theorem add_add4 (b off x y : Nat) : ((⟨b, off, none⟩ : Addr).add x).add y = ⟨b, off + x + y, none⟩ := by
  by_cases hx : x = 0 <;> by_cases hy : y = 0 <;> simp [Addr.add, hx, hy]
theorem txls_all : ∀ (l : List Nd), (∀ x ∈ l, x.txl) → txls l
  | [], h => by rw [txls]; trivial
  | y :: l, h => by rw [txls]; exact ⟨h y (by simp), txls_all l (fun x hx => h x (List.mem_cons_of_mem _ hx))⟩
set_option maxRecDepth 100000 in
theorem open_nd {H : Type} {enc : TypeId × Value → H} {W : World} : ∀ (fuel : Nat) (cs : List Value) (x : DataW H × List MemPlace), DataW.trod enc Try.prog W 0 (fun _ => true) true fuel 25 cs = some x →
    ∃ (t : Nd) (a : Option Addr) (n cap : Nat), cs = [.int .i64 t.id, .int .i64 t.kind, .string t.text, .slice a n cap] ∧ t.txl ∧ KV (fun _ => True) W a n cap t.kids := by
  intro fuel
  induction fuel using Nat.strongRecOn with
  | ind fuel ih =>
    intro cs x h
    obtain ⟨xs, n, rfl, _, hlen, hxl, hf⟩ := DataW.trod_struct Try.underlying25 h
    have c5 : Try.prog.cellsOf 25 = 4 := by kernel_rfl
    have c2 : Try.prog.cellsOf 3 = 1 := by kernel_rfl
    have c1 : Try.prog.cellsOf 9 = 1 := by kernel_rfl
    have c3 : Try.prog.cellsOf 23 = 1 := by kernel_rfl
    rw [c5] at hlen
    match cs, hlen with
    | [v0, v1, v2, v3], _ =>
      match xs, hxl with
      | [z0, z1, z2, z3], _ =>
        have g0 := hf 0 _ rfl
        have g1 := hf 1 _ rfl
        have g2 := hf 2 _ rfl
        have g3 := hf 3 _ rfl
        simp [c2, c1, c3] at g0 g1 g2 g3
        obtain ⟨l, e0, _, w0⟩ := DataW.trod_int Try.underlying3 g0
        obtain ⟨u, e1, _, w1⟩ := DataW.trod_int Try.underlying3 g1
        obtain ⟨s, e2, _, h3⟩ := DataW.trod_string Try.underlying9 g2
        simp only [List.cons.injEq, and_true] at e0 e1 e2
        subst e0 e1 e2
        unfold maxLen at h3
        have hs : s.size ≤ 9223372036854775807 := by omega
        rcases DataW.trod_slice Try.underlying23 g3 with ⟨hcs, _⟩ | ⟨ad, len, cap, elems, rest, m, hm, hcs, _, _, hl, hmx, hel, hx, _, _⟩
        · simp only [List.cons.injEq, and_true] at hcs
          subst hcs
          exact ⟨.mk l u s [], none, 0, 0, rfl, by rw [Nd.txl]; exact ⟨hs, by rw [txls]; trivial⟩, .nil (fun _ => rfl) (by omega)⟩
        · simp only [List.cons.injEq, and_true] at hcs
          subst hcs
          unfold maxLen at hmx
          have each : ∀ k : Nat, ∃ y : Nd × Option Addr × Nat × Nat, k < len → y.1.txl ∧ KV (fun _ => True) W y.2.1 y.2.2.1 y.2.2.2 y.1.kids ∧ ∀ i, i < 4 → W.cell? ((ad.add (k * 4)).add i) = [Value.int .i64 y.1.id, .int .i64 y.1.kind, .string y.1.text, .slice y.2.1 y.2.2.1 y.2.2.2][i]? := by
            intro k
            by_cases hk : k < len
            · have hxk := hx k hk
              rw [c5, List.getElem?_eq_getElem (by omega), Option.bind_eq_some_iff] at hxk
              obtain ⟨cs', h1, h2⟩ := hxk
              obtain ⟨_, _, hcell⟩ := World.cells?_some h1
              obtain ⟨t, a', n', cap', rfl, ht, hkv⟩ := ih m (by omega) cs' _ h2
              exact ⟨(t, a', n', cap'), fun _ => ⟨ht, hkv, hcell⟩⟩
            · exact ⟨(.mk 0 0 s [], none, 0, 0), fun h => absurd h hk⟩
          obtain ⟨f, hfc⟩ := Classical.axiomOfChoice each
          have hln : ((List.range len).map (fun k => (f k).1)).length = len := by simp
          refine ⟨.mk l u s ((List.range len).map (fun k => (f k).1)), some ad, len, cap, rfl, ?_, ?_⟩
          · rw [Nd.txl]
            refine ⟨hs, txls_all _ (fun y hy => ?_)⟩
            obtain ⟨k, hk, rfl⟩ := List.mem_map.1 hy
            exact (hfc k (List.mem_range.1 hk)).1
          · by_cases h0 : len = 0
            · subst h0
              exact .nil (fun h => by cases h) (by omega)
            · obtain ⟨b, off, spot⟩ := ad
              have hc0 := (hfc 0 (by omega)).2.2 0 (by omega)
              have hspot : spot = none := by simpa [Addr.add] using World.cell?_spot hc0
              subst hspot
              have hlt : b < W.heap.size := by
                have := World.block_lt_of_cell? W _ hc0
                simpa [Addr.add] using this
              have hget : ∀ k (hk : k < ((List.range len).map (fun k => (f k).1)).length), ((List.range len).map (fun k => (f k).1))[k] = (f k).1 := fun k hk => by simp
              show KV (fun _ => True) W (some ⟨b, off, none⟩) len cap ((List.range len).map (fun k => (f k).1))
              refine .cons (fun k => (f k).2.1) (fun k => (f k).2.2.1) (fun k => (f k).2.2.2) hln h0 (by omega) (by omega) hlt trivial (fun k hk => ?_) (fun k hk => ?_)
              · have hk' : k < len := by rw [hln] at hk; exact hk
                have hc := (hfc k hk').2.2
                have d0 := hc 0 (by omega)
                have d1 := hc 1 (by omega)
                have d2 := hc 2 (by omega)
                have d3 := hc 3 (by omega)
                rw [add_add4] at d0 d1 d2 d3
                rw [hget k hk]
                exact ⟨by simpa using d0, by simpa using d1, by simpa using d2, by simpa using d3⟩
              · have hk' : k < len := by rw [hln] at hk; exact hk
                rw [hget k hk]
                exact (hfc k hk').2.1

/-- What the frame of a law tells of a tree that came in. -/
def IsNd (w : World) (t : Nd) (a : Option Addr) (n cap : Nat) : Prop := t.txl ∧ KV (fun _ => True) w a n cap t.kids
theorem open_ndarg {H : Type} {enc : TypeId × Value → H} {W : World} {fuel : Nat} {cs : Array Value} {x : DataW H × List MemPlace} (h : DataW.trod enc Try.prog W 0 (fun _ => true) true fuel 25 (Value.agg cs).cells.toList = some x) :
    ∃ (t : Nd) (a : Option Addr) (n cap : Nat), cs = #[.int .i64 t.id, .int .i64 t.kind, .string t.text, .slice a n cap] ∧ IsNd W t a n cap := by
  obtain ⟨t, a, n, cap, e, h1, h2⟩ := open_nd fuel _ _ h
  refine ⟨t, a, n, cap, ?_, h1, h2⟩
  have e' : cs.toList = [.int .i64 t.id, .int .i64 t.kind, .string t.text, .slice a n cap] := by simpa [Value.cells] using e
  exact Array.toList_inj.1 e'

end Go.Proofs.Ytfecajeenmnoeaa
