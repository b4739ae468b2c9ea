/- Rows of a call's own that lie in a span of blocks. It has no conditions. -/
import Derived.Test.YtgfhhpodcnohpaaDoorOnly
import Derived.Laws.OwnMore
namespace Go.Proofs.YtgfhhpodcnohpaaDoor
open Go.RowKit Go.Shelf
set_option linter.unusedVariables false

/-- A slice of integers of the call's own, in a block from lo on and below hi. -/
structure Row (k : IntKind) (e : TypeId) (lo hi : Nat) (w : World) (A : Option Addr) (n cap : Nat) (xs : List Int) : Prop where
  own : w.ownsRow lo e 1 (.slice A n cap) n (xs.map (Value.int k))
  lt : ∀ g, (Value.slice A n cap).ownBlock = some g → g < hi
  sz : hi ≤ w.heap.size
theorem Row.len {k : IntKind} {e : TypeId} {lo hi : Nat} {w : World} {A : Option Addr} {n cap : Nat} {xs : List Int} (h : Row k e lo hi w A n cap xs) : xs.length = n := by have := h.own.1; simpa using this
theorem Row.keep {k : IntKind} {e : TypeId} {lo hi : Nat} {w w' : World} {A : Option Addr} {n cap : Nat} {xs : List Int} (h : Row k e lo hi w A n cap xs) (hs : w.heap.size ≤ w'.heap.size) (hb : ∀ b, lo ≤ b → b < hi → w'.heap[b]? = w.heap[b]?) : Row k e lo hi w' A n cap xs :=
  ⟨own_same h.own (fun g hg => hb g (h.own.lt g hg).1 (h.lt g hg)), h.lt, Nat.le_trans h.sz hs⟩
theorem Row.only {k : IntKind} {e : TypeId} {lo hi : Nat} {w w' : World} {T : Nat → Prop} {A : Option Addr} {n cap : Nat} {xs : List Int} (h : Row k e lo hi w A n cap xs) (ho : Only T w w') (hT : ∀ b, lo ≤ b → b < hi → ¬ T b) : Row k e lo hi w' A n cap xs :=
  h.keep ho.size (fun b h1 h2 => ho.block b (by have := h.sz; omega) (hT b h1 h2))
theorem Row.below {k : IntKind} {e : TypeId} {lo hi : Nat} {w w' : World} {A : Option Addr} {n cap : Nat} {xs : List Int} (h : Row k e lo hi w A n cap xs) {B : Nat} (hb : Below B w w') (hB : hi ≤ B) : Row k e lo hi w' A n cap xs :=
  h.keep hb.size (fun b _ h2 => hb.block b (by omega))
theorem Row.at_ {k : IntKind} {e : TypeId} {lo hi : Nat} {w : World} {A : Option Addr} {n cap : Nat} {xs : List Int} (h : Row k e lo hi w A n cap xs) {j : Nat} (hj : j < n) :
    ∃ g, A = some ⟨g, 0, none⟩ ∧ lo ≤ g ∧ g < hi ∧ w.cell? ⟨g, j, none⟩ = some (.int k (xs[j]?.getD 0)) ∧ w.frozen? ⟨g, j, none⟩ = false ∧
      ∀ y, Row k e lo hi (w.setCell ⟨g, j, none⟩ (.int k y)) A n cap (xs.set j y) ∧ Only (fun b => lo ≤ b ∧ b < hi) w (w.setCell ⟨g, j, none⟩ (.int k y)) := by
  obtain ⟨m, rfl⟩ : ∃ m, n = m + 1 := ⟨n - 1, by omega⟩
  obtain ⟨g, cap', hv⟩ := ownsRow_succ h.own
  simp only [Value.slice.injEq, true_and] at hv
  obtain ⟨rfl, rfl⟩ := hv
  have h1 := (h.own.lt g rfl).1
  have h2 := h.lt g rfl
  refine ⟨g, rfl, h1, h2, row_cell h.own j hj, h.own.frozenAt j, fun y => ⟨⟨row_stored h.own j y, h.lt, by simp [World.setCell]; exact h.sz⟩, ?_⟩⟩
  exact Only.setCell (T := fun b => lo ≤ b ∧ b < hi) (Only.refl _ _) (p := ⟨g, j, none⟩) (.inr ⟨h1, h2⟩) _
theorem Row.sli {k : IntKind} {e : TypeId} {lo hi : Nat} {w : World} {A : Option Addr} {n cap : Nat} {xs : List Int} (h : Row k e lo hi w A n cap xs) : SliAt k hi w A cap xs := by
  obtain ⟨_, a, c, hv, hs⟩ := sli_of_own h.own
  simp only [Value.slice.injEq] at hv
  obtain ⟨rfl, _, rfl⟩ := hv
  refine ⟨hs.le, hs.mx, hs.nil, ?_⟩
  rcases hs.cells with h0 | ⟨b, off, ha, hb, hc⟩
  · exact .inl h0
  · subst ha
    exact .inr ⟨b, off, rfl, h.lt b rfl, hc⟩
theorem row_of_own {k : IntKind} {e : TypeId} {lo : Nat} {w : World} {A : Option Addr} {n cap : Nat} {xs : List Int} (h : w.ownsRow lo e 1 (.slice A n cap) n (xs.map (Value.int k))) : Row k e lo w.heap.size w A n cap xs :=
  ⟨h, fun g hg => (h.lt g hg).2, Nat.le_refl _⟩
/-- A new row, out of a call's post. -/
theorem row_of_new {k : IntKind} {e : TypeId} {w w' : World} {xs : List Int} {en : Ending} (h : NewRow k e w xs en w') :
    ∃ A cap, en = .returned (.slice A xs.length cap) ∧ Row k e w.heap.size w'.heap.size w' A xs.length cap xs ∧ Below w.heap.size w w' := by
  obtain ⟨v, rfl, hown, hb⟩ := h
  obtain ⟨A, cap, rfl⟩ := own_slice hown
  exact ⟨A, cap, rfl, row_of_own hown, hb⟩

end Go.Proofs.YtgfhhpodcnohpaaDoor
