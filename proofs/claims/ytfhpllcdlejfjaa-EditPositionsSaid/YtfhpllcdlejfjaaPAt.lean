/- The contract of the reference's At. Conditions: texts of at most 100000 bytes. -/
import Derived.Test.YtfhpllcdlejfjaaPBord
import Derived.Test.YtfhpllcdlejfjaaOnly
import Derived.Test.YtfhpllcdlejfjaaRowI
namespace Go.Proofs.Ytfhpllcdlejfjaa
open Go.RowKit Go.Shelf
set_option linter.unusedVariables false

theorem sb_extract (s : ByteArray) (a b : Nat) : sb (s.extract a b) = ((sb s).drop a).take (b - a) := by
  unfold sb
  rw [ByteArray.data_extract, Array.toList_extract, List.map_take, List.map_drop]
/-- What At returns: line, unit, error. -/
def AtSpec (Z : List Int) (off : Int) (l u : Nat) (e : Int) : Prop :=
  (e = 5 ∧ l = 0 ∧ u = 0 ∧ (off < 0 ∨ (Z.length : Int) < off)) ∨
  (e = 1 ∧ l = 0 ∧ u = 0 ∧ ∃ i : Nat, off = (i : Int) ∧ i ≤ Z.length ∧ ¬ ∃ U, Bord Z i U) ∨
  (e = 0 ∧ ∃ i : Nat, off = (i : Int) ∧ Pos Z i l u)
theorem AtSpec.det {Z : List Int} {off : Int} {l u l' u' : Nat} {e e' : Int} (h : AtSpec Z off l u e) (k : AtSpec Z off l' u' e') : l = l' ∧ u = u' ∧ e = e' := by
  have hb : ∀ {i l u}, Pos Z i l u → i ≤ Z.length := fun h => by obtain ⟨⟨U, hU⟩, _⟩ := h; exact hU.le
  rcases h with ⟨rfl, rfl, rfl, h⟩ | ⟨rfl, rfl, rfl, i, rfl, h1, h2⟩ | ⟨rfl, i, rfl, h⟩ <;> rcases k with ⟨rfl, rfl, rfl, k⟩ | ⟨rfl, rfl, rfl, j, hj, k1, k2⟩ | ⟨rfl, j, hj, k⟩
  · exact ⟨rfl, rfl, rfl⟩
  · omega
  · have := hb k; omega
  · omega
  · exact ⟨rfl, rfl, rfl⟩
  · obtain rfl : i = j := by omega
    exact absurd k.1 h2
  · have := hb h; omega
  · obtain rfl : i = j := by omega
    exact absurd h.1 k2
  · obtain rfl : i = j := by omega
    obtain ⟨h1, h2⟩ := h.det k
    exact ⟨h1, h2, rfl⟩
/-- A call of At returns what it should, and what lay lies as it lay. -/
def AtPost (s : ByteArray) (off : Int) (w : World) (e : Ending) (w' : World) : Prop :=
  ∃ (l u : Nat) (er : Int), e = .returned (.tuple #[.agg #[.int .i64 (l : Int), .int .i64 (u : Int)], .int .i64 er]) ∧ AtSpec (sb s) off l u er ∧ Below w.heap.size w w'

end Go.Proofs.Ytfhpllcdlejfjaa
