/- Bound maps to a range around 0. Conditions: ranges up to 2^40. -/
import Derived.Test.YtfecajeenmnoeaaAround
namespace Go.Proofs.Ytfecajeenmnoeaa
open Go.RowKit Go.Shelf
set_option linter.unusedVariables false

/-- Bound hands back a number from -m to m. -/
def InBound (m : Nat) (w : World) (e : Ending) (w' : World) : Prop := ∃ k : Int, -(m : Int) ≤ k ∧ k ≤ (m : Int) ∧ e = .returned (.int .i64 k) ∧ w = w'
theorem bound_any (x : Int) (m : Nat) (w : World) (h1 : -9223372036854775808 ≤ x) (h2 : x ≤ 9223372036854775807) (hm2 : m ≤ 1099511627776) :
    Calls Try.prog 23 #[.int .i64 x, .int .i64 (m : Int)] w (InBound m w) := by
  obtain ⟨M, hM⟩ : ∃ M : Nat, 2 * m + 1 = M := ⟨_, rfl⟩
  have hMi : 2 * (m : Int) + 1 = (M : Int) := by omega
  have c1 := fun W => around_any x M W h1 h2 (by omega) (by omega)
  have C1 := Lib.hid c1
  have HM := Lib.hid hMi
  have hMb : M ≤ 2199023255553 := by omega
  clear c1 hM
  go_enter Try.func23, Try.ntmps23
  go_wp2_with fail
  refine (C1.out _).mono ?_
  rintro e w' ⟨k, hk, rfl, rfl⟩
  have hkb : (k : Int) < 2 * (m : Int) + 1 := by have := HM.out; omega
  clear hMi
  go_wp2
  go_ret
  exact ⟨(k : Int) - (m : Int), by omega, by omega, rfl, rfl⟩

end Go.Proofs.Ytfecajeenmnoeaa
