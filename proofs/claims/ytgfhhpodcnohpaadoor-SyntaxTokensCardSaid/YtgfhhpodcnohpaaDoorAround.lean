/- Around hands back an index. Conditions: 1 to 2^42. -/
import Derived.Test.YtgfhhpodcnohpaaDoorBase
namespace Go.Proofs.YtgfhhpodcnohpaaDoor
open Go.RowKit Go.Shelf

/-- Around hands back an index below m. -/
def Index (m : Nat) (w : World) (e : Ending) (w' : World) : Prop := ∃ k : Nat, k < m ∧ e = .returned (.int .i64 (k : Int)) ∧ w = w'
theorem around_any (x : Int) (m : Nat) (w : World) (h1 : -9223372036854775808 ≤ x) (h2 : x ≤ 9223372036854775807) (hm : 1 ≤ m) (hm2 : m ≤ 4398046511104) :
    Calls Tryd.prog 23 #[.int .i64 x, .int .i64 (m : Int)] w (Index m w) := by
  have hm0 : ¬ (m : Int) = 0 := by omega
  by_cases h : x < 0
  · have hq : -(x + 1).tmod (m : Int) = (-(x + 1)) % (m : Int) := by
      rw [← Int.neg_tmod, Int.tmod_eq_emod_of_nonneg (by omega)]
    have h3 := Int.emod_nonneg (-(x + 1)) hm0
    have h4 := Int.emod_lt_of_pos (-(x + 1)) (show (0 : Int) < m by omega)
    have HQ := Lib.hid hq
    have H3 := Lib.hid h3
    have H4 := Lib.hid h4
    clear hq h3 h4
    go_enter Tryd.func23, Tryd.ntmps23
    go_wp2
    go_ret
    refine ⟨((-(x + 1)) % (m : Int)).toNat, by have := H3.out; have := H4.out; omega, ?_, rfl⟩
    rw [Int.toNat_of_nonneg H3.out, ← HQ.out]
    rfl
  · have h3 := Int.emod_nonneg x hm0
    have h4 := Int.emod_lt_of_pos x (show (0 : Int) < m by omega)
    have H3 := Lib.hid h3
    have H4 := Lib.hid h4
    clear h3 h4
    go_enter Tryd.func23, Tryd.ntmps23
    go_wp2
    go_ret
    refine ⟨(x % (m : Int)).toNat, by have := H3.out; have := H4.out; omega, ?_, rfl⟩
    rw [Int.toNat_of_nonneg H3.out]
    rfl

end Go.Proofs.YtgfhhpodcnohpaaDoor
