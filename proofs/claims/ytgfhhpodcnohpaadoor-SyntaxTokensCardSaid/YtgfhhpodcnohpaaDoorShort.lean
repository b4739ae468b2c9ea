/- Short takes the first bytes of a string. It has no conditions. -/
import Derived.Test.YtgfhhpodcnohpaaDoorBase
namespace Go.Proofs.YtgfhhpodcnohpaaDoor
open Go.RowKit Go.Shelf

/-- The first bytes of a string. -/
def shS (s : ByteArray) (M : Nat) : ByteArray := if M < s.size then s.extract 0 M else s
theorem shS_size (s : ByteArray) (M : Nat) : (shS s M).size ≤ M := by
  unfold shS; split
  · rw [ByteArray.size_extract]; omega
  · omega
theorem short_any (s : ByteArray) (M : Nat) (w : World) (_hs : s.size ≤ 9223372036854775807) (hM : M ≤ 1000) :
    Calls Tryd.prog 17 #[.string s, .int .i64 (M : Int)] w fun e w' => e = .returned (.string (shS s M)) ∧ w = w' := by
  by_cases h : M < s.size
  · have hr : shS s M = s.extract 0 M := if_pos h
    rw [hr]
    clear hr
    go_enter Tryd.func17, Tryd.ntmps17
    go_wp2
    go_ret
    exact ⟨rfl, rfl⟩
  · have hr : shS s M = s := if_neg h
    rw [hr]
    clear hr
    go_enter Tryd.func17, Tryd.ntmps17
    go_wp2
    go_ret
    exact ⟨rfl, rfl⟩

end Go.Proofs.YtgfhhpodcnohpaaDoor
