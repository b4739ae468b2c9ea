/- The contract of SameEdits at two lists of the same edits. Conditions: lists of at most 1000 edits. -/
import Derived.Test.YthjedecfpedjbaaPEd4
namespace Go.Proofs.Ythjedecfpedjbaa
open Go.RowKit Go.Shelf
set_option linter.unusedVariables false

set_option maxRecDepth 100000 in
set_option maxHeartbeats 2000000 in
theorem sameeds_any (a a' : Option Addr) (n cap cap' : Nat) (ds : Nat → Ed) (w : World) (hn : n ≤ 1000) (hc : ECells w.heap.size w a n ds) (hc' : ECells w.heap.size w a' n ds) (hcap : n ≤ cap) (hcap' : n ≤ cap') :
    Calls Try.prog 27 #[.slice a n cap, .slice a' n cap'] w fun e w' => e = .returned (.bool true) ∧ Below w.heap.size w w' := by
  obtain ⟨B, hB⟩ : ∃ B, w.heap.size = B := ⟨_, rfl⟩
  rw [hB] at hc hc'
  have hcore : ∀ {x : Option Addr}, ECells B w x n ds → ∃ g, (n = 0 ∨ x = some ⟨g, 0, none⟩) ∧ ∀ k, k < n → ∀ W, Below B w W → W.cell? ⟨g, k * 3, none⟩ = some (.int .i64 ((ds k).f : Int)) ∧ W.cell? ⟨g, k * 3 + 1, none⟩ = some (.int .i64 ((ds k).o : Int)) ∧ W.cell? ⟨g, k * 3 + 2, none⟩ = some (.string (ds k).t) := by
    intro x hx
    rcases hx with h0 | ⟨g, ha, hg, hcc⟩
    · exact ⟨0, .inl h0, fun k hk => by omega⟩
    · refine ⟨g, .inr ha, fun k hk W hW => ⟨?_, ?_, ?_⟩⟩
      · exact (hW.cell (p := ⟨g, k * 3, none⟩) hg).trans (hcc k hk 0 (by omega))
      · exact (hW.cell (p := ⟨g, k * 3 + 1, none⟩) hg).trans (hcc k hk 1 (by omega))
      · exact (hW.cell (p := ⟨g, k * 3 + 2, none⟩) hg).trans (hcc k hk 2 (by omega))
  obtain ⟨g, hab, hcell⟩ := hcore hc
  obtain ⟨g', hab', hcell'⟩ := hcore hc'
  have HAB := Lib.hid hab; have HC := Lib.hid hcell; have HAB' := Lib.hid hab'; have HC' := Lib.hid hcell'; have HB := Lib.hid hB
  have hq0 : ((n : Int) != (n : Int)) = false := by simp
  clear hc hc' hcore hab hcell hab' hcell' hB
  go_enter Try.func27, Try.ntmps27
  go_wp2_with fail
  go_loopw [5] (fun q wr => ∃ k : Nat, k ≤ n ∧ q = .int .i64 (k : Int) ∧ Hid (Below B w wr)) (fun q _ => n - (intOf q).toNat)
  case atStart => exact ⟨0, by omega, rfl, Below.refl _ _⟩
  case round =>
    obtain ⟨k, hk, rfl, HR⟩ := hrel
    by_cases hlt : k < n
    · have ha := HAB.out.resolve_left (by omega)
      have ha' := HAB'.out.resolve_left (by omega)
      subst ha ha'
      obtain ⟨c0, c1, c2⟩ := HC.out k hlt wr HR.out
      obtain ⟨d0, d1, d2⟩ := HC'.out k hlt wr HR.out
      have hkk : (k : Int) < (n : Int) := by omega
      go_wp2_with fail
      go_quiet (fail)
      go_wp2
      go_roundw
      case rel => exact ⟨k + 1, by omega, by go_num, below_drewN HR.out _⟩
      case measure => simp [intOf]; omega
    · obtain rfl : n = k := by omega
      go_wp2
      go_ret
      exact ⟨rfl, by rw [HB.out]; exact HR.out⟩

end Go.Proofs.Ythjedecfpedjbaa
