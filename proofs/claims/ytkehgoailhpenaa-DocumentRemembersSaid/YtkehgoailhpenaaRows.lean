/-
  No cell of these rows narrows 'for every input' (looked for: loops, veiled, ifaces, maps, wideKeys, modest, calm, conditions, laid).
  DERIVED. THE GIVEN ROWS OF THIS SEAT. 4 by the template 'for every input the law returns true; each argument reads behind the call as it read before'; 0 by the template 'total and deterministic' (their statements: YtkehgoailhpenaaTotals.lean).
  GIVEN WITH THE SEED: the statements are not yours to turn. If you find one false, say at which input.
  Laid BY PROGRAM, IN A SANDBOX (cutbox-rows.mjs): the forced cells as the released guide's own fill.sh prints them over the translation 967094b2ed8928fc… (all of the seat's roots in one cut). By AI agents, Wed Nov 11 2026. No macro, syntax, notation, axiom, sorry.
-/
import Derived.Test.YtkehgoailhpenaaChecked
import GoSem.Claim
import GoSem.ClaimJoined
import GoSem.ClaimMapViews
import Derived.JoinedTies
import Derived.KernelRfl
namespace Go.Proofs.Ytkehgoailhpenaa
/- THE CELL 'sum', in the pinned program and in every row, IS THE sha256 OF THE DUMP (.gsa) THAT YtkehgoailhpenaaProg.lean LOADS. Nothing in Lean hashes anything: it is a label: what it is worth is what the hold of that sum in a sandbox is worth. -/
noncomputable def Try.pinned : Pinned := { name := "ytkehgoailhpenaa", sum := "967094b2ed8928fc90ac91c0fef3e7c437377d31957b250898aba8c4e058ac04", checked := Try.checked }
namespace Rows
def none {H : Type} : Left H := { results := [], args := [] }

/-- 'schemalenslaw05.DocumentOrder': WHATEVER THE INPUT: true; the input reads as it did. -/
def documentOrderSpec : ChangeSpec := { name := "documentOrder", fn := fun _ => fun
  | [d1, d2] => { results := [.lit (.bool true)], args := [d1, d2] }
  | _ => none }
def documentOrderRow : OpenClaim := { program := "ytkehgoailhpenaa", sum := "967094b2ed8928fc90ac91c0fef3e7c437377d31957b250898aba8c4e058ac04", func := "schemalens/schemalenslaw05.DocumentOrder", spec := "documentOrder", inPlace := ["internal/bytealg.IndexByteString", "internal/bytealg.IndexString", "internal/abi.NoEscape"], unfollowed := true, recurses := true, named := ["internal/bytealg.MaxLen"], apart := false }
def DocumentOrderSaid : Prop := documentOrderRow.holds Try.pinned (OpenSpec.ofChange documentOrderSpec)

/-- ITS FALSE NEIGHBOUR: 'it returns false'. Refute it at one input. -/
def documentOrderWrong : ChangeSpec := { name := "documentOrder", fn := fun _ => fun
  | [d1, d2] => { results := [.lit (.bool false)], args := [d1, d2] }
  | _ => none }
def DocumentOrderWrongFalsely : Prop := documentOrderRow.holds Try.pinned (OpenSpec.ofChange documentOrderWrong)

/-- 'schemalenslaw05.DocumentRemembers': WHATEVER THE INPUT: true; the input reads as it did. -/
def documentRemembersSpec : ChangeSpec := { name := "documentRemembers", fn := fun _ => fun
  | [d1, d2, d3] => { results := [.lit (.bool true)], args := [d1, d2, d3] }
  | _ => none }
def documentRemembersRow : OpenClaim := { program := "ytkehgoailhpenaa", sum := "967094b2ed8928fc90ac91c0fef3e7c437377d31957b250898aba8c4e058ac04", func := "schemalens/schemalenslaw05.DocumentRemembers", spec := "documentRemembers", inPlace := ["internal/bytealg.IndexByteString", "internal/bytealg.IndexString", "internal/abi.NoEscape"], unfollowed := true, recurses := true, named := ["internal/bytealg.MaxLen"], apart := false }
def DocumentRemembersSaid : Prop := documentRemembersRow.holds Try.pinned (OpenSpec.ofChange documentRemembersSpec)

/-- ITS FALSE NEIGHBOUR: 'it returns false'. Refute it at one input. -/
def documentRemembersWrong : ChangeSpec := { name := "documentRemembers", fn := fun _ => fun
  | [d1, d2, d3] => { results := [.lit (.bool false)], args := [d1, d2, d3] }
  | _ => none }
def DocumentRemembersWrongFalsely : Prop := documentRemembersRow.holds Try.pinned (OpenSpec.ofChange documentRemembersWrong)

/-- 'schemalenslaw05.DocumentHolds': WHATEVER THE INPUT: true; the input reads as it did. -/
def documentHoldsSpec : ChangeSpec := { name := "documentHolds", fn := fun _ => fun
  | [d1, d2, d3] => { results := [.lit (.bool true)], args := [d1, d2, d3] }
  | _ => none }
def documentHoldsRow : OpenClaim := { program := "ytkehgoailhpenaa", sum := "967094b2ed8928fc90ac91c0fef3e7c437377d31957b250898aba8c4e058ac04", func := "schemalens/schemalenslaw05.DocumentHolds", spec := "documentHolds", inPlace := ["internal/bytealg.IndexByteString", "internal/bytealg.IndexString", "internal/abi.NoEscape"], unfollowed := true, recurses := true, named := ["internal/bytealg.MaxLen"], apart := false }
def DocumentHoldsSaid : Prop := documentHoldsRow.holds Try.pinned (OpenSpec.ofChange documentHoldsSpec)

/-- ITS FALSE NEIGHBOUR: 'it returns false'. Refute it at one input. -/
def documentHoldsWrong : ChangeSpec := { name := "documentHolds", fn := fun _ => fun
  | [d1, d2, d3] => { results := [.lit (.bool false)], args := [d1, d2, d3] }
  | _ => none }
def DocumentHoldsWrongFalsely : Prop := documentHoldsRow.holds Try.pinned (OpenSpec.ofChange documentHoldsWrong)

/-- 'schemalenslaw05.DocumentPositions': WHATEVER THE INPUT: true; the input reads as it did. -/
def documentPositionsSpec : ChangeSpec := { name := "documentPositions", fn := fun _ => fun
  | [d1, d2] => { results := [.lit (.bool true)], args := [d1, d2] }
  | _ => none }
def documentPositionsRow : OpenClaim := { program := "ytkehgoailhpenaa", sum := "967094b2ed8928fc90ac91c0fef3e7c437377d31957b250898aba8c4e058ac04", func := "schemalens/schemalenslaw05.DocumentPositions", spec := "documentPositions", inPlace := ["internal/bytealg.IndexByteString", "internal/bytealg.IndexString", "internal/abi.NoEscape"], unfollowed := true, recurses := true, named := ["internal/bytealg.MaxLen"], apart := false }
def DocumentPositionsSaid : Prop := documentPositionsRow.holds Try.pinned (OpenSpec.ofChange documentPositionsSpec)

/-- ITS FALSE NEIGHBOUR: 'it returns false'. Refute it at one input. -/
def documentPositionsWrong : ChangeSpec := { name := "documentPositions", fn := fun _ => fun
  | [d1, d2] => { results := [.lit (.bool false)], args := [d1, d2] }
  | _ => none }
def DocumentPositionsWrongFalsely : Prop := documentPositionsRow.holds Try.pinned (OpenSpec.ofChange documentPositionsWrong)

/- THE SECOND FORM. 'bulk': how many values and letters a reading holds, each counted each time it is reached (what is shared counts as often as it is met; a slice's spare places count too). A statement '..UptoSaid' is the law's where the arguments, and the package variables that the reading takes, are together of bulk at most 1048576: NARROWER than '..Said'. Prove '..Said' where nothing that the law and all that it calls make is longer than what came in: it says more and counts as full. Else prove '..UptoSaid'. A law counts once. -/
mutual
def uptoBulk {H : Type} : DataW H → Nat
  | .lit (.string bytes) => bytes.length + 1
  | .lit _ => 1
  | .nil => 1
  | .ptr d => uptoBulk d + 1
  | .slice elems spare => uptoBulkAll elems + uptoBulkAll spare + 1
  | .agg parts => uptoBulkAll parts + 1
  | .iface _ d => uptoBulk d + 1
  | .map entries => uptoBulkEntries entries + 1
  | .held _ => 1
def uptoBulkAll {H : Type} : List (DataW H) → Nat
  | [] => 0
  | d :: r => uptoBulk d + uptoBulkAll r
def uptoBulkEntries {H : Type} : List (Lit × DataW H) → Nat
  | [] => 0
  | x :: r => uptoBulkEntry x + uptoBulkEntries r
def uptoBulkEntry {H : Type} : Lit × DataW H → Nat
  | (.string bytes, d) => bytes.length + uptoBulk d + 1
  | (_, d) => uptoBulk d + 1
 end
def uptoSmall : (H : Type) → List (DataW H) → Bool := fun _ ds => decide (uptoBulkAll ds ≤ 1048576)
def OpenSpec.upto (s : _root_.Go.ChangeSpec) : _root_.Go.OpenSpec := { _root_.Go.OpenSpec.ofChange s with cond := some uptoSmall }

/-- 'schemalenslaw05.DocumentOrder', WHERE WHAT IT READS IS OF BULK AT MOST 1048576: true; the input reads as it did. -/
def documentOrderUptoRow : OpenClaim := { program := "ytkehgoailhpenaa", sum := "967094b2ed8928fc90ac91c0fef3e7c437377d31957b250898aba8c4e058ac04", func := "schemalens/schemalenslaw05.DocumentOrder", spec := "documentOrder", inPlace := ["internal/bytealg.IndexByteString", "internal/bytealg.IndexString", "internal/abi.NoEscape"], unfollowed := true, recurses := true, named := ["internal/bytealg.MaxLen"], apart := false, narrowed := true }
def DocumentOrderUptoSaid : Prop := documentOrderUptoRow.holds Try.pinned (OpenSpec.upto documentOrderSpec)

/-- 'schemalenslaw05.DocumentRemembers', WHERE WHAT IT READS IS OF BULK AT MOST 1048576: true; the input reads as it did. -/
def documentRemembersUptoRow : OpenClaim := { program := "ytkehgoailhpenaa", sum := "967094b2ed8928fc90ac91c0fef3e7c437377d31957b250898aba8c4e058ac04", func := "schemalens/schemalenslaw05.DocumentRemembers", spec := "documentRemembers", inPlace := ["internal/bytealg.IndexByteString", "internal/bytealg.IndexString", "internal/abi.NoEscape"], unfollowed := true, recurses := true, named := ["internal/bytealg.MaxLen"], apart := false, narrowed := true }
def DocumentRemembersUptoSaid : Prop := documentRemembersUptoRow.holds Try.pinned (OpenSpec.upto documentRemembersSpec)

/-- 'schemalenslaw05.DocumentHolds', WHERE WHAT IT READS IS OF BULK AT MOST 1048576: true; the input reads as it did. -/
def documentHoldsUptoRow : OpenClaim := { program := "ytkehgoailhpenaa", sum := "967094b2ed8928fc90ac91c0fef3e7c437377d31957b250898aba8c4e058ac04", func := "schemalens/schemalenslaw05.DocumentHolds", spec := "documentHolds", inPlace := ["internal/bytealg.IndexByteString", "internal/bytealg.IndexString", "internal/abi.NoEscape"], unfollowed := true, recurses := true, named := ["internal/bytealg.MaxLen"], apart := false, narrowed := true }
def DocumentHoldsUptoSaid : Prop := documentHoldsUptoRow.holds Try.pinned (OpenSpec.upto documentHoldsSpec)

/-- 'schemalenslaw05.DocumentPositions', WHERE WHAT IT READS IS OF BULK AT MOST 1048576: true; the input reads as it did. -/
def documentPositionsUptoRow : OpenClaim := { program := "ytkehgoailhpenaa", sum := "967094b2ed8928fc90ac91c0fef3e7c437377d31957b250898aba8c4e058ac04", func := "schemalens/schemalenslaw05.DocumentPositions", spec := "documentPositions", inPlace := ["internal/bytealg.IndexByteString", "internal/bytealg.IndexString", "internal/abi.NoEscape"], unfollowed := true, recurses := true, named := ["internal/bytealg.MaxLen"], apart := false, narrowed := true }
def DocumentPositionsUptoSaid : Prop := documentPositionsUptoRow.holds Try.pinned (OpenSpec.upto documentPositionsSpec)

end Rows
end Go.Proofs.Ytkehgoailhpenaa
