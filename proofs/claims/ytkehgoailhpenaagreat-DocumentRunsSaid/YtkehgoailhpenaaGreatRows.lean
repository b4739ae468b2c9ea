/-
  No cell of these rows narrows 'for every input' (looked for: loops, veiled, ifaces, maps, wideKeys, modest, calm, conditions, laid).
  DERIVED. THE GIVEN ROWS OF THIS SEAT. 3 by the template 'for every input the law returns true; each argument reads behind the call as it read before'; 0 by the template 'total and deterministic' (their statements: YtkehgoailhpenaaGreatTotals.lean).
  GIVEN WITH THE SEED: the statements are not yours to turn. If you find one false, say at which input.
  Laid BY PROGRAM, IN A SANDBOX (cutbox-rows.mjs): the forced cells as the released guide's own fill.sh prints them over the translation 61271f3d75753c4e… (all of the seat's roots in one cut). By AI agents, Wed Nov 11 2026. No macro, syntax, notation, axiom, sorry.
-/
import Derived.Test.YtkehgoailhpenaaGreatChecked
import GoSem.Claim
import GoSem.ClaimJoined
import GoSem.ClaimMapViews
import Derived.JoinedTies
import Derived.KernelRfl
namespace Go.Proofs.YtkehgoailhpenaaGreat
/- THE CELL 'sum', in the pinned program and in every row, IS THE sha256 OF THE DUMP (.gsa) THAT YtkehgoailhpenaaGreatProg.lean LOADS. Nothing in Lean hashes anything: it is a label: what it is worth is what the hold of that sum in a sandbox is worth. -/
noncomputable def Tryz.pinned : Pinned := { name := "ytkehgoailhpenaagreat", sum := "61271f3d75753c4e2df27465d28c65cb1e9b3c7b6183afcbc31784b0dc8f935d", checked := Tryz.checked }
namespace Rows
def none {H : Type} : Left H := { results := [], args := [] }

/-- 'schemalenslaw05.DocumentRuns': WHATEVER THE INPUT: true; the input reads as it did. -/
def documentRunsSpec : ChangeSpec := { name := "documentRuns", fn := fun _ => fun
  | [d1, d2, d3, d4, d5, d6, d7, d8] => { results := [.lit (.bool true)], args := [d1, d2, d3, d4, d5, d6, d7, d8] }
  | _ => none }
def documentRunsRow : OpenClaim := { program := "ytkehgoailhpenaagreat", sum := "61271f3d75753c4e2df27465d28c65cb1e9b3c7b6183afcbc31784b0dc8f935d", func := "schemalens/schemalenslaw05.DocumentRuns", spec := "documentRuns", inPlace := ["internal/abi.NoEscape", "internal/bytealg.IndexByteString", "internal/bytealg.IndexString"], unfollowed := true, recurses := true, named := ["internal/bytealg.MaxLen"], apart := false }
def DocumentRunsSaid : Prop := documentRunsRow.holds Tryz.pinned (OpenSpec.ofChange documentRunsSpec)

/-- ITS FALSE NEIGHBOUR: 'it returns false'. Refute it at one input. -/
def documentRunsWrong : ChangeSpec := { name := "documentRuns", fn := fun _ => fun
  | [d1, d2, d3, d4, d5, d6, d7, d8] => { results := [.lit (.bool false)], args := [d1, d2, d3, d4, d5, d6, d7, d8] }
  | _ => none }
def DocumentRunsWrongFalsely : Prop := documentRunsRow.holds Tryz.pinned (OpenSpec.ofChange documentRunsWrong)

/-- 'schemalenslaw05.DocumentRefuses': WHATEVER THE INPUT: true; the input reads as it did. -/
def documentRefusesSpec : ChangeSpec := { name := "documentRefuses", fn := fun _ => fun
  | [d1, d2, d3, d4, d5, d6] => { results := [.lit (.bool true)], args := [d1, d2, d3, d4, d5, d6] }
  | _ => none }
def documentRefusesRow : OpenClaim := { program := "ytkehgoailhpenaagreat", sum := "61271f3d75753c4e2df27465d28c65cb1e9b3c7b6183afcbc31784b0dc8f935d", func := "schemalens/schemalenslaw05.DocumentRefuses", spec := "documentRefuses", inPlace := ["internal/bytealg.IndexByteString", "internal/bytealg.IndexString", "internal/abi.NoEscape"], unfollowed := true, recurses := true, named := ["internal/bytealg.MaxLen"], apart := false }
def DocumentRefusesSaid : Prop := documentRefusesRow.holds Tryz.pinned (OpenSpec.ofChange documentRefusesSpec)

/-- ITS FALSE NEIGHBOUR: 'it returns false'. Refute it at one input. -/
def documentRefusesWrong : ChangeSpec := { name := "documentRefuses", fn := fun _ => fun
  | [d1, d2, d3, d4, d5, d6] => { results := [.lit (.bool false)], args := [d1, d2, d3, d4, d5, d6] }
  | _ => none }
def DocumentRefusesWrongFalsely : Prop := documentRefusesRow.holds Tryz.pinned (OpenSpec.ofChange documentRefusesWrong)

/-- 'schemalenslaw05.DocumentCopies': WHATEVER THE INPUT: true; the input reads as it did. -/
def documentCopiesSpec : ChangeSpec := { name := "documentCopies", fn := fun _ => fun
  | [d1, d2, d3] => { results := [.lit (.bool true)], args := [d1, d2, d3] }
  | _ => none }
def documentCopiesRow : OpenClaim := { program := "ytkehgoailhpenaagreat", sum := "61271f3d75753c4e2df27465d28c65cb1e9b3c7b6183afcbc31784b0dc8f935d", func := "schemalens/schemalenslaw05.DocumentCopies", spec := "documentCopies", inPlace := ["internal/bytealg.IndexByteString", "internal/bytealg.IndexString", "internal/abi.NoEscape", "maps.clone"], unfollowed := true, recurses := true, named := ["internal/bytealg.MaxLen"], apart := false }
def DocumentCopiesSaid : Prop := documentCopiesRow.holds Tryz.pinned (OpenSpec.ofChange documentCopiesSpec)

/-- ITS FALSE NEIGHBOUR: 'it returns false'. Refute it at one input. -/
def documentCopiesWrong : ChangeSpec := { name := "documentCopies", fn := fun _ => fun
  | [d1, d2, d3] => { results := [.lit (.bool false)], args := [d1, d2, d3] }
  | _ => none }
def DocumentCopiesWrongFalsely : Prop := documentCopiesRow.holds Tryz.pinned (OpenSpec.ofChange documentCopiesWrong)

/- THE SECOND FORM. 'bulk': how many values and letters a reading holds, each counted each time it is reached (what is shared counts as often as it is met; a slice's spare places count too). A statement '..UptoSaid' is the law's where the arguments, and the package variables that the reading takes, are together of bulk at most 1048576: NARROWER than '..Said'. Prove '..Said' where nothing that the law and all that it calls make is longer than what came in: it says more and counts as full. Else prove '..UptoSaid'. A law counts once. -/
mutual
def uptoBulk {H : Type} : DataW H → Nat
  | .lit (.string bytes) => bytes.length + 1
  | .lit _ => 1
  | .nil => 1
  | .ptr d => uptoBulk d + 1
  | .slice elems spare => uptoBulkAll elems + uptoBulkAll spare + 1
  | .agg parts => uptoBulkAll parts + 1
  | .iface _ d => uptoBulk d + 1
  | .map entries => uptoBulkEntries entries + 1
  | .held _ => 1
def uptoBulkAll {H : Type} : List (DataW H) → Nat
  | [] => 0
  | d :: r => uptoBulk d + uptoBulkAll r
def uptoBulkEntries {H : Type} : List (Lit × DataW H) → Nat
  | [] => 0
  | x :: r => uptoBulkEntry x + uptoBulkEntries r
def uptoBulkEntry {H : Type} : Lit × DataW H → Nat
  | (.string bytes, d) => bytes.length + uptoBulk d + 1
  | (_, d) => uptoBulk d + 1
 end
def uptoSmall : (H : Type) → List (DataW H) → Bool := fun _ ds => decide (uptoBulkAll ds ≤ 1048576)
def OpenSpec.upto (s : _root_.Go.ChangeSpec) : _root_.Go.OpenSpec := { _root_.Go.OpenSpec.ofChange s with cond := some uptoSmall }

/-- 'schemalenslaw05.DocumentRuns', WHERE WHAT IT READS IS OF BULK AT MOST 1048576: true; the input reads as it did. -/
def documentRunsUptoRow : OpenClaim := { program := "ytkehgoailhpenaagreat", sum := "61271f3d75753c4e2df27465d28c65cb1e9b3c7b6183afcbc31784b0dc8f935d", func := "schemalens/schemalenslaw05.DocumentRuns", spec := "documentRuns", inPlace := ["internal/abi.NoEscape", "internal/bytealg.IndexByteString", "internal/bytealg.IndexString"], unfollowed := true, recurses := true, named := ["internal/bytealg.MaxLen"], apart := false, narrowed := true }
def DocumentRunsUptoSaid : Prop := documentRunsUptoRow.holds Tryz.pinned (OpenSpec.upto documentRunsSpec)

/-- 'schemalenslaw05.DocumentRefuses', WHERE WHAT IT READS IS OF BULK AT MOST 1048576: true; the input reads as it did. -/
def documentRefusesUptoRow : OpenClaim := { program := "ytkehgoailhpenaagreat", sum := "61271f3d75753c4e2df27465d28c65cb1e9b3c7b6183afcbc31784b0dc8f935d", func := "schemalens/schemalenslaw05.DocumentRefuses", spec := "documentRefuses", inPlace := ["internal/bytealg.IndexByteString", "internal/bytealg.IndexString", "internal/abi.NoEscape"], unfollowed := true, recurses := true, named := ["internal/bytealg.MaxLen"], apart := false, narrowed := true }
def DocumentRefusesUptoSaid : Prop := documentRefusesUptoRow.holds Tryz.pinned (OpenSpec.upto documentRefusesSpec)

/-- 'schemalenslaw05.DocumentCopies', WHERE WHAT IT READS IS OF BULK AT MOST 1048576: true; the input reads as it did. -/
def documentCopiesUptoRow : OpenClaim := { program := "ytkehgoailhpenaagreat", sum := "61271f3d75753c4e2df27465d28c65cb1e9b3c7b6183afcbc31784b0dc8f935d", func := "schemalens/schemalenslaw05.DocumentCopies", spec := "documentCopies", inPlace := ["internal/bytealg.IndexByteString", "internal/bytealg.IndexString", "internal/abi.NoEscape", "maps.clone"], unfollowed := true, recurses := true, named := ["internal/bytealg.MaxLen"], apart := false, narrowed := true }
def DocumentCopiesUptoSaid : Prop := documentCopiesUptoRow.holds Tryz.pinned (OpenSpec.upto documentCopiesSpec)

end Rows
end Go.Proofs.YtkehgoailhpenaaGreat
