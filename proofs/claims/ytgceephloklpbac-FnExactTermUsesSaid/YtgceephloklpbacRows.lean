/-
  No cell of these rows narrows 'for every input' (looked for: loops, veiled, ifaces, maps, wideKeys, modest, calm, conditions, laid).
  DERIVED. THE GIVEN ROWS OF THIS SEAT. 6 by the template 'for every input the law returns true; each argument reads behind the call as it read before'; 0 by the template 'total and deterministic' (their statements: YtgceephloklpbacTotals.lean).
  GIVEN WITH THE SEED: the statements are not yours to turn. If you find one false, say at which input.
  Laid BY PROGRAM, IN A SANDBOX (cutbox-rows.mjs): the forced cells as the released guide's own fill.sh prints them over the translation 2f0c41931633ace7… (all of the seat's roots in one cut). By AI agents, Wed Nov 11 2026. No macro, syntax, notation, axiom, sorry.
-/
import Derived.Test.YtgceephloklpbacChecked
import GoSem.Claim
import GoSem.ClaimJoined
import GoSem.ClaimMapViews
import Derived.JoinedTies
import Derived.KernelRfl
namespace Go.Proofs.Ytgceephloklpbac
/- THE CELL 'sum', in the pinned program and in every row, IS THE sha256 OF THE DUMP (.gsa) THAT YtgceephloklpbacProg.lean LOADS. Nothing in Lean hashes anything: it is a label: what it is worth is what the hold of that sum in a sandbox is worth. -/
noncomputable def Try.pinned : Pinned := { name := "ytgceephloklpbac", sum := "2f0c41931633ace7fe92a917ab91d1e4b1f5e3d79fc12f65b800c03979e7ca90", checked := Try.checked }
namespace Rows
def none {H : Type} : Left H := { results := [], args := [] }

/-- 'laws.FnExactTermValid': WHATEVER THE INPUT: true; the input reads as it did. -/
def fnExactTermValidSpec : ChangeSpec := { name := "fnExactTermValid", fn := fun _ => fun
  | [d] => { results := [.lit (.bool true)], args := [d] }
  | _ => none }
def fnExactTermValidRow : OpenClaim := { program := "ytgceephloklpbac", sum := "2f0c41931633ace7fe92a917ab91d1e4b1f5e3d79fc12f65b800c03979e7ca90", func := "loop.example/intersectiontypes/laws.FnExactTermValid", spec := "fnExactTermValid", recurses := true, apart := false }
def FnExactTermValidSaid : Prop := fnExactTermValidRow.holds Try.pinned (OpenSpec.ofChange fnExactTermValidSpec)

/-- ITS FALSE NEIGHBOUR: 'it returns false'. Refute it at one input. -/
def fnExactTermValidWrong : ChangeSpec := { name := "fnExactTermValid", fn := fun _ => fun
  | [d] => { results := [.lit (.bool false)], args := [d] }
  | _ => none }
def FnExactTermValidWrongFalsely : Prop := fnExactTermValidRow.holds Try.pinned (OpenSpec.ofChange fnExactTermValidWrong)

/-- 'laws.FnExactTermFree': WHATEVER THE INPUT: true; the input reads as it did. -/
def fnExactTermFreeSpec : ChangeSpec := { name := "fnExactTermFree", fn := fun _ => fun
  | [d] => { results := [.lit (.bool true)], args := [d] }
  | _ => none }
def fnExactTermFreeRow : OpenClaim := { program := "ytgceephloklpbac", sum := "2f0c41931633ace7fe92a917ab91d1e4b1f5e3d79fc12f65b800c03979e7ca90", func := "loop.example/intersectiontypes/laws.FnExactTermFree", spec := "fnExactTermFree", recurses := true, apart := false }
def FnExactTermFreeSaid : Prop := fnExactTermFreeRow.holds Try.pinned (OpenSpec.ofChange fnExactTermFreeSpec)

/-- ITS FALSE NEIGHBOUR: 'it returns false'. Refute it at one input. -/
def fnExactTermFreeWrong : ChangeSpec := { name := "fnExactTermFree", fn := fun _ => fun
  | [d] => { results := [.lit (.bool false)], args := [d] }
  | _ => none }
def FnExactTermFreeWrongFalsely : Prop := fnExactTermFreeRow.holds Try.pinned (OpenSpec.ofChange fnExactTermFreeWrong)

/-- 'laws.FnExactTermUses': WHATEVER THE INPUT: true; the input reads as it did. -/
def fnExactTermUsesSpec : ChangeSpec := { name := "fnExactTermUses", fn := fun _ => fun
  | [d1, d2] => { results := [.lit (.bool true)], args := [d1, d2] }
  | _ => none }
def fnExactTermUsesRow : OpenClaim := { program := "ytgceephloklpbac", sum := "2f0c41931633ace7fe92a917ab91d1e4b1f5e3d79fc12f65b800c03979e7ca90", func := "loop.example/intersectiontypes/laws.FnExactTermUses", spec := "fnExactTermUses", recurses := true, apart := false }
def FnExactTermUsesSaid : Prop := fnExactTermUsesRow.holds Try.pinned (OpenSpec.ofChange fnExactTermUsesSpec)

/-- ITS FALSE NEIGHBOUR: 'it returns false'. Refute it at one input. -/
def fnExactTermUsesWrong : ChangeSpec := { name := "fnExactTermUses", fn := fun _ => fun
  | [d1, d2] => { results := [.lit (.bool false)], args := [d1, d2] }
  | _ => none }
def FnExactTermUsesWrongFalsely : Prop := fnExactTermUsesRow.holds Try.pinned (OpenSpec.ofChange fnExactTermUsesWrong)

/-- 'laws.FnExactTermSize': WHATEVER THE INPUT: true; the input reads as it did. -/
def fnExactTermSizeSpec : ChangeSpec := { name := "fnExactTermSize", fn := fun _ => fun
  | [d] => { results := [.lit (.bool true)], args := [d] }
  | _ => none }
def fnExactTermSizeRow : OpenClaim := { program := "ytgceephloklpbac", sum := "2f0c41931633ace7fe92a917ab91d1e4b1f5e3d79fc12f65b800c03979e7ca90", func := "loop.example/intersectiontypes/laws.FnExactTermSize", spec := "fnExactTermSize", recurses := true, apart := false }
def FnExactTermSizeSaid : Prop := fnExactTermSizeRow.holds Try.pinned (OpenSpec.ofChange fnExactTermSizeSpec)

/-- ITS FALSE NEIGHBOUR: 'it returns false'. Refute it at one input. -/
def fnExactTermSizeWrong : ChangeSpec := { name := "fnExactTermSize", fn := fun _ => fun
  | [d] => { results := [.lit (.bool false)], args := [d] }
  | _ => none }
def FnExactTermSizeWrongFalsely : Prop := fnExactTermSizeRow.holds Try.pinned (OpenSpec.ofChange fnExactTermSizeWrong)

/-- 'laws.FnExactTermParts': WHATEVER THE INPUT: true; the input reads as it did. -/
def fnExactTermPartsSpec : ChangeSpec := { name := "fnExactTermParts", fn := fun _ => fun
  | [d] => { results := [.lit (.bool true)], args := [d] }
  | _ => none }
def fnExactTermPartsRow : OpenClaim := { program := "ytgceephloklpbac", sum := "2f0c41931633ace7fe92a917ab91d1e4b1f5e3d79fc12f65b800c03979e7ca90", func := "loop.example/intersectiontypes/laws.FnExactTermParts", spec := "fnExactTermParts", inPlace := ["internal/abi.NoEscape"], recurses := true, apart := false }
def FnExactTermPartsSaid : Prop := fnExactTermPartsRow.holds Try.pinned (OpenSpec.ofChange fnExactTermPartsSpec)

/-- ITS FALSE NEIGHBOUR: 'it returns false'. Refute it at one input. -/
def fnExactTermPartsWrong : ChangeSpec := { name := "fnExactTermParts", fn := fun _ => fun
  | [d] => { results := [.lit (.bool false)], args := [d] }
  | _ => none }
def FnExactTermPartsWrongFalsely : Prop := fnExactTermPartsRow.holds Try.pinned (OpenSpec.ofChange fnExactTermPartsWrong)

/-- 'laws.FnExactTermArgs': WHATEVER THE INPUT: true; the input reads as it did. -/
def fnExactTermArgsSpec : ChangeSpec := { name := "fnExactTermArgs", fn := fun _ => fun
  | [d] => { results := [.lit (.bool true)], args := [d] }
  | _ => none }
def fnExactTermArgsRow : OpenClaim := { program := "ytgceephloklpbac", sum := "2f0c41931633ace7fe92a917ab91d1e4b1f5e3d79fc12f65b800c03979e7ca90", func := "loop.example/intersectiontypes/laws.FnExactTermArgs", spec := "fnExactTermArgs", inPlace := ["internal/abi.NoEscape"], recurses := true, apart := false }
def FnExactTermArgsSaid : Prop := fnExactTermArgsRow.holds Try.pinned (OpenSpec.ofChange fnExactTermArgsSpec)

/-- ITS FALSE NEIGHBOUR: 'it returns false'. Refute it at one input. -/
def fnExactTermArgsWrong : ChangeSpec := { name := "fnExactTermArgs", fn := fun _ => fun
  | [d] => { results := [.lit (.bool false)], args := [d] }
  | _ => none }
def FnExactTermArgsWrongFalsely : Prop := fnExactTermArgsRow.holds Try.pinned (OpenSpec.ofChange fnExactTermArgsWrong)

/- THE SECOND FORM. 'bulk': how many values and letters a reading holds, each counted each time it is reached (what is shared counts as often as it is met; a slice's spare places count too). A statement '..UptoSaid' is the law's where the arguments, and the package variables that the reading takes, are together of bulk at most 1048576: NARROWER than '..Said'. Prove '..Said' where nothing that the law and all that it calls make is longer than what came in: it says more and counts as full. Else prove '..UptoSaid'. A law counts once. -/
mutual
def uptoBulk {H : Type} : DataW H → Nat
  | .lit (.string bytes) => bytes.length + 1
  | .lit _ => 1
  | .nil => 1
  | .ptr d => uptoBulk d + 1
  | .slice elems spare => uptoBulkAll elems + uptoBulkAll spare + 1
  | .agg parts => uptoBulkAll parts + 1
  | .iface _ d => uptoBulk d + 1
  | .map entries => uptoBulkEntries entries + 1
  | .held _ => 1
def uptoBulkAll {H : Type} : List (DataW H) → Nat
  | [] => 0
  | d :: r => uptoBulk d + uptoBulkAll r
def uptoBulkEntries {H : Type} : List (Lit × DataW H) → Nat
  | [] => 0
  | x :: r => uptoBulkEntry x + uptoBulkEntries r
def uptoBulkEntry {H : Type} : Lit × DataW H → Nat
  | (.string bytes, d) => bytes.length + uptoBulk d + 1
  | (_, d) => uptoBulk d + 1
 end
def uptoSmall : (H : Type) → List (DataW H) → Bool := fun _ ds => decide (uptoBulkAll ds ≤ 1048576)
def OpenSpec.upto (s : _root_.Go.ChangeSpec) : _root_.Go.OpenSpec := { _root_.Go.OpenSpec.ofChange s with cond := some uptoSmall }

/-- 'laws.FnExactTermValid', WHERE WHAT IT READS IS OF BULK AT MOST 1048576: true; the input reads as it did. -/
def fnExactTermValidUptoRow : OpenClaim := { program := "ytgceephloklpbac", sum := "2f0c41931633ace7fe92a917ab91d1e4b1f5e3d79fc12f65b800c03979e7ca90", func := "loop.example/intersectiontypes/laws.FnExactTermValid", spec := "fnExactTermValid", recurses := true, apart := false, narrowed := true }
def FnExactTermValidUptoSaid : Prop := fnExactTermValidUptoRow.holds Try.pinned (OpenSpec.upto fnExactTermValidSpec)

/-- 'laws.FnExactTermFree', WHERE WHAT IT READS IS OF BULK AT MOST 1048576: true; the input reads as it did. -/
def fnExactTermFreeUptoRow : OpenClaim := { program := "ytgceephloklpbac", sum := "2f0c41931633ace7fe92a917ab91d1e4b1f5e3d79fc12f65b800c03979e7ca90", func := "loop.example/intersectiontypes/laws.FnExactTermFree", spec := "fnExactTermFree", recurses := true, apart := false, narrowed := true }
def FnExactTermFreeUptoSaid : Prop := fnExactTermFreeUptoRow.holds Try.pinned (OpenSpec.upto fnExactTermFreeSpec)

/-- 'laws.FnExactTermUses', WHERE WHAT IT READS IS OF BULK AT MOST 1048576: true; the input reads as it did. -/
def fnExactTermUsesUptoRow : OpenClaim := { program := "ytgceephloklpbac", sum := "2f0c41931633ace7fe92a917ab91d1e4b1f5e3d79fc12f65b800c03979e7ca90", func := "loop.example/intersectiontypes/laws.FnExactTermUses", spec := "fnExactTermUses", recurses := true, apart := false, narrowed := true }
def FnExactTermUsesUptoSaid : Prop := fnExactTermUsesUptoRow.holds Try.pinned (OpenSpec.upto fnExactTermUsesSpec)

/-- 'laws.FnExactTermSize', WHERE WHAT IT READS IS OF BULK AT MOST 1048576: true; the input reads as it did. -/
def fnExactTermSizeUptoRow : OpenClaim := { program := "ytgceephloklpbac", sum := "2f0c41931633ace7fe92a917ab91d1e4b1f5e3d79fc12f65b800c03979e7ca90", func := "loop.example/intersectiontypes/laws.FnExactTermSize", spec := "fnExactTermSize", recurses := true, apart := false, narrowed := true }
def FnExactTermSizeUptoSaid : Prop := fnExactTermSizeUptoRow.holds Try.pinned (OpenSpec.upto fnExactTermSizeSpec)

/-- 'laws.FnExactTermParts', WHERE WHAT IT READS IS OF BULK AT MOST 1048576: true; the input reads as it did. -/
def fnExactTermPartsUptoRow : OpenClaim := { program := "ytgceephloklpbac", sum := "2f0c41931633ace7fe92a917ab91d1e4b1f5e3d79fc12f65b800c03979e7ca90", func := "loop.example/intersectiontypes/laws.FnExactTermParts", spec := "fnExactTermParts", inPlace := ["internal/abi.NoEscape"], recurses := true, apart := false, narrowed := true }
def FnExactTermPartsUptoSaid : Prop := fnExactTermPartsUptoRow.holds Try.pinned (OpenSpec.upto fnExactTermPartsSpec)

/-- 'laws.FnExactTermArgs', WHERE WHAT IT READS IS OF BULK AT MOST 1048576: true; the input reads as it did. -/
def fnExactTermArgsUptoRow : OpenClaim := { program := "ytgceephloklpbac", sum := "2f0c41931633ace7fe92a917ab91d1e4b1f5e3d79fc12f65b800c03979e7ca90", func := "loop.example/intersectiontypes/laws.FnExactTermArgs", spec := "fnExactTermArgs", inPlace := ["internal/abi.NoEscape"], recurses := true, apart := false, narrowed := true }
def FnExactTermArgsUptoSaid : Prop := fnExactTermArgsUptoRow.holds Try.pinned (OpenSpec.upto fnExactTermArgsSpec)

end Rows
end Go.Proofs.Ytgceephloklpbac
