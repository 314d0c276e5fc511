/-
  No cell of these rows narrows 'for every input' (looked for: loops, veiled, ifaces, maps, wideKeys, modest, calm, conditions, laid).
  DERIVED. THE GIVEN ROWS OF THIS SEAT. 11 by the template 'for every input the law returns true; each argument reads behind the call as it read before'; 0 by the template 'total and deterministic' (their statements: YtmkjkoelpngicaaTotals.lean).
  GIVEN WITH THE SEED: the statements are not yours to turn. If you find one false, say at which input.
  Laid BY PROGRAM, IN A SANDBOX (cutbox-rows.mjs): the forced cells as the released guide's own fill.sh prints them over the translation 8357e606e6791a14… (all of the seat's roots in one cut). By AI agents, Wed Nov 11 2026. No macro, syntax, notation, axiom, sorry.
-/
import Derived.Test.YtmkjkoelpngicaaChecked
import GoSem.Claim
import GoSem.ClaimJoined
import GoSem.ClaimMapViews
import Derived.JoinedTies
import Derived.KernelRfl
namespace Go.Proofs.Ytmkjkoelpngicaa
/- THE CELL 'sum', in the pinned program and in every row, IS THE sha256 OF THE DUMP (.gsa) THAT YtmkjkoelpngicaaProg.lean LOADS. Nothing in Lean hashes anything: it is a label: what it is worth is what the hold of that sum in a sandbox is worth. -/
noncomputable def Try.pinned : Pinned := { name := "ytmkjkoelpngicaa", sum := "8357e606e6791a148200e957836eafcea8be1437150b7e48b881a295319684ec", checked := Try.checked }
namespace Rows
def none {H : Type} : Left H := { results := [], args := [] }

/-- 'laws.FnExactTypeValid': WHATEVER THE INPUT: true; the input reads as it did. -/
def fnExactTypeValidSpec : ChangeSpec := { name := "fnExactTypeValid", fn := fun _ => fun
  | [d] => { results := [.lit (.bool true)], args := [d] }
  | _ => none }
def fnExactTypeValidRow : OpenClaim := { program := "ytmkjkoelpngicaa", sum := "8357e606e6791a148200e957836eafcea8be1437150b7e48b881a295319684ec", func := "loop.example/intersectiontypes/laws.FnExactTypeValid", spec := "fnExactTypeValid", inPlace := ["internal/abi.NoEscape", "maps.clone"], unfollowed := true, recurses := true, apart := false }
def FnExactTypeValidSaid : Prop := fnExactTypeValidRow.holds Try.pinned (OpenSpec.ofChange fnExactTypeValidSpec)

/-- ITS FALSE NEIGHBOUR: 'it returns false'. Refute it at one input. -/
def fnExactTypeValidWrong : ChangeSpec := { name := "fnExactTypeValid", fn := fun _ => fun
  | [d] => { results := [.lit (.bool false)], args := [d] }
  | _ => none }
def FnExactTypeValidWrongFalsely : Prop := fnExactTypeValidRow.holds Try.pinned (OpenSpec.ofChange fnExactTypeValidWrong)

/-- 'laws.FnExactBagValid': WHATEVER THE INPUT: true; the input reads as it did. -/
def fnExactBagValidSpec : ChangeSpec := { name := "fnExactBagValid", fn := fun _ => fun
  | [d] => { results := [.lit (.bool true)], args := [d] }
  | _ => none }
def fnExactBagValidRow : OpenClaim := { program := "ytmkjkoelpngicaa", sum := "8357e606e6791a148200e957836eafcea8be1437150b7e48b881a295319684ec", func := "loop.example/intersectiontypes/laws.FnExactBagValid", spec := "fnExactBagValid", inPlace := ["internal/abi.NoEscape", "maps.clone"], unfollowed := true, recurses := true, apart := false }
def FnExactBagValidSaid : Prop := fnExactBagValidRow.holds Try.pinned (OpenSpec.ofChange fnExactBagValidSpec)

/-- ITS FALSE NEIGHBOUR: 'it returns false'. Refute it at one input. -/
def fnExactBagValidWrong : ChangeSpec := { name := "fnExactBagValid", fn := fun _ => fun
  | [d] => { results := [.lit (.bool false)], args := [d] }
  | _ => none }
def FnExactBagValidWrongFalsely : Prop := fnExactBagValidRow.holds Try.pinned (OpenSpec.ofChange fnExactBagValidWrong)

/-- 'laws.FnExactBagOf': WHATEVER THE INPUT: true; the input reads as it did. -/
def fnExactBagOfSpec : ChangeSpec := { name := "fnExactBagOf", fn := fun _ => fun
  | [d] => { results := [.lit (.bool true)], args := [d] }
  | _ => none }
def fnExactBagOfRow : OpenClaim := { program := "ytmkjkoelpngicaa", sum := "8357e606e6791a148200e957836eafcea8be1437150b7e48b881a295319684ec", func := "loop.example/intersectiontypes/laws.FnExactBagOf", spec := "fnExactBagOf", inPlace := ["internal/abi.NoEscape", "maps.clone"], unfollowed := true, recurses := true, apart := false }
def FnExactBagOfSaid : Prop := fnExactBagOfRow.holds Try.pinned (OpenSpec.ofChange fnExactBagOfSpec)

/-- ITS FALSE NEIGHBOUR: 'it returns false'. Refute it at one input. -/
def fnExactBagOfWrong : ChangeSpec := { name := "fnExactBagOf", fn := fun _ => fun
  | [d] => { results := [.lit (.bool false)], args := [d] }
  | _ => none }
def FnExactBagOfWrongFalsely : Prop := fnExactBagOfRow.holds Try.pinned (OpenSpec.ofChange fnExactBagOfWrong)

/-- 'laws.FnExactBagTypes': WHATEVER THE INPUT: true; the input reads as it did. -/
def fnExactBagTypesSpec : ChangeSpec := { name := "fnExactBagTypes", fn := fun _ => fun
  | [d] => { results := [.lit (.bool true)], args := [d] }
  | _ => none }
def fnExactBagTypesRow : OpenClaim := { program := "ytmkjkoelpngicaa", sum := "8357e606e6791a148200e957836eafcea8be1437150b7e48b881a295319684ec", func := "loop.example/intersectiontypes/laws.FnExactBagTypes", spec := "fnExactBagTypes", inPlace := ["internal/abi.NoEscape", "maps.clone"], unfollowed := true, recurses := true, apart := false }
def FnExactBagTypesSaid : Prop := fnExactBagTypesRow.holds Try.pinned (OpenSpec.ofChange fnExactBagTypesSpec)

/-- ITS FALSE NEIGHBOUR: 'it returns false'. Refute it at one input. -/
def fnExactBagTypesWrong : ChangeSpec := { name := "fnExactBagTypes", fn := fun _ => fun
  | [d] => { results := [.lit (.bool false)], args := [d] }
  | _ => none }
def FnExactBagTypesWrongFalsely : Prop := fnExactBagTypesRow.holds Try.pinned (OpenSpec.ofChange fnExactBagTypesWrong)

/-- 'laws.FnExactBagSum': WHATEVER THE INPUT: true; the input reads as it did. -/
def fnExactBagSumSpec : ChangeSpec := { name := "fnExactBagSum", fn := fun _ => fun
  | [d1, d2] => { results := [.lit (.bool true)], args := [d1, d2] }
  | _ => none }
def fnExactBagSumRow : OpenClaim := { program := "ytmkjkoelpngicaa", sum := "8357e606e6791a148200e957836eafcea8be1437150b7e48b881a295319684ec", func := "loop.example/intersectiontypes/laws.FnExactBagSum", spec := "fnExactBagSum", inPlace := ["internal/abi.NoEscape", "maps.clone"], unfollowed := true, recurses := true, apart := false }
def FnExactBagSumSaid : Prop := fnExactBagSumRow.holds Try.pinned (OpenSpec.ofChange fnExactBagSumSpec)

/-- ITS FALSE NEIGHBOUR: 'it returns false'. Refute it at one input. -/
def fnExactBagSumWrong : ChangeSpec := { name := "fnExactBagSum", fn := fun _ => fun
  | [d1, d2] => { results := [.lit (.bool false)], args := [d1, d2] }
  | _ => none }
def FnExactBagSumWrongFalsely : Prop := fnExactBagSumRow.holds Try.pinned (OpenSpec.ofChange fnExactBagSumWrong)

/-- 'laws.FnExactBagCount': WHATEVER THE INPUT: true; the input reads as it did. -/
def fnExactBagCountSpec : ChangeSpec := { name := "fnExactBagCount", fn := fun _ => fun
  | [d1, d2] => { results := [.lit (.bool true)], args := [d1, d2] }
  | _ => none }
def fnExactBagCountRow : OpenClaim := { program := "ytmkjkoelpngicaa", sum := "8357e606e6791a148200e957836eafcea8be1437150b7e48b881a295319684ec", func := "loop.example/intersectiontypes/laws.FnExactBagCount", spec := "fnExactBagCount", inPlace := ["internal/abi.NoEscape", "maps.clone"], unfollowed := true, recurses := true, apart := false }
def FnExactBagCountSaid : Prop := fnExactBagCountRow.holds Try.pinned (OpenSpec.ofChange fnExactBagCountSpec)

/-- ITS FALSE NEIGHBOUR: 'it returns false'. Refute it at one input. -/
def fnExactBagCountWrong : ChangeSpec := { name := "fnExactBagCount", fn := fun _ => fun
  | [d1, d2] => { results := [.lit (.bool false)], args := [d1, d2] }
  | _ => none }
def FnExactBagCountWrongFalsely : Prop := fnExactBagCountRow.holds Try.pinned (OpenSpec.ofChange fnExactBagCountWrong)

/-- 'laws.FnExactTypeMake': WHATEVER THE INPUT: true; the input reads as it did. -/
def fnExactTypeMakeSpec : ChangeSpec := { name := "fnExactTypeMake", fn := fun _ => fun
  | [d1, d2] => { results := [.lit (.bool true)], args := [d1, d2] }
  | _ => none }
def fnExactTypeMakeRow : OpenClaim := { program := "ytmkjkoelpngicaa", sum := "8357e606e6791a148200e957836eafcea8be1437150b7e48b881a295319684ec", func := "loop.example/intersectiontypes/laws.FnExactTypeMake", spec := "fnExactTypeMake", inPlace := ["internal/abi.NoEscape", "maps.clone"], unfollowed := true, recurses := true, apart := false }
def FnExactTypeMakeSaid : Prop := fnExactTypeMakeRow.holds Try.pinned (OpenSpec.ofChange fnExactTypeMakeSpec)

/-- ITS FALSE NEIGHBOUR: 'it returns false'. Refute it at one input. -/
def fnExactTypeMakeWrong : ChangeSpec := { name := "fnExactTypeMake", fn := fun _ => fun
  | [d1, d2] => { results := [.lit (.bool false)], args := [d1, d2] }
  | _ => none }
def FnExactTypeMakeWrongFalsely : Prop := fnExactTypeMakeRow.holds Try.pinned (OpenSpec.ofChange fnExactTypeMakeWrong)

/-- 'laws.FnExactTypeParts': WHATEVER THE INPUT: true; the input reads as it did. -/
def fnExactTypePartsSpec : ChangeSpec := { name := "fnExactTypeParts", fn := fun _ => fun
  | [d] => { results := [.lit (.bool true)], args := [d] }
  | _ => none }
def fnExactTypePartsRow : OpenClaim := { program := "ytmkjkoelpngicaa", sum := "8357e606e6791a148200e957836eafcea8be1437150b7e48b881a295319684ec", func := "loop.example/intersectiontypes/laws.FnExactTypeParts", spec := "fnExactTypeParts", inPlace := ["internal/abi.NoEscape", "maps.clone"], unfollowed := true, recurses := true, apart := false }
def FnExactTypePartsSaid : Prop := fnExactTypePartsRow.holds Try.pinned (OpenSpec.ofChange fnExactTypePartsSpec)

/-- ITS FALSE NEIGHBOUR: 'it returns false'. Refute it at one input. -/
def fnExactTypePartsWrong : ChangeSpec := { name := "fnExactTypeParts", fn := fun _ => fun
  | [d] => { results := [.lit (.bool false)], args := [d] }
  | _ => none }
def FnExactTypePartsWrongFalsely : Prop := fnExactTypePartsRow.holds Try.pinned (OpenSpec.ofChange fnExactTypePartsWrong)

/-- 'laws.FnExactTypeTight': WHATEVER THE INPUT: true; the input reads as it did. -/
def fnExactTypeTightSpec : ChangeSpec := { name := "fnExactTypeTight", fn := fun _ => fun
  | [d] => { results := [.lit (.bool true)], args := [d] }
  | _ => none }
def fnExactTypeTightRow : OpenClaim := { program := "ytmkjkoelpngicaa", sum := "8357e606e6791a148200e957836eafcea8be1437150b7e48b881a295319684ec", func := "loop.example/intersectiontypes/laws.FnExactTypeTight", spec := "fnExactTypeTight", inPlace := ["internal/abi.NoEscape", "maps.clone"], unfollowed := true, recurses := true, apart := false }
def FnExactTypeTightSaid : Prop := fnExactTypeTightRow.holds Try.pinned (OpenSpec.ofChange fnExactTypeTightSpec)

/-- ITS FALSE NEIGHBOUR: 'it returns false'. Refute it at one input. -/
def fnExactTypeTightWrong : ChangeSpec := { name := "fnExactTypeTight", fn := fun _ => fun
  | [d] => { results := [.lit (.bool false)], args := [d] }
  | _ => none }
def FnExactTypeTightWrongFalsely : Prop := fnExactTypeTightRow.holds Try.pinned (OpenSpec.ofChange fnExactTypeTightWrong)

/-- 'laws.FnExactTypeSize': WHATEVER THE INPUT: true; the input reads as it did. -/
def fnExactTypeSizeSpec : ChangeSpec := { name := "fnExactTypeSize", fn := fun _ => fun
  | [d] => { results := [.lit (.bool true)], args := [d] }
  | _ => none }
def fnExactTypeSizeRow : OpenClaim := { program := "ytmkjkoelpngicaa", sum := "8357e606e6791a148200e957836eafcea8be1437150b7e48b881a295319684ec", func := "loop.example/intersectiontypes/laws.FnExactTypeSize", spec := "fnExactTypeSize", inPlace := ["internal/abi.NoEscape", "maps.clone"], unfollowed := true, recurses := true, apart := false }
def FnExactTypeSizeSaid : Prop := fnExactTypeSizeRow.holds Try.pinned (OpenSpec.ofChange fnExactTypeSizeSpec)

/-- ITS FALSE NEIGHBOUR: 'it returns false'. Refute it at one input. -/
def fnExactTypeSizeWrong : ChangeSpec := { name := "fnExactTypeSize", fn := fun _ => fun
  | [d] => { results := [.lit (.bool false)], args := [d] }
  | _ => none }
def FnExactTypeSizeWrongFalsely : Prop := fnExactTypeSizeRow.holds Try.pinned (OpenSpec.ofChange fnExactTypeSizeWrong)

/-- 'laws.FnBagOf': WHATEVER THE INPUT: true; the input reads as it did. -/
def fnBagOfSpec : ChangeSpec := { name := "fnBagOf", fn := fun _ => fun
  | [d] => { results := [.lit (.bool true)], args := [d] }
  | _ => none }
def fnBagOfRow : OpenClaim := { program := "ytmkjkoelpngicaa", sum := "8357e606e6791a148200e957836eafcea8be1437150b7e48b881a295319684ec", func := "loop.example/intersectiontypes/laws.FnBagOf", spec := "fnBagOf", inPlace := ["internal/abi.NoEscape", "maps.clone"], unfollowed := true, recurses := true, apart := false }
def FnBagOfSaid : Prop := fnBagOfRow.holds Try.pinned (OpenSpec.ofChange fnBagOfSpec)

/-- ITS FALSE NEIGHBOUR: 'it returns false'. Refute it at one input. -/
def fnBagOfWrong : ChangeSpec := { name := "fnBagOf", fn := fun _ => fun
  | [d] => { results := [.lit (.bool false)], args := [d] }
  | _ => none }
def FnBagOfWrongFalsely : Prop := fnBagOfRow.holds Try.pinned (OpenSpec.ofChange fnBagOfWrong)

/- THE SECOND FORM. 'bulk': how many values and letters a reading holds, each counted each time it is reached (what is shared counts as often as it is met; a slice's spare places count too). A statement '..UptoSaid' is the law's where the arguments, and the package variables that the reading takes, are together of bulk at most 1048576: NARROWER than '..Said'. Prove '..Said' where nothing that the law and all that it calls make is longer than what came in: it says more and counts as full. Else prove '..UptoSaid'. A law counts once. -/
mutual
def uptoBulk {H : Type} : DataW H → Nat
  | .lit (.string bytes) => bytes.length + 1
  | .lit _ => 1
  | .nil => 1
  | .ptr d => uptoBulk d + 1
  | .slice elems spare => uptoBulkAll elems + uptoBulkAll spare + 1
  | .agg parts => uptoBulkAll parts + 1
  | .iface _ d => uptoBulk d + 1
  | .map entries => uptoBulkEntries entries + 1
  | .held _ => 1
def uptoBulkAll {H : Type} : List (DataW H) → Nat
  | [] => 0
  | d :: r => uptoBulk d + uptoBulkAll r
def uptoBulkEntries {H : Type} : List (Lit × DataW H) → Nat
  | [] => 0
  | x :: r => uptoBulkEntry x + uptoBulkEntries r
def uptoBulkEntry {H : Type} : Lit × DataW H → Nat
  | (.string bytes, d) => bytes.length + uptoBulk d + 1
  | (_, d) => uptoBulk d + 1
 end
def uptoSmall : (H : Type) → List (DataW H) → Bool := fun _ ds => decide (uptoBulkAll ds ≤ 1048576)
def OpenSpec.upto (s : _root_.Go.ChangeSpec) : _root_.Go.OpenSpec := { _root_.Go.OpenSpec.ofChange s with cond := some uptoSmall }

/-- 'laws.FnExactTypeValid', WHERE WHAT IT READS IS OF BULK AT MOST 1048576: true; the input reads as it did. -/
def fnExactTypeValidUptoRow : OpenClaim := { program := "ytmkjkoelpngicaa", sum := "8357e606e6791a148200e957836eafcea8be1437150b7e48b881a295319684ec", func := "loop.example/intersectiontypes/laws.FnExactTypeValid", spec := "fnExactTypeValid", inPlace := ["internal/abi.NoEscape", "maps.clone"], unfollowed := true, recurses := true, apart := false, narrowed := true }
def FnExactTypeValidUptoSaid : Prop := fnExactTypeValidUptoRow.holds Try.pinned (OpenSpec.upto fnExactTypeValidSpec)

/-- 'laws.FnExactBagValid', WHERE WHAT IT READS IS OF BULK AT MOST 1048576: true; the input reads as it did. -/
def fnExactBagValidUptoRow : OpenClaim := { program := "ytmkjkoelpngicaa", sum := "8357e606e6791a148200e957836eafcea8be1437150b7e48b881a295319684ec", func := "loop.example/intersectiontypes/laws.FnExactBagValid", spec := "fnExactBagValid", inPlace := ["internal/abi.NoEscape", "maps.clone"], unfollowed := true, recurses := true, apart := false, narrowed := true }
def FnExactBagValidUptoSaid : Prop := fnExactBagValidUptoRow.holds Try.pinned (OpenSpec.upto fnExactBagValidSpec)

/-- 'laws.FnExactBagOf', WHERE WHAT IT READS IS OF BULK AT MOST 1048576: true; the input reads as it did. -/
def fnExactBagOfUptoRow : OpenClaim := { program := "ytmkjkoelpngicaa", sum := "8357e606e6791a148200e957836eafcea8be1437150b7e48b881a295319684ec", func := "loop.example/intersectiontypes/laws.FnExactBagOf", spec := "fnExactBagOf", inPlace := ["internal/abi.NoEscape", "maps.clone"], unfollowed := true, recurses := true, apart := false, narrowed := true }
def FnExactBagOfUptoSaid : Prop := fnExactBagOfUptoRow.holds Try.pinned (OpenSpec.upto fnExactBagOfSpec)

/-- 'laws.FnExactBagTypes', WHERE WHAT IT READS IS OF BULK AT MOST 1048576: true; the input reads as it did. -/
def fnExactBagTypesUptoRow : OpenClaim := { program := "ytmkjkoelpngicaa", sum := "8357e606e6791a148200e957836eafcea8be1437150b7e48b881a295319684ec", func := "loop.example/intersectiontypes/laws.FnExactBagTypes", spec := "fnExactBagTypes", inPlace := ["internal/abi.NoEscape", "maps.clone"], unfollowed := true, recurses := true, apart := false, narrowed := true }
def FnExactBagTypesUptoSaid : Prop := fnExactBagTypesUptoRow.holds Try.pinned (OpenSpec.upto fnExactBagTypesSpec)

/-- 'laws.FnExactBagSum', WHERE WHAT IT READS IS OF BULK AT MOST 1048576: true; the input reads as it did. -/
def fnExactBagSumUptoRow : OpenClaim := { program := "ytmkjkoelpngicaa", sum := "8357e606e6791a148200e957836eafcea8be1437150b7e48b881a295319684ec", func := "loop.example/intersectiontypes/laws.FnExactBagSum", spec := "fnExactBagSum", inPlace := ["internal/abi.NoEscape", "maps.clone"], unfollowed := true, recurses := true, apart := false, narrowed := true }
def FnExactBagSumUptoSaid : Prop := fnExactBagSumUptoRow.holds Try.pinned (OpenSpec.upto fnExactBagSumSpec)

/-- 'laws.FnExactBagCount', WHERE WHAT IT READS IS OF BULK AT MOST 1048576: true; the input reads as it did. -/
def fnExactBagCountUptoRow : OpenClaim := { program := "ytmkjkoelpngicaa", sum := "8357e606e6791a148200e957836eafcea8be1437150b7e48b881a295319684ec", func := "loop.example/intersectiontypes/laws.FnExactBagCount", spec := "fnExactBagCount", inPlace := ["internal/abi.NoEscape", "maps.clone"], unfollowed := true, recurses := true, apart := false, narrowed := true }
def FnExactBagCountUptoSaid : Prop := fnExactBagCountUptoRow.holds Try.pinned (OpenSpec.upto fnExactBagCountSpec)

/-- 'laws.FnExactTypeMake', WHERE WHAT IT READS IS OF BULK AT MOST 1048576: true; the input reads as it did. -/
def fnExactTypeMakeUptoRow : OpenClaim := { program := "ytmkjkoelpngicaa", sum := "8357e606e6791a148200e957836eafcea8be1437150b7e48b881a295319684ec", func := "loop.example/intersectiontypes/laws.FnExactTypeMake", spec := "fnExactTypeMake", inPlace := ["internal/abi.NoEscape", "maps.clone"], unfollowed := true, recurses := true, apart := false, narrowed := true }
def FnExactTypeMakeUptoSaid : Prop := fnExactTypeMakeUptoRow.holds Try.pinned (OpenSpec.upto fnExactTypeMakeSpec)

/-- 'laws.FnExactTypeParts', WHERE WHAT IT READS IS OF BULK AT MOST 1048576: true; the input reads as it did. -/
def fnExactTypePartsUptoRow : OpenClaim := { program := "ytmkjkoelpngicaa", sum := "8357e606e6791a148200e957836eafcea8be1437150b7e48b881a295319684ec", func := "loop.example/intersectiontypes/laws.FnExactTypeParts", spec := "fnExactTypeParts", inPlace := ["internal/abi.NoEscape", "maps.clone"], unfollowed := true, recurses := true, apart := false, narrowed := true }
def FnExactTypePartsUptoSaid : Prop := fnExactTypePartsUptoRow.holds Try.pinned (OpenSpec.upto fnExactTypePartsSpec)

/-- 'laws.FnExactTypeTight', WHERE WHAT IT READS IS OF BULK AT MOST 1048576: true; the input reads as it did. -/
def fnExactTypeTightUptoRow : OpenClaim := { program := "ytmkjkoelpngicaa", sum := "8357e606e6791a148200e957836eafcea8be1437150b7e48b881a295319684ec", func := "loop.example/intersectiontypes/laws.FnExactTypeTight", spec := "fnExactTypeTight", inPlace := ["internal/abi.NoEscape", "maps.clone"], unfollowed := true, recurses := true, apart := false, narrowed := true }
def FnExactTypeTightUptoSaid : Prop := fnExactTypeTightUptoRow.holds Try.pinned (OpenSpec.upto fnExactTypeTightSpec)

/-- 'laws.FnExactTypeSize', WHERE WHAT IT READS IS OF BULK AT MOST 1048576: true; the input reads as it did. -/
def fnExactTypeSizeUptoRow : OpenClaim := { program := "ytmkjkoelpngicaa", sum := "8357e606e6791a148200e957836eafcea8be1437150b7e48b881a295319684ec", func := "loop.example/intersectiontypes/laws.FnExactTypeSize", spec := "fnExactTypeSize", inPlace := ["internal/abi.NoEscape", "maps.clone"], unfollowed := true, recurses := true, apart := false, narrowed := true }
def FnExactTypeSizeUptoSaid : Prop := fnExactTypeSizeUptoRow.holds Try.pinned (OpenSpec.upto fnExactTypeSizeSpec)

/-- 'laws.FnBagOf', WHERE WHAT IT READS IS OF BULK AT MOST 1048576: true; the input reads as it did. -/
def fnBagOfUptoRow : OpenClaim := { program := "ytmkjkoelpngicaa", sum := "8357e606e6791a148200e957836eafcea8be1437150b7e48b881a295319684ec", func := "loop.example/intersectiontypes/laws.FnBagOf", spec := "fnBagOf", inPlace := ["internal/abi.NoEscape", "maps.clone"], unfollowed := true, recurses := true, apart := false, narrowed := true }
def FnBagOfUptoSaid : Prop := fnBagOfUptoRow.holds Try.pinned (OpenSpec.upto fnBagOfSpec)

end Rows
end Go.Proofs.Ytmkjkoelpngicaa
