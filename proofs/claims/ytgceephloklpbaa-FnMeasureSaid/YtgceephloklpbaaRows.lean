/-
  No cell of these rows narrows 'for every input' (looked for: loops, veiled, ifaces, maps, wideKeys, modest, calm, conditions, laid).
  DERIVED. THE GIVEN ROWS OF THIS SEAT. 5 by the template 'for every input the law returns true; each argument reads behind the call as it read before'; 0 by the template 'total and deterministic' (their statements: YtgceephloklpbaaTotals.lean).
  GIVEN WITH THE SEED: the statements are not yours to turn. If you find one false, say at which input.
  Laid BY PROGRAM, IN A SANDBOX (cutbox-rows.mjs): the forced cells as the released guide's own fill.sh prints them over the translation f0084317385d2b16… (all of the seat's roots in one cut). By AI agents, Wed Nov 11 2026. No macro, syntax, notation, axiom, sorry.
-/
import Derived.Test.YtgceephloklpbaaChecked
import GoSem.Claim
import GoSem.ClaimJoined
import GoSem.ClaimMapViews
import Derived.JoinedTies
import Derived.KernelRfl
namespace Go.Proofs.Ytgceephloklpbaa
/- THE CELL 'sum', in the pinned program and in every row, IS THE sha256 OF THE DUMP (.gsa) THAT YtgceephloklpbaaProg.lean LOADS. Nothing in Lean hashes anything: it is a label: what it is worth is what the hold of that sum in a sandbox is worth. -/
noncomputable def Try.pinned : Pinned := { name := "ytgceephloklpbaa", sum := "f0084317385d2b1629fb05e63e1d356251bab40e61e6069a76020b775560c4a0", checked := Try.checked }
namespace Rows
def none {H : Type} : Left H := { results := [], args := [] }

/-- 'laws.FnExactNormalIs': WHATEVER THE INPUT: true; the input reads as it did. -/
def fnExactNormalIsSpec : ChangeSpec := { name := "fnExactNormalIs", fn := fun _ => fun
  | [d1, d2] => { results := [.lit (.bool true)], args := [d1, d2] }
  | _ => none }
def fnExactNormalIsRow : OpenClaim := { program := "ytgceephloklpbaa", sum := "f0084317385d2b1629fb05e63e1d356251bab40e61e6069a76020b775560c4a0", func := "loop.example/intersectiontypes/laws.FnExactNormalIs", spec := "fnExactNormalIs", unfollowed := true, recurses := true, apart := false }
def FnExactNormalIsSaid : Prop := fnExactNormalIsRow.holds Try.pinned (OpenSpec.ofChange fnExactNormalIsSpec)

/-- ITS FALSE NEIGHBOUR: 'it returns false'. Refute it at one input. -/
def fnExactNormalIsWrong : ChangeSpec := { name := "fnExactNormalIs", fn := fun _ => fun
  | [d1, d2] => { results := [.lit (.bool false)], args := [d1, d2] }
  | _ => none }
def FnExactNormalIsWrongFalsely : Prop := fnExactNormalIsRow.holds Try.pinned (OpenSpec.ofChange fnExactNormalIsWrong)

/-- 'laws.FnExactMeasure': WHATEVER THE INPUT: true; the input reads as it did. -/
def fnExactMeasureSpec : ChangeSpec := { name := "fnExactMeasure", fn := fun _ => fun
  | [d1, d2] => { results := [.lit (.bool true)], args := [d1, d2] }
  | _ => none }
def fnExactMeasureRow : OpenClaim := { program := "ytgceephloklpbaa", sum := "f0084317385d2b1629fb05e63e1d356251bab40e61e6069a76020b775560c4a0", func := "loop.example/intersectiontypes/laws.FnExactMeasure", spec := "fnExactMeasure", unfollowed := true, recurses := true, apart := false }
def FnExactMeasureSaid : Prop := fnExactMeasureRow.holds Try.pinned (OpenSpec.ofChange fnExactMeasureSpec)

/-- ITS FALSE NEIGHBOUR: 'it returns false'. Refute it at one input. -/
def fnExactMeasureWrong : ChangeSpec := { name := "fnExactMeasure", fn := fun _ => fun
  | [d1, d2] => { results := [.lit (.bool false)], args := [d1, d2] }
  | _ => none }
def FnExactMeasureWrongFalsely : Prop := fnExactMeasureRow.holds Try.pinned (OpenSpec.ofChange fnExactMeasureWrong)

/-- 'laws.FnExactNeutralIs': WHATEVER THE INPUT: true; the input reads as it did. -/
def fnExactNeutralIsSpec : ChangeSpec := { name := "fnExactNeutralIs", fn := fun _ => fun
  | [d] => { results := [.lit (.bool true)], args := [d] }
  | _ => none }
def fnExactNeutralIsRow : OpenClaim := { program := "ytgceephloklpbaa", sum := "f0084317385d2b1629fb05e63e1d356251bab40e61e6069a76020b775560c4a0", func := "loop.example/intersectiontypes/laws.FnExactNeutralIs", spec := "fnExactNeutralIs", unfollowed := true, recurses := true, apart := false }
def FnExactNeutralIsSaid : Prop := fnExactNeutralIsRow.holds Try.pinned (OpenSpec.ofChange fnExactNeutralIsSpec)

/-- ITS FALSE NEIGHBOUR: 'it returns false'. Refute it at one input. -/
def fnExactNeutralIsWrong : ChangeSpec := { name := "fnExactNeutralIs", fn := fun _ => fun
  | [d] => { results := [.lit (.bool false)], args := [d] }
  | _ => none }
def FnExactNeutralIsWrongFalsely : Prop := fnExactNeutralIsRow.holds Try.pinned (OpenSpec.ofChange fnExactNeutralIsWrong)

/-- 'laws.FnExactRedexCount': WHATEVER THE INPUT: true; the input reads as it did. -/
def fnExactRedexCountSpec : ChangeSpec := { name := "fnExactRedexCount", fn := fun _ => fun
  | [d] => { results := [.lit (.bool true)], args := [d] }
  | _ => none }
def fnExactRedexCountRow : OpenClaim := { program := "ytgceephloklpbaa", sum := "f0084317385d2b1629fb05e63e1d356251bab40e61e6069a76020b775560c4a0", func := "loop.example/intersectiontypes/laws.FnExactRedexCount", spec := "fnExactRedexCount", unfollowed := true, recurses := true, apart := false }
def FnExactRedexCountSaid : Prop := fnExactRedexCountRow.holds Try.pinned (OpenSpec.ofChange fnExactRedexCountSpec)

/-- ITS FALSE NEIGHBOUR: 'it returns false'. Refute it at one input. -/
def fnExactRedexCountWrong : ChangeSpec := { name := "fnExactRedexCount", fn := fun _ => fun
  | [d] => { results := [.lit (.bool false)], args := [d] }
  | _ => none }
def FnExactRedexCountWrongFalsely : Prop := fnExactRedexCountRow.holds Try.pinned (OpenSpec.ofChange fnExactRedexCountWrong)

/-- 'laws.FnMeasure': WHATEVER THE INPUT: true; the input reads as it did. -/
def fnMeasureSpec : ChangeSpec := { name := "fnMeasure", fn := fun _ => fun
  | [d] => { results := [.lit (.bool true)], args := [d] }
  | _ => none }
def fnMeasureRow : OpenClaim := { program := "ytgceephloklpbaa", sum := "f0084317385d2b1629fb05e63e1d356251bab40e61e6069a76020b775560c4a0", func := "loop.example/intersectiontypes/laws.FnMeasure", spec := "fnMeasure", unfollowed := true, recurses := true, apart := false }
def FnMeasureSaid : Prop := fnMeasureRow.holds Try.pinned (OpenSpec.ofChange fnMeasureSpec)

/-- ITS FALSE NEIGHBOUR: 'it returns false'. Refute it at one input. -/
def fnMeasureWrong : ChangeSpec := { name := "fnMeasure", fn := fun _ => fun
  | [d] => { results := [.lit (.bool false)], args := [d] }
  | _ => none }
def FnMeasureWrongFalsely : Prop := fnMeasureRow.holds Try.pinned (OpenSpec.ofChange fnMeasureWrong)

/- THE SECOND FORM. 'bulk': how many values and letters a reading holds, each counted each time it is reached (what is shared counts as often as it is met; a slice's spare places count too). A statement '..UptoSaid' is the law's where the arguments, and the package variables that the reading takes, are together of bulk at most 1048576: NARROWER than '..Said'. Prove '..Said' where nothing that the law and all that it calls make is longer than what came in: it says more and counts as full. Else prove '..UptoSaid'. A law counts once. -/
mutual
def uptoBulk {H : Type} : DataW H → Nat
  | .lit (.string bytes) => bytes.length + 1
  | .lit _ => 1
  | .nil => 1
  | .ptr d => uptoBulk d + 1
  | .slice elems spare => uptoBulkAll elems + uptoBulkAll spare + 1
  | .agg parts => uptoBulkAll parts + 1
  | .iface _ d => uptoBulk d + 1
  | .map entries => uptoBulkEntries entries + 1
  | .held _ => 1
def uptoBulkAll {H : Type} : List (DataW H) → Nat
  | [] => 0
  | d :: r => uptoBulk d + uptoBulkAll r
def uptoBulkEntries {H : Type} : List (Lit × DataW H) → Nat
  | [] => 0
  | x :: r => uptoBulkEntry x + uptoBulkEntries r
def uptoBulkEntry {H : Type} : Lit × DataW H → Nat
  | (.string bytes, d) => bytes.length + uptoBulk d + 1
  | (_, d) => uptoBulk d + 1
 end
def uptoSmall : (H : Type) → List (DataW H) → Bool := fun _ ds => decide (uptoBulkAll ds ≤ 1048576)
def OpenSpec.upto (s : _root_.Go.ChangeSpec) : _root_.Go.OpenSpec := { _root_.Go.OpenSpec.ofChange s with cond := some uptoSmall }

/-- 'laws.FnExactNormalIs', WHERE WHAT IT READS IS OF BULK AT MOST 1048576: true; the input reads as it did. -/
def fnExactNormalIsUptoRow : OpenClaim := { program := "ytgceephloklpbaa", sum := "f0084317385d2b1629fb05e63e1d356251bab40e61e6069a76020b775560c4a0", func := "loop.example/intersectiontypes/laws.FnExactNormalIs", spec := "fnExactNormalIs", unfollowed := true, recurses := true, apart := false, narrowed := true }
def FnExactNormalIsUptoSaid : Prop := fnExactNormalIsUptoRow.holds Try.pinned (OpenSpec.upto fnExactNormalIsSpec)

/-- 'laws.FnExactMeasure', WHERE WHAT IT READS IS OF BULK AT MOST 1048576: true; the input reads as it did. -/
def fnExactMeasureUptoRow : OpenClaim := { program := "ytgceephloklpbaa", sum := "f0084317385d2b1629fb05e63e1d356251bab40e61e6069a76020b775560c4a0", func := "loop.example/intersectiontypes/laws.FnExactMeasure", spec := "fnExactMeasure", unfollowed := true, recurses := true, apart := false, narrowed := true }
def FnExactMeasureUptoSaid : Prop := fnExactMeasureUptoRow.holds Try.pinned (OpenSpec.upto fnExactMeasureSpec)

/-- 'laws.FnExactNeutralIs', WHERE WHAT IT READS IS OF BULK AT MOST 1048576: true; the input reads as it did. -/
def fnExactNeutralIsUptoRow : OpenClaim := { program := "ytgceephloklpbaa", sum := "f0084317385d2b1629fb05e63e1d356251bab40e61e6069a76020b775560c4a0", func := "loop.example/intersectiontypes/laws.FnExactNeutralIs", spec := "fnExactNeutralIs", unfollowed := true, recurses := true, apart := false, narrowed := true }
def FnExactNeutralIsUptoSaid : Prop := fnExactNeutralIsUptoRow.holds Try.pinned (OpenSpec.upto fnExactNeutralIsSpec)

/-- 'laws.FnExactRedexCount', WHERE WHAT IT READS IS OF BULK AT MOST 1048576: true; the input reads as it did. -/
def fnExactRedexCountUptoRow : OpenClaim := { program := "ytgceephloklpbaa", sum := "f0084317385d2b1629fb05e63e1d356251bab40e61e6069a76020b775560c4a0", func := "loop.example/intersectiontypes/laws.FnExactRedexCount", spec := "fnExactRedexCount", unfollowed := true, recurses := true, apart := false, narrowed := true }
def FnExactRedexCountUptoSaid : Prop := fnExactRedexCountUptoRow.holds Try.pinned (OpenSpec.upto fnExactRedexCountSpec)

/-- 'laws.FnMeasure', WHERE WHAT IT READS IS OF BULK AT MOST 1048576: true; the input reads as it did. -/
def fnMeasureUptoRow : OpenClaim := { program := "ytgceephloklpbaa", sum := "f0084317385d2b1629fb05e63e1d356251bab40e61e6069a76020b775560c4a0", func := "loop.example/intersectiontypes/laws.FnMeasure", spec := "fnMeasure", unfollowed := true, recurses := true, apart := false, narrowed := true }
def FnMeasureUptoSaid : Prop := fnMeasureUptoRow.holds Try.pinned (OpenSpec.upto fnMeasureSpec)

end Rows
end Go.Proofs.Ytgceephloklpbaa
