/-
  No cell of these rows narrows 'for every input' (looked for: loops, veiled, ifaces, maps, wideKeys, modest, calm, conditions, laid).
  DERIVED. THE GIVEN ROWS OF THIS SEAT. 5 by the template 'for every input the law returns true; each argument reads behind the call as it read before'; 0 by the template 'total and deterministic' (their statements: YtljkmeloleeopaaTotals.lean).
  GIVEN WITH THE SEED: the statements are not yours to turn. If you find one false, say at which input.
  Laid BY PROGRAM, IN A SANDBOX (cutbox-rows.mjs): the forced cells as the released guide's own fill.sh prints them over the translation ceacd88dc62f1c20… (all of the seat's roots in one cut). By AI agents, Wed Nov 11 2026. No macro, syntax, notation, axiom, sorry.
-/
import Derived.Test.YtljkmeloleeopaaChecked
import GoSem.Claim
import GoSem.ClaimJoined
import GoSem.ClaimMapViews
import Derived.JoinedTies
import Derived.KernelRfl
namespace Go.Proofs.Ytljkmeloleeopaa
/- THE CELL 'sum', in the pinned program and in every row, IS THE sha256 OF THE DUMP (.gsa) THAT YtljkmeloleeopaaProg.lean LOADS. Nothing in Lean hashes anything: it is a label: what it is worth is what the hold of that sum in a sandbox is worth. -/
noncomputable def Try.pinned : Pinned := { name := "ytljkmeloleeopaa", sum := "ceacd88dc62f1c2068481154b77ea1faa16de4b338e5a66755c440faa27a0b90", checked := Try.checked }
namespace Rows
def none {H : Type} : Left H := { results := [], args := [] }

/-- 'laws.FnRun': WHATEVER THE INPUT: true; the input reads as it did. -/
def fnRunSpec : ChangeSpec := { name := "fnRun", fn := fun _ => fun
  | [d] => { results := [.lit (.bool true)], args := [d] }
  | _ => none }
def fnRunRow : OpenClaim := { program := "ytljkmeloleeopaa", sum := "ceacd88dc62f1c2068481154b77ea1faa16de4b338e5a66755c440faa27a0b90", func := "loop.example/intersectiontypes/laws.FnRun", spec := "fnRun", unfollowed := true, recurses := true, apart := false }
def FnRunSaid : Prop := fnRunRow.holds Try.pinned (OpenSpec.ofChange fnRunSpec)

/-- ITS FALSE NEIGHBOUR: 'it returns false'. Refute it at one input. -/
def fnRunWrong : ChangeSpec := { name := "fnRun", fn := fun _ => fun
  | [d] => { results := [.lit (.bool false)], args := [d] }
  | _ => none }
def FnRunWrongFalsely : Prop := fnRunRow.holds Try.pinned (OpenSpec.ofChange fnRunWrong)

/-- 'laws.FnExactMachineRun': WHATEVER THE INPUT: true; the input reads as it did. -/
def fnExactMachineRunSpec : ChangeSpec := { name := "fnExactMachineRun", fn := fun _ => fun
  | [d] => { results := [.lit (.bool true)], args := [d] }
  | _ => none }
def fnExactMachineRunRow : OpenClaim := { program := "ytljkmeloleeopaa", sum := "ceacd88dc62f1c2068481154b77ea1faa16de4b338e5a66755c440faa27a0b90", func := "loop.example/intersectiontypes/laws.FnExactMachineRun", spec := "fnExactMachineRun", unfollowed := true, recurses := true, apart := false }
def FnExactMachineRunSaid : Prop := fnExactMachineRunRow.holds Try.pinned (OpenSpec.ofChange fnExactMachineRunSpec)

/-- ITS FALSE NEIGHBOUR: 'it returns false'. Refute it at one input. -/
def fnExactMachineRunWrong : ChangeSpec := { name := "fnExactMachineRun", fn := fun _ => fun
  | [d] => { results := [.lit (.bool false)], args := [d] }
  | _ => none }
def FnExactMachineRunWrongFalsely : Prop := fnExactMachineRunRow.holds Try.pinned (OpenSpec.ofChange fnExactMachineRunWrong)

/-- 'laws.FnExactMachineMoves': WHATEVER THE INPUT: true; the input reads as it did. -/
def fnExactMachineMovesSpec : ChangeSpec := { name := "fnExactMachineMoves", fn := fun _ => fun
  | [d] => { results := [.lit (.bool true)], args := [d] }
  | _ => none }
def fnExactMachineMovesRow : OpenClaim := { program := "ytljkmeloleeopaa", sum := "ceacd88dc62f1c2068481154b77ea1faa16de4b338e5a66755c440faa27a0b90", func := "loop.example/intersectiontypes/laws.FnExactMachineMoves", spec := "fnExactMachineMoves", unfollowed := true, recurses := true, apart := false }
def FnExactMachineMovesSaid : Prop := fnExactMachineMovesRow.holds Try.pinned (OpenSpec.ofChange fnExactMachineMovesSpec)

/-- ITS FALSE NEIGHBOUR: 'it returns false'. Refute it at one input. -/
def fnExactMachineMovesWrong : ChangeSpec := { name := "fnExactMachineMoves", fn := fun _ => fun
  | [d] => { results := [.lit (.bool false)], args := [d] }
  | _ => none }
def FnExactMachineMovesWrongFalsely : Prop := fnExactMachineMovesRow.holds Try.pinned (OpenSpec.ofChange fnExactMachineMovesWrong)

/-- 'laws.FnExactMachineTrace': WHATEVER THE INPUT: true; the input reads as it did. -/
def fnExactMachineTraceSpec : ChangeSpec := { name := "fnExactMachineTrace", fn := fun _ => fun
  | [d1, d2] => { results := [.lit (.bool true)], args := [d1, d2] }
  | _ => none }
def fnExactMachineTraceRow : OpenClaim := { program := "ytljkmeloleeopaa", sum := "ceacd88dc62f1c2068481154b77ea1faa16de4b338e5a66755c440faa27a0b90", func := "loop.example/intersectiontypes/laws.FnExactMachineTrace", spec := "fnExactMachineTrace", inPlace := ["internal/abi.NoEscape"], unfollowed := true, recurses := true, apart := false }
def FnExactMachineTraceSaid : Prop := fnExactMachineTraceRow.holds Try.pinned (OpenSpec.ofChange fnExactMachineTraceSpec)

/-- ITS FALSE NEIGHBOUR: 'it returns false'. Refute it at one input. -/
def fnExactMachineTraceWrong : ChangeSpec := { name := "fnExactMachineTrace", fn := fun _ => fun
  | [d1, d2] => { results := [.lit (.bool false)], args := [d1, d2] }
  | _ => none }
def FnExactMachineTraceWrongFalsely : Prop := fnExactMachineTraceRow.holds Try.pinned (OpenSpec.ofChange fnExactMachineTraceWrong)

/-- 'laws.FnExactMachineVisits': WHATEVER THE INPUT: true; the input reads as it did. -/
def fnExactMachineVisitsSpec : ChangeSpec := { name := "fnExactMachineVisits", fn := fun _ => fun
  | [d] => { results := [.lit (.bool true)], args := [d] }
  | _ => none }
def fnExactMachineVisitsRow : OpenClaim := { program := "ytljkmeloleeopaa", sum := "ceacd88dc62f1c2068481154b77ea1faa16de4b338e5a66755c440faa27a0b90", func := "loop.example/intersectiontypes/laws.FnExactMachineVisits", spec := "fnExactMachineVisits", unfollowed := true, recurses := true, apart := false }
def FnExactMachineVisitsSaid : Prop := fnExactMachineVisitsRow.holds Try.pinned (OpenSpec.ofChange fnExactMachineVisitsSpec)

/-- ITS FALSE NEIGHBOUR: 'it returns false'. Refute it at one input. -/
def fnExactMachineVisitsWrong : ChangeSpec := { name := "fnExactMachineVisits", fn := fun _ => fun
  | [d] => { results := [.lit (.bool false)], args := [d] }
  | _ => none }
def FnExactMachineVisitsWrongFalsely : Prop := fnExactMachineVisitsRow.holds Try.pinned (OpenSpec.ofChange fnExactMachineVisitsWrong)

/- THE SECOND FORM. 'bulk': how many values and letters a reading holds, each counted each time it is reached (what is shared counts as often as it is met; a slice's spare places count too). A statement '..UptoSaid' is the law's where the arguments, and the package variables that the reading takes, are together of bulk at most 1048576: NARROWER than '..Said'. Prove '..Said' where nothing that the law and all that it calls make is longer than what came in: it says more and counts as full. Else prove '..UptoSaid'. A law counts once. -/
mutual
def uptoBulk {H : Type} : DataW H → Nat
  | .lit (.string bytes) => bytes.length + 1
  | .lit _ => 1
  | .nil => 1
  | .ptr d => uptoBulk d + 1
  | .slice elems spare => uptoBulkAll elems + uptoBulkAll spare + 1
  | .agg parts => uptoBulkAll parts + 1
  | .iface _ d => uptoBulk d + 1
  | .map entries => uptoBulkEntries entries + 1
  | .held _ => 1
def uptoBulkAll {H : Type} : List (DataW H) → Nat
  | [] => 0
  | d :: r => uptoBulk d + uptoBulkAll r
def uptoBulkEntries {H : Type} : List (Lit × DataW H) → Nat
  | [] => 0
  | x :: r => uptoBulkEntry x + uptoBulkEntries r
def uptoBulkEntry {H : Type} : Lit × DataW H → Nat
  | (.string bytes, d) => bytes.length + uptoBulk d + 1
  | (_, d) => uptoBulk d + 1
 end
def uptoSmall : (H : Type) → List (DataW H) → Bool := fun _ ds => decide (uptoBulkAll ds ≤ 1048576)
def OpenSpec.upto (s : _root_.Go.ChangeSpec) : _root_.Go.OpenSpec := { _root_.Go.OpenSpec.ofChange s with cond := some uptoSmall }

/-- 'laws.FnRun', WHERE WHAT IT READS IS OF BULK AT MOST 1048576: true; the input reads as it did. -/
def fnRunUptoRow : OpenClaim := { program := "ytljkmeloleeopaa", sum := "ceacd88dc62f1c2068481154b77ea1faa16de4b338e5a66755c440faa27a0b90", func := "loop.example/intersectiontypes/laws.FnRun", spec := "fnRun", unfollowed := true, recurses := true, apart := false, narrowed := true }
def FnRunUptoSaid : Prop := fnRunUptoRow.holds Try.pinned (OpenSpec.upto fnRunSpec)

/-- 'laws.FnExactMachineRun', WHERE WHAT IT READS IS OF BULK AT MOST 1048576: true; the input reads as it did. -/
def fnExactMachineRunUptoRow : OpenClaim := { program := "ytljkmeloleeopaa", sum := "ceacd88dc62f1c2068481154b77ea1faa16de4b338e5a66755c440faa27a0b90", func := "loop.example/intersectiontypes/laws.FnExactMachineRun", spec := "fnExactMachineRun", unfollowed := true, recurses := true, apart := false, narrowed := true }
def FnExactMachineRunUptoSaid : Prop := fnExactMachineRunUptoRow.holds Try.pinned (OpenSpec.upto fnExactMachineRunSpec)

/-- 'laws.FnExactMachineMoves', WHERE WHAT IT READS IS OF BULK AT MOST 1048576: true; the input reads as it did. -/
def fnExactMachineMovesUptoRow : OpenClaim := { program := "ytljkmeloleeopaa", sum := "ceacd88dc62f1c2068481154b77ea1faa16de4b338e5a66755c440faa27a0b90", func := "loop.example/intersectiontypes/laws.FnExactMachineMoves", spec := "fnExactMachineMoves", unfollowed := true, recurses := true, apart := false, narrowed := true }
def FnExactMachineMovesUptoSaid : Prop := fnExactMachineMovesUptoRow.holds Try.pinned (OpenSpec.upto fnExactMachineMovesSpec)

/-- 'laws.FnExactMachineTrace', WHERE WHAT IT READS IS OF BULK AT MOST 1048576: true; the input reads as it did. -/
def fnExactMachineTraceUptoRow : OpenClaim := { program := "ytljkmeloleeopaa", sum := "ceacd88dc62f1c2068481154b77ea1faa16de4b338e5a66755c440faa27a0b90", func := "loop.example/intersectiontypes/laws.FnExactMachineTrace", spec := "fnExactMachineTrace", inPlace := ["internal/abi.NoEscape"], unfollowed := true, recurses := true, apart := false, narrowed := true }
def FnExactMachineTraceUptoSaid : Prop := fnExactMachineTraceUptoRow.holds Try.pinned (OpenSpec.upto fnExactMachineTraceSpec)

/-- 'laws.FnExactMachineVisits', WHERE WHAT IT READS IS OF BULK AT MOST 1048576: true; the input reads as it did. -/
def fnExactMachineVisitsUptoRow : OpenClaim := { program := "ytljkmeloleeopaa", sum := "ceacd88dc62f1c2068481154b77ea1faa16de4b338e5a66755c440faa27a0b90", func := "loop.example/intersectiontypes/laws.FnExactMachineVisits", spec := "fnExactMachineVisits", unfollowed := true, recurses := true, apart := false, narrowed := true }
def FnExactMachineVisitsUptoSaid : Prop := fnExactMachineVisitsUptoRow.holds Try.pinned (OpenSpec.upto fnExactMachineVisitsSpec)

end Rows
end Go.Proofs.Ytljkmeloleeopaa
