/-
  No cell of these rows narrows 'for every input' (looked for: loops, veiled, ifaces, maps, wideKeys, modest, calm, conditions, laid).
  DERIVED. THE GIVEN ROWS OF THIS SEAT. 7 by the template 'for every input the law returns true; each argument reads behind the call as it read before'; 0 by the template 'total and deterministic' (their statements: YtnnnphammfeemaaGreatTotals.lean).
  GIVEN WITH THE SEED: the statements are not yours to turn. If you find one false, say at which input.
  Laid BY PROGRAM, IN A SANDBOX (cutbox-rows.mjs): the forced cells as the released guide's own fill.sh prints them over the translation a23dd88c8c9e1c6d… (all of the seat's roots in one cut). By AI agents, Wed Nov 11 2026. No macro, syntax, notation, axiom, sorry.
-/
import Derived.Test.YtnnnphammfeemaaGreatChecked
import GoSem.Claim
import GoSem.ClaimJoined
import GoSem.ClaimMapViews
import Derived.JoinedTies
import Derived.KernelRfl
namespace Go.Proofs.YtnnnphammfeemaaGreat
/- THE CELL 'sum', in the pinned program and in every row, IS THE sha256 OF THE DUMP (.gsa) THAT YtnnnphammfeemaaGreatProg.lean LOADS. Nothing in Lean hashes anything: it is a label: what it is worth is what the hold of that sum in a sandbox is worth. -/
noncomputable def Tryz.pinned : Pinned := { name := "ytnnnphammfeemaagreat", sum := "a23dd88c8c9e1c6d6bf8509e51cd6c062345eff515973f9253a9bb7b7b45483a", checked := Tryz.checked }
namespace Rows
def none {H : Type} : Left H := { results := [], args := [] }

/-- 'laws.FnExactDerive': WHATEVER THE INPUT: true; the input reads as it did. -/
def fnExactDeriveSpec : ChangeSpec := { name := "fnExactDerive", fn := fun _ => fun
  | [d1, d2, d3] => { results := [.lit (.bool true)], args := [d1, d2, d3] }
  | _ => none }
def fnExactDeriveRow : OpenClaim := { program := "ytnnnphammfeemaagreat", sum := "a23dd88c8c9e1c6d6bf8509e51cd6c062345eff515973f9253a9bb7b7b45483a", func := "loop.example/intersectiontypes/laws.FnExactDerive", spec := "fnExactDerive", inPlace := ["internal/abi.NoEscape", "maps.clone"], unfollowed := true, recurses := true, plainKeys := false, apart := false }
def FnExactDeriveSaid : Prop := fnExactDeriveRow.holds Tryz.pinned (OpenSpec.ofChange fnExactDeriveSpec)

/-- ITS FALSE NEIGHBOUR: 'it returns false'. Refute it at one input. -/
def fnExactDeriveWrong : ChangeSpec := { name := "fnExactDerive", fn := fun _ => fun
  | [d1, d2, d3] => { results := [.lit (.bool false)], args := [d1, d2, d3] }
  | _ => none }
def FnExactDeriveWrongFalsely : Prop := fnExactDeriveRow.holds Tryz.pinned (OpenSpec.ofChange fnExactDeriveWrong)

/-- 'laws.FnExactDeriveTight': WHATEVER THE INPUT: true; the input reads as it did. -/
def fnExactDeriveTightSpec : ChangeSpec := { name := "fnExactDeriveTight", fn := fun _ => fun
  | [d1, d2, d3] => { results := [.lit (.bool true)], args := [d1, d2, d3] }
  | _ => none }
def fnExactDeriveTightRow : OpenClaim := { program := "ytnnnphammfeemaagreat", sum := "a23dd88c8c9e1c6d6bf8509e51cd6c062345eff515973f9253a9bb7b7b45483a", func := "loop.example/intersectiontypes/laws.FnExactDeriveTight", spec := "fnExactDeriveTight", inPlace := ["internal/abi.NoEscape", "maps.clone"], unfollowed := true, recurses := true, plainKeys := false, apart := false }
def FnExactDeriveTightSaid : Prop := fnExactDeriveTightRow.holds Tryz.pinned (OpenSpec.ofChange fnExactDeriveTightSpec)

/-- ITS FALSE NEIGHBOUR: 'it returns false'. Refute it at one input. -/
def fnExactDeriveTightWrong : ChangeSpec := { name := "fnExactDeriveTight", fn := fun _ => fun
  | [d1, d2, d3] => { results := [.lit (.bool false)], args := [d1, d2, d3] }
  | _ => none }
def FnExactDeriveTightWrongFalsely : Prop := fnExactDeriveTightRow.holds Tryz.pinned (OpenSpec.ofChange fnExactDeriveTightWrong)

/-- 'laws.FnExactDeriveTypes': WHATEVER THE INPUT: true; the input reads as it did. -/
def fnExactDeriveTypesSpec : ChangeSpec := { name := "fnExactDeriveTypes", fn := fun _ => fun
  | [d1, d2] => { results := [.lit (.bool true)], args := [d1, d2] }
  | _ => none }
def fnExactDeriveTypesRow : OpenClaim := { program := "ytnnnphammfeemaagreat", sum := "a23dd88c8c9e1c6d6bf8509e51cd6c062345eff515973f9253a9bb7b7b45483a", func := "loop.example/intersectiontypes/laws.FnExactDeriveTypes", spec := "fnExactDeriveTypes", inPlace := ["internal/abi.NoEscape", "maps.clone"], unfollowed := true, recurses := true, plainKeys := false, apart := false }
def FnExactDeriveTypesSaid : Prop := fnExactDeriveTypesRow.holds Tryz.pinned (OpenSpec.ofChange fnExactDeriveTypesSpec)

/-- ITS FALSE NEIGHBOUR: 'it returns false'. Refute it at one input. -/
def fnExactDeriveTypesWrong : ChangeSpec := { name := "fnExactDeriveTypes", fn := fun _ => fun
  | [d1, d2] => { results := [.lit (.bool false)], args := [d1, d2] }
  | _ => none }
def FnExactDeriveTypesWrongFalsely : Prop := fnExactDeriveTypesRow.holds Tryz.pinned (OpenSpec.ofChange fnExactDeriveTypesWrong)

/-- 'laws.FnExactDerivePlain': WHATEVER THE INPUT: true; the input reads as it did. -/
def fnExactDerivePlainSpec : ChangeSpec := { name := "fnExactDerivePlain", fn := fun _ => fun
  | [d] => { results := [.lit (.bool true)], args := [d] }
  | _ => none }
def fnExactDerivePlainRow : OpenClaim := { program := "ytnnnphammfeemaagreat", sum := "a23dd88c8c9e1c6d6bf8509e51cd6c062345eff515973f9253a9bb7b7b45483a", func := "loop.example/intersectiontypes/laws.FnExactDerivePlain", spec := "fnExactDerivePlain", inPlace := ["internal/abi.NoEscape", "maps.clone"], unfollowed := true, recurses := true, plainKeys := false, apart := false }
def FnExactDerivePlainSaid : Prop := fnExactDerivePlainRow.holds Tryz.pinned (OpenSpec.ofChange fnExactDerivePlainSpec)

/-- ITS FALSE NEIGHBOUR: 'it returns false'. Refute it at one input. -/
def fnExactDerivePlainWrong : ChangeSpec := { name := "fnExactDerivePlain", fn := fun _ => fun
  | [d] => { results := [.lit (.bool false)], args := [d] }
  | _ => none }
def FnExactDerivePlainWrongFalsely : Prop := fnExactDerivePlainRow.holds Tryz.pinned (OpenSpec.ofChange fnExactDerivePlainWrong)

/-- 'laws.FnExactDeriveBag': WHATEVER THE INPUT: true; the input reads as it did. -/
def fnExactDeriveBagSpec : ChangeSpec := { name := "fnExactDeriveBag", fn := fun _ => fun
  | [d1, d2, d3, d4] => { results := [.lit (.bool true)], args := [d1, d2, d3, d4] }
  | _ => none }
def fnExactDeriveBagRow : OpenClaim := { program := "ytnnnphammfeemaagreat", sum := "a23dd88c8c9e1c6d6bf8509e51cd6c062345eff515973f9253a9bb7b7b45483a", func := "loop.example/intersectiontypes/laws.FnExactDeriveBag", spec := "fnExactDeriveBag", inPlace := ["internal/abi.NoEscape", "maps.clone"], unfollowed := true, recurses := true, plainKeys := false, apart := false }
def FnExactDeriveBagSaid : Prop := fnExactDeriveBagRow.holds Tryz.pinned (OpenSpec.ofChange fnExactDeriveBagSpec)

/-- ITS FALSE NEIGHBOUR: 'it returns false'. Refute it at one input. -/
def fnExactDeriveBagWrong : ChangeSpec := { name := "fnExactDeriveBag", fn := fun _ => fun
  | [d1, d2, d3, d4] => { results := [.lit (.bool false)], args := [d1, d2, d3, d4] }
  | _ => none }
def FnExactDeriveBagWrongFalsely : Prop := fnExactDeriveBagRow.holds Tryz.pinned (OpenSpec.ofChange fnExactDeriveBagWrong)

/-- 'laws.FnExactDeriveHere': WHATEVER THE INPUT: true; the input reads as it did. -/
def fnExactDeriveHereSpec : ChangeSpec := { name := "fnExactDeriveHere", fn := fun _ => fun
  | [d1, d2, d3, d4] => { results := [.lit (.bool true)], args := [d1, d2, d3, d4] }
  | _ => none }
def fnExactDeriveHereRow : OpenClaim := { program := "ytnnnphammfeemaagreat", sum := "a23dd88c8c9e1c6d6bf8509e51cd6c062345eff515973f9253a9bb7b7b45483a", func := "loop.example/intersectiontypes/laws.FnExactDeriveHere", spec := "fnExactDeriveHere", inPlace := ["internal/abi.NoEscape", "maps.clone"], unfollowed := true, recurses := true, plainKeys := false, apart := false }
def FnExactDeriveHereSaid : Prop := fnExactDeriveHereRow.holds Tryz.pinned (OpenSpec.ofChange fnExactDeriveHereSpec)

/-- ITS FALSE NEIGHBOUR: 'it returns false'. Refute it at one input. -/
def fnExactDeriveHereWrong : ChangeSpec := { name := "fnExactDeriveHere", fn := fun _ => fun
  | [d1, d2, d3, d4] => { results := [.lit (.bool false)], args := [d1, d2, d3, d4] }
  | _ => none }
def FnExactDeriveHereWrongFalsely : Prop := fnExactDeriveHereRow.holds Tryz.pinned (OpenSpec.ofChange fnExactDeriveHereWrong)

/-- 'laws.FnHere': WHATEVER THE INPUT: true; the input reads as it did. -/
def fnHereSpec : ChangeSpec := { name := "fnHere", fn := fun _ => fun
  | [d] => { results := [.lit (.bool true)], args := [d] }
  | _ => none }
def fnHereRow : OpenClaim := { program := "ytnnnphammfeemaagreat", sum := "a23dd88c8c9e1c6d6bf8509e51cd6c062345eff515973f9253a9bb7b7b45483a", func := "loop.example/intersectiontypes/laws.FnHere", spec := "fnHere", inPlace := ["internal/abi.NoEscape", "maps.clone"], unfollowed := true, recurses := true, plainKeys := false, apart := false }
def FnHereSaid : Prop := fnHereRow.holds Tryz.pinned (OpenSpec.ofChange fnHereSpec)

/-- ITS FALSE NEIGHBOUR: 'it returns false'. Refute it at one input. -/
def fnHereWrong : ChangeSpec := { name := "fnHere", fn := fun _ => fun
  | [d] => { results := [.lit (.bool false)], args := [d] }
  | _ => none }
def FnHereWrongFalsely : Prop := fnHereRow.holds Tryz.pinned (OpenSpec.ofChange fnHereWrong)

/- THE SECOND FORM. 'bulk': how many values and letters a reading holds, each counted each time it is reached (what is shared counts as often as it is met; a slice's spare places count too). A statement '..UptoSaid' is the law's where the arguments, and the package variables that the reading takes, are together of bulk at most 1048576: NARROWER than '..Said'. Prove '..Said' where nothing that the law and all that it calls make is longer than what came in: it says more and counts as full. Else prove '..UptoSaid'. A law counts once. -/
mutual
def uptoBulk {H : Type} : DataW H → Nat
  | .lit (.string bytes) => bytes.length + 1
  | .lit _ => 1
  | .nil => 1
  | .ptr d => uptoBulk d + 1
  | .slice elems spare => uptoBulkAll elems + uptoBulkAll spare + 1
  | .agg parts => uptoBulkAll parts + 1
  | .iface _ d => uptoBulk d + 1
  | .map entries => uptoBulkEntries entries + 1
  | .held _ => 1
def uptoBulkAll {H : Type} : List (DataW H) → Nat
  | [] => 0
  | d :: r => uptoBulk d + uptoBulkAll r
def uptoBulkEntries {H : Type} : List (Lit × DataW H) → Nat
  | [] => 0
  | x :: r => uptoBulkEntry x + uptoBulkEntries r
def uptoBulkEntry {H : Type} : Lit × DataW H → Nat
  | (.string bytes, d) => bytes.length + uptoBulk d + 1
  | (_, d) => uptoBulk d + 1
 end
def uptoSmall : (H : Type) → List (DataW H) → Bool := fun _ ds => decide (uptoBulkAll ds ≤ 1048576)
def OpenSpec.upto (s : _root_.Go.ChangeSpec) : _root_.Go.OpenSpec := { _root_.Go.OpenSpec.ofChange s with cond := some uptoSmall }

/-- 'laws.FnExactDerive', WHERE WHAT IT READS IS OF BULK AT MOST 1048576: true; the input reads as it did. -/
def fnExactDeriveUptoRow : OpenClaim := { program := "ytnnnphammfeemaagreat", sum := "a23dd88c8c9e1c6d6bf8509e51cd6c062345eff515973f9253a9bb7b7b45483a", func := "loop.example/intersectiontypes/laws.FnExactDerive", spec := "fnExactDerive", inPlace := ["internal/abi.NoEscape", "maps.clone"], unfollowed := true, recurses := true, plainKeys := false, apart := false, narrowed := true }
def FnExactDeriveUptoSaid : Prop := fnExactDeriveUptoRow.holds Tryz.pinned (OpenSpec.upto fnExactDeriveSpec)

/-- 'laws.FnExactDeriveTight', WHERE WHAT IT READS IS OF BULK AT MOST 1048576: true; the input reads as it did. -/
def fnExactDeriveTightUptoRow : OpenClaim := { program := "ytnnnphammfeemaagreat", sum := "a23dd88c8c9e1c6d6bf8509e51cd6c062345eff515973f9253a9bb7b7b45483a", func := "loop.example/intersectiontypes/laws.FnExactDeriveTight", spec := "fnExactDeriveTight", inPlace := ["internal/abi.NoEscape", "maps.clone"], unfollowed := true, recurses := true, plainKeys := false, apart := false, narrowed := true }
def FnExactDeriveTightUptoSaid : Prop := fnExactDeriveTightUptoRow.holds Tryz.pinned (OpenSpec.upto fnExactDeriveTightSpec)

/-- 'laws.FnExactDeriveTypes', WHERE WHAT IT READS IS OF BULK AT MOST 1048576: true; the input reads as it did. -/
def fnExactDeriveTypesUptoRow : OpenClaim := { program := "ytnnnphammfeemaagreat", sum := "a23dd88c8c9e1c6d6bf8509e51cd6c062345eff515973f9253a9bb7b7b45483a", func := "loop.example/intersectiontypes/laws.FnExactDeriveTypes", spec := "fnExactDeriveTypes", inPlace := ["internal/abi.NoEscape", "maps.clone"], unfollowed := true, recurses := true, plainKeys := false, apart := false, narrowed := true }
def FnExactDeriveTypesUptoSaid : Prop := fnExactDeriveTypesUptoRow.holds Tryz.pinned (OpenSpec.upto fnExactDeriveTypesSpec)

/-- 'laws.FnExactDerivePlain', WHERE WHAT IT READS IS OF BULK AT MOST 1048576: true; the input reads as it did. -/
def fnExactDerivePlainUptoRow : OpenClaim := { program := "ytnnnphammfeemaagreat", sum := "a23dd88c8c9e1c6d6bf8509e51cd6c062345eff515973f9253a9bb7b7b45483a", func := "loop.example/intersectiontypes/laws.FnExactDerivePlain", spec := "fnExactDerivePlain", inPlace := ["internal/abi.NoEscape", "maps.clone"], unfollowed := true, recurses := true, plainKeys := false, apart := false, narrowed := true }
def FnExactDerivePlainUptoSaid : Prop := fnExactDerivePlainUptoRow.holds Tryz.pinned (OpenSpec.upto fnExactDerivePlainSpec)

/-- 'laws.FnExactDeriveBag', WHERE WHAT IT READS IS OF BULK AT MOST 1048576: true; the input reads as it did. -/
def fnExactDeriveBagUptoRow : OpenClaim := { program := "ytnnnphammfeemaagreat", sum := "a23dd88c8c9e1c6d6bf8509e51cd6c062345eff515973f9253a9bb7b7b45483a", func := "loop.example/intersectiontypes/laws.FnExactDeriveBag", spec := "fnExactDeriveBag", inPlace := ["internal/abi.NoEscape", "maps.clone"], unfollowed := true, recurses := true, plainKeys := false, apart := false, narrowed := true }
def FnExactDeriveBagUptoSaid : Prop := fnExactDeriveBagUptoRow.holds Tryz.pinned (OpenSpec.upto fnExactDeriveBagSpec)

/-- 'laws.FnExactDeriveHere', WHERE WHAT IT READS IS OF BULK AT MOST 1048576: true; the input reads as it did. -/
def fnExactDeriveHereUptoRow : OpenClaim := { program := "ytnnnphammfeemaagreat", sum := "a23dd88c8c9e1c6d6bf8509e51cd6c062345eff515973f9253a9bb7b7b45483a", func := "loop.example/intersectiontypes/laws.FnExactDeriveHere", spec := "fnExactDeriveHere", inPlace := ["internal/abi.NoEscape", "maps.clone"], unfollowed := true, recurses := true, plainKeys := false, apart := false, narrowed := true }
def FnExactDeriveHereUptoSaid : Prop := fnExactDeriveHereUptoRow.holds Tryz.pinned (OpenSpec.upto fnExactDeriveHereSpec)

/-- 'laws.FnHere', WHERE WHAT IT READS IS OF BULK AT MOST 1048576: true; the input reads as it did. -/
def fnHereUptoRow : OpenClaim := { program := "ytnnnphammfeemaagreat", sum := "a23dd88c8c9e1c6d6bf8509e51cd6c062345eff515973f9253a9bb7b7b45483a", func := "loop.example/intersectiontypes/laws.FnHere", spec := "fnHere", inPlace := ["internal/abi.NoEscape", "maps.clone"], unfollowed := true, recurses := true, plainKeys := false, apart := false, narrowed := true }
def FnHereUptoSaid : Prop := fnHereUptoRow.holds Tryz.pinned (OpenSpec.upto fnHereSpec)

end Rows
end Go.Proofs.YtnnnphammfeemaaGreat
