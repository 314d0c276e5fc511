/-
  DERIVED. GIVEN WITH THE SEED: THE CARDS: each row of YtjcdclnaplojcaaGreatDoorRows.lean that lists a variable, with what it lists TIED to the program's text (the seventh form; the later family's looks); each row that meets fmt, with fmt's text TOLD by the authors' own Lean function (tested against real Go, not proved from fmt's source: count such statements apart). THE CARD IS WHAT COUNTS. Prove the row's statement (the work); the ties are given (YtjcdclnaplojcaaGreatDoorTie.lean); close each card by the builder's one call (the guide's Derived/Test/ToyasCard.lean, 'card_holds'). Laid BY PROGRAM, IN A SANDBOX (cutbox-door.mjs). By AI agents, Wed Nov 11 2026. No macro, syntax, notation, axiom, sorry.
-/
import Derived.Test.YtjcdclnaplojcaaGreatDoorRows
import GoSem.ClaimSeven
namespace Go.Proofs.YtjcdclnaplojcaaGreatDoor
namespace Rows

/-- THE TIED CARD OF 'laws.FnMachineNormal'. -/
def fnMachineNormalCard : Claim7 := { stood := { row := fnMachineNormalRow, standIns := [], harness := (true, "d13fac0d70d1ef696dec8d7d010b12758cab420e9712a0b759dacc6f92e66f14"), looks := false }, kinds := [], alts := [], laidByText := true, laidKinds := [.data, .data, .data], laidTests := true, laidLooks := .later }
def FnMachineNormalCardSaid : Prop := Claim7.holds Tryz.pinned (.plain (OpenSpec.ofChange fnMachineNormalSpec)) fnMachineNormalCard

/-- THE TIED CARD OF 'laws.FnAgrees'. -/
def fnAgreesCard : Claim7 := { stood := { row := fnAgreesRow, standIns := [], harness := (true, "d13fac0d70d1ef696dec8d7d010b12758cab420e9712a0b759dacc6f92e66f14"), looks := false }, kinds := [], alts := [], laidByText := true, laidKinds := [.data, .data, .data], laidTests := true, laidLooks := .later }
def FnAgreesCardSaid : Prop := Claim7.holds Tryz.pinned (.plain (OpenSpec.ofChange fnAgreesSpec)) fnAgreesCard

/-- THE TIED CARD OF 'laws.FnMachineStep'. -/
def fnMachineStepCard : Claim7 := { stood := { row := fnMachineStepRow, standIns := [], harness := (true, "d13fac0d70d1ef696dec8d7d010b12758cab420e9712a0b759dacc6f92e66f14"), looks := false }, kinds := [], alts := [], laidByText := true, laidKinds := [.data, .data, .data], laidTests := true, laidLooks := .later }
def FnMachineStepCardSaid : Prop := Claim7.holds Tryz.pinned (.plain (OpenSpec.ofChange fnMachineStepSpec)) fnMachineStepCard

/-- THE TIED CARD OF 'laws.FnExactMachineAgrees'. -/
def fnExactMachineAgreesCard : Claim7 := { stood := { row := fnExactMachineAgreesRow, standIns := [], harness := (true, "d13fac0d70d1ef696dec8d7d010b12758cab420e9712a0b759dacc6f92e66f14"), looks := false }, kinds := [], alts := [], laidByText := true, laidKinds := [.data, .data, .data], laidTests := true, laidLooks := .later }
def FnExactMachineAgreesCardSaid : Prop := Claim7.holds Tryz.pinned (.plain (OpenSpec.ofChange fnExactMachineAgreesSpec)) fnExactMachineAgreesCard

/-- THE SECOND FORM's CARD OF 'laws.FnMachineNormal'. -/
def fnMachineNormalUptoCard : Claim7 := { stood := { row := fnMachineNormalUptoRow, standIns := [], harness := (true, "d13fac0d70d1ef696dec8d7d010b12758cab420e9712a0b759dacc6f92e66f14"), looks := false }, kinds := [], alts := [], laidByText := true, laidKinds := [.data, .data, .data], laidTests := true, laidLooks := .later }
def FnMachineNormalUptoCardSaid : Prop := Claim7.holds Tryz.pinned (.plain (OpenSpec.upto fnMachineNormalSpec)) fnMachineNormalUptoCard

/-- THE SECOND FORM's CARD OF 'laws.FnAgrees'. -/
def fnAgreesUptoCard : Claim7 := { stood := { row := fnAgreesUptoRow, standIns := [], harness := (true, "d13fac0d70d1ef696dec8d7d010b12758cab420e9712a0b759dacc6f92e66f14"), looks := false }, kinds := [], alts := [], laidByText := true, laidKinds := [.data, .data, .data], laidTests := true, laidLooks := .later }
def FnAgreesUptoCardSaid : Prop := Claim7.holds Tryz.pinned (.plain (OpenSpec.upto fnAgreesSpec)) fnAgreesUptoCard

/-- THE SECOND FORM's CARD OF 'laws.FnMachineStep'. -/
def fnMachineStepUptoCard : Claim7 := { stood := { row := fnMachineStepUptoRow, standIns := [], harness := (true, "d13fac0d70d1ef696dec8d7d010b12758cab420e9712a0b759dacc6f92e66f14"), looks := false }, kinds := [], alts := [], laidByText := true, laidKinds := [.data, .data, .data], laidTests := true, laidLooks := .later }
def FnMachineStepUptoCardSaid : Prop := Claim7.holds Tryz.pinned (.plain (OpenSpec.upto fnMachineStepSpec)) fnMachineStepUptoCard

/-- THE SECOND FORM's CARD OF 'laws.FnExactMachineAgrees'. -/
def fnExactMachineAgreesUptoCard : Claim7 := { stood := { row := fnExactMachineAgreesUptoRow, standIns := [], harness := (true, "d13fac0d70d1ef696dec8d7d010b12758cab420e9712a0b759dacc6f92e66f14"), looks := false }, kinds := [], alts := [], laidByText := true, laidKinds := [.data, .data, .data], laidTests := true, laidLooks := .later }
def FnExactMachineAgreesUptoCardSaid : Prop := Claim7.holds Tryz.pinned (.plain (OpenSpec.upto fnExactMachineAgreesSpec)) fnExactMachineAgreesUptoCard
end Rows
end Go.Proofs.YtjcdclnaplojcaaGreatDoor
