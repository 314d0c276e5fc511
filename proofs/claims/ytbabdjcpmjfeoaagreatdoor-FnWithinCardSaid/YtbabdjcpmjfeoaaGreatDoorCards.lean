/-
  DERIVED. GIVEN WITH THE SEED: THE CARDS: each row of YtbabdjcpmjfeoaaGreatDoorRows.lean that lists a variable, with what it lists TIED to the program's text (the seventh form; the later family's looks); each row that meets fmt, with fmt's text TOLD by the authors' own Lean function (tested against real Go, not proved from fmt's source: count such statements apart). THE CARD IS WHAT COUNTS. Prove the row's statement (the work); the ties are given (YtbabdjcpmjfeoaaGreatDoorTie.lean); close each card by the builder's one call (the guide's Derived/Test/ToyasCard.lean, 'card_holds'). Laid BY PROGRAM, IN A SANDBOX (cutbox-door.mjs). By AI agents, Wed Nov 11 2026. No macro, syntax, notation, axiom, sorry.
-/
import Derived.Test.YtbabdjcpmjfeoaaGreatDoorRows
import GoSem.ClaimSeven
namespace Go.Proofs.YtbabdjcpmjfeoaaGreatDoor
namespace Rows

/-- THE TIED CARD OF 'laws.FnExactTermEqual'. -/
def fnExactTermEqualCard : Claim7 := { stood := { row := fnExactTermEqualRow, standIns := [], harness := (true, "bf9e002a1fcfc54e2926643f7d89da35befc03204c35e102989b0082170e89ec"), looks := false }, kinds := [], alts := [], laidByText := true, laidKinds := [.data, .data, .data], laidTests := true, laidLooks := .later }
def FnExactTermEqualCardSaid : Prop := Claim7.holds Tryz.pinned (.plain (OpenSpec.ofChange fnExactTermEqualSpec)) fnExactTermEqualCard

/-- THE TIED CARD OF 'laws.FnWithin'. -/
def fnWithinCard : Claim7 := { stood := { row := fnWithinRow, standIns := [], harness := (true, "bf9e002a1fcfc54e2926643f7d89da35befc03204c35e102989b0082170e89ec"), looks := false }, kinds := [], alts := [], laidByText := true, laidKinds := [.data, .data, .data], laidTests := true, laidLooks := .later }
def FnWithinCardSaid : Prop := Claim7.holds Tryz.pinned (.plain (OpenSpec.ofChange fnWithinSpec)) fnWithinCard

/-- THE SECOND FORM's CARD OF 'laws.FnExactTermEqual'. -/
def fnExactTermEqualUptoCard : Claim7 := { stood := { row := fnExactTermEqualUptoRow, standIns := [], harness := (true, "bf9e002a1fcfc54e2926643f7d89da35befc03204c35e102989b0082170e89ec"), looks := false }, kinds := [], alts := [], laidByText := true, laidKinds := [.data, .data, .data], laidTests := true, laidLooks := .later }
def FnExactTermEqualUptoCardSaid : Prop := Claim7.holds Tryz.pinned (.plain (OpenSpec.upto fnExactTermEqualSpec)) fnExactTermEqualUptoCard

/-- THE SECOND FORM's CARD OF 'laws.FnWithin'. -/
def fnWithinUptoCard : Claim7 := { stood := { row := fnWithinUptoRow, standIns := [], harness := (true, "bf9e002a1fcfc54e2926643f7d89da35befc03204c35e102989b0082170e89ec"), looks := false }, kinds := [], alts := [], laidByText := true, laidKinds := [.data, .data, .data], laidTests := true, laidLooks := .later }
def FnWithinUptoCardSaid : Prop := Claim7.holds Tryz.pinned (.plain (OpenSpec.upto fnWithinSpec)) fnWithinUptoCard
end Rows
end Go.Proofs.YtbabdjcpmjfeoaaGreatDoor
