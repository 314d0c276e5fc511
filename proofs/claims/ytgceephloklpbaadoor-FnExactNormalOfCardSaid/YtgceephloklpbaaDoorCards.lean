/-
  DERIVED. GIVEN WITH THE SEED: THE CARDS: each row of YtgceephloklpbaaDoorRows.lean that lists a variable, with what it lists TIED to the program's text (the seventh form; the later family's looks); each row that meets fmt, with fmt's text TOLD by the authors' own Lean function (tested against real Go, not proved from fmt's source: count such statements apart). THE CARD IS WHAT COUNTS. Prove the row's statement (the work); the ties are given (YtgceephloklpbaaDoorTie.lean); close each card by the builder's one call (the guide's Derived/Test/ToyasCard.lean, 'card_holds'). Laid BY PROGRAM, IN A SANDBOX (cutbox-door.mjs). By AI agents, Wed Nov 11 2026. No macro, syntax, notation, axiom, sorry.
-/
import Derived.Test.YtgceephloklpbaaDoorRows
import GoSem.ClaimSeven
namespace Go.Proofs.YtgceephloklpbaaDoor
namespace Rows

/-- THE TIED CARD OF 'laws.FnExactStepOf'. -/
def fnExactStepOfCard : Claim7 := { stood := { row := fnExactStepOfRow, standIns := [], harness := (true, "bb6d9aa7d298c55ff2cc9f698f4f6d4f4eb0490d8ea2375de110dc6ef10503bc"), looks := false }, kinds := [], alts := [], laidByText := true, laidKinds := [.data, .data, .data], laidTests := true, laidLooks := .later }
def FnExactStepOfCardSaid : Prop := Claim7.holds Tryd.pinned (.plain (OpenSpec.ofChange fnExactStepOfSpec)) fnExactStepOfCard

/-- THE TIED CARD OF 'laws.FnExactStepMany'. -/
def fnExactStepManyCard : Claim7 := { stood := { row := fnExactStepManyRow, standIns := [], harness := (true, "bb6d9aa7d298c55ff2cc9f698f4f6d4f4eb0490d8ea2375de110dc6ef10503bc"), looks := false }, kinds := [], alts := [], laidByText := true, laidKinds := [.data, .data, .data], laidTests := true, laidLooks := .later }
def FnExactStepManyCardSaid : Prop := Claim7.holds Tryd.pinned (.plain (OpenSpec.ofChange fnExactStepManySpec)) fnExactStepManyCard

/-- THE TIED CARD OF 'laws.FnExactNormalOf'. -/
def fnExactNormalOfCard : Claim7 := { stood := { row := fnExactNormalOfRow, standIns := [], harness := (true, "bb6d9aa7d298c55ff2cc9f698f4f6d4f4eb0490d8ea2375de110dc6ef10503bc"), looks := false }, kinds := [], alts := [], laidByText := true, laidKinds := [.data, .data, .data], laidTests := true, laidLooks := .later }
def FnExactNormalOfCardSaid : Prop := Claim7.holds Tryd.pinned (.plain (OpenSpec.ofChange fnExactNormalOfSpec)) fnExactNormalOfCard

/-- THE SECOND FORM's CARD OF 'laws.FnExactStepOf'. -/
def fnExactStepOfUptoCard : Claim7 := { stood := { row := fnExactStepOfUptoRow, standIns := [], harness := (true, "bb6d9aa7d298c55ff2cc9f698f4f6d4f4eb0490d8ea2375de110dc6ef10503bc"), looks := false }, kinds := [], alts := [], laidByText := true, laidKinds := [.data, .data, .data], laidTests := true, laidLooks := .later }
def FnExactStepOfUptoCardSaid : Prop := Claim7.holds Tryd.pinned (.plain (OpenSpec.upto fnExactStepOfSpec)) fnExactStepOfUptoCard

/-- THE SECOND FORM's CARD OF 'laws.FnExactStepMany'. -/
def fnExactStepManyUptoCard : Claim7 := { stood := { row := fnExactStepManyUptoRow, standIns := [], harness := (true, "bb6d9aa7d298c55ff2cc9f698f4f6d4f4eb0490d8ea2375de110dc6ef10503bc"), looks := false }, kinds := [], alts := [], laidByText := true, laidKinds := [.data, .data, .data], laidTests := true, laidLooks := .later }
def FnExactStepManyUptoCardSaid : Prop := Claim7.holds Tryd.pinned (.plain (OpenSpec.upto fnExactStepManySpec)) fnExactStepManyUptoCard

/-- THE SECOND FORM's CARD OF 'laws.FnExactNormalOf'. -/
def fnExactNormalOfUptoCard : Claim7 := { stood := { row := fnExactNormalOfUptoRow, standIns := [], harness := (true, "bb6d9aa7d298c55ff2cc9f698f4f6d4f4eb0490d8ea2375de110dc6ef10503bc"), looks := false }, kinds := [], alts := [], laidByText := true, laidKinds := [.data, .data, .data], laidTests := true, laidLooks := .later }
def FnExactNormalOfUptoCardSaid : Prop := Claim7.holds Tryd.pinned (.plain (OpenSpec.upto fnExactNormalOfSpec)) fnExactNormalOfUptoCard
end Rows
end Go.Proofs.YtgceephloklpbaaDoor
