/-
  DERIVED. GIVEN WITH THE SEED: THE CARDS: each row of YtgceephloklpbacDoorRows.lean that lists a variable, with what it lists TIED to the program's text (the seventh form; the later family's looks); each row that meets fmt, with fmt's text TOLD by the authors' own Lean function (tested against real Go, not proved from fmt's source: count such statements apart). THE CARD IS WHAT COUNTS. Prove the row's statement (the work); the ties are given (YtgceephloklpbacDoorTie.lean); close each card by the builder's one call (the guide's Derived/Test/ToyasCard.lean, 'card_holds'). Laid BY PROGRAM, IN A SANDBOX (cutbox-door.mjs). By AI agents, Wed Nov 11 2026. No macro, syntax, notation, axiom, sorry.
-/
import Derived.Test.YtgceephloklpbacDoorRows
import GoSem.ClaimSeven
namespace Go.Proofs.YtgceephloklpbacDoor
namespace Rows

/-- THE TIED CARD OF 'laws.FnExactTermCanon'. -/
def fnExactTermCanonCard : Claim7 := { stood := { row := fnExactTermCanonRow, standIns := [], harness := (true, "50da0db1ff6244e0f5a69a31d742e75fdbc5e907ef6d7b563568a3cfc63d557b"), looks := false }, kinds := [], alts := [], laidByText := true, laidKinds := [.data, .data, .data], laidTests := true, laidLooks := .later }
def FnExactTermCanonCardSaid : Prop := Claim7.holds Tryd.pinned (.plain (OpenSpec.ofChange fnExactTermCanonSpec)) fnExactTermCanonCard

/-- THE TIED CARD OF 'laws.FnExactTermAlike'. -/
def fnExactTermAlikeCard : Claim7 := { stood := { row := fnExactTermAlikeRow, standIns := [], harness := (true, "50da0db1ff6244e0f5a69a31d742e75fdbc5e907ef6d7b563568a3cfc63d557b"), looks := false }, kinds := [], alts := [], laidByText := true, laidKinds := [.data, .data, .data], laidTests := true, laidLooks := .later }
def FnExactTermAlikeCardSaid : Prop := Claim7.holds Tryd.pinned (.plain (OpenSpec.ofChange fnExactTermAlikeSpec)) fnExactTermAlikeCard

/-- THE TIED CARD OF 'laws.FnExactTermPut'. -/
def fnExactTermPutCard : Claim7 := { stood := { row := fnExactTermPutRow, standIns := [], harness := (true, "50da0db1ff6244e0f5a69a31d742e75fdbc5e907ef6d7b563568a3cfc63d557b"), looks := false }, kinds := [], alts := [], laidByText := true, laidKinds := [.data, .data, .data], laidTests := true, laidLooks := .later }
def FnExactTermPutCardSaid : Prop := Claim7.holds Tryd.pinned (.plain (OpenSpec.ofChange fnExactTermPutSpec)) fnExactTermPutCard

/-- THE SECOND FORM's CARD OF 'laws.FnExactTermCanon'. -/
def fnExactTermCanonUptoCard : Claim7 := { stood := { row := fnExactTermCanonUptoRow, standIns := [], harness := (true, "50da0db1ff6244e0f5a69a31d742e75fdbc5e907ef6d7b563568a3cfc63d557b"), looks := false }, kinds := [], alts := [], laidByText := true, laidKinds := [.data, .data, .data], laidTests := true, laidLooks := .later }
def FnExactTermCanonUptoCardSaid : Prop := Claim7.holds Tryd.pinned (.plain (OpenSpec.upto fnExactTermCanonSpec)) fnExactTermCanonUptoCard

/-- THE SECOND FORM's CARD OF 'laws.FnExactTermAlike'. -/
def fnExactTermAlikeUptoCard : Claim7 := { stood := { row := fnExactTermAlikeUptoRow, standIns := [], harness := (true, "50da0db1ff6244e0f5a69a31d742e75fdbc5e907ef6d7b563568a3cfc63d557b"), looks := false }, kinds := [], alts := [], laidByText := true, laidKinds := [.data, .data, .data], laidTests := true, laidLooks := .later }
def FnExactTermAlikeUptoCardSaid : Prop := Claim7.holds Tryd.pinned (.plain (OpenSpec.upto fnExactTermAlikeSpec)) fnExactTermAlikeUptoCard

/-- THE SECOND FORM's CARD OF 'laws.FnExactTermPut'. -/
def fnExactTermPutUptoCard : Claim7 := { stood := { row := fnExactTermPutUptoRow, standIns := [], harness := (true, "50da0db1ff6244e0f5a69a31d742e75fdbc5e907ef6d7b563568a3cfc63d557b"), looks := false }, kinds := [], alts := [], laidByText := true, laidKinds := [.data, .data, .data], laidTests := true, laidLooks := .later }
def FnExactTermPutUptoCardSaid : Prop := Claim7.holds Tryd.pinned (.plain (OpenSpec.upto fnExactTermPutSpec)) fnExactTermPutUptoCard
end Rows
end Go.Proofs.YtgceephloklpbacDoor
