/-
  DERIVED. GIVEN WITH THE SEED: THE CARDS: each row of YtbabdjcpmjfeoaaDoorRows.lean that lists a variable, with what it lists TIED to the program's text (the seventh form; the later family's looks); each row that meets fmt, with fmt's text TOLD by the authors' own Lean function (tested against real Go, not proved from fmt's source: count such statements apart). THE CARD IS WHAT COUNTS. Prove the row's statement (the work); the ties are given (YtbabdjcpmjfeoaaDoorTie.lean); close each card by the builder's one call (the guide's Derived/Test/ToyasCard.lean, 'card_holds'). Laid BY PROGRAM, IN A SANDBOX (cutbox-door.mjs). By AI agents, Wed Nov 11 2026. No macro, syntax, notation, axiom, sorry.
-/
import Derived.Test.YtbabdjcpmjfeoaaDoorRows
import GoSem.ClaimSeven
namespace Go.Proofs.YtbabdjcpmjfeoaaDoor
namespace Rows

/-- THE TIED CARD OF 'laws.FnExactTermCanon'. -/
def fnExactTermCanonCard : Claim7 := { stood := { row := fnExactTermCanonRow, standIns := [], harness := (true, "5a49214ce8cac720f887746e57d951ad9df7a412b357cc1900ec2f65ec528a75"), looks := false }, kinds := [], alts := [], laidByText := true, laidKinds := [.data, .data, .data], laidTests := true, laidLooks := .later }
def FnExactTermCanonCardSaid : Prop := Claim7.holds Tryd.pinned (.plain (OpenSpec.ofChange fnExactTermCanonSpec)) fnExactTermCanonCard

/-- THE TIED CARD OF 'laws.FnExactTermAlike'. -/
def fnExactTermAlikeCard : Claim7 := { stood := { row := fnExactTermAlikeRow, standIns := [], harness := (true, "5a49214ce8cac720f887746e57d951ad9df7a412b357cc1900ec2f65ec528a75"), looks := false }, kinds := [], alts := [], laidByText := true, laidKinds := [.data, .data, .data], laidTests := true, laidLooks := .later }
def FnExactTermAlikeCardSaid : Prop := Claim7.holds Tryd.pinned (.plain (OpenSpec.ofChange fnExactTermAlikeSpec)) fnExactTermAlikeCard

/-- THE TIED CARD OF 'laws.FnExactTermPut'. -/
def fnExactTermPutCard : Claim7 := { stood := { row := fnExactTermPutRow, standIns := [], harness := (true, "5a49214ce8cac720f887746e57d951ad9df7a412b357cc1900ec2f65ec528a75"), looks := false }, kinds := [], alts := [], laidByText := true, laidKinds := [.data, .data, .data], laidTests := true, laidLooks := .later }
def FnExactTermPutCardSaid : Prop := Claim7.holds Tryd.pinned (.plain (OpenSpec.ofChange fnExactTermPutSpec)) fnExactTermPutCard

/-- THE TIED CARD OF 'laws.FnExactStepOf'. -/
def fnExactStepOfCard : Claim7 := { stood := { row := fnExactStepOfRow, standIns := [], harness := (true, "5a49214ce8cac720f887746e57d951ad9df7a412b357cc1900ec2f65ec528a75"), looks := false }, kinds := [], alts := [], laidByText := true, laidKinds := [.data, .data, .data], laidTests := true, laidLooks := .later }
def FnExactStepOfCardSaid : Prop := Claim7.holds Tryd.pinned (.plain (OpenSpec.ofChange fnExactStepOfSpec)) fnExactStepOfCard

/-- THE TIED CARD OF 'laws.FnExactStepMany'. -/
def fnExactStepManyCard : Claim7 := { stood := { row := fnExactStepManyRow, standIns := [], harness := (true, "5a49214ce8cac720f887746e57d951ad9df7a412b357cc1900ec2f65ec528a75"), looks := false }, kinds := [], alts := [], laidByText := true, laidKinds := [.data, .data, .data], laidTests := true, laidLooks := .later }
def FnExactStepManyCardSaid : Prop := Claim7.holds Tryd.pinned (.plain (OpenSpec.ofChange fnExactStepManySpec)) fnExactStepManyCard

/-- THE TIED CARD OF 'laws.FnExactNormalOf'. -/
def fnExactNormalOfCard : Claim7 := { stood := { row := fnExactNormalOfRow, standIns := [], harness := (true, "5a49214ce8cac720f887746e57d951ad9df7a412b357cc1900ec2f65ec528a75"), looks := false }, kinds := [], alts := [], laidByText := true, laidKinds := [.data, .data, .data], laidTests := true, laidLooks := .later }
def FnExactNormalOfCardSaid : Prop := Claim7.holds Tryd.pinned (.plain (OpenSpec.ofChange fnExactNormalOfSpec)) fnExactNormalOfCard

/-- THE SECOND FORM's CARD OF 'laws.FnExactTermCanon'. -/
def fnExactTermCanonUptoCard : Claim7 := { stood := { row := fnExactTermCanonUptoRow, standIns := [], harness := (true, "5a49214ce8cac720f887746e57d951ad9df7a412b357cc1900ec2f65ec528a75"), looks := false }, kinds := [], alts := [], laidByText := true, laidKinds := [.data, .data, .data], laidTests := true, laidLooks := .later }
def FnExactTermCanonUptoCardSaid : Prop := Claim7.holds Tryd.pinned (.plain (OpenSpec.upto fnExactTermCanonSpec)) fnExactTermCanonUptoCard

/-- THE SECOND FORM's CARD OF 'laws.FnExactTermAlike'. -/
def fnExactTermAlikeUptoCard : Claim7 := { stood := { row := fnExactTermAlikeUptoRow, standIns := [], harness := (true, "5a49214ce8cac720f887746e57d951ad9df7a412b357cc1900ec2f65ec528a75"), looks := false }, kinds := [], alts := [], laidByText := true, laidKinds := [.data, .data, .data], laidTests := true, laidLooks := .later }
def FnExactTermAlikeUptoCardSaid : Prop := Claim7.holds Tryd.pinned (.plain (OpenSpec.upto fnExactTermAlikeSpec)) fnExactTermAlikeUptoCard

/-- THE SECOND FORM's CARD OF 'laws.FnExactTermPut'. -/
def fnExactTermPutUptoCard : Claim7 := { stood := { row := fnExactTermPutUptoRow, standIns := [], harness := (true, "5a49214ce8cac720f887746e57d951ad9df7a412b357cc1900ec2f65ec528a75"), looks := false }, kinds := [], alts := [], laidByText := true, laidKinds := [.data, .data, .data], laidTests := true, laidLooks := .later }
def FnExactTermPutUptoCardSaid : Prop := Claim7.holds Tryd.pinned (.plain (OpenSpec.upto fnExactTermPutSpec)) fnExactTermPutUptoCard

/-- THE SECOND FORM's CARD OF 'laws.FnExactStepOf'. -/
def fnExactStepOfUptoCard : Claim7 := { stood := { row := fnExactStepOfUptoRow, standIns := [], harness := (true, "5a49214ce8cac720f887746e57d951ad9df7a412b357cc1900ec2f65ec528a75"), looks := false }, kinds := [], alts := [], laidByText := true, laidKinds := [.data, .data, .data], laidTests := true, laidLooks := .later }
def FnExactStepOfUptoCardSaid : Prop := Claim7.holds Tryd.pinned (.plain (OpenSpec.upto fnExactStepOfSpec)) fnExactStepOfUptoCard

/-- THE SECOND FORM's CARD OF 'laws.FnExactStepMany'. -/
def fnExactStepManyUptoCard : Claim7 := { stood := { row := fnExactStepManyUptoRow, standIns := [], harness := (true, "5a49214ce8cac720f887746e57d951ad9df7a412b357cc1900ec2f65ec528a75"), looks := false }, kinds := [], alts := [], laidByText := true, laidKinds := [.data, .data, .data], laidTests := true, laidLooks := .later }
def FnExactStepManyUptoCardSaid : Prop := Claim7.holds Tryd.pinned (.plain (OpenSpec.upto fnExactStepManySpec)) fnExactStepManyUptoCard

/-- THE SECOND FORM's CARD OF 'laws.FnExactNormalOf'. -/
def fnExactNormalOfUptoCard : Claim7 := { stood := { row := fnExactNormalOfUptoRow, standIns := [], harness := (true, "5a49214ce8cac720f887746e57d951ad9df7a412b357cc1900ec2f65ec528a75"), looks := false }, kinds := [], alts := [], laidByText := true, laidKinds := [.data, .data, .data], laidTests := true, laidLooks := .later }
def FnExactNormalOfUptoCardSaid : Prop := Claim7.holds Tryd.pinned (.plain (OpenSpec.upto fnExactNormalOfSpec)) fnExactNormalOfUptoCard
end Rows
end Go.Proofs.YtbabdjcpmjfeoaaDoor
