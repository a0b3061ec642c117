/-
  DERIVED. GIVEN WITH THE SEED: THE CARDS: each row of YtkfecngkdlajgaaGreatDoorRows.lean that lists a variable, with what it lists TIED to the program's text (the seventh form; the later family's looks); each row that meets fmt, with fmt's text TOLD by the authors' own Lean function (tested against real Go, not proved from fmt's source: count such statements apart). THE CARD IS WHAT COUNTS. Prove the row's statement (the work); the ties are given (YtkfecngkdlajgaaGreatDoorTie.lean); close each card by the builder's one call (the guide's Derived/Test/ToyasCard.lean, 'card_holds'). Laid BY PROGRAM, IN A SANDBOX (cutbox-door.mjs). By AI agents, Wed Nov 11 2026. No macro, syntax, notation, axiom, sorry.
-/
import Derived.Test.YtkfecngkdlajgaaGreatDoorRows
import GoSem.ClaimSeven
namespace Go.Proofs.YtkfecngkdlajgaaGreatDoor
namespace Rows

/-- THE TIED CARD OF 'pumicelaw13.MasterPlays'. -/
def masterPlaysCard : Claim7 := { stood := { row := masterPlaysRow, standIns := [], harness := (true, "c118a8e72e488282be11db643c42a2dc70fb91a15996a35efcbad3551b97f296"), looks := true }, kinds := [], alts := [], laidByText := true, laidKinds := [.handle, .sentinel], laidTests := true, laidLooks := .later }
def MasterPlaysCardSaid : Prop := Claim7.holds Tryz.pinned (.plain (OpenSpec.ofChange masterPlaysSpec)) masterPlaysCard

/-- THE TIED CARD OF 'pumicelaw13.MasterOpens'. -/
def masterOpensCard : Claim7 := { stood := { row := masterOpensRow, standIns := [], harness := (true, "c118a8e72e488282be11db643c42a2dc70fb91a15996a35efcbad3551b97f296"), looks := true }, kinds := [], alts := [], laidByText := true, laidKinds := [.handle, .sentinel], laidTests := true, laidLooks := .later }
def MasterOpensCardSaid : Prop := Claim7.holds Tryz.pinned (.plain (OpenSpec.ofChange masterOpensSpec)) masterOpensCard

/-- THE TIED CARD OF 'pumicelaw13.MasterMany'. -/
def masterManyCard : Claim7 := { stood := { row := masterManyRow, standIns := [], harness := (true, "c118a8e72e488282be11db643c42a2dc70fb91a15996a35efcbad3551b97f296"), looks := true }, kinds := [], alts := [], laidByText := true, laidKinds := [.handle, .sentinel], laidTests := true, laidLooks := .later }
def MasterManyCardSaid : Prop := Claim7.holds Tryz.pinned (.plain (OpenSpec.ofChange masterManySpec)) masterManyCard

/-- THE SECOND FORM's CARD OF 'pumicelaw13.MasterPlays'. -/
def masterPlaysUptoCard : Claim7 := { stood := { row := masterPlaysUptoRow, standIns := [], harness := (true, "c118a8e72e488282be11db643c42a2dc70fb91a15996a35efcbad3551b97f296"), looks := true }, kinds := [], alts := [], laidByText := true, laidKinds := [.handle, .sentinel], laidTests := true, laidLooks := .later }
def MasterPlaysUptoCardSaid : Prop := Claim7.holds Tryz.pinned (.plain (OpenSpec.upto masterPlaysSpec)) masterPlaysUptoCard

/-- THE SECOND FORM's CARD OF 'pumicelaw13.MasterOpens'. -/
def masterOpensUptoCard : Claim7 := { stood := { row := masterOpensUptoRow, standIns := [], harness := (true, "c118a8e72e488282be11db643c42a2dc70fb91a15996a35efcbad3551b97f296"), looks := true }, kinds := [], alts := [], laidByText := true, laidKinds := [.handle, .sentinel], laidTests := true, laidLooks := .later }
def MasterOpensUptoCardSaid : Prop := Claim7.holds Tryz.pinned (.plain (OpenSpec.upto masterOpensSpec)) masterOpensUptoCard

/-- THE SECOND FORM's CARD OF 'pumicelaw13.MasterMany'. -/
def masterManyUptoCard : Claim7 := { stood := { row := masterManyUptoRow, standIns := [], harness := (true, "c118a8e72e488282be11db643c42a2dc70fb91a15996a35efcbad3551b97f296"), looks := true }, kinds := [], alts := [], laidByText := true, laidKinds := [.handle, .sentinel], laidTests := true, laidLooks := .later }
def MasterManyUptoCardSaid : Prop := Claim7.holds Tryz.pinned (.plain (OpenSpec.upto masterManySpec)) masterManyUptoCard
end Rows
end Go.Proofs.YtkfecngkdlajgaaGreatDoor
