/-
  DERIVED. GIVEN WITH THE SEED: THE CARDS: each row of YteodcjbbkekidaaGreatDoorRows.lean that lists a variable, with what it lists TIED to the program's text (the seventh form; the later family's looks); each row that meets fmt, with fmt's text TOLD by the authors' own Lean function (tested against real Go, not proved from fmt's source: count such statements apart). THE CARD IS WHAT COUNTS. Prove the row's statement (the work); the ties are given (YteodcjbbkekidaaGreatDoorTie.lean); close each card by the builder's one call (the guide's Derived/Test/ToyasCard.lean, 'card_holds'). Laid BY PROGRAM, IN A SANDBOX (cutbox-door.mjs). By AI agents, Wed Nov 11 2026. No macro, syntax, notation, axiom, sorry.
-/
import Derived.Test.YteodcjbbkekidaaGreatDoorRows
import GoSem.ClaimSeven
namespace Go.Proofs.YteodcjbbkekidaaGreatDoor
namespace Rows

/-- THE TIED CARD OF 'pumicelaw11.WbufPlays'. -/
def wbufPlaysCard : Claim7 := { stood := { row := wbufPlaysRow, standIns := [], harness := (true, "348235cb2fab59c92250b443c3f69e8f5e22a9437b5eca4134e9d4674afce718"), looks := true }, kinds := [], alts := [], laidByText := true, laidKinds := [.handle, .sentinel], laidTests := true, laidLooks := .later }
def WbufPlaysCardSaid : Prop := Claim7.holds Tryz.pinned (.plain (OpenSpec.ofChange wbufPlaysSpec)) wbufPlaysCard

/-- THE TIED CARD OF 'pumicelaw11.WbufOpens'. -/
def wbufOpensCard : Claim7 := { stood := { row := wbufOpensRow, standIns := [], harness := (true, "348235cb2fab59c92250b443c3f69e8f5e22a9437b5eca4134e9d4674afce718"), looks := true }, kinds := [], alts := [], laidByText := true, laidKinds := [.handle, .sentinel], laidTests := true, laidLooks := .later }
def WbufOpensCardSaid : Prop := Claim7.holds Tryz.pinned (.plain (OpenSpec.ofChange wbufOpensSpec)) wbufOpensCard

/-- THE TIED CARD OF 'pumicelaw11.WbufOthers'. -/
def wbufOthersCard : Claim7 := { stood := { row := wbufOthersRow, standIns := [], harness := (true, "348235cb2fab59c92250b443c3f69e8f5e22a9437b5eca4134e9d4674afce718"), looks := true }, kinds := [], alts := [], laidByText := true, laidKinds := [.handle, .sentinel], laidTests := true, laidLooks := .later }
def WbufOthersCardSaid : Prop := Claim7.holds Tryz.pinned (.plain (OpenSpec.ofChange wbufOthersSpec)) wbufOthersCard

/-- THE TIED CARD OF 'pumicelaw11.WbufFits'. -/
def wbufFitsCard : Claim7 := { stood := { row := wbufFitsRow, standIns := [], harness := (true, "348235cb2fab59c92250b443c3f69e8f5e22a9437b5eca4134e9d4674afce718"), looks := true }, kinds := [], alts := [], laidByText := true, laidKinds := [.handle, .sentinel], laidTests := true, laidLooks := .later }
def WbufFitsCardSaid : Prop := Claim7.holds Tryz.pinned (.plain (OpenSpec.ofChange wbufFitsSpec)) wbufFitsCard

/-- THE TIED CARD OF 'pumicelaw11.WbufRoom'. -/
def wbufRoomCard : Claim7 := { stood := { row := wbufRoomRow, standIns := [], harness := (true, "348235cb2fab59c92250b443c3f69e8f5e22a9437b5eca4134e9d4674afce718"), looks := true }, kinds := [], alts := [], laidByText := true, laidKinds := [.handle, .sentinel], laidTests := true, laidLooks := .later }
def WbufRoomCardSaid : Prop := Claim7.holds Tryz.pinned (.plain (OpenSpec.ofChange wbufRoomSpec)) wbufRoomCard

/-- THE SECOND FORM's CARD OF 'pumicelaw11.WbufPlays'. -/
def wbufPlaysUptoCard : Claim7 := { stood := { row := wbufPlaysUptoRow, standIns := [], harness := (true, "348235cb2fab59c92250b443c3f69e8f5e22a9437b5eca4134e9d4674afce718"), looks := true }, kinds := [], alts := [], laidByText := true, laidKinds := [.handle, .sentinel], laidTests := true, laidLooks := .later }
def WbufPlaysUptoCardSaid : Prop := Claim7.holds Tryz.pinned (.plain (OpenSpec.upto wbufPlaysSpec)) wbufPlaysUptoCard

/-- THE SECOND FORM's CARD OF 'pumicelaw11.WbufOpens'. -/
def wbufOpensUptoCard : Claim7 := { stood := { row := wbufOpensUptoRow, standIns := [], harness := (true, "348235cb2fab59c92250b443c3f69e8f5e22a9437b5eca4134e9d4674afce718"), looks := true }, kinds := [], alts := [], laidByText := true, laidKinds := [.handle, .sentinel], laidTests := true, laidLooks := .later }
def WbufOpensUptoCardSaid : Prop := Claim7.holds Tryz.pinned (.plain (OpenSpec.upto wbufOpensSpec)) wbufOpensUptoCard

/-- THE SECOND FORM's CARD OF 'pumicelaw11.WbufOthers'. -/
def wbufOthersUptoCard : Claim7 := { stood := { row := wbufOthersUptoRow, standIns := [], harness := (true, "348235cb2fab59c92250b443c3f69e8f5e22a9437b5eca4134e9d4674afce718"), looks := true }, kinds := [], alts := [], laidByText := true, laidKinds := [.handle, .sentinel], laidTests := true, laidLooks := .later }
def WbufOthersUptoCardSaid : Prop := Claim7.holds Tryz.pinned (.plain (OpenSpec.upto wbufOthersSpec)) wbufOthersUptoCard

/-- THE SECOND FORM's CARD OF 'pumicelaw11.WbufFits'. -/
def wbufFitsUptoCard : Claim7 := { stood := { row := wbufFitsUptoRow, standIns := [], harness := (true, "348235cb2fab59c92250b443c3f69e8f5e22a9437b5eca4134e9d4674afce718"), looks := true }, kinds := [], alts := [], laidByText := true, laidKinds := [.handle, .sentinel], laidTests := true, laidLooks := .later }
def WbufFitsUptoCardSaid : Prop := Claim7.holds Tryz.pinned (.plain (OpenSpec.upto wbufFitsSpec)) wbufFitsUptoCard

/-- THE SECOND FORM's CARD OF 'pumicelaw11.WbufRoom'. -/
def wbufRoomUptoCard : Claim7 := { stood := { row := wbufRoomUptoRow, standIns := [], harness := (true, "348235cb2fab59c92250b443c3f69e8f5e22a9437b5eca4134e9d4674afce718"), looks := true }, kinds := [], alts := [], laidByText := true, laidKinds := [.handle, .sentinel], laidTests := true, laidLooks := .later }
def WbufRoomUptoCardSaid : Prop := Claim7.holds Tryz.pinned (.plain (OpenSpec.upto wbufRoomSpec)) wbufRoomUptoCard
end Rows
end Go.Proofs.YteodcjbbkekidaaGreatDoor
