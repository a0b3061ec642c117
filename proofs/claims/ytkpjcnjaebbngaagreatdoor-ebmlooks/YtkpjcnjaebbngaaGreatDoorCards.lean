/-
  DERIVED. GIVEN WITH THE SEED: THE CARDS: each row of YtkpjcnjaebbngaaGreatDoorRows.lean that lists a variable, with what it lists TIED to the program's text (the seventh form; the later family's looks); each row that meets fmt, with fmt's text TOLD by the authors' own Lean function (tested against real Go, not proved from fmt's source: count such statements apart). THE CARD IS WHAT COUNTS. Prove the row's statement (the work); the ties are given (YtkpjcnjaebbngaaGreatDoorTie.lean); close each card by the builder's one call (the guide's Derived/Test/ToyasCard.lean, 'card_holds'). Laid BY PROGRAM, IN A SANDBOX (cutbox-door.mjs). By AI agents, Wed Nov 11 2026. No macro, syntax, notation, axiom, sorry.
-/
import Derived.Test.YtkpjcnjaebbngaaGreatDoorRows
import GoSem.ClaimSeven
namespace Go.Proofs.YtkpjcnjaebbngaaGreatDoor
namespace Rows

/-- THE TIED CARD OF 'pumicelaw09.EbmPlays'. -/
def ebmPlaysCard : Claim7 := { stood := { row := ebmPlaysRow, standIns := [], harness := (true, "8600dd555d6bc69330666026d3e6b648af001cb6065c0718b323a840345eb9da"), looks := true }, kinds := [], alts := [], laidByText := true, laidKinds := [.handle, .sentinel], laidTests := true, laidLooks := .later }
def EbmPlaysCardSaid : Prop := Claim7.holds Tryz.pinned (.plain (OpenSpec.ofChange ebmPlaysSpec)) ebmPlaysCard

/-- THE TIED CARD OF 'pumicelaw09.EbmCuts'. -/
def ebmCutsCard : Claim7 := { stood := { row := ebmCutsRow, standIns := [], harness := (true, "8600dd555d6bc69330666026d3e6b648af001cb6065c0718b323a840345eb9da"), looks := true }, kinds := [], alts := [], laidByText := true, laidKinds := [.handle, .sentinel], laidTests := true, laidLooks := .later }
def EbmCutsCardSaid : Prop := Claim7.holds Tryz.pinned (.plain (OpenSpec.ofChange ebmCutsSpec)) ebmCutsCard

/-- THE TIED CARD OF 'pumicelaw09.EbmAgain'. -/
def ebmAgainCard : Claim7 := { stood := { row := ebmAgainRow, standIns := [], harness := (true, "8600dd555d6bc69330666026d3e6b648af001cb6065c0718b323a840345eb9da"), looks := true }, kinds := [], alts := [], laidByText := true, laidKinds := [.handle, .sentinel], laidTests := true, laidLooks := .later }
def EbmAgainCardSaid : Prop := Claim7.holds Tryz.pinned (.plain (OpenSpec.ofChange ebmAgainSpec)) ebmAgainCard

/-- THE TIED CARD OF 'pumicelaw09.EbmLooks'. -/
def ebmLooksCard : Claim7 := { stood := { row := ebmLooksRow, standIns := [], harness := (true, "8600dd555d6bc69330666026d3e6b648af001cb6065c0718b323a840345eb9da"), looks := true }, kinds := [], alts := [], laidByText := true, laidKinds := [.handle, .sentinel], laidTests := true, laidLooks := .later }
def EbmLooksCardSaid : Prop := Claim7.holds Tryz.pinned (.plain (OpenSpec.ofChange ebmLooksSpec)) ebmLooksCard

/-- THE TIED CARD OF 'pumicelaw09.EbmFull'. -/
def ebmFullCard : Claim7 := { stood := { row := ebmFullRow, standIns := [], harness := (true, "8600dd555d6bc69330666026d3e6b648af001cb6065c0718b323a840345eb9da"), looks := true }, kinds := [], alts := [], laidByText := true, laidKinds := [.handle, .sentinel], laidTests := true, laidLooks := .later }
def EbmFullCardSaid : Prop := Claim7.holds Tryz.pinned (.plain (OpenSpec.ofChange ebmFullSpec)) ebmFullCard

/-- THE TIED CARD OF 'pumicelaw09.EbmAll'. -/
def ebmAllCard : Claim7 := { stood := { row := ebmAllRow, standIns := [], harness := (true, "8600dd555d6bc69330666026d3e6b648af001cb6065c0718b323a840345eb9da"), looks := true }, kinds := [], alts := [], laidByText := true, laidKinds := [.handle, .sentinel], laidTests := true, laidLooks := .later }
def EbmAllCardSaid : Prop := Claim7.holds Tryz.pinned (.plain (OpenSpec.ofChange ebmAllSpec)) ebmAllCard

/-- THE SECOND FORM's CARD OF 'pumicelaw09.EbmPlays'. -/
def ebmPlaysUptoCard : Claim7 := { stood := { row := ebmPlaysUptoRow, standIns := [], harness := (true, "8600dd555d6bc69330666026d3e6b648af001cb6065c0718b323a840345eb9da"), looks := true }, kinds := [], alts := [], laidByText := true, laidKinds := [.handle, .sentinel], laidTests := true, laidLooks := .later }
def EbmPlaysUptoCardSaid : Prop := Claim7.holds Tryz.pinned (.plain (OpenSpec.upto ebmPlaysSpec)) ebmPlaysUptoCard

/-- THE SECOND FORM's CARD OF 'pumicelaw09.EbmCuts'. -/
def ebmCutsUptoCard : Claim7 := { stood := { row := ebmCutsUptoRow, standIns := [], harness := (true, "8600dd555d6bc69330666026d3e6b648af001cb6065c0718b323a840345eb9da"), looks := true }, kinds := [], alts := [], laidByText := true, laidKinds := [.handle, .sentinel], laidTests := true, laidLooks := .later }
def EbmCutsUptoCardSaid : Prop := Claim7.holds Tryz.pinned (.plain (OpenSpec.upto ebmCutsSpec)) ebmCutsUptoCard

/-- THE SECOND FORM's CARD OF 'pumicelaw09.EbmAgain'. -/
def ebmAgainUptoCard : Claim7 := { stood := { row := ebmAgainUptoRow, standIns := [], harness := (true, "8600dd555d6bc69330666026d3e6b648af001cb6065c0718b323a840345eb9da"), looks := true }, kinds := [], alts := [], laidByText := true, laidKinds := [.handle, .sentinel], laidTests := true, laidLooks := .later }
def EbmAgainUptoCardSaid : Prop := Claim7.holds Tryz.pinned (.plain (OpenSpec.upto ebmAgainSpec)) ebmAgainUptoCard

/-- THE SECOND FORM's CARD OF 'pumicelaw09.EbmLooks'. -/
def ebmLooksUptoCard : Claim7 := { stood := { row := ebmLooksUptoRow, standIns := [], harness := (true, "8600dd555d6bc69330666026d3e6b648af001cb6065c0718b323a840345eb9da"), looks := true }, kinds := [], alts := [], laidByText := true, laidKinds := [.handle, .sentinel], laidTests := true, laidLooks := .later }
def EbmLooksUptoCardSaid : Prop := Claim7.holds Tryz.pinned (.plain (OpenSpec.upto ebmLooksSpec)) ebmLooksUptoCard

/-- THE SECOND FORM's CARD OF 'pumicelaw09.EbmFull'. -/
def ebmFullUptoCard : Claim7 := { stood := { row := ebmFullUptoRow, standIns := [], harness := (true, "8600dd555d6bc69330666026d3e6b648af001cb6065c0718b323a840345eb9da"), looks := true }, kinds := [], alts := [], laidByText := true, laidKinds := [.handle, .sentinel], laidTests := true, laidLooks := .later }
def EbmFullUptoCardSaid : Prop := Claim7.holds Tryz.pinned (.plain (OpenSpec.upto ebmFullSpec)) ebmFullUptoCard

/-- THE SECOND FORM's CARD OF 'pumicelaw09.EbmAll'. -/
def ebmAllUptoCard : Claim7 := { stood := { row := ebmAllUptoRow, standIns := [], harness := (true, "8600dd555d6bc69330666026d3e6b648af001cb6065c0718b323a840345eb9da"), looks := true }, kinds := [], alts := [], laidByText := true, laidKinds := [.handle, .sentinel], laidTests := true, laidLooks := .later }
def EbmAllUptoCardSaid : Prop := Claim7.holds Tryz.pinned (.plain (OpenSpec.upto ebmAllSpec)) ebmAllUptoCard
end Rows
end Go.Proofs.YtkpjcnjaebbngaaGreatDoor
