/-
  DERIVED. GIVEN WITH THE SEED: THE CARDS: each row of YtccfalafphjkpaaGreatDoorRows.lean that lists a variable, with what it lists TIED to the program's text (the seventh form; the later family's looks); each row that meets fmt, with fmt's text TOLD by the authors' own Lean function (tested against real Go, not proved from fmt's source: count such statements apart). THE CARD IS WHAT COUNTS. Prove the row's statement (the work); the ties are given (YtccfalafphjkpaaGreatDoorTie.lean); close each card by the builder's one call (the guide's Derived/Test/ToyasCard.lean, 'card_holds'). Laid BY PROGRAM, IN A SANDBOX (cutbox-door.mjs). By AI agents, Wed Nov 11 2026. No macro, syntax, notation, axiom, sorry.
-/
import Derived.Test.YtccfalafphjkpaaGreatDoorRows
import GoSem.ClaimSeven
namespace Go.Proofs.YtccfalafphjkpaaGreatDoor
namespace Rows

/-- THE TIED CARD OF 'pumicelaw09.EbmAll'. -/
def ebmAllCard : Claim7 := { stood := { row := ebmAllRow, standIns := [], harness := (true, "15d76ae3cebb3e643b9700d2f75c56da5bf0b5660924e252723eea61d484b2d8"), looks := true }, kinds := [], alts := [], laidByText := true, laidKinds := [.handle, .sentinel], laidTests := true, laidLooks := .later }
def EbmAllCardSaid : Prop := Claim7.holds Tryz.pinned (.plain (OpenSpec.ofChange ebmAllSpec)) ebmAllCard

/-- THE TIED CARD OF 'pumicelaw09.EbmFormats'. -/
def ebmFormatsCard : Claim7 := { stood := { row := ebmFormatsRow, standIns := [], harness := (true, "15d76ae3cebb3e643b9700d2f75c56da5bf0b5660924e252723eea61d484b2d8"), looks := true }, kinds := [], alts := [], laidByText := true, laidKinds := [.handle, .sentinel], laidTests := true, laidLooks := .later }
def EbmFormatsCardSaid : Prop := Claim7.holds Tryz.pinned (.plain (OpenSpec.ofChange ebmFormatsSpec)) ebmFormatsCard

/-- THE SECOND FORM's CARD OF 'pumicelaw09.EbmAll'. -/
def ebmAllUptoCard : Claim7 := { stood := { row := ebmAllUptoRow, standIns := [], harness := (true, "15d76ae3cebb3e643b9700d2f75c56da5bf0b5660924e252723eea61d484b2d8"), looks := true }, kinds := [], alts := [], laidByText := true, laidKinds := [.handle, .sentinel], laidTests := true, laidLooks := .later }
def EbmAllUptoCardSaid : Prop := Claim7.holds Tryz.pinned (.plain (OpenSpec.upto ebmAllSpec)) ebmAllUptoCard

/-- THE SECOND FORM's CARD OF 'pumicelaw09.EbmFormats'. -/
def ebmFormatsUptoCard : Claim7 := { stood := { row := ebmFormatsUptoRow, standIns := [], harness := (true, "15d76ae3cebb3e643b9700d2f75c56da5bf0b5660924e252723eea61d484b2d8"), looks := true }, kinds := [], alts := [], laidByText := true, laidKinds := [.handle, .sentinel], laidTests := true, laidLooks := .later }
def EbmFormatsUptoCardSaid : Prop := Claim7.holds Tryz.pinned (.plain (OpenSpec.upto ebmFormatsSpec)) ebmFormatsUptoCard
end Rows
end Go.Proofs.YtccfalafphjkpaaGreatDoor
