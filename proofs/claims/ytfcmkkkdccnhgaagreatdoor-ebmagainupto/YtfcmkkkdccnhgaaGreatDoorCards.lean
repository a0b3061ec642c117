/-
  DERIVED. GIVEN WITH THE SEED: THE CARDS: each row of YtfcmkkkdccnhgaaGreatDoorRows.lean that lists a variable, with what it lists TIED to the program's text (the seventh form; the later family's looks); each row that meets fmt, with fmt's text TOLD by the authors' own Lean function (tested against real Go, not proved from fmt's source: count such statements apart). THE CARD IS WHAT COUNTS. Prove the row's statement (the work); the ties are given (YtfcmkkkdccnhgaaGreatDoorTie.lean); close each card by the builder's one call (the guide's Derived/Test/ToyasCard.lean, 'card_holds'). Laid BY PROGRAM, IN A SANDBOX (cutbox-door.mjs). By AI agents, Wed Nov 11 2026. No macro, syntax, notation, axiom, sorry.
-/
import Derived.Test.YtfcmkkkdccnhgaaGreatDoorRows
import GoSem.ClaimSeven
namespace Go.Proofs.YtfcmkkkdccnhgaaGreatDoor
namespace Rows

/-- THE TIED CARD OF 'pumicelaw09.EbmAgain'. -/
def ebmAgainCard : Claim7 := { stood := { row := ebmAgainRow, standIns := [], harness := (true, "f52ecf06c3daebd4dde964cc806310558f80ccf523f764783a0a684873846c1d"), looks := true }, kinds := [], alts := [], laidByText := true, laidKinds := [.handle, .sentinel], laidTests := true, laidLooks := .later }
def EbmAgainCardSaid : Prop := Claim7.holds Tryz.pinned (.plain (OpenSpec.ofChange ebmAgainSpec)) ebmAgainCard

/-- THE SECOND FORM's CARD OF 'pumicelaw09.EbmAgain'. -/
def ebmAgainUptoCard : Claim7 := { stood := { row := ebmAgainUptoRow, standIns := [], harness := (true, "f52ecf06c3daebd4dde964cc806310558f80ccf523f764783a0a684873846c1d"), looks := true }, kinds := [], alts := [], laidByText := true, laidKinds := [.handle, .sentinel], laidTests := true, laidLooks := .later }
def EbmAgainUptoCardSaid : Prop := Claim7.holds Tryz.pinned (.plain (OpenSpec.upto ebmAgainSpec)) ebmAgainUptoCard
end Rows
end Go.Proofs.YtfcmkkkdccnhgaaGreatDoor
