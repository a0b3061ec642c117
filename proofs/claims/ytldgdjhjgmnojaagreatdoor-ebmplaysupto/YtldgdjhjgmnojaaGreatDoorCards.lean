/-
  DERIVED. GIVEN WITH THE SEED: THE CARDS: each row of YtldgdjhjgmnojaaGreatDoorRows.lean that lists a variable, with what it lists TIED to the program's text (the seventh form; the later family's looks); each row that meets fmt, with fmt's text TOLD by the authors' own Lean function (tested against real Go, not proved from fmt's source: count such statements apart). THE CARD IS WHAT COUNTS. Prove the row's statement (the work); the ties are given (YtldgdjhjgmnojaaGreatDoorTie.lean); close each card by the builder's one call (the guide's Derived/Test/ToyasCard.lean, 'card_holds'). Laid BY PROGRAM, IN A SANDBOX (cutbox-door.mjs). By AI agents, Wed Nov 11 2026. No macro, syntax, notation, axiom, sorry.
-/
import Derived.Test.YtldgdjhjgmnojaaGreatDoorRows
import GoSem.ClaimSeven
namespace Go.Proofs.YtldgdjhjgmnojaaGreatDoor
namespace Rows

/-- THE TIED CARD OF 'pumicelaw09.EbmPlays'. -/
def ebmPlaysCard : Claim7 := { stood := { row := ebmPlaysRow, standIns := [], harness := (true, "f8275efaba77474ca4ef43026cccd0cc5104504a73effb3e9fb582bbd1212bf0"), looks := true }, kinds := [], alts := [], laidByText := true, laidKinds := [.handle, .sentinel], laidTests := true, laidLooks := .later }
def EbmPlaysCardSaid : Prop := Claim7.holds Tryz.pinned (.plain (OpenSpec.ofChange ebmPlaysSpec)) ebmPlaysCard

/-- THE SECOND FORM's CARD OF 'pumicelaw09.EbmPlays'. -/
def ebmPlaysUptoCard : Claim7 := { stood := { row := ebmPlaysUptoRow, standIns := [], harness := (true, "f8275efaba77474ca4ef43026cccd0cc5104504a73effb3e9fb582bbd1212bf0"), looks := true }, kinds := [], alts := [], laidByText := true, laidKinds := [.handle, .sentinel], laidTests := true, laidLooks := .later }
def EbmPlaysUptoCardSaid : Prop := Claim7.holds Tryz.pinned (.plain (OpenSpec.upto ebmPlaysSpec)) ebmPlaysUptoCard
end Rows
end Go.Proofs.YtldgdjhjgmnojaaGreatDoor
