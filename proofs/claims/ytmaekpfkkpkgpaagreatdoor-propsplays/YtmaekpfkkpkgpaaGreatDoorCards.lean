/-
  DERIVED. GIVEN WITH THE SEED: THE CARDS: each row of YtmaekpfkkpkgpaaGreatDoorRows.lean that lists a variable, with what it lists TIED to the program's text (the seventh form; the later family's looks); each row that meets fmt, with fmt's text TOLD by the authors' own Lean function (tested against real Go, not proved from fmt's source: count such statements apart). THE CARD IS WHAT COUNTS. Prove the row's statement (the work); the ties are given (YtmaekpfkkpkgpaaGreatDoorTie.lean); close each card by the builder's one call (the guide's Derived/Test/ToyasCard.lean, 'card_holds'). Laid BY PROGRAM, IN A SANDBOX (cutbox-door.mjs). By AI agents, Wed Nov 11 2026. No macro, syntax, notation, axiom, sorry.
-/
import Derived.Test.YtmaekpfkkpkgpaaGreatDoorRows
import GoSem.ClaimSeven
namespace Go.Proofs.YtmaekpfkkpkgpaaGreatDoor
namespace Rows

/-- THE TIED CARD OF 'pumicelaw14.PropsPlays'. -/
def propsPlaysCard : Claim7 := { stood := { row := propsPlaysRow, standIns := [], harness := (true, "749854c770e85c300dc0ede688b5d7ca6c7e654e6ef446fdfc57fc6ff2272451"), looks := true }, kinds := [], alts := [], laidByText := true, laidKinds := [.data, .data, .data, .sentinel, .sentinel], laidTests := true, laidLooks := .later }
def PropsPlaysCardSaid : Prop := Claim7.holds Tryz.pinned (.plain (OpenSpec.ofChange propsPlaysSpec)) propsPlaysCard

/-- THE TIED CARD OF 'pumicelaw14.PropsParses'. -/
def propsParsesCard : Claim7 := { stood := { row := propsParsesRow, standIns := [], harness := (true, "749854c770e85c300dc0ede688b5d7ca6c7e654e6ef446fdfc57fc6ff2272451"), looks := true }, kinds := [], alts := [], laidByText := true, laidKinds := [.data, .data, .data, .sentinel, .sentinel], laidTests := true, laidLooks := .later }
def PropsParsesCardSaid : Prop := Claim7.holds Tryz.pinned (.plain (OpenSpec.ofChange propsParsesSpec)) propsParsesCard

/-- THE SECOND FORM's CARD OF 'pumicelaw14.PropsPlays'. -/
def propsPlaysUptoCard : Claim7 := { stood := { row := propsPlaysUptoRow, standIns := [], harness := (true, "749854c770e85c300dc0ede688b5d7ca6c7e654e6ef446fdfc57fc6ff2272451"), looks := true }, kinds := [], alts := [], laidByText := true, laidKinds := [.data, .data, .data, .sentinel, .sentinel], laidTests := true, laidLooks := .later }
def PropsPlaysUptoCardSaid : Prop := Claim7.holds Tryz.pinned (.plain (OpenSpec.upto propsPlaysSpec)) propsPlaysUptoCard

/-- THE SECOND FORM's CARD OF 'pumicelaw14.PropsParses'. -/
def propsParsesUptoCard : Claim7 := { stood := { row := propsParsesUptoRow, standIns := [], harness := (true, "749854c770e85c300dc0ede688b5d7ca6c7e654e6ef446fdfc57fc6ff2272451"), looks := true }, kinds := [], alts := [], laidByText := true, laidKinds := [.data, .data, .data, .sentinel, .sentinel], laidTests := true, laidLooks := .later }
def PropsParsesUptoCardSaid : Prop := Claim7.holds Tryz.pinned (.plain (OpenSpec.upto propsParsesSpec)) propsParsesUptoCard
end Rows
end Go.Proofs.YtmaekpfkkpkgpaaGreatDoor
