/-
  DERIVED. GIVEN WITH THE SEED: THE CARDS: each row of YtjbdjicciakibaaDoorRows.lean that lists a variable, with what it lists TIED to the program's text (the seventh form; the later family's looks); each row that meets fmt, with fmt's text TOLD by the authors' own Lean function (tested against real Go, not proved from fmt's source: count such statements apart). THE CARD IS WHAT COUNTS. Prove the row's statement (the work); the ties are given (YtjbdjicciakibaaDoorTie.lean); close each card by the builder's one call (the guide's Derived/Test/ToyasCard.lean, 'card_holds'). Laid BY PROGRAM, IN A SANDBOX (cutbox-door.mjs). By AI agents, Wed Nov 11 2026. No macro, syntax, notation, axiom, sorry.
-/
import Derived.Test.YtjbdjicciakibaaDoorRows
import GoSem.ClaimSeven
namespace Go.Proofs.YtjbdjicciakibaaDoor
namespace Rows

/-- THE TIED CARD OF 'pumicelaw14.PropsErrors'. -/
def propsErrorsCard : Claim7 := { stood := { row := propsErrorsRow, standIns := [], harness := (true, "8823f31653499c62cde307e0c907d2072f39ce55bd56f529a0b38963e2e50e6b"), looks := true }, kinds := [], alts := [], laidByText := true, laidKinds := [.data, .data, .data, .sentinel, .sentinel], laidTests := true, laidLooks := .later }
def PropsErrorsCardSaid : Prop := Claim7.holds Tryd.pinned (.plain (OpenSpec.ofChange propsErrorsSpec)) propsErrorsCard

/-- THE TIED CARD OF 'pumicelaw14.PropsVictims'. -/
def propsVictimsCard : Claim7 := { stood := { row := propsVictimsRow, standIns := [], harness := (true, "8823f31653499c62cde307e0c907d2072f39ce55bd56f529a0b38963e2e50e6b"), looks := true }, kinds := [], alts := [], laidByText := true, laidKinds := [.data, .data, .data, .sentinel, .sentinel], laidTests := true, laidLooks := .later }
def PropsVictimsCardSaid : Prop := Claim7.holds Tryd.pinned (.plain (OpenSpec.ofChange propsVictimsSpec)) propsVictimsCard

/-- THE TIED CARD OF 'pumicelaw14.PropsBack'. -/
def propsBackCard : Claim7 := { stood := { row := propsBackRow, standIns := [], harness := (true, "8823f31653499c62cde307e0c907d2072f39ce55bd56f529a0b38963e2e50e6b"), looks := true }, kinds := [], alts := [], laidByText := true, laidKinds := [.data, .data, .data, .sentinel, .sentinel], laidTests := true, laidLooks := .later }
def PropsBackCardSaid : Prop := Claim7.holds Tryd.pinned (.plain (OpenSpec.ofChange propsBackSpec)) propsBackCard

/-- THE SECOND FORM's CARD OF 'pumicelaw14.PropsErrors'. -/
def propsErrorsUptoCard : Claim7 := { stood := { row := propsErrorsUptoRow, standIns := [], harness := (true, "8823f31653499c62cde307e0c907d2072f39ce55bd56f529a0b38963e2e50e6b"), looks := true }, kinds := [], alts := [], laidByText := true, laidKinds := [.data, .data, .data, .sentinel, .sentinel], laidTests := true, laidLooks := .later }
def PropsErrorsUptoCardSaid : Prop := Claim7.holds Tryd.pinned (.plain (OpenSpec.upto propsErrorsSpec)) propsErrorsUptoCard

/-- THE SECOND FORM's CARD OF 'pumicelaw14.PropsVictims'. -/
def propsVictimsUptoCard : Claim7 := { stood := { row := propsVictimsUptoRow, standIns := [], harness := (true, "8823f31653499c62cde307e0c907d2072f39ce55bd56f529a0b38963e2e50e6b"), looks := true }, kinds := [], alts := [], laidByText := true, laidKinds := [.data, .data, .data, .sentinel, .sentinel], laidTests := true, laidLooks := .later }
def PropsVictimsUptoCardSaid : Prop := Claim7.holds Tryd.pinned (.plain (OpenSpec.upto propsVictimsSpec)) propsVictimsUptoCard

/-- THE SECOND FORM's CARD OF 'pumicelaw14.PropsBack'. -/
def propsBackUptoCard : Claim7 := { stood := { row := propsBackUptoRow, standIns := [], harness := (true, "8823f31653499c62cde307e0c907d2072f39ce55bd56f529a0b38963e2e50e6b"), looks := true }, kinds := [], alts := [], laidByText := true, laidKinds := [.data, .data, .data, .sentinel, .sentinel], laidTests := true, laidLooks := .later }
def PropsBackUptoCardSaid : Prop := Claim7.holds Tryd.pinned (.plain (OpenSpec.upto propsBackSpec)) propsBackUptoCard
end Rows
end Go.Proofs.YtjbdjicciakibaaDoor
