/-
  NARROWER THAN 'FOR EVERY INPUT', by the rows' own cells (each row's printed sentence says how): MasterPlays: laid · MasterOpens: laid · MasterMany: laid.
  DERIVED. THE GIVEN ROWS OF THIS SEAT. 3 by the template 'for every input the law returns true; each argument reads behind the call as it read before'; 0 by the template 'total and deterministic' (their statements: YtkfecngkdlajgaaGreatDoorTotals.lean).
  GIVEN WITH THE SEED: the statements are not yours to turn. If you find one false, say at which input.
  Laid BY PROGRAM, IN A SANDBOX (cutbox-rows.mjs): the forced cells as the released guide's own fill.sh prints them over the translation 6b6b8d48a375992b… (all of the seat's roots in one cut). By AI agents, Wed Nov 11 2026. No macro, syntax, notation, axiom, sorry.
-/
import Derived.Test.YtkfecngkdlajgaaGreatDoorChecked
import GoSem.Claim
import GoSem.ClaimJoined
import GoSem.ClaimMapViews
import Derived.JoinedTies
import Derived.KernelRfl
namespace Go.Proofs.YtkfecngkdlajgaaGreatDoor
/- THE CELL 'sum', in the pinned program and in every row, IS THE sha256 OF THE DUMP (.gsa) THAT YtkfecngkdlajgaaGreatDoorProg.lean LOADS. Nothing in Lean hashes anything: it is a label: what it is worth is what the hold of that sum in a sandbox is worth. -/
noncomputable def Tryz.pinned : Pinned := { name := "ytkfecngkdlajgaagreatdoor", sum := "6b6b8d48a375992b7a8ec946e0af7719e82e56cb1b86355c2a361ca1dc4bcfa6", checked := Tryz.checked }
namespace Rows
def none {H : Type} : Left H := { results := [], args := [] }

/- WHAT THE LISTED PACKAGE-LEVEL VARIABLES READ AS WHEN THE CALL BEGINS. Each datum BY PROGRAM (the guide's laid-datum.mjs) off the statement by which the dump's own 'gosem.cut.vars' lays the variable. In a bare row this is a premise. The card (YtkfecngkdlajgaaGreatDoorCards.lean) ties it to the program's text. -/
def laid_errors_errorType {H : Type} : DataW H := .iface "internal/reflectlite.rtype" (.agg [.ptr (.lit (.string [101, 114, 114, 111, 114]))])
def laid_pumice_header_errNoImage {H : Type} : DataW H := .iface "*errors.errorString" (.ptr (.agg [.lit (.string [110, 111, 32, 99, 97, 108, 108, 32, 109, 97, 107, 101, 115, 32, 115, 117, 99, 104, 32, 97, 32, 112, 97, 103, 101])]))

/-- 'pumicelaw13.MasterPlays': WHATEVER THE INPUT: true; the input reads as it did. -/
def masterPlaysSpec : ChangeSpec := { name := "masterPlays", fn := fun _ => fun
  | [d1, d2, d3] => { results := [.lit (.bool true)], args := [d1, d2, d3] }
  | _ => none }
def masterPlaysRow : OpenClaim := { program := "ytkfecngkdlajgaagreatdoor", sum := "6b6b8d48a375992b7a8ec946e0af7719e82e56cb1b86355c2a361ca1dc4bcfa6", func := "pumice/pumicelaw13.MasterPlays", spec := "masterPlays", inPlace := ["internal/bytealg.MakeNoZero", "internal/reflectlite.TypeOf", "internal/reflectlite.ValueOf", "(internal/reflectlite.Value).Type", "(internal/reflectlite.Value).IsNil", "(internal/reflectlite.Value).Elem", "(internal/reflectlite.Value).Set"], unfollowed := true, recurses := true, named := ["pumice/header.errNoImage", "errors.errorType"], apart := false, laid := [("errors.errorType", laid_errors_errorType), ("pumice/header.errNoImage", laid_pumice_header_errNoImage)] }
def MasterPlaysSaid : Prop := masterPlaysRow.holds Tryz.pinned (OpenSpec.ofChange masterPlaysSpec)

/-- ITS FALSE NEIGHBOUR: 'it returns false'. Refute it at one input. -/
def masterPlaysWrong : ChangeSpec := { name := "masterPlays", fn := fun _ => fun
  | [d1, d2, d3] => { results := [.lit (.bool false)], args := [d1, d2, d3] }
  | _ => none }
def MasterPlaysWrongFalsely : Prop := masterPlaysRow.holds Tryz.pinned (OpenSpec.ofChange masterPlaysWrong)

/-- 'pumicelaw13.MasterOpens': WHATEVER THE INPUT: true; the input reads as it did. -/
def masterOpensSpec : ChangeSpec := { name := "masterOpens", fn := fun _ => fun
  | [d1, d2, d3] => { results := [.lit (.bool true)], args := [d1, d2, d3] }
  | _ => none }
def masterOpensRow : OpenClaim := { program := "ytkfecngkdlajgaagreatdoor", sum := "6b6b8d48a375992b7a8ec946e0af7719e82e56cb1b86355c2a361ca1dc4bcfa6", func := "pumice/pumicelaw13.MasterOpens", spec := "masterOpens", inPlace := ["internal/bytealg.MakeNoZero", "internal/reflectlite.TypeOf", "internal/reflectlite.ValueOf", "(internal/reflectlite.Value).Type", "(internal/reflectlite.Value).IsNil", "(internal/reflectlite.Value).Elem", "(internal/reflectlite.Value).Set"], unfollowed := true, recurses := true, named := ["errors.errorType", "pumice/header.errNoImage"], apart := false, laid := [("errors.errorType", laid_errors_errorType), ("pumice/header.errNoImage", laid_pumice_header_errNoImage)] }
def MasterOpensSaid : Prop := masterOpensRow.holds Tryz.pinned (OpenSpec.ofChange masterOpensSpec)

/-- ITS FALSE NEIGHBOUR: 'it returns false'. Refute it at one input. -/
def masterOpensWrong : ChangeSpec := { name := "masterOpens", fn := fun _ => fun
  | [d1, d2, d3] => { results := [.lit (.bool false)], args := [d1, d2, d3] }
  | _ => none }
def MasterOpensWrongFalsely : Prop := masterOpensRow.holds Tryz.pinned (OpenSpec.ofChange masterOpensWrong)

/-- 'pumicelaw13.MasterMany': WHATEVER THE INPUT: true; the input reads as it did. -/
def masterManySpec : ChangeSpec := { name := "masterMany", fn := fun _ => fun
  | [d1, d2, d3] => { results := [.lit (.bool true)], args := [d1, d2, d3] }
  | _ => none }
def masterManyRow : OpenClaim := { program := "ytkfecngkdlajgaagreatdoor", sum := "6b6b8d48a375992b7a8ec946e0af7719e82e56cb1b86355c2a361ca1dc4bcfa6", func := "pumice/pumicelaw13.MasterMany", spec := "masterMany", inPlace := ["internal/bytealg.MakeNoZero", "internal/reflectlite.TypeOf", "internal/reflectlite.ValueOf", "(internal/reflectlite.Value).Type", "(internal/reflectlite.Value).IsNil", "(internal/reflectlite.Value).Elem", "(internal/reflectlite.Value).Set"], unfollowed := true, recurses := true, named := ["pumice/header.errNoImage", "errors.errorType"], apart := false, laid := [("errors.errorType", laid_errors_errorType), ("pumice/header.errNoImage", laid_pumice_header_errNoImage)] }
def MasterManySaid : Prop := masterManyRow.holds Tryz.pinned (OpenSpec.ofChange masterManySpec)

/-- ITS FALSE NEIGHBOUR: 'it returns false'. Refute it at one input. -/
def masterManyWrong : ChangeSpec := { name := "masterMany", fn := fun _ => fun
  | [d1, d2, d3] => { results := [.lit (.bool false)], args := [d1, d2, d3] }
  | _ => none }
def MasterManyWrongFalsely : Prop := masterManyRow.holds Tryz.pinned (OpenSpec.ofChange masterManyWrong)

/- THE SECOND FORM. 'bulk': how many values and letters a reading holds, each counted each time it is reached (what is shared counts as often as it is met; a slice's spare places count too). A statement '..UptoSaid' is the law's where the arguments, and the package variables that the reading takes, are together of bulk at most 1048576: NARROWER than '..Said'. Prove '..Said' where nothing that the law and all that it calls make is longer than what came in: it says more and counts as full. Else prove '..UptoSaid'. A law counts once. -/
mutual
def uptoBulk {H : Type} : DataW H → Nat
  | .lit (.string bytes) => bytes.length + 1
  | .lit _ => 1
  | .nil => 1
  | .ptr d => uptoBulk d + 1
  | .slice elems spare => uptoBulkAll elems + uptoBulkAll spare + 1
  | .agg parts => uptoBulkAll parts + 1
  | .iface _ d => uptoBulk d + 1
  | .map entries => uptoBulkEntries entries + 1
  | .held _ => 1
def uptoBulkAll {H : Type} : List (DataW H) → Nat
  | [] => 0
  | d :: r => uptoBulk d + uptoBulkAll r
def uptoBulkEntries {H : Type} : List (Lit × DataW H) → Nat
  | [] => 0
  | x :: r => uptoBulkEntry x + uptoBulkEntries r
def uptoBulkEntry {H : Type} : Lit × DataW H → Nat
  | (.string bytes, d) => bytes.length + uptoBulk d + 1
  | (_, d) => uptoBulk d + 1
 end
def uptoSmall : (H : Type) → List (DataW H) → Bool := fun _ ds => decide (uptoBulkAll ds ≤ 1048576)
def OpenSpec.upto (s : _root_.Go.ChangeSpec) : _root_.Go.OpenSpec := { _root_.Go.OpenSpec.ofChange s with cond := some uptoSmall }

/-- 'pumicelaw13.MasterPlays', WHERE WHAT IT READS IS OF BULK AT MOST 1048576: true; the input reads as it did. -/
def masterPlaysUptoRow : OpenClaim := { program := "ytkfecngkdlajgaagreatdoor", sum := "6b6b8d48a375992b7a8ec946e0af7719e82e56cb1b86355c2a361ca1dc4bcfa6", func := "pumice/pumicelaw13.MasterPlays", spec := "masterPlays", inPlace := ["internal/bytealg.MakeNoZero", "internal/reflectlite.TypeOf", "internal/reflectlite.ValueOf", "(internal/reflectlite.Value).Type", "(internal/reflectlite.Value).IsNil", "(internal/reflectlite.Value).Elem", "(internal/reflectlite.Value).Set"], unfollowed := true, recurses := true, named := ["pumice/header.errNoImage", "errors.errorType"], apart := false, laid := [("errors.errorType", laid_errors_errorType), ("pumice/header.errNoImage", laid_pumice_header_errNoImage)], narrowed := true }
def MasterPlaysUptoSaid : Prop := masterPlaysUptoRow.holds Tryz.pinned (OpenSpec.upto masterPlaysSpec)

/-- 'pumicelaw13.MasterOpens', WHERE WHAT IT READS IS OF BULK AT MOST 1048576: true; the input reads as it did. -/
def masterOpensUptoRow : OpenClaim := { program := "ytkfecngkdlajgaagreatdoor", sum := "6b6b8d48a375992b7a8ec946e0af7719e82e56cb1b86355c2a361ca1dc4bcfa6", func := "pumice/pumicelaw13.MasterOpens", spec := "masterOpens", inPlace := ["internal/bytealg.MakeNoZero", "internal/reflectlite.TypeOf", "internal/reflectlite.ValueOf", "(internal/reflectlite.Value).Type", "(internal/reflectlite.Value).IsNil", "(internal/reflectlite.Value).Elem", "(internal/reflectlite.Value).Set"], unfollowed := true, recurses := true, named := ["errors.errorType", "pumice/header.errNoImage"], apart := false, laid := [("errors.errorType", laid_errors_errorType), ("pumice/header.errNoImage", laid_pumice_header_errNoImage)], narrowed := true }
def MasterOpensUptoSaid : Prop := masterOpensUptoRow.holds Tryz.pinned (OpenSpec.upto masterOpensSpec)

/-- 'pumicelaw13.MasterMany', WHERE WHAT IT READS IS OF BULK AT MOST 1048576: true; the input reads as it did. -/
def masterManyUptoRow : OpenClaim := { program := "ytkfecngkdlajgaagreatdoor", sum := "6b6b8d48a375992b7a8ec946e0af7719e82e56cb1b86355c2a361ca1dc4bcfa6", func := "pumice/pumicelaw13.MasterMany", spec := "masterMany", inPlace := ["internal/bytealg.MakeNoZero", "internal/reflectlite.TypeOf", "internal/reflectlite.ValueOf", "(internal/reflectlite.Value).Type", "(internal/reflectlite.Value).IsNil", "(internal/reflectlite.Value).Elem", "(internal/reflectlite.Value).Set"], unfollowed := true, recurses := true, named := ["pumice/header.errNoImage", "errors.errorType"], apart := false, laid := [("errors.errorType", laid_errors_errorType), ("pumice/header.errNoImage", laid_pumice_header_errNoImage)], narrowed := true }
def MasterManyUptoSaid : Prop := masterManyUptoRow.holds Tryz.pinned (OpenSpec.upto masterManySpec)

end Rows
end Go.Proofs.YtkfecngkdlajgaaGreatDoor
