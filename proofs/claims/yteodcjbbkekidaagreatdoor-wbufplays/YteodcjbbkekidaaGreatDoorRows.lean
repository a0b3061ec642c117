/-
  NARROWER THAN 'FOR EVERY INPUT', by the rows' own cells (each row's printed sentence says how): WbufPlays: laid · WbufOpens: laid · WbufOthers: laid · WbufFits: laid · WbufRoom: laid.
  DERIVED. THE GIVEN ROWS OF THIS SEAT. 5 by the template 'for every input the law returns true; each argument reads behind the call as it read before'; 0 by the template 'total and deterministic' (their statements: YteodcjbbkekidaaGreatDoorTotals.lean).
  GIVEN WITH THE SEED: the statements are not yours to turn. If you find one false, say at which input.
  Laid BY PROGRAM, IN A SANDBOX (cutbox-rows.mjs): the forced cells as the released guide's own fill.sh prints them over the translation f23d70acd6aeb51e… (all of the seat's roots in one cut). By AI agents, Wed Nov 11 2026. No macro, syntax, notation, axiom, sorry.
-/
import Derived.Test.YteodcjbbkekidaaGreatDoorChecked
import GoSem.Claim
import GoSem.ClaimJoined
import GoSem.ClaimMapViews
import Derived.JoinedTies
import Derived.KernelRfl
namespace Go.Proofs.YteodcjbbkekidaaGreatDoor
/- THE CELL 'sum', in the pinned program and in every row, IS THE sha256 OF THE DUMP (.gsa) THAT YteodcjbbkekidaaGreatDoorProg.lean LOADS. Nothing in Lean hashes anything: it is a label: what it is worth is what the hold of that sum in a sandbox is worth. -/
noncomputable def Tryz.pinned : Pinned := { name := "yteodcjbbkekidaagreatdoor", sum := "f23d70acd6aeb51e8bbf7fd20909bae0d21fe6e9d1a8a1124aae1f71c6ac0fd4", checked := Tryz.checked }
namespace Rows
def none {H : Type} : Left H := { results := [], args := [] }

/- WHAT THE LISTED PACKAGE-LEVEL VARIABLES READ AS WHEN THE CALL BEGINS. Each datum BY PROGRAM (the guide's laid-datum.mjs) off the statement by which the dump's own 'gosem.cut.vars' lays the variable. In a bare row this is a premise. The card (YteodcjbbkekidaaGreatDoorCards.lean) ties it to the program's text. -/
def laid_errors_errorType {H : Type} : DataW H := .iface "internal/reflectlite.rtype" (.agg [.ptr (.lit (.string [101, 114, 114, 111, 114]))])
def laid_pumice_header_errNoImage {H : Type} : DataW H := .iface "*errors.errorString" (.ptr (.agg [.lit (.string [110, 111, 32, 99, 97, 108, 108, 32, 109, 97, 107, 101, 115, 32, 115, 117, 99, 104, 32, 97, 32, 112, 97, 103, 101])]))

/-- 'pumicelaw11.WbufPlays': WHATEVER THE INPUT: true; the input reads as it did. -/
def wbufPlaysSpec : ChangeSpec := { name := "wbufPlays", fn := fun _ => fun
  | [d1, d2, d3, d4] => { results := [.lit (.bool true)], args := [d1, d2, d3, d4] }
  | _ => none }
def wbufPlaysRow : OpenClaim := { program := "yteodcjbbkekidaagreatdoor", sum := "f23d70acd6aeb51e8bbf7fd20909bae0d21fe6e9d1a8a1124aae1f71c6ac0fd4", func := "pumice/pumicelaw11.WbufPlays", spec := "wbufPlays", inPlace := ["internal/bytealg.MakeNoZero", "internal/reflectlite.TypeOf", "internal/reflectlite.ValueOf", "(internal/reflectlite.Value).Type", "(internal/reflectlite.Value).IsNil", "(internal/reflectlite.Value).Elem", "(internal/reflectlite.Value).Set"], unfollowed := true, recurses := true, named := ["pumice/header.errNoImage", "errors.errorType"], apart := false, laid := [("errors.errorType", laid_errors_errorType), ("pumice/header.errNoImage", laid_pumice_header_errNoImage)] }
def WbufPlaysSaid : Prop := wbufPlaysRow.holds Tryz.pinned (OpenSpec.ofChange wbufPlaysSpec)

/-- ITS FALSE NEIGHBOUR: 'it returns false'. Refute it at one input. -/
def wbufPlaysWrong : ChangeSpec := { name := "wbufPlays", fn := fun _ => fun
  | [d1, d2, d3, d4] => { results := [.lit (.bool false)], args := [d1, d2, d3, d4] }
  | _ => none }
def WbufPlaysWrongFalsely : Prop := wbufPlaysRow.holds Tryz.pinned (OpenSpec.ofChange wbufPlaysWrong)

/-- 'pumicelaw11.WbufOpens': WHATEVER THE INPUT: true; the input reads as it did. -/
def wbufOpensSpec : ChangeSpec := { name := "wbufOpens", fn := fun _ => fun
  | [d1, d2] => { results := [.lit (.bool true)], args := [d1, d2] }
  | _ => none }
def wbufOpensRow : OpenClaim := { program := "yteodcjbbkekidaagreatdoor", sum := "f23d70acd6aeb51e8bbf7fd20909bae0d21fe6e9d1a8a1124aae1f71c6ac0fd4", func := "pumice/pumicelaw11.WbufOpens", spec := "wbufOpens", inPlace := ["internal/bytealg.MakeNoZero", "internal/reflectlite.TypeOf", "internal/reflectlite.ValueOf", "(internal/reflectlite.Value).Type", "(internal/reflectlite.Value).IsNil", "(internal/reflectlite.Value).Elem", "(internal/reflectlite.Value).Set"], unfollowed := true, recurses := true, named := ["pumice/header.errNoImage", "errors.errorType"], apart := false, laid := [("errors.errorType", laid_errors_errorType), ("pumice/header.errNoImage", laid_pumice_header_errNoImage)] }
def WbufOpensSaid : Prop := wbufOpensRow.holds Tryz.pinned (OpenSpec.ofChange wbufOpensSpec)

/-- ITS FALSE NEIGHBOUR: 'it returns false'. Refute it at one input. -/
def wbufOpensWrong : ChangeSpec := { name := "wbufOpens", fn := fun _ => fun
  | [d1, d2] => { results := [.lit (.bool false)], args := [d1, d2] }
  | _ => none }
def WbufOpensWrongFalsely : Prop := wbufOpensRow.holds Tryz.pinned (OpenSpec.ofChange wbufOpensWrong)

/-- 'pumicelaw11.WbufOthers': WHATEVER THE INPUT: true; the input reads as it did. -/
def wbufOthersSpec : ChangeSpec := { name := "wbufOthers", fn := fun _ => fun
  | [d1, d2, d3] => { results := [.lit (.bool true)], args := [d1, d2, d3] }
  | _ => none }
def wbufOthersRow : OpenClaim := { program := "yteodcjbbkekidaagreatdoor", sum := "f23d70acd6aeb51e8bbf7fd20909bae0d21fe6e9d1a8a1124aae1f71c6ac0fd4", func := "pumice/pumicelaw11.WbufOthers", spec := "wbufOthers", inPlace := ["internal/bytealg.MakeNoZero", "internal/reflectlite.TypeOf", "internal/reflectlite.ValueOf", "(internal/reflectlite.Value).Type", "(internal/reflectlite.Value).IsNil", "(internal/reflectlite.Value).Elem", "(internal/reflectlite.Value).Set"], unfollowed := true, recurses := true, named := ["pumice/header.errNoImage", "errors.errorType"], apart := false, laid := [("errors.errorType", laid_errors_errorType), ("pumice/header.errNoImage", laid_pumice_header_errNoImage)] }
def WbufOthersSaid : Prop := wbufOthersRow.holds Tryz.pinned (OpenSpec.ofChange wbufOthersSpec)

/-- ITS FALSE NEIGHBOUR: 'it returns false'. Refute it at one input. -/
def wbufOthersWrong : ChangeSpec := { name := "wbufOthers", fn := fun _ => fun
  | [d1, d2, d3] => { results := [.lit (.bool false)], args := [d1, d2, d3] }
  | _ => none }
def WbufOthersWrongFalsely : Prop := wbufOthersRow.holds Tryz.pinned (OpenSpec.ofChange wbufOthersWrong)

/-- 'pumicelaw11.WbufFits': WHATEVER THE INPUT: true; the input reads as it did. -/
def wbufFitsSpec : ChangeSpec := { name := "wbufFits", fn := fun _ => fun
  | [d1, d2, d3, d4] => { results := [.lit (.bool true)], args := [d1, d2, d3, d4] }
  | _ => none }
def wbufFitsRow : OpenClaim := { program := "yteodcjbbkekidaagreatdoor", sum := "f23d70acd6aeb51e8bbf7fd20909bae0d21fe6e9d1a8a1124aae1f71c6ac0fd4", func := "pumice/pumicelaw11.WbufFits", spec := "wbufFits", inPlace := ["internal/reflectlite.TypeOf", "internal/bytealg.MakeNoZero", "internal/reflectlite.ValueOf", "(internal/reflectlite.Value).Type", "(internal/reflectlite.Value).IsNil", "(internal/reflectlite.Value).Elem", "(internal/reflectlite.Value).Set"], unfollowed := true, recurses := true, named := ["errors.errorType", "pumice/header.errNoImage"], apart := false, laid := [("errors.errorType", laid_errors_errorType), ("pumice/header.errNoImage", laid_pumice_header_errNoImage)] }
def WbufFitsSaid : Prop := wbufFitsRow.holds Tryz.pinned (OpenSpec.ofChange wbufFitsSpec)

/-- ITS FALSE NEIGHBOUR: 'it returns false'. Refute it at one input. -/
def wbufFitsWrong : ChangeSpec := { name := "wbufFits", fn := fun _ => fun
  | [d1, d2, d3, d4] => { results := [.lit (.bool false)], args := [d1, d2, d3, d4] }
  | _ => none }
def WbufFitsWrongFalsely : Prop := wbufFitsRow.holds Tryz.pinned (OpenSpec.ofChange wbufFitsWrong)

/-- 'pumicelaw11.WbufRoom': WHATEVER THE INPUT: true; the input reads as it did. -/
def wbufRoomSpec : ChangeSpec := { name := "wbufRoom", fn := fun _ => fun
  | [d1, d2] => { results := [.lit (.bool true)], args := [d1, d2] }
  | _ => none }
def wbufRoomRow : OpenClaim := { program := "yteodcjbbkekidaagreatdoor", sum := "f23d70acd6aeb51e8bbf7fd20909bae0d21fe6e9d1a8a1124aae1f71c6ac0fd4", func := "pumice/pumicelaw11.WbufRoom", spec := "wbufRoom", inPlace := ["internal/bytealg.MakeNoZero", "internal/reflectlite.TypeOf", "internal/reflectlite.ValueOf", "(internal/reflectlite.Value).Type", "(internal/reflectlite.Value).IsNil", "(internal/reflectlite.Value).Elem", "(internal/reflectlite.Value).Set"], unfollowed := true, recurses := true, named := ["pumice/header.errNoImage", "errors.errorType"], apart := false, laid := [("errors.errorType", laid_errors_errorType), ("pumice/header.errNoImage", laid_pumice_header_errNoImage)] }
def WbufRoomSaid : Prop := wbufRoomRow.holds Tryz.pinned (OpenSpec.ofChange wbufRoomSpec)

/-- ITS FALSE NEIGHBOUR: 'it returns false'. Refute it at one input. -/
def wbufRoomWrong : ChangeSpec := { name := "wbufRoom", fn := fun _ => fun
  | [d1, d2] => { results := [.lit (.bool false)], args := [d1, d2] }
  | _ => none }
def WbufRoomWrongFalsely : Prop := wbufRoomRow.holds Tryz.pinned (OpenSpec.ofChange wbufRoomWrong)

/- THE SECOND FORM. 'bulk': how many values and letters a reading holds, each counted each time it is reached (what is shared counts as often as it is met; a slice's spare places count too). A statement '..UptoSaid' is the law's where the arguments, and the package variables that the reading takes, are together of bulk at most 1048576: NARROWER than '..Said'. Prove '..Said' where nothing that the law and all that it calls make is longer than what came in: it says more and counts as full. Else prove '..UptoSaid'. A law counts once. -/
mutual
def uptoBulk {H : Type} : DataW H → Nat
  | .lit (.string bytes) => bytes.length + 1
  | .lit _ => 1
  | .nil => 1
  | .ptr d => uptoBulk d + 1
  | .slice elems spare => uptoBulkAll elems + uptoBulkAll spare + 1
  | .agg parts => uptoBulkAll parts + 1
  | .iface _ d => uptoBulk d + 1
  | .map entries => uptoBulkEntries entries + 1
  | .held _ => 1
def uptoBulkAll {H : Type} : List (DataW H) → Nat
  | [] => 0
  | d :: r => uptoBulk d + uptoBulkAll r
def uptoBulkEntries {H : Type} : List (Lit × DataW H) → Nat
  | [] => 0
  | x :: r => uptoBulkEntry x + uptoBulkEntries r
def uptoBulkEntry {H : Type} : Lit × DataW H → Nat
  | (.string bytes, d) => bytes.length + uptoBulk d + 1
  | (_, d) => uptoBulk d + 1
 end
def uptoSmall : (H : Type) → List (DataW H) → Bool := fun _ ds => decide (uptoBulkAll ds ≤ 1048576)
def OpenSpec.upto (s : _root_.Go.ChangeSpec) : _root_.Go.OpenSpec := { _root_.Go.OpenSpec.ofChange s with cond := some uptoSmall }

/-- 'pumicelaw11.WbufPlays', WHERE WHAT IT READS IS OF BULK AT MOST 1048576: true; the input reads as it did. -/
def wbufPlaysUptoRow : OpenClaim := { program := "yteodcjbbkekidaagreatdoor", sum := "f23d70acd6aeb51e8bbf7fd20909bae0d21fe6e9d1a8a1124aae1f71c6ac0fd4", func := "pumice/pumicelaw11.WbufPlays", spec := "wbufPlays", inPlace := ["internal/bytealg.MakeNoZero", "internal/reflectlite.TypeOf", "internal/reflectlite.ValueOf", "(internal/reflectlite.Value).Type", "(internal/reflectlite.Value).IsNil", "(internal/reflectlite.Value).Elem", "(internal/reflectlite.Value).Set"], unfollowed := true, recurses := true, named := ["pumice/header.errNoImage", "errors.errorType"], apart := false, laid := [("errors.errorType", laid_errors_errorType), ("pumice/header.errNoImage", laid_pumice_header_errNoImage)], narrowed := true }
def WbufPlaysUptoSaid : Prop := wbufPlaysUptoRow.holds Tryz.pinned (OpenSpec.upto wbufPlaysSpec)

/-- 'pumicelaw11.WbufOpens', WHERE WHAT IT READS IS OF BULK AT MOST 1048576: true; the input reads as it did. -/
def wbufOpensUptoRow : OpenClaim := { program := "yteodcjbbkekidaagreatdoor", sum := "f23d70acd6aeb51e8bbf7fd20909bae0d21fe6e9d1a8a1124aae1f71c6ac0fd4", func := "pumice/pumicelaw11.WbufOpens", spec := "wbufOpens", inPlace := ["internal/bytealg.MakeNoZero", "internal/reflectlite.TypeOf", "internal/reflectlite.ValueOf", "(internal/reflectlite.Value).Type", "(internal/reflectlite.Value).IsNil", "(internal/reflectlite.Value).Elem", "(internal/reflectlite.Value).Set"], unfollowed := true, recurses := true, named := ["pumice/header.errNoImage", "errors.errorType"], apart := false, laid := [("errors.errorType", laid_errors_errorType), ("pumice/header.errNoImage", laid_pumice_header_errNoImage)], narrowed := true }
def WbufOpensUptoSaid : Prop := wbufOpensUptoRow.holds Tryz.pinned (OpenSpec.upto wbufOpensSpec)

/-- 'pumicelaw11.WbufOthers', WHERE WHAT IT READS IS OF BULK AT MOST 1048576: true; the input reads as it did. -/
def wbufOthersUptoRow : OpenClaim := { program := "yteodcjbbkekidaagreatdoor", sum := "f23d70acd6aeb51e8bbf7fd20909bae0d21fe6e9d1a8a1124aae1f71c6ac0fd4", func := "pumice/pumicelaw11.WbufOthers", spec := "wbufOthers", inPlace := ["internal/bytealg.MakeNoZero", "internal/reflectlite.TypeOf", "internal/reflectlite.ValueOf", "(internal/reflectlite.Value).Type", "(internal/reflectlite.Value).IsNil", "(internal/reflectlite.Value).Elem", "(internal/reflectlite.Value).Set"], unfollowed := true, recurses := true, named := ["pumice/header.errNoImage", "errors.errorType"], apart := false, laid := [("errors.errorType", laid_errors_errorType), ("pumice/header.errNoImage", laid_pumice_header_errNoImage)], narrowed := true }
def WbufOthersUptoSaid : Prop := wbufOthersUptoRow.holds Tryz.pinned (OpenSpec.upto wbufOthersSpec)

/-- 'pumicelaw11.WbufFits', WHERE WHAT IT READS IS OF BULK AT MOST 1048576: true; the input reads as it did. -/
def wbufFitsUptoRow : OpenClaim := { program := "yteodcjbbkekidaagreatdoor", sum := "f23d70acd6aeb51e8bbf7fd20909bae0d21fe6e9d1a8a1124aae1f71c6ac0fd4", func := "pumice/pumicelaw11.WbufFits", spec := "wbufFits", inPlace := ["internal/reflectlite.TypeOf", "internal/bytealg.MakeNoZero", "internal/reflectlite.ValueOf", "(internal/reflectlite.Value).Type", "(internal/reflectlite.Value).IsNil", "(internal/reflectlite.Value).Elem", "(internal/reflectlite.Value).Set"], unfollowed := true, recurses := true, named := ["errors.errorType", "pumice/header.errNoImage"], apart := false, laid := [("errors.errorType", laid_errors_errorType), ("pumice/header.errNoImage", laid_pumice_header_errNoImage)], narrowed := true }
def WbufFitsUptoSaid : Prop := wbufFitsUptoRow.holds Tryz.pinned (OpenSpec.upto wbufFitsSpec)

/-- 'pumicelaw11.WbufRoom', WHERE WHAT IT READS IS OF BULK AT MOST 1048576: true; the input reads as it did. -/
def wbufRoomUptoRow : OpenClaim := { program := "yteodcjbbkekidaagreatdoor", sum := "f23d70acd6aeb51e8bbf7fd20909bae0d21fe6e9d1a8a1124aae1f71c6ac0fd4", func := "pumice/pumicelaw11.WbufRoom", spec := "wbufRoom", inPlace := ["internal/bytealg.MakeNoZero", "internal/reflectlite.TypeOf", "internal/reflectlite.ValueOf", "(internal/reflectlite.Value).Type", "(internal/reflectlite.Value).IsNil", "(internal/reflectlite.Value).Elem", "(internal/reflectlite.Value).Set"], unfollowed := true, recurses := true, named := ["pumice/header.errNoImage", "errors.errorType"], apart := false, laid := [("errors.errorType", laid_errors_errorType), ("pumice/header.errNoImage", laid_pumice_header_errNoImage)], narrowed := true }
def WbufRoomUptoSaid : Prop := wbufRoomUptoRow.holds Tryz.pinned (OpenSpec.upto wbufRoomSpec)

end Rows
end Go.Proofs.YteodcjbbkekidaaGreatDoor
