/-
  NARROWER THAN 'FOR EVERY INPUT', by the rows' own cells (each row's printed sentence says how): ScanScans: laid · ScanLooks: laid · ScanOnce: laid · ScanNewer: laid.
  DERIVED. THE GIVEN ROWS OF THIS SEAT. 4 by the template 'for every input the law returns true; each argument reads behind the call as it read before'; 0 by the template 'total and deterministic' (their statements: YteoakhfofnocfaaGreatDoorTotals.lean).
  GIVEN WITH THE SEED: the statements are not yours to turn. If you find one false, say at which input.
  Laid BY PROGRAM, IN A SANDBOX (cutbox-rows.mjs): the forced cells as the released guide's own fill.sh prints them over the translation fb3574ec275f884e… (all of the seat's roots in one cut). By AI agents, Wed Nov 11 2026. No macro, syntax, notation, axiom, sorry.
-/
import Derived.Test.YteoakhfofnocfaaGreatDoorChecked
import GoSem.Claim
import GoSem.ClaimJoined
import GoSem.ClaimMapViews
import Derived.JoinedTies
import Derived.KernelRfl
namespace Go.Proofs.YteoakhfofnocfaaGreatDoor
/- THE CELL 'sum', in the pinned program and in every row, IS THE sha256 OF THE DUMP (.gsa) THAT YteoakhfofnocfaaGreatDoorProg.lean LOADS. Nothing in Lean hashes anything: it is a label: what it is worth is what the hold of that sum in a sandbox is worth. -/
noncomputable def Tryz.pinned : Pinned := { name := "yteoakhfofnocfaagreatdoor", sum := "fb3574ec275f884eeafcf5d6894fda977e6bc3070f06ede471bd335a6c860724", checked := Tryz.checked }
namespace Rows
def none {H : Type} : Left H := { results := [], args := [] }

/- WHAT THE LISTED PACKAGE-LEVEL VARIABLES READ AS WHEN THE CALL BEGINS. Each datum BY PROGRAM (the guide's laid-datum.mjs) off the statement by which the dump's own 'gosem.cut.vars' lays the variable. In a bare row this is a premise. The card (YteoakhfofnocfaaGreatDoorCards.lean) ties it to the program's text. -/
def laid_pumice_header_errNoImage {H : Type} : DataW H := .iface "*errors.errorString" (.ptr (.agg [.lit (.string [110, 111, 32, 99, 97, 108, 108, 32, 109, 97, 107, 101, 115, 32, 115, 117, 99, 104, 32, 97, 32, 112, 97, 103, 101])]))

/-- 'pumicelaw07.ScanScans': WHATEVER THE INPUT: true; the input reads as it did. -/
def scanScansSpec : ChangeSpec := { name := "scanScans", fn := fun _ => fun
  | [d1, d2] => { results := [.lit (.bool true)], args := [d1, d2] }
  | _ => none }
def scanScansRow : OpenClaim := { program := "yteoakhfofnocfaagreatdoor", sum := "fb3574ec275f884eeafcf5d6894fda977e6bc3070f06ede471bd335a6c860724", func := "pumice/pumicelaw07.ScanScans", spec := "scanScans", inPlace := ["internal/bytealg.MakeNoZero"], unfollowed := true, recurses := true, named := ["pumice/header.errNoImage"], apart := false, laid := [("pumice/header.errNoImage", laid_pumice_header_errNoImage)] }
def ScanScansSaid : Prop := scanScansRow.holds Tryz.pinned (OpenSpec.ofChange scanScansSpec)

/-- ITS FALSE NEIGHBOUR: 'it returns false'. Refute it at one input. -/
def scanScansWrong : ChangeSpec := { name := "scanScans", fn := fun _ => fun
  | [d1, d2] => { results := [.lit (.bool false)], args := [d1, d2] }
  | _ => none }
def ScanScansWrongFalsely : Prop := scanScansRow.holds Tryz.pinned (OpenSpec.ofChange scanScansWrong)

/-- 'pumicelaw07.ScanLooks': WHATEVER THE INPUT: true; the input reads as it did. -/
def scanLooksSpec : ChangeSpec := { name := "scanLooks", fn := fun _ => fun
  | [d1, d2] => { results := [.lit (.bool true)], args := [d1, d2] }
  | _ => none }
def scanLooksRow : OpenClaim := { program := "yteoakhfofnocfaagreatdoor", sum := "fb3574ec275f884eeafcf5d6894fda977e6bc3070f06ede471bd335a6c860724", func := "pumice/pumicelaw07.ScanLooks", spec := "scanLooks", inPlace := ["internal/bytealg.MakeNoZero"], unfollowed := true, recurses := true, named := ["pumice/header.errNoImage"], apart := false, laid := [("pumice/header.errNoImage", laid_pumice_header_errNoImage)] }
def ScanLooksSaid : Prop := scanLooksRow.holds Tryz.pinned (OpenSpec.ofChange scanLooksSpec)

/-- ITS FALSE NEIGHBOUR: 'it returns false'. Refute it at one input. -/
def scanLooksWrong : ChangeSpec := { name := "scanLooks", fn := fun _ => fun
  | [d1, d2] => { results := [.lit (.bool false)], args := [d1, d2] }
  | _ => none }
def ScanLooksWrongFalsely : Prop := scanLooksRow.holds Tryz.pinned (OpenSpec.ofChange scanLooksWrong)

/-- 'pumicelaw07.ScanOnce': WHATEVER THE INPUT: true; the input reads as it did. -/
def scanOnceSpec : ChangeSpec := { name := "scanOnce", fn := fun _ => fun
  | [d1, d2] => { results := [.lit (.bool true)], args := [d1, d2] }
  | _ => none }
def scanOnceRow : OpenClaim := { program := "yteoakhfofnocfaagreatdoor", sum := "fb3574ec275f884eeafcf5d6894fda977e6bc3070f06ede471bd335a6c860724", func := "pumice/pumicelaw07.ScanOnce", spec := "scanOnce", inPlace := ["internal/bytealg.MakeNoZero"], unfollowed := true, recurses := true, named := ["pumice/header.errNoImage"], apart := false, laid := [("pumice/header.errNoImage", laid_pumice_header_errNoImage)] }
def ScanOnceSaid : Prop := scanOnceRow.holds Tryz.pinned (OpenSpec.ofChange scanOnceSpec)

/-- ITS FALSE NEIGHBOUR: 'it returns false'. Refute it at one input. -/
def scanOnceWrong : ChangeSpec := { name := "scanOnce", fn := fun _ => fun
  | [d1, d2] => { results := [.lit (.bool false)], args := [d1, d2] }
  | _ => none }
def ScanOnceWrongFalsely : Prop := scanOnceRow.holds Tryz.pinned (OpenSpec.ofChange scanOnceWrong)

/-- 'pumicelaw07.ScanNewer': WHATEVER THE INPUT: true; the input reads as it did. -/
def scanNewerSpec : ChangeSpec := { name := "scanNewer", fn := fun _ => fun
  | [d1, d2, d3, d4] => { results := [.lit (.bool true)], args := [d1, d2, d3, d4] }
  | _ => none }
def scanNewerRow : OpenClaim := { program := "yteoakhfofnocfaagreatdoor", sum := "fb3574ec275f884eeafcf5d6894fda977e6bc3070f06ede471bd335a6c860724", func := "pumice/pumicelaw07.ScanNewer", spec := "scanNewer", inPlace := ["internal/bytealg.MakeNoZero"], unfollowed := true, recurses := true, named := ["pumice/header.errNoImage"], apart := false, laid := [("pumice/header.errNoImage", laid_pumice_header_errNoImage)] }
def ScanNewerSaid : Prop := scanNewerRow.holds Tryz.pinned (OpenSpec.ofChange scanNewerSpec)

/-- ITS FALSE NEIGHBOUR: 'it returns false'. Refute it at one input. -/
def scanNewerWrong : ChangeSpec := { name := "scanNewer", fn := fun _ => fun
  | [d1, d2, d3, d4] => { results := [.lit (.bool false)], args := [d1, d2, d3, d4] }
  | _ => none }
def ScanNewerWrongFalsely : Prop := scanNewerRow.holds Tryz.pinned (OpenSpec.ofChange scanNewerWrong)

/- THE SECOND FORM. 'bulk': how many values and letters a reading holds, each counted each time it is reached (what is shared counts as often as it is met; a slice's spare places count too). A statement '..UptoSaid' is the law's where the arguments, and the package variables that the reading takes, are together of bulk at most 1048576: NARROWER than '..Said'. Prove '..Said' where nothing that the law and all that it calls make is longer than what came in: it says more and counts as full. Else prove '..UptoSaid'. A law counts once. -/
mutual
def uptoBulk {H : Type} : DataW H → Nat
  | .lit (.string bytes) => bytes.length + 1
  | .lit _ => 1
  | .nil => 1
  | .ptr d => uptoBulk d + 1
  | .slice elems spare => uptoBulkAll elems + uptoBulkAll spare + 1
  | .agg parts => uptoBulkAll parts + 1
  | .iface _ d => uptoBulk d + 1
  | .map entries => uptoBulkEntries entries + 1
  | .held _ => 1
def uptoBulkAll {H : Type} : List (DataW H) → Nat
  | [] => 0
  | d :: r => uptoBulk d + uptoBulkAll r
def uptoBulkEntries {H : Type} : List (Lit × DataW H) → Nat
  | [] => 0
  | x :: r => uptoBulkEntry x + uptoBulkEntries r
def uptoBulkEntry {H : Type} : Lit × DataW H → Nat
  | (.string bytes, d) => bytes.length + uptoBulk d + 1
  | (_, d) => uptoBulk d + 1
 end
def uptoSmall : (H : Type) → List (DataW H) → Bool := fun _ ds => decide (uptoBulkAll ds ≤ 1048576)
def OpenSpec.upto (s : _root_.Go.ChangeSpec) : _root_.Go.OpenSpec := { _root_.Go.OpenSpec.ofChange s with cond := some uptoSmall }

/-- 'pumicelaw07.ScanScans', WHERE WHAT IT READS IS OF BULK AT MOST 1048576: true; the input reads as it did. -/
def scanScansUptoRow : OpenClaim := { program := "yteoakhfofnocfaagreatdoor", sum := "fb3574ec275f884eeafcf5d6894fda977e6bc3070f06ede471bd335a6c860724", func := "pumice/pumicelaw07.ScanScans", spec := "scanScans", inPlace := ["internal/bytealg.MakeNoZero"], unfollowed := true, recurses := true, named := ["pumice/header.errNoImage"], apart := false, laid := [("pumice/header.errNoImage", laid_pumice_header_errNoImage)], narrowed := true }
def ScanScansUptoSaid : Prop := scanScansUptoRow.holds Tryz.pinned (OpenSpec.upto scanScansSpec)

/-- 'pumicelaw07.ScanLooks', WHERE WHAT IT READS IS OF BULK AT MOST 1048576: true; the input reads as it did. -/
def scanLooksUptoRow : OpenClaim := { program := "yteoakhfofnocfaagreatdoor", sum := "fb3574ec275f884eeafcf5d6894fda977e6bc3070f06ede471bd335a6c860724", func := "pumice/pumicelaw07.ScanLooks", spec := "scanLooks", inPlace := ["internal/bytealg.MakeNoZero"], unfollowed := true, recurses := true, named := ["pumice/header.errNoImage"], apart := false, laid := [("pumice/header.errNoImage", laid_pumice_header_errNoImage)], narrowed := true }
def ScanLooksUptoSaid : Prop := scanLooksUptoRow.holds Tryz.pinned (OpenSpec.upto scanLooksSpec)

/-- 'pumicelaw07.ScanOnce', WHERE WHAT IT READS IS OF BULK AT MOST 1048576: true; the input reads as it did. -/
def scanOnceUptoRow : OpenClaim := { program := "yteoakhfofnocfaagreatdoor", sum := "fb3574ec275f884eeafcf5d6894fda977e6bc3070f06ede471bd335a6c860724", func := "pumice/pumicelaw07.ScanOnce", spec := "scanOnce", inPlace := ["internal/bytealg.MakeNoZero"], unfollowed := true, recurses := true, named := ["pumice/header.errNoImage"], apart := false, laid := [("pumice/header.errNoImage", laid_pumice_header_errNoImage)], narrowed := true }
def ScanOnceUptoSaid : Prop := scanOnceUptoRow.holds Tryz.pinned (OpenSpec.upto scanOnceSpec)

/-- 'pumicelaw07.ScanNewer', WHERE WHAT IT READS IS OF BULK AT MOST 1048576: true; the input reads as it did. -/
def scanNewerUptoRow : OpenClaim := { program := "yteoakhfofnocfaagreatdoor", sum := "fb3574ec275f884eeafcf5d6894fda977e6bc3070f06ede471bd335a6c860724", func := "pumice/pumicelaw07.ScanNewer", spec := "scanNewer", inPlace := ["internal/bytealg.MakeNoZero"], unfollowed := true, recurses := true, named := ["pumice/header.errNoImage"], apart := false, laid := [("pumice/header.errNoImage", laid_pumice_header_errNoImage)], narrowed := true }
def ScanNewerUptoSaid : Prop := scanNewerUptoRow.holds Tryz.pinned (OpenSpec.upto scanNewerSpec)

end Rows
end Go.Proofs.YteoakhfofnocfaaGreatDoor
