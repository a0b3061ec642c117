/-
  No cell of these rows narrows 'for every input' (looked for: loops, veiled, ifaces, maps, wideKeys, modest, calm, conditions, laid).
  DERIVED. THE GIVEN ROWS OF THIS SEAT. 2 by the template 'for every input the law returns true; each argument reads behind the call as it read before'; 0 by the template 'total and deterministic' (their statements: YtfmgaahileknfaaTotals.lean).
  GIVEN WITH THE SEED: the statements are not yours to turn. If you find one false, say at which input.
  Laid BY PROGRAM, IN A SANDBOX (cutbox-rows.mjs): the forced cells as the released guide's own fill.sh prints them over the translation eeeb997144d0df2d… (all of the seat's roots in one cut). By AI agents, Wed Nov 11 2026. No macro, syntax, notation, axiom, sorry.
-/
import Derived.Test.YtfmgaahileknfaaChecked
import GoSem.Claim
import GoSem.ClaimJoined
import GoSem.ClaimMapViews
import Derived.JoinedTies
import Derived.KernelRfl
namespace Go.Proofs.Ytfmgaahileknfaa
/- THE CELL 'sum', in the pinned program and in every row, IS THE sha256 OF THE DUMP (.gsa) THAT YtfmgaahileknfaaProg.lean LOADS. Nothing in Lean hashes anything: it is a label: what it is worth is what the hold of that sum in a sandbox is worth. -/
noncomputable def Try.pinned : Pinned := { name := "ytfmgaahileknfaa", sum := "eeeb997144d0df2d40ff9c9ef0b76f6cf1941907870183c35a398de4db2e03f8", checked := Try.checked }
namespace Rows
def none {H : Type} : Left H := { results := [], args := [] }

/-- 'pumicelaw10.ImageSplits': WHATEVER THE INPUT: true; the input reads as it did. -/
def imageSplitsSpec : ChangeSpec := { name := "imageSplits", fn := fun _ => fun
  | [d1, d2, d3] => { results := [.lit (.bool true)], args := [d1, d2, d3] }
  | _ => none }
def imageSplitsRow : OpenClaim := { program := "ytfmgaahileknfaa", sum := "eeeb997144d0df2d40ff9c9ef0b76f6cf1941907870183c35a398de4db2e03f8", func := "pumice/pumicelaw10.ImageSplits", spec := "imageSplits", apart := false }
def ImageSplitsSaid : Prop := imageSplitsRow.holds Try.pinned (OpenSpec.ofChange imageSplitsSpec)

/-- ITS FALSE NEIGHBOUR: 'it returns false'. Refute it at one input. -/
def imageSplitsWrong : ChangeSpec := { name := "imageSplits", fn := fun _ => fun
  | [d1, d2, d3] => { results := [.lit (.bool false)], args := [d1, d2, d3] }
  | _ => none }
def ImageSplitsWrongFalsely : Prop := imageSplitsRow.holds Try.pinned (OpenSpec.ofChange imageSplitsWrong)

/-- 'pumicelaw10.ImageBound': WHATEVER THE INPUT: true; the input reads as it did. -/
def imageBoundSpec : ChangeSpec := { name := "imageBound", fn := fun _ => fun
  | [d] => { results := [.lit (.bool true)], args := [d] }
  | _ => none }
def imageBoundRow : OpenClaim := { program := "ytfmgaahileknfaa", sum := "eeeb997144d0df2d40ff9c9ef0b76f6cf1941907870183c35a398de4db2e03f8", func := "pumice/pumicelaw10.ImageBound", spec := "imageBound", apart := false }
def ImageBoundSaid : Prop := imageBoundRow.holds Try.pinned (OpenSpec.ofChange imageBoundSpec)

/-- ITS FALSE NEIGHBOUR: 'it returns false'. Refute it at one input. -/
def imageBoundWrong : ChangeSpec := { name := "imageBound", fn := fun _ => fun
  | [d] => { results := [.lit (.bool false)], args := [d] }
  | _ => none }
def ImageBoundWrongFalsely : Prop := imageBoundRow.holds Try.pinned (OpenSpec.ofChange imageBoundWrong)

/- THE SECOND FORM. 'bulk': how many values and letters a reading holds, each counted each time it is reached (what is shared counts as often as it is met; a slice's spare places count too). A statement '..UptoSaid' is the law's where the arguments, and the package variables that the reading takes, are together of bulk at most 1048576: NARROWER than '..Said'. Prove '..Said' where nothing that the law and all that it calls make is longer than what came in: it says more and counts as full. Else prove '..UptoSaid'. A law counts once. -/
mutual
def uptoBulk {H : Type} : DataW H → Nat
  | .lit (.string bytes) => bytes.length + 1
  | .lit _ => 1
  | .nil => 1
  | .ptr d => uptoBulk d + 1
  | .slice elems spare => uptoBulkAll elems + uptoBulkAll spare + 1
  | .agg parts => uptoBulkAll parts + 1
  | .iface _ d => uptoBulk d + 1
  | .map entries => uptoBulkEntries entries + 1
  | .held _ => 1
def uptoBulkAll {H : Type} : List (DataW H) → Nat
  | [] => 0
  | d :: r => uptoBulk d + uptoBulkAll r
def uptoBulkEntries {H : Type} : List (Lit × DataW H) → Nat
  | [] => 0
  | x :: r => uptoBulkEntry x + uptoBulkEntries r
def uptoBulkEntry {H : Type} : Lit × DataW H → Nat
  | (.string bytes, d) => bytes.length + uptoBulk d + 1
  | (_, d) => uptoBulk d + 1
 end
def uptoSmall : (H : Type) → List (DataW H) → Bool := fun _ ds => decide (uptoBulkAll ds ≤ 1048576)
def OpenSpec.upto (s : _root_.Go.ChangeSpec) : _root_.Go.OpenSpec := { _root_.Go.OpenSpec.ofChange s with cond := some uptoSmall }

/-- 'pumicelaw10.ImageSplits', WHERE WHAT IT READS IS OF BULK AT MOST 1048576: true; the input reads as it did. -/
def imageSplitsUptoRow : OpenClaim := { program := "ytfmgaahileknfaa", sum := "eeeb997144d0df2d40ff9c9ef0b76f6cf1941907870183c35a398de4db2e03f8", func := "pumice/pumicelaw10.ImageSplits", spec := "imageSplits", apart := false, narrowed := true }
def ImageSplitsUptoSaid : Prop := imageSplitsUptoRow.holds Try.pinned (OpenSpec.upto imageSplitsSpec)

/-- 'pumicelaw10.ImageBound', WHERE WHAT IT READS IS OF BULK AT MOST 1048576: true; the input reads as it did. -/
def imageBoundUptoRow : OpenClaim := { program := "ytfmgaahileknfaa", sum := "eeeb997144d0df2d40ff9c9ef0b76f6cf1941907870183c35a398de4db2e03f8", func := "pumice/pumicelaw10.ImageBound", spec := "imageBound", apart := false, narrowed := true }
def ImageBoundUptoSaid : Prop := imageBoundUptoRow.holds Try.pinned (OpenSpec.upto imageBoundSpec)

end Rows
end Go.Proofs.Ytfmgaahileknfaa
