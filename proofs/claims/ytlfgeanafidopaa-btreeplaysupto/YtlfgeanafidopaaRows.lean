/-
  No cell of these rows narrows 'for every input' (looked for: loops, veiled, ifaces, maps, wideKeys, modest, calm, conditions, laid).
  DERIVED. THE GIVEN ROWS OF THIS SEAT. 6 by the template 'for every input the law returns true; each argument reads behind the call as it read before'; 0 by the template 'total and deterministic' (their statements: YtlfgeanafidopaaTotals.lean).
  GIVEN WITH THE SEED: the statements are not yours to turn. If you find one false, say at which input.
  Laid BY PROGRAM, IN A SANDBOX (cutbox-rows.mjs): the forced cells as the released guide's own fill.sh prints them over the translation 876e459817f21d83… (all of the seat's roots in one cut). By AI agents, Wed Nov 11 2026. No macro, syntax, notation, axiom, sorry.
-/
import Derived.Test.YtlfgeanafidopaaChecked
import GoSem.Claim
import GoSem.ClaimJoined
import GoSem.ClaimMapViews
import Derived.JoinedTies
import Derived.KernelRfl
namespace Go.Proofs.Ytlfgeanafidopaa
/- THE CELL 'sum', in the pinned program and in every row, IS THE sha256 OF THE DUMP (.gsa) THAT YtlfgeanafidopaaProg.lean LOADS. Nothing in Lean hashes anything: it is a label: what it is worth is what the hold of that sum in a sandbox is worth. -/
noncomputable def Try.pinned : Pinned := { name := "ytlfgeanafidopaa", sum := "876e459817f21d837004ffeab30b1be62515a27b5ff9cd02535e19bbdb61858a", checked := Try.checked }
namespace Rows
def none {H : Type} : Left H := { results := [], args := [] }

/-- 'pumicelaw08.BtreePlays': WHATEVER THE INPUT: true; the input reads as it did. -/
def btreePlaysSpec : ChangeSpec := { name := "btreePlays", fn := fun _ => fun
  | [d1, d2, d3] => { results := [.lit (.bool true)], args := [d1, d2, d3] }
  | _ => none }
def btreePlaysRow : OpenClaim := { program := "ytlfgeanafidopaa", sum := "876e459817f21d837004ffeab30b1be62515a27b5ff9cd02535e19bbdb61858a", func := "pumice/pumicelaw08.BtreePlays", spec := "btreePlays", inPlace := ["slices.overlaps[pumice/btree.slot]"], unfollowed := true, recurses := true, apart := false }
def BtreePlaysSaid : Prop := btreePlaysRow.holds Try.pinned (OpenSpec.ofChange btreePlaysSpec)

/-- ITS FALSE NEIGHBOUR: 'it returns false'. Refute it at one input. -/
def btreePlaysWrong : ChangeSpec := { name := "btreePlays", fn := fun _ => fun
  | [d1, d2, d3] => { results := [.lit (.bool false)], args := [d1, d2, d3] }
  | _ => none }
def BtreePlaysWrongFalsely : Prop := btreePlaysRow.holds Try.pinned (OpenSpec.ofChange btreePlaysWrong)

/-- 'pumicelaw08.BtreeHeight': WHATEVER THE INPUT: true; the input reads as it did. -/
def btreeHeightSpec : ChangeSpec := { name := "btreeHeight", fn := fun _ => fun
  | [d1, d2] => { results := [.lit (.bool true)], args := [d1, d2] }
  | _ => none }
def btreeHeightRow : OpenClaim := { program := "ytlfgeanafidopaa", sum := "876e459817f21d837004ffeab30b1be62515a27b5ff9cd02535e19bbdb61858a", func := "pumice/pumicelaw08.BtreeHeight", spec := "btreeHeight", inPlace := ["slices.overlaps[pumice/btree.slot]"], unfollowed := true, recurses := true, apart := false }
def BtreeHeightSaid : Prop := btreeHeightRow.holds Try.pinned (OpenSpec.ofChange btreeHeightSpec)

/-- ITS FALSE NEIGHBOUR: 'it returns false'. Refute it at one input. -/
def btreeHeightWrong : ChangeSpec := { name := "btreeHeight", fn := fun _ => fun
  | [d1, d2] => { results := [.lit (.bool false)], args := [d1, d2] }
  | _ => none }
def BtreeHeightWrongFalsely : Prop := btreeHeightRow.holds Try.pinned (OpenSpec.ofChange btreeHeightWrong)

/-- 'pumicelaw08.BtreeDirty': WHATEVER THE INPUT: true; the input reads as it did. -/
def btreeDirtySpec : ChangeSpec := { name := "btreeDirty", fn := fun _ => fun
  | [d1, d2, d3, d4, d5] => { results := [.lit (.bool true)], args := [d1, d2, d3, d4, d5] }
  | _ => none }
def btreeDirtyRow : OpenClaim := { program := "ytlfgeanafidopaa", sum := "876e459817f21d837004ffeab30b1be62515a27b5ff9cd02535e19bbdb61858a", func := "pumice/pumicelaw08.BtreeDirty", spec := "btreeDirty", inPlace := ["slices.overlaps[pumice/btree.slot]"], unfollowed := true, recurses := true, apart := false }
def BtreeDirtySaid : Prop := btreeDirtyRow.holds Try.pinned (OpenSpec.ofChange btreeDirtySpec)

/-- ITS FALSE NEIGHBOUR: 'it returns false'. Refute it at one input. -/
def btreeDirtyWrong : ChangeSpec := { name := "btreeDirty", fn := fun _ => fun
  | [d1, d2, d3, d4, d5] => { results := [.lit (.bool false)], args := [d1, d2, d3, d4, d5] }
  | _ => none }
def BtreeDirtyWrongFalsely : Prop := btreeDirtyRow.holds Try.pinned (OpenSpec.ofChange btreeDirtyWrong)

/-- 'pumicelaw08.BtreeClones': WHATEVER THE INPUT: true; the input reads as it did. -/
def btreeClonesSpec : ChangeSpec := { name := "btreeClones", fn := fun _ => fun
  | [d1, d2, d3] => { results := [.lit (.bool true)], args := [d1, d2, d3] }
  | _ => none }
def btreeClonesRow : OpenClaim := { program := "ytlfgeanafidopaa", sum := "876e459817f21d837004ffeab30b1be62515a27b5ff9cd02535e19bbdb61858a", func := "pumice/pumicelaw08.BtreeClones", spec := "btreeClones", inPlace := ["slices.overlaps[pumice/btree.slot]"], unfollowed := true, recurses := true, apart := false }
def BtreeClonesSaid : Prop := btreeClonesRow.holds Try.pinned (OpenSpec.ofChange btreeClonesSpec)

/-- ITS FALSE NEIGHBOUR: 'it returns false'. Refute it at one input. -/
def btreeClonesWrong : ChangeSpec := { name := "btreeClones", fn := fun _ => fun
  | [d1, d2, d3] => { results := [.lit (.bool false)], args := [d1, d2, d3] }
  | _ => none }
def BtreeClonesWrongFalsely : Prop := btreeClonesRow.holds Try.pinned (OpenSpec.ofChange btreeClonesWrong)

/-- 'pumicelaw08.BtreeParts': WHATEVER THE INPUT: true; the input reads as it did. -/
def btreePartsSpec : ChangeSpec := { name := "btreeParts", fn := fun _ => fun
  | [d1, d2, d3, d4, d5] => { results := [.lit (.bool true)], args := [d1, d2, d3, d4, d5] }
  | _ => none }
def btreePartsRow : OpenClaim := { program := "ytlfgeanafidopaa", sum := "876e459817f21d837004ffeab30b1be62515a27b5ff9cd02535e19bbdb61858a", func := "pumice/pumicelaw08.BtreeParts", spec := "btreeParts", inPlace := ["slices.overlaps[pumice/btree.slot]"], unfollowed := true, recurses := true, apart := false }
def BtreePartsSaid : Prop := btreePartsRow.holds Try.pinned (OpenSpec.ofChange btreePartsSpec)

/-- ITS FALSE NEIGHBOUR: 'it returns false'. Refute it at one input. -/
def btreePartsWrong : ChangeSpec := { name := "btreeParts", fn := fun _ => fun
  | [d1, d2, d3, d4, d5] => { results := [.lit (.bool false)], args := [d1, d2, d3, d4, d5] }
  | _ => none }
def BtreePartsWrongFalsely : Prop := btreePartsRow.holds Try.pinned (OpenSpec.ofChange btreePartsWrong)

/-- 'pumicelaw08.BtreeOrder': WHATEVER THE INPUT: true; the input reads as it did. -/
def btreeOrderSpec : ChangeSpec := { name := "btreeOrder", fn := fun _ => fun
  | [d1, d2] => { results := [.lit (.bool true)], args := [d1, d2] }
  | _ => none }
def btreeOrderRow : OpenClaim := { program := "ytlfgeanafidopaa", sum := "876e459817f21d837004ffeab30b1be62515a27b5ff9cd02535e19bbdb61858a", func := "pumice/pumicelaw08.BtreeOrder", spec := "btreeOrder", inPlace := ["slices.overlaps[pumice/btree.slot]"], unfollowed := true, recurses := true, apart := false }
def BtreeOrderSaid : Prop := btreeOrderRow.holds Try.pinned (OpenSpec.ofChange btreeOrderSpec)

/-- ITS FALSE NEIGHBOUR: 'it returns false'. Refute it at one input. -/
def btreeOrderWrong : ChangeSpec := { name := "btreeOrder", fn := fun _ => fun
  | [d1, d2] => { results := [.lit (.bool false)], args := [d1, d2] }
  | _ => none }
def BtreeOrderWrongFalsely : Prop := btreeOrderRow.holds Try.pinned (OpenSpec.ofChange btreeOrderWrong)

/- THE SECOND FORM. 'bulk': how many values and letters a reading holds, each counted each time it is reached (what is shared counts as often as it is met; a slice's spare places count too). A statement '..UptoSaid' is the law's where the arguments, and the package variables that the reading takes, are together of bulk at most 1048576: NARROWER than '..Said'. Prove '..Said' where nothing that the law and all that it calls make is longer than what came in: it says more and counts as full. Else prove '..UptoSaid'. A law counts once. -/
mutual
def uptoBulk {H : Type} : DataW H → Nat
  | .lit (.string bytes) => bytes.length + 1
  | .lit _ => 1
  | .nil => 1
  | .ptr d => uptoBulk d + 1
  | .slice elems spare => uptoBulkAll elems + uptoBulkAll spare + 1
  | .agg parts => uptoBulkAll parts + 1
  | .iface _ d => uptoBulk d + 1
  | .map entries => uptoBulkEntries entries + 1
  | .held _ => 1
def uptoBulkAll {H : Type} : List (DataW H) → Nat
  | [] => 0
  | d :: r => uptoBulk d + uptoBulkAll r
def uptoBulkEntries {H : Type} : List (Lit × DataW H) → Nat
  | [] => 0
  | x :: r => uptoBulkEntry x + uptoBulkEntries r
def uptoBulkEntry {H : Type} : Lit × DataW H → Nat
  | (.string bytes, d) => bytes.length + uptoBulk d + 1
  | (_, d) => uptoBulk d + 1
 end
def uptoSmall : (H : Type) → List (DataW H) → Bool := fun _ ds => decide (uptoBulkAll ds ≤ 1048576)
def OpenSpec.upto (s : _root_.Go.ChangeSpec) : _root_.Go.OpenSpec := { _root_.Go.OpenSpec.ofChange s with cond := some uptoSmall }

/-- 'pumicelaw08.BtreePlays', WHERE WHAT IT READS IS OF BULK AT MOST 1048576: true; the input reads as it did. -/
def btreePlaysUptoRow : OpenClaim := { program := "ytlfgeanafidopaa", sum := "876e459817f21d837004ffeab30b1be62515a27b5ff9cd02535e19bbdb61858a", func := "pumice/pumicelaw08.BtreePlays", spec := "btreePlays", inPlace := ["slices.overlaps[pumice/btree.slot]"], unfollowed := true, recurses := true, apart := false, narrowed := true }
def BtreePlaysUptoSaid : Prop := btreePlaysUptoRow.holds Try.pinned (OpenSpec.upto btreePlaysSpec)

/-- 'pumicelaw08.BtreeHeight', WHERE WHAT IT READS IS OF BULK AT MOST 1048576: true; the input reads as it did. -/
def btreeHeightUptoRow : OpenClaim := { program := "ytlfgeanafidopaa", sum := "876e459817f21d837004ffeab30b1be62515a27b5ff9cd02535e19bbdb61858a", func := "pumice/pumicelaw08.BtreeHeight", spec := "btreeHeight", inPlace := ["slices.overlaps[pumice/btree.slot]"], unfollowed := true, recurses := true, apart := false, narrowed := true }
def BtreeHeightUptoSaid : Prop := btreeHeightUptoRow.holds Try.pinned (OpenSpec.upto btreeHeightSpec)

/-- 'pumicelaw08.BtreeDirty', WHERE WHAT IT READS IS OF BULK AT MOST 1048576: true; the input reads as it did. -/
def btreeDirtyUptoRow : OpenClaim := { program := "ytlfgeanafidopaa", sum := "876e459817f21d837004ffeab30b1be62515a27b5ff9cd02535e19bbdb61858a", func := "pumice/pumicelaw08.BtreeDirty", spec := "btreeDirty", inPlace := ["slices.overlaps[pumice/btree.slot]"], unfollowed := true, recurses := true, apart := false, narrowed := true }
def BtreeDirtyUptoSaid : Prop := btreeDirtyUptoRow.holds Try.pinned (OpenSpec.upto btreeDirtySpec)

/-- 'pumicelaw08.BtreeClones', WHERE WHAT IT READS IS OF BULK AT MOST 1048576: true; the input reads as it did. -/
def btreeClonesUptoRow : OpenClaim := { program := "ytlfgeanafidopaa", sum := "876e459817f21d837004ffeab30b1be62515a27b5ff9cd02535e19bbdb61858a", func := "pumice/pumicelaw08.BtreeClones", spec := "btreeClones", inPlace := ["slices.overlaps[pumice/btree.slot]"], unfollowed := true, recurses := true, apart := false, narrowed := true }
def BtreeClonesUptoSaid : Prop := btreeClonesUptoRow.holds Try.pinned (OpenSpec.upto btreeClonesSpec)

/-- 'pumicelaw08.BtreeParts', WHERE WHAT IT READS IS OF BULK AT MOST 1048576: true; the input reads as it did. -/
def btreePartsUptoRow : OpenClaim := { program := "ytlfgeanafidopaa", sum := "876e459817f21d837004ffeab30b1be62515a27b5ff9cd02535e19bbdb61858a", func := "pumice/pumicelaw08.BtreeParts", spec := "btreeParts", inPlace := ["slices.overlaps[pumice/btree.slot]"], unfollowed := true, recurses := true, apart := false, narrowed := true }
def BtreePartsUptoSaid : Prop := btreePartsUptoRow.holds Try.pinned (OpenSpec.upto btreePartsSpec)

/-- 'pumicelaw08.BtreeOrder', WHERE WHAT IT READS IS OF BULK AT MOST 1048576: true; the input reads as it did. -/
def btreeOrderUptoRow : OpenClaim := { program := "ytlfgeanafidopaa", sum := "876e459817f21d837004ffeab30b1be62515a27b5ff9cd02535e19bbdb61858a", func := "pumice/pumicelaw08.BtreeOrder", spec := "btreeOrder", inPlace := ["slices.overlaps[pumice/btree.slot]"], unfollowed := true, recurses := true, apart := false, narrowed := true }
def BtreeOrderUptoSaid : Prop := btreeOrderUptoRow.holds Try.pinned (OpenSpec.upto btreeOrderSpec)

end Rows
end Go.Proofs.Ytlfgeanafidopaa
