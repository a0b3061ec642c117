/-
  No cell of these rows narrows 'for every input' (looked for: loops, veiled, ifaces, maps, wideKeys, modest, calm, conditions, laid).
  DERIVED. THE GIVEN ROWS OF THIS SEAT. 6 by the template 'for every input the law returns true; each argument reads behind the call as it read before'; 0 by the template 'total and deterministic' (their statements: YtefpcdpclpignaaTotals.lean).
  GIVEN WITH THE SEED: the statements are not yours to turn. If you find one false, say at which input.
  Laid BY PROGRAM, IN A SANDBOX (cutbox-rows.mjs): the forced cells as the released guide's own fill.sh prints them over the translation e0654c466901e651… (all of the seat's roots in one cut). By AI agents, Wed Nov 11 2026. No macro, syntax, notation, axiom, sorry.
-/
import Derived.Test.YtefpcdpclpignaaChecked
import GoSem.Claim
import GoSem.ClaimJoined
import GoSem.ClaimMapViews
import Derived.JoinedTies
import Derived.KernelRfl
namespace Go.Proofs.Ytefpcdpclpignaa
/- THE CELL 'sum', in the pinned program and in every row, IS THE sha256 OF THE DUMP (.gsa) THAT YtefpcdpclpignaaProg.lean LOADS. Nothing in Lean hashes anything: it is a label: what it is worth is what the hold of that sum in a sandbox is worth. -/
noncomputable def Try.pinned : Pinned := { name := "ytefpcdpclpignaa", sum := "e0654c466901e651aa814096cd412afab1b08da368c5c2f24e0b8e27d04181a6", checked := Try.checked }
namespace Rows
def none {H : Type} : Left H := { results := [], args := [] }

/-- 'pumicelaw06.NodeKeys': WHATEVER THE INPUT: true; the input reads as it did. -/
def nodeKeysSpec : ChangeSpec := { name := "nodeKeys", fn := fun _ => fun
  | [d1, d2, d3, d4] => { results := [.lit (.bool true)], args := [d1, d2, d3, d4] }
  | _ => none }
def nodeKeysRow : OpenClaim := { program := "ytefpcdpclpignaa", sum := "e0654c466901e651aa814096cd412afab1b08da368c5c2f24e0b8e27d04181a6", func := "pumice/pumicelaw06.NodeKeys", spec := "nodeKeys", inPlace := ["internal/bytealg.IndexByteString", "internal/bytealg.IndexString"], named := ["internal/bytealg.MaxLen"], apart := false }
def NodeKeysSaid : Prop := nodeKeysRow.holds Try.pinned (OpenSpec.ofChange nodeKeysSpec)

/-- ITS FALSE NEIGHBOUR: 'it returns false'. Refute it at one input. -/
def nodeKeysWrong : ChangeSpec := { name := "nodeKeys", fn := fun _ => fun
  | [d1, d2, d3, d4] => { results := [.lit (.bool false)], args := [d1, d2, d3, d4] }
  | _ => none }
def NodeKeysWrongFalsely : Prop := nodeKeysRow.holds Try.pinned (OpenSpec.ofChange nodeKeysWrong)

/-- 'pumicelaw06.NodeInodes': WHATEVER THE INPUT: true; the input reads as it did. -/
def nodeInodesSpec : ChangeSpec := { name := "nodeInodes", fn := fun _ => fun
  | [d1, d2] => { results := [.lit (.bool true)], args := [d1, d2] }
  | _ => none }
def nodeInodesRow : OpenClaim := { program := "ytefpcdpclpignaa", sum := "e0654c466901e651aa814096cd412afab1b08da368c5c2f24e0b8e27d04181a6", func := "pumice/pumicelaw06.NodeInodes", spec := "nodeInodes", inPlace := ["internal/bytealg.IndexByteString", "internal/bytealg.IndexString"], named := ["internal/bytealg.MaxLen"], apart := false }
def NodeInodesSaid : Prop := nodeInodesRow.holds Try.pinned (OpenSpec.ofChange nodeInodesSpec)

/-- ITS FALSE NEIGHBOUR: 'it returns false'. Refute it at one input. -/
def nodeInodesWrong : ChangeSpec := { name := "nodeInodes", fn := fun _ => fun
  | [d1, d2] => { results := [.lit (.bool false)], args := [d1, d2] }
  | _ => none }
def NodeInodesWrongFalsely : Prop := nodeInodesRow.holds Try.pinned (OpenSpec.ofChange nodeInodesWrong)

/-- 'pumicelaw06.NodeEntries': WHATEVER THE INPUT: true; the input reads as it did. -/
def nodeEntriesSpec : ChangeSpec := { name := "nodeEntries", fn := fun _ => fun
  | [d1, d2, d3, d4, d5] => { results := [.lit (.bool true)], args := [d1, d2, d3, d4, d5] }
  | _ => none }
def nodeEntriesRow : OpenClaim := { program := "ytefpcdpclpignaa", sum := "e0654c466901e651aa814096cd412afab1b08da368c5c2f24e0b8e27d04181a6", func := "pumice/pumicelaw06.NodeEntries", spec := "nodeEntries", inPlace := ["internal/bytealg.IndexByteString", "internal/bytealg.IndexString"], named := ["internal/bytealg.MaxLen"], apart := false }
def NodeEntriesSaid : Prop := nodeEntriesRow.holds Try.pinned (OpenSpec.ofChange nodeEntriesSpec)

/-- ITS FALSE NEIGHBOUR: 'it returns false'. Refute it at one input. -/
def nodeEntriesWrong : ChangeSpec := { name := "nodeEntries", fn := fun _ => fun
  | [d1, d2, d3, d4, d5] => { results := [.lit (.bool false)], args := [d1, d2, d3, d4, d5] }
  | _ => none }
def NodeEntriesWrongFalsely : Prop := nodeEntriesRow.holds Try.pinned (OpenSpec.ofChange nodeEntriesWrong)

/-- 'pumicelaw06.NodePacks': WHATEVER THE INPUT: true; the input reads as it did. -/
def nodePacksSpec : ChangeSpec := { name := "nodePacks", fn := fun _ => fun
  | [d1, d2, d3] => { results := [.lit (.bool true)], args := [d1, d2, d3] }
  | _ => none }
def nodePacksRow : OpenClaim := { program := "ytefpcdpclpignaa", sum := "e0654c466901e651aa814096cd412afab1b08da368c5c2f24e0b8e27d04181a6", func := "pumice/pumicelaw06.NodePacks", spec := "nodePacks", apart := false }
def NodePacksSaid : Prop := nodePacksRow.holds Try.pinned (OpenSpec.ofChange nodePacksSpec)

/-- ITS FALSE NEIGHBOUR: 'it returns false'. Refute it at one input. -/
def nodePacksWrong : ChangeSpec := { name := "nodePacks", fn := fun _ => fun
  | [d1, d2, d3] => { results := [.lit (.bool false)], args := [d1, d2, d3] }
  | _ => none }
def NodePacksWrongFalsely : Prop := nodePacksRow.holds Try.pinned (OpenSpec.ofChange nodePacksWrong)

/-- 'pumicelaw06.NodeUnpacks': WHATEVER THE INPUT: true; the input reads as it did. -/
def nodeUnpacksSpec : ChangeSpec := { name := "nodeUnpacks", fn := fun _ => fun
  | [d] => { results := [.lit (.bool true)], args := [d] }
  | _ => none }
def nodeUnpacksRow : OpenClaim := { program := "ytefpcdpclpignaa", sum := "e0654c466901e651aa814096cd412afab1b08da368c5c2f24e0b8e27d04181a6", func := "pumice/pumicelaw06.NodeUnpacks", spec := "nodeUnpacks", apart := false }
def NodeUnpacksSaid : Prop := nodeUnpacksRow.holds Try.pinned (OpenSpec.ofChange nodeUnpacksSpec)

/-- ITS FALSE NEIGHBOUR: 'it returns false'. Refute it at one input. -/
def nodeUnpacksWrong : ChangeSpec := { name := "nodeUnpacks", fn := fun _ => fun
  | [d] => { results := [.lit (.bool false)], args := [d] }
  | _ => none }
def NodeUnpacksWrongFalsely : Prop := nodeUnpacksRow.holds Try.pinned (OpenSpec.ofChange nodeUnpacksWrong)

/-- 'pumicelaw06.NodeBack': WHATEVER THE INPUT: true; the input reads as it did. -/
def nodeBackSpec : ChangeSpec := { name := "nodeBack", fn := fun _ => fun
  | [d1, d2, d3, d4, d5] => { results := [.lit (.bool true)], args := [d1, d2, d3, d4, d5] }
  | _ => none }
def nodeBackRow : OpenClaim := { program := "ytefpcdpclpignaa", sum := "e0654c466901e651aa814096cd412afab1b08da368c5c2f24e0b8e27d04181a6", func := "pumice/pumicelaw06.NodeBack", spec := "nodeBack", inPlace := ["internal/bytealg.IndexByteString", "internal/bytealg.IndexString"], named := ["internal/bytealg.MaxLen"], apart := false }
def NodeBackSaid : Prop := nodeBackRow.holds Try.pinned (OpenSpec.ofChange nodeBackSpec)

/-- ITS FALSE NEIGHBOUR: 'it returns false'. Refute it at one input. -/
def nodeBackWrong : ChangeSpec := { name := "nodeBack", fn := fun _ => fun
  | [d1, d2, d3, d4, d5] => { results := [.lit (.bool false)], args := [d1, d2, d3, d4, d5] }
  | _ => none }
def NodeBackWrongFalsely : Prop := nodeBackRow.holds Try.pinned (OpenSpec.ofChange nodeBackWrong)

/- THE SECOND FORM. 'bulk': how many values and letters a reading holds, each counted each time it is reached (what is shared counts as often as it is met; a slice's spare places count too). A statement '..UptoSaid' is the law's where the arguments, and the package variables that the reading takes, are together of bulk at most 1048576: NARROWER than '..Said'. Prove '..Said' where nothing that the law and all that it calls make is longer than what came in: it says more and counts as full. Else prove '..UptoSaid'. A law counts once. -/
mutual
def uptoBulk {H : Type} : DataW H → Nat
  | .lit (.string bytes) => bytes.length + 1
  | .lit _ => 1
  | .nil => 1
  | .ptr d => uptoBulk d + 1
  | .slice elems spare => uptoBulkAll elems + uptoBulkAll spare + 1
  | .agg parts => uptoBulkAll parts + 1
  | .iface _ d => uptoBulk d + 1
  | .map entries => uptoBulkEntries entries + 1
  | .held _ => 1
def uptoBulkAll {H : Type} : List (DataW H) → Nat
  | [] => 0
  | d :: r => uptoBulk d + uptoBulkAll r
def uptoBulkEntries {H : Type} : List (Lit × DataW H) → Nat
  | [] => 0
  | x :: r => uptoBulkEntry x + uptoBulkEntries r
def uptoBulkEntry {H : Type} : Lit × DataW H → Nat
  | (.string bytes, d) => bytes.length + uptoBulk d + 1
  | (_, d) => uptoBulk d + 1
 end
def uptoSmall : (H : Type) → List (DataW H) → Bool := fun _ ds => decide (uptoBulkAll ds ≤ 1048576)
def OpenSpec.upto (s : _root_.Go.ChangeSpec) : _root_.Go.OpenSpec := { _root_.Go.OpenSpec.ofChange s with cond := some uptoSmall }

/-- 'pumicelaw06.NodeKeys', WHERE WHAT IT READS IS OF BULK AT MOST 1048576: true; the input reads as it did. -/
def nodeKeysUptoRow : OpenClaim := { program := "ytefpcdpclpignaa", sum := "e0654c466901e651aa814096cd412afab1b08da368c5c2f24e0b8e27d04181a6", func := "pumice/pumicelaw06.NodeKeys", spec := "nodeKeys", inPlace := ["internal/bytealg.IndexByteString", "internal/bytealg.IndexString"], named := ["internal/bytealg.MaxLen"], apart := false, narrowed := true }
def NodeKeysUptoSaid : Prop := nodeKeysUptoRow.holds Try.pinned (OpenSpec.upto nodeKeysSpec)

/-- 'pumicelaw06.NodeInodes', WHERE WHAT IT READS IS OF BULK AT MOST 1048576: true; the input reads as it did. -/
def nodeInodesUptoRow : OpenClaim := { program := "ytefpcdpclpignaa", sum := "e0654c466901e651aa814096cd412afab1b08da368c5c2f24e0b8e27d04181a6", func := "pumice/pumicelaw06.NodeInodes", spec := "nodeInodes", inPlace := ["internal/bytealg.IndexByteString", "internal/bytealg.IndexString"], named := ["internal/bytealg.MaxLen"], apart := false, narrowed := true }
def NodeInodesUptoSaid : Prop := nodeInodesUptoRow.holds Try.pinned (OpenSpec.upto nodeInodesSpec)

/-- 'pumicelaw06.NodeEntries', WHERE WHAT IT READS IS OF BULK AT MOST 1048576: true; the input reads as it did. -/
def nodeEntriesUptoRow : OpenClaim := { program := "ytefpcdpclpignaa", sum := "e0654c466901e651aa814096cd412afab1b08da368c5c2f24e0b8e27d04181a6", func := "pumice/pumicelaw06.NodeEntries", spec := "nodeEntries", inPlace := ["internal/bytealg.IndexByteString", "internal/bytealg.IndexString"], named := ["internal/bytealg.MaxLen"], apart := false, narrowed := true }
def NodeEntriesUptoSaid : Prop := nodeEntriesUptoRow.holds Try.pinned (OpenSpec.upto nodeEntriesSpec)

/-- 'pumicelaw06.NodePacks', WHERE WHAT IT READS IS OF BULK AT MOST 1048576: true; the input reads as it did. -/
def nodePacksUptoRow : OpenClaim := { program := "ytefpcdpclpignaa", sum := "e0654c466901e651aa814096cd412afab1b08da368c5c2f24e0b8e27d04181a6", func := "pumice/pumicelaw06.NodePacks", spec := "nodePacks", apart := false, narrowed := true }
def NodePacksUptoSaid : Prop := nodePacksUptoRow.holds Try.pinned (OpenSpec.upto nodePacksSpec)

/-- 'pumicelaw06.NodeUnpacks', WHERE WHAT IT READS IS OF BULK AT MOST 1048576: true; the input reads as it did. -/
def nodeUnpacksUptoRow : OpenClaim := { program := "ytefpcdpclpignaa", sum := "e0654c466901e651aa814096cd412afab1b08da368c5c2f24e0b8e27d04181a6", func := "pumice/pumicelaw06.NodeUnpacks", spec := "nodeUnpacks", apart := false, narrowed := true }
def NodeUnpacksUptoSaid : Prop := nodeUnpacksUptoRow.holds Try.pinned (OpenSpec.upto nodeUnpacksSpec)

/-- 'pumicelaw06.NodeBack', WHERE WHAT IT READS IS OF BULK AT MOST 1048576: true; the input reads as it did. -/
def nodeBackUptoRow : OpenClaim := { program := "ytefpcdpclpignaa", sum := "e0654c466901e651aa814096cd412afab1b08da368c5c2f24e0b8e27d04181a6", func := "pumice/pumicelaw06.NodeBack", spec := "nodeBack", inPlace := ["internal/bytealg.IndexByteString", "internal/bytealg.IndexString"], named := ["internal/bytealg.MaxLen"], apart := false, narrowed := true }
def NodeBackUptoSaid : Prop := nodeBackUptoRow.holds Try.pinned (OpenSpec.upto nodeBackSpec)

end Rows
end Go.Proofs.Ytefpcdpclpignaa
