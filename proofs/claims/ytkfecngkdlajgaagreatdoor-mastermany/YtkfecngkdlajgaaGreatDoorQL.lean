/-
  A new manager, and a log of it; the example that must come at any rate.
-/
import Derived.Test.YtkfecngkdlajgaaGreatDoorQK
import Derived.Test.YtkfecngkdlajgaaGreatDoorKQ
import Derived.Test.YtkfecngkdlajgaaGreatDoorQH
import Derived.Lib.SlBytesConst
namespace Go.Proofs.YtkfecngkdlajgaaGreatDoor
open Go.RowKit Go.Extern.Stop Go.Stop Go.Extern
set_option maxRecDepth 10000

theorem lies_low {base B : Nat} {w : World} {c : CS} (h : Lies base w c) (hB : B ≤ base) : Lies B w c := ⟨h.chip, h.bks, h.pgs, h.nd, fun k hk => Nat.le_trans hB (h.low k hk), h.good⟩
/-- A manager of a new chip, and nothing in it. -/
structure New (w : World) (gb gp gz gr : Nat) (m : Mg) (c : CS) (P : List (List (List Nat))) (w' : World) : Prop where
  al : Al w.heap.size 1 w c.gz w' m c P (fun _ => none)
  num : c.gb = gb ∧ c.gp = gp ∧ c.gz = gz ∧ c.gr = gr
  bl : Below w.heap.size w w'
  fs : c.fs = []
end Go.Proofs.YtkfecngkdlajgaaGreatDoor
