/-
  Two logs of one manager, each beside a log of the document's: what a step of the one leaves of the others.
-/
import Derived.Test.YtkfecngkdlajgaaGreatDoorQR
import Derived.Test.YtkfecngkdlajgaaGreatDoorQU
namespace Go.Proofs.YtkfecngkdlajgaaGreatDoor
open Go.RowKit Go.Extern.Stop Go.Stop Go.Extern
set_option maxRecDepth 10000

/-- .. behind writes that are no business of the manager's. -/
theorem ML.beside {S : Nat → Prop} {base t : Nat} {w w' : World} {m : Mg} {c : CS} {P : List (List (List Nat))} {l : Lm} (h : ML base t w m c P l) (hk : Kept S w w') (hS : ∀ k, S k → ∃ cs t, Row w k cs t ∧ NoMg t) (hb : ∀ k, S k → base ≤ k) (hn : ∀ k, LFoot l k → ¬ S k) : ML base t w' m c P l :=
  ⟨h.ms.beside hk hS hb, h.la.kept hk hn, h.mp, h.ap, h.ge, h.leb, h.cap, h.np, h.md, h.lo, h.hi, h.con, h.fr⟩
end Go.Proofs.YtkfecngkdlajgaaGreatDoor
