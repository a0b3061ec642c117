/-
  What Good of package scan answers.
-/
import Derived.Test.YtccfalafphjkpaaGreatDoorGR
namespace Go.Proofs.YtccfalafphjkpaaGreatDoor
open Go.RowKit Go.Shelf
set_option maxRecDepth 10000
attribute [local go_sem] Oper.semAt_some

/-- What Good answers. -/
def goodI (l : List Bl) : Int := (l.length : Int) - ((sel 1 0 l).length : Int)
theorem sel_le (st : Int) : ∀ (l : List Bl) (k : Nat), (sel st k l).length ≤ l.length
  | [], k => by simp [sel]
  | b :: l, k => by
    unfold sel
    have := sel_le st l (k + 1)
    split <;> simp <;> omega
theorem least_any (m cap : Nat) (l : List Bl) (a : Option Addr) (hm : m = l.length) (hl : m ≤ 281474976710656) (w : World) (hr : LRow w a l) :
    Calls Tryz.prog 139 #[.slice a m cap] w fun e w' => e = .returned (.int .i64 (leastI l)) ∧ Below w.heap.size w w' :=
  callsIn_wide.1 (least_in 3 (by omega) m cap l a hm hl w hr)
end Go.Proofs.YtccfalafphjkpaaGreatDoor
