/-
  The errnos that api names, their classes: the program's and the document's.
-/
import Derived.Test.YtafihnnlblacnaaDoorEMem
import Derived.Deep.LoopGhost
namespace Go.Proofs.YtafihnnlblacnaaDoor
open Go.RowKit

/-- The class of an errno. -/
def cls (e : Int) : Int :=
  if e = 0 then 0 else if e ∈ [5, 6, 117, 19] then 1 else if e ∈ [22, 14, 9, 36, 40] then 2 else if e ∈ [28, 27, 24, 31] then 3
  else if e ∈ [1, 13, 30] then 4 else if e ∈ [2, 17, 20, 21, 39, 16] then 5 else 6

set_option maxHeartbeats 4000000 in
theorem class_any (e : Int) (w : World) : Calls Tryd.prog 11 #[.int .i64 e] w fun ev w' => ev = .returned (.int .i64 (cls e)) ∧ w = w' := by
  go_enter Tryd.func11, Tryd.ntmps11
  go_wp2
  all_goals (go_ret; exact ⟨ret_int (by simp_all [cls]), rfl⟩)
set_option maxHeartbeats 4000000 in
theorem rclass_any (e : Int) (w : World) : Calls Tryd.prog 12 #[.int .i64 e] w fun ev w' => ev = .returned (.int .i64 (cls e)) ∧ w = w' := by
  go_enter Tryd.func12, Tryd.ntmps12
  go_wp2
  all_goals (go_ret; exact ⟨ret_int (by simp_all [cls]), rfl⟩)
end Go.Proofs.YtafihnnlblacnaaDoor
