/-
  Scripts of the log's statements that come in, as the walks are told of them.
  Append of a log, whatever comes.
-/
import Derived.Test.YtkfecngkdlajgaaGreatDoorKQ
import Derived.Test.YtkfecngkdlajgaaGreatDoorKH
import Derived.Test.YtkfecngkdlajgaaGreatDoorQL
import Derived.Deep.Slices
import Derived.Deep.SlicePairs
namespace Go.Proofs.YtkfecngkdlajgaaGreatDoor
open Go.ChangeShapes Go.WideShapes Go.ChangeAt Go.RowKit Go.Deep

end Go.Proofs.YtkfecngkdlajgaaGreatDoor
namespace Go.Proofs.YtkfecngkdlajgaaGreatDoor
open Go.RowKit Go.Extern.Stop Go.Stop Go.Extern
set_option maxRecDepth 10000

theorem right_leb {gb gp gz gr : Nat} (h : rightB gb gp gz gr = true) : 7 + gr + 2 < gb ∧ 16 ≤ gb := by
  unfold rightB at h
  simp only [Bool.and_eq_true, decide_eq_true_eq] at h
  obtain ⟨h1, _, _, _, _, _, h4⟩ := h
  rw [Int.tdiv_eq_ediv_of_nonneg (by omega)] at h4
  have : wrap64 ((gb : Int) / 4) = (gb : Int) / 4 := by unfold wrap64; omega
  omega
end Go.Proofs.YtkfecngkdlajgaaGreatDoor
