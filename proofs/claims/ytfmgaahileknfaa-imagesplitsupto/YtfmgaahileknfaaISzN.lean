/-
  What Size answers, as a number.
-/
import Derived.Test.YtfmgaahileknfaaISlots
namespace Go.Proofs.Ytfmgaahileknfaa
open Go.RowKit M

/-- What Size answers. -/
def sizeN (level : Int) (l : List St) : Nat := if imgOk level l then 9 + pkN l else 0
end Go.Proofs.Ytfmgaahileknfaa
