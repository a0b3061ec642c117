/-
  The document's log in memory; what it tells of itself: most, Room, Sync; Open of no pages.
  Sync and Read of the document's log.
  Open of the document's log of no pages.
  Append of the document's log.
  Append of the document's log, where it is taken.
  Read of the document's log.
  A log of the code and one of the document stand alike.
-/
import Derived.Test.YtkfecngkdlajgaaGreatDoorQH
import Derived.Test.YtkfecngkdlajgaaGreatDoorQE
import Derived.Test.YtkfecngkdlajgaaGreatDoorGD
import Derived.Test.YtkfecngkdlajgaaGreatDoorKQ
import Derived.Test.YtkfecngkdlajgaaGreatDoorQF
import Derived.Test.YtkfecngkdlajgaaGreatDoorQL
namespace Go.Proofs.YtkfecngkdlajgaaGreatDoor
open Go.RowKit Go.Extern.Stop Go.Stop Go.Extern
set_option maxRecDepth 10000

end Go.Proofs.YtkfecngkdlajgaaGreatDoor
namespace Go.Proofs.YtkfecngkdlajgaaGreatDoor
open Go.RowKit Go.Extern.Stop Go.Stop Go.Extern
set_option maxRecDepth 10000

end Go.Proofs.YtkfecngkdlajgaaGreatDoor
namespace Go.Proofs.YtkfecngkdlajgaaGreatDoor
open Go.RowKit Go.Extern.Stop Go.Stop Go.Extern
set_option maxRecDepth 10000

end Go.Proofs.YtkfecngkdlajgaaGreatDoor
namespace Go.Proofs.YtkfecngkdlajgaaGreatDoor
open Go.RowKit Go.Extern.Stop Go.Stop Go.Extern
set_option maxRecDepth 10000

end Go.Proofs.YtkfecngkdlajgaaGreatDoor
namespace Go.Proofs.YtkfecngkdlajgaaGreatDoor
open Go.RowKit Go.Extern.Stop Go.Stop Go.Extern
set_option maxRecDepth 10000

end Go.Proofs.YtkfecngkdlajgaaGreatDoor
namespace Go.Proofs.YtkfecngkdlajgaaGreatDoor
open Go.RowKit Go.Extern.Stop Go.Stop Go.Extern
set_option maxRecDepth 10000

theorem fz_len (q : Fm × Value) : (fzCells q).length = 2 := rfl
end Go.Proofs.YtkfecngkdlajgaaGreatDoor
namespace Go.Proofs.YtkfecngkdlajgaaGreatDoor
open Go.RowKit Go.Extern.Stop Go.Stop Go.Extern
set_option maxRecDepth 10000

end Go.Proofs.YtkfecngkdlajgaaGreatDoor
