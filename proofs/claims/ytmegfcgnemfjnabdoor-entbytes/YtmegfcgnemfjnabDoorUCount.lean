/-
  How many runes a text has: the code's Count.
-/
import Derived.Test.YtmegfcgnemfjnabDoorUIter
import Derived.Test.YtmegfcgnemfjnabDoorULinesN
import Derived.WalkKit
namespace Go.Proofs.YtmegfcgnemfjnabDoor
open Go.RowKit Go.Lib
end Go.Proofs.YtmegfcgnemfjnabDoor
