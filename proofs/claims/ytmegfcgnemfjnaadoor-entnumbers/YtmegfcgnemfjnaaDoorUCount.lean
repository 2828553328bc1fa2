/-
  How many runes a text has: the code's Count.
-/
import Derived.Test.YtmegfcgnemfjnaaDoorUIter
import Derived.Test.YtmegfcgnemfjnaaDoorULinesN
import Derived.WalkKit
namespace Go.Proofs.YtmegfcgnemfjnaaDoor
open Go.RowKit Go.Lib
end Go.Proofs.YtmegfcgnemfjnaaDoor
