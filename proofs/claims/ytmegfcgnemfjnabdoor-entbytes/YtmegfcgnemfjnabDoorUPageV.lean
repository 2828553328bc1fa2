/-
  The page's rune, whole; whether bytes are text, by the page.
-/
import Derived.Test.YtmegfcgnemfjnabDoorUPageU
namespace Go.Proofs.YtmegfcgnemfjnabDoor
open Go.RowKit Go.Lib
end Go.Proofs.YtmegfcgnemfjnabDoor
