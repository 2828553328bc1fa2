/-
  The page's rune: the walk.
-/
import Derived.Test.YtmegfcgnemfjnabDoorUPageN
import Derived.Test.YtmegfcgnemfjnabDoorUIter
import Derived.Test.YtmegfcgnemfjnabDoorULinesP
namespace Go.Proofs.YtmegfcgnemfjnabDoor
open Go.RowKit Go.Lib

/-- What Rune answers. -/
def runeAns (d : Nat × Nat) (g : Bool) : Value := .tuple #[.int .i32 ((d.1 : Nat) : Int), .int .i64 ((d.2 : Nat) : Int), .bool g]

end Go.Proofs.YtmegfcgnemfjnabDoor
