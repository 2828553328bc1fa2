/-
  What the program laid at its start: the order of lengths.
-/
import Derived.Test.YtlajfidhkaamnabDoorRow
import Derived.Test.YtlajfidhkaamnabDoorTie
import Derived.Test.YtlajfidhkaamnabDoorCards
import Derived.Lib.LaidTab
import Derived.MakeChecks
import Derived.LaidMore
import Derived.ProofKit
namespace Go.Proofs.YtlajfidhkaamnabDoor
open Go.ChangeShapes Go.WideShapes Go.ChangeAt Go.RowKit

def doorLaid : List (String × DataW Unit) := [("rubricator/inflate.lengthsOrder", Rows.laid_rubricator_inflate_lengthsOrder)]

theorem own : ownKnob Tryd.prog.godebug = none := by kernel_rfl
theorem laidOut : laidOutB Tryd.prog = true := by kernel_rfl

theorem door_met (os : Os) (args : Array Value) : laidMetH Tryd.prog doorLaid ((World.doorLaid Tryd.prog 14 os).forCall (fun _ _ => 0) ⟨#[], args, []⟩).memory :=
  laidMetH_of_parts3 (fuel := 8) (laidMet_of_run' 8 (by kernel_rfl) (by kernel_rfl)) (by kernel_rfl) (by kernel_rfl)

end Go.Proofs.YtlajfidhkaamnabDoor
