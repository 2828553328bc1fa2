/-
  What the program laid at its start: the table of sixteen.
-/
import Derived.Test.YtplmmjlhlijjmaaDoorCrcM
import Derived.Test.YtplmmjlhlijjmaaDoorTie
import Derived.Test.YtplmmjlhlijjmaaDoorCards
import Derived.Lib.LaidTab
import Derived.MakeChecks
import Derived.LaidMore
import Derived.ProofKit
namespace Go.Proofs.YtplmmjlhlijjmaaDoor
open Go.ChangeShapes Go.WideShapes Go.ChangeAt Go.RowKit

def doorLaid : List (String × DataW Unit) := [("rubricator/crc.halves", Rows.laid_rubricator_crc_halves)]

theorem own : ownKnob Tryd.prog.godebug = none := by kernel_rfl
theorem laidOut : laidOutB Tryd.prog = true := by kernel_rfl
theorem gHalves : Tryd.prog.globalNamed "rubricator/crc.halves" = some 0 := by kernel_rfl
theorem tHalves : (Tryd.prog.globals[0]?).map (·.type) = some 39 := by kernel_rfl
theorem cHalves : Tryd.prog.cellsOf 39 = 16 := by kernel_rfl
theorem cWord : Tryd.prog.cellsOf 24 = 1 := by kernel_rfl

theorem door_met (os : Os) (args : Array Value) : laidMetH Tryd.prog doorLaid ((World.doorLaid Tryd.prog 14 os).forCall (fun _ _ => 0) ⟨#[], args, []⟩).memory :=
  laidMetH_of_parts3 (fuel := 8) (laidMet_of_run' 8 (by kernel_rfl) (by kernel_rfl)) (by kernel_rfl) (by kernel_rfl)

theorem of_laid {W : World} (h : laidMetH Tryd.prog doorLaid W) : Tab W := by
  rw [MakeChecks.laidMetH_plain _ _ _ (by kernel_rfl)] at h
  have hT := Lib.tabIs_of_head (k := .u32) (zs := half.map fun (x : Nat) => (x : Int)) gHalves tHalves Tryd.underlying39 Tryd.underlying24 cWord cHalves h
  intro k hk
  have hl : half.length = 16 := rfl
  have := hT.cell gHalves k (by simpa [hl] using hk)
  rw [this]
  simp [List.getD, hl, hk]

end Go.Proofs.YtplmmjlhlijjmaaDoor
