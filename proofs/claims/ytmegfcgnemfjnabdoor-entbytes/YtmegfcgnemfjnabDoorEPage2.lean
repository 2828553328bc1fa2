/-
  What is spelt at the beginning of a text: the page's way, whole.
-/
import Derived.Test.YtmegfcgnemfjnabDoorEPage1
import Derived.Test.YtmegfcgnemfjnabDoorECode2
namespace Go.Proofs.YtmegfcgnemfjnabDoor
open Go.RowKit Go.Lib

theorem step_drew (w : World) (n : Nat) : Step (fun _ => False) w (w.drewN n) := ⟨rfl, rfl, rfl, Nat.le_refl _, fun _ _ _ => rfl⟩
def tabS : List (List UInt8) := [[38, 97, 109, 112, 59], [38], [38, 108, 116, 59], [60], [38, 103, 116, 59], [62], [38, 113, 117, 111, 116, 59], [34], [38, 97, 112, 111, 115, 59], [39], [38, 110, 98, 115, 112, 59], [194, 160], [38, 99, 111, 112, 121, 59], [194, 169], [38, 104, 101, 108, 108, 105, 112, 59], [226, 128, 166], [38, 109, 100, 97, 115, 104, 59], [226, 128, 148]]
theorem tab_key : ∀ j, j < 9 → tabS.getD (2 * j) [] = wrapN (namesR.getD j ([], [])).1 ∧ tabS.getD (2 * j + 1) [] = (namesR.getD j ([], [])).2 ∧ (tabS.getD (2 * j) []).length = (namesR.getD j ([], [])).1.length + 2 ∧ (tabS.getD (2 * j) []).length ≤ 10 := by decide
theorem namedL_step (l : List UInt8) (j : Nat) (hj : j < 9) : namedL l (namesR.drop j) = if begins l (wrapN (namesR.getD j ([], [])).1) = true then ((namesR.getD j ([], [])).2, (namesR.getD j ([], [])).1.length + 2) else namedL l (namesR.drop (j + 1)) := by
  have hl : j < namesR.length := hj
  rw [List.drop_eq_getElem_cons hl]
  simp only [namedL, List.getD, List.getElem?_eq_getElem hl, Option.getD_some]

end Go.Proofs.YtmegfcgnemfjnabDoor
