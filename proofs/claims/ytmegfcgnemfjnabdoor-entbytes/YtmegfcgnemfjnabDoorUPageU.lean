/-
  The page's rune, whole.
-/
import Derived.Test.YtmegfcgnemfjnabDoorUPageR
namespace Go.Proofs.YtmegfcgnemfjnabDoor
open Go.RowKit Go.Lib
theorem ext_drop (s : ByteArray) (l : List UInt8) (h : s.data.toList = l) (a : Nat) : (s.extract a s.size).data.toList = l.drop a := by
  have e : s.size = l.length := by rw [← h]; rfl
  have := congrArg (fun x => x.data.toList) (ext_seg s l h a s.size (by omega))
  rw [e, seg_end] at this
  rw [e]
  exact this

end Go.Proofs.YtmegfcgnemfjnabDoor
