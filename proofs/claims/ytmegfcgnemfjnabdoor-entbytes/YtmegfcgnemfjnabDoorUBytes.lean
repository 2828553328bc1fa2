/-
  A text as bytes; two texts side by side.
-/
import Derived.Test.YtmegfcgnemfjnabDoorUTexts
import Derived.Test.YtmegfcgnemfjnabDoorURepair
import Derived.Lib.ConvBytes
namespace Go.Proofs.YtmegfcgnemfjnabDoor
open Go.RowKit Go.Lib

/-- A text turned into bytes: the step, and what the row reads. -/
theorem bytes_step (w : World) (s : ByteArray) : Step (fun _ => False) w (Lib.bytesWorld w 5 s) := by
  refine ⟨?_, ?_, ?_, by rw [Lib.bytesWorld_size]; omega, fun k hk _ => Lib.bytesWorld_at_old w 5 s k hk⟩ <;> simp [Lib.bytesWorld, World.freeze, World.alloc, World.drew, -World.alloc_eq, -World.drew_eq]
theorem bytes_rb (w : World) (l : List UInt8) (c : Nat) : Rb (Lib.bytesWorld w 5 ⟨l.toArray⟩) (.slice (some ⟨w.heap.size, 0, none⟩) l.length c) l := by
  refine ⟨some ⟨w.heap.size, 0, none⟩, c, by simp, fun h => (by cases h), fun a ha _ => ⟨w.heap.size, 0, (Option.some.inj ha).symm, fun k hk => ?_⟩⟩
  have hk2 : k < l.length := by simpa using hk
  rw [Nat.zero_add, Lib.bytesWorld_cell w 5 ⟨l.toArray⟩ k (by rw [ba_size]; exact hk2)]
  simp [List.getD, hk2]
theorem run_bytes (w : World) (l : List UInt8) : (convert 9 23 (str l)).run Tryd.prog w = .ok (.slice (some ⟨w.heap.size, 0, none⟩) l.length (grownCap w l.length 0 5)) (Lib.bytesWorld w 5 ⟨l.toArray⟩) := by
  have := Lib.run_convert_string_bytes (P := Tryd.prog) w 9 23 5 ⟨l.toArray⟩ Tryd.underlying9 Tryd.underlying23 Tryd.underlying5
  rw [ba_size] at this
  exact this
theorem cat_str (a b : List UInt8) : (⟨a.toArray⟩ : ByteArray) ++ ⟨b.toArray⟩ = ⟨(a ++ b).toArray⟩ := by
  apply ByteArray.ext
  simp

end Go.Proofs.YtmegfcgnemfjnabDoor
