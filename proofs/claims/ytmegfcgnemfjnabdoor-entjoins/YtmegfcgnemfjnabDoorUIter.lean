/-
  Iterators over texts.
-/
import Derived.Test.YtmegfcgnemfjnabDoorUTexts
import Derived.Test.YtmegfcgnemfjnabDoorUN
import Derived.WalkKit
namespace Go.Proofs.YtmegfcgnemfjnabDoor
open Go.RowKit Go.Lib

theorem Step.iterAt {S : Nat → Prop} {a w : World} (h : Step S a w) {k : Nat} (hk : a.heap.size ≤ k) (s : ByteArray) (pos : Nat) : Step S a (w.iterAt k s pos) :=
  ⟨h.os, h.tape, h.output, by rw [Lib.iterAt_size]; exact h.size, fun i hi hn => (Lib.iterAt_other w k i s pos (by omega)).trans (h.block i hi hn)⟩

/-- What an iterator over the text l hands over at pos. -/
theorem dec_at (s : ByteArray) (l : List UInt8) (h : s.data.toList = l) (pos : Nat) : Utf8.decode s pos = decodeL (l.drop pos) := by
  rw [← h]; exact (decodeL_drop s pos).symm
theorem drop_ne {l : List UInt8} {pos : Nat} (h : pos < l.length) : l.drop pos ≠ [] := by
  intro e
  have := congrArg List.length e
  simp at this
  omega

end Go.Proofs.YtmegfcgnemfjnabDoor
