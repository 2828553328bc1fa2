/-
  Bytes as text: the code's Repair; the four runes that all know.
-/
import Derived.Test.YtmegfcgnemfjnabDoorUCount
import Derived.Test.YtmegfcgnemfjnabDoorUShelf
import Derived.Laws.IdiomStrings
import Derived.Laws.BytesArg
namespace Go.Proofs.YtmegfcgnemfjnabDoor
open Go.RowKit Go.Lib

/-- The slice v reads as the bytes l. -/
abbrev Rb (w : World) (v : Value) (l : List UInt8) : Prop := Rd w v (l.map UInt8.toNat)

theorem conv_any {w : World} {v : Value} {l : List UInt8} (h : Rb w v l) : (convert 23 9 v).run Tryd.prog w = .ok (str l) w := by
  obtain ⟨ao, cap, rfl, h1, h2⟩ := h
  cases ao with
  | none =>
    have hl : l = [] := by simpa using (h1 rfl).1
    subst hl
    exact run_convert_bytes_nil w 23 5 Tryd.underlying23 Tryd.underlying5 _ _ 9 Tryd.underlying9
  | some a =>
    have := run_convert_bytes_back (P := Tryd.prog) w 23 9 5 a cap l Tryd.underlying23 Tryd.underlying5 Tryd.underlying9 (fun j hj => by
      obtain ⟨b, off, rfl, hc⟩ := h2 a rfl (by intro e; have := congrArg List.length e; simp at this; subst this; simp at hj)
      rw [Addr.add_lit, hc j (by simpa using hj)]
      simp [List.getD, hj])
    simpa using this

theorem below_iter {B : Nat} {a w : World} (h : Below B a w) (o : Obj) (hB : B ≤ w.heap.size) : Below B a (w.alloc o) := h.alloc hB o

theorem known_repair : (runesD (repair [97, 255, 0, 98])).length = 4 := by decide +kernel

end Go.Proofs.YtmegfcgnemfjnabDoor
