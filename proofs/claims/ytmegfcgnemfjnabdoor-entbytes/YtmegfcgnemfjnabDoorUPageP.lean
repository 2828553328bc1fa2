/-
  Bytes as text: the page's Repair.
-/
import Derived.Test.YtmegfcgnemfjnabDoorUPageV
import Derived.Test.YtmegfcgnemfjnabDoorUEnc
import Derived.Lib.AppendStr
namespace Go.Proofs.YtmegfcgnemfjnabDoor
open Go.RowKit Go.Lib

theorem strCells_u8s (l : List UInt8) : Lib.strCells ⟨l.toArray⟩ = u8s (l.map UInt8.toNat) := by simp [Lib.strCells, u8s]
/-- A row of bytes of the call's own. -/
structure OwnB (w0 w : World) (v : Value) (l : List UInt8) : Prop where
  own : w.ownsRow w0.heap.size 5 1 v l.length (u8s (l.map UInt8.toNat))
theorem OwnB.nil (w0 w : World) : OwnB w0 w (.slice none 0 0) [] := ⟨World.ownsRow_nil _ _ _ _⟩
theorem OwnB.base {w0 w : World} {v : Value} {l : List UInt8} (h : OwnB w0 w v l) : w.ownsRow 0 5 1 v l.length (u8s (l.map UInt8.toNat)) := by
  obtain ⟨h1, h2⟩ := h.own
  refine ⟨h1, ?_⟩
  rcases h2 with h2 | ⟨g, cap, cur, e, hb, rest⟩
  · exact .inl h2
  · exact .inr ⟨g, cap, cur, e, Nat.zero_le _, rest⟩
theorem OwnB.rb {w0 w : World} {v : Value} {l : List UInt8} (h : OwnB w0 w v l) : Rb w v l := Rd.of_own h.base
theorem OwnB.new {w0 w : World} {v : Value} {l : List UInt8} (h : OwnB w0 w v l) : ∀ k, v.ownBlock = some k → w0.heap.size ≤ k := by
  intro k hk
  rcases h.own.2 with ⟨e, _⟩ | ⟨g, cap, cur, e, hb, _⟩
  · rw [e] at hk; simp [Value.ownBlock] at hk
  · rw [e] at hk; simp [Value.ownBlock] at hk; omega
theorem OwnB.keep {w0 w w' : World} {v : Value} {l : List UInt8} (h : OwnB w0 w v l) (hs : Step (fun _ => False) w w') : OwnB w0 w' v l := by
  refine ⟨h.own.1, ?_⟩
  rcases h.own.2 with hn | ⟨g, cap, cur, e, hb, hgg, rest⟩
  · exact .inl hn
  · refine .inr ⟨g, cap, cur, e, hb, ?_, rest⟩
    rw [hs.block g (Array.getElem?_eq_some_iff.1 hgg).1 (fun h => h)]
    exact hgg

end Go.Proofs.YtmegfcgnemfjnabDoor
