/-
  Align of a Writer: on to the next edge.
-/
import Derived.Test.YtelengfdbhambaaPut
namespace Go.Proofs.Ytelengfdbhambaa
open Go.RowKit

set_option maxHeartbeats 400000 in
theorem align_nil (w : World) : Calls Try.prog 15 #[.pointer none] w fun e w' => e = .returned (.tuple #[]) ∧ w' = w := by
  go_enter Try.func15, Try.ntmps15
  go_wp2
  go_end0
  exact ⟨rfl, rfl⟩

/-- To the next byte's edge. -/
def up8 (L : Nat) : Nat := (L + 7) / 8 * 8

theorem Wr.aligned {w : World} {b : Nat} {s : Value} {N L : Nat} (W : Wr w b s N L) : Wrote w (w.setCell ⟨b, 1, none⟩ (.int .i64 0)) b s N (up8 L) := by
  have hS : Step (fun i => i = b) w (w.setCell ⟨b, 1, none⟩ (.int .i64 0)) := (Step.refl (fun i => i = b) w).setCell ⟨b, 1, none⟩ (.int .i64 0) (.inl rfl)
  have e : (up8 L + 7) / 8 = (L + 7) / 8 := by unfold up8; omega
  have e2 : (8 - up8 L % 8) % 8 = 0 := by unfold up8; omega
  refine ⟨s, ⟨?_, ?_, ?_, ?_, ?_, W.ne, ?_⟩, hS.mono (fun i h => .inl h), .inl rfl⟩
  · rw [World.cell?_setCell_other _ _ _ _ (by simp)]; exact W.out
  · rw [World.cell?_setCell_same _ _ _ W.free, e2]; rfl
  · simp [W.f0]
  · simp [W.f1]
  · rw [e]; exact owns_step W.own hS (fun k hk hb => W.ne (by rw [hk, hb]))
  · exact Nat.lt_of_lt_of_le W.lt (Nat.pow_le_pow_right (n := 2) (by omega) (by unfold up8; omega))

set_option maxHeartbeats 400000 in
theorem align_any (b : Nat) (s : Value) (N L : Nat) (w : World) (h : Wr w b s N L) :
    Calls Try.prog 15 #[.pointer (some ⟨b, 0, none⟩)] w fun e w' => e = .returned (.tuple #[]) ∧ Wrote w w' b s N (up8 L) := by
  have H := hidden h.aligned
  have c1 := h.free
  have f1 := h.f1
  clear h
  go_enter Try.func15, Try.ntmps15
  go_wp2
  go_end0
  exact ⟨rfl, H.out⟩

end Go.Proofs.Ytelengfdbhambaa
