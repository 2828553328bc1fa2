/-
  What Codes leaves.
-/
import Derived.Test.YtinncakendfklaaDoorHCodeN
import Derived.Test.YtinncakendfklaaDoorHInt
namespace Go.Proofs.YtinncakendfklaaDoor
open Go.RowKit

/-- What Codes leaves. -/
def CodesP (L : List Int) (w : World) (e : Ending) (w' : World) : Prop :=
  ∃ v, e = .returned (.tuple #[v, .int .i64 (codeErr L)]) ∧ Ri w' v (codesR L) ∧ (∀ a n c, v = .slice (some a) n c → w.heap.size ≤ a.block) ∧ Step (fun _ => False) w w'

theorem codeErr_ok {L : List Int} (h : codeErr L = 0) : okB L = true ∧ fl (cf L) 16 ≤ 32768 ∧ codesR L = codes L := by
  unfold codeErr at h
  unfold codesR
  by_cases h1 : okB L = true
  · rw [if_pos h1] at h
    by_cases h2 : fl (cf L) 16 ≤ 32768
    · exact ⟨h1, h2, by rw [if_pos h1, if_pos h2]⟩
    · rw [if_neg h2] at h; omega
  · rw [if_neg h1] at h; omega
theorem codeErr_not {L : List Int} (h : codeErr L ≠ 0) : codesR L = [] := by
  unfold codeErr at h
  unfold codesR
  by_cases h1 : okB L = true
  · rw [if_pos h1] at h ⊢
    by_cases h2 : fl (cf L) 16 ≤ 32768
    · rw [if_pos h2] at h; exact absurd rfl h
    · rw [if_neg h2]
  · rw [if_neg h1]

theorem Ri.far {w : World} {v : Value} {L : List Int} (h : Ri w v L) (q : Addr) (u : Value) (hq : ∀ p n c, L ≠ [] → v = .slice (some p) n c → p.block ≠ q.block) : Ri (w.setCell q u) v L :=
  h.step (S := fun k => k = q.block) ((Step.refl _ w).setCell q u (.inl rfl)) (fun a n c e ne => hq a n c ne e)

end Go.Proofs.YtinncakendfklaaDoor
