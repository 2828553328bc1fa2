/-
  Plain numbers: what holds of a decoder's state.
-/
import Derived.Test.YtkaibpibnkmmbaaDoorHNext
namespace Go.Proofs.YtkaibpibnkmmbaaDoor
set_option linter.unusedVariables false

/-- What holds of a decoder's state. -/
def Inv (L : List Int) (c l : Nat) : Prop := l ≤ 14 ∧ c < 2 ^ l ∧ stf (cf L) (l + 1) ≤ 2 * (c : Int)

theorem Inv.zero (L : List Int) : Inv L 0 0 := ⟨by omega, by simp, by simp [stf, cf]⟩

theorem Inv.next {L : List Int} (hok : ∀ x ∈ L, 0 ≤ x ∧ x ≤ 15) {C N : Nat} (h15 : N ≤ 15) (hC : C < 2 ^ N) {r : Int} {c l : Nat} (a : NextR L C N r c l) : Inv L c l := by
  rcases a with ⟨i, hi, hiN, hiC, rfl, rfl, rfl⟩ | ⟨hge, hp, rfl, rfl, rfl⟩ | ⟨hge, hp, rfl, rfl, rfl⟩
  · exact Inv.zero L
  · exact Inv.zero L
  · refine ⟨?_, hC, ?_⟩
    · apply Classical.byContradiction
      intro h
      apply hp
      rw [show l = 15 by omega]
    · show (stf (cf L) l + cf L l) * 2 ≤ _
      omega

theorem Inv.bit {L : List Int} {c l : Nat} (h : Inv L c l) (b : Int) : 2 * c + bitOf b < 2 ^ (l + 1) ∧ stf (cf L) (l + 1) ≤ ((2 * c + bitOf b : Nat) : Int) ∧ c ≤ 100000 := by
  obtain ⟨h1, h2, h3⟩ := h
  have hb : bitOf b ≤ 1 := by unfold bitOf; split <;> omega
  have : (2 ^ l : Nat) ≤ 2 ^ 14 := Nat.pow_le_pow_right (by omega) h1
  rw [Nat.pow_succ]
  exact ⟨by omega, by omega, by omega⟩

end Go.Proofs.YtkaibpibnkmmbaaDoor
