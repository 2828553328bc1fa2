/-
  Plain numbers: of each length its first code.
-/
import Derived.Test.YtkaibpibnkmmbaaDoorHCount
namespace Go.Proofs.YtkaibpibnkmmbaaDoor
open Go.RowKit

/-- The first code of each length. -/
def stf (f : Nat → Int) : Nat → Int
  | 0 => 0
  | k + 1 => (stf f k + f k) * 2

theorem stf_bd (f : Nat → Int) (h0 : ∀ k, 0 ≤ f k) (h1 : ∀ k, f k ≤ 320) : ∀ k, 0 ≤ stf f k ∧ stf f k + 640 ≤ 640 * 2 ^ k
  | 0 => by simp [stf]
  | k + 1 => by
    have ih := stf_bd f h0 h1 k
    have a := h0 k
    have b := h1 k
    simp only [stf, Int.pow_succ]
    omega
theorem stf_bd' (f : Nat → Int) (h0 : ∀ k, 0 ≤ f k) (h1 : ∀ k, f k ≤ 320) (k : Nat) (hk : k ≤ 16) : 0 ≤ stf f k ∧ stf f k ≤ 41943040 := by
  have h := stf_bd f h0 h1 k
  have : (2 ^ k : Nat) ≤ 2 ^ 16 := Nat.pow_le_pow_right (by omega) hk
  have e : ((2 ^ k : Nat) : Int) = (2 : Int) ^ k := by simp
  omega

end Go.Proofs.YtkaibpibnkmmbaaDoor
