/-
  Plain numbers: the lengths that a block of kind 2 begins with, as the page reads them.
-/
import Derived.Test.YtkaibpibnkmmbaaDoorIOwnN
namespace Go.Proofs.YtkaibpibnkmmbaaDoor
set_option linter.unusedVariables false

def lensB (lit : Nat) : Except Nat (Nat × List Int) → Except Nat (Nat × Nat × List Int)
  | .error e => .error e
  | .ok (u, A) => .ok (lit, u, A)
/-- The lengths that a block of kind 2 begins with: an error, or how many are of literals, the next bit, all of them. -/
noncomputable def lensR (M m t : Nat) : Except Nat (Nat × Nat × List Int) :=
  if t + 14 ≤ 8 * m then
    if 286 < M / 2 ^ t % 32 + 257 ∨ 30 < M / 2 ^ (t + 5) % 32 + 1 then .error 3
    else if t + 14 + 3 * (M / 2 ^ (t + 10) % 16 + 4) ≤ 8 * m then
      if newErr (clL M (t + 14) (M / 2 ^ (t + 10) % 16 + 4)) = 0 then
        lensB (M / 2 ^ t % 32 + 257) (lensV (clL M (t + 14) (M / 2 ^ (t + 10) % 16 + 4)) M m (M / 2 ^ t % 32 + 257 + (M / 2 ^ (t + 5) % 32 + 1)) (t + 14 + 3 * (M / 2 ^ (t + 10) % 16 + 4)))
      else .error (newErr (clL M (t + 14) (M / 2 ^ (t + 10) % 16 + 4))).toNat
    else .error 2
  else .error 2

theorem ownP_lensR (M m t : Nat) : ownP M m t = match lensR M m t with | .error e => .error e | .ok (lit, u, A) => ownA lit u A := by
  have e1 : M / 2 ^ t % 16384 % 32 = M / 2 ^ t % 32 := by omega
  have e5 : M / 2 ^ (t + 5) = M / 2 ^ t / 32 := by rw [Nat.pow_add, ← Nat.div_div_eq_div_mul]
  have e10 : M / 2 ^ (t + 10) = M / 2 ^ t / 1024 := by rw [Nat.pow_add, ← Nat.div_div_eq_div_mul]
  have e2 : M / 2 ^ t % 16384 / 32 % 32 = M / 2 ^ (t + 5) % 32 := by rw [e5]; omega
  have e3 : M / 2 ^ t % 16384 / 1024 = M / 2 ^ (t + 10) % 16 := by rw [e10]; omega
  unfold ownP lensR
  rw [e1, e2, e3]
  by_cases g1 : t + 14 ≤ 8 * m
  · rw [if_pos g1, if_pos g1]
    unfold ownC
    by_cases g2 : 286 < M / 2 ^ t % 32 + 257 ∨ 30 < M / 2 ^ (t + 5) % 32 + 1
    · rw [if_pos g2, if_pos g2]
    · rw [if_neg g2, if_neg g2]
      by_cases g3 : t + 14 + 3 * (M / 2 ^ (t + 10) % 16 + 4) ≤ 8 * m
      · rw [if_pos g3, if_pos g3]
        by_cases g4 : newErr (clL M (t + 14) (M / 2 ^ (t + 10) % 16 + 4)) = 0
        · rw [if_pos g4, if_pos g4]
          cases lensV (clL M (t + 14) (M / 2 ^ (t + 10) % 16 + 4)) M m (M / 2 ^ t % 32 + 257 + (M / 2 ^ (t + 5) % 32 + 1)) (t + 14 + 3 * (M / 2 ^ (t + 10) % 16 + 4)) with
          | error e => rfl
          | ok z => rfl
        · rw [if_neg g4, if_neg g4]
      · rw [if_neg g3, if_neg g3]
  · rw [if_neg g1, if_neg g1]

end Go.Proofs.YtkaibpibnkmmbaaDoor
