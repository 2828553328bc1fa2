/-
  A stretch turned about: plain indices.
-/
import Derived.Test.YtkglackbbcfhbaaHSwap
namespace Go.Proofs.Ytkglackbbcfhbaa
set_option linter.unusedVariables false

def swI (a b t k : Nat) : Nat := if a ≤ k ∧ k < a + t then b + (k - a) else if b ≤ k ∧ k < b + t then a + (k - b) else k
/-- Whence what stands at k comes when [a, m) and [m, b) have changed places. -/
def rotI (a m b k : Nat) : Nat := if a ≤ k ∧ k < a + (b - m) then k + (m - a) else if a + (b - m) ≤ k ∧ k < b then k - (b - m) else k

theorem swr_idx (D : List Int) (a b t k : Nat) : swr D a b t k = D.getD (swI a b t k) 0 := by
  unfold swr swI
  split
  · rfl
  · split <;> rfl

theorem rotI_lt {a m b k n : Nat} (h1 : a ≤ m) (h2 : m ≤ b) (hb : b ≤ n) (hk : k < n) : rotI a m b k < n := by
  unfold rotI
  split
  · omega
  · split <;> omega

theorem rot_big {m i j k : Nat} (h1 : j < i) (hi : i ≤ m) (hj : 0 < j) : swI (m - i) m j (rotI (m - (i - j)) m (m + j) k) = rotI (m - i) m (m + j) k := by
  unfold rotI swI
  repeat' split
  all_goals omega

theorem rot_small {m i j k : Nat} (h1 : i < j) (hi : i ≤ m) (h0 : 0 < i) : swI (m - i) (m + j - i) i (rotI (m - i) m (m + (j - i)) k) = rotI (m - i) m (m + j) k := by
  unfold rotI swI
  repeat' split
  all_goals omega

theorem rot_same {m i k : Nat} (hi : i ≤ m) (h0 : 0 < i) : swI (m - i) m i k = rotI (m - i) m (m + i) k := by
  unfold rotI swI
  repeat' split
  all_goals omega

end Go.Proofs.Ytkglackbbcfhbaa
