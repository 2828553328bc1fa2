/-
  Plain numbers: a code's bits as they are read.
-/
import Derived.Test.YtkglackbbcfhbaaHNext
import Derived.Test.YtkglackbbcfhbaaHBackN
namespace Go.Proofs.Ytkglackbbcfhbaa
open Go.RowKit

theorem bit_of (c b : Nat) (hc : c ≤ 100000) : bits .and .i64 ((c : Int) / 2 ^ b) 1 = ((c / 2 ^ b % 2 : Nat) : Int) := by
  have p := Nat.two_pow_pos b
  have e : ((c : Int) / 2 ^ b) = ((c / 2 ^ b : Nat) : Int) := by simp
  have h : c / 2 ^ b ≤ c := Nat.div_le_self _ _
  rw [e]
  generalize c / 2 ^ b = y at *
  rw [i64_and1 _ (by omega) (by omega)]
  simp

theorem bitOf_bit (x : Nat) : bitOf ((x % 2 : Nat) : Int) = x % 2 := by
  unfold bitOf
  have : x % 2 = 0 ∨ x % 2 = 1 := by omega
  rcases this with h | h <;> simp [h]

/-- A symbol's code as it is read: t bits have come. -/
def stC (c x t : Nat) : Nat := if t = x then 0 else c / 2 ^ (x - t)
def stL (x t : Nat) : Nat := if t = x then 0 else t

end Go.Proofs.Ytkglackbbcfhbaa
