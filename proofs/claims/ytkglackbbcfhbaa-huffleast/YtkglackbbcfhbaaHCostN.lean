/-
  Plain numbers: the sum of products.
-/
import Derived.Test.YtkglackbbcfhbaaHInt
namespace Go.Proofs.Ytkglackbbcfhbaa

/-- How many bits the first k take. -/
def csum (A B : List Int) : Nat → Int
  | 0 => 0
  | k + 1 => csum A B k + A.getD k 0 * B.getD k 0

theorem prod_bd (x y : Int) (h1 : -1073741824 ≤ x) (h2 : x ≤ 1073741824) (h3 : -1048576 ≤ y) (h4 : y ≤ 1048576) : -1125899906842624 ≤ x * y ∧ x * y ≤ 1125899906842624 := by
  have p1 : 0 ≤ (1073741824 - x) * (1048576 - y) := Int.mul_nonneg (by omega) (by omega)
  have p2 : 0 ≤ (1073741824 + x) * (1048576 + y) := Int.mul_nonneg (by omega) (by omega)
  have p3 : 0 ≤ (1073741824 - x) * (1048576 + y) := Int.mul_nonneg (by omega) (by omega)
  have p4 : 0 ≤ (1073741824 + x) * (1048576 - y) := Int.mul_nonneg (by omega) (by omega)
  simp only [Int.add_mul, Int.sub_mul, Int.mul_add, Int.mul_sub] at p1 p2 p3 p4
  generalize x * y = z at *
  omega

/-- Bounds of both rows. -/
def Cb (A B : List Int) : Prop := (∀ k, k < A.length → -1073741824 ≤ A.getD k 0 ∧ A.getD k 0 ≤ 1073741824) ∧ (∀ k, k < B.length → -1048576 ≤ B.getD k 0 ∧ B.getD k 0 ≤ 1048576)

theorem csum_bd (A B : List Int) (h : Cb A B) : ∀ k, k ≤ A.length → k ≤ B.length → -1125899906842624 * (k : Int) ≤ csum A B k ∧ csum A B k ≤ 1125899906842624 * (k : Int)
  | 0, _, _ => by simp [csum]
  | k + 1, h1, h2 => by
    have ih := csum_bd A B h k (by omega) (by omega)
    have a := h.1 k (by omega)
    have b := h.2 k (by omega)
    have p := prod_bd _ _ a.1 a.2 b.1 b.2
    simp only [csum]
    generalize A.getD k 0 * B.getD k 0 = z at *
    omega

end Go.Proofs.Ytkglackbbcfhbaa
