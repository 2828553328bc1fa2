/-
  Plain numbers: a number by its bytes, the lowest first, and back.
-/
import Derived.Test.YtplmmjlhlijjmaaDoorNum
namespace Go.Proofs.YtplmmjlhlijjmaaDoor
open Go.RowKit

/-- The number of bytes, the lowest first. -/
def numOf : List Nat → Nat
  | [] => 0
  | b :: bs => b + 256 * numOf bs

theorem numOf_append (A B : List Nat) : numOf (A ++ B) = numOf A + 2 ^ (8 * A.length) * numOf B := by
  induction A with
  | nil => simp [numOf]
  | cons a A ih =>
    have e : (2 : Nat) ^ (8 * (A.length + 1)) = 256 * 2 ^ (8 * A.length) := by rw [Nat.mul_add, Nat.pow_add]; omega
    simp only [List.cons_append, numOf, ih, List.length_cons, e]
    rw [Nat.mul_add, Nat.mul_assoc, Nat.add_assoc]

theorem numOf_lt (B : List Nat) (hB : ∀ x ∈ B, x < 256) : numOf B < 2 ^ (8 * B.length) := by
  induction B with
  | nil => simp [numOf]
  | cons a A ih =>
    have e : (2 : Nat) ^ (8 * (A.length + 1)) = 256 * 2 ^ (8 * A.length) := by rw [Nat.mul_add, Nat.pow_add]; omega
    have h1 := hB a (by simp)
    have h2 := ih (fun x hx => hB x (by simp [hx]))
    simp only [numOf, List.length_cons, e]
    omega

theorem bytesOf_cons (N m : Nat) : bytesOf N (m + 1) = N % 256 :: bytesOf (N / 256) m := by
  unfold bytesOf
  rw [List.range_succ_eq_map, List.map_cons, List.map_map]
  congr 1
  · simp
  · refine List.map_congr_left fun i _ => ?_
    have e : (2 : Nat) ^ (8 * (i + 1)) = 256 * 2 ^ (8 * i) := by rw [Nat.mul_add, Nat.pow_add]; omega
    simp only [Function.comp, Nat.succ_eq_add_one, e, Nat.div_div_eq_div_mul]

theorem numOf_bytesOf (N m : Nat) : numOf (bytesOf N m) = N % 2 ^ (8 * m) := by
  induction m generalizing N with
  | zero => simp [bytesOf, numOf, Nat.mod_one]
  | succ m ih =>
    have e : (2 : Nat) ^ (8 * (m + 1)) = 256 * 2 ^ (8 * m) := by rw [Nat.mul_add, Nat.pow_add]; omega
    rw [bytesOf_cons, numOf, ih, e, Nat.mod_mul]

theorem bytesOf_numOf (B : List Nat) (hB : ∀ x ∈ B, x < 256) : bytesOf (numOf B) B.length = B := by
  induction B with
  | nil => simp [bytesOf]
  | cons a A ih =>
    have h1 := hB a (by simp)
    have e1 : (a + 256 * numOf A) % 256 = a := by omega
    have e2 : (a + 256 * numOf A) / 256 = numOf A := by omega
    rw [List.length_cons, bytesOf_cons, numOf, e1, e2, ih (fun x hx => hB x (by simp [hx]))]

theorem bytesOf_take (N m k : Nat) (h : k ≤ m) : (bytesOf N m).take k = bytesOf N k := by
  unfold bytesOf
  rw [← List.map_take, List.take_range, Nat.min_eq_left h]

theorem bytesOf_byte (N m : Nat) : ∀ x ∈ bytesOf N m, x < 256 := by
  intro x hx
  obtain ⟨i, _, rfl⟩ := List.mem_map.1 hx
  omega

/-- One byte more, on top. -/
theorem numOf_take (B : List Nat) (k : Nat) (h : k < B.length) (hB : ∀ x ∈ B, x < 256) : numOf (B.take (k + 1)) = numOf (B.take k) ||| B.getD k 0 * 2 ^ (8 * k) := by
  have e : B.getD k 0 = B[k] := by simp [List.getD, h]
  have hl : (B.take k).length = k := by simp; omega
  have h2 := numOf_lt (B.take k) (fun x hx => hB x (List.mem_of_mem_take hx))
  rw [hl] at h2
  rw [List.take_succ_eq_append_getElem h, numOf_append, hl, e]
  have := Nat.two_pow_add_eq_or_of_lt h2 B[k]
  simp only [numOf, Nat.mul_zero, Nat.add_zero]
  rw [Nat.add_comm, this, Nat.or_comm, Nat.mul_comm]

/-- One byte more, below. -/
theorem numOf_drop (B : List Nat) (k : Nat) (h : k < B.length) (hB : ∀ x ∈ B, x < 256) : numOf (B.drop k) = numOf (B.drop (k + 1)) * 256 ||| B.getD k 0 := by
  have e : B.getD k 0 = B[k] := by simp [List.getD, h]
  have hx : B[k] < 2 ^ 8 := hB _ (List.getElem_mem h)
  rw [List.drop_eq_getElem_cons h, numOf, e]
  have := Nat.two_pow_add_eq_or_of_lt hx (numOf (B.drop (k + 1)))
  rw [show (2 : Nat) ^ 8 = 256 by rfl] at this
  rw [Nat.add_comm, this, Nat.mul_comm]

end Go.Proofs.YtplmmjlhlijjmaaDoor
