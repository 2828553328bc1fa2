/-
  Plain numbers: the bytes of a number, the lowest first; bit operations on numbers that are not negative.
-/
import Derived.WalkKit
import Derived.WalkSpells
import Derived.WalkLawsBesides
import Derived.Laws.BitsAllLaws
namespace Go.Proofs.YtmegfcgnemfjnabDoor
open Go.RowKit

theorem wrap64_id (n : Int) (h0 : -9223372036854775808 ≤ n) (h1 : n ≤ 9223372036854775807) : wrap64 n = n := IntWalk.wrap64_in n ⟨h0, h1⟩

theorem pow_le_24 (n : Nat) (h : n ≤ 24) : 2 ^ n ≤ 16777216 := Nat.pow_le_pow_right (n := 2) (by omega) h
theorem ipow_le_24 (n : Nat) (h : n ≤ 24) : (2 : Int) ^ n ≤ 16777216 := by
  have := pow_le_24 n h
  have e : ((2 ^ n : Nat) : Int) = (2 : Int) ^ n := by simp
  omega
theorem ipow_pos (n : Nat) : (1 : Int) ≤ (2 : Int) ^ n := by
  have := Nat.two_pow_pos n
  have e : ((2 ^ n : Nat) : Int) = (2 : Int) ^ n := by simp
  omega

theorem ofInt_i64 (a : Nat) (ha : a < 9223372036854775808) : (BitVec.ofInt 64 (a : Int)).toNat = a := by
  rw [BitVec.ofInt_natCast, BitVec.toNat_ofNat]; exact Nat.mod_eq_of_lt (by omega)
theorem wrap_i64_nat (a : Nat) (ha : a < 9223372036854775808) : IntKind.i64.wrap (a : Int) = (a : Int) := by
  simp [IntKind.wrap, IntKind.bits, IntKind.signed]; omega

theorem wrap_i64_id (n : Int) (h0 : -9223372036854775808 ≤ n) (h1 : n ≤ 9223372036854775807) : IntKind.i64.wrap n = n := by
  simp [IntKind.wrap, IntKind.bits, IntKind.signed]; omega

theorem i64_and_nat (a b : Nat) (ha : a < 9223372036854775808) (hb : b < 9223372036854775808) : bits .and .i64 (a : Int) (b : Int) = ((a &&& b : Nat) : Int) := by
  show IntKind.i64.wrap ((BitVec.ofInt 64 (a : Int) &&& BitVec.ofInt 64 (b : Int)).toNat : Int) = _
  rw [BitVec.toNat_and, ofInt_i64 a ha, ofInt_i64 b hb]
  exact wrap_i64_nat _ (Nat.lt_of_le_of_lt Nat.and_le_left ha)
theorem i64_or_nat (a b : Nat) (ha : a < 9223372036854775808) (hb : b < 9223372036854775808) : bits .or .i64 (a : Int) (b : Int) = ((a ||| b : Nat) : Int) := by
  show IntKind.i64.wrap ((BitVec.ofInt 64 (a : Int) ||| BitVec.ofInt 64 (b : Int)).toNat : Int) = _
  rw [BitVec.toNat_or, ofInt_i64 a ha, ofInt_i64 b hb]
  exact wrap_i64_nat _ (Nat.or_lt_two_pow (n := 63) ha hb)

/-- 'v & (1<<n - 1)'. -/
theorem i64_mask (v : Int) (n : Nat) (h0 : 0 ≤ v) (h1 : v ≤ 9223372036854775807) (hn : n ≤ 24) :
    bits .and .i64 v (wrap64 (wrap64 (2 ^ n) - 1)) = v % 2 ^ n := by
  have p1 := ipow_pos n
  have p2 := ipow_le_24 n hn
  have q1 := Nat.two_pow_pos n
  have q2 := pow_le_24 n hn
  rw [wrap64_id (2 ^ n) (by omega) (by omega), wrap64_id _ (by omega) (by omega)]
  obtain ⟨a, rfl⟩ := Int.eq_ofNat_of_zero_le h0
  have e : ((2 : Int) ^ n - 1) = ((2 ^ n - 1 : Nat) : Int) := by
    rw [Int.natCast_sub (by omega)]; simp
  rw [e, i64_and_nat a _ (by omega) (by omega), Nat.and_two_pow_sub_one_eq_mod]
  simp

theorem i64_and1 (v : Int) (h0 : 0 ≤ v) (h1 : v ≤ 9223372036854775807) : bits .and .i64 v 1 = v % 2 := by
  obtain ⟨a, rfl⟩ := Int.eq_ofNat_of_zero_le h0
  have := i64_and_nat a 1 (by omega) (by omega)
  rw [Nat.and_one_is_mod] at this
  simpa using this

/-- The first m bytes of a number, the lowest first. -/
def bytesOf (N m : Nat) : List Nat := (List.range m).map fun i => N / 2 ^ (8 * i) % 256

theorem bytesOf_length (N m : Nat) : (bytesOf N m).length = m := by simp [bytesOf]
theorem bytesOf_getD (N m i : Nat) (h : i < m) : (bytesOf N m).getD i 0 = N / 2 ^ (8 * i) % 256 := by
  simp [bytesOf, List.getD, h]
theorem bytesOf_get? (N m i : Nat) (h : i < m) : (bytesOf N m)[i]? = some (N / 2 ^ (8 * i) % 256) := by
  simp [bytesOf, h]

theorem bytesOf_succ (N m : Nat) : bytesOf N (m + 1) = bytesOf N m ++ [N / 2 ^ (8 * m) % 256] := by
  simp [bytesOf, List.range_succ]

/-- Bytes that lie wholly below bit L don't see what is laid from L on. -/
theorem byte_low (N x L i : Nat) (h : 8 * i + 8 ≤ L) : (N + x * 2 ^ L) / 2 ^ (8 * i) % 256 = N / 2 ^ (8 * i) % 256 := by
  obtain ⟨d, rfl⟩ : ∃ d, L = 8 * i + 8 + d := ⟨L - (8 * i + 8), by omega⟩
  have e : x * 2 ^ (8 * i + 8 + d) = (256 * (x * 2 ^ d)) * 2 ^ (8 * i) := by
    rw [Nat.pow_add, Nat.pow_add]
    have : (2 : Nat) ^ 8 = 256 := by decide
    rw [this]
    ac_rfl
  rw [e, Nat.add_mul_div_right _ _ (Nat.two_pow_pos _), Nat.add_mul_mod_self_left]

theorem bytesOf_low (N x L m : Nat) (h : 8 * m ≤ L) : bytesOf (N + x * 2 ^ L) m = bytesOf N m := by
  simp only [bytesOf]
  refine List.map_congr_left fun i hi => ?_
  exact byte_low N x L i (by have := List.mem_range.1 hi; omega)

theorem lt_of_pow {N L x n : Nat} (hN : N < 2 ^ L) (hx : x < 2 ^ n) : N + x * 2 ^ L < 2 ^ (L + n) := by
  rw [Nat.pow_add, Nat.mul_comm (2 ^ L)]
  have : (x + 1) * 2 ^ L ≤ 2 ^ n * 2 ^ L := Nat.mul_le_mul_right _ hx
  rw [Nat.add_mul] at this
  omega

/-- A byte that begins at bit 8q where r bits are laid (r < 8) and k more come (r + k at most 8). -/
theorem byte_mid (N x q r k : Nat) (hN : N < 2 ^ (8 * q + r)) (hx : x < 2 ^ k) (hrk : r + k ≤ 8) :
    (N + x * 2 ^ (8 * q + r)) / 2 ^ (8 * q) % 256 = N / 2 ^ (8 * q) % 256 ||| (x * 2 ^ r) % 256 := by
  have e1 : (N + x * 2 ^ (8 * q + r)) / 2 ^ (8 * q) = N / 2 ^ (8 * q) + x * 2 ^ r := by
    rw [Nat.pow_add, Nat.mul_comm (2 ^ (8 * q)), ← Nat.mul_assoc, Nat.add_mul_div_right _ _ (Nat.two_pow_pos _)]
  have hr : N / 2 ^ (8 * q) < 2 ^ r := by
    rw [Nat.div_lt_iff_lt_mul (Nat.two_pow_pos _), ← Nat.pow_add, Nat.add_comm r]; exact hN
  have h8 : (2 : Nat) ^ r * 2 ^ k ≤ 256 := by
    rw [← Nat.pow_add]; exact Nat.pow_le_pow_right (n := 2) (by omega) hrk
  have hk0 := Nat.two_pow_pos k
  have hr0 := Nat.two_pow_pos r
  have hxx : x * 2 ^ r + 2 ^ r ≤ 256 := by
    have : (x + 1) * 2 ^ r ≤ 2 ^ k * 2 ^ r := Nat.mul_le_mul_right _ hx
    rw [Nat.add_mul, Nat.mul_comm (2 ^ k)] at this
    omega
  rw [e1, Nat.mod_eq_of_lt (by omega : N / 2 ^ (8 * q) < 256), Nat.mod_eq_of_lt (by omega : x * 2 ^ r < 256), Nat.mod_eq_of_lt (by omega : N / 2 ^ (8 * q) + x * 2 ^ r < 256)]
  have := Nat.two_pow_add_eq_or_of_lt hr x
  rw [Nat.mul_comm, Nat.add_comm] at this
  rw [this, Nat.or_comm, Nat.mul_comm]

end Go.Proofs.YtmegfcgnemfjnabDoor
