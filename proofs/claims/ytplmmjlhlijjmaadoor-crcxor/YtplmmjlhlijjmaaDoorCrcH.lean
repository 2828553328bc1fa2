/-
  Plain numbers: four bits at a time by a table of sixteen; numbers of 32 bits as the program has them.
-/
import Derived.Test.YtplmmjlhlijjmaaDoorCrcN
import Derived.Test.YtplmmjlhlijjmaaDoorNum
namespace Go.Proofs.YtplmmjlhlijjmaaDoor
open Go.RowKit

/-- The table. -/
def half : List Nat := [0, 498536548, 997073096, 651767980, 1994146192, 1802195444, 1303535960, 1342533948, 3988292384, 4027552580, 3604390888, 3412177804, 2607071920, 2262029012, 2685067896, 3183342108]

theorem half_bits : ∀ k, k < 16 → half.getD k 0 = crcBits 4 k := by decide

theorem crcBits_up (k q : Nat) : crcBits k (q * 2 ^ k) = q := by
  induction k generalizing q with
  | zero => simp [crcBits]
  | succ k ih =>
    have e : crcBit (q * 2 ^ (k + 1)) = q * 2 ^ k := by
      unfold crcBit
      have h2 : q * 2 ^ (k + 1) = 2 * (q * 2 ^ k) := by rw [Nat.pow_succ]; ac_rfl
      rw [h2]
      simp
    simp only [crcBits, e, ih]

theorem split16 (r : Nat) : (r / 16 * 2 ^ 4) ^^^ (r % 16) = r := by
  have h := Nat.xor_mod_two_pow (a := r / 16 * 2 ^ 4) (b := r % 16) (n := 4)
  have hd := Nat.xor_div_two_pow (a := r / 16 * 2 ^ 4) (b := r % 16) (n := 4)
  have e1 : r / 16 * 2 ^ 4 % 2 ^ 4 = 0 := by omega
  have e2 : r % 16 % 2 ^ 4 = r % 16 := by omega
  have e3 : r / 16 * 2 ^ 4 / 2 ^ 4 = r / 16 := by omega
  have e4 : r % 16 / 2 ^ 4 = 0 := by omega
  rw [e1, e2, Nat.zero_xor] at h
  rw [e3, e4, Nat.xor_zero] at hd
  generalize r / 16 * 2 ^ 4 ^^^ r % 16 = z at *
  omega

theorem crcBits4 (r : Nat) : crcBits 4 r = r / 16 ^^^ half.getD (r % 16) 0 := by
  have h := crcBits_xor 4 (r / 16 * 2 ^ 4) (r % 16)
  rw [split16, crcBits_up, ← half_bits (r % 16) (by omega)] at h
  exact h

theorem crcBits_add (j k r : Nat) : crcBits (j + k) r = crcBits k (crcBits j r) := by
  induction j generalizing r with
  | zero => simp [crcBits]
  | succ j ih =>
    rw [show j + 1 + k = (j + k) + 1 by omega]
    simp only [crcBits, ih]

theorem half_lt : ∀ k, half.getD k 0 < 4294967296 := by
  intro k
  by_cases h : k < 16
  · revert k; decide
  · have : half.getD k 0 = 0 := by
      have hl : half.length = 16 := rfl
      simp only [List.getD]
      rw [List.getElem?_eq_none (by omega)]; rfl
    omega

/-- One byte by the table, twice. -/
theorem crcByte_half (r b : Nat) : crcByte r b = crcBits 4 ((r ^^^ b) / 16 ^^^ half.getD ((r ^^^ b) % 16) 0) := by
  unfold crcByte
  rw [← crcBits4, ← crcBits_add]

theorem ofInt_u32 (a : Nat) (ha : a < 4294967296) : (BitVec.ofInt 32 (a : Int)).toNat = a := by
  rw [BitVec.ofInt_natCast, BitVec.toNat_ofNat]; exact Nat.mod_eq_of_lt (by omega)
theorem wrap_u32_nat (a : Nat) (ha : a < 4294967296) : IntKind.u32.wrap (a : Int) = (a : Int) := by
  simp [IntKind.wrap, IntKind.bits, IntKind.signed]; omega
theorem u32_xor (a b : Nat) (ha : a < 4294967296) (hb : b < 4294967296) : bits .xor .u32 (a : Int) (b : Int) = ((a ^^^ b : Nat) : Int) := by
  show IntKind.u32.wrap ((BitVec.ofInt 32 (a : Int) ^^^ BitVec.ofInt 32 (b : Int)).toNat : Int) = _
  rw [BitVec.toNat_xor, ofInt_u32 a ha, ofInt_u32 b hb]
  exact wrap_u32_nat _ (Nat.xor_lt_two_pow (n := 32) ha hb)
theorem u32_and (a b : Nat) (ha : a < 4294967296) (hb : b < 4294967296) : bits .and .u32 (a : Int) (b : Int) = ((a &&& b : Nat) : Int) := by
  show IntKind.u32.wrap ((BitVec.ofInt 32 (a : Int) &&& BitVec.ofInt 32 (b : Int)).toNat : Int) = _
  rw [BitVec.toNat_and, ofInt_u32 a ha, ofInt_u32 b hb]
  exact wrap_u32_nat _ (Nat.lt_of_le_of_lt Nat.and_le_left ha)
theorem u32_and15 (a : Nat) (ha : a < 4294967296) : bits .and .u32 (a : Int) 15 = ((a % 16 : Nat) : Int) := by
  have h := u32_and a 15 ha (by omega)
  rw [show (15 : Nat) = 2 ^ 4 - 1 by rfl, Nat.and_two_pow_sub_one_eq_mod] at h
  exact h
theorem u32_and1 (a : Nat) (ha : a < 4294967296) : bits .and .u32 (a : Int) 1 = ((a % 2 : Nat) : Int) := by
  have h := u32_and a 1 ha (by omega)
  rw [Nat.and_one_is_mod] at h
  exact h
theorem u32_max : IntKind.u32.max = ((4294967295 : Nat) : Int) := rfl
theorem u32_not (a : Nat) (ha : a < 4294967296) : bits .xor .u32 IntKind.u32.max (a : Int) = ((a ^^^ 4294967295 : Nat) : Int) := by
  rw [u32_max, u32_xor _ _ (by omega) ha, Nat.xor_comm]

theorem crcRun_take (r : Nat) (B : List Nat) (k : Nat) (h : k < B.length) : crcRun r (B.take (k + 1)) = crcByte (crcRun r (B.take k)) (B.getD k 0) := by
  rw [List.take_succ_eq_append_getElem h, crcRun_append]
  simp [crcRun, List.getD, h]

theorem crcRun_take_lt (r : Nat) (B : List Nat) (k : Nat) (hB : ∀ x ∈ B, x < 256) (hr : r < 4294967296) : crcRun r (B.take k) < 4294967296 :=
  crcRun_lt _ (fun x hx => hB x (List.mem_of_mem_take hx)) r hr

theorem getD_lt {B : List Nat} {k : Nat} (h : k < B.length) (hB : ∀ x ∈ B, x < 256) : B.getD k 0 < 256 := by
  have : B.getD k 0 = B[k] := by simp [List.getD, h]
  rw [this]; exact hB _ (List.getElem_mem h)

end Go.Proofs.YtplmmjlhlijjmaaDoor
