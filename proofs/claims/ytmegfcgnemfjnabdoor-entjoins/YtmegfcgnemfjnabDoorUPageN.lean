/-
  The page's rune, in numbers.
-/
import Derived.Test.YtmegfcgnemfjnabDoorUN
import Derived.Laws.Entries
import Derived.Deep.Draws
import Derived.WalkKit
namespace Go.Proofs.YtmegfcgnemfjnabDoor
open Go Go.Lib Go.RowKit

def bN (l : List UInt8) (k : Nat) : Nat := (l.getD k 0).toNat
theorem bN_lt (l : List UInt8) (k : Nat) : bN l k < 256 := (l.getD k 0).toNat_lt
/-- What k bytes behind the first one make of v. -/
def pacc (l : List UInt8) (v : Nat) : Nat → Nat
  | 0 => v
  | k + 1 => pacc l v k * 64 + bN l (k + 1) % 64

set_option maxRecDepth 100000 in
theorem and192F : ∀ X : Fin 256, bits .and .u8 ((X.val : Nat) : Int) 192 = ((X.val / 64 * 64 : Nat) : Int) := by decide
set_option maxRecDepth 100000 in
theorem and63F : ∀ X : Fin 256, bits .and .u8 ((X.val : Nat) : Int) 63 = ((X.val % 64 : Nat) : Int) := by decide
set_option maxRecDepth 100000 in
theorem and31F : ∀ X : Fin 256, bits .and .u8 ((X.val : Nat) : Int) 31 = ((X.val % 32 : Nat) : Int) := by decide
set_option maxRecDepth 100000 in
theorem and15F : ∀ X : Fin 256, bits .and .u8 ((X.val : Nat) : Int) 15 = ((X.val % 16 : Nat) : Int) := by decide
set_option maxRecDepth 100000 in
theorem and7F : ∀ X : Fin 256, bits .and .u8 ((X.val : Nat) : Int) 7 = ((X.val % 8 : Nat) : Int) := by decide
theorem and192 (x : Nat) (h : x < 256) : bits .and .u8 (x : Int) 192 = ((x / 64 * 64 : Nat) : Int) := and192F ⟨x, h⟩
theorem and63 (x : Nat) (h : x < 256) : bits .and .u8 (x : Int) 63 = ((x % 64 : Nat) : Int) := and63F ⟨x, h⟩
theorem and31 (x : Nat) (h : x < 256) : bits .and .u8 (x : Int) 31 = ((x % 32 : Nat) : Int) := and31F ⟨x, h⟩
theorem and15 (x : Nat) (h : x < 256) : bits .and .u8 (x : Int) 15 = ((x % 16 : Nat) : Int) := and15F ⟨x, h⟩
theorem and7 (x : Nat) (h : x < 256) : bits .and .u8 (x : Int) 7 = ((x % 8 : Nat) : Int) := and7F ⟨x, h⟩

theorem or_i32 (a b : Nat) (ha : a < 2147483648) (hb : b < 2147483648) : bits .or .i32 (a : Int) (b : Int) = ((a ||| b : Nat) : Int) := by
  have e : (BitVec.ofInt 32 (a : Int) ||| BitVec.ofInt 32 (b : Int)).toNat = a ||| b := by
    rw [BitVec.toNat_or]
    simp only [BitVec.toNat_ofInt]
    congr 1 <;> omega
  have hl : a ||| b < 2147483648 := Nat.or_lt_two_pow (n := 31) ha hb
  show IntKind.i32.wrap ((BitVec.ofInt 32 (a : Int) ||| BitVec.ofInt 32 (b : Int)).toNat : Int) = _
  rw [e]
  have h2 : ((a ||| b : Nat) : Int) < 2147483648 := by omega
  have h0 : (0 : Int) ≤ ((a ||| b : Nat) : Int) := by omega
  generalize ((a ||| b : Nat) : Int) = z at *
  simp [IntKind.wrap, IntKind.bits, IntKind.signed]
  omega
theorem or_low (v x : Nat) (hx : x < 64) : (v * 64) ||| x = v * 64 + x := by
  have e : v * 64 = v <<< 6 := by rw [Nat.shiftLeft_eq]
  rw [e]
  exact (Nat.shiftLeft_add_eq_or_of_lt (b := x) (i := 6) (by omega) v).symm
theorem or_step (v x : Nat) (hv : v < 33554432) (hx : x < 64) : bits .or .i32 ((v * 64 : Nat) : Int) (x : Int) = ((v * 64 + x : Nat) : Int) := by
  rw [or_i32 _ _ (by omega) (by omega), or_low v x hx]

theorem dec_low (l : List UInt8) (h : bN l 0 < 128) : decodeL l = (bN l 0, 1) := by
  unfold bN at *
  rw [decodeL_N]; unfold decodeN; rw [if_pos h]
theorem dec_lead (l : List UInt8) (h : (128 ≤ bN l 0 ∧ bN l 0 < 194) ∨ 245 ≤ bN l 0) : decodeL l = (65533, 1) := by
  rw [decodeL_N]
  have := bN_lt l 0
  unfold bN at *
  exact decodeN_bad _ _ _ _ _ (by omega)
set_option maxRecDepth 100000 in
theorem dec2 (l : List UInt8) (h : 194 ≤ bN l 0 ∧ bN l 0 < 224) : decodeL l = if 2 ≤ l.length ∧ bN l 1 / 64 = 2 then (pacc l (bN l 0 % 32) 1, 2) else (65533, 1) := by
  rw [decodeL_N]
  have h1 := bN_lt l 1
  simp only [pacc]
  unfold bN at *
  generalize (l.getD 0 0).toNat = b0 at *
  generalize (l.getD (0 + 1) 0).toNat = b1 at *
  unfold decodeN
  repeat' split
  all_goals first | rfl | (exfalso; omega)
set_option maxRecDepth 100000 in
theorem dec3 (l : List UInt8) (h : 224 ≤ bN l 0 ∧ bN l 0 < 240) : decodeL l = if 3 ≤ l.length ∧ bN l 1 / 64 = 2 ∧ bN l 2 / 64 = 2 ∧ 2048 ≤ pacc l (bN l 0 % 16) 2 ∧ ¬ (55296 ≤ pacc l (bN l 0 % 16) 2 ∧ pacc l (bN l 0 % 16) 2 ≤ 57343) then (pacc l (bN l 0 % 16) 2, 3) else (65533, 1) := by
  rw [decodeL_N]
  have h1 := bN_lt l 1
  have h2 := bN_lt l 2
  have e : pacc l (bN l 0 % 16) 2 = bN l 0 % 16 * 4096 + bN l 1 % 64 * 64 + bN l 2 % 64 := by simp only [pacc, Nat.zero_add, Nat.reduceAdd]; omega
  rw [e]
  unfold bN at *
  generalize (l.getD 0 0).toNat = b0 at *
  generalize (l.getD 1 0).toNat = b1 at *
  generalize (l.getD 2 0).toNat = b2 at *
  unfold decodeN
  repeat' split
  all_goals first | rfl | (exfalso; omega)
set_option maxRecDepth 100000 in
theorem dec4 (l : List UInt8) (h : 240 ≤ bN l 0 ∧ bN l 0 < 245) : decodeL l = if 4 ≤ l.length ∧ bN l 1 / 64 = 2 ∧ bN l 2 / 64 = 2 ∧ bN l 3 / 64 = 2 ∧ 65536 ≤ pacc l (bN l 0 % 8) 3 ∧ pacc l (bN l 0 % 8) 3 ≤ 1114111 then (pacc l (bN l 0 % 8) 3, 4) else (65533, 1) := by
  rw [decodeL_N]
  have h1 := bN_lt l 1
  have h2 := bN_lt l 2
  have h3 := bN_lt l 3
  have e : pacc l (bN l 0 % 8) 3 = bN l 0 % 8 * 262144 + bN l 1 % 64 * 4096 + bN l 2 % 64 * 64 + bN l 3 % 64 := by simp only [pacc, Nat.zero_add, Nat.reduceAdd]; omega
  rw [e]
  unfold bN at *
  generalize (l.getD 0 0).toNat = b0 at *
  generalize (l.getD 1 0).toNat = b1 at *
  generalize (l.getD 2 0).toNat = b2 at *
  generalize (l.getD 3 0).toNat = b3 at *
  unfold decodeN
  repeat' split
  all_goals first | rfl | (exfalso; omega)

/-- The first bytes are a rune. -/
def good (l : List UInt8) : Bool := decide (¬ ((decodeL l).1 = 65533 ∧ (decodeL l).2 = 1))
theorem bad_of (l : List UInt8) (h : decodeL l = (65533, 1)) : good l = false := by
  unfold good; rw [h]; simp
theorem good_of (l : List UInt8) (v n : Nat) (hn : n ≠ 1) (h : decodeL l = (v, n)) : good l = true := by
  unfold good; rw [h]; simp [hn]
theorem good_low (l : List UInt8) (v : Nat) (hv : v < 128) (h : decodeL l = (v, 1)) : good l = true := by
  unfold good; rw [h]; simp; omega

end Go.Proofs.YtmegfcgnemfjnabDoor
