/-
  The page's Encode: a rune as bytes.
-/
import Derived.Test.YtmegfcgnemfjnabDoorUPageN
import Derived.Test.YtmegfcgnemfjnabDoorUBytes
namespace Go.Proofs.YtmegfcgnemfjnabDoor
open Go.RowKit Go.Lib

theorem wrap32_nat (a : Nat) (h : a < 2147483648) : IntKind.i32.wrap (a : Int) = (a : Int) := by
  simp [IntKind.wrap, IntKind.bits, IntKind.signed]; omega
theorem wrap8_nat (a : Nat) (h : a < 256) : IntKind.u8.wrap (a : Int) = (a : Int) := by
  simp [IntKind.wrap, IntKind.bits, IntKind.signed]; omega
theorem and63_i32 (a : Nat) (_ha : a < 2147483648) : bits .and .i32 (a : Int) 63 = ((a % 64 : Nat) : Int) := by
  have e : (BitVec.ofInt 32 (a : Int) &&& BitVec.ofInt 32 63).toNat = a % 64 := by
    rw [BitVec.toNat_and]
    have h63 : (BitVec.ofInt 32 63).toNat = 2 ^ 6 - 1 := by decide
    rw [h63, Nat.and_two_pow_sub_one_eq_mod, BitVec.toNat_ofInt]
    omega
  show IntKind.i32.wrap ((BitVec.ofInt 32 (a : Int) &&& BitVec.ofInt 32 63).toNat : Int) = _
  rw [e]
  exact wrap32_nat _ (by omega)
theorem or_hi (k a m : Nat) (hm : a < 64) (hk : k = m * 64) (hb : k < 2147483648) : bits .or .i32 (k : Int) (a : Int) = ((k + a : Nat) : Int) := by
  subst hk
  rw [or_i32 _ _ hb (by omega), or_low m a hm]
theorem or192 (a : Nat) (h : a < 32) : bits .or .i32 192 (a : Int) = ((192 + a : Nat) : Int) := or_hi 192 a 3 (by omega) rfl (by omega)
theorem or128 (a : Nat) (h : a < 64) : bits .or .i32 128 (a : Int) = ((128 + a : Nat) : Int) := or_hi 128 a 2 h rfl (by omega)
theorem or224F : ∀ X : Fin 16, bits .or .i32 224 ((X.val : Nat) : Int) = ((224 + X.val : Nat) : Int) := by decide
theorem or240F : ∀ X : Fin 8, bits .or .i32 240 ((X.val : Nat) : Int) = ((240 + X.val : Nat) : Int) := by decide
theorem or224 (a : Nat) (h : a < 16) : bits .or .i32 224 (a : Int) = ((224 + a : Nat) : Int) := or224F ⟨a, h⟩
theorem or240 (a : Nat) (h : a < 8) : bits .or .i32 240 (a : Int) = ((240 + a : Nat) : Int) := or240F ⟨a, h⟩

/-- A list that was just laid, as a text. -/
theorem conv_lit (w : World) (l : List UInt8) (C : Array Value) (hC : C = (l.map fun b => Value.int .u8 (b.toNat : Int)).toArray) :
    (convert 23 9 (.slice (some ⟨w.heap.size, 0, none⟩) C.size C.size)).run Tryd.prog (w.alloc (.cells C 5)) = .ok (str l) (w.alloc (.cells C 5)) := by
  have hs : C.size = l.length := by rw [hC]; simp
  have h : Rb (w.alloc (.cells C 5)) (.slice (some ⟨w.heap.size, 0, none⟩) C.size C.size) l := by
    refine ⟨some ⟨w.heap.size, 0, none⟩, C.size, by rw [hs]; simp, fun h => (by cases h), fun a ha _ => ⟨w.heap.size, 0, (Option.some.inj ha).symm, fun k hk => ?_⟩⟩
    have hk2 : k < l.length := by simpa using hk
    rw [Nat.zero_add, World.cell?_alloc_mark, hC]
    simp [List.getD, hk2]
  exact conv_any h

theorem conv_lit_n (w : World) (l : List UInt8) (C : Array Value) (n : Nat) (s : ByteArray) (hn : C.size = n) (hC : C = (l.map fun b => Value.int .u8 (b.toNat : Int)).toArray) (hs : (⟨l.toArray⟩ : ByteArray) = s) :
    (convert 23 9 (.slice (some ⟨w.heap.size, 0, none⟩) n n)).run Tryd.prog (w.alloc (.cells C 5)) = .ok (.string s) (w.alloc (.cells C 5)) := by
  subst hn
  subst hs
  exact conv_lit w l C hC

end Go.Proofs.YtmegfcgnemfjnabDoor
