/-
  utf8's word of bytes: the number that eight bytes in memory spell.
-/
import Derived.Test.YthomkgajilmphaaDoorRow
import Derived.Shelf.RegionOpenPlain
import Derived.Lib.Walk
import Derived.Lib.Endian
import Derived.Lib.EndianBits
import Derived.Lib.ValidAsc
import Derived.WalkKit
import Derived.RegionTactic
import Derived.Deep.Draws
import Derived.Deep.QuietTactic
import Derived.Shelf.Unicode.WordAny
namespace Go.Proofs.YthomkgajilmphaaDoor
open Go.RowKit

/-- At the place (b, off) stand the bytes t. -/
def Rt (w : World) (b off : Nat) (t : ByteArray) : Prop := ∀ j, j < t.size → w.cell? ⟨b, off + j, none⟩ = some (.int .u8 ((t.get! j).toNat : Int))

theorem get_ext (t : ByteArray) (k j : Nat) (h : k + j < t.size) : (t.extract k t.size).get! j = t.get! (k + j) := by
  have h1 : j < (t.extract k t.size).size := by rw [Lib.ext_size]; omega
  rw [Utf8W.get!_of_lt _ _ h1, Utf8W.get!_of_lt _ _ h]
  simp [ByteArray.getElem_extract]
theorem Rt.ext {w : World} {b off : Nat} {t : ByteArray} (h : Rt w b off t) (k : Nat) : Rt w b (off + k) (t.extract k t.size) := by
  intro j hj
  rw [Lib.ext_size] at hj
  rw [Nat.add_assoc, h (k + j) (by omega), get_ext t k j (by omega)]
theorem Rt.step {w w' : World} {b off : Nat} {t : ByteArray} (h : Rt w b off t) (hs : Step (fun _ => False) w w') : Rt w' b off t := fun j hj => hs.cell (h j hj) (fun h => h)

set_option maxHeartbeats 8000000 in
set_option maxRecDepth 100000 in
theorem word_any (b off n c : Nat) (t : ByteArray) (w : World) (h : Rt w b off t) (hn : 8 ≤ n) (hs : 8 ≤ t.size) :
    Calls Tryd.prog 25 #[.slice (some ⟨b, off, none⟩) n c] w fun e w' => e = .returned (.int .u64 (Lib.leNat [t.get! 0, t.get! 1, t.get! 2, t.get! 3, t.get! 4, t.get! 5, t.get! 6, t.get! 7])) ∧ ∃ q, w' = w.drewN q := by
  have c0 := h 0 (by omega)
  generalize t.get! 0 = x0 at *
  have h0 : x0.toNat < 256 := x0.toNat_lt
  have c1 := h 1 (by omega)
  generalize t.get! 1 = x1 at *
  have h1 : x1.toNat < 256 := x1.toNat_lt
  have c2 := h 2 (by omega)
  generalize t.get! 2 = x2 at *
  have h2 : x2.toNat < 256 := x2.toNat_lt
  have c3 := h 3 (by omega)
  generalize t.get! 3 = x3 at *
  have h3 : x3.toNat < 256 := x3.toNat_lt
  have c4 := h 4 (by omega)
  generalize t.get! 4 = x4 at *
  have h4 : x4.toNat < 256 := x4.toNat_lt
  have c5 := h 5 (by omega)
  generalize t.get! 5 = x5 at *
  have h5 : x5.toNat < 256 := x5.toNat_lt
  have c6 := h 6 (by omega)
  generalize t.get! 6 = x6 at *
  have h6 : x6.toNat < 256 := x6.toNat_lt
  have c7 := h 7 (by omega)
  generalize t.get! 7 = x7 at *
  have h7 : x7.toNat < 256 := x7.toNat_lt
  have hv : ((Lib.leNat [x0, x1, x2, x3, x4, x5, x6, x7] : Nat) : Int) = (x0.toNat : Int) + (x1.toNat : Int) * 256 + (x2.toNat : Int) * 65536 + (x3.toNat : Int) * 16777216 + (x4.toNat : Int) * 4294967296 + (x5.toNat : Int) * 1099511627776 + (x6.toNat : Int) * 281474976710656 + (x7.toNat : Int) * 72057594037927936 := by
    simp only [Lib.leNat]
    push_cast
    omega
  rw [Nat.add_zero] at c0
  have mixed := Tryd.mixed
  clear h hs
  have q0 : 0 < n := by omega
  have q1 : (1 : Int) < (n : Int) := by omega
  have q2 : (2 : Int) < (n : Int) := by omega
  have q3 : (3 : Int) < (n : Int) := by omega
  have q4 : (4 : Int) < (n : Int) := by omega
  have q5 : (5 : Int) < (n : Int) := by omega
  have q6 : (6 : Int) < (n : Int) := by omega
  have q7 : (7 : Int) < (n : Int) := by omega
  go_enter Tryd.func25, Tryd.ntmps25
  go_wp2
  go_quiet_o (fail)
  go_wp2
  go_ret
  refine ⟨?_, _, rfl⟩
  simp (disch := omega) only [u64_wrap_id, u64_or8, u64_or16, u64_or24, u64_or32, u64_or40, u64_or48, u64_or56]
  rw [hv]
  rfl

end Go.Proofs.YthomkgajilmphaaDoor
