/-
  The Writer's bits: what New, lay, Put, Code, Align, Raw and Bytes do to memory.
-/
import Derived.Test.YtelengfdbhambaaMem
import Derived.Test.YtelengfdbhambaaRows
import Derived.Outline
namespace Go.Proofs.Ytelengfdbhambaa
open Go.RowKit

set_option maxHeartbeats 400000 in
theorem lowest_any (v n : Int) (w : World) (hv : 0 ≤ v) (hv2 : v ≤ 9223372036854775807) (hn : 0 ≤ n) (hn2 : n ≤ 24) :
    Calls Try.prog 38 #[.int .i64 v, .int .i64 n] w fun e w' => e = .returned (.int .i64 (v % 2 ^ n.toNat)) ∧ w' = w := by
  have hm := i64_mask v n.toNat hv hv2 (by omega)
  go_enter Try.func38, Try.ntmps38
  go_wp2
  go_ret
  refine ⟨?_, rfl⟩
  rw [← hm]; rfl

/-- n is 0 to most, and v has no bits but the lowest n. -/
def fitB (v n m : Int) : Bool := decide (0 ≤ n ∧ n ≤ m ∧ 0 ≤ v ∧ v < 2 ^ n.toNat)

theorem fitB_no {v n m : Int} (h : ¬ (0 ≤ n ∧ n ≤ m ∧ 0 ≤ v)) : fitB v n m = false := by
  unfold fitB; rw [decide_eq_false_iff_not]; exact fun k => h ⟨k.1, k.2.1, k.2.2.1⟩
theorem fitB_eq {v n m : Int} (h1 : 0 ≤ n) (h2 : n ≤ m) (h3 : 0 ≤ v) : fitB v n m = decide (v < 2 ^ n.toNat) := by
  unfold fitB; simp [h1, h2, h3]

set_option maxHeartbeats 400000 in
theorem fits_any (v n m : Int) (w : World) (hm : m ≤ 24) :
    Calls Try.prog 35 #[.int .i64 v, .int .i64 n, .int .i64 m] w fun e w' => e = .returned (.bool (fitB v n m)) ∧ w' = w := by
  by_cases h1 : 0 ≤ n
  · by_cases h2 : n ≤ m
    · by_cases h3 : 0 ≤ v
      · have hw : wrap64 (2 ^ n.toNat) = 2 ^ n.toNat := wrap64_id _ (by have := ipow_pos n.toNat; omega) (by have := ipow_le_24 n.toNat (by omega); omega)
        rw [fitB_eq h1 h2 h3]
        go_enter Try.func35, Try.ntmps35
        go_wp2
        go_ret
        exact ⟨rfl, rfl⟩
      · rw [fitB_no (by omega)]
        go_enter Try.func35, Try.ntmps35
        go_wp2
        go_ret
        exact ⟨rfl, rfl⟩
    · rw [fitB_no (by omega)]
      go_enter Try.func35, Try.ntmps35
      go_wp2
      go_ret
      exact ⟨rfl, rfl⟩
  · rw [fitB_no (by omega)]
    go_enter Try.func35, Try.ntmps35
    go_wp2
    go_ret
    exact ⟨rfl, rfl⟩

set_option maxHeartbeats 400000 in
theorem new_any (w : World) :
    Calls Try.prog 10 #[] w fun e w' => e = .returned (.pointer (some ⟨w.heap.size, 0, none⟩)) ∧ w' = w.alloc (.cells #[.slice none 0 0, .int .i64 0] 64) := by
  go_enter Try.func10, Try.ntmps10
  go_wp2
  go_ret
  exact ⟨rfl, rfl⟩

/-- Bytes as cells. -/
def u8s (bs : List Nat) : List Value := bs.map fun (x : Nat) => Value.int .u8 (x : Int)

/-- The Writer in block b, whose bytes are the slice s, has laid L bits, the number N. -/
structure Wr (w : World) (b : Nat) (s : Value) (N L : Nat) : Prop where
  out : w.cell? ⟨b, 0, none⟩ = some s
  free : w.cell? ⟨b, 1, none⟩ = some (.int .i64 (((8 - L % 8) % 8 : Nat) : Int))
  f0 : w.frozen? ⟨b, 0, none⟩ = false
  f1 : w.frozen? ⟨b, 1, none⟩ = false
  own : w.ownsRow 0 5 1 s ((L + 7) / 8) (u8s (bytesOf N ((L + 7) / 8)))
  ne : s.ownBlock ≠ some b
  lt : N < 2 ^ L

/-- The blocks of such a Writer. -/
def Of (b : Nat) (s : Value) (k : Nat) : Prop := k = b ∨ s.ownBlock = some k

/-- What a call on such a Writer leaves. -/
def Wrote (w w' : World) (b : Nat) (s : Value) (N L : Nat) : Prop :=
  ∃ s', Wr w' b s' N L ∧ Step (Of b s) w w' ∧ (s'.ownBlock = s.ownBlock ∨ ∃ k, s'.ownBlock = some k ∧ w.heap.size ≤ k)

theorem Try.info5 : (Try.prog.info? 5).map (fun i => (i.zero, i.size, i.bytes)) = some (some (.int .u8 0), 1, 1) := by kernel_rfl

end Go.Proofs.Ytelengfdbhambaa
