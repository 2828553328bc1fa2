/-
  New and Put of a Writer.
-/
import Derived.Test.YtelengfdbhambaaLay
namespace Go.Proofs.Ytelengfdbhambaa
open Go.RowKit

theorem fitB_nat {v n m : Nat} (hn : n ≤ m) (hv : v < 2 ^ n) : fitB (v : Int) (n : Int) (m : Int) = true := by
  unfold fitB
  have : ((2 ^ n : Nat) : Int) = (2 : Int) ^ n := by simp
  simp only [Int.toNat_natCast, decide_eq_true_eq]
  omega

theorem fitB_inv {v n : Int} {m : Nat} (h : fitB v n (m : Int) = true) : ∃ v' n' : Nat, v = v' ∧ n = n' ∧ n' ≤ m ∧ v' < 2 ^ n' := by
  unfold fitB at h
  simp only [decide_eq_true_eq] at h
  obtain ⟨h1, h2, h3, h4⟩ := h
  obtain ⟨n', rfl⟩ := Int.eq_ofNat_of_zero_le h1
  obtain ⟨v', rfl⟩ := Int.eq_ofNat_of_zero_le h3
  have : ((2 ^ n' : Nat) : Int) = (2 : Int) ^ n' := by simp
  simp only [Int.toNat_natCast] at h4
  exact ⟨v', n', rfl, rfl, by omega, by omega⟩

set_option maxHeartbeats 400000 in
theorem put_nil (v n : Int) (w : World) : Calls Try.prog 11 #[.pointer none, .int .i64 v, .int .i64 n] w fun e w' => e = .returned (.int .i64 1) ∧ w' = w := by
  go_enter Try.func11, Try.ntmps11
  go_wp2
  go_ret
  exact ⟨rfl, rfl⟩

set_option maxHeartbeats 400000 in
theorem put_no (b : Nat) (v n : Int) (w : World) (h : fitB v n 24 = false) : Calls Try.prog 11 #[.pointer (some ⟨b, 0, none⟩), .int .i64 v, .int .i64 n] w fun e w' => e = .returned (.int .i64 1) ∧ w' = w := by
  go_enter Try.func11, Try.ntmps11
  go_wp2_with (go_at_call 35; refine (fits_any _ _ _ _ (by omega)).mono ?_; rintro e w' ⟨rfl, rfl⟩)
  go_ret
  exact ⟨rfl, rfl⟩

set_option maxHeartbeats 400000 in
theorem put_ok (b : Nat) (s : Value) (N L v n : Nat) (w : World) (h : Wr w b s N L) (hn : n ≤ 24) (hv : v < 2 ^ n) (hL : L ≤ 1099511627776) :
    Calls Try.prog 11 #[.pointer (some ⟨b, 0, none⟩), .int .i64 v, .int .i64 n] w fun e w' => e = .returned (.int .i64 0) ∧ Wrote w w' b s (N + v * 2 ^ L) (L + n) := by
  have hf : fitB (v : Int) (n : Int) 24 = true := fitB_nat (m := 24) hn hv
  have H := hidden h
  clear h
  go_enter Try.func11, Try.ntmps11
  go_wp2_with (first | (go_at_call 35; refine (fits_any _ _ _ _ (by omega)).mono ?_; rintro e w' ⟨rfl, rfl⟩) | (go_at_call 36; refine (lay_any b s N L v n _ H.out hn hv hL).mono ?_; rintro e w' ⟨rfl, hw⟩; have HW := hidden hw; clear hw))
  go_ret
  exact ⟨rfl, HW.out⟩

/-- A new Writer. -/
theorem new_wr (w : World) : Wr (w.alloc (.cells #[.slice none 0 0, .int .i64 0] 64)) w.heap.size (.slice none 0 0) 0 0 := by
  refine ⟨?_, ?_, ?_, ?_, World.ownsRow_nil _ _ _ _, by simp [Value.ownBlock], by simp⟩
  · simp
  · simp
  · simp
  · simp

theorem new_ok (w : World) : Calls Try.prog 10 #[] w fun e w' => e = .returned (.pointer (some ⟨w.heap.size, 0, none⟩)) ∧ Wr w' w.heap.size (.slice none 0 0) 0 0 ∧ Step (fun _ => False) w w' :=
  (new_any w).mono fun e w' ⟨h1, h2⟩ => ⟨h1, by rw [h2]; exact new_wr w, by rw [h2]; exact (Step.refl _ _).alloc _⟩

end Go.Proofs.Ytelengfdbhambaa
