/-
  Code of a Writer: the bits of a number, the highest first.
-/
import Derived.Test.YtelengfdbhambaaPut
namespace Go.Proofs.Ytelengfdbhambaa
open Go.RowKit

/-- The first j of the n bits of v, the highest first, as a number whose lowest bit is the first. -/
def rv (v n : Nat) : Nat → Nat
  | 0 => 0
  | j + 1 => rv v n j + v / 2 ^ (n - 1 - j) % 2 * 2 ^ j

theorem rv_lt (v n j : Nat) : rv v n j < 2 ^ j := by
  induction j with
  | zero => simp [rv]
  | succ j ih =>
    have : v / 2 ^ (n - 1 - j) % 2 < 2 ^ 1 := Nat.mod_lt _ (by omega)
    simp only [rv]
    exact lt_of_pow ih this

theorem Wrote.after {w w1 w2 : World} {b : Nat} {s s1 : Value} {N L : Nat} (St : Step (Of b s) w w1) (Wh : s1.ownBlock = s.ownBlock ∨ ∃ k, s1.ownBlock = some k ∧ w.heap.size ≤ k) (h : Wrote w1 w2 b s1 N L) : Wrote w w2 b s N L := by
  obtain ⟨s2, W, S2, H⟩ := h
  refine ⟨s2, W, St.trans S2 (fun i hi => ?_), ?_⟩
  · rcases hi with h | h
    · exact .inl (.inl h)
    · rcases Wh with e | ⟨k, e, hk⟩
      · exact .inl (.inr (e ▸ h))
      · rw [e] at h; have := Option.some.inj h; exact .inr (by omega)
  · rcases H with e | ⟨k, e, hk⟩
    · rw [e]; exact Wh
    · exact .inr ⟨k, e, Nat.le_trans St.size hk⟩

set_option maxHeartbeats 400000 in
theorem code_nil (v n : Int) (w : World) : Calls Try.prog 13 #[.pointer none, .int .i64 v, .int .i64 n] w fun e w' => e = .returned (.int .i64 1) ∧ w' = w := by
  go_enter Try.func13, Try.ntmps13
  go_wp2
  go_ret
  exact ⟨rfl, rfl⟩

set_option maxHeartbeats 400000 in
theorem code_no (b : Nat) (v n : Int) (w : World) (h : fitB v n 15 = false) : Calls Try.prog 13 #[.pointer (some ⟨b, 0, none⟩), .int .i64 v, .int .i64 n] w fun e w' => e = .returned (.int .i64 1) ∧ w' = w := by
  go_enter Try.func13, Try.ntmps13
  go_wp2_with (go_at_call 35; refine (fits_any _ _ _ _ (by omega)).mono ?_; rintro e w' ⟨rfl, rfl⟩)
  go_ret
  exact ⟨rfl, rfl⟩

theorem bit_form (v m : Nat) (hv : v < 32768) : bits BinOp.and IntKind.i64 ((v : Int) / 2 ^ m) 1 = ((v / 2 ^ m % 2 : Nat) : Int) := by
  have e : ((v : Int) / 2 ^ m) = ((v / 2 ^ m : Nat) : Int) := by simp
  rw [e]
  have := Nat.div_le_self v (2 ^ m)
  rw [i64_and1 _ (Int.natCast_nonneg _) (by omega)]
  simp

set_option maxHeartbeats 1000000 in
theorem code_ok (b : Nat) (s : Value) (N L v n : Nat) (w : World) (h : Wr w b s N L) (hn : n ≤ 15) (hv : v < 2 ^ n) (hL : L ≤ 1099511627000) :
    Calls Try.prog 13 #[.pointer (some ⟨b, 0, none⟩), .int .i64 v, .int .i64 n] w fun e w' => e = .returned (.int .i64 0) ∧ Wrote w w' b s (N + rv v n n * 2 ^ L) (L + n) := by
  have hf : fitB (v : Int) (n : Int) 15 = true := fitB_nat (m := 15) hn hv
  have H := hidden h
  have hv2 : v < 32768 := Nat.lt_of_lt_of_le hv (Nat.pow_le_pow_right (n := 2) (by omega) hn)
  clear h
  go_enter Try.func13, Try.ntmps13
  go_wp2_with (go_at_call 35; refine (fits_any _ _ _ _ (by omega)).mono ?_; rintro e w' ⟨rfl, hw⟩; rw [hw]; clear hw w')
  go_loopw [2] (fun m wr => ∃ j : Nat, j ≤ n ∧ m = .int .i64 ((n - j : Nat) : Int) ∧ Wrote w wr b s (N + rv v n j * 2 ^ L) (L + j)) (fun m _ => (intOf m).toNat)
  case atStart => exact ⟨0, Nat.zero_le _, rfl, s, by simpa [rv] using H.out, Step.refl _ _, .inl rfl⟩
  case round =>
    obtain ⟨j, hj, rfl, s', W, St, Wh⟩ := hrel
    by_cases hlt : j < n
    · obtain ⟨m, hm, hm1⟩ : ∃ m : Nat, n - j = m + 1 ∧ m ≤ 14 := ⟨n - j - 1, by omega, by omega⟩
      rw [hm]
      have hbit := bit_form v m hv2
      have hb2 : v / 2 ^ m % 2 < 2 := Nat.mod_lt _ (by omega)
      have hfin : Hid (∀ w', Wrote wr w' b s' (N + rv v n j * 2 ^ L + v / 2 ^ m % 2 * 2 ^ (L + j)) (L + j + 1) → Wrote w w' b s (N + rv v n (j + 1) * 2 ^ L) (L + (j + 1))) := by
        intro w' h
        have R := Wrote.after St Wh h
        have em : n - 1 - j = m := by omega
        have e : N + rv v n j * 2 ^ L + v / 2 ^ m % 2 * 2 ^ (L + j) = N + rv v n (j + 1) * 2 ^ L := by
          simp only [rv, em]
          rw [Nat.pow_add, Nat.add_mul, Nat.add_assoc]
          congr 2
          ac_rfl
        rw [e] at R
        exact R
      have HW := hidden W
      have Hm := hidden hm
      have hL' : L + j ≤ 1099511627776 := by omega
      clear W St Wh hm
      generalize hy : v / 2 ^ m % 2 = y at *
      have Hy := hidden hy
      clear hy
      go_wp2_with (go_at_call 36; refine (lay_any b s' _ _ y 1 _ HW.out (by omega) (by omega) hL').mono ?_; rintro e w' ⟨rfl, hw⟩; have HR := hidden hw; clear hw)
      go_roundw
      case rel => exact ⟨j + 1, by omega, by have := Hm.out; first | (congr 1; omega) | go_num, hfin.out _ HR.out⟩
      case measure => simp [intOf]
    · have hdn : j = n := by omega
      subst hdn
      have H2 := hidden (show Wrote w wr b s (N + rv v j j * 2 ^ L) (L + j) from ⟨s', W, St, Wh⟩)
      clear W St Wh hlt
      go_wp2
      go_ret
      exact ⟨rfl, H2.out⟩

end Go.Proofs.Ytelengfdbhambaa
