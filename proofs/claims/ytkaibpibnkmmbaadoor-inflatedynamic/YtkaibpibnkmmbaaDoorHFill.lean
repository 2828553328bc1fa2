/-
  How much counts fill.
-/
import Derived.Test.YtkaibpibnkmmbaaDoorHArr
namespace Go.Proofs.YtkaibpibnkmmbaaDoor
open Go.RowKit
set_option maxRecDepth 100000

/-- How much counts fill. -/
def fl (f : Nat → Int) : Nat → Int
  | 0 => 0
  | k + 1 => fl f k + f k * 2 ^ (15 - k)

theorem fl_bd (f : Nat → Int) (h0 : ∀ k, 0 ≤ f k) (h1 : ∀ k, f k ≤ 320) : ∀ k, 0 ≤ fl f k ∧ fl f k ≤ 10485760 * k
  | 0 => by simp [fl]
  | k + 1 => by
    have ih := fl_bd f h0 h1 k
    have p0 : (1 : Int) ≤ 2 ^ (15 - k) := ipow_pos _
    have p1 : (2 : Int) ^ (15 - k) ≤ 32768 := by
      have : (2 ^ (15 - k) : Nat) ≤ 2 ^ 15 := Nat.pow_le_pow_right (by omega) (by omega)
      have e : ((2 ^ (15 - k) : Nat) : Int) = (2 : Int) ^ (15 - k) := by simp
      omega
    have a := h0 k
    have b := h1 k
    have c0 : 0 ≤ f k * 2 ^ (15 - k) := Int.mul_nonneg a (by omega)
    have c1 : f k * 2 ^ (15 - k) ≤ 320 * 32768 := Int.mul_le_mul b p1 (by omega) (by omega)
    simp only [fl]
    omega

set_option maxHeartbeats 1000000 in
theorem fill_any (f : Nat → Int) (w : World) (h0 : ∀ k, 0 ≤ f k) (h1 : ∀ k, f k ≤ 320) :
    Calls Tryd.prog 49 #[.agg (A16 f)] w fun e w' => e = .returned (.int .i64 (fl f 16)) ∧ Step (fun _ => False) w w' := by
  have H0 := hidden h0
  have H1 := hidden h1
  clear h0 h1
  have hix := fun (k : Nat) (h : k < 16) w => run_index16 f k h w
  have Hix := hidden hix
  clear hix
  go_enter Tryd.func49, Tryd.ntmps49
  go_wp2_with (first | (refine box16 f rfl ?_; intro w1 hs1 hz1 hbox) | (refine load16 w.heap.size f rfl hbox ?_))
  have Hs1 := hidden hs1
  clear hbox hs1
  go_loop [3, 7] (fun s i => ∃ k : Nat, k ≤ 16 ∧ i = .int .i64 k ∧ s = .int .i64 (fl f k)) (fun _ i => 16 - (intOf i).toNat)
  case atStart => exact ⟨0, by omega, rfl, rfl⟩
  case round =>
    obtain ⟨k, hk, rfl, rfl⟩ := hrel
    by_cases hlt : k < 16
    · have hx := Hix.out k hlt
      have k0 := H0.out k
      have k1 := H1.out k
      have hb := fl_bd f H0.out H1.out k
      have Hs : Hid (wrap64 (fl f k + wrap64 (f k * 2 ^ (15 - k))) = fl f (k + 1)) := by
        have hb2 := fl_bd f H0.out H1.out (k + 1)
        have e : fl f (k + 1) = fl f k + f k * 2 ^ (15 - k) := rfl
        have : wrap64 (f k * 2 ^ (15 - k)) = f k * 2 ^ (15 - k) := wrap64_id _ (by omega) (by omega)
        unfold Hid
        rw [this, ← e, wrap64_id _ (by omega) (by omega)]
      go_wp2
      go_round
      case rel => exact ⟨k + 1, by omega, by go_num, by rw [Hs.out]⟩
      case measure => simp [intOf]; omega
    · have e : k = 16 := by omega
      subst e
      go_wp2
      go_ret
      exact ⟨rfl, Hs1.out⟩
end Go.Proofs.YtkaibpibnkmmbaaDoor
