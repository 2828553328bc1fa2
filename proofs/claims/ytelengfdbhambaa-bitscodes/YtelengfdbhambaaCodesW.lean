/-
  The walk of the law on codes.
-/
import Derived.Test.YtelengfdbhambaaGet
namespace Go.Proofs.Ytelengfdbhambaa
open Go.RowKit

theorem bit_low (R x j i : Nat) (h : i < j) : (R + x * 2 ^ j) / 2 ^ i % 2 = R / 2 ^ i % 2 := by
  obtain ⟨d, rfl⟩ : ∃ d, j = i + (d + 1) := ⟨j - i - 1, by omega⟩
  have e : x * 2 ^ (i + (d + 1)) = 2 * (x * 2 ^ d) * 2 ^ i := by
    rw [Nat.pow_add, Nat.pow_succ]; ac_rfl
  rw [e, Nat.add_mul_div_right _ _ (Nat.two_pow_pos _), Nat.add_mul_mod_self_left]

theorem rv_bit (v n j i : Nat) (h : i < j) : rv v n j / 2 ^ i % 2 = v / 2 ^ (n - 1 - i) % 2 := by
  induction j with
  | zero => omega
  | succ j ih =>
    simp only [rv]
    by_cases e : i = j
    · subst e
      rw [Nat.add_mul_div_right _ _ (Nat.two_pow_pos _), Nat.div_eq_of_lt (rv_lt v n i), Nat.zero_add, Nat.mod_mod]
    · rw [bit_low _ _ _ _ (by omega)]; exact ih (by omega)

theorem half_step (v n i : Nat) (h : i < n) : v / 2 ^ (n - (i + 1)) = 2 * (v / 2 ^ (n - i)) + v / 2 ^ (n - 1 - i) % 2 := by
  have e : n - i = (n - 1 - i) + 1 := by omega
  have e2 : n - (i + 1) = n - 1 - i := by omega
  rw [e, e2, Nat.pow_succ, ← Nat.div_div_eq_div_mul]
  omega

set_option maxHeartbeats 1000000 in
theorem codes_yes (v n : Nat) (w : World) (hn : n ≤ 15) (hv : v < 2 ^ n) :
    Calls Try.prog 6 #[.int .i64 v, .int .i64 n] w fun e w' => e = .returned (.bool true) ∧ Below w.heap.size w w' := by
  have hv2 : v < 32768 := Nat.lt_of_lt_of_le hv (Nat.pow_le_pow_right (n := 2) (by omega) hn)
  have hw : wrap64 (2 ^ n) = 2 ^ n := wrap64_id _ (by have := ipow_pos n; omega) (by have := ipow_le_24 n (by omega); omega)
  have h1 : (v : Int) < 2 ^ n := by
    have : ((2 ^ n : Nat) : Int) = (2 : Int) ^ n := by simp
    omega
  have hn15 : (n : Int) ≤ 15 := by omega
  have Hv := hidden hv
  clear hv
  go_enter Try.func6, Try.ntmps6
  go_wp2_with fail
  refine (new_ok _).mono ?_
  rintro e w0 ⟨rfl, W0, S0⟩
  have O0 : ∀ k, (Value.slice none 0 0).ownBlock = some k → w.heap.size ≤ k := fun k hk => by simp [Value.ownBlock] at hk
  have HS0 := hidden (And.intro S0 O0)
  have HW0 := hidden W0
  clear S0 O0 W0
  go_wp2_with fail
  refine (code_ok w.heap.size _ 0 0 v n _ HW0.out hn Hv.out (by omega)).mono ?_
  rintro e w1 ⟨rfl, s1, W1, T1, H1⟩
  have HS1 := hidden (HS0.out.1.own T1 (Nat.le_refl _) HS0.out.2 H1)
  have W1' : Wr w1 w.heap.size s1 (rv v n n) n := by simpa using W1
  have HW1 := hidden W1'
  clear W1 T1 H1 W1'
  go_wp2_with fail
  refine (bytes_any w.heap.size _ _ _ _ HW1.out (by omega)).mono ?_
  rintro e w2 ⟨v2, rfl, W2, T2, H2⟩
  have HS2 := hidden (HS1.out.1.made T2)
  have HR2 := hidden (Rd.of_own W2)
  clear W2 T2 H2
  go_wp2_with fail
  refine (of_any _ _ _ _ HR2.out (by omega)).mono ?_
  rintro e w3 ⟨b, s, rfl, R3, T3, H3, H3'⟩
  have HS3 := hidden (HS2.out.made T3)
  have HR3 := hidden R3
  have Hb := hidden (show w.heap.size ≤ b from Nat.le_trans HS2.out.size H3)
  clear R3 T3 H3 H3'
  generalize hm : (n + 7) / 8 = m at *
  have Hm := hidden hm
  clear hm
  go_wp2_with fail
  go_loopw [8, 9] (fun x i wr => ∃ k : Nat, k ≤ n ∧ i = .int .i64 k ∧ x = .int .i64 ((v / 2 ^ (n - k) : Nat) : Int) ∧ Rr wr b s (rv v n n) m k ∧ Step (fun _ => False) w wr) (fun _ i _ => n - (intOf i).toNat)
  case atStart => exact ⟨0, Nat.zero_le _, rfl, by rw [Nat.sub_zero, Nat.div_eq_of_lt Hv.out]; rfl, HR3.out, HS3.out⟩
  case round =>
    obtain ⟨k, hk, rfl, rfl, R, St⟩ := hrel
    by_cases hlt : k < n
    · have hst := half_step v n k hlt
      have hbit := rv_bit v n n k hlt
      have Hst := hidden hst
      have Hbit := hidden hbit
      have HR := hidden R
      have HSt := hidden St
      have hxx : v / 2 ^ (n - k) < 32768 := Nat.lt_of_le_of_lt (Nat.div_le_self _ _) hv2
      clear hst hbit R St
      generalize hx : v / 2 ^ (n - k) = x at *
      have Hx := hidden hx
      clear hx
      go_wp2_with (go_at_call 27; refine (get_ok b s _ m k 1 _ HR.out (by have := Hm.out; omega) (by omega) (by have := Hm.out; omega)).mono ?_; rintro e w' ⟨rfl, hR, hT⟩; have HR' := hidden hR; have HT' := hidden hT; clear hR hT)
      have hfin := hidden (show (2 * (x : Int) + (rv v n n : Int) / 2 ^ k % 2) = ((v / 2 ^ (n - (k + 1)) : Nat) : Int) by
        rw [Hst.out, ← Hbit.out]; simp)
      go_roundw
      case rel => exact ⟨k + 1, by omega, by go_num, by rw [hfin.out], HR'.out, HSt.out.trans HT'.out (fun i hi => .inr (by have := Hb.out; omega))⟩
      case measure => simp [intOf]; omega
    · have hkn : k = n := by omega
      subst hkn
      have HSt := hidden St
      clear R St
      have e0 : v / 2 ^ (k - k) = v := by simp
      rw [e0]
      clear e0
      go_wp2_with (go_at_call 25; refine (known_any _).mono ?_; rintro e w' ⟨rfl, hs⟩; have HK := hidden hs; clear hs)
      go_ret
      exact ⟨rfl, (HSt.out.made HK.out).below _ (Nat.le_refl _) (fun _ h => h.elim)⟩

set_option maxHeartbeats 1000000 in
theorem codes_no (v n : Int) (w : World) (hf : fitB v n 15 = false) :
    Calls Try.prog 6 #[.int .i64 v, .int .i64 n] w fun e w' => e = .returned (.bool true) ∧ Below w.heap.size w w' := by
  have hcases : n < 0 ∨ (0 ≤ n ∧ 15 < n) ∨ (0 ≤ n ∧ n ≤ 15 ∧ v < 0) ∨ (0 ≤ n ∧ n ≤ 15 ∧ 0 ≤ v ∧ 2 ^ n.toNat ≤ v ∧ wrap64 (2 ^ n.toNat) = 2 ^ n.toNat) := by
    unfold fitB at hf
    rw [decide_eq_false_iff_not] at hf
    by_cases h1 : 0 ≤ n
    · by_cases h2 : n ≤ 15
      · by_cases h3 : 0 ≤ v
        · exact .inr (.inr (.inr ⟨h1, h2, h3, by by_cases h4 : 2 ^ n.toNat ≤ v; exact h4; exact absurd ⟨h1, h2, h3, by omega⟩ hf,
            wrap64_id _ (by have := ipow_pos n.toNat; omega) (by have := ipow_le_24 n.toNat (by omega); omega)⟩))
        · exact .inr (.inr (.inl ⟨h1, h2, by omega⟩))
      · exact .inr (.inl ⟨h1, by omega⟩)
    · exact .inl (by omega)
  have Hf := hidden hf
  clear hf
  rcases hcases with h1 | ⟨h1, h2⟩ | ⟨h1, h2, h3⟩ | ⟨h1, h2, h3, h4, h5⟩
  all_goals
    go_enter Try.func6, Try.ntmps6
    go_wp2_with fail
    refine (new_ok _).mono ?_
    rintro e w0 ⟨rfl, W0, S0⟩
    have HS0 := hidden S0
    have HW0 := hidden W0
    clear S0 W0
    go_wp2_with fail
    refine (code_no w.heap.size _ _ _ Hf.out).mono ?_
    rintro e w1 ⟨rfl, hw⟩
    rw [hw]
    clear hw w1
    go_wp2_with fail
    refine (bytes_any w.heap.size _ _ _ _ HW0.out (by omega)).mono ?_
    rintro e w2 ⟨v2, rfl, W2, T2, H2⟩
    obtain ⟨ao, cap, rfl⟩ := own_slice W2
    have HS2 := hidden (HS0.out.made T2)
    clear W2 T2 H2
    go_wp2_with (go_at_call 25; refine (known_any _).mono ?_; rintro e w' ⟨rfl, hs⟩; have HK := hidden hs; clear hs)
    go_ret
    exact ⟨rfl, (HS2.out.made HK.out).below _ (Nat.le_refl _) (fun _ h => h.elim)⟩

end Go.Proofs.Ytelengfdbhambaa
