/-
  The page's own stream: how long a match is, and how far back it begins.
-/
import Derived.Test.YtinncakendfklaaDoorIPageU
import Derived.Test.YtinncakendfklaaDoorIMatch
namespace Go.Proofs.YtinncakendfklaaDoor
open Go.RowKit
set_option maxRecDepth 100000
set_option linter.unusedVariables false

/-- A number that was read, or an error. -/
def PNumE (w : World) (Z : Nat → Prop) (p b : Nat) (r : Value) (M m : Nat) (O : List Nat) (most : Int) (x : Except Nat (Nat × Nat)) (e : Ending) (w' : World) : Prop :=
  match x with
  | .error y => ∃ z : Int, e = .returned (.int .i64 z) ∧ Hid (0 < y ∧ ∃ t', Pn w w' Z p b r M m t' O most y)
  | .ok (n, u) => e = .returned (.int .i64 (n : Int)) ∧ Hid (Pn w w' Z p b r M m u O most 0)

theorem pget_any (Z : Nat → Prop) (p b : Nat) (r : Value) (M m t : Nat) (O : List Nat) (most : Int) (n : Nat) (w : World) (h : PS w Z p b r M m t O most 0) (hm : m ≤ 1000000) (hn : n ≤ 24) :
    Calls Tryd.prog 32 #[.pointer (some ⟨p, 0, none⟩), .int .i64 n] w fun e w' => ∃ x : Nat, e = .returned (.int .i64 (x : Int)) ∧ Hid ((t + n ≤ 8 * m ∧ x = M / 2 ^ t % 2 ^ n ∧ Pn w w' Z p b r M m (t + n) O most 0) ∨ (8 * m < t + n ∧ x = 0 ∧ Pn w w' Z p b r M m t O most 2)) ∧ x < 2 ^ n := by
  by_cases g : t + n ≤ 8 * m
  · exact (pg_ok Z p b r M m t O most n w h hm hn g).mono fun e w' ⟨he, T⟩ => ⟨_, he, hidden (.inl ⟨g, rfl, T.out⟩), Nat.mod_lt _ (Nat.two_pow_pos n)⟩
  · exact (pg_short Z p b r M m t O most n w h hm hn (by omega)).mono fun e w' ⟨he, T⟩ => ⟨0, he, hidden (.inr ⟨by omega, rfl, T.out⟩), Nat.two_pow_pos n⟩

theorem numE_of {w w' : World} {Z : Nat → Prop} {p b : Nat} {r : Value} {M m t : Nat} {O : List Nat} {most : Int} {n x l : Nat} {e : Ending} (he : e = .returned (.int .i64 ((l + x : Nat) : Int)))
    (h : (t + n ≤ 8 * m ∧ x = M / 2 ^ t % 2 ^ n ∧ Pn w w' Z p b r M m (t + n) O most 0) ∨ (8 * m < t + n ∧ x = 0 ∧ Pn w w' Z p b r M m t O most 2)) : PNumE w Z p b r M m O most (numP M m t l n) e w' := by
  rcases h with ⟨h1, h2, h3⟩ | ⟨h1, h2, h3⟩
  · unfold numP
    rw [if_pos h1]
    refine ⟨by rw [he, h2], hidden h3⟩
  · unfold numP
    rw [if_neg (by omega)]
    exact ⟨_, he, hidden ⟨by omega, t, h3⟩⟩

set_option maxHeartbeats 1000000 in
theorem plong_any (Z : Nat → Prop) (p b : Nat) (r : Value) (M m t : Nat) (O : List Nat) (most : Int) (x : Nat) (w : World) (h : PS w Z p b r M m t O most 0) (hm : m ≤ 1000000) (h1 : 257 ≤ x) (h2 : x ≤ 285) :
    Calls Tryd.prog 55 #[.pointer (some ⟨p, 0, none⟩), .int .i64 x] w fun e w' => PNumE w Z p b r M m O most (lenP M m x t) e w' := by
  have H := hidden h
  by_cases g2 : x = 285
  · subst g2
    have HR : Hid (lenP M m 285 t = .ok (258, t)) := hidden (by unfold lenP; rfl)
    clear h
    go_enter Tryd.func55, Tryd.ntmps55
    go_wp2
    go_ret
    rw [HR.out]
    exact ⟨rfl, hidden ⟨H.out, Step.refl _ _⟩⟩
  · by_cases g3 : x < 265
    · have HR : Hid (lenP M m x t = .ok (x - 254, t)) := hidden (by unfold lenP; rw [if_neg (by omega), if_neg g2, if_pos g3])
      have g3' : (x : Int) < 265 := by omega
      clear h
      go_enter Tryd.func55, Tryd.ntmps55
      go_wp2
      go_ret
      rw [HR.out]
      refine ⟨?_, hidden ⟨H.out, Step.refl _ _⟩⟩
      rw [show ((x - 254 : Nat) : Int) = (x : Int) - 254 by omega]
      rfl
    · obtain ⟨k, hk, hk1, hk2⟩ : ∃ k, x = k + 261 ∧ 4 ≤ k ∧ k < 24 := ⟨x - 261, by omega, by omega, by omega⟩
      subst hk
      have hb : (((k + 261 : Nat) : Int) == 285) = false := by rw [beq_eq_false_iff_ne]; omega
      obtain ⟨n, hn, hn1, hn2⟩ : ∃ n, n = k / 4 ∧ 1 ≤ n ∧ n ≤ 5 := ⟨_, rfl, by omega, by omega⟩
      obtain ⟨y, hy, hy2⟩ : ∃ y, y = (4 + k % 4) * 2 ^ n ∧ y ≤ 1000 := ⟨_, rfl, by
        have : (2 : Nat) ^ n ≤ 2 ^ 5 := Nat.pow_le_pow_right (by omega) hn2
        have h4 : 4 + k % 4 ≤ 7 := by omega
        have := Nat.mul_le_mul h4 this
        omega⟩
      have HR : Hid (lenP M m (k + 261) t = numP M m t (y + 3) n) := hidden (by
        unfold lenP
        rw [if_neg (by omega), if_neg g2, if_neg g3, show (k + 261 - 257) % 4 = k % 4 by omega, show (k + 261 - 257) / 4 - 1 = k / 4 by omega, ← hn, ← hy])
      have hN : Hid (∀ w1, PS w1 Z p b r M m t O most 0 → Calls Tryd.prog 32 #[.pointer (some ⟨p, 0, none⟩), .int .i64 n] w1 fun e w' => ∃ x : Nat, e = .returned (.int .i64 (x : Int)) ∧ x ≤ 100 ∧ Hid ((t + n ≤ 8 * m ∧ x = M / 2 ^ t % 2 ^ n ∧ Pn w1 w' Z p b r M m (t + n) O most 0) ∨ (8 * m < t + n ∧ x = 0 ∧ Pn w1 w' Z p b r M m t O most 2))) :=
        hidden (fun w1 S1 => (pget_any Z p b r M m t O most n w1 S1 hm (by omega)).mono fun e w' ⟨x, he, hq, hx⟩ => ⟨x, he, by
          have : (2 : Nat) ^ n ≤ 2 ^ 5 := Nat.pow_le_pow_right (by omega) hn2
          omega, hq⟩)
      have ea : Hid (wrap64 (3 + wrap64 ((4 + (k : Int) % 4) * 2 ^ (k / 4))) = ((y + 3 : Nat) : Int)) := hidden (by
        have e3 : (4 + (k : Int) % 4) * 2 ^ (k / 4) = (y : Int) := by
          rw [hy, ← hn]
          simp
        rw [e3, wrap64_id (y : Int) (by omega) (by omega), wrap64_id (3 + (y : Int)) (by omega) (by omega)]
        omega)
      have en : Hid ((k : Int) / 4 = (n : Int)) := hidden (by omega)
      clear hn hy
      clear h
      go_enter Tryd.func55, Tryd.ntmps55
      go_wp2_with fail
      rw [ea.out, en.out]
      refine (hN.out _ H.out).mono ?_
      rintro e w1 ⟨x, rfl, hx, hq⟩
      go_wp2
      go_ret
      rw [HR.out]
      refine numE_of (x := x) ?_ hq.out
      rw [show ((y + 3 + x : Nat) : Int) = ((y + 3 : Nat) : Int) + (x : Int) by omega]
      rfl

set_option maxHeartbeats 1000000 in
theorem pfar_any (Z : Nat → Prop) (p b : Nat) (r : Value) (M m t : Nat) (O : List Nat) (most : Int) (x : Nat) (w : World) (h : PS w Z p b r M m t O most 0) (hm : m ≤ 1000000) (h2 : x ≤ 29) :
    Calls Tryd.prog 56 #[.pointer (some ⟨p, 0, none⟩), .int .i64 x] w fun e w' => PNumE w Z p b r M m O most (if x < 4 then .ok (x + 1, t) else numP M m t ((2 + x % 2) * 2 ^ (x / 2 - 1) + 1) (x / 2 - 1)) e w' := by
  have H := hidden h
  by_cases g3 : x < 4
  · have g3' : (x : Int) < 4 := by omega
    clear h
    rw [if_pos g3]
    go_enter Tryd.func56, Tryd.ntmps56
    go_wp2
    go_ret
    refine ⟨?_, hidden ⟨H.out, Step.refl _ _⟩⟩
    rw [show ((x + 1 : Nat) : Int) = (x : Int) + 1 by omega]
    rfl
  · rw [if_neg g3]
    obtain ⟨n, hn, hn1, hn2⟩ : ∃ n, n = x / 2 - 1 ∧ 1 ≤ n ∧ n ≤ 13 := ⟨_, rfl, by omega, by omega⟩
    obtain ⟨y, hy, hy2⟩ : ∃ y, y = (2 + x % 2) * 2 ^ n ∧ y ≤ 100000 := ⟨_, rfl, by
      have : (2 : Nat) ^ n ≤ 2 ^ 13 := Nat.pow_le_pow_right (by omega) hn2
      have h4 : 2 + x % 2 ≤ 3 := by omega
      have := Nat.mul_le_mul h4 this
      omega⟩
    rw [← hn, ← hy]
    have hN : Hid (∀ w1, PS w1 Z p b r M m t O most 0 → Calls Tryd.prog 32 #[.pointer (some ⟨p, 0, none⟩), .int .i64 n] w1 fun e w' => ∃ x : Nat, e = .returned (.int .i64 (x : Int)) ∧ x ≤ 10000 ∧ Hid ((t + n ≤ 8 * m ∧ x = M / 2 ^ t % 2 ^ n ∧ Pn w1 w' Z p b r M m (t + n) O most 0) ∨ (8 * m < t + n ∧ x = 0 ∧ Pn w1 w' Z p b r M m t O most 2))) :=
      hidden (fun w1 S1 => (pget_any Z p b r M m t O most n w1 S1 hm (by omega)).mono fun e w' ⟨x, he, hq, hx⟩ => ⟨x, he, by
        have : (2 : Nat) ^ n ≤ 2 ^ 13 := Nat.pow_le_pow_right (by omega) hn2
        omega, hq⟩)
    have ea : Hid (wrap64 (1 + wrap64 ((2 + (x : Int) % 2) * 2 ^ (x / 2 - 1))) = ((y + 1 : Nat) : Int)) := hidden (by
      have e3 : (2 + (x : Int) % 2) * 2 ^ (x / 2 - 1) = (y : Int) := by
        rw [hy, ← hn]
        simp
      rw [e3, wrap64_id (y : Int) (by omega) (by omega), wrap64_id (1 + (y : Int)) (by omega) (by omega)]
      omega)
    have en : Hid ((x : Int) / 2 - 1 = (n : Int)) := hidden (by omega)
    clear hn hy h
    go_enter Tryd.func56, Tryd.ntmps56
    go_wp2_with fail
    rw [ea.out, en.out]
    refine (hN.out _ H.out).mono ?_
    rintro e w1 ⟨z, rfl, hx, hq⟩
    go_wp2
    go_ret
    refine numE_of (x := z) ?_ hq.out
    rw [show ((y + 1 + z : Nat) : Int) = ((y + 1 : Nat) : Int) + (z : Int) by omega]
    rfl

end Go.Proofs.YtinncakendfklaaDoor
