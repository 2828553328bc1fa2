/-
  Number, and the page's: bytes as a number.
-/
import Derived.Test.YtplmmjlhlijjmaaDoorRow
import Derived.Test.YtplmmjlhlijjmaaDoorCrcB
import Derived.Test.YtplmmjlhlijjmaaDoorCrcH
namespace Go.Proofs.YtplmmjlhlijjmaaDoor
open Go.RowKit

theorem pow8_lt (k : Nat) (hk : k < 7) (x : Nat) (hx : x < 256) : x * 2 ^ (8 * k) < 72057594037927936 := by
  have h1 : (2 : Nat) ^ (8 * k) ≤ 2 ^ 48 := Nat.pow_le_pow_right (by omega) (by omega)
  have h2 : x * 2 ^ (8 * k) ≤ 255 * 2 ^ 48 := Nat.mul_le_mul (by omega) h1
  omega

theorem number_step (x y k : Nat) (hx : x < 256) (hk : k < 7) (hy : y < 9223372036854775808) : bits .or .i64 (y : Int) (wrap64 ((x : Int) * 2 ^ (8 * k))) = ((y ||| x * 2 ^ (8 * k) : Nat) : Int) := by
  have h := pow8_lt k hk x hx
  have e : ((x : Int) * 2 ^ (8 * k)) = ((x * 2 ^ (8 * k) : Nat) : Int) := by simp
  rw [e, wrap64_id _ (by omega) (by omega), i64_or_nat y _ hy (by omega)]

theorem numOf_take_lt (B : List Nat) (k : Nat) (hB : ∀ x ∈ B, x < 256) (hk : k ≤ 7) : numOf (B.take k) < 72057594037927936 := by
  have h := numOf_lt (B.take k) (fun x hx => hB x (List.mem_of_mem_take hx))
  have hl : (B.take k).length ≤ 7 := by simp; omega
  have h1 : (2 : Nat) ^ (8 * (B.take k).length) ≤ 2 ^ 56 := Nat.pow_le_pow_right (by omega) (by omega)
  omega

theorem numOf_drop_lt (B : List Nat) (k : Nat) (hB : ∀ x ∈ B, x < 256) (hl : B.length ≤ 7) (hk : 1 ≤ k) : numOf (B.drop k) < 281474976710656 := by
  have h := numOf_lt (B.drop k) (fun x hx => hB x (List.mem_of_mem_drop hx))
  have hl2 : (B.drop k).length ≤ 6 := by simp; omega
  have h1 : (2 : Nat) ^ (8 * (B.drop k).length) ≤ 2 ^ 48 := Nat.pow_le_pow_right (by omega) (by omega)
  omega

set_option maxHeartbeats 1000000 in
theorem number_any (v : Value) (B : List Nat) (w : World) (hB : ∀ x ∈ B, x < 256) (h : Rd w v B) (hl : B.length ≤ 137438953600) :
    Calls Tryd.prog 19 #[v] w fun e w' => e = .returned (.int .i64 ((numOf (B.take 7) : Nat) : Int)) ∧ ∃ n, w' = w.drewN n := by
  obtain ⟨ao, cap, rfl, h1, h2⟩ := h
  have HB := hidden hB
  have H1 := hidden h1
  have H2 := hidden h2
  obtain ⟨n, hn⟩ : ∃ n, n = B.length := ⟨_, rfl⟩
  rw [← hn] at hl ⊢
  have Hn := hidden hn
  obtain ⟨m, hm, hm7, hmn, hmm⟩ : ∃ m : Nat, (if (7 : Int) < (n : Int) then (7 : Int) else (n : Int)) = (m : Int) ∧ m ≤ 7 ∧ m ≤ n ∧ (m = 7 ∨ m = n) := by
    by_cases h : 7 < n
    · exact ⟨7, by rw [if_pos (by omega)]; rfl, by omega, by omega, .inl rfl⟩
    · exact ⟨n, by rw [if_neg (by omega)], by omega, by omega, .inr rfl⟩
  clear hB h1 h2 hn
  go_enter Tryd.func19, Tryd.ntmps19
  go_wp2
  go_loopw [3, 8] (fun x i wr => ∃ k : Nat, k ≤ m ∧ i = .int .i64 k ∧ x = .int .i64 ((numOf (B.take k) : Nat) : Int) ∧ ∃ nq, wr = w.drewN nq) (fun _ i _ => m - (intOf i).toNat)
  case atStart => exact ⟨0, Nat.zero_le _, rfl, rfl, ⟨0, rfl⟩⟩
  case round =>
    obtain ⟨k, hk, rfl, rfl, nq, rfl⟩ := hrel
    by_cases hlt : k < m
    · have hne : B ≠ [] := by intro e; have := Hn.out; subst e; simp at this; omega
      cases ao with
      | none => exact absurd (H1.out rfl).1 hne
      | some a =>
        obtain ⟨ba, oa, rfl, ka⟩ := H2.out a rfl hne
        have hkB : k < B.length := by have := Hn.out; omega
        have ca := ka k hkB
        have hstep := numOf_take B k hkB HB.out
        have hxl := getD_lt hkB HB.out
        have hyl := numOf_take_lt B k HB.out (by omega)
        have hor := number_step (B.getD k 0) (numOf (B.take k)) k hxl (by omega) (by omega)
        rw [← hstep] at hor
        clear ka
        generalize B.getD k 0 = x at *
        generalize numOf (B.take k) = y at *
        have Hor := hidden hor
        have k1 : (k : Int) < (m : Int) := by omega
        have k2 : (k : Int) < (n : Int) := by omega
        clear hstep hkB hne hor
        go_wp2
        go_roundw
        case rel => exact ⟨k + 1, by omega, by go_num, by rw [← Hor.out], ⟨_, rfl⟩⟩
        case measure => simp [intOf]; omega
    · have hkn : B.take k = B.take 7 := by
        rcases hmm with e | e
        · rw [show k = 7 by omega]
        · rw [List.take_of_length_le (by have := Hn.out; omega), List.take_of_length_le (by have := Hn.out; omega)]
      rw [hkn]
      clear hkn
      go_wp2
      go_ret
      exact ⟨rfl, _, rfl⟩

set_option maxHeartbeats 1000000 in
theorem rnumber_any (v : Value) (B : List Nat) (w : World) (hB : ∀ x ∈ B, x < 256) (h : Rd w v B) (hl : B.length ≤ 137438953600) :
    Calls Tryd.prog 20 #[v] w fun e w' => e = .returned (.int .i64 ((numOf (B.take 7) : Nat) : Int)) ∧ ∃ n, w' = w.drewN n := by
  obtain ⟨ao, cap, rfl, h1, h2⟩ := h
  have HB := hidden hB
  have H1 := hidden h1
  have H2 := hidden h2
  obtain ⟨n, hn⟩ : ∃ n, n = B.length := ⟨_, rfl⟩
  rw [← hn] at hl ⊢
  have Hn := hidden hn
  obtain ⟨m, hm, hm7, hmn, hmm⟩ : ∃ m : Nat, (if (7 : Int) < (n : Int) then (7 : Int) else (n : Int)) = (m : Int) ∧ m ≤ 7 ∧ m ≤ n ∧ m = (B.take 7).length := by
    by_cases h : 7 < n
    · exact ⟨7, by rw [if_pos (by omega)]; rfl, by omega, by omega, by simp; omega⟩
    · exact ⟨n, by rw [if_neg (by omega)], by omega, by omega, by simp; omega⟩
  have Hm := hidden hmm
  clear hB h1 h2 hn hmm
  go_enter Tryd.func20, Tryd.ntmps20
  go_wp2
  go_loopw [3, 4] (fun x i wr => ∃ k : Nat, k ≤ m ∧ i = .int .i64 ((k : Int) - 1) ∧ x = .int .i64 ((numOf ((B.take 7).drop k) : Nat) : Int) ∧ ∃ nq, wr = w.drewN nq) (fun _ i _ => (intOf i + 1).toNat)
  case atStart =>
    refine ⟨m, Nat.le_refl _, rfl, ?_, ⟨0, rfl⟩⟩
    rw [List.drop_of_length_le (by have := Hm.out; omega)]; rfl
  case round =>
    obtain ⟨k, hk, rfl, rfl, nq, rfl⟩ := hrel
    by_cases hlt : 0 < k
    · obtain ⟨j, rfl⟩ : ∃ j, k = j + 1 := ⟨k - 1, by omega⟩
      have ej : ((j + 1 : Nat) : Int) - 1 = (j : Int) := by omega
      rw [ej]
      have hne : B ≠ [] := by intro e; have := Hn.out; subst e; simp at this; omega
      cases ao with
      | none => exact absurd (H1.out rfl).1 hne
      | some a =>
        obtain ⟨ba, oa, rfl, ka⟩ := H2.out a rfl hne
        have hjB : j < B.length := by have := Hn.out; omega
        have ca := ka j hjB
        have hjm : j < (B.take 7).length := by have := Hm.out; omega
        have hB7 : ∀ x ∈ B.take 7, x < 256 := fun x hx => HB.out x (List.mem_of_mem_take hx)
        have hstep := numOf_drop (B.take 7) j hjm hB7
        have hyl := numOf_drop_lt (B.take 7) (j + 1) hB7 (by have := Hm.out; omega) (by omega)
        have eg : (B.take 7).getD j 0 = B.getD j 0 := by simp only [List.getD, List.getElem?_take_of_lt (show j < 7 by omega)]
        have hxl := getD_lt hjB HB.out
        rw [eg] at hstep
        clear ka eg ej hB7 hjm
        generalize B.getD j 0 = x at *
        generalize numOf ((B.take 7).drop (j + 1)) = y at *
        have hor := i64_or_nat (y * 256) x (by omega) (by omega)
        rw [← hstep] at hor
        have hor2 : bits .or .i64 ((y : Int) * 256) (x : Int) = ((numOf ((B.take 7).drop j) : Nat) : Int) := by simpa using hor
        have Hor := hidden hor2
        clear hor hor2 hstep
        go_wp2
        go_roundw
        case rel => exact ⟨j, by omega, rfl, by rw [← Hor.out], ⟨_, rfl⟩⟩
        case measure => simp [intOf]
    · have hk0 : k = 0 := by omega
      subst hk0
      rw [List.drop_zero]
      go_wp2
      go_ret
      exact ⟨rfl, _, rfl⟩

end Go.Proofs.YtplmmjlhlijjmaaDoor
