/-
  Cost: of the code and of the page.
-/
import Derived.Test.YtkglackbbcfhbaaHCostN
import Derived.Test.YtkglackbbcfhbaaHArr
namespace Go.Proofs.Ytkglackbbcfhbaa
open Go.RowKit
set_option maxRecDepth 100000
set_option linter.unusedVariables false

set_option maxHeartbeats 1000000 in
theorem cost_any (va vb : Value) (A B : List Int) (w : World) (ha : Ri w va A) (hb : Ri w vb B) (hA : A.length ≤ 400) (hB : B.length ≤ 400) (hC : Cb A B) :
    Calls Try.prog 12 #[va, vb] w fun e w' => e = .returned (.int .i64 (csum A B (min A.length B.length))) ∧ ∃ n, w' = w.drewN n := by
  obtain ⟨ao, ca, rfl, _, a1, a2⟩ := ha
  obtain ⟨bo, cb, rfl, _, b1, b2⟩ := hb
  have A1 := hidden a1
  have A2 := hidden a2
  have B1 := hidden b1
  have B2 := hidden b2
  have HC := hidden hC
  obtain ⟨n, hn⟩ : ∃ n, n = A.length := ⟨_, rfl⟩
  obtain ⟨m, hm⟩ : ∃ m, m = B.length := ⟨_, rfl⟩
  have Hn := hidden hn
  have Hm := hidden hm
  rw [← hn] at hA ⊢
  rw [← hm] at hB ⊢
  obtain ⟨N, hN⟩ : ∃ N, N = min n m := ⟨_, rfl⟩
  have hN1 : N ≤ n := by omega
  have hN2 : N ≤ m := by omega
  have HN := hidden hN
  have hmin : (if m < n then (m : Int) else (n : Int)) = (N : Int) := by split <;> omega
  have hmin' : (if (m : Int) < (n : Int) then (m : Int) else (n : Int)) = (N : Int) := by split <;> omega
  rw [← hN]
  clear a1 a2 b1 b2 hC hn hm hN
  go_enter Try.func12, Try.ntmps12
  go_wp2
  go_loopw [5, 6, 12] (fun s _ i wr => ∃ k : Nat, k ≤ N ∧ i = .int .i64 k ∧ s = .int .i64 (csum A B k) ∧ ∃ nq, wr = w.drewN nq) (fun _ _ i _ => N - (intOf i).toNat)
  case atStart => exact ⟨0, Nat.zero_le _, rfl, rfl, ⟨0, rfl⟩⟩
  case round =>
    obtain ⟨k, hk, rfl, rfl, nq, rfl⟩ := hrel
    by_cases hlt : k < N
    · have hkA : k < A.length := by have := Hn.out; omega
      have hkB : k < B.length := by have := Hm.out; omega
      cases ao with
      | none => have := (A1.out rfl).1; subst this; simp at hkA
      | some p =>
        cases bo with
        | none => have := (B1.out rfl).1; subst this; simp at hkB
        | some q =>
          obtain ⟨b1, o1, rfl, d1⟩ := A2.out p rfl (by intro e; subst e; simp at hkA)
          obtain ⟨b2, o2, rfl, d2⟩ := B2.out q rfl (by intro e; subst e; simp at hkB)
          have c1 := d1 k hkA
          have c2 := d2 k hkB
          clear d1 d2
          have x1 := HC.out.1 k hkA
          have x2 := HC.out.2 k hkB
          have p := prod_bd _ _ x1.1 x1.2 x2.1 x2.2
          have sb := csum_bd A B HC.out k (by omega) (by omega)
          have k1 : (k : Int) < (n : Int) := by omega
          have k2 : (k : Int) < (m : Int) := by omega
          have k3 : (k : Int) < (N : Int) := by omega
          have k4 : (k : Int) ≤ 400 := by omega
          have HW : Hid (wrap64 (csum A B k + wrap64 (A.getD k 0 * B.getD k 0)) = csum A B (k + 1)) := by
            unfold Hid
            rw [wrap64_id (A.getD k 0 * B.getD k 0) (by omega) (by omega), wrap64_id _ (by omega) (by omega)]
            rfl
          generalize A.getD k 0 = x at *
          generalize B.getD k 0 = y at *
          generalize csum A B k = s at *
          generalize hs' : csum A B (k + 1) = s' at *
          have HK := hidden hs'
          clear hs'
          clear p sb
          go_wp2
          go_quiet (fail)
          go_wp2
          go_roundw
          case rel => exact ⟨k + 1, by omega, by go_num, by rw [HW.out, HK.out], ⟨_, rfl⟩⟩
          case measure => simp [intOf]; omega
    · have e : k = N := by omega
      subst e
      have hd : ¬ (k : Int) < (k : Int) := by omega
      go_wp2
      go_ret
      exact ⟨rfl, _, rfl⟩

end Go.Proofs.Ytkglackbbcfhbaa
