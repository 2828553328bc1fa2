/-
  HuffCosts' walk.
-/
import Derived.Test.YtoeedfiojnhhdaaHCost
import Derived.Test.YtoeedfiojnhhdaaHCostR
import Derived.Test.YtoeedfiojnhhdaaHKnown
namespace Go.Proofs.Ytoeedfiojnhhdaa
open Go.RowKit
set_option linter.unusedVariables false

set_option maxHeartbeats 2000000 in
theorem costs_any (va vb : Value) (A B : List Int) (w : World) (ha : Ri w va A) (hb : Ri w vb B) (hA : A.length ≤ 9223372036854775807) (hB : B.length ≤ 9223372036854775807) :
    Calls Try.prog 7 #[va, vb] w fun e w' => e = .returned (.bool true) ∧ Step (fun _ => False) w w' := by
  have HA := hidden ha
  have HB := hidden hb
  obtain ⟨ao, ca, rfl, _, a1, a2⟩ := ha
  obtain ⟨bo, cb, rfl, _, b1, b2⟩ := hb
  have A1 := hidden a1
  have A2 := hidden a2
  have B1 := hidden b1
  have B2 := hidden b2
  obtain ⟨n, hn⟩ : ∃ n, n = A.length := ⟨_, rfl⟩
  obtain ⟨m, hm⟩ : ∃ m, m = B.length := ⟨_, rfl⟩
  have Hn := hidden hn
  have Hm := hidden hm
  rw [← hn] at hA HA ⊢
  rw [← hm] at hB HB ⊢
  clear a1 a2 b1 b2 hn hm
  by_cases h1 : n ≤ 400
  · by_cases h2 : m ≤ 400
    · go_enter Try.func7, Try.ntmps7
      go_wp2
      go_loopw [5] (fun i wr => ∃ k : Nat, k ≤ n ∧ i = .int .i64 k ∧ wr = w ∧ Hid (∀ j, j < k → -1073741824 ≤ A.getD j 0 ∧ A.getD j 0 ≤ 1073741824)) (fun i _ => n - (intOf i).toNat)
      case atStart => exact ⟨0, Nat.zero_le _, rfl, rfl, fun j hj => by omega⟩
      case round =>
        obtain ⟨k, hk, rfl, rfl, hpre⟩ := hrel
        by_cases hlt : k < n
        · have hkA : k < A.length := by have := Hn.out; omega
          cases ao with
          | none => have := (A1.out rfl).1; subst this; simp at hkA
          | some p =>
            obtain ⟨b1, o1, rfl, d1⟩ := A2.out p rfl (by intro e; subst e; simp at hkA)
            have c1 := d1 k hkA
            have k1 : (k : Int) < (n : Int) := by omega
            have HX : Hid (∀ x, A.getD k 0 = x → x = A.getD k 0) := fun x h => h.symm
            clear d1 hkA
            generalize hx : A.getD k 0 = x at *
            have HXX := hidden hx
            clear hx
            by_cases hlo : x < -1073741824
            · go_wp2_with (go_at_call 13; refine (known_any _).mono ?_; rintro e w3 ⟨rfl, hs3⟩; have S3 := hidden hs3; clear hs3)
              go_ret
              exact ⟨rfl, S3.out⟩
            · by_cases hhi : 1073741824 < x
              · have hlo' : -1073741824 ≤ x := by omega
                go_wp2_with (go_at_call 13; refine (known_any _).mono ?_; rintro e w3 ⟨rfl, hs3⟩; have S3 := hidden hs3; clear hs3)
                go_ret
                exact ⟨rfl, S3.out⟩
              · have hlo' : -1073741824 ≤ x := by omega
                have hhi' : x ≤ 1073741824 := by omega
                go_wp2
                go_roundw
                case rel =>
                  refine ⟨k + 1, by omega, by go_num, by trivial, fun j hj => ?_⟩
                  by_cases e : j = k
                  · rw [e, HXX.out]; omega
                  · exact hpre.out j (by omega)
                case measure => simp [intOf]; omega
        · have e : k = n := by omega
          subst e
          have HPA := hpre
          go_wp2
          go_loopw [6] (fun i wr2 => ∃ j : Nat, j ≤ m ∧ i = .int .i64 j ∧ wr2 = wr ∧ Hid (∀ i, i < j → -1048576 ≤ B.getD i 0 ∧ B.getD i 0 ≤ 1048576)) (fun i _ => m - (intOf i).toNat)
          case atStart => exact ⟨0, Nat.zero_le _, rfl, rfl, fun j hj => by omega⟩
          case round =>
            obtain ⟨j, hj, rfl, rfl, hpreB⟩ := hrel
            by_cases hlt2 : j < m
            · have hkB : j < B.length := by have := Hm.out; omega
              cases bo with
              | none => have := (B1.out rfl).1; subst this; simp at hkB
              | some p =>
                obtain ⟨b1, o1, rfl, d1⟩ := B2.out p rfl (by intro e; subst e; simp at hkB)
                have c1 := d1 j hkB
                have k1 : (j : Int) < (m : Int) := by omega
                clear d1 hkB
                generalize hx : B.getD j 0 = x at *
                have HXX := hidden hx
                clear hx
                by_cases hlo : x < -1048576
                · go_wp2_with (go_at_call 13; refine (known_any _).mono ?_; rintro e w3 ⟨rfl, hs3⟩; have S3 := hidden hs3; clear hs3)
                  go_ret
                  exact ⟨rfl, S3.out⟩
                · by_cases hhi : 1048576 < x
                  · have hlo' : -1048576 ≤ x := by omega
                    go_wp2_with (go_at_call 13; refine (known_any _).mono ?_; rintro e w3 ⟨rfl, hs3⟩; have S3 := hidden hs3; clear hs3)
                    go_ret
                    exact ⟨rfl, S3.out⟩
                  · have hlo' : -1048576 ≤ x := by omega
                    have hhi' : x ≤ 1048576 := by omega
                    go_wp2
                    go_roundw
                    case rel =>
                      refine ⟨j + 1, by omega, by go_num, by trivial, fun i hi => ?_⟩
                      by_cases e : i = j
                      · rw [e, HXX.out]; omega
                      · exact hpreB.out i (by omega)
                    case measure => simp [intOf]; omega
            · have e : j = m := by omega
              subst e
              have HCB := hidden (show Cb A B from ⟨by rw [← Hn.out]; exact HPA.out, by rw [← Hm.out]; exact hpreB.out⟩)
              have C1 := hidden (fun (W : World) (va vb : Value) (h : Ri W va A) (h' : Ri W vb B) => cost_any va vb A B W h h' (by rw [← Hn.out]; exact h1) (by rw [← Hm.out]; exact h2) HCB.out)
              have C2 := hidden (fun (W : World) (va vb : Value) (h : Ri W va A) (h' : Ri W vb B) => refCost_any va vb A B W h h' (by rw [← Hn.out]; exact h1) (by rw [← Hm.out]; exact h2) HCB.out)
              generalize csum A B (min A.length B.length) = cs at *
              have hbe : (cs == cs) = true := by simp
              go_wp2_with fail
              refine (C1.out _ _ _ HA.out HB.out).mono ?_
              rintro e w3 ⟨rfl, q3, rfl⟩
              go_wp2_with fail
              refine (C2.out _ _ _ (HA.out.drewN q3) (HB.out.drewN q3)).mono ?_
              rintro e w4 ⟨rfl, q4, rfl⟩
              go_wp2_with fail
              refine (known_any _).mono ?_
              rintro e w5 ⟨rfl, hs5⟩
              have S5 := hidden (show Step (fun _ => False) _ w5 from (((Step.refl _ _).drewN (q3 + q4)).made hs5))
              clear hs5
              go_wp2
              go_ret
              exact ⟨rfl, S5.out⟩
    · have h3 : (400 : Int) < (m : Int) := by omega
      go_enter Try.func7, Try.ntmps7
      go_wp2
      go_ret
      exact ⟨rfl, Step.refl _ _⟩
  · have h3 : (400 : Int) < (n : Int) := by omega
    go_enter Try.func7, Try.ntmps7
    go_wp2
    go_ret
    exact ⟨rfl, Step.refl _ _⟩

end Go.Proofs.Ytoeedfiojnhhdaa
