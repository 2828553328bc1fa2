/-
  HuffCodes' walk.
-/
import Derived.Test.YtoeedfiojnhhdaaHRef
import Derived.Test.YtoeedfiojnhhdaaHKnown
namespace Go.Proofs.Ytoeedfiojnhhdaa
open Go.RowKit
set_option linter.unusedVariables false

theorem codesR_length (L : List Int) : (codesR L).length ≤ L.length := by
  unfold codesR
  split
  · split
    · rw [codes_length]; exact Nat.le_refl _
    · simp
  · simp

set_option maxHeartbeats 2000000 in
theorem huffCodes_any (v : Value) (L : List Int) (w : World) (h : Ri w v L) (hl : L.length ≤ 9223372036854775807) :
    Calls Try.prog 3 #[v] w fun e w' => e = .returned (.bool true) ∧ Step (fun _ => False) w w' := by
  have HR := hidden h
  obtain ⟨ao, cap, rfl, _, _, _⟩ := h
  obtain ⟨n, hn⟩ : ∃ n, n = L.length := ⟨_, rfl⟩
  have Hn := hidden hn
  rw [← hn] at hl HR ⊢
  clear hn
  by_cases h400 : n ≤ 400
  · have hL400 : Hid (L.length ≤ 400) := by unfold Hid; rw [← Hn.out]; exact h400
    go_enter Try.func3, Try.ntmps3
    go_wp2_with fail
    refine (own_any _ L _ HR.out (by have := hL400.out; omega)).mono ?_
    rintro e w1 ⟨u, rfl, ho1, hb1, hs1⟩
    have RU := hidden (Ri.of_own ho1)
    have S1 := hidden hs1
    obtain ⟨uo, uc, rfl⟩ := own_slice ho1
    clear ho1 hb1 hs1
    go_wp2_with fail
    refine (codes_any _ L _ RU.out (by have := hL400.out; omega)).mono ?_
    rintro e w2 ⟨v2, rfl, r2, _, hs2⟩
    have R2 := hidden r2
    have S2 := hidden hs2
    obtain ⟨a2, c2, rfl, _⟩ := r2
    clear hs2
    go_wp2_with fail
    refine (refCodes_any _ L _ ((HR.out.made S1.out).made S2.out) (by have := hL400.out; omega)).mono ?_
    rintro e w3 ⟨v3, rfl, r3, _, hs3⟩
    have R3 := hidden r3
    have S3 := hidden hs3
    obtain ⟨a3, c3, rfl, _⟩ := r3
    clear hs3
    have HI1 := hidden (fun (W : World) (h1 : Ri W _ (codesR L)) (h2 : Ri W _ (codesR L)) => ints_any (.slice a2 (codesR L).length c2) (.slice a3 (codesR L).length c3) _ _ W h1 h2 (by have := codesR_length L; have := hL400.out; omega))
    have HI2 := hidden (fun (W : World) (h1 : Ri W _ L) (h2 : Ri W _ L) => ints_any (.slice uo L.length uc) (.slice ao L.length cap) _ _ W h1 h2 (by have := hL400.out; omega))
    have hbe : (codeErr L == codeErr L) = true := by simp
    generalize codeErr L = ce at *
    generalize (codesR L).length = cl at *
    simp only [decide_true] at HI1 HI2
    go_wp2_with fail
    refine (HI1.out _ (R2.out.made S3.out) R3.out).mono ?_
    rintro e w4 ⟨rfl, q4, rfl⟩
    have e1 : Hid (L.length = n) := Hn.out.symm
    rw [e1.out] at HI2 RU
    go_wp2_with fail
    rw [e1.out]
    refine (HI2.out _ (((RU.out.made S2.out).made S3.out).drewN q4) ((((HR.out.made S1.out).made S2.out).made S3.out).drewN q4)).mono ?_
    rintro e w5 ⟨rfl, q5, rfl⟩
    go_wp2_with fail
    refine (known_any _).mono ?_
    rintro e w6 ⟨rfl, hs6⟩
    have S6 := hidden (show Step (fun _ => False) w w6 from (((S1.out.made S2.out).made S3.out).drewN (q4 + q5)).made hs6)
    clear hs6
    go_wp2
    go_ret
    exact ⟨rfl, S6.out⟩
  · have h3 : (400 : Int) < (n : Int) := by omega
    go_enter Try.func3, Try.ntmps3
    go_wp2
    go_ret
    exact ⟨rfl, Step.refl _ _⟩

end Go.Proofs.Ytoeedfiojnhhdaa
