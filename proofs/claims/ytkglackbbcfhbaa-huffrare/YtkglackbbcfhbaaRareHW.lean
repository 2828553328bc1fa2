/-
  HuffRare's walk.
-/
import Derived.Test.YtkglackbbcfhbaaHMay
import Derived.Test.YtkglackbbcfhbaaHLenP
import Derived.Test.YtkglackbbcfhbaaHKnown
import Derived.Test.YtkglackbbcfhbaaHSortB
import Derived.BigQuiet
namespace Go.Proofs.Ytkglackbbcfhbaa
open Go.RowKit
set_option linter.unusedVariables false

theorem sortAll {O : List Int} (h : O.length ≤ 320) : ∀ n, n = (posTo O O.length).length → SortOk n := fun n hn => sort_all n (by have := posTo_length O O.length; omega)

set_option maxRecDepth 100000 in
set_option maxHeartbeats 4000000 in
theorem huffRare_any (v : Value) (O : List Int) (m : Int) (w : World) (h : Ri w v O) (hl : O.length ≤ 9223372036854775807) :
    Calls Try.prog 4 #[v, .int .i64 m] w fun e w' => e = .returned (.bool true) ∧ Step (fun _ => False) w w' := by
  have HR := hidden h
  have HM := hidden (may_any v O m w h hl)
  obtain ⟨ao, cap, rfl, _, r1, r2⟩ := h
  have R1 := hidden r1
  have R2 := hidden r2
  obtain ⟨n, hn⟩ : ∃ n, n = O.length := ⟨_, rfl⟩
  have Hn := hidden hn
  rw [← hn] at hl HR HM ⊢
  clear hn r1 r2
  by_cases h320 : n ≤ 320
  · by_cases hmay : mayB O m = true
    · rw [hmay] at HM
      have HMAY := hidden hmay
      obtain ⟨M, rfl⟩ := Int.eq_ofNat_of_zero_le (show 0 ≤ m by have := (mayB_iff O m).1 hmay; omega)
      have hO320 : Hid (O.length ≤ 320) := by unfold Hid; rw [← Hn.out]; exact h320
      clear hmay
      go_enter Try.func4, Try.ntmps4
      go_wp2_with fail
      refine HM.out.mono ?_
      rintro e w0 ⟨rfl, rfl⟩
      go_wp2_with fail
      refine (own_any _ O _ HR.out (by have := hO320.out; omega)).mono ?_
      rintro e w1 ⟨u, rfl, ho1, hb1, hs1⟩
      have RU := hidden (Ri.of_own ho1)
      have S1 := hidden hs1
      obtain ⟨uo, uc, rfl⟩ := own_slice ho1
      clear ho1 hb1 hs1
      go_wp2_with fail
      refine (len_any _ O (M : Int) _ RU.out (by have := hO320.out; omega) (sortAll hO320.out)).mono ?_
      rintro e w2 (⟨hno, _⟩ | ⟨_, vl, D, rfl, d1, d2, rl, _, hs2⟩)
      · rw [HMAY.out] at hno; cases hno
      have HU := hidden (show Used O D M from ⟨d1, d2, HMAY.out⟩)
      have S2 := hidden (S1.out.made hs2)
      rw [Int.toNat_natCast] at rl
      obtain ⟨lo, lc, rfl, _, l1, l2⟩ := rl
      have L1 := hidden l1
      have L2 := hidden l2
      rw [lensOf_length, ← Hn.out]
      clear d1 d2 l1 l2 hs2
      have hbn : ((n : Int) != (n : Int)) = false := by simp
      go_wp2
      go_loopw [7, 8] (fun iv _ wr => ∃ i : Nat, i ≤ n ∧ iv = .int .i64 (i : Int) ∧ ∃ q, wr = w2.drewN q) (fun iv _ _ => n - (intOf iv).toNat)
      case atStart => exact ⟨0, Nat.zero_le _, rfl, 0, rfl⟩
      case round =>
        obtain ⟨i, hi, rfl, q, rfl⟩ := hrel
        by_cases hin : i < n
        · have i1 : (i : Int) < (n : Int) := by omega
          go_wp2
          go_loopw [8] (fun kv wr => ∃ k : Nat, k ≤ n ∧ kv = .int .i64 (k : Int) ∧ ∃ q, wr = w2.drewN q) (fun kv _ => n - (intOf kv).toNat)
          case atStart => exact ⟨0, Nat.zero_le _, rfl, q, rfl⟩
          case round =>
            obtain ⟨k, hk, rfl, q2, rfl⟩ := hrel
            by_cases hkn : k < n
            · have k1 : (k : Int) < (n : Int) := by omega
              have hiL : i < O.length := by have := Hn.out; omega
              have hkL : k < O.length := by have := Hn.out; omega
              cases ao with
              | none => have := (R1.out rfl).1; subst this; simp at hiL
              | some a =>
                cases lo with
                | none => have := (L1.out rfl).1; have : (lensOf O D M).length = 0 := by rw [this]; rfl
                          rw [lensOf_length] at this; omega
                | some b =>
                  obtain ⟨ba, oa, rfl, ka⟩ := R2.out a rfl (by intro e; subst e; simp at hiL)
                  obtain ⟨bb, ob, rfl, kb⟩ := L2.out b rfl (by intro e; have : (lensOf O D M).length = 0 := by { rw [e]; rfl }
                                                               rw [lensOf_length] at this; omega)
                  have oi := S2.out.cell (ka i hiL) (fun h => h)
                  have ok := S2.out.cell (ka k hkL) (fun h => h)
                  have li := kb i (by rw [lensOf_length]; exact hiL)
                  have lk := kb k (by rw [lensOf_length]; exact hkL)
                  have hrare := fun h1 h2 => HU.out.rare (i := i) (k := k) hiL hkL h1 h2
                  clear ka kb hiL hkL
                  generalize O.getD i 0 = x at *
                  generalize O.getD k 0 = y at *
                  generalize (lensOf O D M).getD i 0 = p at *
                  generalize (lensOf O D M).getD k 0 = r at *
                  by_cases hc1 : y < x
                  · have e1 : decide (y < x) = true := decide_eq_true hc1
                    by_cases hc2 : 0 < y
                    · have e2 : decide (0 < y) = true := decide_eq_true hc2
                      have e3 : decide (r < p) = false := decide_eq_false (by have := hrare hc1 hc2; omega)
                      clear hrare
                      go_wp2
                      go_quiet (fail)
                      go_wp2
                      go_roundw
                      case rel => exact ⟨k + 1, by omega, by go_num, _, rfl⟩
                      case measure => simp [intOf]; omega
                    · have e2 : decide (0 < y) = false := decide_eq_false hc2
                      clear hrare
                      go_wp2
                      go_quiet (fail)
                      go_wp2
                      go_roundw
                      case rel => exact ⟨k + 1, by omega, by go_num, _, rfl⟩
                      case measure => simp [intOf]; omega
                  · have e1 : decide (y < x) = false := decide_eq_false hc1
                    clear hrare
                    go_wp2
                    go_quiet (fail)
                    go_wp2
                    go_roundw
                    case rel => exact ⟨k + 1, by omega, by go_num, _, rfl⟩
                    case measure => simp [intOf]; omega
            · have e : k = n := by omega
              subst e
              go_wp2
              go_roundw
              case rel => exact ⟨i + 1, by omega, by go_num, _, rfl⟩
              case measure => simp [intOf]; omega
        · go_wp2_with fail
          refine (known_any _).mono ?_
          rintro e w4 ⟨rfl, hs4⟩
          have S4 := hidden (show Step (fun _ => False) w0 w4 from (S2.out.drewN q).made hs4)
          clear hs4
          go_wp2
          go_ret
          exact ⟨rfl, S4.out⟩
    · have hmf : mayB O m = false := by cases e : mayB O m with | false => rfl | true => exact absurd e hmay
      rw [hmf] at HM
      go_enter Try.func4, Try.ntmps4
      go_wp2_with fail
      refine HM.out.mono ?_
      rintro e w0 ⟨rfl, rfl⟩
      go_wp2
      go_ret
      exact ⟨rfl, Step.refl _ _⟩
  · have h3 : (320 : Int) < (n : Int) := by omega
    go_enter Try.func4, Try.ntmps4
    go_wp2
    go_ret
    exact ⟨rfl, Step.refl _ _⟩

end Go.Proofs.Ytkglackbbcfhbaa
