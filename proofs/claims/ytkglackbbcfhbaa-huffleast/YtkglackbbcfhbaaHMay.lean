/-
  The page's May.
-/
import Derived.Test.YtkglackbbcfhbaaHRareN
import Derived.Test.YtkglackbbcfhbaaHCount
namespace Go.Proofs.Ytkglackbbcfhbaa
open Go.RowKit
set_option maxRecDepth 100000
set_option linter.unusedVariables false

set_option maxHeartbeats 1000000 in
theorem may_any (v : Value) (O : List Int) (m : Int) (w : World) (h : Ri w v O) (hl : O.length ≤ 9223372036854775807) :
    Calls Try.prog 8 #[v, .int .i64 m] w fun e w' => e = .returned (.bool (mayB O m)) ∧ w' = w := by
  obtain ⟨ao, cap, rfl, hcap, h1, h2⟩ := h
  have H1 := hidden h1
  have H2 := hidden h2
  obtain ⟨n, hn⟩ : ∃ n, n = O.length := ⟨_, rfl⟩
  have Hn := hidden hn
  rw [← hn] at hl hcap ⊢
  clear h1 h2 hn
  by_cases h320 : n ≤ 320
  · by_cases hm1 : 1 ≤ m
    · by_cases hm15 : m ≤ 15
      · obtain ⟨M, rfl⟩ := Int.eq_ofNat_of_zero_le (show 0 ≤ m by omega)
        go_enter Try.func8, Try.ntmps8
        go_wp2
        go_loopw [5, 6] (fun c i wr => ∃ k : Nat, k ≤ n ∧ i = .int .i64 k ∧ c = .int .i64 (((posTo O k).length : Nat) : Int) ∧ wr = w ∧ Hid (oftTo O k)) (fun _ i _ => n - (intOf i).toNat)
        case atStart => exact ⟨0, Nat.zero_le _, rfl, rfl, rfl, fun j hj => by omega⟩
        case round =>
          obtain ⟨k, hk, rfl, rfl, rfl, hok⟩ := hrel
          have hpl := posTo_length O k
          by_cases hlt : k < n
          · have hkL : k < O.length := by have := Hn.out; omega
            cases ao with
            | none => have := (H1.out rfl).1; subst this; simp at hkL
            | some a =>
              obtain ⟨ba, oa, rfl, ka⟩ := H2.out a rfl (by intro e; subst e; simp at hkL)
              have ca := ka k hkL
              have k1 : (k : Int) < (n : Int) := by omega
              have HKL := hidden hkL
              clear ka hkL
              by_cases hin : 0 ≤ O.getD k 0 ∧ O.getD k 0 ≤ 1048576
              · have HO := hidden (oftTo_succ hok.out hin)
                obtain ⟨x0, x1⟩ := hin
                by_cases hp : 0 < O.getD k 0
                · have HL := hidden (show (posTo O (k + 1)).length = (posTo O k).length + 1 by rw [posTo_yes O k hp]; simp)
                  generalize O.getD k 0 = x at *
                  generalize (posTo O k).length = c at *
                  go_wp2
                  go_roundw
                  case rel => exact ⟨k + 1, by omega, by go_num, by rw [HL.out]; rfl, by trivial, HO.out⟩
                  case measure => simp [intOf]; omega
                · have HL := hidden (show (posTo O (k + 1)).length = (posTo O k).length by rw [posTo_no O k hp])
                  have hx : O.getD k 0 = 0 := by omega
                  rw [hx] at ca
                  clear hp x0 x1 hx
                  generalize (posTo O k).length = c at *
                  go_wp2
                  go_roundw
                  case rel => exact ⟨k + 1, by omega, by go_num, by rw [HL.out], by trivial, HO.out⟩
                  case measure => simp [intOf]; omega
              · have HB := hidden (mayB_not (O := O) (m := (M : Int)) (fun h => oft_bad HKL.out hin h.2.2.2.1))
                generalize O.getD k 0 = x at *
                generalize (posTo O k).length = c at *
                by_cases hneg : x < 0
                · go_wp2
                  go_ret
                  exact ⟨by rw [HB.out]; rfl, rfl⟩
                · have hpos : 0 ≤ x := by omega
                  have hbig : 1048576 < x := by omega
                  go_wp2
                  go_ret
                  exact ⟨by rw [HB.out]; rfl, rfl⟩
          · have ek : k = O.length := by have := Hn.out; omega
            have HB := hidden (show mayB O (M : Int) = decide (((posTo O k).length : Int) ≤ 2 ^ M) by
              have h1 := oftTo_all (O := O) (ek ▸ hok.out)
              have e2 : ((2 ^ M : Nat) : Int) = (2 : Int) ^ M := by simp
              rw [ek, ← e2]
              have e3 : (((posTo O O.length).length : Int) ≤ ((2 ^ M : Nat) : Int)) ↔ (posTo O O.length).length ≤ 2 ^ M := by omega
              unfold mayB
              have e4 : decide (((posTo O O.length).length : Int) ≤ ((2 ^ M : Nat) : Int)) = decide ((posTo O O.length).length ≤ 2 ^ M) := decide_eq_decide.2 e3
              rw [e4, h1, decide_eq_true (show O.length ≤ 320 by have := Hn.out; omega), decide_eq_true (show (1 : Int) ≤ (M : Int) by omega), decide_eq_true (show (M : Int) ≤ 15 by omega), Int.toNat_natCast]
              rfl)
            have p0 := ipow_pos M
            have hlim : (2 : Int) ^ M ≤ 32768 := by
              have : (2 ^ M : Nat) ≤ 2 ^ 15 := Nat.pow_le_pow_right (by omega) (by omega)
              have e : ((2 ^ M : Nat) : Int) = (2 : Int) ^ M := by simp
              omega
            clear ek
            generalize (posTo O k).length = c at *
            go_wp2
            go_ret
            exact ⟨by rw [HB.out]; rfl, rfl⟩
      · have HB := hidden (mayB_not (O := O) (m := m) (fun h => hm15 h.2.2.1))
        have hbig : 15 < m := by omega
        go_enter Try.func8, Try.ntmps8
        go_wp2
        go_ret
        exact ⟨by rw [HB.out]; rfl, rfl⟩
    · have HB := hidden (mayB_not (O := O) (m := m) (fun h => hm1 h.2.1))
      have hsm : m < 1 := by omega
      go_enter Try.func8, Try.ntmps8
      go_wp2
      go_ret
      exact ⟨by rw [HB.out]; rfl, rfl⟩
  · have HB := hidden (mayB_not (O := O) (m := m) (fun h => by have := Hn.out; omega))
    have h3 : (320 : Int) < (n : Int) := by omega
    go_enter Try.func8, Try.ntmps8
    go_wp2
    go_ret
    exact ⟨by rw [HB.out]; rfl, rfl⟩

end Go.Proofs.Ytkglackbbcfhbaa
