/-
  HuffOrder's walk.
-/
import Derived.Test.YtoeedfiojnhhdaaHOrdN
import Derived.Test.YtoeedfiojnhhdaaHKnown
namespace Go.Proofs.Ytoeedfiojnhhdaa
open Go.RowKit
set_option linter.unusedVariables false

theorem codeErr_ok {L : List Int} (h : codeErr L = 0) : okB L = true ∧ fl (cf L) 16 ≤ 32768 ∧ codesR L = codes L := by
  unfold codeErr at h
  unfold codesR
  by_cases h1 : okB L = true
  · rw [if_pos h1] at h
    by_cases h2 : fl (cf L) 16 ≤ 32768
    · exact ⟨h1, h2, by rw [if_pos h1, if_pos h2]⟩
    · rw [if_neg h2] at h; omega
  · rw [if_neg h1] at h; omega
theorem codeErr_not {L : List Int} (h : codeErr L ≠ 0) : codesR L = [] := by
  unfold codeErr at h
  unfold codesR
  by_cases h1 : okB L = true
  · rw [if_pos h1] at h ⊢
    by_cases h2 : fl (cf L) 16 ≤ 32768
    · rw [if_pos h2] at h; exact absurd rfl h
    · rw [if_neg h2]
  · rw [if_neg h1]

set_option maxRecDepth 100000 in
set_option maxHeartbeats 4000000 in
theorem order_any (v : Value) (L : List Int) (w : World) (h : Ri w v L) (hl : L.length ≤ 9223372036854775807) :
    Calls Try.prog 8 #[v] w fun e w' => e = .returned (.bool true) ∧ Step (fun _ => False) w w' := by
  have HR := hidden h
  have HC := hidden (codes_any v L w h hl)
  obtain ⟨ao, cap, rfl, _, r1, r2⟩ := h
  have R1 := hidden r1
  have R2 := hidden r2
  obtain ⟨n, hn⟩ : ∃ n, n = L.length := ⟨_, rfl⟩
  have Hn := hidden hn
  rw [← hn] at hl HR HC ⊢
  clear hn r1 r2
  by_cases h200 : n ≤ 200
  · go_enter Try.func8, Try.ntmps8
    go_wp2_with fail
    refine HC.out.mono ?_
    rintro e w1 ⟨u, rfl, ru, _, hs1⟩
    have S1 := hidden hs1
    clear hs1
    by_cases hce : codeErr L = 0
    · obtain ⟨hok, hfu, hcr⟩ := codeErr_ok hce
      rw [hcr] at ru
      have HOK := hidden ((okB_iff L).1 hok).2
      have HFU := hidden hfu
      rw [hce]
      clear hok hfu hcr hce
      obtain ⟨uo, uc, rfl, _, u1, u2⟩ := ru
      have U1 := hidden u1
      have U2 := hidden u2
      rw [codes_length, ← Hn.out]
      clear u1 u2
      have hbn : ((n : Int) != (n : Int)) = false := by simp
      go_wp2
      go_loopw [5, 6, 7, 8] (fun iv _ _ _ wr => ∃ i : Nat, i ≤ n ∧ iv = .int .i64 (i : Int) ∧ ∃ q, wr = w1.drewN q) (fun iv _ _ _ _ => n - (intOf iv).toNat)
      case atStart => exact ⟨0, Nat.zero_le _, rfl, 0, rfl⟩
      case round =>
        obtain ⟨i, hi, rfl, q, rfl⟩ := hrel
        by_cases hin : i < n
        · have i1 : (i : Int) < (n : Int) := by omega
          go_wp2
          go_loopw [6, 7, 8] (fun kv _ _ wr => ∃ k : Nat, k ≤ n ∧ kv = .int .i64 (k : Int) ∧ ∃ q, wr = w1.drewN q) (fun kv _ _ _ => n - (intOf kv).toNat)
          case atStart => exact ⟨0, Nat.zero_le _, rfl, q, rfl⟩
          case round =>
            obtain ⟨k, hk, rfl, q2, rfl⟩ := hrel
            by_cases hkn : k < n
            · have k1 : (k : Int) < (n : Int) := by omega
              have hiL : i < L.length := by have := Hn.out; omega
              have hkL : k < L.length := by have := Hn.out; omega
              cases ao with
              | none => have := (R1.out rfl).1; subst this; simp at hiL
              | some a =>
                cases uo with
                | none => have := (U1.out rfl).1; have : (codes L).length = 0 := by rw [this]; rfl
                          rw [codes_length] at this; omega
                | some b =>
                  obtain ⟨ba, oa, rfl, ka⟩ := R2.out a rfl (by intro e; subst e; simp at hiL)
                  obtain ⟨bb, ob, rfl, kb⟩ := U2.out b rfl (by intro e; have : (codes L).length = 0 := by { rw [e]; rfl }
                                                               rw [codes_length] at this; omega)
                  have li := S1.out.cell (ka i hiL) (fun h => h)
                  have lk := S1.out.cell (ka k hkL) (fun h => h)
                  have ci := kb i (by rw [codes_length]; exact hiL)
                  have ck := kb k (by rw [codes_length]; exact hkL)
                  rw [codes_getD L i hiL] at ci
                  rw [codes_getD L k hkL] at ck
                  have hx := HOK.out (L.getD i 0) (by rw [getD_i L i hiL]; exact List.getElem_mem hiL)
                  have hy := HOK.out (L.getD k 0) (by rw [getD_i L k hkL]; exact List.getElem_mem hkL)
                  obtain ⟨x, ex⟩ := Int.eq_ofNat_of_zero_le hx.1
                  obtain ⟨y, ey⟩ := Int.eq_ofNat_of_zero_le hy.1
                  have x15 := hx.2
                  have y15 := hy.2
                  rw [ex] at li x15
                  rw [ey] at lk y15
                  have HX := hidden (And.intro ex ey)
                  have HL := hidden (And.intro hiL hkL)
                  clear ka kb hx hy ex ey hiL hkL
                  by_cases hx0 : x = 0
                  · subst hx0
                    have hb0 : ((0 : Int) == 0) = true := rfl
                    generalize codeOf L i = c1 at *
                    generalize codeOf L k = c2 at *
                    go_wp2
                    go_roundw
                    case rel => exact ⟨k + 1, by omega, by go_num, _, rfl⟩
                    case measure => simp [intOf]; omega
                  · have hbx : ((x : Int) == 0) = false := by rw [beq_eq_false_iff_ne]; omega
                    by_cases hy0 : y = 0
                    · subst hy0
                      have hb0 : ((0 : Int) == 0) = true := rfl
                      generalize codeOf L i = c1 at *
                      generalize codeOf L k = c2 at *
                      go_wp2
                      go_roundw
                      case rel => exact ⟨k + 1, by omega, by go_num, _, rfl⟩
                      case measure => simp [intOf]; omega
                    · have hby : ((y : Int) == 0) = false := by rw [beq_eq_false_iff_ne]; omega
                      by_cases hik : i = k
                      · subst hik
                        have hb0 : ((i : Int) == (i : Int)) = true := by simp
                        generalize codeOf L i = c1 at *
                        go_wp2
                        go_roundw
                        case rel => exact ⟨i + 1, by omega, by go_num, _, rfl⟩
                        case measure => simp [intOf]; omega
                      · have hbk : ((i : Int) == (k : Int)) = false := by rw [beq_eq_false_iff_ne]; omega
                        have c10 := codeOf_nonneg L i
                        have c20 := codeOf_nonneg L k
                        have b1 := code_lt L i x HL.out.1 HX.out.1 (by omega) (by omega) HFU.out
                        have b2 := code_lt L k y HL.out.2 HX.out.2 (by omega) (by omega) HFU.out
                        have p1 := ipow_pos (15 - x)
                        have p2 := ipow_pos (15 - y)
                        have q1 : 0 ≤ codeOf L i * 2 ^ (15 - x) := Int.mul_nonneg c10 (by omega)
                        have q2 : 0 ≤ codeOf L k * 2 ^ (15 - y) := Int.mul_nonneg c20 (by omega)
                        have ew1 : wrap64 (codeOf L i * 2 ^ (15 - x)) = codeOf L i * 2 ^ (15 - x) := wrap64_id _ (by omega) (by omega)
                        have ew2 : wrap64 (codeOf L k * 2 ^ (15 - y)) = codeOf L k * 2 ^ (15 - y) := wrap64_id _ (by omega) (by omega)
                        have t1 : ((15 : Int) - (x : Int)).toNat = 15 - x := by omega
                        have t2 : ((15 : Int) - (y : Int)).toNat = 15 - y := by omega
                        rcases Nat.lt_trichotomy x y with hxy | hxy | hxy
                        · have hxy' : (x : Int) < (y : Int) := by omega
                          have hlt := code_below L i k x y HL.out.1 HL.out.2 HX.out.1 HX.out.2 (by omega) hxy (by omega)
                          have hpr := code_prefix L i k x y HL.out.1 HL.out.2 HX.out.1 HX.out.2 (by omega) hxy (by omega)
                          have hne : (codeOf L k / 2 ^ (y - x) == codeOf L i) = false := by rw [beq_eq_false_iff_ne]; omega
                          have t3 : ((y : Int) - (x : Int)).toNat = y - x := by omega
                          have hxle : (x : Int) ≤ (y : Int) := by omega
                          have hsub : (0 : Int) ≤ (y : Int) - (x : Int) := by omega
                          generalize codeOf L i = c1 at *
                          generalize codeOf L k = c2 at *
                          clear hpr b1 b2 q1 q2
                          go_wp2
                          go_quiet (fail)
                          go_wp2
                          go_quiet (fail)
                          go_wp2
                          go_quiet (fail)
                          go_wp2
                          go_roundw
                          case rel => exact ⟨k + 1, by omega, by go_num, _, rfl⟩
                          case measure => simp [intOf]; omega
                        · subst hxy
                          have hxx : decide ((x : Int) < (x : Int)) = false := by simp
                          have hxb : ((x : Int) == (x : Int)) = true := by simp
                          have hne : (codeOf L k == codeOf L i) = false := by
                            rw [beq_eq_false_iff_ne]
                            rcases Nat.lt_or_gt_of_ne hik with h | h
                            · have := code_rank L i k x HL.out.1 HX.out.1 HX.out.2 (by omega) h; omega
                            · have := code_rank L k i x HL.out.2 HX.out.2 HX.out.1 (by omega) h; omega
                          have t3 : ((x : Int) - (x : Int)).toNat = 0 := by omega
                          by_cases hik2 : i < k
                          · have hik3 : (i : Int) < (k : Int) := by omega
                            have hlt : codeOf L i * 2 ^ (15 - x) < codeOf L k * 2 ^ (15 - x) := Int.mul_lt_mul_of_pos_right (code_rank L i k x HL.out.1 HX.out.1 HX.out.2 (by omega) hik2) (by omega)
                            generalize codeOf L i = c1 at *
                            generalize codeOf L k = c2 at *
                            clear b1 b2 q1 q2
                            go_wp2
                            go_quiet (fail)
                            go_wp2
                            go_quiet (fail)
                            go_wp2
                            go_quiet (fail)
                            go_wp2
                            go_roundw
                            case rel => exact ⟨k + 1, by omega, by go_num, _, rfl⟩
                            case measure => simp [intOf]; omega
                          · have hik3 : decide ((i : Int) < (k : Int)) = false := by simp; omega
                            generalize codeOf L i = c1 at *
                            generalize codeOf L k = c2 at *
                            clear b1 b2 q1 q2
                            go_wp2
                            go_quiet (fail)
                            go_wp2
                            go_quiet (fail)
                            go_wp2
                            go_quiet (fail)
                            go_wp2
                            go_roundw
                            case rel => exact ⟨k + 1, by omega, by go_num, _, rfl⟩
                            case measure => simp [intOf]; omega
                        · have hxx : decide ((x : Int) < (y : Int)) = false := by simp; omega
                          have hxb : ((x : Int) == (y : Int)) = false := by rw [beq_eq_false_iff_ne]; omega
                          have hxl : decide ((x : Int) ≤ (y : Int)) = false := by simp; omega
                          have hxx2 : decide (x < y) = false := by simp; omega
                          have hxl2 : decide (x ≤ y) = false := by simp; omega
                          have hxb2 : (x == y) = false := by rw [beq_eq_false_iff_ne]; omega
                          generalize codeOf L i = c1 at *
                          generalize codeOf L k = c2 at *
                          clear b1 b2 q1 q2
                          go_wp2
                          go_quiet (fail)
                          go_wp2
                          go_quiet (fail)
                          go_wp2
                          go_quiet (fail)
                          go_wp2
                          go_roundw
                          case rel => exact ⟨k + 1, by omega, by go_num, _, rfl⟩
                          case measure => simp [intOf]; omega
            · go_wp2
              go_roundw
              case rel => exact ⟨i + 1, by omega, by go_num, _, rfl⟩
              case measure => simp [intOf]; omega
        · go_wp2_with (go_at_call 13; refine (known_any _).mono ?_; rintro e w3 ⟨rfl, hs3⟩; have S3 := hidden hs3; clear hs3)
          go_ret
          exact ⟨rfl, (S1.out.drewN _).made S3.out⟩
    · have hbe : (codeErr L != 0) = true := by rw [bne_iff_ne]; exact hce
      rw [codeErr_not hce] at ru
      obtain ⟨uo, uc, rfl, _⟩ := ru
      generalize codeErr L = ce at *
      have hb0 : ((([] : List Int).length : Int) == 0) = true := rfl
      clear hce
      go_wp2_with (go_at_call 13; refine (known_any _).mono ?_; rintro e w3 ⟨rfl, hs3⟩; have S3 := hidden hs3; clear hs3)
      go_ret
      exact ⟨rfl, S1.out.made S3.out⟩
  · have h3 : (200 : Int) < (n : Int) := by omega
    go_enter Try.func8, Try.ntmps8
    go_wp2
    go_ret
    exact ⟨rfl, Step.refl _ _⟩

end Go.Proofs.Ytoeedfiojnhhdaa
