/-
  The page's Fill.
-/
import Derived.Test.YtinncakendfklaaDoorHRefN
import Derived.Test.YtinncakendfklaaDoorHCount
namespace Go.Proofs.YtinncakendfklaaDoor
open Go.RowKit
set_option maxRecDepth 100000
set_option linter.unusedVariables false

set_option maxHeartbeats 1000000 in
theorem refFill_any (v : Value) (L : List Int) (w : World) (h : Ri w v L) (hl : L.length ≤ 400) (hok : ∀ x ∈ L, 0 ≤ x ∧ x ≤ 15) :
    Calls Tryd.prog 20 #[v] w fun e w' => e = .returned (.int .i64 (fl (cf L) 16)) ∧ w' = w := by
  have HE := hidden (flt_all L hok)
  have HO := hidden hok
  obtain ⟨ao, cap, rfl, hcap, h1, h2⟩ := h
  have H1 := hidden h1
  have H2 := hidden h2
  obtain ⟨n, hn⟩ : ∃ n, n = L.length := ⟨_, rfl⟩
  have Hn := hidden hn
  rw [← hn] at hl hcap HE ⊢
  clear h1 h2 hn hok
  go_enter Tryd.func20, Tryd.ntmps20
  go_wp2
  go_loopw [3, 4] (fun s i wr => ∃ k : Nat, k ≤ n ∧ i = .int .i64 k ∧ s = .int .i64 (flt L k) ∧ wr = w) (fun _ i _ => n - (intOf i).toNat)
  case atStart => exact ⟨0, Nat.zero_le _, rfl, rfl, rfl⟩
  case round =>
    obtain ⟨k, hk, rfl, rfl, rfl⟩ := hrel
    by_cases hlt : k < n
    · have hkL : k < L.length := by have := Hn.out; omega
      cases ao with
      | none => have := (H1.out rfl).1; subst this; simp at hkL
      | some a =>
        obtain ⟨ba, oa, rfl, ka⟩ := H2.out a rfl (by intro e; subst e; simp at hkL)
        have ca := ka k hkL
        have k1 : (k : Int) < (n : Int) := by omega
        have hin := HO.out (L.getD k 0) (by rw [getD_i L k hkL]; exact List.getElem_mem hkL)
        have fb := flt_bd L k
        have fb2 := flt_bd L (k + 1)
        have HF := hidden (show flt L (k + 1) = flt L k + if 0 < L.getD k 0 then 2 ^ (15 - (L.getD k 0).toNat) else 0 from rfl)
        clear ka hkL
        obtain ⟨x, hx⟩ := Int.eq_ofNat_of_zero_le hin.1
        have hx15 := hin.2
        rw [hx] at ca hx15 HF
        clear hin hx
        rw [Int.toNat_natCast] at HF
        by_cases hz : x = 0
        · subst hz
          have HF' := hidden (show flt L (k + 1) = flt L k by rw [HF.out, if_neg (by simp)]; omega)
          go_wp2
          go_roundw
          case rel => exact ⟨k + 1, by omega, by go_num, by rw [HF'.out], by trivial⟩
          case measure => simp [intOf]; omega
        · have hx0 : (0 : Int) < (x : Int) := by omega
          have hp := ipow_pos (15 - x)
          have HF' := hidden (show flt L k + 2 ^ (15 - x) = flt L (k + 1) by rw [HF.out, if_pos hx0])
          have e15 : ((15 : Int) - (x : Int)).toNat = 15 - x := by omega
          have hlim : (2 : Int) ^ (15 - x) ≤ 32768 := by
            have : (2 ^ (15 - x) : Nat) ≤ 2 ^ 15 := Nat.pow_le_pow_right (by omega) (by omega)
            have e : ((2 ^ (15 - x) : Nat) : Int) = (2 : Int) ^ (15 - x) := by simp
            omega
          have k400 : (k : Int) ≤ 400 := by omega
          go_wp2
          go_roundw
          case rel => exact ⟨k + 1, by omega, by go_num, by rw [HF'.out], by trivial⟩
          case measure => simp [intOf]; omega
    · have e : k = n := by omega
      subst e
      go_wp2
      go_ret
      exact ⟨by rw [← HE.out]; rfl, rfl⟩

end Go.Proofs.YtinncakendfklaaDoor
