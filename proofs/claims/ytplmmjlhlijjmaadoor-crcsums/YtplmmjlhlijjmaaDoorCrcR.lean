/-
  The page's More and Sum: bit by bit.
-/
import Derived.Test.YtplmmjlhlijjmaaDoorCrcS
namespace Go.Proofs.YtplmmjlhlijjmaaDoor
open Go.RowKit

theorem crcBits_succ (d r : Nat) : crcBits (d + 1) r = crcBits d r / 2 ^^^ (if crcBits d r % 2 = 1 then 3988292384 else 0) := by
  rw [crcBits_add]; rfl

set_option maxHeartbeats 1000000 in
theorem rmore_any (r : Nat) (v : Value) (B : List Nat) (w : World) (hr : r < 4294967296) (hB : ∀ x ∈ B, x < 256) (h : Rd w v B) (hl : B.length ≤ 137438953600) :
    Calls Tryd.prog 15 #[.int .u32 r, v] w fun e w' => e = .returned (.int .u32 ((crcRun (r ^^^ 4294967295) B ^^^ 4294967295 : Nat) : Int)) ∧ ∃ n, w' = w.drewN n := by
  obtain ⟨ao, cap, rfl, h1, h2⟩ := h
  have HB := hidden hB
  have H1 := hidden h1
  have H2 := hidden h2
  obtain ⟨n, hn⟩ : ∃ n, n = B.length := ⟨_, rfl⟩
  rw [← hn] at hl ⊢
  have Hn := hidden hn
  clear hB h1 h2 hn
  go_enter Tryd.func15, Tryd.ntmps15
  go_wp2
  go_loopw [5, 6] (fun x i wr => ∃ k : Nat, k ≤ n ∧ i = .int .i64 k ∧ x = .int .u32 ((crcRun (r ^^^ 4294967295) (B.take k) : Nat) : Int) ∧ ∃ nq, wr = w.drewN nq) (fun _ i _ => n - (intOf i).toNat)
  case atStart => exact ⟨0, Nat.zero_le _, rfl, by rw [u32_not r hr]; rfl, ⟨0, rfl⟩⟩
  case round =>
    obtain ⟨k, hk, rfl, rfl, nq, rfl⟩ := hrel
    by_cases hlt : k < n
    · have hne : B ≠ [] := by intro e; have := Hn.out; subst e; simp at this; omega
      cases ao with
      | none => exact absurd (H1.out rfl).1 hne
      | some a =>
        obtain ⟨ba, oa, rfl, ka⟩ := H2.out a rfl hne
        have hkB : k < B.length := by have := Hn.out; omega
        have ca := ka k hkB
        have hstep := crcRun_take (r ^^^ 4294967295) B k hkB
        have hyl := crcRun_take_lt (r ^^^ 4294967295) B k HB.out (Nat.xor_lt_two_pow (n := 32) hr (by omega))
        have hxl := getD_lt hkB HB.out
        unfold crcByte at hstep
        clear ka
        generalize B.getD k 0 = x at *
        generalize crcRun (r ^^^ 4294967295) (B.take k) = y at *
        have hzl : y ^^^ x < 4294967296 := Nat.xor_lt_two_pow (n := 32) hyl (by omega)
        have e0 : (x : Int) % 4294967296 = (x : Int) := by omega
        have e1 := u32_xor y x hyl (by omega)
        generalize y ^^^ x = z at *
        have Hstep := hidden hstep
        have Hz := hidden hzl
        have k1 : (k : Int) < (n : Int) := by omega
        clear hstep hyl hxl hzl hkB hne
        go_wp2
        go_loopw [5, 7] (fun x i wr => ∃ d : Nat, d ≤ 8 ∧ i = .int .i64 d ∧ x = .int .u32 ((crcBits d z : Nat) : Int) ∧ ∃ nq, wr = w.drewN nq) (fun _ i _ => 8 - (intOf i).toNat)
        case atStart => exact ⟨0, Nat.zero_le _, rfl, rfl, ⟨_, rfl⟩⟩
        case round =>
          obtain ⟨d, hd, rfl, rfl, nq2, rfl⟩ := hrel
          by_cases hlt2 : d < 8
          · have hs := crcBits_succ d z
            have hl := crcBits_lt d z Hz.out
            generalize crcBits d z = y2 at *
            have f1 := u32_and1 y2 hl
            have f2 : (y2 : Int) / 2 = ((y2 / 2 : Nat) : Int) := by omega
            have hh : y2 / 2 < 4294967296 := by omega
            have hm : y2 % 2 < 2 := by omega
            generalize y2 / 2 = q at *
            generalize y2 % 2 = m at *
            have f3 := u32_xor q 3988292384 hh (by omega)
            have d1 : (d : Int) < 8 := by omega
            by_cases hm1 : m = 1
            · subst hm1
              rw [if_pos rfl] at hs
              have Hs := hidden hs
              clear hs hl hh hm
              go_wp2
              go_roundw
              case rel => exact ⟨d + 1, by omega, by go_num, by rw [Hs.out]; exact congrArg _ f3, ⟨_, rfl⟩⟩
              case measure => simp [intOf]; omega
            · have hm0 : m = 0 := by omega
              subst hm0
              rw [if_neg (by omega), Nat.xor_zero] at hs
              have Hs := hidden hs
              clear hs hl hh hm
              go_wp2
              go_roundw
              case rel => exact ⟨d + 1, by omega, by go_num, by rw [Hs.out], ⟨_, rfl⟩⟩
              case measure => simp [intOf]; omega
          · have hd8 : d = 8 := by omega
            subst hd8
            rw [← Hstep.out]
            go_wp2
            go_roundw
            case rel => exact ⟨k + 1, by omega, by go_num, rfl, ⟨_, rfl⟩⟩
            case measure => simp [intOf]; omega
    · have hkn : B.take k = B := List.take_of_length_le (by have := Hn.out; omega)
      rw [hkn]
      have hyl := crcRun_lt B HB.out (r ^^^ 4294967295) (Nat.xor_lt_two_pow (n := 32) hr (by omega))
      have e := u32_not _ hyl
      have He := hidden e
      clear hkn e hyl
      go_wp2
      go_ret
      exact ⟨by rw [← He.out]; rfl, _, rfl⟩

set_option maxHeartbeats 1000000 in
theorem rsum_any (v : Value) (L : List (List Nat)) (w : World) (hB : ∀ B ∈ L, ∀ x ∈ B, x < 256) (h : Rds w v L) (hl : L.length ≤ 137438953600) (hls : ∀ B ∈ L, B.length ≤ 137438953600) :
    Calls Tryd.prog 11 #[v] w fun e w' => e = .returned (.int .u32 ((crcSum L.flatten : Nat) : Int)) ∧ ∃ n, w' = w.drewN n := by
  obtain ⟨ao, cap, rfl, h1, h2⟩ := h
  have HB := hidden hB
  have H1 := hidden h1
  have H2 := hidden h2
  have HL := hidden hls
  obtain ⟨n, hn⟩ : ∃ n, n = L.length := ⟨_, rfl⟩
  rw [← hn] at hl ⊢
  have Hn := hidden hn
  clear hB h1 h2 hn hls
  go_enter Tryd.func11, Tryd.ntmps11
  go_wp2
  go_loopw [3, 4] (fun x i wr => ∃ k : Nat, k ≤ n ∧ i = .int .i64 k ∧ x = .int .u32 ((sumTo L k : Nat) : Int) ∧ ∃ nq, wr = w.drewN nq) (fun _ i _ => n - (intOf i).toNat)
  case atStart => exact ⟨0, Nat.zero_le _, rfl, by rw [sumTo_zero]; rfl, ⟨0, rfl⟩⟩
  case round =>
    obtain ⟨k, hk, rfl, rfl, nq, rfl⟩ := hrel
    by_cases hlt : k < n
    · have hne : L ≠ [] := by intro e; have := Hn.out; subst e; simp at this; omega
      cases ao with
      | none => exact absurd (H1.out rfl) hne
      | some a =>
        obtain ⟨ba, oa, rfl, ka⟩ := H2.out a rfl hne
        have hkL : k < L.length := by have := Hn.out; omega
        obtain ⟨u, ca, hu⟩ := ka k hkL
        have Hs := hidden (sumTo_succ L k hkL)
        have HM := hidden (rmore_any (sumTo L k) u (L.getD k []) (w.drewN nq) (sumTo_lt L k HB.out) (HB.out _ (getD_mem hkL)) (hu.drewN nq) (HL.out _ (getD_mem hkL)))
        have k1 : (k : Int) < (n : Int) := by omega
        obtain ⟨ua, uc, hue, _⟩ := hu
        rw [hue] at ca HM
        clear ka hne hue
        generalize sumTo L k = y at *
        generalize L.getD k [] = Bk at *
        generalize Bk.length = m at *
        go_wp2_with (go_at_call 15; refine HM.out.mono ?_; rintro e w' ⟨rfl, q, rfl⟩)
        go_roundw
        case rel => exact ⟨k + 1, by omega, by go_num, by rw [Hs.out], ⟨_, rfl⟩⟩
        case measure => simp [intOf]; omega
    · have hkn : L.take k = L := List.take_of_length_le (by have := Hn.out; omega)
      have He := hidden (show sumTo L k = crcSum L.flatten by unfold sumTo; rw [hkn])
      clear hkn
      generalize sumTo L k = y at *
      go_wp2
      go_ret
      exact ⟨by rw [← He.out]; rfl, _, rfl⟩

theorem rsum_two (u v : Value) (A B : List Nat) (w : World) (g : Nat) (hg : g = w.heap.size) (hA : ∀ x ∈ A, x < 256) (hB : ∀ x ∈ B, x < 256) (h : Rd w u A) (k : Rd w v B) (hl : A.length ≤ 137438953600) (kl : B.length ≤ 137438953600) :
    Calls Tryd.prog 11 #[.slice (some ⟨g, 0, none⟩) 2 2] (w.alloc (.cells #[u, v] 22)) fun e w' => e = .returned (.int .u32 ((crcSum (A ++ B) : Nat) : Int)) ∧ ∃ n, w' = (w.alloc (.cells #[u, v] 22)).drewN n := by
  subst hg
  have := rsum_any _ [A, B] _ (by intro C hC; simp at hC; rcases hC with rfl | rfl; exact hA; exact hB) (Rds.two h k 22) (by simp) (by intro C hC; simp at hC; rcases hC with rfl | rfl; exact hl; exact kl)
  simpa using this

end Go.Proofs.YtplmmjlhlijjmaaDoor
