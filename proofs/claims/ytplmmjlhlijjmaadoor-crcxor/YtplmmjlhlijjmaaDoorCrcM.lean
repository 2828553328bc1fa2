/-
  More: a sum goes on, four bits at a time.
-/
import Derived.Test.YtplmmjlhlijjmaaDoorRow
import Derived.Test.YtplmmjlhlijjmaaDoorCrcH
namespace Go.Proofs.YtplmmjlhlijjmaaDoor
open Go.RowKit

/-- The table lies where the program laid it. -/
def Tab (w : World) : Prop := ∀ k, k < 16 → w.cell? ⟨0, k, none⟩ = some (.int .u32 ((half.getD k 0 : Nat) : Int))

theorem Tab.step {S : Nat → Prop} {w w' : World} (h : Tab w) (hs : Step S w w') (h0 : ¬ S 0) : Tab w' := fun k hk => hs.cell (h k hk) h0
theorem Tab.drewN {w : World} (h : Tab w) (n : Nat) : Tab (w.drewN n) := h

set_option maxHeartbeats 1000000 in
theorem more_any (r : Nat) (v : Value) (B : List Nat) (w : World) (hr : r < 4294967296) (hB : ∀ x ∈ B, x < 256) (T : Tab w) (h : Rd w v B) (hl : B.length ≤ 137438953600) :
    Calls Tryd.prog 12 #[.int .u32 r, v] w fun e w' => e = .returned (.int .u32 ((crcRun (r ^^^ 4294967295) B ^^^ 4294967295 : Nat) : Int)) ∧ ∃ n, w' = w.drewN n := by
  obtain ⟨ao, cap, rfl, h1, h2⟩ := h
  have HT := hidden T
  have HB := hidden hB
  have H1 := hidden h1
  have H2 := hidden h2
  obtain ⟨n, hn⟩ : ∃ n, n = B.length := ⟨_, rfl⟩
  rw [← hn] at hl ⊢
  have Hn := hidden hn
  clear T hB h1 h2 hn
  go_enter Tryd.func12, Tryd.ntmps12
  go_wp2
  go_loopw [5, 12] (fun x i wr => ∃ k : Nat, k ≤ n ∧ i = .int .i64 k ∧ x = .int .u32 ((crcRun (r ^^^ 4294967295) (B.take k) : Nat) : Int) ∧ ∃ nq, wr = w.drewN nq) (fun _ i _ => n - (intOf i).toNat)
  case atStart => exact ⟨0, Nat.zero_le _, rfl, by rw [u32_not r hr]; rfl, ⟨0, rfl⟩⟩
  case round =>
    obtain ⟨k, hk, rfl, rfl, nq, rfl⟩ := hrel
    by_cases hlt : k < n
    · have hne : B ≠ [] := by intro e; have := Hn.out; subst e; simp at this; omega
      cases ao with
      | none => exact absurd (H1.out rfl).1 hne
      | some a =>
        obtain ⟨ba, oa, rfl, ka⟩ := H2.out a rfl hne
        have hkB : k < B.length := by have := Hn.out; omega
        have ca := ka k hkB
        have hstep := crcRun_take (r ^^^ 4294967295) B k hkB
        have hyl := crcRun_take_lt (r ^^^ 4294967295) B k HB.out (Nat.xor_lt_two_pow (n := 32) hr (by omega))
        have hxl := getD_lt hkB HB.out
        rw [crcByte_half, crcBits4] at hstep
        clear ka
        generalize B.getD k 0 = x at *
        generalize crcRun (r ^^^ 4294967295) (B.take k) = y at *
        have hzl : y ^^^ x < 4294967296 := Nat.xor_lt_two_pow (n := 32) hyl (by omega)
        have e0 : (x : Int) % 4294967296 = (x : Int) := by omega
        have e1 := u32_xor y x hyl (by omega)
        generalize y ^^^ x = z at *
        have e2 : (z : Int) / 16 = ((z / 16 : Nat) : Int) := by omega
        have e3 := u32_and15 z hzl
        have hq : z / 16 < 4294967296 := by omega
        have hi : z % 16 < 16 := by omega
        generalize z / 16 = q at *
        generalize z % 16 = i at *
        have hc := HT.out i hi
        have hcl := half_lt i
        generalize half.getD i 0 = t at *
        have hzl2 : q ^^^ t < 4294967296 := Nat.xor_lt_two_pow (n := 32) hq hcl
        have f1 := u32_xor q t hq hcl
        generalize q ^^^ t = z2 at *
        have f2 : (z2 : Int) / 16 = ((z2 / 16 : Nat) : Int) := by omega
        have f3 := u32_and15 z2 hzl2
        have hq2 : z2 / 16 < 4294967296 := by omega
        have hi2 : z2 % 16 < 16 := by omega
        generalize z2 / 16 = q2 at *
        generalize z2 % 16 = i2 at *
        have hc2 := HT.out i2 hi2
        have hcl2 := half_lt i2
        generalize half.getD i2 0 = t2 at *
        have f4 := u32_xor q2 t2 hq2 hcl2
        have Hstep := hidden hstep
        have k1 : (k : Int) < (n : Int) := by omega
        clear hstep hyl hxl hzl hq hcl hzl2 hq2 hcl2 hkB hne
        go_wp2
        go_roundw
        case rel => exact ⟨k + 1, by omega, by go_num, by rw [Hstep.out], ⟨_, rfl⟩⟩
        case measure => simp [intOf]; omega
    · have hkn : B.take k = B := List.take_of_length_le (by have := Hn.out; omega)
      rw [hkn]
      have hyl := crcRun_lt B HB.out (r ^^^ 4294967295) (Nat.xor_lt_two_pow (n := 32) hr (by omega))
      have e := u32_not _ hyl
      have He := hidden e
      clear hkn e hyl
      go_wp2
      go_ret
      exact ⟨by rw [← He.out]; rfl, _, rfl⟩

end Go.Proofs.YtplmmjlhlijjmaaDoor
