/-
  The walk of the law on numbers and their bytes.
-/
import Derived.Test.YtplmmjlhlijjmaaDoorCrcS
import Derived.Test.YtplmmjlhlijjmaaDoorCrcNb
import Derived.Test.YtplmmjlhlijjmaaDoorCrcL
import Derived.Test.YtplmmjlhlijjmaaDoorLSame
namespace Go.Proofs.YtplmmjlhlijjmaaDoor
open Go.RowKit

/-- Eight bytes, the last of them 0. -/
def tailB (B : List Nat) : Bool := decide (B.length = 8 ∧ B.getD 7 0 = 0)

set_option maxHeartbeats 1000000 in
theorem tail_any (v : Value) (B : List Nat) (w : World) (h : Rd w v B) (hl : B.length ≤ 137438953600) :
    Calls Tryd.prog 21 #[v] w fun e w' => e = .returned (.bool (tailB B)) ∧ ∃ n, w' = w.drewN n := by
  obtain ⟨ao, cap, rfl, h1, h2⟩ := h
  by_cases h8 : B.length = 8
  · have hne : B ≠ [] := by intro e; subst e; simp at h8
    cases ao with
    | none => exact absurd (h1 rfl).1 hne
    | some a =>
      obtain ⟨ba, oa, rfl, ka⟩ := h2 a rfl hne
      have ca := ka 7 (by omega)
      have ht : tailB B = decide (B.getD 7 0 = 0) := by unfold tailB; simp [h8]
      rw [ht, h8]
      clear ka h1 h2 hne ht
      generalize B.getD 7 0 = x at *
      by_cases hx : x = 0
      · subst hx
        go_enter Tryd.func21, Tryd.ntmps21
        go_wp2
        go_ret
        exact ⟨rfl, 0, rfl⟩
      · have hx2 : ((x : Int) == 0) = false := by simp; omega
        have hd := hidden (show decide (x = 0) = false by simp [hx])
        go_enter Tryd.func21, Tryd.ntmps21
        go_wp2
        go_ret
        exact ⟨by rw [hd.out]; rfl, 0, rfl⟩
  · have hd := hidden (show tailB B = false by unfold tailB; simp [h8])
    have h8' : ((B.length : Int) == 8) = false := by simp; omega
    generalize B.length = n at *
    clear h1 h2
    go_enter Tryd.func21, Tryd.ntmps21
    go_wp2
    go_ret
    exact ⟨by rw [hd.out]; rfl, 0, rfl⟩

theorem back_small (B : List Nat) (hB : ∀ x ∈ B, x < 256) (h : B.length ≤ 7) : bytesOf (numOf (B.take 7)) (longOf B.length) = B := by
  have e : longOf (B.length : Int) = B.length := by unfold longOf; omega
  rw [e, List.take_of_length_le h, bytesOf_numOf B hB]

theorem back_tail (B : List Nat) (hB : ∀ x ∈ B, x < 256) (h : ¬ B.length ≤ 7) : decide (bytesOf (numOf (B.take 7)) (longOf B.length) = B) = tailB B := by
  have e : longOf (B.length : Int) = 8 := by unfold longOf; omega
  rw [e]
  unfold tailB
  have hl : (B.take 7).length = 7 := by simp; omega
  have h7 := bytesOf_numOf (B.take 7) (fun x hx => hB x (List.mem_of_mem_take hx))
  rw [hl] at h7
  have hlt := numOf_take_lt B 7 hB (by omega)
  have e2 : bytesOf (numOf (B.take 7)) 8 = B.take 7 ++ [0] := by
    rw [bytesOf_succ, h7, Nat.div_eq_of_lt (by omega)]
  rw [e2]
  congr 1
  apply propext
  constructor
  · intro he
    have h8 : B.length = 8 := by rw [← he]; simp; omega
    refine ⟨h8, ?_⟩
    rw [← he]
    simp [List.getD, hl]
  · rintro ⟨h8, h0⟩
    have e3 : B.getD 7 0 = B[7] := by simp [List.getD, h8]
    have e4 : B = B.take 7 ++ [B[7]] := by
      rw [← List.take_succ_eq_append_getElem (by omega), List.take_of_length_le (by omega)]
    rw [e3] at h0
    rw [h0] at e4
    exact e4.symm

theorem back_value (v n : Int) (h0 : 0 ≤ v) (h1 : v < 72057594037927936) (hn : 7 ≤ n) : ((numOf ((bytesOf v.toNat (longOf n)).take 7) : Nat) : Int) = v := by
  have h7 : 7 ≤ longOf n := by unfold longOf; omega
  rw [bytesOf_take _ _ _ h7, numOf_bytesOf, Nat.mod_eq_of_lt (by omega)]
  omega

set_option maxHeartbeats 4000000 in
theorem numbers_in (v n : Int) (b : Value) (B : List Nat) (w : World) (hv : v ≤ 9223372036854775807) (hv0 : -9223372036854775808 ≤ v) (hn : n ≤ 9223372036854775807) (hB : ∀ x ∈ B, x < 256) (T : Tab w) (h : Rd w b B) (hl : B.length ≤ 4000) :
    Calls Tryd.prog 6 #[.int .i64 v, .int .i64 n, b] w fun e w' => e = .returned (.bool true) ∧ Step (fun _ => False) w w' := by
  have HT := hidden T
  have HB := hidden hB
  have HR := hidden h
  have hlen := hidden (show bytesOf v.toNat (longOf n) = bytesOf v.toNat (longOf n) from rfl)
  have hll : Hid ((bytesOf v.toNat (longOf n)).length ≤ 137438953600) := by show _ ≤ _; rw [bytesOf_length]; unfold longOf; omega
  have hcases : v < 0 ∨ (0 ≤ v ∧ 72057594037927936 ≤ v) ∨ (0 ≤ v ∧ v < 72057594037927936 ∧ n < 7) ∨ (0 ≤ v ∧ v < 72057594037927936 ∧ 7 ≤ n) := by omega
  have Hc := hidden hcases
  obtain ⟨ao, cap, hb, _⟩ := h
  have Hb := hidden hb
  rw [hb] at HR ⊢
  obtain ⟨L, hL, hL2⟩ : ∃ L, B.length = L ∧ L ≤ 4000 := ⟨_, rfl, hl⟩
  rw [hL] at HR ⊢
  have HL := hidden hL
  obtain ⟨NB, hNB, hNB2⟩ : ∃ NB, numOf (B.take 7) = NB ∧ NB < 72057594037927936 := ⟨_, rfl, numOf_take_lt B 7 hB (by omega)⟩
  have HNB := hidden hNB
  have HNB2 := hidden hNB2
  clear hB T hb hcases hL hl hNB hNB2
  go_enter Tryd.func6, Tryd.ntmps6
  go_wp2_with fail
  refine Calls.mono (little_any v n w hv hn) ?_
  rintro e w1 ⟨rfl, ho1, hs1⟩
  have HO1 := hidden (Rd.of_own ho1)
  have HS1 := hidden hs1
  clear ho1 hs1
  go_wp2_with fail
  refine Calls.mono (rlittle_any v n w1 hv hn) ?_
  rintro e w2 ⟨u, rfl, ho2, hs2⟩
  obtain ⟨ua, uc, hu⟩ := own_slice ho2
  have HO2 := hidden (Rd.of_own ho2)
  have HS2 := hidden (HS1.out.made hs2)
  have HO1' := hidden (HO1.out.step hs2 (fun _ _ _ _ _ h => h))
  have HR2 := hidden (HR.out.step HS2.out (fun _ _ _ _ _ h => h))
  rw [hu] at HO2 ⊢
  clear ho2 hs2 hu
  go_wp2_with fail
  refine Calls.mono (same_any _ _ _ _ _ HO1'.out HO2.out hll.out) ?_
  rintro e w' ⟨rfl, q, rfl⟩
  rw [decide_eq_true rfl]
  go_wp2_with fail
  refine Calls.mono (number_any _ B _ HB.out ?hr (by have := HL.out; omega)) ?_
  case hr => exact HR2.out
  rintro e wa ⟨rfl, qa, rfl⟩
  rw [HNB.out]
  go_wp2_with fail
  refine Calls.mono (rnumber_any _ B _ HB.out ?hr (by have := HL.out; omega)) ?_
  case hr => exact HR2.out
  rintro e wa ⟨rfl, qb, rfl⟩
  rw [HNB.out]
  rcases Hc.out with h1 | ⟨h1, h2⟩ | ⟨h1, h2, h3⟩ | ⟨h1, h2, h3⟩
  rotate_left 3
  have Hbv := hidden (back_value v n h1 h2 h3)
  go_wp2_with fail
  refine Calls.mono (number_any _ (bytesOf v.toNat (longOf n)) _ (bytesOf_byte _ _) ?hr4 hll.out) ?_
  case hr4 => exact HO1'.out
  rintro e wa ⟨rfl, qc, rfl⟩
  rw [Hbv.out]
  rotate_left 1
  all_goals
    go_wp2_with fail
    refine Calls.mono (number_any _ B _ HB.out ?hr5 (by have := HL.out; omega)) ?_
    case hr5 => exact HR2.out
    rintro e wa ⟨rfl, qd, rfl⟩
    rw [HNB.out]
    go_wp2_with fail
    refine Calls.mono (little_any _ _ _ (by have := HNB2.out; omega) (by omega)) ?_
    rintro e wb ⟨rfl, hob, hsb⟩
    rw [Int.toNat_natCast] at hob
    have HOb := hidden (Rd.of_own hob)
    have HSb := hidden (HS2.out.made (show Step (fun _ => False) w2 wb from ⟨hsb.os, hsb.tape, hsb.output, hsb.size, hsb.block⟩))
    clear hob hsb
    have HRb := hidden (HR.out.step HSb.out (fun _ _ _ _ _ h => h))
    have HTb := hidden (HT.out.step HSb.out (fun h => h))
    go_wp2_with fail
    refine Calls.mono (same_any _ _ _ B _ HOb.out HRb.out ?hy) ?_
    case hy => rw [bytesOf_length]; unfold longOf; omega
    rintro e wc ⟨rfl, qe, rfl⟩
    by_cases h7 : L ≤ 7
    · have hd : decide (bytesOf NB (longOf (L : Int)) = B) = true := by
        rw [decide_eq_true_eq, ← HNB.out, ← HL.out]
        exact back_small B HB.out (by have := HL.out; omega)
      rw [hd]
      go_wp2_with fail
      refine Calls.mono (known_any _ ?ht) ?_
      case ht => exact HTb.out
      rintro e wk ⟨rfl, hk⟩
      have HK := hidden (HSb.out.made (show Step (fun _ => False) wb wk from ⟨hk.os, hk.tape, hk.output, hk.size, hk.block⟩))
      clear hk
      go_wp2
      go_ret
      exact ⟨rfl, HK.out⟩
    · have hd : decide (bytesOf NB (longOf (L : Int)) = B) = tailB B := by
        rw [← HNB.out, ← HL.out]
        exact back_tail B HB.out (by have := HL.out; omega)
      rw [hd]
      clear hd
      go_wp2_with fail
      refine Calls.mono (tail_any _ B _ ?ht (by have := HL.out; omega)) ?_
      case ht => exact HRb.out
      rintro e wt ⟨rfl, qt, rfl⟩
      generalize tailB B = tb
      have hz := hidden (show (tb == (decide ((L : Int) ≤ 7) || tb)) = true by
        rw [decide_eq_false (by omega), Bool.false_or]; simp)
      go_wp2_with fail
      refine Calls.mono (known_any _ ?ht) ?_
      case ht => exact HTb.out
      rintro e wk ⟨rfl, hk⟩
      have HK := hidden (HSb.out.made (show Step (fun _ => False) wb wk from ⟨hk.os, hk.tape, hk.output, hk.size, hk.block⟩))
      clear hk
      go_wp2
      go_ret
      exact ⟨congrArg (fun b => Ending.returned (.bool b)) hz.out, HK.out⟩

set_option maxHeartbeats 1000000 in
theorem numbers_out (v n : Int) (ao : Option Addr) (L cap : Nat) (w : World) (hn : 4000 < L) (hm : L ≤ 9223372036854775807) :
    Calls Tryd.prog 6 #[.int .i64 v, .int .i64 n, .slice ao L cap] w fun e w' => e = .returned (.bool true) ∧ Step (fun _ => False) w w' := by
  go_enter Tryd.func6, Tryd.ntmps6
  go_wp2
  go_ret
  exact ⟨rfl, Step.refl _ _⟩

end Go.Proofs.YtplmmjlhlijjmaaDoor
