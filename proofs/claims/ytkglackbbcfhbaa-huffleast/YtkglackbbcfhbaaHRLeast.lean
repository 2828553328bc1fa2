/-
  The page's Least: the sum of so many things of the last row.
-/
import Derived.Test.YtkglackbbcfhbaaHRSort
import Derived.Test.YtkglackbbcfhbaaHRMerge
import Derived.Test.YtkglackbbcfhbaaHLenP
namespace Go.Proofs.Ytkglackbbcfhbaa
open Go.RowKit
set_option maxRecDepth 100000
set_option linter.unusedVariables false

/-- The row behind i rounds. -/
def rowE (E : List Int) : Nat → List Int
  | 0 => []
  | i + 1 => (rowN E i).map (·.1)

theorem rowE_pairs (E : List Int) (i : Nat) : pairs (rowE E i) = prs E i := by cases i <;> rfl
theorem rowE_next (E : List Int) (i : Nat) : mg E (pairs (rowE E i)) = rowE E (i + 1) := by
  rw [rowE_pairs]
  show _ = (rowN E i).map (·.1)
  rw [rowN_prs]
  rfl
theorem rowE_length (E : List Int) (i : Nat) : (rowE E i).length ≤ 2 * E.length := by
  cases i with
  | zero => simp [rowE]
  | succ i => have := rowN_length E i; simpa [rowE] using this
theorem rowE_bd (E : List Int) (h : ∀ x ∈ E, 0 ≤ x ∧ x ≤ 1048576) (i : Nat) (hi : i ≤ 16) (k : Nat) : 0 ≤ (rowE E i).getD k 0 ∧ (rowE E i).getD k 0 ≤ 1000000000000 := by
  by_cases hk : k < (rowE E i).length
  · cases i with
    | zero => simp [rowE] at hk
    | succ i => rw [getD_i _ _ hk]; exact rowN_bd E h i (by omega) _ (List.getElem_mem hk)
  · simp [List.getD, List.getElem?_eq_none (Nat.le_of_not_lt hk)]

theorem take_pairs (R : List Int) (j : Nat) (h : j < R.length / 2) : (pairs R).take (j + 1) = (pairs R).take j ++ [R.getD (2 * j) 0 + R.getD (2 * j + 1) 0] := by
  have hl : j < (pairs R).length := by rw [pairs_length]; exact h
  rw [List.take_succ_eq_append_getElem hl, ← getD_i _ _ hl, pairs_getD R j h]

theorem sm_bd (f : Nat → Int) (b : Int) (h : ∀ k, 0 ≤ f k ∧ f k ≤ b) : ∀ n, 0 ≤ sm f n ∧ sm f n ≤ b * n
  | 0 => by simp [sm]
  | n + 1 => by
    have := sm_bd f b h n
    have := h n
    simp only [sm]
    rw [Int.natCast_add, Int.mul_add]
    omega

/-- The least cost of counts E, rising. -/
def leastN (E : List Int) (m : Nat) : Int := if E.length < 2 then sm (fun p => E.getD p 0) E.length else rsum E (m - 1) (2 * E.length - 2)

theorem Ri.cell {w : World} {ao : Option Addr} {n cap : Nat} {L : List Int} (h : Ri w (.slice ao n cap) L) {k : Nat} (hk : k < L.length) : n = L.length ∧ ∃ b off, ao = some ⟨b, off, none⟩ ∧ ∀ k, k < L.length → w.cell? ⟨b, off + k, none⟩ = some (.int .i64 (L.getD k 0)) := by
  obtain ⟨ao', c', e, _, h1, h2⟩ := h
  injection e with e1 e2 e3
  subst e1
  refine ⟨e2, ?_⟩
  cases ao with
  | none => have := (h1 rfl).1; subst this; simp at hk
  | some a =>
    obtain ⟨b, off, rfl, hc⟩ := h2 a rfl (by intro e; subst e; simp at hk)
    exact ⟨b, off, rfl, hc⟩

set_option maxHeartbeats 4000000 in
theorem refLeast_any (v : Value) (O : List Int) (M : Nat) (w : World) (h : Ri w v O) (hm : mayB O (M : Int) = true) :
    Calls Try.prog 13 #[v, .int .i64 (M : Int)] w fun e w' => ∃ E, Ris O O.length E ∧ e = .returned (.int .i64 (leastN E M)) ∧ Step (fun _ => False) w w' := by
  have hmm := (mayB_iff O M).1 hm
  have HS := hidden (refSorted_any v O w h (by omega))
  have hM1 : 1 ≤ M := by omega
  have hM15 : M ≤ 15 := by omega
  have HO := hidden hmm
  obtain ⟨ao, ca, rfl, _⟩ := h
  obtain ⟨n, hn⟩ : ∃ n, n = O.length := ⟨_, rfl⟩
  have Hn := hidden hn
  rw [← hn] at HS ⊢
  clear hn hm hmm
  go_enter Try.func13, Try.ntmps13
  go_wp2_with (go_at_call 20; refine HS.out.mono ?_)
  rintro e w1 ⟨u, E, rfl, hE, ru, hs1⟩
  have HE := hidden hE
  have S1 := hidden hs1
  have RU := hidden ru
  have hEn : E.length ≤ n := hE.length
  have hE320 : E.length ≤ 320 := by have := HO.out.1; have := Hn.out; omega
  have HEM := hidden (show E.length ≤ 2 ^ M by
    have h1 := hE.pm.length_eq
    have h2 := HO.out.2.2.2.2
    rw [Hn.out] at h1
    simp at h1 h2
    omega)
  have HEB := hidden (show ∀ x ∈ E, 0 ≤ x ∧ x ≤ 1048576 by
    intro x hx
    obtain ⟨y, hy, rfl⟩ := List.mem_map.1 (hE.pm.mem_iff.1 hx)
    have hin := posTo_in O n (by have := Hn.out; omega) y hy
    refine (oftB_iff O).1 HO.out.2.2.2.1 _ ?_
    unfold key
    rw [getD_i O _ hin.2]
    exact List.getElem_mem _)
  obtain ⟨lo, lc, rfl, _⟩ := ru
  clear hE hs1
  obtain ⟨N, hN⟩ : ∃ N, N = E.length := ⟨_, rfl⟩
  have HN := hidden hN
  rw [← hN] at hE320 RU ⊢
  clear hN hEn
  by_cases hf : N < 2
  · have hf' : (N : Int) < 2 := by omega
    go_wp2
    go_loopw [6, 7] (fun s iv wr => ∃ i : Nat, i ≤ N ∧ iv = .int .i64 (i : Int) ∧ s = .int .i64 (sm (fun p => E.getD p 0) i) ∧ wr = w1) (fun _ iv _ => N - (intOf iv).toNat)
    case atStart => exact ⟨0, Nat.zero_le _, rfl, rfl, rfl⟩
    case round =>
      obtain ⟨i, hi, rfl, rfl, rfl⟩ := hrel
      by_cases hiN : i < N
      · have hiE : i < E.length := by have := HN.out; omega
        obtain ⟨hnr, b, off, rfl, hc⟩ := RU.out.cell hiE
        clear hnr
        have ci := hc i hiE
        have i1 : (i : Int) < (N : Int) := by omega
        have bd := sm_bd (fun p => E.getD p 0) 1000000000000 (fun k => by
          by_cases hk : k < E.length
          · have := HEB.out (E.getD k 0) (by rw [getD_i E k hk]; exact List.getElem_mem hk); omega
          · simp [List.getD, List.getElem?_eq_none (Nat.le_of_not_lt hk)])
        have bd1 := bd i
        have bd2 := bd (i + 1)
        have HSM := hidden (show sm (fun p => E.getD p 0) (i + 1) = sm (fun p => E.getD p 0) i + E.getD i 0 from rfl)
        rw [HSM.out] at bd2
        clear hc bd
        generalize sm (fun p => E.getD p 0) i = s at *
        generalize E.getD i 0 = x at *
        go_wp2
        go_roundw
        case rel => exact ⟨i + 1, by omega, by go_num, by rw [HSM.out], by trivial⟩
        case measure => simp [intOf]; omega
      · have e : i = N := by omega
        subst e
        have HL := hidden (show leastN E M = sm (fun p => E.getD p 0) i by unfold leastN; rw [if_pos (by have := HN.out; omega), HN.out])
        go_wp2
        go_ret
        exact ⟨E, HE.out, by rw [HL.out]; rfl, S1.out⟩
  · have hf' : ¬ (N : Int) < 2 := by omega
    go_wp2
    go_loopw [8, 9, 10, 11] (fun rv iv _ _ wr => ∃ i : Nat, i ≤ M ∧ iv = .int .i64 (i : Int) ∧ ∃ ro rn rc, rv = .slice ro rn rc ∧ rn ≤ 640 ∧ Hid (Ri wr (.slice ro rn rc) (rowE E i) ∧ rn = (rowE E i).length ∧ Step (fun _ => False) w1 wr)) (fun _ iv _ _ _ => M - (intOf iv).toNat)
    case atStart => exact ⟨0, Nat.zero_le _, rfl, none, 0, 0, rfl, by omega, ri_nil _, rfl, Step.refl _ _⟩
    case round =>
      obtain ⟨i, hi, rfl, ro, rn, rc, rfl, hrn, hrest⟩ := hrel
      obtain ⟨q1, q2, q3⟩ := hrest.out
      have RR := hidden q1
      have HRN := hidden q2
      have S3 := hidden q3
      have HRB := hidden (rowE_bd E HEB.out i (by omega))
      clear hrest q1 q2 q3
      by_cases hiM : i < M
      · have i1 : (i : Int) < (M : Int) := by omega
        have HNX := hidden (rowE_next E i)
        have HLX := hidden (rowE_length E (i + 1))
        generalize rowE E i = R at *
        go_wp2
        go_loopw [10, 11] (fun pv kv W => ∃ jj : Nat, jj ≤ rn ∧ kv = .int .i64 (jj : Int) ∧ ∃ po pn pc, pv = .slice po pn pc ∧ Hid (∃ j, Grew wr (.slice po pn pc) pn ((pairs R).take j) W ∧ pn = j ∧ 2 * j = jj)) (fun _ kv _ => rn - (intOf kv).toNat)
        case atStart => exact ⟨0, by omega, by simp, none, 0, 0, rfl, 0, ⟨World.ownsRow_nil _ _ _ _, (fun j h => by simp [Value.ownBlock] at h), Step.refl _ _⟩, rfl, rfl⟩
        case round =>
          obtain ⟨jj, hj, rfl, po, pn, pc, rfl, hrest⟩ := hrel
          obtain ⟨j, hg1, hg2, hg3⟩ := hrest.out
          have HG := hidden hg1
          have HPN := hidden hg2
          have HJJ := hidden hg3
          have hpn : pn ≤ 640 := by omega
          clear hrest hg1 hg2 hg3
          by_cases hj2 : jj + 1 < rn
          · have hj3 := HJJ.out
            have hjR : 2 * j + 1 < R.length := by have := HRN.out; omega
            obtain ⟨hnr, b, off, rfl, hc⟩ := RR.out.cell hjR
            clear hnr
            have c1 := HG.out.st.cell (hc (2 * j) (by omega)) (fun h => h)
            have c2 := HG.out.st.cell (hc (2 * j + 1) hjR) (fun h => h)
            have hb : b < wr.heap.size := World.block_lt_of_cell? wr _ c1
            have x1 := HRB.out (2 * j)
            have x2 := HRB.out (2 * j + 1)
            have HT := hidden (take_pairs R j (by omega))
            have j1 : (jj : Int) + 1 < (rn : Int) := by omega
            have j2 : (jj : Int) < (rn : Int) := by omega
            have t2 : ((jj : Int) + 1).toNat = jj + 1 := by omega
            have j4 : (0 : Int) ≤ (jj : Int) + 1 := by omega
            have wj : IntKind.i64.wrap ((jj : Int) + 1) = (jj : Int) + 1 := wrap_i64_id _ (by omega) (by omega)
            generalize R.getD (2 * j) 0 = x at *
            generalize R.getD (2 * j + 1) 0 = y at *
            rw [hj3] at c1 c2
            have HJ1 := hidden hj3
            clear hc hj3 hjR
            have wx : IntKind.i64.wrap (x + y) = x + y := wrap_i64_id _ (by omega) (by omega)
            go_wp2
            go_region_law (refine step_append_ri rfl (.tmp 44) (.tmp 55) rfl (.slice po pn pc) _ _ rfl (HG.out.own.alloc _) _ [x + y] rfl (ri_one' _ _ _ (by simp)) (by simp <;> omega) ?_
                           intro v1 w2 hown1 hgrow1 hb1
                           have HA := hidden ((HG.out.alloc _).drew.more hown1 hgrow1 hb1)
                           clear hown1 hgrow1 hb1)
            all_goals
              obtain ⟨po2, pc2, rfl⟩ := own_slice HA.out.own
              go_wp2
              go_roundw
              case rel => exact ⟨jj + 2, by omega, by go_num, po2, _, pc2, rfl, j + 1, by rw [HT.out]; exact HA.out, by simp; exact HPN.out, by have := HJ1.out; omega⟩
              case measure => simp [intOf]; omega
          · have j1 : ¬ (jj : Int) + 1 < (rn : Int) := by omega
            have HPK := hidden (show Ri wr (.slice po pn pc) (pairs R) by
              have := Ri.of_own HG.out.own
              rwa [List.take_of_length_le (by rw [pairs_length, ← HRN.out]; have := HJJ.out; omega)] at this)
            have HMG := hidden (refMerge_any _ _ E (pairs R) wr ((RU.out.made S3.out).made HG.out.st) HPK.out (by have := HN.out; omega) (by rw [pairs_length, ← HRN.out]; omega))
            go_wp2_with (go_at_call 21; refine HMG.out.mono ?_; rintro e w4 ⟨u4, rfl, ho4, hb4, hs4⟩; have R4 := hidden (show Ri w4 u4 (rowE E (i + 1)) by rw [← HNX.out]; exact Ri.of_own ho4); have S4 := hidden ((S3.out.made HG.out.st).made hs4); have HO4 := hidden ho4; clear ho4 hb4 hs4)
            have ho4 := HO4.out
            obtain ⟨uo4, uc4, rfl⟩ := own_slice ho4
            have HL4 := hidden (show E.length + (pairs R).length = (rowE E (i + 1)).length by rw [← HNX.out, mg_length])
            generalize E.length + (pairs R).length = r4 at *
            have hr4 : r4 ≤ 640 := by have := HL4.out; have := HLX.out; have := HN.out; omega
            clear ho4 HO4
            go_wp2
            go_roundw
            case rel => exact ⟨i + 1, by omega, by go_num, _, _, _, rfl, hr4, R4.out, HL4.out, S4.out⟩
            case measure => simp [intOf]; omega
      · have e : i = M := by omega
        subst e
        have HT := hidden (show 2 * N - 2 ≤ rn by
          obtain ⟨i', rfl⟩ : ∃ i', i = i' + 1 := ⟨i - 1, by omega⟩
          have h1 := tk_le E (i' + 1) HEM.out 0 (by omega)
          have h2 : tk E (i' + 1) 0 = 2 * E.length - 2 := rfl
          have h3 : (rowE E (i' + 1)).length = (told E i').length := by simp [rowE, told]
          rw [h2] at h1
          have h4 := HRN.out
          have h5 := HN.out
          simp at h1
          omega)
        have HLS := hidden (show leastN E i = sm (fun q => (rowE E i).getD q 0) (2 * N - 2) by
          obtain ⟨i', rfl⟩ : ∃ i', i = i' + 1 := ⟨i - 1, by omega⟩
          unfold leastN rsum
          rw [if_neg (by have := HN.out; omega), HN.out]
          rfl)
        generalize rowE E i = R at *
        obtain ⟨T, hT⟩ : ∃ T, T = 2 * N - 2 := ⟨_, rfl⟩
        rw [← hT] at HT HLS
        have hT2 : 2 * (N : Int) - 2 = (T : Int) := by omega
        have hTr : T ≤ rn := HT.out
        clear hT
        go_wp2
        go_loopw [12, 13] (fun s qv W => ∃ q : Nat, q ≤ T ∧ qv = .int .i64 (q : Int) ∧ s = .int .i64 (sm (fun q => R.getD q 0) q) ∧ ∃ z, W = wr.drewN z) (fun _ qv _ => T - (intOf qv).toNat)
        case atStart => exact ⟨0, Nat.zero_le _, rfl, rfl, 0, rfl⟩
        case round =>
          obtain ⟨q, hq, rfl, rfl, z, rfl⟩ := hrel
          by_cases hqT : q < T
          · have hqR : q < R.length := by have := HRN.out; omega
            obtain ⟨hnr, b, off, rfl, hc⟩ := RR.out.cell hqR
            clear hnr
            have c1 := hc q hqR
            have q1 : (q : Int) < (T : Int) := by omega
            have q2 : (q : Int) < (rn : Int) := by omega
            have bd := sm_bd (fun q => R.getD q 0) 1000000000000 HRB.out
            have bd1 := bd q
            have bd2 := HRB.out q
            have HSM := hidden (show sm (fun q => R.getD q 0) (q + 1) = sm (fun q => R.getD q 0) q + R.getD q 0 from rfl)
            clear hc bd
            generalize sm (fun q => R.getD q 0) q = s at *
            generalize R.getD q 0 = x at *
            go_wp2
            go_roundw
            case rel => exact ⟨q + 1, by omega, by go_num, by rw [HSM.out], _, rfl⟩
            case measure => simp [intOf]; omega
          · have e : q = T := by omega
            subst e
            have q1 : ¬ (q : Int) < (q : Int) := by omega
            go_wp2
            go_ret
            exact ⟨E, HE.out, by rw [HLS.out]; rfl, (S1.out.made S3.out).drewN z⟩

end Go.Proofs.Ytkglackbbcfhbaa
