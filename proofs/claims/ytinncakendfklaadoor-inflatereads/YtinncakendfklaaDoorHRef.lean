/-
  The page's Is, Fill and Codes.
-/
import Derived.Test.YtinncakendfklaaDoorHRefN
import Derived.Test.YtinncakendfklaaDoorHCodeP
import Derived.Test.YtinncakendfklaaDoorHCount
import Derived.Test.YtinncakendfklaaDoorHRefFill
namespace Go.Proofs.YtinncakendfklaaDoor
open Go.RowKit
set_option maxRecDepth 100000
set_option linter.unusedVariables false

set_option maxHeartbeats 1000000 in
theorem is_any (v : Value) (L : List Int) (w : World) (h : Ri w v L) (hl : L.length ≤ 9223372036854775807) :
    Calls Tryd.prog 19 #[v] w fun e w' => e = .returned (.bool (okB L)) ∧ w' = w := by
  obtain ⟨ao, cap, rfl, hcap, h1, h2⟩ := h
  have H1 := hidden h1
  have H2 := hidden h2
  obtain ⟨n, hn⟩ : ∃ n, n = L.length := ⟨_, rfl⟩
  have Hn := hidden hn
  rw [← hn] at hl hcap ⊢
  clear h1 h2 hn
  by_cases h320 : n ≤ 320
  · go_enter Tryd.func19, Tryd.ntmps19
    go_wp2
    go_loopw [3] (fun i wr => ∃ k : Nat, k ≤ n ∧ i = .int .i64 k ∧ wr = w ∧ Hid (okTo L k)) (fun i _ => n - (intOf i).toNat)
    case atStart => exact ⟨0, Nat.zero_le _, rfl, rfl, fun j hj => by omega⟩
    case round =>
      obtain ⟨k, hk, rfl, rfl, hok⟩ := hrel
      by_cases hlt : k < n
      · have hkL : k < L.length := by have := Hn.out; omega
        cases ao with
        | none => have := (H1.out rfl).1; subst this; simp at hkL
        | some a =>
          obtain ⟨ba, oa, rfl, ka⟩ := H2.out a rfl (by intro e; subst e; simp at hkL)
          have ca := ka k hkL
          have k1 : (k : Int) < (n : Int) := by omega
          have HKL := hidden hkL
          clear ka hkL
          by_cases hin : 0 ≤ L.getD k 0 ∧ L.getD k 0 ≤ 15
          · have HO := hidden (okTo_succ hok.out hin)
            obtain ⟨x0, x1⟩ := hin
            generalize L.getD k 0 = x at *
            go_wp2
            go_roundw
            case rel => exact ⟨k + 1, by omega, by go_num, by trivial, HO.out⟩
            case measure => simp [intOf]; omega
          · have HB := hidden (okB_bad HKL.out hin)
            generalize L.getD k 0 = x at *
            by_cases hneg : x < 0
            · go_wp2
              go_ret
              exact ⟨by rw [HB.out]; rfl, rfl⟩
            · have hpos : 0 ≤ x := by omega
              have hbig : 15 < x := by omega
              go_wp2
              go_ret
              exact ⟨by rw [HB.out]; rfl, rfl⟩
      · have ek : k = L.length := by have := Hn.out; omega
        have HB := hidden (okTo_all (L := L) (ek ▸ hok.out) (by have := Hn.out; omega))
        clear ek
        go_wp2
        go_ret
        exact ⟨by rw [HB.out]; rfl, rfl⟩
  · have HB := hidden (show okB L = false by
      cases e : okB L with
      | false => rfl
      | true => exact absurd ((okB_iff L).1 e).1 (by have := Hn.out; omega))
    have h3 : (320 : Int) < (n : Int) := by omega
    go_enter Tryd.func19, Tryd.ntmps19
    go_wp2
    go_ret
    exact ⟨by rw [HB.out]; rfl, rfl⟩

set_option maxHeartbeats 2000000 in
theorem refCodes_any (v : Value) (L : List Int) (w : World) (h : Ri w v L) (hl : L.length ≤ 9223372036854775807) :
    Calls Tryd.prog 10 #[v] w (CodesP L w) := by
  have HI := hidden (is_any v L w h hl)
  have HFi := hidden (fun (h1 : L.length ≤ 400) (h2 : ∀ x ∈ L, 0 ≤ x ∧ x ≤ 15) => refFill_any v L w h h1 h2)
  have HR := hidden h
  obtain ⟨ao, cap, rfl, hcap, r1, r2⟩ := h
  have H1 := hidden r1
  have H2 := hidden r2
  obtain ⟨n, hn⟩ : ∃ n, n = L.length := ⟨_, rfl⟩
  have Hn := hidden hn
  rw [← hn] at hl hcap HI HFi HR ⊢
  clear hn r1 r2
  cases hok : okB L with
  | false =>
    have E := hidden hok
    rw [hok] at HI
    clear hok
    go_enter Tryd.func10, Tryd.ntmps10
    go_wp2_with (go_at_call 19; refine HI.out.mono ?_; rintro e w1 ⟨rfl, hw⟩; rw [hw]; clear hw w1)
    go_ret2
    exact ⟨.slice none 0 0, by rw [show codeErr L = 1 by simp [codeErr, E.out]]; rfl, by rw [show codesR L = [] by simp [codesR, E.out]]; exact ri_nil _, (fun a n c h => by cases h), Step.refl _ _⟩
  | true =>
    have E := hidden hok
    have hL := (okB_iff L).1 hok
    have HL := hidden hL
    have h320 : n ≤ 320 := by rw [Hn.out]; exact hL.1
    have HF := hidden (HFi.out (by omega) hL.2)
    have hb := fun k => cf_get L k hL.1
    have HB := hidden hb
    rw [hok] at HI
    clear hok hL hb
    by_cases hfull : fl (cf L) 16 ≤ 32768
    · have X1 := hidden (show codeErr L = 0 by simp [codeErr, E.out, hfull])
      have X2 := hidden (show codesR L = codes L by simp [codesR, E.out, hfull])
      have hf2 : ¬ 32768 < fl (cf L) 16 := by omega
      clear hfull
      generalize fl (cf L) 16 = F at *
      go_enter Tryd.func10, Tryd.ntmps10
      go_wp2_with (first | (go_at_call 19; refine HI.out.mono ?_; rintro e w1 ⟨rfl, hw⟩; rw [hw]; clear hw w1) | (go_at_call 20; refine HF.out.mono ?_; rintro e w1 ⟨rfl, hw⟩; rw [hw]; clear hw w1) | (refine makeInts n _ rfl rfl rfl (by omega) ?_))
      intro w2 hs2 hz2 ha2
      have HS2 := hidden hs2
      have HA2 := hidden ha2
      clear hs2 ha2
      go_wp2
      go_loopw [5, 6, 7] (fun x nv _ wr => ∃ N : Nat, 1 ≤ N ∧ N ≤ 16 ∧ nv = .int .i64 (N : Int) ∧ x = .int .i64 (stf (cf L) (N - 1) + cf L (N - 1)) ∧ Hid (Step (fun _ => False) w wr ∧ Af wr w.heap.size n (laid L N 0))) (fun _ nv _ _ => 17 - (intOf nv).toNat)
      case atStart => exact ⟨1, by omega, by omega, rfl, by simp [stf, cf], HS2.out, HA2.out.congr (fun j hj => (laid_start L HL.out.2 j (by have := Hn.out; omega)).symm)⟩
      case round =>
        obtain ⟨N, hN1, hN16, rfl, rfl, hrest⟩ := hrel
        by_cases hlt : N ≤ 15
        · have sb := stf_bd' (cf L) (fun k => (HB.out k).1) (fun k => (HB.out k).2) (N - 1) (by omega)
          have cb := HB.out (N - 1)
          have HST := hidden (stf_succ (cf L) N hN1)
          have hN15 : (N : Int) ≤ 15 := by omega
          generalize stf (cf L) (N - 1) = s1 at *
          generalize cf L (N - 1) = c1 at *
          go_wp2
          go_loopw [5, 7] (fun x iv wr => ∃ i : Nat, i ≤ n ∧ iv = .int .i64 (i : Int) ∧ x = .int .i64 (stf (cf L) N + cf (L.take i) N) ∧ Hid (Step (fun _ => False) w wr ∧ Af wr w.heap.size n (laid L N i))) (fun _ iv _ => n - (intOf iv).toNat)
          case atStart => exact ⟨0, Nat.zero_le _, rfl, by rw [HST.out]; simp [cf_nil], hrest.out⟩
          case round =>
            obtain ⟨i, hi, rfl, rfl, hrest2⟩ := hrel
            by_cases hin : i < n
            · have hkL : i < L.length := by have := Hn.out; omega
              cases ao with
              | none => have := (H1.out rfl).1; subst this; simp at hkL
              | some a =>
                obtain ⟨ba, oa, rfl, ka⟩ := H2.out a rfl (by intro e; subst e; simp at hkL)
                have ca := hs_cell hrest2.out.1 (ka i hkL)
                have k1 : (i : Int) < (n : Int) := by omega
                obtain ⟨g1, g2⟩ := hrest2.out.2 i hin
                have sb2 := stf_bd' (cf L) (fun k => (HB.out k).1) (fun k => (HB.out k).2) N (by omega)
                have cb2 := cf_bd (L.take i) N
                have cb3 : (L.take i).length ≤ 320 := by simp; omega
                have HKL := hidden hkL
                clear ka hkL
                by_cases heq : L.getD i 0 = (N : Int)
                · have HY := hidden (fun j => laid_yes L N i j (by omega) heq)
                  have HCY := hidden (cf_take_yes L N i (by omega) HKL.out heq)
                  rw [heq] at ca
                  have hbe : ((N : Int) == (N : Int)) = true := by simp
                  have hv0 : 0 ≤ stf (cf L) N + cf (L.take i) N := by omega
                  have hv1 : stf (cf L) N + cf (L.take i) N ≤ 50000000 := by omega
                  generalize hv : stf (cf L) N + cf (L.take i) N = x at *
                  have HV := hidden hv
                  clear sb2 cb2 heq hv
                  go_wp2
                  go_roundw
                  case rel =>
                    refine ⟨i + 1, by omega, by go_num, by rw [HCY.out, ← Int.add_assoc, HV.out], hrest2.out.1.setCell _ _ (.inr (Nat.le_refl _)), ?_⟩
                    refine Af.congr (hrest2.out.2.set i x) (fun j _ => ?_)
                    rw [HY.out]
                  case measure => simp [intOf]; omega
                · have HY := hidden (fun j => laid_no L N i j heq)
                  have HCY := hidden (cf_take_not L N i HKL.out heq)
                  have hbe : (L.getD i 0 == (N : Int)) = false := by rw [beq_eq_false_iff_ne]; exact heq
                  generalize L.getD i 0 = y at *
                  generalize hv : stf (cf L) N + cf (L.take i) N = x at *
                  have HV := hidden hv
                  clear sb2 cb2 heq hv
                  go_wp2
                  go_roundw
                  case rel => exact ⟨i + 1, by omega, by go_num, by rw [HCY.out, HV.out], hrest2.out.1, hrest2.out.2.congr (fun j _ => (HY.out j).symm)⟩
                  case measure => simp [intOf]; omega
            · have ei : i = L.length := by have := Hn.out; omega
              have HTK := hidden (show L.take i = L from List.take_of_length_le (by omega))
              have HEI := hidden ei
              clear ei
              go_wp2
              go_roundw
              case rel =>
                refine ⟨N + 1, by omega, by omega, by go_num, by rw [HTK.out, Nat.add_sub_cancel], hrest2.out.1, hrest2.out.2.congr (fun j hj => ?_)⟩
                rw [laid_next L HL.out.2 N j (by omega) (by have := Hn.out; omega), HEI.out]
              case measure => simp [intOf]; omega
        · have e : N = 16 := by omega
          subst e
          go_wp2
          go_ret2
          refine ⟨.slice (some ⟨w.heap.size, 0, none⟩) n n, by rw [X1.out]; rfl, ?_, ?_, hrest.out.1⟩
          · rw [X2.out]
            exact hrest.out.2.ri (by rw [codes_length, Hn.out]) (Nat.le_refl _) (fun j hj => by rw [codes_getD L j (by have := Hn.out; omega), laid_end L HL.out.2 j (by have := Hn.out; omega)])
          · intro a n c h
            injection h with h1
            have := Option.some.inj h1
            subst this
            exact Nat.le_refl _
    · have X1 := hidden (show codeErr L = 21 by simp [codeErr, E.out, hfull])
      have X2 := hidden (show codesR L = [] by simp [codesR, hfull])
      have hf2 : 32768 < fl (cf L) 16 := by omega
      clear hfull
      generalize fl (cf L) 16 = F at *
      go_enter Tryd.func10, Tryd.ntmps10
      go_wp2_with (first | (go_at_call 19; refine HI.out.mono ?_; rintro e w1 ⟨rfl, hw⟩; rw [hw]; clear hw w1) | (go_at_call 20; refine HF.out.mono ?_; rintro e w1 ⟨rfl, hw⟩; rw [hw]; clear hw w1))
      go_ret2
      exact ⟨.slice none 0 0, by rw [X1.out]; rfl, by rw [X2.out]; exact ri_nil _, (fun a n c h => by cases h), Step.refl _ _⟩

end Go.Proofs.YtinncakendfklaaDoor
