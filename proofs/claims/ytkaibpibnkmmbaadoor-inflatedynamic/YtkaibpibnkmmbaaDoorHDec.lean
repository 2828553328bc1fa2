/-
  few; byLength: symbols in the order of their codes.
-/
import Derived.Test.YtkaibpibnkmmbaaDoorHDecN
import Derived.Test.YtkaibpibnkmmbaaDoorHStartN
namespace Go.Proofs.YtkaibpibnkmmbaaDoor
open Go.RowKit
set_option maxRecDepth 100000
set_option linter.unusedVariables false

theorem far_cell' {W : World} {q : Addr} {u v : Value} {b o : Nat} (h : W.cell? ⟨b, o, none⟩ = some v) (hq : q.block ≠ b) : (W.setCell q u).cell? ⟨b, o, none⟩ = some v := by
  rw [World.cell?_setCell_other (a := q) (b := ⟨b, o, none⟩) _ _ (by intro e; apply hq; rw [e])]
  exact h

set_option maxHeartbeats 2000000 in
theorem byLength_any (v : Value) (L : List Int) (w : World) (h : Ri w v L) (hl : L.length ≤ 320) (hok : ∀ x ∈ L, 0 ≤ x ∧ x ≤ 15) (tot : Nat) (htot : plc (cf L) 16 = (tot : Int)) :
    Calls Tryd.prog 51 #[v, .agg (A16 (cf L))] w fun e w' => ∃ b, e = .returned (.slice (some ⟨b, 0, none⟩) tot tot) ∧ w.heap.size ≤ b ∧ b < w'.heap.size ∧
      (∀ i, i < L.length → 0 < L.getD i 0 → w'.cell? ⟨b, (pos L i).toNat, none⟩ = some (.int .i64 (i : Int))) ∧ Step (fun _ => False) w w' := by
  have HB := hidden (fun k => cf_get L k hl)
  have HPB := hidden (fun n hn => plc_bd L hl n hn)
  have HO := hidden hok
  have HTOT := hidden htot
  obtain ⟨ao, cap, rfl, _, r1, r2⟩ := h
  have R1 := hidden r1
  have R2 := hidden r2
  obtain ⟨n, hn⟩ : ∃ n, n = L.length := ⟨_, rfl⟩
  have Hn := hidden hn
  rw [← hn] at hl ⊢
  clear hn r1 r2 hok htot
  go_enter Tryd.func51, Tryd.ntmps51
  go_wp2_with (refine box16 (cf L) rfl ?_)
  intro w1 hs1 hz1 ha1
  go_wp2_with (refine alloc16 ?_)
  intro w2 hs2 hz2 ha2
  have HR := hidden (And.intro (hs1.made hs2) (And.intro (ha1.made hs2) ha2))
  clear hs1 ha1 hs2 ha2
  go_wp2
  go_loopw [6] (fun i wr => ∃ k : Nat, k ≤ 15 ∧ i = .int .i64 (k + 1 : Nat) ∧ w2.heap.size ≤ wr.heap.size ∧ Hid (Step (fun _ => False) w wr ∧ Af wr w.heap.size 16 (cf L) ∧ Af wr w1.heap.size 16 (fun j => if j ≤ k then plc (cf L) j else 0))) (fun i _ => 17 - (intOf i).toNat)
  case atStart => exact ⟨0, by omega, rfl, Nat.le_refl _, HR.out.1, HR.out.2.1, HR.out.2.2.congr (fun j _ => by by_cases e : j ≤ 0; (have : j = 0 := by omega); subst this; rfl; simp [e])⟩
  case round =>
    obtain ⟨k, hk, rfl, hzr, hrest⟩ := hrel
    obtain ⟨hst, hA, hF⟩ := hrest.out
    have HS := hidden hst
    have HA := hidden hA
    have HF := hidden hF
    clear hst hA hF hrest
    by_cases hlt : k < 15
    · have c1 := (HF.out k (by omega)).1
      have c2 := (HA.out k (by omega)).1
      have c3 := HF.out (k + 1) (by omega)
      simp only [Nat.le_refl, if_true] at c1
      obtain ⟨c3, c4⟩ := c3
      have b0 := HPB.out k (by omega)
      have b1 := HB.out k
      have e1 : ((k + 1 : Nat) : Int) = (k : Int) + 1 := by omega
      have HE := hidden (show plc (cf L) k + cf L k = plc (cf L) (k + 1) from rfl)
      rw [e1]
      clear e1
      have k1 : (k : Int) + 1 ≤ 15 := by omega
      have k0 : (0 : Int) ≤ (k : Int) := by omega
      go_wp2
      go_region
      go_wp2
      go_roundw
      case rel =>
        refine ⟨k + 1, by omega, by go_num, by simp [World.setCell, World.drew]; omega, ?_⟩
        refine ⟨(HS.out.drewN _).setCell _ _ (.inr (by show w.heap.size ≤ w1.heap.size; omega)), HA.out.far _ _ (by show w1.heap.size ≠ w.heap.size; omega), ?_⟩
        refine Af.congr (HF.out.set (k + 1) _) (fun j _ => ?_)
        unfold upd
        by_cases e : j = k + 1
        · subst e; simp [HE.out]
        · by_cases e2 : j ≤ k
          · simp [e, e2, show j ≤ k + 1 by omega]
          · simp [e, e2, show ¬ j ≤ k + 1 by omega]
      case measure => simp [intOf]; omega
    · have e : k = 15 := by omega
      subst e
      obtain ⟨wr_0, hwr⟩ : ∃ x, x = wr := ⟨_, rfl⟩
      rw [← hwr] at HS HA HF hzr ⊢
      clear hwr wr
      have c1 : wr_0.cell? ⟨w1.heap.size, 15, none⟩ = some (.int .i64 (plc (cf L) 15)) := by have := (HF.out 15 (by omega)).1; simpa using this
      have c2 := (HA.out 15 (by omega)).1
      have b0 := HPB.out 15 (by omega)
      have b1 := HB.out 15
      have b2 := HPB.out 16 (by omega)
      have HT := hidden (show plc (cf L) 15 + cf L 15 = plc (cf L) 16 from rfl)
      have htot2 : tot ≤ 5120 := by have := HTOT.out; omega
      have hsum : plc (cf L) 15 + cf L 15 = (tot : Int) := by rw [HT.out, HTOT.out]
      have HF' := hidden (HF.out.congr (g := fun j => plc (cf L) j) (fun j hj => by simp [show j ≤ 15 by omega]))
      generalize plc (cf L) 15 = p15 at c1 b0 hsum
      generalize cf L 15 = f15 at c2 b1 hsum
      have HSUM := hidden hsum
      clear hsum
      go_wp2_with (refine makeInts tot _ rfl rfl (by have := HSUM.out; omega) (by omega) ?_)
      intro w4 hs4 hz4 ha4
      have HS4 := hidden (HS.out.made hs4)
      have HF4 := hidden (And.intro (HF'.out.made hs4) ha4)
      clear hs4 ha4
      go_wp2
      go_loopw [8, 9, 33] (fun _ _ iv wr2 => ∃ k : Nat, k ≤ n ∧ iv = .int .i64 (k : Int) ∧ wr_0.heap.size < wr2.heap.size ∧ Hid (Step (fun _ => False) w wr2 ∧ Af wr2 w1.heap.size 16 (fun j => plc (cf L) j + cf (L.take k) j) ∧
        (∀ j, j < tot → (wr2.cell? ⟨wr_0.heap.size, j, none⟩).isSome = true ∧ wr2.frozen? ⟨wr_0.heap.size, j, none⟩ = false) ∧ ∀ i, i < k → 0 < L.getD i 0 → wr2.cell? ⟨wr_0.heap.size, (pos L i).toNat, none⟩ = some (.int .i64 (i : Int)))) (fun _ _ iv _ => n - (intOf iv).toNat)
      case atStart => exact ⟨0, Nat.zero_le _, rfl, hz4, HS4.out, HF4.out.1.congr (fun j _ => by simp [cf_nil]), (fun j hj => ⟨by rw [(HF4.out.2 j hj).1]; rfl, (HF4.out.2 j hj).2⟩), fun i hi => by omega⟩
      case round =>
        obtain ⟨k, hk, rfl, hzz, hrest⟩ := hrel
        by_cases hkn : k < n
        · have hkL : k < L.length := by have := Hn.out; omega
          cases ao with
          | none => have := (R1.out rfl).1; subst this; simp at hkL
          | some a =>
            obtain ⟨ba, oa, rfl, ka⟩ := R2.out a rfl (by intro e; subst e; simp at hkL)
            have ca := hs_cell hrest.out.1 (ka k hkL)
            have k1 : (k : Int) < (n : Int) := by omega
            have hin := HO.out (L.getD k 0) (by rw [getD_i L k hkL]; exact List.getElem_mem hkL)
            obtain ⟨x, hx⟩ := Int.eq_ofNat_of_zero_le hin.1
            have x15 := hin.2
            rw [hx] at ca x15
            have HX := hidden hx
            have HKL := hidden hkL
            clear ka hin hx hkL
            by_cases hx0 : x = 0
            · subst hx0
              go_wp2
              go_roundw
              case rel =>
                refine ⟨k + 1, by omega, by go_num, hzz, hrest.out.1, hrest.out.2.1.congr (fun j _ => by rw [cf_take_zero L k HKL.out HX.out j]), hrest.out.2.2.1, fun i hi h0 => ?_⟩
                by_cases e : i = k
                · subst e; rw [HX.out] at h0; simp at h0
                · exact hrest.out.2.2.2 i (by omega) h0
              case measure => simp [intOf]; omega
            · have hx0' : (0 : Int) < (x : Int) := by omega
              have hx16 : x < 16 := by omega
              have hp := pos_lt L k x HKL.out HX.out (by omega) (by omega)
              obtain ⟨p, hpp⟩ := Int.eq_ofNat_of_zero_le hp.1
              have hpt : p < tot := by have := HTOT.out; omega
              have f1 : wr.cell? ⟨w1.heap.size, x, none⟩ = some (.int .i64 (p : Int)) := by
                rw [(hrest.out.2.1 x hx16).1]
                have := pos_eq L k x HX.out
                rw [← hpp, this]
              have f2 := (hrest.out.2.1 x hx16).2
              obtain ⟨cv, hcv⟩ := Option.isSome_iff_exists.1 (hrest.out.2.2.1 p hpt).1
              have g2 := (hrest.out.2.2.1 p hpt).2
              have hpt' : (p : Int) < (tot : Int) := by omega
              have HPP := hidden hpp
              have hw : w1.heap.size ≠ wr_0.heap.size := by omega
              clear hp hpp
              go_wp2
              go_roundw
              case rel =>
                refine ⟨k + 1, by omega, by go_num, by simp [World.setCell]; omega, (hrest.out.1.setCell _ _ (.inr ?_)).setCell _ _ (.inr ?_), ?_, fun j hj => ?_, fun i hi h0 => ?_⟩
                · show w.heap.size ≤ wr_0.heap.size
                  omega
                · show w.heap.size ≤ w1.heap.size
                  omega
                · refine Af.congr ((hrest.out.2.1.far ⟨wr_0.heap.size, p, none⟩ _ (by show wr_0.heap.size ≠ w1.heap.size; omega)).set x _) (fun j _ => ?_)
                  rw [cf_take_snoc L k x HKL.out HX.out (by omega) j]
                  unfold upd
                  by_cases e : j = x
                  · subst e
                    rw [if_pos rfl, if_pos rfl]
                    have := pos_eq L k j HX.out
                    have := HPP.out
                    omega
                  · rw [if_neg e, if_neg e]
                · refine ⟨?_, by rw [World.frozen?_setCell, World.frozen?_setCell]; exact (hrest.out.2.2.1 j hj).2⟩
                  obtain ⟨cj, hcj⟩ := Option.isSome_iff_exists.1 (hrest.out.2.2.1 j hj).1
                  by_cases e : j = p
                  · subst e
                    rw [far_cell' (World.cell?_setCell_same' wr ⟨wr_0.heap.size, j, none⟩ _ (by rw [hcv]; rfl)) (by show w1.heap.size ≠ wr_0.heap.size; omega)]
                    rfl
                  · rw [far_cell' ((World.cell?_setCell_other (a := ⟨wr_0.heap.size, p, none⟩) (b := ⟨wr_0.heap.size, j, none⟩) _ _ (by intro e2; apply e; injection e2 with _ e3; omega)).trans hcj) (by show w1.heap.size ≠ wr_0.heap.size; omega)]
                    rfl
                · by_cases e : i = k
                  · subst e
                    rw [HPP.out, Int.toNat_natCast]
                    exact far_cell' (World.cell?_setCell_same' wr ⟨wr_0.heap.size, p, none⟩ _ (by rw [hcv]; rfl)) (by show w1.heap.size ≠ wr_0.heap.size; omega)
                  · have hiL : i < L.length := by have := HKL.out; omega
                    have hin2 := HO.out (L.getD i 0) (by rw [getD_i L i hiL]; exact List.getElem_mem hiL)
                    obtain ⟨y, hy⟩ := Int.eq_ofNat_of_zero_le hin2.1
                    have hne := pos_ne L i k y x hiL HKL.out hy HX.out (by omega) (by omega) (by omega)
                    have hpos := pos_lt L i y hiL hy (by omega) (by omega)
                    refine far_cell' ((World.cell?_setCell_other (a := ⟨wr_0.heap.size, p, none⟩) (b := ⟨wr_0.heap.size, (pos L i).toNat, none⟩) _ _ (by intro e2; injection e2 with _ e3; have := HPP.out; omega)).trans (hrest.out.2.2.2 i (by omega) h0)) (by show w1.heap.size ≠ wr_0.heap.size; omega)
              case measure => simp [intOf]; omega
        · have e : k = n := by omega
          subst e
          go_wp2
          go_ret
          exact ⟨wr_0.heap.size, rfl, by omega, hzz, fun i hi h0 => hrest.out.2.2.2 i (by have := Hn.out; omega) h0, hrest.out.1⟩

end Go.Proofs.YtkaibpibnkmmbaaDoor
