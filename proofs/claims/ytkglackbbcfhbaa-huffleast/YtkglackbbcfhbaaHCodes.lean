/-
  Codes: codes by their lengths.
-/
import Derived.Test.YtkglackbbcfhbaaHCodeP
import Derived.Test.YtkglackbbcfhbaaHStarts
namespace Go.Proofs.Ytkglackbbcfhbaa
open Go.RowKit
set_option maxRecDepth 100000

set_option maxHeartbeats 1000000 in
theorem codes_any (v : Value) (L : List Int) (w : World) (h : Ri w v L) (hl : L.length ≤ 9223372036854775807) :
    Calls Try.prog 15 #[v] w (CodesP L w) := by
  have HC := hidden (count_any v L w h hl)
  have HR := hidden h
  obtain ⟨ao, cap, rfl, hcap, h1, h2⟩ := h
  obtain ⟨n, hn⟩ : ∃ n, n = L.length := ⟨_, rfl⟩
  have Hn := hidden hn
  rw [← hn] at hl hcap HC HR ⊢
  clear h1 h2 hn
  cases hok : okB L with
  | false =>
    have E := hidden hok
    clear hok
    go_enter Try.func15, Try.ntmps15
    go_wp2_with (go_at_call 22; refine HC.out.mono ?_)
    rintro e w1 ⟨i, rfl, _, hs1⟩
    rw [E.out]
    go_wp2_with (refine alloc16 ?_)
    intro w2 hs2 hz2 ha2
    go_wp2_with (refine store16 _ _ _ rfl rfl ha2 ?_)
    intro w3 hs3 ha3
    have HS := hidden ((hs1.made hs2).trans hs3 (fun i hi => .inr (by have := hs1.size; omega)))
    clear hs1 hs2 hs3 ha2 ha3
    go_wp2
    go_ret2
    exact ⟨.slice none 0 0, by rw [show codeErr L = 1 by simp [codeErr, E.out]]; rfl, by rw [show codesR L = [] by simp [codesR, E.out]]; exact ri_nil _, (fun a n c h => by cases h), HS.out⟩
  | true =>
    have E := hidden hok
    have hL := (okB_iff L).1 hok
    have HL := hidden hL
    have h320 : n ≤ 320 := by rw [Hn.out]; exact hL.1
    clear hok hL
    have hb := fun k => cf_get L k HL.out.1
    have HB := hidden hb
    clear hb
    by_cases hfull : fl (cf L) 16 ≤ 32768
    · have X1 := hidden (show codeErr L = 0 by simp [codeErr, E.out, hfull])
      have X2 := hidden (show codesR L = codes L by simp [codesR, E.out, hfull])
      have hf2 : ¬ 32768 < fl (cf L) 16 := by omega
      clear hfull
      go_enter Try.func15, Try.ntmps15
      go_wp2_with (go_at_call 22; refine HC.out.mono ?_)
      rintro e w1 ⟨i, rfl, hi, hs1⟩
      rw [hi E.out, E.out]
      clear hi
      go_wp2_with (refine alloc16 ?_)
      intro w2 hs2 hz2 ha2
      go_wp2_with (refine store16 _ _ _ rfl rfl ha2 ?_)
      intro w3 hs3 ha3
      have HS := hidden ((hs1.made hs2).trans hs3 (fun i hi => .inr (by have := hs1.size; omega)))
      have HA := hidden ha3
      clear hs1 hs2 hs3 ha2 ha3
      go_wp2_with (first | (refine load16 _ (cf L) rfl HA.out ?_) | (go_at_call 23; refine (fill_any (cf L) _ (fun k => (HB.out k).1) (fun k => (HB.out k).2)).mono ?_))
      rintro e w4 ⟨rfl, hs4⟩
      have HS4 := hidden (HS.out.made hs4)
      have HA4 := hidden (HA.out.made hs4)
      clear hs4
      generalize fl (cf L) 16 = F at *
      go_wp2_with (first | (refine load16 _ (cf L) rfl HA4.out ?_) | (go_at_call 26; refine (starts_any (cf L) _ (fun k => (HB.out k).1) (fun k => (HB.out k).2)).mono ?_))
      rintro e w5 ⟨rfl, hs5⟩
      have HS5 := hidden (HS4.out.made hs5)
      clear hs5
      go_wp2_with (refine alloc16 ?_)
      intro w6 hs6 hz6 ha6
      go_wp2_with (refine store16 _ _ _ rfl rfl ha6 ?_)
      intro w7 hs7 ha7
      have HS7 := hidden ((HS5.out.made hs6).trans hs7 (fun i hi => .inr (by have := HS5.out.size; omega)))
      have hz7 := hs7.size
      have HA7 := hidden ha7
      clear hs6 hs7 ha6 ha7
      go_wp2_with (refine makeInts n _ rfl rfl rfl (by omega) ?_)
      intro w8 hs8 hz8 ha8
      have HS8 := hidden (HS7.out.made hs8)
      have HA8 := hidden (And.intro (HA7.out.made hs8) ha8)
      have hw0 := HS5.out.size
      clear hs8 ha8 HA7 HS7 HS5 HA4 HS4 HA HS
      go_wp2
      go_loopw [8, 9, 27] (fun _ _ i wr => ∃ k : Nat, k ≤ n ∧ i = .int .i64 k ∧ Hid (Step (fun _ => False) w wr ∧ Af wr w5.heap.size 16 (fun j => stf (cf L) j + cf (L.take k) j) ∧ Af wr w7.heap.size n (fun j => if j < k then codeOf L j else 0))) (fun _ _ i _ => n - (intOf i).toNat)
      case atStart => exact ⟨0, Nat.zero_le _, rfl, HS8.out, HA8.out.1.congr (fun j _ => by simp [cf_nil]), HA8.out.2.congr (fun j _ => by simp)⟩
      case round =>
        obtain ⟨k, hk, rfl, hrest⟩ := hrel
        obtain ⟨hst, hF, hC⟩ := hrest.out
        have HS := hidden hst
        have HF := hidden hF
        have HG := hidden hC
        clear hst hF hC hrest HS8 HA8
        by_cases hlt : k < n
        · have hkL : k < L.length := by have := Hn.out; omega
          have hr := HR.out
          obtain ⟨ao', cap', e', _, r1, r2⟩ := hr
          injection e' with e1 e2 e3
          subst e1
          cases ao with
          | none => have := (r1 rfl).1; subst this; simp at hkL
          | some a =>
            obtain ⟨ba, oa, rfl, ka⟩ := r2 a rfl (by intro e; subst e; simp at hkL)
            have ca := hs_cell HS.out (ka k hkL)
            clear ka r1 r2 e2 e3
            have k1 : (k : Int) < (n : Int) := by omega
            have hin := HL.out.2 (L.getD k 0) (by rw [getD_i L k hkL]; exact List.getElem_mem hkL)
            obtain ⟨x, hx⟩ := Int.eq_ofNat_of_zero_le hin.1
            have hx15 := hin.2
            rw [hx] at ca hx15
            have HX := hidden hx
            clear hx hin
            have HCO := hidden (show codeOf L k = if x = 0 then 0 else stf (cf L) x + cf (L.take k) x by unfold codeOf; rw [HX.out]; by_cases e : x = 0 <;> simp [e])
            have hcell := HG.out k hlt
            obtain ⟨g1, g2⟩ := hcell
            by_cases hz : x = 0
            · subst hz
              have HZ := hidden (fun j => cf_take_zero L k hkL HX.out j)
              clear g1 g2
              go_wp2
              go_roundw
              case rel =>
                refine ⟨k + 1, by omega, by go_num, HS.out, HF.out.congr (fun j _ => by rw [HZ.out]), HG.out.congr (fun j _ => ?_)⟩
                by_cases e : j = k
                · subst e; have := HCO.out; simp at this; simp [this]
                · by_cases e2 : j < k
                  · simp [e2, show j < k + 1 by omega]
                  · simp [e2, show ¬ j < k + 1 by omega]
              case measure => simp [intOf]; omega
            · have hx0 : (0 : Int) < (x : Int) := by omega
              have hx16 : x < 16 := by omega
              have HZ := hidden (fun j => cf_take_snoc L k x hkL HX.out (by omega) j)
              have f1 : wr.cell? ⟨w5.heap.size, x, none⟩ = some (.int .i64 (stf (cf L) x + cf (L.take k) x)) := (HF.out x hx16).1
              have f2 := (HF.out x hx16).2
              have hb := stf_bd' (cf L) (fun k => (HB.out k).1) (fun k => (HB.out k).2) x (by omega)
              have hb2 := cf_bd (L.take k) x
              have hb3 : (L.take k).length ≤ 320 := by simp; omega
              rw [if_neg hz] at HCO
              have HV : Hid (Af wr w7.heap.size n fun j => if j < k then codeOf L j else 0) := HG
              generalize hv : stf (cf L) x + cf (L.take k) x = cv at *
              have hcv0 : 0 ≤ cv := by omega
              have hcv1 : cv ≤ 50000000 := by omega
              have HVV := hidden hv
              clear hv hb hb2
              have hne : w5.heap.size ≠ w7.heap.size := by omega
              go_wp2
              go_roundw
              case rel =>
                refine ⟨k + 1, by omega, by go_num, (HS.out.setCell _ _ (.inr ?_)).setCell _ _ (.inr ?_), ?_, ?_⟩
                · show w.heap.size ≤ w7.heap.size
                  omega
                · show w.heap.size ≤ w5.heap.size
                  omega
                · refine ((HF.out.far ⟨w7.heap.size, k, none⟩ _ (by show w7.heap.size ≠ w5.heap.size; omega)).set x _).congr (fun j _ => ?_)
                  rw [HZ.out]
                  unfold upd
                  by_cases e : j = x
                  · subst e; have := HVV.out; simp; omega
                  · simp [e]
                · refine ((HG.out.set k cv).far ⟨w5.heap.size, x, none⟩ _ (by show w5.heap.size ≠ w7.heap.size; omega)).congr (fun j _ => ?_)
                  unfold upd
                  by_cases e : j = k
                  · subst e; simp [HCO.out]
                  · by_cases e2 : j < k
                    · simp [e, e2, show j < k + 1 by omega]
                    · simp [e, e2, show ¬ j < k + 1 by omega]
              case measure => simp [intOf]; omega
        · have e : k = n := by omega
          subst e
          go_wp2
          go_ret2
          refine ⟨.slice (some ⟨w7.heap.size, 0, none⟩) k k, by rw [X1.out]; rfl, ?_, ?_, HS.out⟩
          · rw [X2.out]
            exact HG.out.ri (by rw [codes_length, Hn.out]) (Nat.le_refl _) (fun j hj => by rw [codes_getD L j (by have := Hn.out; omega)]; simp [hj])
          · intro a n c h
            injection h with h1
            have := Option.some.inj h1
            subst this
            show w.heap.size ≤ w7.heap.size
            omega
    · have X1 := hidden (show codeErr L = 21 by simp [codeErr, E.out, hfull])
      have X2 := hidden (show codesR L = [] by simp [codesR, hfull])
      have hf2 : 32768 < fl (cf L) 16 := by omega
      clear hfull
      go_enter Try.func15, Try.ntmps15
      go_wp2_with (go_at_call 22; refine HC.out.mono ?_)
      rintro e w1 ⟨i, rfl, hi, hs1⟩
      rw [hi E.out, E.out]
      clear hi
      go_wp2_with (refine alloc16 ?_)
      intro w2 hs2 hz2 ha2
      go_wp2_with (refine store16 _ _ _ rfl rfl ha2 ?_)
      intro w3 hs3 ha3
      have HS := hidden ((hs1.made hs2).trans hs3 (fun i hi => .inr (by have := hs1.size; omega)))
      have HA := hidden ha3
      clear hs1 hs2 hs3 ha2 ha3
      go_wp2_with (first | (refine load16 _ (cf L) rfl HA.out ?_) | (go_at_call 23; refine (fill_any (cf L) _ (fun k => (HB.out k).1) (fun k => (HB.out k).2)).mono ?_))
      rintro e w4 ⟨rfl, hs4⟩
      have HS4 := hidden (HS.out.made hs4)
      clear hs4
      generalize fl (cf L) 16 = F at *
      go_wp2
      go_ret2
      exact ⟨.slice none 0 0, by rw [X1.out]; rfl, by rw [X2.out]; exact ri_nil _, (fun a n c h => by cases h), HS4.out⟩

end Go.Proofs.Ytkglackbbcfhbaa
