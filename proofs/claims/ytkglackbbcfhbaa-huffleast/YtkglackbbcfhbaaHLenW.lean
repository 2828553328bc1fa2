/-
  Lengths where two symbols or more come.
-/
import Derived.Test.YtkglackbbcfhbaaHLenM
namespace Go.Proofs.Ytkglackbbcfhbaa
open Go.RowKit Go.Shelf
set_option maxRecDepth 100000

attribute [local go_sem] Oper.semAt_some

theorem tell_le (W : List Int) (k : Nat) : (told W k).length ≤ 2 * W.length := by
  have := prs_length W k
  rw [told_length]
  omega

theorem wt_getD (O D : List Int) (k j : Nat) (hj : j < k) (hk : k = D.length) : (D.map (key O)).getD j 0 = if j < k then key O (D.getD j 0) else 0 := by
  have : j < D.length := by omega
  simp [List.getD, hj, this]

set_option maxHeartbeats 4000000 in
theorem len_many (v : Value) (O : List Int) (m : Nat) (w : World) (h : Ri w v O) (hl : O.length ≤ 9223372036854775807) (hS : ∀ n, n = (posTo O O.length).length → SortOk n) (hm : mayB O (m : Int) = true) (hf : 2 ≤ (posTo O O.length).length) :
    Calls Try.prog 7 #[v, .int .i64 (m : Int)] w (LenP O (m : Int) w) := by
  have HR := hidden (rare_any v O m w h hl hS)
  have HV := hidden h
  have HM := hidden hm
  have hmm := (mayB_iff O m).1 hm
  have h320 : O.length ≤ 320 := hmm.1
  have hm1 : 1 ≤ m := by omega
  have hm15 : m ≤ 15 := by omega
  have HO := hidden ((oftB_iff O).1 hmm.2.2.2.1)
  have HP := hidden (show (posTo O O.length).length ≤ 2 ^ m by have := hmm.2.2.2.2; simpa using this)
  obtain ⟨ao, cap, rfl, hcap, v1, v2⟩ := h
  have HV1 := hidden v1
  have HV2 := hidden v2
  clear hm hS hmm v1 v2
  obtain ⟨n, hn⟩ : ∃ n, n = O.length := ⟨_, rfl⟩
  have Hn := hidden hn
  rw [← hn] at hl hcap HR HV h320 ⊢
  clear hn
  refine (callsIn_wide (n := 8)).1 ?_
  refine callsIn_of_wp_marks Try.func7 rfl trivial ?_ rfl
  simp only [Try.ntmps7, List.size_toArray, List.length_cons, List.length_nil, Nat.reduceAdd, Nat.reduceSub, Array.replicate_succ, Array.replicate_zero, List.push_toArray, List.append_toArray, List.nil_append, List.cons_append]
  refine wpIn_wide.2 ?_
  go_wp2_with (go_at_call 17; refine HR.out.mono ?_)
  rintro e w1 (⟨h1, _⟩ | ⟨_, u, D, rfl, d1, d2, d3, d4, d5⟩)
  · rw [HM.out] at h1; cases h1
  · have hDl : 2 ≤ D.length := by rw [d1.length_eq]; exact hf
    have hDm : D.length ≤ 2 ^ m := by rw [d1.length_eq]; exact HP.out
    have hDn : D.length ≤ n := by rw [d1.length_eq]; have := posTo_length O O.length; have := Hn.out; omega
    have HD := hidden (And.intro d1 (And.intro d2 d4))
    have HIN := hidden (show InO O D from (posTo_in O O.length (Nat.le_refl _)).perm d1)
    obtain ⟨uo, uc, hu, huc, hu1, hu2⟩ := d3
    cases uo with
    | none => have := (hu1 rfl).1; subst this; simp at hDl
    | some p =>
      obtain ⟨bu, ou, rfl, hcu⟩ := hu2 p rfl (by intro e; subst e; simp at hDl)
      have hbu0 : w.heap.size ≤ bu := d4 _ _ _ hu
      have hbu1 : bu < w1.heap.size := World.block_lt_of_cell? w1 _ (hcu 0 (by omega))
      have HCU := hidden hcu
      rw [hu]
      have HS1 := hidden d5
      clear hf d1 d2 d4 hu hu1 hu2 hcu
      obtain ⟨ul, hul⟩ : ∃ ul, ul = D.length := ⟨_, rfl⟩
      have HUL := hidden hul
      rw [← hul] at hDl hDm hDn huc HCU ⊢
      clear hul
      go_wp2_with (refine makeInts n _ rfl rfl rfl (by omega) ?_)
      intro w2 hs2 hz2 ha2
      have c6 := hs2.cell (box_cell w1 (.slice (some ⟨bu, ou, none⟩) ul uc) 22) (fun h => h)
      simp only [World.size_alloc] at hz2 ha2
      have hz1 := d5.size
      have HS2 := hidden (show Step (fun _ => False) w w2 from (d5.alloc _).made hs2)
      have HS12 := hidden (show Step (fun _ => False) w1 w2 from ((Step.refl _ w1).alloc _).made hs2)
      have HA2 := hidden ha2
      clear hs2 ha2 d5
      have hul2 : (2 : Int) ≤ (ul : Int) := by omega
      have hz3 : w1.heap.size < w2.heap.size := by omega
      go_wp2_with (refine makeInts ul _ rfl rfl rfl (by omega) ?_)
      intro w3 hs3 hz4 ha3
      have c8 := hs3.cell (box_cell w2 (.slice (some ⟨w1.heap.size + 1, 0, none⟩) n n) 22) (fun h => h)
      have d6 := hs3.cell ((World.cell?_alloc_past (w := w2) (.cells #[.slice (some ⟨w1.heap.size + 1, 0, none⟩) n n] 22) w1.heap.size 0 hz3).trans c6) (fun h => h)
      simp only [World.size_alloc] at hz4 ha3
      have HS3 := hidden (show Step (fun _ => False) w w3 from (HS2.out.alloc _).made hs3)
      have HS13 := hidden (show Step (fun _ => False) w1 w3 from (HS12.out.alloc _).made hs3)
      have HA3 := hidden (And.intro ((HA2.out.made ((Step.refl _ w2).alloc _)).made hs3) ha3)
      clear hs3 ha3 c6 HA2 HS2 HS12
      go_wp2
      go_loopw [12, 13, 50] (fun _ _ i wr => ∃ k : Nat, k ≤ ul ∧ i = .int .i64 k ∧ wr.cell? ⟨w1.heap.size, 0, none⟩ = some (.slice (some ⟨bu, ou, none⟩) ul uc) ∧ wr.cell? ⟨w2.heap.size, 0, none⟩ = some (.slice (some ⟨w1.heap.size + 1, 0, none⟩) n n) ∧ w3.heap.size ≤ wr.heap.size ∧
        Hid (Step (fun _ => False) w wr ∧ Step (fun _ => False) w1 wr ∧ Af wr (w1.heap.size + 1) n (fun _ => 0) ∧ Af wr (w2.heap.size + 1) ul (fun j => if j < k then key O (D.getD j 0) else 0))) (fun _ _ i _ => ul - (intOf i).toNat)
      case atStart => exact ⟨0, Nat.zero_le _, rfl, d6, c8, Nat.le_refl _, HS3.out, HS13.out, HA3.out.1, HA3.out.2.congr (fun j _ => by simp)⟩
      case round =>
        obtain ⟨k, hk, rfl, e6, e8, hzr, hrest⟩ := hrel
        obtain ⟨q1, q2, q3, q4⟩ := hrest.out
        have HQ := hidden (And.intro q1 (And.intro q2 (And.intro q3 q4)))
        clear hrest c8 d6
        by_cases hlt : k < ul
        · have hkD : k < D.length := by have := HUL.out; omega
          obtain ⟨x, hx, hxO⟩ := HIN.out.at hkD
          have cu := q2.cell (HCU.out k (by have := HUL.out; omega)) (fun h => h)
          rw [hx] at cu
          have hxn : x < n := by have := Hn.out; omega
          cases ao with
          | none => have := (HV1.out rfl).1; subst this; simp at hxO
          | some av =>
            obtain ⟨ba, oa, rfl, ka⟩ := HV2.out av rfl (by intro e; subst e; simp at hxO)
            have ca := q1.cell (ka x hxO) (fun h => h)
            have HK := hidden (show key O (D.getD k 0) = O.getD x 0 by rw [hx]; simp [key])
            obtain ⟨f1, f2⟩ := q4 k hlt
            have k1 : (k : Int) < (ul : Int) := by omega
            have k2 : (x : Int) < (n : Int) := by omega
            generalize O.getD x 0 = kv at *
            clear ka hx q1 q2 q3 q4
            go_wp2
            go_roundw
            case rel =>
              refine ⟨k + 1, by omega, by go_num, ?_, ?_, ?_, (HQ.out.1.setCell _ _ (.inr ?_)), (HQ.out.2.1.setCell _ _ (.inr ?_)), HQ.out.2.2.1.far _ _ ?_, ?_⟩
              · rw [World.cell?_setCell_other (a := ⟨w2.heap.size + 1, k, none⟩) (b := ⟨w1.heap.size, 0, none⟩) _ _ (by intro e; injection e with e1; omega)]; exact e6
              · rw [World.cell?_setCell_other (a := ⟨w2.heap.size + 1, k, none⟩) (b := ⟨w2.heap.size, 0, none⟩) _ _ (by intro e; injection e with e1; omega)]; exact e8
              · simp [World.setCell]; omega
              · show w.heap.size ≤ w2.heap.size + 1
                omega
              · show w1.heap.size ≤ w2.heap.size + 1
                omega
              · show w2.heap.size + 1 ≠ w1.heap.size + 1
                omega
              · refine Af.congr (HQ.out.2.2.2.set k _) (fun j _ => ?_)
                unfold upd
                by_cases e : j = k
                · subst e; rw [if_pos rfl, if_pos (Nat.lt_succ_self _), HK.out]
                · by_cases e2 : j < k
                  · simp [e, e2, show j < k + 1 by omega]
                  · simp [e, e2, show ¬ j < k + 1 by omega]
            case measure => simp [intOf]; omega
        · have e : k = ul := by omega
          subst e
          obtain ⟨Wt, hWt⟩ : ∃ Wt, Wt = D.map (key O) := ⟨_, rfl⟩
          have hWl : Wt.length = k := by rw [hWt, List.length_map, HUL.out]
          have HW := hidden (show Ri wr (.slice (some ⟨w2.heap.size + 1, 0, none⟩) k k) Wt from q4.ri hWl (Nat.le_refl _) (fun j hj => by rw [hWt]; exact wt_getD O D k j hj HUL.out))
          have HWB := hidden (show ∀ x ∈ Wt, 0 ≤ x ∧ x ≤ 1048576 by
            intro x hx
            rw [hWt] at hx
            obtain ⟨y, hy, rfl⟩ := List.mem_map.1 hx
            have := HIN.out y hy
            refine HO.out _ ?_
            unfold key
            rw [getD_i O _ this.2]
            exact List.getElem_mem _)
          have HWT := hidden (And.intro hWt hWl)
          clear hWt hWl q1 q2 q3 q4 HA3 HS3 HS13
          have hzw : w3.heap.size ≤ wr.heap.size := hzr
          have HRW := hidden (fun (W : World) (hs : Step (fun _ => False) wr W) => rows_any _ Wt m W (HW.out.made hs) (by have := HWT.out.2; omega) hm15 HWB.out)
          go_wp2_with (go_at_call 19; refine (HRW.out _ ((Step.refl _ _).alloc _)).mono ?_; rintro e w5 ⟨T, rfl, t1, t2, t3, t4⟩; have HT := hidden (And.intro t3 t4); clear t3 t4)
          go_wp2_with (go_at_call 18; refine (backward_any _ _ _ _).mono ?_; rintro e w6 ⟨rfl, rfl⟩)
          simp only [World.size_alloc] at t1
          obtain ⟨g, hg⟩ : ∃ g : Nat → Value, g = fun j => (w5.cell? ⟨T, j, none⟩).getD undef := ⟨_, rfl⟩
          obtain ⟨x, hx⟩ : ∃ x : At, x = ⟨m, n, k, uc, w1.heap.size, bu, ou, w1.heap.size + 1, w2.heap.size, wr.heap.size, w5.heap.size, T, g⟩ := ⟨_, rfl⟩
          have hok : x.Ok := by rw [hx]; exact ⟨hbu1, by show w1.heap.size < w1.heap.size + 1; omega, by show w1.heap.size + 1 < w2.heap.size; omega, by show w2.heap.size < wr.heap.size; omega, by show wr.heap.size < T; omega, by show wr.heap.size < w5.heap.size; omega⟩
          have hxl : w.heap.size ≤ x.bl := by rw [hx]; show w.heap.size ≤ w1.heap.size + 1; omega
          have HL0 := hidden (show LI x D Wt w 0 (w5.alloc (.cells #[.slice (some ⟨T, 0, none⟩) m m] 45)) by
            have sA : Step (fun _ => False) wr w5 := ((Step.refl _ wr).alloc _).made HT.out.2
            have sB : Step (fun _ => False) wr (w5.alloc (.cells #[.slice (some ⟨T, 0, none⟩) m m] 45)) := sA.alloc _
            have sC := (Step.refl (fun _ => False) w5).alloc (.cells #[.slice (some ⟨T, 0, none⟩) m m] 45)
            have ctk := sC.cell (HT.out.2.cell (box_cell wr (.int .i64 (2 * (k : Int) - 2)) 3) (fun h => h)) (fun h => h)
            have ftk : (w5.alloc (.cells #[.slice (some ⟨T, 0, none⟩) m m] 45)).frozen? ⟨wr.heap.size, 0, none⟩ = false := by
              rw [(((Step.refl (fun _ => False) _).made HT.out.2).alloc _).frozen (p := ⟨wr.heap.size, 0, none⟩) (by simp) (fun h => h)]
              exact World.frozen?_alloc_at _ _ _ _ rfl
            rw [hx]
            refine ⟨sB.cell e6 (fun h => h), fun s hs => (sB.cell (HQ.out.2.1.cell (HCU.out s hs) (fun h => h)) (fun h => h)), sB.cell e8 (fun h => h), HQ.out.2.2.1.made sB, ?_, ftk, box_cell _ _ _, fun j hj => ?_, HQ.out.1.made sB⟩
            · rw [ctk]
              have : (((tk Wt m 0 : Nat)) : Int) = 2 * (k : Int) - 2 := by
                show ((2 * Wt.length - 2 : Nat) : Int) = _
                have := HWT.out.2
                omega
              rw [this]
            · obtain ⟨u, h1, h2, h3⟩ := HT.out.1 j hj
              have eg : g j = u := by rw [hg]; simp [h1]
              obtain ⟨b, eb, hb⟩ := h2
              refine ⟨?_, b, ?_, ?_, fun i hi => sC.cell (hb i hi) (fun h => h)⟩
              · show _ = some (g j)
                rw [eg]; exact sC.cell h1 (fun h => h)
              · have := h3 _ _ _ eb
                simp at this
                show wr.heap.size < b
                omega
              · show g j = _
                rw [eg]; exact eb)
          have HX := hidden hx
          have HBT := hidden (show x.bt = wr.heap.size by rw [hx])
          clear hg hx
          refine wpIn_wide.1 (range_rounds (n := 8) rfl (by omega) (gf := 32) (lb := #[.pointer (some ⟨w5.heap.size, 0, none⟩)]) rfl trivial (enters_of Try.func32 (by kernel_rfl) rfl)
            (LI x D Wt w) m (fun r => #[.int .i64 ((m : Int) - 1 - (r : Int)), g (m - 1 - r)]) (fun _ => rfl)
            (LI.abides x D Wt w _ (by simp; omega)) HL0.out ?iter ?round ?done)
          case iter =>
            intro l K hKJ hY W h0
            refine back_in Fence.wide 7 trivial rfl (by omega) l w5.heap.size T m (by omega) g K (fun r W h => ?_) hY W h0
            have hq := hKJ r W h
            rw [HX.out] at hq
            exact ⟨hq.cB, fun j hj => (hq.ro j hj).1⟩
          case round =>
            intro l r W0 hr hJ0
            refine ⟨?act, fun W K hK => ?asg, fun W hJ => ?bod⟩
            case asg =>
              gi_wp2
              exact hK
            case bod =>
              have ht := tk_le Wt m (by rw [HWT.out.2]; exact hDm) r hr
              have HJ := hidden hJ
              obtain ⟨_, bj, hbj, egj, hcj⟩ := hJ.ro (m - 1 - r) (by rw [HX.out]; show m - 1 - r < m; omega)
              have ct : W.cell? ⟨wr.heap.size, 0, none⟩ = some (.int .i64 ((tk Wt m r : Nat) : Int)) := by have := hJ.ct; rw [HX.out] at this; exact this
              have egj' : g (m - 1 - r) = .slice (some ⟨bj, 0, none⟩) (told Wt (m - 1 - r)).length (told Wt (m - 1 - r)).length := by rw [HX.out] at egj; exact egj
              have HLE := hidden (tell_le Wt (m - 1 - r))
              rw [egj']
              generalize hlen : (told Wt (m - 1 - r)).length = len at *
              generalize htt : tk Wt m r = t at *
              have HLEN := hidden hlen
              have HTT := hidden htt
              have HEG := hidden egj'
              have hlen2 : len ≤ 700 := by have := HLE.out; have := HWT.out.2; omega
              clear hcj egj egj' hJ hJ0 hlen htt
              gi_wp2
              gi_loopw [17, 19, 77] (fun s _ p W2 => ∃ q : Nat, q ≤ t ∧ p = .int .i64 (q : Int) ∧ s = .int .i64 ((sing Wt (m - 1 - r) q : Nat) : Int) ∧ Hid (LB x D Wt w (fun i => lf D Wt m r i + (((D.take (sing Wt (m - 1 - r) q)).count (i : Int) : Nat) : Int)) t W2 ∧ KeepsOthers W W2)) (fun _ _ p _ => t - (intOf p).toNat)
              case atStart =>
                refine ⟨0, Nat.zero_le _, rfl, rfl, LB.congr HJ.out (fun i _ => ?_) (by rw [HX.out]; exact HTT.out), KeepsOthers.refl _⟩
                rw [sing_zero, HX.out]
                simp
              case round =>
                obtain ⟨q, hq, rfl, rfl, hrest⟩ := hrel
                by_cases hqt : q < t
                · have hqt' : (q : Int) < (t : Int) := by omega
                  obtain ⟨r1, b1, hb1, eg1, hc1⟩ := hrest.out.1.ro (m - 1 - r) (by rw [HX.out]; show m - 1 - r < m; omega)
                  have hbb : b1 = bj := by
                    rw [HX.out] at eg1
                    have h1 : g (m - 1 - r) = _ := eg1
                    rw [HEG.out] at h1
                    injection h1 with h2
                    have h3 := Option.some.inj h2
                    injection h3 with h4
                    exact h4.symm
                  subst hbb
                  have ctd := hc1 q (by rw [HLEN.out]; omega)
                  have d8 : wr.cell? ⟨w2.heap.size, 0, none⟩ = some (.slice (some ⟨w1.heap.size + 1, 0, none⟩) n n) := by have := hrest.out.1.c8; rw [HX.out] at this; exact this
                  have d6 : wr.cell? ⟨w1.heap.size, 0, none⟩ = some (.slice (some ⟨bu, ou, none⟩) k uc) := by have := hrest.out.1.c6; rw [HX.out] at this; exact this
                  clear r1 eg1 hc1
                  cases htd : (told Wt (m - 1 - r)).getD q false with
                  | true =>
                    rw [htd] at ctd
                    have hsy := sing_yes Wt (m - 1 - r) q (by rw [HLEN.out]; omega) htd
                    have HSY := hidden hsy.1
                    have hck : sing Wt (m - 1 - r) q < k := by have := hsy.2; have := HWT.out.2; omega
                    have hkD : sing Wt (m - 1 - r) q < D.length := by have := HUL.out; omega
                    obtain ⟨y, hy, hyO⟩ := HIN.out.at hkD
                    have cu : wr.cell? ⟨bu, ou + sing Wt (m - 1 - r) q, none⟩ = some (.int .i64 (y : Int)) := by
                      have := hrest.out.1.cu (sing Wt (m - 1 - r) q) (by rw [HX.out]; exact hck)
                      rw [HX.out] at this
                      rw [← hy]; exact this
                    have hyn : y < n := by have := Hn.out; omega
                    have hal := hrest.out.1.al y (by rw [HX.out]; exact hyn)
                    have al1 : wr.cell? ⟨w1.heap.size + 1, y, none⟩ = some (.int .i64 (lf D Wt m r y + (((D.take (sing Wt (m - 1 - r) q)).count (y : Int) : Nat) : Int))) := by have := hal.1; rw [HX.out] at this; exact this
                    have al2 : wr.frozen? ⟨w1.heap.size + 1, y, none⟩ = false := by have := hal.2; rw [HX.out] at this; exact this
                    have lb := lf_bd D Wt m y (by have := HUL.out; omega) r
                    have lb2 := List.count_le_length (a := (y : Int)) (l := D.take (sing Wt (m - 1 - r) q))
                    have lb3 : (D.take (sing Wt (m - 1 - r) q)).length ≤ 320 := by simp; omega
                    have HTS := hidden (fun i => take_count_snoc D (sing Wt (m - 1 - r) q) hkD i)
                    have HY := hidden hy
                    clear hsy hy htd hal
                    generalize hc : sing Wt (m - 1 - r) q = c at *
                    have HC := hidden hc
                    generalize hfv : lf D Wt m r y + (((D.take c).count (y : Int) : Nat) : Int) = fv at *
                    have HFV := hidden hfv
                    have fv0 : 0 ≤ fv := by omega
                    have fv1 : fv ≤ 100000 := by omega
                    have hc320 : c ≤ 320 := by omega
                    have hck' : (c : Int) < (k : Int) := by omega
                    have hyn' : (y : Int) < (n : Int) := by omega
                    have HFIN := hidden (show LB x D Wt w (fun i => lf D Wt m r i + (((D.take (sing Wt (m - 1 - r) (q + 1))).count (i : Int) : Nat) : Int)) t (wr.setCell ⟨w1.heap.size + 1, y, none⟩ (.int .i64 (fv + 1))).drew ∧ KeepsOthers W (wr.setCell ⟨w1.heap.size + 1, y, none⟩ (.int .i64 (fv + 1))).drew by
                      have h1 := hrest.out.1.set hok hxl y (fv + 1)
                      have e1 : x.bl = w1.heap.size + 1 := by rw [HX.out]
                      rw [e1] at h1
                      refine ⟨(h1.congr (fun i _ => ?_) rfl).drew, (hrest.out.2.trans (KeepsOthers.setCell wr ⟨w1.heap.size + 1, y, none⟩ _)).trans (KeepsOthers.drew _)⟩
                      unfold upd
                      rw [HSY.out, HTS.out, HY.out]
                      by_cases e : i = y
                      · subst e; rw [if_pos rfl, if_pos rfl]; rw [← HFV.out, Int.natCast_add, Int.add_assoc]; rfl
                      · rw [if_neg e, if_neg (by omega), Nat.add_zero])
                    clear lb lb2 lb3 hc hfv
                    gi_wp2
                    gi_region
                    all_goals gi_wp2
                    all_goals exact ⟨⟨q + 1, by omega, by go_num, by rw [HSY.out]; rfl, HFIN.out⟩, by simp [intOf]; omega⟩
                  | false =>
                    rw [htd] at ctd
                    have HSN := hidden (sing_no Wt (m - 1 - r) q (by rw [HLEN.out]; omega) htd)
                    clear htd
                    gi_wp2
                    go_roundw
                    case rel => exact ⟨q + 1, by omega, by go_num, by rw [HSN.out], by rw [HSN.out]; exact hrest.out⟩
                    case measure => simp [intOf]; omega
                · have e : q = t := by omega
                  subst e
                  have d14 : wr.cell? ⟨x.bt, 0, none⟩ = some (.int .i64 (q : Int)) := hrest.out.1.ct
                  have f14 := hrest.out.1.ft
                  have e1 : Hid (x.bt = _) := HBT
                  have hsl := sing_le_t Wt (m - 1 - r) q
                  have HFIN := hidden (show LI x D Wt w (r + 1) (wr.setCell ⟨x.bt, 0, none⟩ (.int .i64 ((2 * (q - sing Wt (m - 1 - r) q) : Nat) : Int))) ∧ KeepsOthers W (wr.setCell ⟨x.bt, 0, none⟩ (.int .i64 ((2 * (q - sing Wt (m - 1 - r) q) : Nat) : Int))) by
                    refine ⟨(hrest.out.1.put hok hxl (2 * (q - sing Wt (m - 1 - r) q))).congr (fun i _ => ?_) ?_, hrest.out.2.trans (KeepsOthers.setCell wr _ _)⟩
                    · rw [HX.out]
                      show _ = lf D Wt m r i + _
                      rw [HTT.out]
                    · rw [HX.out]
                      show _ = 2 * (tk Wt m r - sing Wt (m - 1 - r) (tk Wt m r))
                      rw [HTT.out])
                  rw [HBT.out] at d14 f14 HFIN
                  generalize sing Wt (m - 1 - r) q = c at *
                  have ec : Hid (2 * ((q : Int) - (c : Int)) = ((2 * (q - c) : Nat) : Int)) := by unfold Hid; omega
                  rw [← ec.out] at HFIN
                  gi_wp2
                  exact ⟨HFIN.out.2, HFIN.out.1⟩
          case done =>
            intro Dd W hDd hJ hK
            have c8 : W.cell? ⟨w2.heap.size, 0, none⟩ = some (.slice (some ⟨w1.heap.size + 1, 0, none⟩) n n) := by have := hJ.c8; rw [HX.out] at this; exact this
            have HJ := hidden hJ
            have HDD := hidden hK
            clear hJ hK
            go_wp2
            refine ⟨by simp, .inl ⟨_, _, rfl, run_takeDeferred HDD.out, ?_⟩⟩
            refine ⟨_, results_tmp2 rfl _ _ _, ?_⟩
            have hJ2 := (LI.abides x D Wt w w.heap.size (Nat.le_refl _)).put m W Dd _ (.deferred none) HJ.out (by simp at hDd; omega) HDD.out rfl
            rw [HX.out] at hJ2
            refine .inr ⟨HM.out, .slice (some ⟨w1.heap.size + 1, 0, none⟩) n n, D, rfl, HD.out.1, HD.out.2.1, ?_, ?_, hJ2.st⟩
            · refine Af.ri hJ2.al (by rw [lensOf_length, Hn.out]) (Nat.le_refl _) (fun j hj => ?_)
              rw [lensOf_getD O D _ j (by have := Hn.out; omega), if_neg (by have := HUL.out; omega), ← HWT.out.1, Int.toNat_natCast]
            · intro a n c h
              injection h with h1
              have := Option.some.inj h1
              subst this
              show w.heap.size ≤ w1.heap.size + 1
              omega

end Go.Proofs.Ytkglackbbcfhbaa
