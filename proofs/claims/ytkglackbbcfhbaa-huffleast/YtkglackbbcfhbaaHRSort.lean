/-
  The page's sorted: those above 0, rising.
-/
import Derived.Test.YtkglackbbcfhbaaHApp
import Derived.Test.YtkglackbbcfhbaaHRareN
import Derived.BigQuiet
import Derived.BigRegion
import Derived.Deep.RegionLaw
namespace Go.Proofs.Ytkglackbbcfhbaa
open Go.RowKit
set_option maxRecDepth 100000
set_option linter.unusedVariables false

/-- E is the first i symbols' counts above 0, rising. -/
structure Ris (O : List Int) (i : Nat) (E : List Int) : Prop where
  up : E.Pairwise (· ≤ ·)
  pm : E.Perm ((posTo O i).map (key O))

theorem Ris.start (O : List Int) : Ris O 0 [] := ⟨List.Pairwise.nil, List.Perm.refl _⟩
theorem Ris.no {O : List Int} {i : Nat} {E : List Int} (h : Ris O i E) (hx : ¬ 0 < O.getD i 0) : Ris O (i + 1) E := ⟨h.up, by rw [posTo_no O i hx]; exact h.pm⟩
theorem Ris.length {O : List Int} {i : Nat} {E : List Int} (h : Ris O i E) : E.length ≤ i := by
  have := h.pm.length_eq
  have := posTo_length O i
  simp at *
  omega
theorem Ris.yes {O : List Int} {i : Nat} {E : List Int} (h : Ris O i E) (hx : 0 < O.getD i 0) (k : Nat) (hk : k ≤ E.length) (h1 : ∀ j, j < k → E.getD j 0 < O.getD i 0) (h2 : k < E.length → ¬ E.getD k 0 < O.getD i 0) : Ris O (i + 1) (E.take k ++ [O.getD i 0] ++ E.drop k) := by
  refine ⟨?_, ?_⟩
  · rw [List.append_assoc, List.pairwise_append]
    refine ⟨h.up.sublist (List.take_sublist _ _), ?_, ?_⟩
    · rw [List.singleton_append, List.pairwise_cons]
      refine ⟨fun y hy => ?_, h.up.sublist (List.drop_sublist _ _)⟩
      obtain ⟨j, hj, rfl⟩ := List.mem_iff_getElem.1 hy
      have hjl : k + j < E.length := by simp at hj; omega
      have h3 := h2 (by omega)
      rw [getD_i E k (by omega)] at h3
      rw [List.getElem_drop]
      rcases Nat.eq_zero_or_pos j with e | e
      · subst e; simp only [Nat.add_zero]; omega
      · have := List.pairwise_iff_getElem.1 h.up k (k + j) (by omega) hjl (by omega)
        omega
    · intro a ha b hb
      obtain ⟨j, hj, rfl⟩ := List.mem_iff_getElem.1 ha
      have hjk : j < k := by simp at hj; omega
      have h3 := h1 j hjk
      rw [getD_i E j (by omega)] at h3
      rw [List.getElem_take]
      rcases List.mem_append.1 hb with hb | hb
      · have hb' : b = O.getD i 0 := List.mem_singleton.1 hb
        omega
      · obtain ⟨j2, hj2, rfl⟩ := List.mem_iff_getElem.1 hb
        rw [List.getElem_drop]
        exact List.pairwise_iff_getElem.1 h.up j (k + j2) (by omega) (by simp at hj2; omega) (by omega)
  · have e : (posTo O (i + 1)).map (key O) = (posTo O i).map (key O) ++ [O.getD i 0] := by
      rw [posTo_yes O i hx, List.map_append]
      simp [key]
    rw [e, List.append_assoc]
    refine List.Perm.trans ?_ (List.Perm.append_right _ h.pm)
    rw [List.singleton_append]
    refine List.Perm.trans (List.perm_middle) ?_
    rw [List.take_append_drop]
    exact (List.perm_append_singleton _ _).symm

set_option maxHeartbeats 4000000 in
theorem refSorted_any (v : Value) (O : List Int) (w : World) (h : Ri w v O) (hl : O.length ≤ 10000) :
    Calls Try.prog 20 #[v] w fun e w' => ∃ u E, e = .returned u ∧ Ris O O.length E ∧ Ri w' u E ∧ Step (fun _ => False) w w' := by
  obtain ⟨ao, ca, rfl, _, a1, a2⟩ := h
  have A1 := hidden a1
  have A2 := hidden a2
  obtain ⟨n, hn⟩ : ∃ n, n = O.length := ⟨_, rfl⟩
  have Hn := hidden hn
  rw [← hn] at hl ⊢
  clear hn a1 a2
  go_enter Try.func20, Try.ntmps20
  go_wp2
  go_loopw [3, 4, 5, 6] (fun u iv _ _ wr => ∃ i : Nat, i ≤ n ∧ iv = .int .i64 (i : Int) ∧ ∃ uo un uc E, u = .slice uo un uc ∧ Hid (wr.ownsRow 0 3 1 (.slice uo un uc) un (i64s E) ∧ un = E.length ∧ (∀ j, (Value.slice uo un uc).ownBlock = some j → w.heap.size ≤ j) ∧ Step (fun _ => False) w wr ∧ Ris O i E)) (fun _ iv _ _ _ => n - (intOf iv).toNat)
  case atStart => exact ⟨0, Nat.zero_le _, rfl, none, 0, 0, [], rfl, World.ownsRow_nil _ _ _ _, rfl, (fun j h => by simp [Value.ownBlock] at h), Step.refl _ _, Ris.start O⟩
  case round =>
    obtain ⟨i, hin, rfl, uo, un, uc, E, rfl, hrest⟩ := hrel
    obtain ⟨q1, q2, q3, q4, q5⟩ := hrest.out
    have HQ1 := hidden q1
    have HQ3 := hidden q3
    have HQ4 := hidden q4
    have HQ5 := hidden q5
    have HUN := hidden q2
    have hun : un ≤ 10000 := by have := q5.length; omega
    have RE := hidden (Ri.of_own q1)
    clear hrest q1 q2 q3 q4 q5
    by_cases hi' : i < n
    · have hiO : i < O.length := by have := Hn.out; omega
      have i1 : (i : Int) < (n : Int) := by omega
      cases ao with
      | none => have := (A1.out rfl).1; subst this; simp at hiO
      | some a =>
        obtain ⟨ba, oa, rfl, ka⟩ := A2.out a rfl (by intro e; subst e; simp at hiO)
        have cO := HQ4.out.cell (ka i hiO) (fun h => h)
        have hba : ba < wr.heap.size := World.block_lt_of_cell? wr _ cO
        have cOA : ∀ (q : Nat) (o : Obj), ((wr.drewN q).alloc o).cell? ⟨ba, oa + i, none⟩ = some (.int .i64 (O.getD i 0)) := fun q o => (((Step.refl (fun _ => False) wr).drewN q).alloc o).cell cO (fun h => h)
        clear ka
        by_cases hx : 0 < O.getD i 0
        · have HX := hidden hx
          have HY := hidden (fun k h0 h1 h2 => HQ5.out.yes hx k h0 h1 h2)
          generalize O.getD i 0 = x at *
          go_wp2
          go_loopw [5] (fun kv W => ∃ k : Nat, k ≤ un ∧ kv = .int .i64 (k : Int) ∧ (∃ q, W = wr.drewN q) ∧ Hid (∀ j, j < k → E.getD j 0 < x)) (fun kv _ => un - (intOf kv).toNat)
          case atStart => exact ⟨0, Nat.zero_le _, rfl, ⟨0, rfl⟩, fun j hj => by omega⟩
          case round =>
            obtain ⟨k, hk, rfl, ⟨q, rfl⟩, hlow⟩ := hrel
            have hstop : ∀ (hs : un ≤ k ∨ ¬ E.getD k 0 < x), True := fun _ => trivial
            by_cases hku : k < un
            · have k1 : (k : Int) < (un : Int) := by omega
              obtain ⟨g, cap', _, e, _⟩ := (HQ1.out.2).resolve_left (by rintro ⟨_, h⟩; omega)
              injection e with e1 e2 e3
              subst e1; subst e3
              have hkE : k < E.length := by have := HUN.out; omega
              have cE : wr.cell? ⟨g, k, none⟩ = some (.int .i64 (E.getD k 0)) := by
                obtain ⟨_, _, e, _, _, h2⟩ := RE.out
                injection e with e1
                obtain ⟨b, off, e', hc⟩ := h2 ⟨g, 0, none⟩ e1.symm (by intro e; subst e; simp at hkE)
                injection e' with e1 e2
                subst e1; subst e2
                have := hc k hkE
                simpa using this
              by_cases hlt : E.getD k 0 < x
              · have hd : decide (E.getD k 0 < x) = true := decide_eq_true hlt
                have HL := hidden (show ∀ j, j < k + 1 → E.getD j 0 < x by
                  intro j hj
                  by_cases e : j = k
                  · rw [e]; exact hlt
                  · exact hlow.out j (by omega))
                clear hlt
                generalize E.getD k 0 = y at *
                go_wp2
                go_quiet (fail)
                go_wp2
                go_roundw
                case rel => exact ⟨k + 1, by omega, by go_num, ⟨_, rfl⟩, HL.out⟩
                case measure => simp [intOf]; omega
              · have hd : decide (E.getD k 0 < x) = false := decide_eq_false hlt
                have HE := hidden (HY.out k (by omega) hlow.out (fun _ => by omega))
                clear hlt
                have HKL := hidden (show (E.take k).length = k by simp; omega)
                have HTK := hidden (RE.out.take k (by omega))
                have HUC := hidden (show un ≤ uc by obtain ⟨_, _, e, h, _⟩ := RE.out; injection e with e1 e2 e3; omega)
                have hkc : k ≤ uc := by have := HUC.out; omega
                have hne : ¬ uc = k := by have := HUC.out; omega
                have HDR := hidden (RE.out.drop k (by omega))
                generalize E.getD k 0 = y at *
                go_wp2
                go_quiet (fail)
                go_wp2
                go_region_law (first
                  | (refine step_append_ri rfl (.tmp 35) (.tmp 38) rfl _ 0 [] rfl (by first | exact own_empty' _ _ (by simp) | exact (own_empty' _ _ (by simp)).alloc _) _ (E.take k) rfl (by first | exact HTK.out.made (((Step.refl _ wr).drewN _).alloc _) | exact HTK.out.made ((((Step.refl _ wr).drewN _).alloc _).alloc _)) (by rw [HKL.out]; omega) ?_
                     intro v1 w1 hown1 hgrow1 hb1
                     have HA := hidden (show Grew wr v1 (0 + (E.take k).length) ([] ++ E.take k) w1 by first | exact (Grew.empty _ (by simp) ((Step.refl _ wr).drewN _)).more hown1 hgrow1 hb1 | exact ((Grew.empty _ (by simp) ((Step.refl _ wr).drewN _)).alloc _).more hown1 hgrow1 hb1 | exact (Grew.empty _ (by simp) (((Step.refl _ wr).drewN _).alloc _)).more hown1 hgrow1 hb1)
                     have cO1 := HA.out.st.cell cO (fun h => h)
                     have HGR := hidden hgrow1
                     clear hown1 hgrow1 hb1)
                  | (refine step_append_ri rfl (.tmp 39) (.tmp 44) rfl _ _ _ rfl (by first | exact HA.out.own | exact HA.out.own.alloc _) _ [x] rfl (by first | exact ri_one' _ _ _ (by simp) | exact ri_grown (ri_one' _ _ _ (by simp)) HGR.out rfl (by simp) | exact ri_grown ((ri_one' _ _ _ (by simp)).made ((Step.refl _ _).alloc _)) HGR.out rfl (by simp)) (by rw [HKL.out]; simp <;> omega) ?_
                     intro v2 w2 hown2 hgrow2 hb2
                     have HB := hidden (show Grew wr v2 (0 + (E.take k).length + 1) ([] ++ E.take k ++ [x]) w2 by first | exact HA.out.more hown2 hgrow2 hb2 | exact (HA.out.alloc _).more hown2 hgrow2 hb2)
                     clear hown2 hgrow2 hb2))
                all_goals
                  go_wp2_with (at_builtin; refine wpList_append_ri rfl (.tmp 46) (.tmp 49) rfl _ _ _ rfl HB.out.own _ (E.drop k) rfl ?rr ?rl ?_)
                  case rr => exact (by have hh := HDR.out.made HB.out.st; rw [Nat.zero_add] at hh; exact hh)
                  case rl => rw [HKL.out, List.length_drop, ← HUN.out]; simp <;> omega
                  intro v3 w3 hown3 hgrow3 hb3
                  obtain ⟨uo3, uc3, rfl⟩ := own_slice hown3
                  have HC := hidden (HB.out.more hown3 hgrow3 hb3)
                  clear hown3 hgrow3 hb3
                  go_wp2
                  go_roundw
                  case rel => exact ⟨i + 1, by omega, by go_num, _, _, _, _, rfl, HC.out.own, by simp <;> omega, fun j hj => (by have := HC.out.blk j hj; have := HQ4.out.size; omega), HQ4.out.made HC.out.st, by simpa using HE.out⟩
                  case measure => simp [intOf]; omega
            · have hd : decide ((k : Int) < (un : Int)) = false := decide_eq_false (by omega)
              have HE := hidden (HY.out k (by have := HUN.out; omega) hlow.out (fun h => by have := HUN.out; omega))
              have HKL := hidden (show (E.take k).length = k by have := HUN.out; simp; omega)
              have HTK := hidden (RE.out.take k (by omega))
              have HUC := hidden (show un ≤ uc by obtain ⟨_, _, e, h, _⟩ := RE.out; injection e with e1 e2 e3; omega)
              have hkc : k ≤ uc := by have := HUC.out; omega
              have HDE := hidden (show E.drop k = [] by rw [List.drop_of_length_le]; have := HUN.out; omega)
              have hku2 : k = un := by omega
              subst hku2
              cases uo with
              | none =>
                obtain ⟨hk0, hc0⟩ : k = 0 ∧ uc = 0 := by
                  obtain ⟨_, _, e, _, h1, _⟩ := RE.out
                  injection e with e1 e2 e3
                  obtain ⟨h2, h3⟩ := h1 e1.symm
                  rw [h2] at e2
                  simp at e2
                  omega
                subst hk0
                subst hc0
                go_wp2
                go_quiet (fail)
                go_wp2
                go_region_law (first
                  | (refine step_append_ri rfl (.tmp 35) (.tmp 38) rfl _ 0 [] rfl (by first | exact own_empty' _ _ (by simp) | exact (own_empty' _ _ (by simp)).alloc _) _ (E.take 0) rfl (by first | exact HTK.out.made (((Step.refl _ wr).drewN _).alloc _) | exact HTK.out.made ((((Step.refl _ wr).drewN _).alloc _).alloc _)) (by rw [HKL.out]; omega) ?_
                     intro v1 w1 hown1 hgrow1 hb1
                     have HA := hidden (show Grew wr v1 (0 + (E.take 0).length) ([] ++ E.take 0) w1 by first | exact (Grew.empty _ (by simp) ((Step.refl _ wr).drewN _)).more hown1 hgrow1 hb1 | exact ((Grew.empty _ (by simp) ((Step.refl _ wr).drewN _)).alloc _).more hown1 hgrow1 hb1 | exact (Grew.empty _ (by simp) (((Step.refl _ wr).drewN _).alloc _)).more hown1 hgrow1 hb1)
                     have cO1 := HA.out.st.cell cO (fun h => h)
                     have HGR := hidden hgrow1
                     clear hown1 hgrow1 hb1)
                  | (refine step_append_ri rfl (.tmp 39) (.tmp 44) rfl _ _ _ rfl (by first | exact HA.out.own | exact HA.out.own.alloc _) _ [x] rfl (by first | exact ri_one' _ _ _ (by simp) | exact ri_grown (ri_one' _ _ _ (by simp)) HGR.out rfl (by simp) | exact ri_grown ((ri_one' _ _ _ (by simp)).made ((Step.refl _ _).alloc _)) HGR.out rfl (by simp)) (by rw [HKL.out]; simp <;> omega) ?_
                     intro v2 w2 hown2 hgrow2 hb2
                     have HB := hidden (show Grew wr v2 (0 + (E.take 0).length + 1) ([] ++ E.take 0 ++ [x]) w2 by first | exact HA.out.more hown2 hgrow2 hb2 | exact (HA.out.alloc _).more hown2 hgrow2 hb2)
                     clear hown2 hgrow2 hb2))
                all_goals
                  go_wp2_with (at_builtin; refine wpList_append_ri rfl (.tmp 46) (.tmp 49) rfl _ _ _ rfl HB.out.own _ (E.drop 0) rfl ?rr ?rl ?_)
                  case rr => exact (by rw [HDE.out]; exact ri_nil _)
                  case rl => rw [HKL.out, List.length_drop, ← HUN.out]; simp <;> omega
                  intro v3 w3 hown3 hgrow3 hb3
                  obtain ⟨uo3, uc3, rfl⟩ := own_slice hown3
                  have HC := hidden (HB.out.more hown3 hgrow3 hb3)
                  clear hown3 hgrow3 hb3
                  go_wp2
                  go_roundw
                  case rel => exact ⟨i + 1, by omega, by go_num, _, _, _, _, rfl, HC.out.own, by simp <;> omega, fun j hj => (by have := HC.out.blk j hj; have := HQ4.out.size; omega), HQ4.out.made HC.out.st, by simpa using HE.out⟩
                  case measure => simp [intOf]; omega
              | some p =>
                obtain ⟨g, cap', _, e, _⟩ := (HQ1.out.2).resolve_left (by rintro ⟨h, _⟩; cases h)
                injection e with e1 e2 e3
                have e4 := Option.some.inj e1
                subst e4
                subst e3
                by_cases hcc : uc = k
                · subst hcc
                  go_wp2
                  go_quiet (fail)
                  go_wp2
                  go_region_law (first
                    | (refine step_append_ri rfl (.tmp 35) (.tmp 38) rfl _ 0 [] rfl (by first | exact own_empty' _ _ (by simp) | exact (own_empty' _ _ (by simp)).alloc _) _ (E.take uc) rfl (by first | exact HTK.out.made (((Step.refl _ wr).drewN _).alloc _) | exact HTK.out.made ((((Step.refl _ wr).drewN _).alloc _).alloc _)) (by rw [HKL.out]; omega) ?_
                       intro v1 w1 hown1 hgrow1 hb1
                       have HA := hidden (show Grew wr v1 (0 + (E.take uc).length) ([] ++ E.take uc) w1 by first | exact (Grew.empty _ (by simp) ((Step.refl _ wr).drewN _)).more hown1 hgrow1 hb1 | exact ((Grew.empty _ (by simp) ((Step.refl _ wr).drewN _)).alloc _).more hown1 hgrow1 hb1 | exact (Grew.empty _ (by simp) (((Step.refl _ wr).drewN _).alloc _)).more hown1 hgrow1 hb1)
                       have cO1 := HA.out.st.cell cO (fun h => h)
                       have HGR := hidden hgrow1
                       clear hown1 hgrow1 hb1)
                    | (refine step_append_ri rfl (.tmp 39) (.tmp 44) rfl _ _ _ rfl (by first | exact HA.out.own | exact HA.out.own.alloc _) _ [x] rfl (by first | exact ri_one' _ _ _ (by simp) | exact ri_grown (ri_one' _ _ _ (by simp)) HGR.out rfl (by simp) | exact ri_grown ((ri_one' _ _ _ (by simp)).made ((Step.refl _ _).alloc _)) HGR.out rfl (by simp)) (by rw [HKL.out]; simp <;> omega) ?_
                       intro v2 w2 hown2 hgrow2 hb2
                       have HB := hidden (show Grew wr v2 (0 + (E.take uc).length + 1) ([] ++ E.take uc ++ [x]) w2 by first | exact HA.out.more hown2 hgrow2 hb2 | exact (HA.out.alloc _).more hown2 hgrow2 hb2)
                       clear hown2 hgrow2 hb2))
                  all_goals
                    go_wp2_with (at_builtin; refine wpList_append_ri rfl (.tmp 46) (.tmp 49) rfl _ _ _ rfl HB.out.own _ (E.drop uc) rfl ?rr ?rl ?_)
                    case rr => exact (by rw [HDE.out]; exact ri_empty' _ _ _ _ (by omega))
                    case rl => rw [HKL.out, List.length_drop, ← HUN.out]; simp <;> omega
                    intro v3 w3 hown3 hgrow3 hb3
                    obtain ⟨uo3, uc3, rfl⟩ := own_slice hown3
                    have HC := hidden (HB.out.more hown3 hgrow3 hb3)
                    clear hown3 hgrow3 hb3
                    go_wp2
                    go_roundw
                    case rel => exact ⟨i + 1, by omega, by go_num, _, _, _, _, rfl, HC.out.own, by simp <;> omega, fun j hj => (by have := HC.out.blk j hj; have := HQ4.out.size; omega), HQ4.out.made HC.out.st, by simpa using HE.out⟩
                    case measure => simp [intOf]; omega
                · go_wp2
                  go_quiet (fail)
                  go_wp2
                  go_region_law (first
                    | (refine step_append_ri rfl (.tmp 35) (.tmp 38) rfl _ 0 [] rfl (by first | exact own_empty' _ _ (by simp) | exact (own_empty' _ _ (by simp)).alloc _) _ (E.take k) rfl (by first | exact HTK.out.made (((Step.refl _ wr).drewN _).alloc _) | exact HTK.out.made ((((Step.refl _ wr).drewN _).alloc _).alloc _)) (by rw [HKL.out]; omega) ?_
                       intro v1 w1 hown1 hgrow1 hb1
                       have HA := hidden (show Grew wr v1 (0 + (E.take k).length) ([] ++ E.take k) w1 by first | exact (Grew.empty _ (by simp) ((Step.refl _ wr).drewN _)).more hown1 hgrow1 hb1 | exact ((Grew.empty _ (by simp) ((Step.refl _ wr).drewN _)).alloc _).more hown1 hgrow1 hb1 | exact (Grew.empty _ (by simp) (((Step.refl _ wr).drewN _).alloc _)).more hown1 hgrow1 hb1)
                       have cO1 := HA.out.st.cell cO (fun h => h)
                       have HGR := hidden hgrow1
                       clear hown1 hgrow1 hb1)
                    | (refine step_append_ri rfl (.tmp 39) (.tmp 44) rfl _ _ _ rfl (by first | exact HA.out.own | exact HA.out.own.alloc _) _ [x] rfl (by first | exact ri_one' _ _ _ (by simp) | exact ri_grown (ri_one' _ _ _ (by simp)) HGR.out rfl (by simp) | exact ri_grown ((ri_one' _ _ _ (by simp)).made ((Step.refl _ _).alloc _)) HGR.out rfl (by simp)) (by rw [HKL.out]; simp <;> omega) ?_
                       intro v2 w2 hown2 hgrow2 hb2
                       have HB := hidden (show Grew wr v2 (0 + (E.take k).length + 1) ([] ++ E.take k ++ [x]) w2 by first | exact HA.out.more hown2 hgrow2 hb2 | exact (HA.out.alloc _).more hown2 hgrow2 hb2)
                       clear hown2 hgrow2 hb2))
                  all_goals
                    go_wp2_with (at_builtin; refine wpList_append_ri rfl (.tmp 46) (.tmp 49) rfl _ _ _ rfl HB.out.own _ (E.drop k) rfl ?rr ?rl ?_)
                    case rr => exact (by rw [HDE.out]; exact ri_empty' _ _ _ _ (by omega))
                    case rl => rw [HKL.out, List.length_drop, ← HUN.out]; simp <;> omega
                    intro v3 w3 hown3 hgrow3 hb3
                    obtain ⟨uo3, uc3, rfl⟩ := own_slice hown3
                    have HC := hidden (HB.out.more hown3 hgrow3 hb3)
                    clear hown3 hgrow3 hb3
                    go_wp2
                    go_roundw
                    case rel => exact ⟨i + 1, by omega, by go_num, _, _, _, _, rfl, HC.out.own, by simp <;> omega, fun j hj => (by have := HC.out.blk j hj; have := HQ4.out.size; omega), HQ4.out.made HC.out.st, by simpa using HE.out⟩
                    case measure => simp [intOf]; omega
        · have HE := hidden (HQ5.out.no hx)
          have hx' : O.getD i 0 ≤ 0 := by omega
          generalize O.getD i 0 = x at *
          go_wp2
          go_roundw
          case rel => exact ⟨i + 1, by omega, by go_num, uo, un, uc, E, rfl, HQ1.out, HUN.out, HQ3.out, HQ4.out, HE.out⟩
          case measure => simp [intOf]; omega
    · have e : i = n := by omega
      subst e
      go_wp2
      go_ret
      exact ⟨_, E, rfl, HQ5.out, RE.out, HQ4.out⟩

end Go.Proofs.Ytkglackbbcfhbaa
