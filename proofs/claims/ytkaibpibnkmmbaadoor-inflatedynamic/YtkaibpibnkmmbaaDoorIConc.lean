/-
  slices.Grow of nothing; slices.Concat: rows one behind the other.
-/
import Derived.Test.YtkaibpibnkmmbaaDoorIRep
import Derived.Lib.AppendZeros
import Derived.Lib.AppendZerosOnto
namespace Go.Proofs.YtkaibpibnkmmbaaDoor
open Go.RowKit
set_option maxRecDepth 100000
set_option linter.unusedVariables false

set_option maxHeartbeats 2000000 in
theorem grow_nil (n : Nat) (w : World) (h1 : 1 ≤ n) (hn : n ≤ 100000) :
    Calls Tryd.prog 40 #[.slice none 0 0, .int .i64 n] w fun e w' => ∃ v, e = .returned v ∧ w'.ownsRow 0 3 1 v 0 (i64s []) ∧ Step (fun _ => False) w w' ∧ v.ownBlock = some w.heap.size := by
  obtain ⟨i0, hi, hz0, hz1, hz2⟩ := info_parts Tryd.info3
  have hrz : ∀ ty, (Builtin.append_ #[22, 3] ty #[.slice none 0 0, .int .i64 (n : Int)]).run Tryd.prog w =
      .ok (.slice (some ⟨w.heap.size, 0, none⟩) n (grownCap w n 0 3)) (w.drew.alloc (.cells (([] : List Value).toArray ++ Builtin.zeroCells (Value.int .i64 0).cells n ++ Builtin.zeroCells (Value.int .i64 0).cells (grownCap w n 0 3 - n)) 3)) := fun ty => by
    have h := Lib.run_append_grow_zeros w 22 3 ty 3 i0 (.int .i64 0) .i64 .i64 Tryd.underlying22 Tryd.underlying3 hi hz0 none 0 0 [] (run_firstCells_none w.drew i0.size 0 0 0) n (by omega) (by omega) (by omega) (by omega) (by rw [hz2]; omega)
      (growslice_fits (by omega) (by rw [hz2]; omega))
    rw [Nat.zero_add] at h
    exact h
  have hGn : n ≤ grownCap w n 0 3 := grownCap_ge w _ _ _
  have hGm : grownCap w n 0 3 ≤ maxLen := grownCap_le_maxLen w n 0 3 (by unfold maxLen; omega)
  obtain ⟨G, hG⟩ : ∃ G, G = grownCap w n 0 3 := ⟨_, rfl⟩
  rw [← hG] at hrz hGn hGm
  obtain ⟨C, hC⟩ : ∃ C, C = (([] : List Value).toArray ++ Builtin.zeroCells (Value.int .i64 0).cells n ++ Builtin.zeroCells (Value.int .i64 0).cells (G - n)) := ⟨_, rfl⟩
  rw [← hC] at hrz
  have HC : Hid (C.size = G) := hidden (by rw [hC]; simp [Builtin.zeroCells, Value.cells]; omega)
  have HM := hidden hGm
  have HRZ := hidden hrz
  have hG63 : (n : Int) ≤ (G : Int) := by omega
  have h0G : (0 : Int) ≤ (G : Int) := by omega
  clear hrz hG hC hGm hi hz0 hz1 hz2
  go_enter Tryd.func40, Tryd.ntmps40
  go_wp2_with (at_builtin; refine Lib.wpList_append_run _ rfl _ _ _ _ rfl _ _ rfl rfl _ _ (HRZ.out _) ?_)
  go_ret
  refine ⟨_, rfl, ⟨by simp [i64s], .inr ⟨w.heap.size, G, C, rfl, Nat.zero_le _, heap_alloc_at _ _, Nat.zero_le _, HM.out, by rw [HC.out, Nat.mul_one], by simp [i64s]⟩⟩, ((Step.refl _ w).drew).alloc _, rfl⟩

/-- How many numbers the first k rows have; all of them. -/
def lenTo (Ls : List (List Int)) (k : Nat) : Nat := ((Ls.take k).flatten).length

theorem take_next (Ls : List (List Int)) (k : Nat) (h : k < Ls.length) : (Ls.take (k + 1)).flatten = (Ls.take k).flatten ++ Ls.getD k [] := by
  rw [List.take_succ_eq_append_getElem h, List.flatten_append]
  simp [List.getD, h]

/-- Rows, each with something in it, in block g. -/
structure Rws (w : World) (g : Nat) (Ls : List (List Int)) : Prop where
  row : ∀ k, k < Ls.length → ∃ b o c, w.cell? ⟨g, k, none⟩ = some (.slice (some ⟨b, o, none⟩) (Ls.getD k []).length c) ∧ Ri w (.slice (some ⟨b, o, none⟩) (Ls.getD k []).length c) (Ls.getD k [])

theorem Rws.made {w w' : World} {g : Nat} {Ls : List (List Int)} (h : Rws w g Ls) (hs : Step (fun _ => False) w w') : Rws w' g Ls :=
  ⟨fun k hk => by obtain ⟨b, o, c, h1, h2⟩ := h.row k hk; exact ⟨b, o, c, hs.cell h1 (fun h => h), h2.made hs⟩⟩

set_option maxHeartbeats 4000000 in
theorem concat_any (g : Nat) (Ls : List (List Int)) (N tot : Nat) (w : World) (h : Rws w g Ls) (hN : Ls.length = N) (ht : Ls.flatten.length = tot) (h1 : 1 ≤ tot) (hn : tot ≤ 100000) (hNb : N ≤ 100000) :
    Calls Tryd.prog 32 #[.slice (some ⟨g, 0, none⟩) N N] w fun e w' => ∃ v, e = .returned v ∧ w'.ownsRow 0 3 1 v tot (i64s Ls.flatten) ∧ Step (fun _ => False) w w' ∧ (∀ k, v.ownBlock = some k → w.heap.size ≤ k) := by
  obtain ⟨i0, hi, hz0, hz1, hz2⟩ := info_parts Tryd.info3
  have HI := hidden (And.intro hi (And.intro hz0 (And.intro hz1 hz2)))
  have H := hidden h
  have HN := hidden hN
  have HT := hidden ht
  have HGR := hidden (grow_nil tot)
  have hmono : Hid (∀ k, lenTo Ls k ≤ tot) := hidden (fun k => by
    rw [← ht]; unfold lenTo
    have e : Ls.flatten = (Ls.take k).flatten ++ (Ls.drop k).flatten := by rw [← List.flatten_append, List.take_append_drop]
    rw [e]; simp)
  clear h hN ht hi hz0 hz1 hz2
  go_enter Tryd.func32, Tryd.ntmps32
  go_wp2
  go_loopw [3, 5, 11] (fun z _ i wr => ∃ t q : Nat, z = .int .i64 (q : Int) ∧ i = .int .i64 (t : Int) ∧ t ≤ N ∧ Hid (q = lenTo Ls t) ∧ wr = w) (fun _ _ i _ => N - (intOf i).toNat)
  case atStart => exact ⟨0, 0, rfl, rfl, Nat.zero_le _, rfl, rfl⟩
  case round =>
    obtain ⟨t, q, rfl, rfl, htN, Hq, rfl⟩ := hrel
    have hq : q ≤ tot := by rw [Hq.out]; exact hmono.out t
    by_cases hlt : t < N
    · obtain ⟨b, o, c, hc, hr⟩ := H.out.row t (by rw [HN.out]; exact hlt)
      have hq2 : Hid (q + (Ls.getD t []).length = lenTo Ls (t + 1)) := hidden (by
        rw [Hq.out]; unfold lenTo
        rw [take_next Ls t (by rw [HN.out]; exact hlt), List.length_append])
      have hq3 : q + (Ls.getD t []).length ≤ tot := by rw [hq2.out]; exact hmono.out _
      generalize hlen : (Ls.getD t []).length = len at *
      clear hr hlen
      go_wp2
      go_roundw
      case rel => exact ⟨t + 1, q + len, by go_num, by go_num, by omega, hq2, trivial⟩
      case measure => simp [intOf]; omega
    · have htt : t = N := by omega
      subst htt
      have hbad : ¬ (t : Int) < (t : Int) := by omega
      have hqq : q = tot := by
        rw [Hq.out, ← HT.out]; unfold lenTo
        rw [List.take_of_length_le (by rw [HN.out]; exact Nat.le_refl _)]
      subst hqq
      go_wp2_with (go_at_call 40; refine (HGR.out _ h1 hn).mono ?_; rintro e w1 ⟨v, rfl, ho, hs, hv⟩; obtain ⟨ao, cp, rfl⟩ := own_slice ho; have HG := hidden (And.intro ho (And.intro hs hv)); clear ho hs hv)
      go_loopw [6, 8, 27] (fun u _ i wq => ∃ (k z cq : Nat) (aq : Option Addr), i = .int .i64 (k : Int) ∧ k ≤ t ∧ u = .slice aq z cq ∧ Hid (z = lenTo Ls k ∧ wq.ownsRow 0 3 1 (.slice aq z cq) z (i64s (Ls.take k).flatten) ∧ Step (fun _ => False) wr wq ∧ (∀ j, (Value.slice aq z cq).ownBlock = some j → wr.heap.size ≤ j))) (fun _ _ i _ => t - (intOf i).toNat)
      case atStart => exact ⟨0, 0, _, _, rfl, Nat.zero_le _, rfl, by simp [lenTo], by simpa [lenTo] using HG.out.1, HG.out.2.1, fun j hj => by rw [HG.out.2.2] at hj; have := Option.some.inj hj; omega⟩
      case round =>
        obtain ⟨k, z, cq, aq, rfl, hk, rfl, HH⟩ := hrel
        by_cases hkt : k < t
        · obtain ⟨z1, z2, z3, z4⟩ := HH.out
          obtain ⟨b, o, c, hc, hr⟩ := (H.out.made z3).row k (by rw [HN.out]; exact hkt)
          have hq2 : Hid (z + (Ls.getD k []).length = lenTo Ls (k + 1)) := hidden (by
            rw [z1]; unfold lenTo
            rw [take_next Ls k (by rw [HN.out]; exact hkt), List.length_append])
          have hq3 : z + (Ls.getD k []).length ≤ q := by rw [hq2.out]; exact hmono.out _
          have hnx : Hid (i64s (Ls.take (k + 1)).flatten = i64s (Ls.take k).flatten ++ i64s (Ls.getD k [])) := hidden (by rw [take_next Ls k (by rw [HN.out]; exact hkt), i64s_append])
          have hll : Hid ((i64s (Ls.getD k [])).length = (Ls.getD k []).length * 1) := hidden (by rw [i64s_length, Nat.mul_one])
          have hnews := hidden hr.news
          have hone := hidden (i64s_one (Ls.getD k []))
          have hb1 : Hid (z + (Ls.getD k []).length ≤ maxLen) := hidden (by unfold maxLen; omega)
          have hb2 : Hid ((z + (Ls.getD k []).length) * 8 ≤ 140737488355328) := hidden (by omega)
          have HO := hidden z2
          have HS3 := hidden z3
          have HV := hidden z4
          obtain ⟨i1, i2, i3, i4⟩ := HI.out
          generalize hX : i64s (Ls.getD k []) = X at *
          generalize hlen : (Ls.getD k []).length = len at *
          clear hr hlen hX z1 z2 z3 z4
          go_wp2_with (at_builtin; refine wpList_append_at _ rfl (.tmp 31) (.tmp 32) 22 rfl 3 i0 (.int .i64 0) 1 8 Tryd.underlying22 i1 i2 i3 i4 rfl (by decide) _ z _ rfl HO.out _ len c X rfl hll.out hnews.out hone.out hb1.out hb2.out ?_)
          intro v' w' g1 g2 g3 g4
          obtain ⟨ao', cp', hv'⟩ := own_slice g1
          subst hv'
          have HG1 := hidden (And.intro g1 (And.intro g2 g4))
          clear g1 g2 g3 g4
          go_wp2
          go_roundw
          case rel =>
            refine ⟨k + 1, z + len, cp', ao', by go_num, by omega, rfl, hq2.out, ?_, HS3.out.grown HG1.out.2.1 (fun j hj => .inr (HV.out j hj)), fun j hj => ?_⟩
            · rw [hnx.out]; exact HG1.out.1
            · rcases HG1.out.2.2 with e | e
              · exact HV.out j (by rw [← e]; exact hj)
              · rw [e] at hj; have := Option.some.inj hj; have := HS3.out.size; omega
          case measure => simp [intOf]; omega
        · have hkk : k = t := by omega
          subst hkk
          have hbad2 : ¬ (k : Int) < (k : Int) := by omega
          go_wp2
          go_ret
          obtain ⟨z1, z2, z3, z4⟩ := HH.out
          have e : Ls.take k = Ls := List.take_of_length_le (by rw [HN.out]; exact Nat.le_refl _)
          rw [e] at z2
          have hzq : z = q := by rw [z1, ← HT.out]; unfold lenTo; rw [e]
          subst hzq
          exact ⟨_, rfl, z2, z3, z4⟩

end Go.Proofs.YtkaibpibnkmmbaaDoor
