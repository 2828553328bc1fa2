/-
  A row of bytes with room behind it: appended within its room; made wider.
-/
import Derived.Test.YtkaibpibnkmmbaaDoorIRead
import Derived.Laws.CopyOwn
import Derived.Laws.MakeOwn
import Derived.BigRegion
namespace Go.Proofs.YtkaibpibnkmmbaaDoor
open Go.RowKit
set_option maxRecDepth 100000
set_option linter.unusedVariables false

/-- How much room a slice has. -/
def capOf : Value → Nat
  | .slice _ _ c => c
  | _ => 0

theorem cap_ge {w : World} {v : Value} {n : Nat} {C : List Nat} (h : w.ownsRow 0 5 1 v n (u8s C)) : n ≤ capOf v := by
  rcases h.2 with ⟨rfl, rfl⟩ | ⟨g, cap, cur, rfl, _, _, hc, _⟩
  · exact Nat.zero_le _
  · exact hc

theorem append_cap {w : World} {ops : Array Oper} {rest : List Oper} {o : Oper} {a : Act} {Q : Exit → Act → World → Prop} (hgd : o.guard = none) (s x : Operand)
    (ho : o.op = .call { callee := .builtin .append, args := #[s, x], argTypes := #[23, 23] })
    (v : Value) (n : Nat) (C : List Nat) (hs : a.eval s = v) (hown : w.ownsRow 0 5 1 v n (u8s C))
    (xv : Value) (B : List Nat) (hx : a.eval x = xv) (hr : Rd w xv B) (hb : n + B.length ≤ 137438953600) (hc : n + B.length ≤ capOf v)
    (h : ∀ v' w', w'.ownsRow 0 5 1 v' (n + B.length) (u8s (C ++ B)) → w.grownBy w' v.ownBlock → v'.ownBlock = v.ownBlock → capOf v' = capOf v → wpList Tryd.prog ops Q rest (a.put o.dst v') w') :
    wpList Tryd.prog ops Q (o :: rest) a w := by
  obtain ⟨i0, hi, hz0, hz1, hz2⟩ := info_parts Tryd.info5
  obtain ⟨ao, cap, e, h1, _⟩ := id hr
  subst e
  cases ao with
  | none =>
    obtain ⟨rfl, rfl⟩ := h1 rfl
    exact wpList_append_own_none hgd s x 23 ho 0 5 i0 1 Tryd.underlying23 hi v n (u8s C) hs hown hx (h v w (by simpa using hown) (World.grownBy.refl _ _) rfl rfl)
  | some ad =>
    refine wpList_plain hgd fun K hK' => ?_
    obtain ⟨v', w', hrun, h2, h3, h4⟩ := run_append_own (P := Tryd.prog) w 0 23 o.type 5 i0 (.int .u8 0) 1 1 Tryd.underlying23 hi hz0 hz1 hz2 rfl (by decide) v n (u8s C) hown ad B.length cap (u8s B) (by rw [u8s_length]; omega) hr.news (u8s_one _) (by unfold maxLen; omega) (by omega) (Nat.zero_le _)
    have hv : v'.ownBlock = v.ownBlock ∧ capOf v' = capOf v := by
      rcases hown.2 with ⟨e1, e2⟩ | ⟨g, c, cur, e1, _, hg, _, _, hsz, _⟩
      · subst e1
        have hB : B.length = 0 := by have hc' : n + B.length ≤ 0 := hc; omega
        rw [h4.2 ⟨rfl, hB⟩]
        exact ⟨rfl, rfl⟩
      · subst e1
        have hc' : n + B.length ≤ c := hc
        have hr' := run_append_room (P := Tryd.prog) w 23 o.type 5 i0 Tryd.underlying23 hi g n c cur hg ad B.length cap (u8s B) (by rw [u8s_length, hz1]; omega) hr.news (u8s_one _) hc' (by rw [u8s_length, hz1, hsz]; omega)
        rw [hr'] at hrun
        injection hrun with hv _
        rw [← hv]
        exact ⟨rfl, rfl⟩
    unfold Oper.wp
    simp [execOp, ho, resolve, invoke, builtin, hs, hx, hrun, Result.andThen]
    exact hK' _ _ (h v' w' (by rw [u8s_append]; exact h2) h3 hv.1 hv.2)

/-- A row made anew, with the first bytes of another one. -/
theorem made_copied {w : World} {cur : List Value} {c : Nat} {C : List Nat} {g : Nat} (hg : w.heap[g]? = some (.cells cur.toArray 5 (0, 0))) (hl : cur.length = c) (hc : C.length ≤ c) (hm : c ≤ maxLen) (ht : cur.take C.length = u8s C) :
    w.ownsRow 0 5 1 (.slice (some ⟨g, 0, none⟩) C.length c) C.length (u8s C) :=
  ⟨by rw [u8s_length]; omega, .inr ⟨g, c, _, rfl, Nat.zero_le _, hg, hc, hm, by simp [hl], by simpa using ht⟩⟩

/-- What came out so far, in a stream in block p. -/
structure Out (w : World) (p : Nat) (v : Value) (O : List Nat) (most : Int) : Prop where
  co : w.cell? ⟨p, 1, none⟩ = some v
  cm : w.cell? ⟨p, 2, none⟩ = some (.int .i64 most)
  f1 : w.frozen? ⟨p, 1, none⟩ = false
  ow : w.ownsRow 0 5 1 v O.length (u8s O)
  ne : v.ownBlock ≠ some p
  ca : capOf v ≤ 100000000000
  by_ : ∀ y ∈ O, y < 256

theorem Out.drewN {w : World} {p : Nat} {v : Value} {O : List Nat} {most : Int} (h : Out w p v O most) (n : Nat) : Out (w.drewN n) p v O most := ⟨h.co, h.cm, h.f1, h.ow, h.ne, h.ca, h.by_⟩
theorem Out.step {S : Nat → Prop} {w w' : World} {p : Nat} {v : Value} {O : List Nat} {most : Int} (h : Out w p v O most) (hs : Step S w w') (h1 : ¬ S p) (h2 : ∀ k, v.ownBlock = some k → ¬ S k) : Out w' p v O most :=
  ⟨hs.cell h.co h1, hs.cell h.cm h1, (hs.frozen (p := ⟨p, 1, none⟩) (World.block_lt_of_cell? w _ h.co) h1).trans h.f1, owns_step h.ow hs h2, h.ne, h.ca, h.by_⟩

set_option maxHeartbeats 2000000 in
theorem room_no (p : Nat) (v : Value) (O : List Nat) (most : Int) (n : Nat) (w : World) (h : Out w p v O most) (hn : n ≤ 1000000) (hO : O.length ≤ 10000000000) (h0 : 0 ≤ most) (hm : most ≤ 9223372036854775807) (hlt : most - (O.length : Int) < (n : Int)) :
    Calls Tryd.prog 27 #[.pointer (some ⟨p, 0, none⟩), .int .i64 n] w fun e w' => e = .returned (.int .i64 5) ∧ ∃ q, w' = w.drewN q := by
  obtain ⟨ao, cap, hs⟩ := own_slice h.ow
  have c0 := h.co
  have c1 := h.cm
  rw [hs] at c0
  generalize O.length = L at *
  clear h hs
  go_enter Tryd.func27, Tryd.ntmps27
  go_wp2
  go_quiet (fail)
  go_wp2
  go_ret
  exact ⟨rfl, _, rfl⟩

/-- What room leaves. -/
def Roomed (w w' : World) (p : Nat) (v : Value) (O : List Nat) (most : Int) (n : Nat) : Prop :=
  ∃ v', Out w' p v' O most ∧ O.length + n ≤ capOf v' ∧ Step (fun k => k = p) w w' ∧ (v'.ownBlock = v.ownBlock ∨ ∃ k, v'.ownBlock = some k ∧ w.heap.size ≤ k) ∧
    (∀ j u, j ≠ 1 → w.cell? ⟨p, j, none⟩ = some u → w'.cell? ⟨p, j, none⟩ = some u) ∧ ∀ j, w'.frozen? ⟨p, j, none⟩ = w.frozen? ⟨p, j, none⟩

set_option maxHeartbeats 4000000 in
theorem room_ok (p : Nat) (v : Value) (O : List Nat) (most : Int) (n : Nat) (w : World) (h : Out w p v O most) (hn : n ≤ 1000000) (hO : O.length ≤ 10000000000) (h0 : 0 ≤ most) (hm : most ≤ 9223372036854775807) (hge : (n : Int) ≤ most - (O.length : Int)) :
    Calls Tryd.prog 27 #[.pointer (some ⟨p, 0, none⟩), .int .i64 n] w fun e w' => e = .returned (.int .i64 0) ∧ Roomed w w' p v O most n := by
  obtain ⟨ao, cap, hs⟩ := own_slice h.ow
  have c0 := h.co
  have c1 := h.cm
  have f1 := h.f1
  have hca := h.ca
  have hge2 := cap_ge h.ow
  have HC : Hid (capOf v = cap) := hidden (by rw [hs]; rfl)
  have HV := hidden hs
  rw [hs] at c0
  rw [HC.out] at hca hge2
  have H := hidden h
  obtain ⟨L, hL⟩ : ∃ L, L = O.length := ⟨_, rfl⟩
  have HL := hidden hL
  rw [← hL] at c0 hO hge hge2
  clear h hs hL
  by_cases hw : (cap : Int) < (L : Int) + (n : Int)
  · obtain ⟨c, hc, hc1, hc2⟩ : ∃ c : Nat, (if (if (L : Int) + (n : Int) < 2 * (cap : Int) then 2 * (cap : Int) else (L : Int) + (n : Int)) < most then (if (L : Int) + (n : Int) < 2 * (cap : Int) then 2 * (cap : Int) else (L : Int) + (n : Int)) else most) = (c : Int) ∧ L + n ≤ c ∧ c ≤ 2 * (L + n) := by
      by_cases h1 : (L : Int) + (n : Int) < 2 * (cap : Int)
      · rw [if_pos h1]
        by_cases h2 : 2 * (cap : Int) < most
        · exact ⟨2 * cap, by rw [if_pos h2]; omega, by omega, by omega⟩
        · exact ⟨most.toNat, by rw [if_neg h2]; omega, by omega, by omega⟩
      · rw [if_neg h1]
        by_cases h2 : (L : Int) + (n : Int) < most
        · exact ⟨L + n, by rw [if_pos h2]; omega, by omega, by omega⟩
        · exact ⟨most.toNat, by rw [if_neg h2]; omega, by omega, by omega⟩
    obtain ⟨i0, hi, hz0, hz1, hz2⟩ := info_parts Tryd.info5
    have hmk : ∀ W : World, Sem.run Tryd.prog (Instr.makeSlice 23 (.int .i64 (L : Int)) (.int .i64 (c : Int))) W = .ok (.slice (some ⟨W.heap.size, 0, none⟩) L c) (W.alloc (.cells (madeCells #[.int .u8 0] c) 5)) := by
      intro W
      have := run_make (P := Tryd.prog) W 23 5 i0 (.int .u8 0) Tryd.underlying23 hi hz0 .i64 .i64 (L : Int) (c : Int) (by omega) (by omega) (by rw [hz2]; omega) (by omega)
      rw [hz1, Nat.mul_one] at this
      exact this
    have HMK := hidden hmk
    have HCC := hidden hc
    clear hi hz0 hz1 hz2 hmk hc
    go_enter Tryd.func27, Tryd.ntmps27
    go_wp2
    go_quiet (fail)
    go_wp2
    have hmk := HMK.out
    have hc := HCC.out
    go_region
    clear hmk hc
    have hpw : p < w.heap.size := World.block_lt_of_cell? w _ c0
    obtain ⟨W1, hW1⟩ : ∃ x, x = (w.drewN (nq + 1)).alloc (Obj.cells (madeCells #[Value.int IntKind.u8 0] c) 5) := ⟨_, rfl⟩
    have HS : Hid (Step (fun _ => False) w W1) := hidden (by rw [hW1]; exact ((Step.refl _ w).drewN _).alloc _)
    have c3 : W1.cell? ⟨p, 1, none⟩ = some (.slice ao L cap) := HS.out.cell c0 (fun h => h)
    have f3 : W1.frozen? ⟨p, 1, none⟩ = false := (HS.out.frozen (p := ⟨p, 1, none⟩) hpw (fun h => h)).trans f1
    have Hg : Hid (W1.heap[w.heap.size]? = some (.cells (madeCells #[Value.int IntKind.u8 0] c).toList.toArray 5 (0, 0))) := hidden (by rw [hW1]; simp [World.alloc, World.drewN])
    rw [← hW1]
    clear hW1 c0 f1 HCC HMK
    have HB : Hid (Below w.heap.size w W1) := hidden (HS.out.below _ (Nat.le_refl _) (fun _ h => h.elim))
    have hpos : Hid (0 < (u8s O).length → some (⟨w.heap.size, 0, none⟩ : Addr) = some ⟨w.heap.size, 0, none⟩ ∧ ∃ ad, ao = some ad ∧ ∀ j u, (u8s O)[j]? = some u → W1.cell? (ad.add j) = some u) := hidden (fun h0 => by
      refine ⟨rfl, ?_⟩
      have hr := (Rd.of_own H.out.ow).step HS.out (fun _ _ _ _ _ h => h)
      rw [HV.out] at hr
      cases ao with
      | none =>
        rcases H.out.ow.2 with ⟨_, e2⟩ | ⟨g, cc, cur, e1, _⟩
        · rw [u8s_length] at h0; omega
        · have := HV.out; rw [e1] at this; injection this with x; cases x
      | some ad => exact ⟨ad, rfl, hr.news⟩)
    have hsz : (Tryd.prog.info? 5).map (·.size) = some 1 := by kernel_rfl
    have HSZ := hidden hsz
    have hlen : Hid ((u8s O).length = Nat.min L L) := hidden (by rw [u8s_length, ← HL.out]; simp)
    have hfit : Hid (0 + (u8s O).length ≤ (madeCells #[Value.int IntKind.u8 0] c).toList.length) := hidden (by rw [u8s_length, ← HL.out]; simp [size_madeCells]; omega)
    clear hsz
    go_wp2_with (refine wpList_copy_splice rfl (.tmp 52) (.tmp 56) 23 23 rfl 5 Tryd.underlying23 HSZ.out _ _ _ _ _ _ rfl rfl w.heap.size 0 _ 5 Hg.out (u8s O) hlen.out hpos.out hfit.out (u8s_one _) w.heap.size w HB.out (Nat.le_refl _) ?_)
    all_goals (
      intro W2 HG2 hB2
      have hB2' := hidden hB2
      have HS2 : Hid (Step (fun _ => False) w W2) := hidden ⟨hB2.os, hB2.tape, hB2.output, hB2.size, fun k hk _ => hB2.block k hk⟩
      have c4 : W2.cell? ⟨p, 1, none⟩ = some (.slice ao L cap) := by
        have := HS2.out.cell' (p := ⟨p, 1, none⟩) hpw (fun h => h)
        rw [this]
        exact (HS.out.cell' (p := ⟨p, 1, none⟩) hpw (fun h => h)).symm.trans c3
      have f4 : W2.frozen? ⟨p, 1, none⟩ = false := by
        rw [HS2.out.frozen (p := ⟨p, 1, none⟩) hpw (fun h => h)]
        exact (HS.out.frozen (p := ⟨p, 1, none⟩) hpw (fun h => h)).symm.trans f3
      have hpn : Hid (¬ p = w.heap.size) := hidden (by omega)
      have HM : Hid (W2.cell? ⟨p, 2, none⟩ = some (.int .i64 most)) := hidden (HS2.out.cell c1 (fun h => h))
      clear hB2 c3 f3 c1
      go_wp2
      go_ret
      refine ⟨rfl, .slice (some ⟨w.heap.size, 0, none⟩) L c, ⟨?_, ?_, ?_, ?_, ?_, ?_, H.out.by_⟩, ?_, ?_, .inr ⟨_, rfl, Nat.le_refl _⟩, ?_, ?_⟩
      · exact World.cell?_setCell_same _ _ _ c4
      · rw [World.cell?_setCell_other _ _ _ _ (by simp)]; exact HM.out
      · rw [World.frozen?_setCell]; exact f4
      · have hm0 : w.heap.size < W2.heap.size := (Array.getElem?_eq_some_iff.1 HG2.out).1
        have hown : W2.ownsRow 0 5 1 (.slice (some ⟨w.heap.size, 0, none⟩) O.length c) O.length (u8s O) := made_copied HG2.out (by rw [length_splice _ _ _ hfit.out]; simp [size_madeCells]) (by rw [← HL.out]; omega) (by unfold maxLen; omega) (by
          unfold splice
          rw [← u8s_length O]; simp)
        have hL := HL.out
        rw [← hL] at hown ⊢
        refine owns_step hown ((Step.refl (fun k => k = p) W2).setCell ⟨p, 1, none⟩ _ (.inl rfl)) (fun k hk e => ?_)
        have := Option.some.inj hk
        exact hpn.out (by rw [← e]; exact this.symm)
      · intro e; exact hpn.out (Option.some.inj e).symm
      · show c ≤ _
        omega
      · show O.length + n ≤ c
        rw [← HL.out]; exact hc1
      · exact (HS2.out.mono (fun _ h => h.elim)).setCell _ _ (.inl rfl)
      · intro j u hj hu
        rw [World.cell?_setCell_other (a := ⟨p, 1, none⟩) (b := ⟨p, j, none⟩) _ _ (by intro e; injection e with _ e2; exact hj e2.symm)]
        exact HS2.out.cell hu (fun h => h)
      · intro j
        rw [World.frozen?_setCell]
        exact HS2.out.frozen (p := ⟨p, j, none⟩) hpw (fun h => h))
  · go_enter Tryd.func27, Tryd.ntmps27
    go_wp2
    go_quiet (fail)
    go_wp2
    go_ret
    refine ⟨rfl, v, H.out.drewN _, by rw [HC.out, ← HL.out]; omega, (Step.refl _ _).drewN _, .inl rfl, fun _ _ _ h => h, fun _ => rfl⟩

end Go.Proofs.YtkaibpibnkmmbaaDoor
