/-
  The lengths that a block of kind 2 begins with: times, lengths.
-/
import Derived.Test.YtkaibpibnkmmbaaDoorIOwnN
import Derived.Test.YtkaibpibnkmmbaaDoorIRep
import Derived.Test.YtkaibpibnkmmbaaDoorISyms
namespace Go.Proofs.YtkaibpibnkmmbaaDoor
open Go.RowKit
set_option maxRecDepth 100000
set_option linter.unusedVariables false

set_option maxHeartbeats 1000000 in
theorem times_any (p b : Nat) (s v : Value) (M m t : Nat) (O : List Nat) (most : Int) (x : Nat) (w : World) (h : Str w p b s v M m t O most) (hm : m ≤ 1000000) (hx : x ≤ 1000) :
    Calls Tryd.prog 43 #[.pointer (some ⟨p, 0, none⟩), .int .i64 x] w fun e w' => NumE w p b s v M m O most (timP M m x t) e w' := by
  have H := hidden h
  have HN := hidden (fun (l n : Nat) (hl : l ≤ 100) (hn : n ≤ 10) => number_any p b s v M m t O most l n w h hm (by omega) (by omega))
  clear h
  by_cases g1 : x = 16
  · subst g1
    have HP : Hid (timP M m 16 t = numP M m t 3 2) := hidden (by unfold timP; rw [if_pos rfl])
    have HC := hidden (HN.out 3 2 (by omega) (by omega))
    go_enter Tryd.func43, Tryd.ntmps43
    go_wp2_with fail
    refine HC.out.mono ?_
    rintro e w1 ⟨S1, hr⟩
    cases hq : numP M m t 3 2 with
    | error z =>
      rw [hq] at hr
      have HR := hidden hr
      have HQ := hidden hq
      subst hr
      have HS := hidden S1
      clear S1 hq
      go_wp2
      go_ret2
      rw [HP.out, HQ.out]
      exact ⟨HS.out, rfl⟩
    | ok z =>
      obtain ⟨y, u⟩ := z
      rw [hq] at hr
      obtain ⟨rfl, hst⟩ := hr
      have HQ := hidden hq
      have HS := hidden (And.intro S1 hst)
      clear S1 hq hst
      go_wp2
      go_ret2
      rw [HP.out, HQ.out]
      exact ⟨HS.out.1, rfl, HS.out.2⟩
  · have b1 : ((x : Int) == 16) = false := by rw [beq_eq_false_iff_ne]; omega
    by_cases g2 : x = 17
    · subst g2
      have HP : Hid (timP M m 17 t = numP M m t 3 3) := hidden (by unfold timP; rw [if_neg (by omega), if_pos rfl])
      have HC := hidden (HN.out 3 3 (by omega) (by omega))
      clear b1 g1
      go_enter Tryd.func43, Tryd.ntmps43
      go_wp2_with fail
      refine HC.out.mono ?_
      rintro e w1 ⟨S1, hr⟩
      cases hq : numP M m t 3 3 with
      | error z =>
        rw [hq] at hr
        have HQ := hidden hq
        subst hr
        have HS := hidden S1
        clear S1 hq
        go_wp2
        go_ret2
        rw [HP.out, HQ.out]
        exact ⟨HS.out, rfl⟩
      | ok z =>
        obtain ⟨y, u⟩ := z
        rw [hq] at hr
        obtain ⟨rfl, hst⟩ := hr
        have HQ := hidden hq
        have HS := hidden (And.intro S1 hst)
        clear S1 hq hst
        go_wp2
        go_ret2
        rw [HP.out, HQ.out]
        exact ⟨HS.out.1, rfl, HS.out.2⟩
    · have b2 : ((x : Int) == 17) = false := by rw [beq_eq_false_iff_ne]; omega
      by_cases g3 : x = 18
      · subst g3
        have HP : Hid (timP M m 18 t = numP M m t 11 7) := hidden (by unfold timP; rw [if_neg (by omega), if_neg (by omega), if_pos rfl])
        have HC := hidden (HN.out 11 7 (by omega) (by omega))
        clear b1 g1 b2 g2
        go_enter Tryd.func43, Tryd.ntmps43
        go_wp2_with fail
        refine HC.out.mono ?_
        rintro e w1 ⟨S1, hr⟩
        cases hq : numP M m t 11 7 with
        | error z =>
          rw [hq] at hr
          have HQ := hidden hq
          subst hr
          have HS := hidden S1
          clear S1 hq
          go_wp2
          go_ret2
          rw [HP.out, HQ.out]
          exact ⟨HS.out, rfl⟩
        | ok z =>
          obtain ⟨y, u⟩ := z
          rw [hq] at hr
          obtain ⟨rfl, hst⟩ := hr
          have HQ := hidden hq
          have HS := hidden (And.intro S1 hst)
          clear S1 hq hst
          go_wp2
          go_ret2
          rw [HP.out, HQ.out]
          exact ⟨HS.out.1, rfl, HS.out.2⟩
      · have b3 : ((x : Int) == 18) = false := by rw [beq_eq_false_iff_ne]; omega
        have HP : Hid (timP M m x t = .ok (1, t)) := hidden (by unfold timP; rw [if_neg g1, if_neg g2, if_neg g3])
        go_enter Tryd.func43, Tryd.ntmps43
        go_wp2
        go_ret2
        rw [HP.out]
        exact ⟨Step.refl _ _, rfl, H.out⟩

/-- How lengths ends. -/
def LensE (w : World) (p b : Nat) (s v : Value) (M m : Nat) (O : List Nat) (most : Int) (d many t0 : Nat) (r : Except Nat (Nat × List Int)) (e : Ending) (w' : World) : Prop :=
  Step (fun k => k = b ∨ k = d) w w' ∧
  match r with
  | .error x => 0 < x ∧ e = .returned (.tuple #[.slice none 0 0, .int .i64 (x : Int)])
  | .ok (t, A) => ∃ ao c, e = .returned (.tuple #[.slice ao A.length c, .int .i64 0]) ∧ Str w' p b s v M m t O most ∧ w'.ownsRow 0 3 1 (.slice ao A.length c) A.length (i64s A) ∧ (∀ k, (Value.slice ao A.length c).ownBlock = some k → w.heap.size ≤ k) ∧ A.length = many ∧ (∀ y ∈ A, 0 ≤ y) ∧ t0 ≤ t

/-- A row of numbers of the call's own, with another row behind it. -/
theorem append_ints {w : World} {ops : Array Oper} {rest : List Oper} {o : Oper} {a : Act} {Q : Exit → Act → World → Prop} (hgd : o.guard = none) (s x : Operand)
    (ho : o.op = .call { callee := .builtin .append, args := #[s, x], argTypes := #[22, 22] })
    (v : Value) (n : Nat) (C : List Int) (hs : a.eval s = v) (hown : w.ownsRow 0 3 1 v n (i64s C))
    (g : Nat) (B : List Int) (N : Nat) (hB : B.length = N) (hx : a.eval x = .slice (some ⟨g, 0, none⟩) N N) (hr : w.ownsRow 0 3 1 (.slice (some ⟨g, 0, none⟩) N N) N (i64s B)) (hb : n + N ≤ 1000000)
    (h : ∀ v' w', w'.ownsRow 0 3 1 v' (n + N) (i64s (C ++ B)) → w.grownBy w' v.ownBlock → (v'.ownBlock = v.ownBlock ∨ v'.ownBlock = some w.heap.size) → wpList Tryd.prog ops Q rest (a.put o.dst v') w') :
    wpList Tryd.prog ops Q (o :: rest) a w := by
  obtain ⟨i0, hi, hz0, hz1, hz2⟩ := info_parts Tryd.info3
  exact wpList_append_at w hgd s x 22 ho 3 i0 (.int .i64 0) 1 8 Tryd.underlying22 hi hz0 hz1 hz2 rfl (by decide) v n (i64s C) hs hown ⟨g, 0, none⟩ N N (i64s B) hx (by rw [i64s_length]; omega) (Ri.of_own hr).news (i64s_one _) (by unfold maxLen; omega) (by omega)
      (fun v' w' k1 k2 _ k4 => h v' w' (by rw [i64s_append]; exact k1) k2 k4)

/-- A row of the call's own, with a row behind it, beside what is written. -/
theorem grown_step {S : Nat → Prop} {w w1 w2 w3 : World} {v v' : Value} (S1 : Step S w w1) (S2 : Step (fun _ => False) w1 w2) (hv : ∀ g, v.ownBlock = some g → w.heap.size ≤ g) (hg : w2.grownBy w3 v.ownBlock) (hb : v'.ownBlock = v.ownBlock ∨ v'.ownBlock = some w2.heap.size) : Step S w w3 ∧ ∀ g, v'.ownBlock = some g → w.heap.size ≤ g := by
  have S12 : Step S w w2 := S1.trans S2 (fun _ h => h.elim)
  refine ⟨S12.grown hg (fun k hk => .inr (hv k hk)), fun g hg2 => ?_⟩
  rcases hb with e | e
  · exact hv g (by rw [← e]; exact hg2)
  · rw [e] at hg2; have := Option.some.inj hg2; have := S12.size; omega

set_option maxHeartbeats 8000000 in
theorem lengths_any (p b : Nat) (s v : Value) (M m t : Nat) (O : List Nat) (most : Int) (d : Nat) (C : List Int) (bs tot many : Nat) (w : World) (h : Str w p b s v M m t O most) (hd : Dec w d C bs tot 0 0) (hb : Bes p b s v d bs C) (hm : m ≤ 1000000) (hC : newErr C = 0) (hc19 : C.length ≤ 19) (hmany : many ≤ 400) :
    Calls Tryd.prog 36 #[.pointer (some ⟨p, 0, none⟩), .pointer (some ⟨d, 0, none⟩), .int .i64 many] w fun e w' => LensE w p b s v M m O most d many t (lensV C M m many t) e w' := by
  have HC := hidden hC
  have HB := hidden hb
  have H0 := hidden (And.intro h hd)
  have hle := h.rr.le
  clear h hd hb hC
  go_enter Tryd.func36, Tryd.ntmps36
  go_wp2
  go_loopg [8, 9, 10, 11, 12] (many + 1) (fun k l _ _ _ _ wr => ∃ (u n c : Nat) (ao : Option Addr) (A : List Int), k = many + 1 - n ∧ n ≤ many ∧ u ≤ 8 * m ∧ l = .slice ao n c ∧ Hid (A.length = n ∧ (∀ r, Lens C M m many u A r → Lens C M m many t [] r) ∧ Str wr p b s v M m u O most ∧ Dec wr d C bs tot 0 0 ∧ wr.ownsRow 0 3 1 (.slice ao n c) n (i64s A) ∧ (∀ j, (Value.slice ao n c).ownBlock = some j → w.heap.size ≤ j) ∧ Step (fun k => k = b ∨ k = d) w wr ∧ (∀ y ∈ A, 0 ≤ y) ∧ t ≤ u))
  case atStart => exact ⟨t, 0, 0, none, [], rfl, Nat.zero_le _, hle, rfl, rfl, fun _ h => h, H0.out.1, H0.out.2, World.ownsRow_nil _ _ _ _, fun j hj => by simp [Value.ownBlock] at hj, Step.refl _ _, (fun _ h => by cases h), Nat.le_refl _⟩
  case round =>
    obtain ⟨u, n, c, ao, A, hk, hn, hu, rfl, HH⟩ := hrel
    have HK := hidden hk
    clear hk
    have hbw : Hid (b < w.heap.size) := hidden (World.block_lt_of_cell? w _ H0.out.1.rr.ins)
    have hpw : Hid (p < w.heap.size) := hidden (World.block_lt_of_cell? w _ H0.out.1.ci)
    have hdw : Hid (d < w.heap.size) := hidden (World.block_lt_of_cell? w _ H0.out.2.c1)
    have hvw : Hid (∀ k, v.ownBlock = some k → k < w.heap.size) := hidden (fun k hk => (H0.out.1.ou.ow.lt _ hk).2)
    have hsw : Hid (∀ k, s.ownBlock = some k → k < w.heap.size) := hidden (fun k hk => (H0.out.1.rr.own.lt _ hk).2)
    have hbsw : Hid ((∃ i, i < C.length ∧ 0 < C.getD i 0) → bs < w.heap.size) := hidden (fun ⟨i, h1, h2⟩ => World.block_lt_of_cell? w _ (H0.out.2.sy i h1 h2))
    have HA : Hid (A.length = n) := hidden HH.out.1
    have a2 := hidden HH.out.2.1
    have a6 := hidden HH.out.2.2.2.2.2.1
    have a7 := hidden HH.out.2.2.2.2.2.2.1
    have a8 := hidden HH.out.2.2.2.2.2.2.2.1
    have a9 : t ≤ u := HH.out.2.2.2.2.2.2.2.2
    by_cases hlt : n < many
    · have HS : Hid (Calls Tryd.prog 29 #[.pointer (some ⟨p, 0, none⟩), .pointer (some ⟨d, 0, none⟩)] wr fun e w' => Hid (Step (fun k => k = b ∨ k = d) w w' ∧ SymOk C.length m u (symV C M m u)) ∧ match symV C M m u with | .error z => e = .returned (.tuple #[.int .i64 0, .int .i64 (z : Int)]) | .ok (i, u2) => e = .returned (.tuple #[.int .i64 (i : Int), .int .i64 0]) ∧ Hid (Str w' p b s v M m u2 O most ∧ Dec w' d C bs tot 0 0 ∧ w'.ownsRow 0 3 1 (.slice ao n c) n (i64s A))) := by
        obtain ⟨b1, b2, b3, b4, b5, b6, b7, b8⟩ := HH.out
        refine hidden ((symbol_any p b s v M m u O most d C bs tot wr b3 b4 HB.out hm HC.out).mono fun e w' ⟨⟨hst, hr⟩, hok⟩ => ?_)
        refine ⟨hidden ⟨b7.trans hst (fun i hi => .inl hi), hok⟩, ?_⟩
        cases hq : symV C M m u with
        | error z => rw [hq] at hr; exact hr
        | ok z =>
          rw [hq] at hr
          obtain ⟨h1, h2, h3⟩ := hr
          refine ⟨h1, hidden ⟨h2, h3, owns_step b5 hst (fun k hk e => ?_)⟩⟩
          have := b6 k hk
          have := hbw.out
          have := hdw.out
          omega
      have hok := (symV_spec HC.out M m u).fine
      cases hq : symV C M m u with
      | error z =>
        rw [hq] at HS hok
        have hz0 : 0 < z := by rcases hok with e | e <;> omega
        have HQ := hidden hq
        clear hq hok HH
        go_wp2_with fail
        refine HS.out.mono ?_
        rintro e w1 ⟨S1, rfl⟩
        have hz : ((z : Int) != 0) = true := by rw [bne_iff_ne]; omega
        go_wp2
        go_ret2
        have hs := (a2.out _ (Lens.bad (by rw [HA.out]; exact hlt) HQ.out)).val
        unfold LensE
        rw [hs]
        exact ⟨S1.out.1, hz0, rfl⟩
      | ok z =>
        obtain ⟨x, u2⟩ := z
        rw [hq] at HS hok
        obtain ⟨hx, hu1, hu2⟩ := hok
        have HQ := hidden hq
        clear hq
        by_cases g1 : x = 16 ∧ n = 0
        · obtain ⟨rfl, rfl⟩ := g1
          clear HH
          go_wp2_with fail
          refine HS.out.mono ?_
          rintro e w1 ⟨S1, rfl, R1⟩
          go_wp2
          go_ret2
          have hs := (a2.out _ (Lens.first (by rw [HA.out]; exact hlt) HQ.out HA.out)).val
          unfold LensE
          rw [hs]
          exact ⟨S1.out.1, by omega, rfl⟩
        · have HNN : Hid (¬ (x = 16 ∧ A.length = 0)) := hidden (by rw [HA.out]; exact g1)
          have htok := timP_ok M m x u2 hu2
          have HT : Hid (∀ w1, Str w1 p b s v M m u2 O most → Dec w1 d C bs tot 0 0 → w1.ownsRow 0 3 1 (.slice ao n c) n (i64s A) → Step (fun k => k = b ∨ k = d) w w1 → Calls Tryd.prog 43 #[.pointer (some ⟨p, 0, none⟩), .int .i64 x] w1 fun e w' => Hid (Step (fun k => k = b ∨ k = d) w w') ∧ match timP M m x u2 with | .error z => e = .returned (.tuple #[.int .i64 0, .int .i64 (z : Int)]) | .ok (y, u3) => e = .returned (.tuple #[.int .i64 (y : Int), .int .i64 0]) ∧ Hid (Str w' p b s v M m u3 O most ∧ Dec w' d C bs tot 0 0 ∧ w'.ownsRow 0 3 1 (.slice ao n c) n (i64s A) ∧ Ri w' (.slice ao n c) A)) := hidden (fun w1 b3 b4 b5 b7 => by
            refine (times_any p b s v M m u2 O most x w1 b3 hm (by omega)).mono fun e w' ⟨hst, hr⟩ => ?_
            refine ⟨hidden (b7.trans hst (fun i hi => .inl (.inl hi))), ?_⟩
            cases hq : timP M m x u2 with
            | error z => rw [hq] at hr; exact hr
            | ok z =>
              rw [hq] at hr
              have ho : w'.ownsRow 0 3 1 (.slice ao n c) n (i64s A) := owns_step b5 hst (fun k hk e => by have := a6.out k hk; have := hbw.out; omega)
              exact ⟨hr.1, hidden ⟨hr.2, b4.far hst HB.out.db (fun _ => HB.out.bb), ho, Ri.of_own ho⟩⟩)
          have hg : ((x : Int) == 16 && (n : Int) == 0) = false := by
            by_cases e : x = 16
            · have : n ≠ 0 := fun e2 => g1 ⟨e, e2⟩
              have h2 : ((n : Int) == 0) = false := by rw [beq_eq_false_iff_ne]; omega
              rw [h2, Bool.and_false]
            · have h2 : ((x : Int) == 16) = false := by rw [beq_eq_false_iff_ne]; omega
              rw [h2, Bool.false_and]
          cases hq2 : timP M m x u2 with
          | error z =>
            rw [hq2] at HT htok
            have hz2 : z = 2 := htok
            subst hz2
            have HQT := hidden hq2
            clear hq2 htok HH
            by_cases e16 : x = 16
            · have b16 : ((x : Int) == 16) = true := by rw [e16]; rfl
              have bn : ((n : Int) == 0) = false := by rw [beq_eq_false_iff_ne]; omega
              clear e16 hg
              go_wp2_with fail
              refine HS.out.mono ?_
              rintro e w1 ⟨S1, rfl, R1⟩
              go_wp2_with fail
              refine (HT.out _ R1.out.1 R1.out.2.1 R1.out.2.2 S1.out.1).mono ?_
              rintro e w2 ⟨S2, rfl⟩
              go_wp2
              go_ret2
              have hs := (a2.out _ (Lens.short (by rw [HA.out]; exact hlt) HQ.out HNN.out HQT.out)).val
              unfold LensE
              rw [hs]
              exact ⟨S2.out, by omega, rfl⟩
            · have b16 : ((x : Int) == 16) = false := by rw [beq_eq_false_iff_ne]; omega
              clear e16 hg
              go_wp2_with fail
              refine HS.out.mono ?_
              rintro e w1 ⟨S1, rfl, R1⟩
              go_wp2_with fail
              refine (HT.out _ R1.out.1 R1.out.2.1 R1.out.2.2 S1.out.1).mono ?_
              rintro e w2 ⟨S2, rfl⟩
              go_wp2
              go_ret2
              have hs := (a2.out _ (Lens.short (by rw [HA.out]; exact hlt) HQ.out HNN.out HQT.out)).val
              unfold LensE
              rw [hs]
              exact ⟨S2.out, by omega, rfl⟩
          | ok z =>
            obtain ⟨y, u3⟩ := z
            rw [hq2] at HT htok
            obtain ⟨hy1, hy2, hy3, hy4⟩ := htok
            have hu3 := hidden hy4
            have HQT := hidden hq2
            clear hq2 HH
            have HREP : Hid (∀ (l : Int) w1, Calls Tryd.prog 33 #[.int .i64 l, .int .i64 y] w1 fun e w' => ∃ g, e = .returned (.slice (some ⟨g, 0, none⟩) y y) ∧ Hid (w1.heap.size ≤ g ∧ w'.ownsRow 0 3 1 (.slice (some ⟨g, 0, none⟩) y y) y (i64s (List.replicate y l)) ∧ Step (fun _ => False) w1 w')) := hidden (fun l w1 => (repeat_any l y w1 hy1 (by omega)).mono fun e w' ⟨g, he, h1, h2, h3⟩ => ⟨g, he, hidden ⟨h1, h2, h3⟩⟩)
            have hsub : (many : Int) - (n : Int) = ((many - n : Nat) : Int) := by omega
            have hu3t : Hid (t ≤ u3) := hidden (by omega)
            clear hg hy3
            by_cases e16 : x = 16
            · have b16 : ((x : Int) == 16) = true := by rw [e16]; rfl
              have n0 : 0 < n := by omega
              have bn : ((n : Int) == 0) = false := by rw [beq_eq_false_iff_ne]; omega
              have HLO : Hid (lenOf x A = A.getD (n - 1) 0) := hidden (by unfold lenOf; rw [if_pos e16, HA.out])
              clear e16
              by_cases gy : many - n < y
              · have gy2 : (many : Int) - (n : Int) < (y : Int) := by omega
                clear hsub
                go_wp2_with fail
                refine HS.out.mono ?_
                rintro e w1 ⟨S1, rfl, R1⟩
                go_wp2_with fail
                refine (HT.out _ R1.out.1 R1.out.2.1 R1.out.2.2 S1.out.1).mono ?_
                rintro e w2 ⟨S2, rfl, R2⟩
                go_wp2
                go_ret2
                have hs := (a2.out _ (Lens.over (by rw [HA.out]; exact hlt) HQ.out HNN.out HQT.out (by rw [HA.out]; omega))).val
                unfold LensE
                rw [hs]
                exact ⟨S2.out, by omega, rfl⟩
              · have gy2 : ¬ (many : Int) - (n : Int) < (y : Int) := by omega
                clear hsub
                go_wp2_with fail
                refine HS.out.mono ?_
                rintro e w1 ⟨S1, rfl, R1⟩
                go_wp2_with fail
                refine (HT.out _ R1.out.1 R1.out.2.1 R1.out.2.2 S1.out.1).mono ?_
                rintro e w2 ⟨S2, rfl, R2⟩
                have HSW2 := hidden S2.out
                obtain ⟨aoR, cR, eR, _, hR1, hR2⟩ := R2.out.2.2.2
                injection eR with eR1 eR2 eR3
                subst eR1
                have hAne : A ≠ [] := by intro e; have := HA.out; rw [e] at this; simp at this; omega
                cases ao with
                | none => exact absurd (hR1 rfl).1 hAne
                | some aa =>
                  obtain ⟨ba, oa, rfl, hcell⟩ := hR2 aa rfl hAne
                  obtain ⟨j, hj⟩ : ∃ j, j = n - 1 := ⟨_, rfl⟩
                  have cx := hcell j (by rw [HA.out]; omega)
                  rw [← hj] at HLO
                  have hji : (n : Int) - 1 = (j : Int) := by omega
                  have j1 : (j : Int) < (n : Int) := by omega
                  have j0 : (0 : Int) ≤ (j : Int) := by omega
                  generalize A.getD j 0 = l at *
                  clear hcell hR1 hR2 hAne eR2 eR3 hj
                  go_wp2_with fail
                  refine (HREP.out l w2).mono ?_
                  rintro e w3 ⟨g3, rfl, W3⟩
                  have HO3 := hidden (owns_step R2.out.2.2.1 W3.out.2.2 (fun _ _ h => h))
                  go_wp2_with (at_builtin; refine append_ints rfl (.tmp 61) (.tmp 64) rfl _ n A rfl HO3.out g3 (List.replicate y l) y (by simp) rfl W3.out.2.1 (by omega) ?_)
                  intro v4 w4 ho4 hg4 hb4
                  have hX := grown_step (w := w) HSW2.out W3.out.2.2 a6.out hg4 hb4
                  obtain ⟨ao4, c4, hv4⟩ := own_slice ho4
                  subst hv4
                  have HX := hidden hX
                  have HO4 := hidden ho4
                  have hfar : Hid (Step (fun j => w.heap.size ≤ j) w2 w4) := hidden (((W3.out.2.2.mono (fun _ h => h.elim)).grown hg4 (fun j hj => .inl (a6.out j hj))))
                  clear hX ho4 hg4 hb4
                  go_wp2
                  go_roundg (many + 1 - (n + y))
                  case measure => have := HK.out; omega
                  case rel =>
                    refine ⟨u3, n + y, c4, ao4, A ++ List.replicate y l, rfl, by omega, hu3.out, rfl, ⟨by rw [List.length_append, List.length_replicate, HA.out], fun r hr => a2.out r (Lens.more (by rw [HA.out]; exact hlt) HQ.out HNN.out HQT.out (by rw [HA.out]; omega) (by rw [HLO.out]; exact hr)), R2.out.1.step hfar.out (by have := hpw.out; omega) (by have := hbw.out; omega) (fun k hk => by have := hvw.out k hk; omega) (fun k hk => by have := hsw.out k hk; omega), R2.out.2.1.far hfar.out (by have := hdw.out; omega) (fun hx => by have := hbsw.out hx; omega), HO4.out, HX.out.2, HX.out.1, more_nonneg a8.out HLO.out, hu3t.out⟩⟩
            · have b16 : ((x : Int) == 16) = false := by rw [beq_eq_false_iff_ne]; omega
              by_cases e17 : 16 < x
              · have b17 : (16 : Int) < (x : Int) := by omega
                have HLO : Hid (lenOf x A = 0) := hidden (by unfold lenOf; rw [if_neg e16, if_pos e17])
                clear e16
                by_cases gy : many - n < y
                · have gy2 : (many : Int) - (n : Int) < (y : Int) := by omega
                  clear hsub
                  go_wp2_with fail
                  refine HS.out.mono ?_
                  rintro e w1 ⟨S1, rfl, R1⟩
                  go_wp2_with fail
                  refine (HT.out _ R1.out.1 R1.out.2.1 R1.out.2.2 S1.out.1).mono ?_
                  rintro e w2 ⟨S2, rfl, R2⟩
                  go_wp2
                  go_ret2
                  have hs := (a2.out _ (Lens.over (by rw [HA.out]; exact hlt) HQ.out HNN.out HQT.out (by rw [HA.out]; omega))).val
                  unfold LensE
                  rw [hs]
                  exact ⟨S2.out, by omega, rfl⟩
                · have gy2 : ¬ (many : Int) - (n : Int) < (y : Int) := by omega
                  clear hsub
                  go_wp2_with fail
                  refine HS.out.mono ?_
                  rintro e w1 ⟨S1, rfl, R1⟩
                  go_wp2_with fail
                  refine (HT.out _ R1.out.1 R1.out.2.1 R1.out.2.2 S1.out.1).mono ?_
                  rintro e w2 ⟨S2, rfl, R2⟩
                  have HSW2 := hidden S2.out
                  go_wp2_with fail
                  refine (HREP.out 0 w2).mono ?_
                  rintro e w3 ⟨g3, rfl, W3⟩
                  have HO3 := hidden (owns_step R2.out.2.2.1 W3.out.2.2 (fun _ _ h => h))
                  go_wp2_with (at_builtin; refine append_ints rfl (.tmp 61) (.tmp 64) rfl _ n A rfl HO3.out g3 (List.replicate y 0) y (by simp) rfl W3.out.2.1 (by omega) ?_)
                  intro v4 w4 ho4 hg4 hb4
                  have hX := grown_step (w := w) HSW2.out W3.out.2.2 a6.out hg4 hb4
                  obtain ⟨ao4, c4, hv4⟩ := own_slice ho4
                  subst hv4
                  have HX := hidden hX
                  have HO4 := hidden ho4
                  have hfar : Hid (Step (fun j => w.heap.size ≤ j) w2 w4) := hidden (((W3.out.2.2.mono (fun _ h => h.elim)).grown hg4 (fun j hj => .inl (a6.out j hj))))
                  clear hX ho4 hg4 hb4
                  go_wp2
                  go_roundg (many + 1 - (n + y))
                  case measure => have := HK.out; omega
                  case rel =>
                    refine ⟨u3, n + y, c4, ao4, A ++ List.replicate y 0, rfl, by omega, hu3.out, rfl, ⟨by rw [List.length_append, List.length_replicate, HA.out], fun r hr => a2.out r (Lens.more (by rw [HA.out]; exact hlt) HQ.out HNN.out HQT.out (by rw [HA.out]; omega) (by rw [HLO.out]; exact hr)), R2.out.1.step hfar.out (by have := hpw.out; omega) (by have := hbw.out; omega) (fun k hk => by have := hvw.out k hk; omega) (fun k hk => by have := hsw.out k hk; omega), R2.out.2.1.far hfar.out (by have := hdw.out; omega) (fun hx => by have := hbsw.out hx; omega), HO4.out, HX.out.2, HX.out.1, more_nonneg a8.out HLO.out, hu3t.out⟩⟩
              · have b17 : ¬ (16 : Int) < (x : Int) := by omega
                have HLO : Hid (lenOf x A = (x : Int)) := hidden (by unfold lenOf; rw [if_neg e16, if_neg e17])
                clear e16
                by_cases gy : many - n < y
                · have gy2 : (many : Int) - (n : Int) < (y : Int) := by omega
                  clear hsub
                  go_wp2_with fail
                  refine HS.out.mono ?_
                  rintro e w1 ⟨S1, rfl, R1⟩
                  go_wp2_with fail
                  refine (HT.out _ R1.out.1 R1.out.2.1 R1.out.2.2 S1.out.1).mono ?_
                  rintro e w2 ⟨S2, rfl, R2⟩
                  go_wp2
                  go_ret2
                  have hs := (a2.out _ (Lens.over (by rw [HA.out]; exact hlt) HQ.out HNN.out HQT.out (by rw [HA.out]; omega))).val
                  unfold LensE
                  rw [hs]
                  exact ⟨S2.out, by omega, rfl⟩
                · have gy2 : ¬ (many : Int) - (n : Int) < (y : Int) := by omega
                  clear hsub
                  go_wp2_with fail
                  refine HS.out.mono ?_
                  rintro e w1 ⟨S1, rfl, R1⟩
                  go_wp2_with fail
                  refine (HT.out _ R1.out.1 R1.out.2.1 R1.out.2.2 S1.out.1).mono ?_
                  rintro e w2 ⟨S2, rfl, R2⟩
                  have HSW2 := hidden S2.out
                  go_wp2_with fail
                  refine (HREP.out (x : Int) w2).mono ?_
                  rintro e w3 ⟨g3, rfl, W3⟩
                  have HO3 := hidden (owns_step R2.out.2.2.1 W3.out.2.2 (fun _ _ h => h))
                  go_wp2_with (at_builtin; refine append_ints rfl (.tmp 61) (.tmp 64) rfl _ n A rfl HO3.out g3 (List.replicate y (x : Int)) y (by simp) rfl W3.out.2.1 (by omega) ?_)
                  intro v4 w4 ho4 hg4 hb4
                  have hX := grown_step (w := w) HSW2.out W3.out.2.2 a6.out hg4 hb4
                  obtain ⟨ao4, c4, hv4⟩ := own_slice ho4
                  subst hv4
                  have HX := hidden hX
                  have HO4 := hidden ho4
                  have hfar : Hid (Step (fun j => w.heap.size ≤ j) w2 w4) := hidden (((W3.out.2.2.mono (fun _ h => h.elim)).grown hg4 (fun j hj => .inl (a6.out j hj))))
                  clear hX ho4 hg4 hb4
                  go_wp2
                  go_roundg (many + 1 - (n + y))
                  case measure => have := HK.out; omega
                  case rel =>
                    refine ⟨u3, n + y, c4, ao4, A ++ List.replicate y (x : Int), rfl, by omega, hu3.out, rfl, ⟨by rw [List.length_append, List.length_replicate, HA.out], fun r hr => a2.out r (Lens.more (by rw [HA.out]; exact hlt) HQ.out HNN.out HQT.out (by rw [HA.out]; omega) (by rw [HLO.out]; exact hr)), R2.out.1.step hfar.out (by have := hpw.out; omega) (by have := hbw.out; omega) (fun k hk => by have := hvw.out k hk; omega) (fun k hk => by have := hsw.out k hk; omega), R2.out.2.1.far hfar.out (by have := hdw.out; omega) (fun hx => by have := hbsw.out hx; omega), HO4.out, HX.out.2, HX.out.1, more_nonneg a8.out HLO.out, hu3t.out⟩⟩
    · have hnn : n = many := by omega
      subst hnn
      have hbad : ¬ (n : Int) < (n : Int) := by omega
      obtain ⟨b1, b2, b3, b4, b5, b6, b7, b8⟩ := HH.out
      have HF := hidden (And.intro b3 (And.intro b5 (And.intro b6 b7)))
      clear HH b1 b2 b3 b4 b5 b6 b7 b8
      go_wp2
      go_ret2
      have hs := (a2.out _ (Lens.done (by rw [HA.out]; exact Nat.le_refl _))).val
      unfold LensE
      rw [hs]
      simp only [HA.out]
      exact ⟨HF.out.2.2.2, ao, c, rfl, HF.out.1, HF.out.2.1, HF.out.2.2.1, trivial, a8.out, a9⟩

end Go.Proofs.YtkaibpibnkmmbaaDoor
