/-
  A block of whatever kind; all of a stream.
-/
import Derived.Test.YtkaibpibnkmmbaaDoorIBytes
import Derived.Test.YtkaibpibnkmmbaaDoorIOwnD
namespace Go.Proofs.YtkaibpibnkmmbaaDoor
open Go.RowKit
set_option maxRecDepth 100000
set_option linter.unusedVariables false

/-- Symbols by codes of the block's own. -/
noncomputable def ownS (M m : Nat) (most : Int) (O : List Nat) : Except Nat (Nat × List Int × List Int) → Except Nat (Nat × List Nat)
  | .error e => .error e
  | .ok (u, L, D) => symsV L D M m most u O
/-- What a block tells. -/
noncomputable def blkF (M m : Nat) (most : Int) (t : Nat) (O : List Nat) : Except Nat (Nat × List Nat) :=
  if t + 3 ≤ 8 * m ∧ M / 2 ^ (t + 1) % 4 = 2 then ownS M m most O (ownP M m (t + 3)) else blkP M m most t O

/-- What blocks tell, up to the last one, with so many blocks ahead of it. -/
inductive BlksF (M m : Nat) (most : Int) : Nat → Nat → List Nat → Except Nat (Nat × List Nat) → Prop
  | bad {n t e : Nat} {O : List Nat} : blkF M m most t O = .error e → BlksF M m most n t O (.error e)
  | last {n t u : Nat} {O Q : List Nat} : M / 2 ^ t % 2 = 1 → blkF M m most t O = .ok (u, Q) → BlksF M m most n t O (.ok (u, Q))
  | more {n t u : Nat} {O Q : List Nat} {r : Except Nat (Nat × List Nat)} : M / 2 ^ t % 2 = 0 → blkF M m most t O = .ok (u, Q) → BlksF M m most n u Q r → BlksF M m most (n + 1) t O r

/-- Codes of its own that a stream has read. -/
def OwnQ (w0 w1 : World) (p b : Nat) (s v : Value) (M m t u : Nat) (O : List Nat) (most : Int) (c : Nat) (L D : List Int) : Prop :=
  newErr L = 0 ∧ newErr D = 0 ∧ t ≤ u ∧ ∃ d1 d2 b1 b2 n1 n2, Cod w1 c d1 d2 b1 b2 n1 n2 L D ∧ BesC p b s v c d1 d2 b1 b2 L D ∧ Str w1 p b s v M m u O most ∧ w0.heap.size ≤ d1 ∧ w0.heap.size ≤ d2 ∧ Step (fun k => k = b) w0 w1

/-- How ownCodes ends, seen so. -/
def OwnR (w0 : World) (B p b : Nat) (s v : Value) (M m t : Nat) (O : List Nat) (most : Int) (r : Except Nat (Nat × List Int × List Int)) (e : Ending) (w' : World) : Prop :=
  Hid (Step (fun k => B ≤ k) w0 w') ∧
  match r with
  | .error x => 0 < x ∧ e = .returned (.tuple #[.pointer none, .int .i64 (x : Int)])
  | .ok (u, L, D) => ∃ c, e = .returned (.tuple #[.pointer (some ⟨c, 0, none⟩), .int .i64 0]) ∧ Hid (OwnQ w0 w' p b s v M m t u O most c L D)

theorem own_st (B p b : Nat) (s v : Value) (M m t : Nat) (O : List Nat) (most : Int) (w : World) (T : Tab w) (h : St w B p b s v M m t O most) (hm : m ≤ 1000000) (hB0 : 0 < B) :
    Calls Tryd.prog 24 #[.pointer (some ⟨p, 0, none⟩)] w (OwnR w B p b s v M m t O most (ownP M m t)) := by
  have hb0 : b ≠ 0 := by have := h.bb; omega
  refine (ownCodes_any p b s v M m t O most w T h.str hm hb0).mono fun e w' ⟨hs, hr⟩ => ⟨hidden (hs.mono (fun i hi => by rw [hi]; exact h.bb)), ?_⟩
  cases hq : ownP M m t with
  | error x => rw [hq] at hr; exact hr
  | ok z =>
    obtain ⟨u, L, D⟩ := z
    rw [hq] at hr
    obtain ⟨e1, e2, c, d1, d2, b1, b2, n1, n2, he, hc, hst, k0, k1, k2, k3, k4, k5⟩ := hr
    have lb : b < w.heap.size := World.block_lt_of_cell? w _ h.str.rr.ins
    have lp : p < w.heap.size := World.block_lt_of_cell? w _ h.str.ci
    have lv : ∀ k, v.ownBlock = some k → k < w.heap.size := fun k hk => (h.str.ou.ow.lt _ hk).2
    have ls : ∀ k, s.ownBlock = some k → k < w.heap.size := fun k hk => (h.str.rr.own.lt _ hk).2
    refine ⟨c, he, hidden ⟨e1, e2, k5, d1, d2, b1, b2, n1, n2, hc, ⟨⟨by omega, by omega, ?_, ?_, by omega, by omega, ?_⟩, ⟨by omega, by omega, ?_, ?_, by omega, by omega, ?_⟩, by omega, by omega, ?_⟩, hst, k1, k2, hs⟩⟩
    · intro e; have := ls _ e; omega
    · intro e; have := lv _ e; omega
    · intro _ e; have := lv _ e; omega
    · intro e; have := ls _ e; omega
    · intro e; have := lv _ e; omega
    · intro _ e; have := lv _ e; omega
    · intro e; have := lv _ e; omega

theorem own_syms (B p b : Nat) (s v : Value) (M m t u : Nat) (O : List Nat) (most : Int) (c : Nat) (L D : List Int) (w0 w : World) (h : St w0 B p b s v M m t O most) (hq : OwnQ w0 w p b s v M m t u O most c L D) (hm : m ≤ 1000000) (hB : B ≤ w0.heap.size) (h0 : 0 ≤ most) (h1 : most ≤ 9223372036854775807) :
    Calls Tryd.prog 22 #[.pointer (some ⟨p, 0, none⟩), .pointer (some ⟨c, 0, none⟩)] w fun e w' => Hid (Step (fun k => B ≤ k) w0 w') ∧
      match symsV L D M m most u O with
      | .error x => 0 < x ∧ e = .returned (.int .i64 (x : Int))
      | .ok (u2, Q) => e = .returned (.int .i64 0) ∧ Hid (∃ v', St w' B p b s v' M m u2 Q most) := by
  obtain ⟨e1, e2, htu, d1, d2, b1, b2, n1, n2, hc, hb, hst, k1, k2, S1⟩ := hq
  have hol := h.ol
  refine (symbols_any p b s v M m u O most c d1 d2 b1 b2 n1 n2 L D w hst hc hb hm e1 e2 (by omega) h0 h1).mono fun e w' ⟨he1, he2, he3⟩ => ?_
  have S2 : Step (Sb p b v) w0 w' := (S1.mono (fun i hi => .inr (.inl hi))).trans he1 (fun i hi => by
    rcases hi with h | h | h
    · exact .inl h
    · exact .inr (by omega)
    · exact .inr (by omega))
  have hSb : ∀ i, Sb p b v i → B ≤ i := by
    rintro i (e | e | e)
    · rw [e]; exact h.bp
    · rw [e]; exact h.bb
    · exact h.bv i e
  have K : Keep p w0 w' := (Keep.step S1 (World.block_lt_of_cell? w0 _ h.str.ci) h.str.pb).trans he2
  refine ⟨hidden (S2.mono hSb), ?_⟩
  cases hr : symsV L D M m most u O with
  | error x => rw [hr] at he3; exact he3
  | ok z =>
    obtain ⟨u2, Q⟩ := z
    rw [hr] at he3
    obtain ⟨a1, ⟨v', a2, a3⟩, a4, a5⟩ := he3
    have hv : v'.ownBlock = v.ownBlock ∨ ∃ k, v'.ownBlock = some k ∧ w0.heap.size ≤ k := by
      rcases a3 with e | ⟨k, e, hk⟩
      · exact .inl e
      · exact .inr ⟨k, e, Nat.le_trans S1.size hk⟩
    exact ⟨a1, hidden ⟨v', a2, K.2.trans h.f3, h.fx.beside (M := M) (m := m) (t := t) (O := O) (most := most) S2 K hv, h.bp, h.bb, bv_grow hB h.bv hv, a5⟩⟩

set_option maxHeartbeats 8000000 in
theorem block_full (B p b : Nat) (s v : Value) (M m t : Nat) (O : List Nat) (most : Int) (w : World) (T : Tab w) (h : St w B p b s v M m t O most) (hm : m ≤ 1000000) (hB : B ≤ w.heap.size) (hB0 : 0 < B) (h0 : 0 ≤ most) (h1 : most ≤ 9223372036854775807) :
    Calls Tryd.prog 17 #[.pointer (some ⟨p, 0, none⟩)] w (BlkE w B p b s M m most (decide (M / 2 ^ t % 2 = 1)) (blkF M m most t O)) := by
  by_cases g : t + 3 ≤ 8 * m ∧ M / 2 ^ (t + 1) % 4 = 2
  · have HT := hidden T
    have H := hidden h
    have c0 := h.str.ci
    have hle := h.str.rr.le
    obtain ⟨g2, gk⟩ := g
    have HP : Hid (blkF M m most t O = ownS M m most O (ownP M m (t + 3))) := hidden (by unfold blkF; rw [if_pos ⟨g2, gk⟩])
    clear T h
    obtain ⟨x, hx, hx2⟩ : ∃ x, x = M / 2 ^ t % 2 ^ 1 ∧ x < 2 := ⟨_, rfl, Nat.mod_lt _ (by omega)⟩
    have HX : Hid (M / 2 ^ t % 2 = x) := hidden hx.symm
    have hG1 : Hid (Calls Tryd.prog 20 #[.pointer (some ⟨b, 0, none⟩), .int .i64 (1 : Nat)] w fun e w' => e = .returned (.tuple #[.int .i64 (x : Int), .int .i64 0]) ∧ (w'.cell? ⟨p, 0, none⟩ = some (.pointer (some ⟨b, 0, none⟩)) ∧ Hid (St w' B p b s v M m (t + 1) O most ∧ Step (fun k => B ≤ k) w w'))) :=
      hidden ((get_ok b s M m t 1 w H.out.str.rr (by omega) (by omega) (by omega)).mono fun e w' ⟨he, T⟩ => by
        rw [← hx] at he
        have hT := H.out.took T (by omega)
        exact ⟨he, hT.1.str.ci, hT⟩)
    have hk : 2 = M / 2 ^ (t + 1) % 2 ^ 2 := gk.symm
    have hG2 : Hid (∀ w1, St w1 B p b s v M m (t + 1) O most → Calls Tryd.prog 20 #[.pointer (some ⟨b, 0, none⟩), .int .i64 (2 : Nat)] w1 fun e w' => e = .returned (.tuple #[.int .i64 2, .int .i64 0]) ∧ Hid (St w' B p b s v M m (t + 3) O most ∧ Step (fun k => B ≤ k) w1 w')) :=
      hidden (fun w1 S1 => (get_ok b s M m (t + 1) 2 w1 S1.str.rr (by omega) (by omega) (by omega)).mono fun e w' ⟨he, T⟩ => by
        rw [← hk] at he
        exact ⟨he, S1.took T (by omega)⟩)
    have HOC : Hid (∀ w1, St w1 B p b s v M m (t + 3) O most → Tab w1 → Calls Tryd.prog 24 #[.pointer (some ⟨p, 0, none⟩)] w1 (OwnR w1 B p b s v M m (t + 3) O most (ownP M m (t + 3)))) := hidden (fun w1 S1 T1 => own_st B p b s v M m (t + 3) O most w1 T1 S1 hm hB0)
    have HTS : Hid (∀ w1, Step (fun k => B ≤ k) w w1 → Tab w1) := hidden (fun w1 S1 => HT.out.step S1 (by omega))
    clear hx hk gk
    obtain ⟨r, hr⟩ : ∃ r, r = ownP M m (t + 3) := ⟨_, rfl⟩
    rw [← hr] at HOC HP
    clear hr
    cases r with
    | error z =>
      go_enter Tryd.func17, Tryd.ntmps17
      go_wp2_with fail
      refine hG1.out.mono ?_
      rintro e w1 ⟨rfl, c1, S1⟩
      go_wp2_with fail
      refine (hG2.out _ S1.out.1).mono ?_
      rintro e w2 ⟨rfl, S2⟩
      have HS2 := hidden (S1.out.2.trans S2.out.2 (fun i hi => .inl hi))
      go_wp2_with fail
      refine (HOC.out _ S2.out.1 (HTS.out _ HS2.out)).mono ?_
      rintro e w3 ⟨R3, hz0, rfl⟩
      have hz : ((z : Int) == 0) = false := by rw [beq_eq_false_iff_ne]; omega
      go_wp2
      go_ret2
      unfold BlkE
      rw [HP.out]
      exact ⟨HS2.out.trans R3.out (fun i hi => .inl hi), hz0, _, rfl⟩
    | ok z =>
      obtain ⟨u, L, D⟩ := z
      have HSY : Hid (∀ w0 w1 c, St w0 B p b s v M m (t + 3) O most → OwnQ w0 w1 p b s v M m (t + 3) u O most c L D → B ≤ w0.heap.size → Calls Tryd.prog 22 #[.pointer (some ⟨p, 0, none⟩), .pointer (some ⟨c, 0, none⟩)] w1 fun e w' => Hid (Step (fun k => B ≤ k) w0 w') ∧
          match symsV L D M m most u O with
          | .error x => 0 < x ∧ e = .returned (.int .i64 (x : Int))
          | .ok (u2, Q) => e = .returned (.int .i64 0) ∧ Hid (∃ v', St w' B p b s v' M m u2 Q most)) := hidden (fun w0 w1 c S0 hq hB2 => own_syms B p b s v M m (t + 3) u O most c L D w0 w1 S0 hq hm hB2 h0 h1)
      have HP2 : Hid (blkF M m most t O = symsV L D M m most u O) := hidden HP.out
      go_enter Tryd.func17, Tryd.ntmps17
      go_wp2_with fail
      refine hG1.out.mono ?_
      rintro e w1 ⟨rfl, c1, S1⟩
      go_wp2_with fail
      refine (hG2.out _ S1.out.1).mono ?_
      rintro e w2 ⟨rfl, S2⟩
      have HS2 := hidden (S1.out.2.trans S2.out.2 (fun i hi => .inl hi))
      go_wp2_with fail
      refine (HOC.out _ S2.out.1 (HTS.out _ HS2.out)).mono ?_
      rintro e w3 ⟨R3, c, rfl, Q3⟩
      go_wp2_with fail
      refine (HSY.out w2 w3 c S2.out.1 Q3.out (by have := HS2.out.size; omega)).mono ?_
      rintro e w4 ⟨R4, hr⟩
      cases hq : symsV L D M m most u O with
      | error z =>
        rw [hq] at hr
        obtain ⟨hz, rfl⟩ := hr
        have HQ := hidden hq
        clear hq
        go_wp2
        go_ret2
        unfold BlkE
        rw [HP2.out, HQ.out]
        exact ⟨HS2.out.trans R4.out (fun i hi => .inl hi), hz, _, rfl⟩
      | ok z =>
        obtain ⟨u2, Q⟩ := z
        rw [hq] at hr
        obtain ⟨rfl, hv⟩ := hr
        have HQ := hidden hq
        clear hq
        go_wp2
        go_ret2
        unfold BlkE
        rw [HP2.out, HQ.out, HX.out]
        refine ⟨HS2.out.trans R4.out (fun i hi => .inl hi), ?_, hv.out⟩
        rcases (show x = 0 ∨ x = 1 by omega) with rfl | rfl <;> rfl
  · have HP : blkF M m most t O = blkP M m most t O := by unfold blkF; rw [if_neg g]
    rw [HP]
    exact block_any B p b s v M m t O most w h hm hB h0 h1 (fun h3 h4 => g ⟨h3, h4⟩)

end Go.Proofs.YtkaibpibnkmmbaaDoor
