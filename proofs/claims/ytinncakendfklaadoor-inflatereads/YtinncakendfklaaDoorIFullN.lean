/-
  Plain numbers: every stream tells something.
-/
import Derived.Test.YtinncakendfklaaDoorIFix
import Derived.BigRegion
import Derived.OwnWalk
import Derived.Test.YtinncakendfklaaDoorISymsN
import Derived.Test.YtinncakendfklaaDoorIRep
import Derived.Test.YtinncakendfklaaDoorISyms

namespace Go.Proofs.YtinncakendfklaaDoor
open Go.RowKit
set_option maxRecDepth 100000
set_option linter.unusedVariables false

/-- A stream as it stands between blocks. -/
structure St (w : World) (B p b : Nat) (s v : Value) (M m t : Nat) (O : List Nat) (most : Int) : Prop where
  str : Str w p b s v M m t O most
  f3 : w.frozen? ⟨p, 3, none⟩ = false
  fx : Fx w B p b s v
  bp : B ≤ p
  bb : B ≤ b
  bv : ∀ k, v.ownBlock = some k → B ≤ k
  ol : O.length ≤ 258 * t

/-- How a block ends. -/
def BlkE (w : World) (B p b : Nat) (s : Value) (M m : Nat) (most : Int) (l : Bool) (r : Except Nat (Nat × List Nat)) (e : Ending) (w' : World) : Prop :=
  Step (fun k => B ≤ k) w w' ∧
  match r with
  | .error x => 0 < x ∧ ∃ q, e = .returned (.tuple #[.bool q, .int .i64 (x : Int)])
  | .ok (u, Q) => e = .returned (.tuple #[.bool l, .int .i64 0]) ∧ ∃ v', St w' B p b s v' M m u Q most

theorem Fx.beside {w w' : World} {B p b : Nat} {s v v' : Value} {M m t : Nat} {O : List Nat} {most : Int} (h : Fx w B p b s v) (hs : Step (Sb p b v) w w') (hk : Keep p w w') (hv : v'.ownBlock = v.ownBlock ∨ ∃ k, v'.ownBlock = some k ∧ w.heap.size ≤ k) : Fx w' B p b s v' := by
  rcases h with h | ⟨c, d1, d2, b1, b2, n1, n2, h1, h2, h3, h4, h5⟩
  · exact .inl (hk.1 _ h)
  · exact .inr ⟨c, d1, d2, b1, b2, n1, n2, hk.1 _ h1, h2.beside h3 hs, h3.grow h2 hv, h4, h5⟩

theorem St.took {w w' : World} {B p b : Nat} {s v : Value} {M m t t' : Nat} {O : List Nat} {most : Int} (h : St w B p b s v M m t O most) (T : Took w w' b s M m t') (ht : t ≤ t') : St w' B p b s v M m t' O most ∧ Step (fun k => B ≤ k) w w' := by
  obtain ⟨a1, a2, a3⟩ := h.str.took T
  refine ⟨⟨a1, a3.2.trans h.f3, h.fx.beside (M := M) (m := m) (t := t) (O := O) (most := most) a2 a3 (.inl rfl), h.bp, h.bb, h.bv, ?_⟩, T.2.mono (fun i hi => by subst hi; exact h.bb)⟩
  have := h.ol
  omega

theorem bv_grow {w : World} {B : Nat} {v v' : Value} (hB : B ≤ w.heap.size) (h : ∀ k, v.ownBlock = some k → B ≤ k) (hv : v'.ownBlock = v.ownBlock ∨ ∃ k, v'.ownBlock = some k ∧ w.heap.size ≤ k) : ∀ k, v'.ownBlock = some k → B ≤ k := by
  intro k hk
  rcases hv with e | ⟨j, e, hj⟩
  · exact h k (by rw [← e]; exact hk)
  · rw [e] at hk; have := Option.some.inj hk; omega

theorem storedP_len {M m t u : Nat} {most : Int} {O Q : List Nat} (h : storedP M m most t O = .ok (u, Q)) (ho : O.length ≤ 258 * t) : Q.length ≤ 258 * u := by
  unfold storedP at h
  simp only at h
  split at h
  · split at h
    · split at h
      · split at h
        · injection h with h
          injection h with h1 h2
          subst h1; subst h2
          rw [List.length_append, bytesOf_length]
          omega
        · cases h
      · cases h
    · cases h
  · cases h

theorem storedP_err {M m t x : Nat} {most : Int} {O : List Nat} (h : storedP M m most t O = .error x) : 0 < x := by
  unfold storedP at h
  simp only at h
  split at h
  · split at h
    · split at h
      · split at h
        · cases h
        · injection h with h; omega
      · injection h with h; omega
    · injection h with h; omega
  · injection h with h; omega

/-- stored, seen so. -/
theorem stored_st (B p b : Nat) (s v : Value) (M m t : Nat) (O : List Nat) (most : Int) (w : World) (h : St w B p b s v M m t O most) (hm : m ≤ 1000000) (hB : B ≤ w.heap.size) (h0 : 0 ≤ most) (h1 : most ≤ 9223372036854775807) :
    Calls Tryd.prog 28 #[.pointer (some ⟨p, 0, none⟩)] w fun e w' => Step (fun k => B ≤ k) w w' ∧
      match storedP M m most t O with
      | .error x => 0 < x ∧ e = .returned (.int .i64 (x : Int))
      | .ok (u, Q) => e = .returned (.int .i64 0) ∧ ∃ v', St w' B p b s v' M m u Q most := by
  have hle := h.str.rr.le
  have hol := h.ol
  refine (stored_any p b s v M m t O most w h.str hm (by omega) h0 h1).mono fun e w' he => ?_
  have hSb : ∀ i, Sb p b v i → B ≤ i := by
    rintro i (e | e | e)
    · rw [e]; exact h.bp
    · rw [e]; exact h.bb
    · exact h.bv i e
  unfold Ends at he
  cases hr : storedP M m most t O with
  | error x =>
    rw [hr] at he
    exact ⟨he.2.1.mono hSb, storedP_err hr, he.1⟩
  | ok z =>
    obtain ⟨u, Q⟩ := z
    rw [hr] at he
    obtain ⟨he, v', a1, a2, a3, a4⟩ := he
    refine ⟨a2.mono hSb, he, v', a1, a4.2.trans h.f3, h.fx.beside (M := M) (m := m) (t := t) (O := O) (most := most) a2 a4 a3, h.bp, h.bb, bv_grow hB h.bv a3, storedP_len hr hol⟩

/-- The symbols of a block by the fixed codes. -/
theorem symbols_st (B p b : Nat) (s v : Value) (M m t : Nat) (O : List Nat) (most : Int) (c d1 d2 b1 b2 n1 n2 : Nat) (w : World) (h : St w B p b s v M m t O most) (hm : m ≤ 1000000) (hB : B ≤ w.heap.size) (h0 : 0 ≤ most) (h1 : most ≤ 9223372036854775807)
    (hp : w.cell? ⟨p, 3, none⟩ = some (.pointer (some ⟨c, 0, none⟩))) (hc : Cod w c d1 d2 b1 b2 n1 n2 FL FD) (hb : BesC p b s v c d1 d2 b1 b2 FL FD) (x1 : B ≤ d1) (x2 : B ≤ d2) :
    Calls Tryd.prog 29 #[.pointer (some ⟨p, 0, none⟩), .pointer (some ⟨c, 0, none⟩)] w fun e w' => Step (fun k => B ≤ k) w w' ∧
      match symsV FL FD M m most t O with
      | .error x => 0 < x ∧ e = .returned (.int .i64 (x : Int))
      | .ok (u, Q) => e = .returned (.int .i64 0) ∧ ∃ v', St w' B p b s v' M m u Q most := by
  refine (symbols_any p b s v M m t O most c d1 d2 b1 b2 n1 n2 FL FD w h.str hc hb hm FL_ok FD_ok h.ol h0 h1).mono fun e w' ⟨he1, he2, he3⟩ => ?_
  have hSb : ∀ i, Sc p b v d1 d2 i → B ≤ i := by
    rintro i ((e | e | e) | e | e)
    · rw [e]; exact h.bp
    · rw [e]; exact h.bb
    · exact h.bv i e
    · rw [e]; exact x1
    · rw [e]; exact x2
  refine ⟨he1.mono hSb, ?_⟩
  cases hr : symsV FL FD M m most t O with
  | error x => rw [hr] at he3; exact he3
  | ok z =>
    obtain ⟨u, Q⟩ := z
    rw [hr] at he3
    obtain ⟨a1, ⟨v', a2, a3⟩, a4, a5⟩ := he3
    exact ⟨a1, v', a2, he2.2.trans h.f3, .inr ⟨c, d1, d2, b1, b2, n1, n2, he2.1 _ hp, a4, hb.grow hc a3, x1, x2⟩, h.bp, h.bb, bv_grow hB h.bv a3, a5⟩

set_option maxHeartbeats 8000000 in
theorem block_any (B p b : Nat) (s v : Value) (M m t : Nat) (O : List Nat) (most : Int) (w : World) (h : St w B p b s v M m t O most) (hm : m ≤ 1000000) (hB : B ≤ w.heap.size) (h0 : 0 ≤ most) (h1 : most ≤ 9223372036854775807) (hk2 : t + 3 ≤ 8 * m → M / 2 ^ (t + 1) % 4 ≠ 2) :
    Calls Tryd.prog 22 #[.pointer (some ⟨p, 0, none⟩)] w (BlkE w B p b s M m most (decide (M / 2 ^ t % 2 = 1)) (blkP M m most t O)) := by
  have H := hidden h
  have c0 := h.str.ci
  have hle := h.str.rr.le
  clear h
  by_cases g1 : t + 1 ≤ 8 * m
  · obtain ⟨x, hx, hx2⟩ : ∃ x, x = M / 2 ^ t % 2 ^ 1 ∧ x < 2 := ⟨_, rfl, Nat.mod_lt _ (by omega)⟩
    have HX : Hid (M / 2 ^ t % 2 = x) := hidden hx.symm
    have hG1 : Hid (Calls Tryd.prog 27 #[.pointer (some ⟨b, 0, none⟩), .int .i64 (1 : Nat)] w fun e w' => e = .returned (.tuple #[.int .i64 (x : Int), .int .i64 0]) ∧ (w'.cell? ⟨p, 0, none⟩ = some (.pointer (some ⟨b, 0, none⟩)) ∧ Hid (St w' B p b s v M m (t + 1) O most ∧ Step (fun k => B ≤ k) w w'))) :=
      hidden ((get_ok b s M m t 1 w H.out.str.rr (by omega) (by omega) (by omega)).mono fun e w' ⟨he, T⟩ => by
        rw [← hx] at he
        have hT := H.out.took T (by omega)
        exact ⟨he, hT.1.str.ci, hT⟩)
    clear hx
    by_cases g2 : t + 3 ≤ 8 * m
    · obtain ⟨k, hk, hk4⟩ : ∃ k, k = M / 2 ^ (t + 1) % 2 ^ 2 ∧ k < 4 := ⟨_, rfl, Nat.mod_lt _ (by omega)⟩
      have HK : Hid (M / 2 ^ (t + 1) % 4 = k) := hidden hk.symm
      have hkn : k ≠ 2 := by have := hk2 g2; rw [HK.out] at this; exact this
      have hG2 : Hid (∀ w1, St w1 B p b s v M m (t + 1) O most → Calls Tryd.prog 27 #[.pointer (some ⟨b, 0, none⟩), .int .i64 (2 : Nat)] w1 fun e w' => e = .returned (.tuple #[.int .i64 (k : Int), .int .i64 0]) ∧ Hid (St w' B p b s v M m (t + 3) O most ∧ Step (fun k => B ≤ k) w1 w')) :=
        hidden (fun w1 S1 => (get_ok b s M m (t + 1) 2 w1 S1.str.rr (by omega) (by omega) (by omega)).mono fun e w' ⟨he, T⟩ => by
          rw [← hk] at he
          exact ⟨he, S1.took T (by omega)⟩)
      clear hk hk2
      have HG2 := hidden g2
      rcases (show k = 0 ∨ k = 1 ∨ k = 3 by omega) with rfl | rfl | rfl
      · have HP : Hid (blkP M m most t O = storedP M m most (t + 3) O) := hidden (by unfold blkP; rw [if_pos g2, if_pos HK.out])
        have HST : Hid (∀ w1, St w1 B p b s v M m (t + 3) O most → B ≤ w1.heap.size → Calls Tryd.prog 28 #[.pointer (some ⟨p, 0, none⟩)] w1 fun e w' => Hid (Step (fun k => B ≤ k) w1 w') ∧
            match storedP M m most (t + 3) O with
            | .error x => 0 < x ∧ e = .returned (.int .i64 (x : Int))
            | .ok (u, Q) => e = .returned (.int .i64 0) ∧ Hid (∃ v', St w' B p b s v' M m u Q most)) := hidden (fun w1 S1 hB1 => stored_st B p b s v M m (t + 3) O most w1 S1 hm hB1 h0 h1)
        clear g2
        go_enter Tryd.func22, Tryd.ntmps22
        go_wp2_with fail
        refine hG1.out.mono ?_
        rintro e w1 ⟨rfl, c1, S1⟩
        go_wp2_with fail
        refine (hG2.out _ S1.out.1).mono ?_
        rintro e w2 ⟨rfl, S2⟩
        go_wp2_with fail
        refine (HST.out _ S2.out.1 (by have := S1.out.2.size; have := S2.out.2.size; omega)).mono ?_
        rintro e w3 ⟨S3, hr⟩
        cases hq : storedP M m most (t + 3) O with
        | error z =>
          rw [hq] at hr
          obtain ⟨hz, rfl⟩ := hr
          have HQ := hidden hq
          clear hq
          go_wp2
          go_ret2
          unfold BlkE
          rw [HP.out, HQ.out]
          exact ⟨(S1.out.2.trans S2.out.2 (fun i hi => .inl hi)).trans S3.out (fun i hi => .inl hi), hz, _, rfl⟩
        | ok z =>
          obtain ⟨u, Q⟩ := z
          rw [hq] at hr
          obtain ⟨rfl, hv⟩ := hr
          have HQ := hidden hq
          clear hq
          go_wp2
          go_ret2
          unfold BlkE
          rw [HP.out, HQ.out, HX.out]
          refine ⟨(S1.out.2.trans S2.out.2 (fun i hi => .inl hi)).trans S3.out (fun i hi => .inl hi), ?_, hv.out⟩
          rcases (show x = 0 ∨ x = 1 by omega) with rfl | rfl <;> rfl
      · have HP : Hid (blkP M m most t O = symsV FL FD M m most (t + 3) O) := hidden (by unfold blkP; rw [if_pos g2, if_neg (by rw [HK.out]; omega), if_pos HK.out])
        have HFX : Hid (∀ w1, St w1 B p b s v M m (t + 3) O most → B ≤ w1.heap.size → Calls Tryd.prog 30 #[.pointer (some ⟨p, 0, none⟩)] w1 fun e w' => ∃ c, e = .returned (.pointer (some ⟨c, 0, none⟩)) ∧ Hid (∃ d1 d2 b1 b2 n1 n2, w'.cell? ⟨p, 3, none⟩ = some (.pointer (some ⟨c, 0, none⟩)) ∧ Cod w' c d1 d2 b1 b2 n1 n2 FL FD ∧ BesC p b s v c d1 d2 b1 b2 FL FD ∧ B ≤ d1 ∧ B ≤ d2 ∧ St w' B p b s v M m (t + 3) O most ∧ Step (fun k => B ≤ k) w1 w')) :=
          hidden (fun w1 S1 hB1 => (fixed_any B p b s v M m (t + 3) O most w1 S1.str S1.f3 S1.fx hB1).mono fun e w' ⟨c, d1, d2, b1, b2, n1, n2, he, a1, a2, a3, a4, a5, a6, a7, a8⟩ =>
            ⟨c, he, d1, d2, b1, b2, n1, n2, a1, a3, a4, a5, a6, ⟨a7, a2, .inr ⟨c, d1, d2, b1, b2, n1, n2, a1, a3, a4, a5, a6⟩, S1.bp, S1.bb, S1.bv, S1.ol⟩, a8.mono (fun i hi => by rw [hi]; exact S1.bp)⟩)
        have HST : Hid (∀ w1 c, (∃ d1 d2 b1 b2 n1 n2, w1.cell? ⟨p, 3, none⟩ = some (.pointer (some ⟨c, 0, none⟩)) ∧ Cod w1 c d1 d2 b1 b2 n1 n2 FL FD ∧ BesC p b s v c d1 d2 b1 b2 FL FD ∧ B ≤ d1 ∧ B ≤ d2 ∧ St w1 B p b s v M m (t + 3) O most) → B ≤ w1.heap.size → Calls Tryd.prog 29 #[.pointer (some ⟨p, 0, none⟩), .pointer (some ⟨c, 0, none⟩)] w1 fun e w' => Hid (Step (fun k => B ≤ k) w1 w') ∧
            match symsV FL FD M m most (t + 3) O with
            | .error x => 0 < x ∧ e = .returned (.int .i64 (x : Int))
            | .ok (u, Q) => e = .returned (.int .i64 0) ∧ Hid (∃ v', St w' B p b s v' M m u Q most)) :=
          hidden (fun w1 c ⟨d1, d2, b1, b2, n1, n2, a1, a3, a4, a5, a6, S1⟩ hB1 => symbols_st B p b s v M m (t + 3) O most c d1 d2 b1 b2 n1 n2 w1 S1 hm hB1 h0 h1 a1 a3 a4 a5 a6)
        clear g2
        go_enter Tryd.func22, Tryd.ntmps22
        go_wp2_with fail
        refine hG1.out.mono ?_
        rintro e w1 ⟨rfl, c1, S1⟩
        go_wp2_with fail
        refine (hG2.out _ S1.out.1).mono ?_
        rintro e w2 ⟨rfl, S2⟩
        have hB2 : Hid (B ≤ w2.heap.size) := hidden (by have := S1.out.2.size; have := S2.out.2.size; omega)
        go_wp2_with fail
        refine (HFX.out _ S2.out.1 hB2.out).mono ?_
        rintro e w3 ⟨c, rfl, S3⟩
        have S3a : Hid (Step (fun k => B ≤ k) w2 w3) := hidden (by obtain ⟨d1, d2, b1, b2, n1, n2, a1, a3, a4, a5, a6, a7, a8⟩ := S3.out; exact a8)
        have S3b : Hid (∃ d1 d2 b1 b2 n1 n2, w3.cell? ⟨p, 3, none⟩ = some (.pointer (some ⟨c, 0, none⟩)) ∧ Cod w3 c d1 d2 b1 b2 n1 n2 FL FD ∧ BesC p b s v c d1 d2 b1 b2 FL FD ∧ B ≤ d1 ∧ B ≤ d2 ∧ St w3 B p b s v M m (t + 3) O most) := hidden (by obtain ⟨d1, d2, b1, b2, n1, n2, a1, a3, a4, a5, a6, a7, a8⟩ := S3.out; exact ⟨d1, d2, b1, b2, n1, n2, a1, a3, a4, a5, a6, a7⟩)
        clear S3
        go_wp2_with fail
        refine (HST.out _ c S3b.out (by have := hB2.out; have := S3a.out.size; omega)).mono ?_
        rintro e w4 ⟨S4, hr⟩
        cases hq : symsV FL FD M m most (t + 3) O with
        | error z =>
          rw [hq] at hr
          obtain ⟨hz, rfl⟩ := hr
          have HQ := hidden hq
          clear hq
          go_wp2
          go_ret2
          unfold BlkE
          rw [HP.out, HQ.out]
          exact ⟨((S1.out.2.trans S2.out.2 (fun i hi => .inl hi)).trans S3a.out (fun i hi => .inl hi)).trans S4.out (fun i hi => .inl hi), hz, _, rfl⟩
        | ok z =>
          obtain ⟨u, Q⟩ := z
          rw [hq] at hr
          obtain ⟨rfl, hv⟩ := hr
          have HQ := hidden hq
          clear hq
          go_wp2
          go_ret2
          unfold BlkE
          rw [HP.out, HQ.out, HX.out]
          refine ⟨((S1.out.2.trans S2.out.2 (fun i hi => .inl hi)).trans S3a.out (fun i hi => .inl hi)).trans S4.out (fun i hi => .inl hi), ?_, hv.out⟩
          rcases (show x = 0 ∨ x = 1 by omega) with rfl | rfl <;> rfl
      · have HP : Hid (blkP M m most t O = .error 3) := hidden (by unfold blkP; rw [if_pos g2, if_neg (by rw [HK.out]; omega), if_neg (by rw [HK.out]; omega)])
        clear g2
        go_enter Tryd.func22, Tryd.ntmps22
        go_wp2_with fail
        refine hG1.out.mono ?_
        rintro e w1 ⟨rfl, c1, S1⟩
        go_wp2_with fail
        refine (hG2.out _ S1.out.1).mono ?_
        rintro e w2 ⟨rfl, S2⟩
        go_wp2
        go_ret2
        unfold BlkE
        rw [HP.out]
        exact ⟨S1.out.2.trans S2.out.2 (fun i hi => .inl hi), by omega, _, rfl⟩
    · have HP : Hid (blkP M m most t O = .error 2) := hidden (by unfold blkP; rw [if_neg g2])
      have hG2 : Hid (∀ w1, St w1 B p b s v M m (t + 1) O most → Calls Tryd.prog 27 #[.pointer (some ⟨b, 0, none⟩), .int .i64 (2 : Nat)] w1 fun e w' => e = .returned (.tuple #[.int .i64 0, .int .i64 2]) ∧ Hid (Step (fun k => B ≤ k) w1 w')) :=
        hidden (fun w1 S1 => (get_short b s M m (t + 1) 2 w1 S1.str.rr (by omega) (by omega) (by omega)).mono fun e w' ⟨he, q, hq⟩ => by
          subst hq
          exact ⟨he, (Step.refl _ w1).drewN q⟩)
      clear g2 hk2
      go_enter Tryd.func22, Tryd.ntmps22
      go_wp2_with fail
      refine hG1.out.mono ?_
      rintro e w1 ⟨rfl, c1, S1⟩
      go_wp2_with fail
      refine (hG2.out _ S1.out.1).mono ?_
      rintro e w2 ⟨rfl, S2⟩
      go_wp2
      go_ret2
      unfold BlkE
      rw [HP.out]
      exact ⟨S1.out.2.trans S2.out (fun i hi => .inl hi), by omega, _, rfl⟩
  · have HP : Hid (blkP M m most t O = .error 2) := hidden (by unfold blkP; rw [if_neg (by omega)])
    have hG1 : Hid (Calls Tryd.prog 27 #[.pointer (some ⟨b, 0, none⟩), .int .i64 (1 : Nat)] w fun e w' => e = .returned (.tuple #[.int .i64 0, .int .i64 2]) ∧ Hid (Step (fun k => B ≤ k) w w')) :=
      hidden ((get_short b s M m t 1 w H.out.str.rr (by omega) (by omega) (by omega)).mono fun e w' ⟨he, q, hq⟩ => by
        subst hq
        exact ⟨he, (Step.refl _ w).drewN q⟩)
    clear g1 hk2
    go_enter Tryd.func22, Tryd.ntmps22
    go_wp2_with fail
    refine hG1.out.mono ?_
    rintro e w1 ⟨rfl, S1⟩
    go_wp2
    go_ret2
    unfold BlkE
    rw [HP.out]
    exact ⟨S1.out, by omega, _, rfl⟩

end Go.Proofs.YtinncakendfklaaDoor

namespace Go.Proofs.YtinncakendfklaaDoor
open Go.RowKit
set_option maxRecDepth 100000
set_option linter.unusedVariables false

theorem Step.fresh {w w' : World} (h : Step (fun k => w.heap.size ≤ k) w w') : Step (fun _ => False) w w' := (Step.refl (fun _ => False) w).trans h (fun _ hi => .inr hi)

/-- A new stream. -/
theorem St.new {w w1 : World} {b : Nat} {s : Value} {M m : Nat} (most : Int) (hr : Rr w1 b s M m 0) (hs : Step (fun _ => False) w w1) (hb : w.heap.size ≤ b) (t : TypeId) :
    St (w1.alloc (.cells #[.pointer (some ⟨b, 0, none⟩), .slice none 0 0, .int .i64 most, .pointer none] t)) w.heap.size w1.heap.size b s (.slice none 0 0) M m 0 [] most := by
  have hS : Step (fun _ => False) w1 (w1.alloc (.cells #[.pointer (some ⟨b, 0, none⟩), .slice none 0 0, .int .i64 most, .pointer none] t)) := (Step.refl _ w1).alloc _
  have hbl : b < w1.heap.size := World.block_lt_of_cell? w1 _ hr.ins
  have hc : ∀ k u, #[Value.pointer (some ⟨b, 0, none⟩), .slice none 0 0, .int .i64 most, .pointer none][k]? = some u → (w1.alloc (.cells #[.pointer (some ⟨b, 0, none⟩), .slice none 0 0, .int .i64 most, .pointer none] t)).cell? ⟨w1.heap.size, k, none⟩ = some u := fun k u h => by rw [World.cell?_alloc_at _ _ _ _ rfl]; exact h
  refine ⟨⟨hc 0 _ rfl, hr.step hS (fun h => h) (fun _ _ h => h), ⟨hc 1 _ rfl, hc 2 _ rfl, World.frozen?_alloc_at _ _ _ _ rfl, World.ownsRow_nil _ _ _ _, by simp [Value.ownBlock], by simp [capOf], fun _ h => by cases h⟩, by omega, ?_, by simp [Value.ownBlock], fun k hk => by simp [Value.ownBlock] at hk⟩, World.frozen?_alloc_at _ _ _ _ rfl, .inl (hc 3 _ rfl), hs.size, hb, fun k hk => by simp [Value.ownBlock] at hk, by simp⟩
  intro e
  have := (hr.own.lt _ e).2
  omega

/-- What Bytes answers. -/
def BytesE (w : World) (r : Except Nat (Nat × List Nat)) (e : Ending) (w' : World) : Prop :=
  Step (fun _ => False) w w' ∧
  match r with
  | .error x => 0 < x ∧ e = .returned (.tuple #[.slice none 0 0, .int .i64 0, .int .i64 (x : Int)])
  | .ok (u, Q) => ∃ v, e = .returned (.tuple #[v, .int .i64 (((u + 7) / 8 : Nat) : Int), .int .i64 0]) ∧ Rd w' v Q ∧ (∀ y ∈ Q, y < 256) ∧ (∀ a n c, v = .slice (some a) n c → w.heap.size ≤ a.block) ∧ Q.length ≤ 258 * u ∧ u ≤ 8000000

set_option maxHeartbeats 1000000 in
theorem bytes_neg (v : Value) (most : Int) (w : World) (h : most < 0) (ao : Option Addr) (n c : Nat) (hv : v = .slice ao n c) : Calls Tryd.prog 13 #[v, .int .i64 most] w (BytesE w (.error 1)) := by
  subst hv
  go_enter Tryd.func13, Tryd.ntmps13
  go_wp2
  go_ret3
  exact ⟨Step.refl _ _, by omega, rfl⟩

set_option maxHeartbeats 4000000 in
theorem bytes_any (vb : Value) (M m : Nat) (most : Int) (n : Nat) (r : Except Nat (Nat × List Nat)) (w : World) (h : Rd w vb (bytesOf M m)) (hm : m ≤ 1000000) (h0 : 0 ≤ most) (h1 : most ≤ 9223372036854775807) (hr : Blks M m most n 0 [] r) :
    Calls Tryd.prog 13 #[vb, .int .i64 most] w (BytesE w r) := by
  have HR := hidden hr
  have HO : Hid (Calls Tryd.prog 21 #[vb] w fun e w' => ∃ b, e = .returned (.pointer (some ⟨b, 0, none⟩)) ∧ Hid (∃ s, Rr w' b s M m 0 ∧ Step (fun _ => False) w w' ∧ w.heap.size ≤ b)) := hidden ((of_any vb M m w h (by omega)).mono fun e w' ⟨b, s, he, h1, h2, h3, _⟩ => ⟨b, he, s, h1, h2, h3⟩)
  obtain ⟨ao, cap, rfl, _, _⟩ := h
  have HBK : Hid (∀ w1 p b s v t O, St w1 w.heap.size p b s v M m t O most → w.heap.size ≤ w1.heap.size → (t + 3 ≤ 8 * m → M / 2 ^ (t + 1) % 4 ≠ 2) → Calls Tryd.prog 22 #[.pointer (some ⟨p, 0, none⟩)] w1 (BlkE w1 w.heap.size p b s M m most (decide (M / 2 ^ t % 2 = 1)) (blkP M m most t O))) :=
    hidden (fun w1 p b s v t O S1 hB hk => block_any w.heap.size p b s v M m t O most w1 S1 hm hB h0 h1 hk)
  clear hr
  go_enter Tryd.func13, Tryd.ntmps13
  go_wp2_with fail
  refine HO.out.mono ?_
  rintro e w1 ⟨b, rfl, S1⟩
  obtain ⟨s, r1, r2, r3⟩ := S1.out
  have HS0 := hidden (St.new most r1 r2 r3 54)
  have HW0 := hidden (r2.alloc (.cells #[.pointer (some ⟨b, 0, none⟩), .slice none 0 0, .int .i64 most, .pointer none] 54))
  generalize hp : w1.heap.size = p at *
  clear S1 r1 r2 r3 HO
  go_wp2
  go_loopg [8, 9] (n + 1) (fun k l e wr => Hid (Step (fun _ => False) w wr) ∧ ((l = .bool false ∧ ∃ u Q v k', k = k' + 1 ∧ Hid (Blks M m most k' u Q r ∧ St wr w.heap.size p b s v M m u Q most)) ∨ (l = .bool true ∧ ∃ u Q v, Hid (r = .ok (u, Q) ∧ St wr w.heap.size p b s v M m u Q most))))
  case atStart => exact ⟨HW0.out, .inl ⟨rfl, 0, [], _, n, rfl, HR.out, HS0.out⟩⟩
  case round =>
    obtain ⟨HS, hq⟩ := hrel
    rcases hq with ⟨rfl, u, Q, v, k', rfl, HH⟩ | ⟨rfl, u, Q, v, HH⟩
    · obtain ⟨hb, hst⟩ := HH.out
      have HST := hidden hst
      have HB := hidden hb
      clear hst HH
      cases hb with
      | @bad _ _ x _ hk hx =>
        have HC := hidden (HBK.out _ p b s v u Q HST.out HS.out.size hk)
        rw [hx] at HC
        clear hk hx
        go_wp2_with fail
        refine HC.out.mono ?_
        rintro e w2 ⟨S2, hz, q, rfl⟩
        have HS2 := hidden S2
        have hb : ((x : Int) != 0) = true := by rw [bne_iff_ne]; omega
        clear S2
        go_wp2
        go_ret3
        exact ⟨(HS.out.trans HS2.out (fun i hi => .inr hi)), hz, rfl⟩
      | @last _ _ u2 _ Q2 hk hl hx =>
        have HC := hidden (HBK.out _ p b s v u Q HST.out HS.out.size (fun _ => hk))
        rw [hx, decide_eq_true hl] at HC
        clear hk hx hl
        go_wp2_with fail
        refine HC.out.mono ?_
        rintro e w2 ⟨S2, rfl, v2, hv2⟩
        have HS2 := hidden (And.intro S2 hv2)
        clear S2 hv2
        go_wp2
        go_roundg 0
        case measure => omega
        case rel => exact ⟨(HS.out.trans HS2.out.1 (fun i hi => .inr hi)), .inr ⟨rfl, u2, Q2, v2, rfl, HS2.out.2⟩⟩
      | @more k2 _ u2 _ Q2 _ hk hl hx hn =>
        have HC := hidden (HBK.out _ p b s v u Q HST.out HS.out.size (fun _ => hk))
        rw [hx, decide_eq_false (by omega)] at HC
        have HN := hidden hn
        clear hk hx hl hn
        go_wp2_with fail
        refine HC.out.mono ?_
        rintro e w2 ⟨S2, rfl, v2, hv2⟩
        have HS2 := hidden (And.intro S2 hv2)
        clear S2 hv2
        go_wp2
        go_roundg (k2 + 1)
        case measure => omega
        case rel => exact ⟨(HS.out.trans HS2.out.1 (fun i hi => .inr hi)), .inl ⟨rfl, u2, Q2, v2, k2, rfl, HN.out, HS2.out.2⟩⟩
    · have HST := hidden HH.out.2
      have HRR := hidden HH.out.1
      have ca := HH.out.2.str.ci
      have cb := HH.out.2.str.ou.co
      obtain ⟨va, vc, hv⟩ := own_slice HH.out.2.str.ou.ow
      subst hv
      have HAL : Hid (∀ W, Step (fun _ => False) wr W → Calls Tryd.prog 23 #[.pointer (some ⟨b, 0, none⟩)] W fun e w' => e = .returned (.int .i64 (((u + 7) / 8 : Nat) : Int)) ∧ w'.cell? ⟨p, 1, none⟩ = some (.slice va Q.length vc) ∧ Hid (Step (fun _ => False) w w' ∧ Rd w' (.slice va Q.length vc) Q)) :=
        hidden (fun W hW => (ralign_any b s M m u W (HST.out.str.made hW).rr (by omega)).mono fun e w' ⟨he, T⟩ => by
          have S2 := (HST.out.str.made hW).took T
          exact ⟨he, S2.1.ou.co, (HS.out.made hW).trans T.2 (fun i hi => .inr (by rw [hi]; exact HST.out.bb)), Rd.of_own S2.1.ou.ow⟩)
      clear HH
      generalize hql : Q.length = ql at *
      go_wp2
      go_region_with (first
        | (go_at_call 23; refine (HAL.out _ (by first | exact Step.refl _ _ | exact (Step.refl _ _).drew | exact (Step.refl _ _).drewN _)).mono ?_; rintro e W1 ⟨rfl, cb2, X1⟩))
      all_goals
        go_wp2
        go_ret3
        rw [HRR.out]
        have hle := HST.out.str.rr.le
        refine ⟨X1.out.1, _, rfl, X1.out.2, HST.out.str.ou.by_, fun a n c e => ?_, HST.out.ol, by omega⟩
        injection e with e1
        subst e1
        exact HST.out.bv _ rfl

end Go.Proofs.YtinncakendfklaaDoor

namespace Go.Proofs.YtinncakendfklaaDoor
set_option linter.unusedVariables false

/-- The order in which the lengths of lengths' codes come. -/
def ordL : List Nat := [16, 17, 18, 0, 8, 7, 9, 6, 10, 5, 11, 4, 12, 3, 13, 2, 14, 1, 15]
def ord (k : Nat) : Nat := ordL.getD k 0

theorem ord_lt : ∀ k, ord k < 19 := by
  intro k
  by_cases h : k < 19
  · have : ∀ k, k < 19 → ord k < 19 := by decide
    exact this k h
  · unfold ord
    rw [List.getD_eq_getElem?_getD, List.getElem?_eq_none (by simp [ordL]; omega)]
    decide

/-- The lengths of the lengths' codes when k of them were read. -/
def clF (M t : Nat) : Nat → Nat → Int
  | 0, _ => 0
  | k + 1, j => if j = ord k then ((M / 2 ^ (t + 3 * k) % 8 : Nat) : Int) else clF M t k j
def clL (M t k : Nat) : List Int := (List.range 19).map (clF M t k)

theorem clF_bd (M t : Nat) : ∀ k j, 0 ≤ clF M t k j ∧ clF M t k j ≤ 7
  | 0, _ => by simp [clF]
  | k + 1, j => by
    have ih := clF_bd M t k j
    have h8 : M / 2 ^ (t + 3 * k) % 8 < 8 := Nat.mod_lt _ (by omega)
    simp only [clF]
    split
    · exact ⟨by omega, by omega⟩
    · exact ih

theorem clL_length (M t k : Nat) : (clL M t k).length = 19 := by simp [clL]
theorem clL_getD (M t k j : Nat) (h : j < 19) : (clL M t k).getD j 0 = clF M t k j := by simp [clL, List.getD, h]

/-- How many lengths a symbol of lengths tells. -/
def timP (M m x t : Nat) : Except Nat (Nat × Nat) :=
  if x = 16 then numP M m t 3 2 else if x = 17 then numP M m t 3 3 else if x = 18 then numP M m t 11 7 else .ok (1, t)

/-- What holds of it. -/
def TimOk (m t : Nat) : Except Nat (Nat × Nat) → Prop
  | .error x => x = 2
  | .ok (y, u) => 1 ≤ y ∧ y ≤ 138 ∧ t ≤ u ∧ u ≤ 8 * m

theorem timP_ok (M m x t : Nat) (ht : t ≤ 8 * m) : TimOk m t (timP M m x t) := by
  have key : ∀ l n, 1 ≤ l → l + 2 ^ n ≤ 139 → TimOk m t (numP M m t l n) := by
    intro l n h1 h2
    unfold numP
    by_cases g : t + n ≤ 8 * m
    · rw [if_pos g]
      have := Nat.mod_lt (M / 2 ^ t) (Nat.two_pow_pos n)
      exact ⟨by omega, by omega, by omega, g⟩
    · rw [if_neg g]; rfl
  unfold timP
  split
  · exact key 3 2 (by omega) (by decide)
  · split
    · exact key 3 3 (by omega) (by decide)
    · split
      · exact key 11 7 (by omega) (by decide)
      · exact ⟨by omega, by omega, by omega, ht⟩

/-- Which length it tells, behind those that were told. -/
def lenOf (x : Nat) (A : List Int) : Int := if x = 16 then A.getD (A.length - 1) 0 else if 16 < x then 0 else (x : Int)

theorem lenOf_nonneg (x : Nat) (A : List Int) (h : ∀ y ∈ A, 0 ≤ y) : 0 ≤ lenOf x A := by
  unfold lenOf
  split
  · rw [List.getD_eq_getElem?_getD]
    cases hq : A[A.length - 1]? with
    | none => simp
    | some q => exact h q (List.mem_of_getElem? hq)
  · split <;> omega
theorem more_nonneg {x n : Nat} {A : List Int} {l : Int} (h : ∀ y ∈ A, 0 ≤ y) (hl : lenOf x A = l) : ∀ y ∈ A ++ List.replicate n l, 0 ≤ y := by
  intro y hy
  rcases List.mem_append.1 hy with e | e
  · exact h y e
  · rw [List.eq_of_mem_replicate e, ← hl]; exact lenOf_nonneg x A h

/-- What lengths are read, by codes C, until there are so many. -/
inductive Lens (C : List Int) (M m many : Nat) : Nat → List Int → Except Nat (Nat × List Int) → Prop
  | done {t : Nat} {A : List Int} : many ≤ A.length → Lens C M m many t A (.ok (t, A))
  | bad {t e : Nat} {A : List Int} : A.length < many → symV C M m t = .error e → Lens C M m many t A (.error e)
  | first {t u : Nat} {A : List Int} : A.length < many → symV C M m t = .ok (16, u) → A.length = 0 → Lens C M m many t A (.error 3)
  | short {t u x e : Nat} {A : List Int} : A.length < many → symV C M m t = .ok (x, u) → ¬ (x = 16 ∧ A.length = 0) → timP M m x u = .error e → Lens C M m many t A (.error e)
  | over {t u x n u2 : Nat} {A : List Int} : A.length < many → symV C M m t = .ok (x, u) → ¬ (x = 16 ∧ A.length = 0) → timP M m x u = .ok (n, u2) → many - A.length < n → Lens C M m many t A (.error 3)
  | more {t u x n u2 : Nat} {A : List Int} {r : Except Nat (Nat × List Int)} : A.length < many → symV C M m t = .ok (x, u) → ¬ (x = 16 ∧ A.length = 0) → timP M m x u = .ok (n, u2) → n ≤ many - A.length → Lens C M m many u2 (A ++ List.replicate n (lenOf x A)) r → Lens C M m many t A r

theorem Lens.one {C : List Int} {M m many t : Nat} {A : List Int} {r r' : Except Nat (Nat × List Int)} (a : Lens C M m many t A r) (b : Lens C M m many t A r') : r = r' := by
  induction a with
  | done h =>
    cases b with
    | done _ => rfl
    | bad h2 => omega
    | first h2 => omega
    | short h2 => omega
    | over h2 => omega
    | more h2 => omega
  | bad h hs =>
    cases b with
    | done h2 => omega
    | bad _ h2 => rw [hs] at h2; injection h2 with h2; rw [h2]
    | first _ h2 => rw [hs] at h2; cases h2
    | short _ h2 => rw [hs] at h2; cases h2
    | over _ h2 => rw [hs] at h2; cases h2
    | more _ h2 => rw [hs] at h2; cases h2
  | first h hs hz =>
    cases b with
    | done h2 => omega
    | bad _ h2 => rw [hs] at h2; cases h2
    | first _ _ _ => rfl
    | short _ h2 hn => obtain ⟨e1, _⟩ := ok_inj rfl hs h2; exact absurd ⟨e1.symm, hz⟩ hn
    | over _ h2 hn => obtain ⟨e1, _⟩ := ok_inj rfl hs h2; exact absurd ⟨e1.symm, hz⟩ hn
    | more _ h2 hn => obtain ⟨e1, _⟩ := ok_inj rfl hs h2; exact absurd ⟨e1.symm, hz⟩ hn
  | short h hs hn ht =>
    cases b with
    | done h2 => omega
    | bad _ h2 => rw [hs] at h2; cases h2
    | first _ h2 hz => obtain ⟨e1, _⟩ := ok_inj rfl hs h2; exact absurd ⟨e1, hz⟩ hn
    | short _ h2 _ ht2 => obtain ⟨rfl, rfl⟩ := ok_inj rfl hs h2; rw [ht] at ht2; injection ht2 with ht2; rw [ht2]
    | over _ h2 _ ht2 => obtain ⟨rfl, rfl⟩ := ok_inj rfl hs h2; rw [ht] at ht2; cases ht2
    | more _ h2 _ ht2 => obtain ⟨rfl, rfl⟩ := ok_inj rfl hs h2; rw [ht] at ht2; cases ht2
  | over h hs hn ht ho =>
    cases b with
    | done h2 => omega
    | bad _ h2 => rw [hs] at h2; cases h2
    | first _ h2 hz => rfl
    | short _ h2 _ ht2 => obtain ⟨rfl, rfl⟩ := ok_inj rfl hs h2; rw [ht] at ht2; cases ht2
    | over _ _ _ _ _ => rfl
    | more _ h2 _ ht2 ho2 => obtain ⟨rfl, rfl⟩ := ok_inj rfl hs h2; obtain ⟨rfl, _⟩ := ok_inj rfl ht ht2; omega
  | more h hs hn ht ho _ ih =>
    cases b with
    | done h2 => omega
    | bad _ h2 => rw [hs] at h2; cases h2
    | first _ h2 hz => obtain ⟨e1, _⟩ := ok_inj rfl hs h2; exact absurd ⟨e1, hz⟩ hn
    | short _ h2 _ ht2 => obtain ⟨rfl, rfl⟩ := ok_inj rfl hs h2; rw [ht] at ht2; cases ht2
    | over _ h2 _ ht2 ho2 => obtain ⟨rfl, rfl⟩ := ok_inj rfl hs h2; obtain ⟨rfl, _⟩ := ok_inj rfl ht ht2; omega
    | more _ h2 _ ht2 _ hr =>
      obtain ⟨rfl, rfl⟩ := ok_inj rfl hs h2
      obtain ⟨rfl, rfl⟩ := ok_inj rfl ht ht2
      exact ih hr

noncomputable def lensV (C : List Int) (M m many t : Nat) : Except Nat (Nat × List Int) := Classical.epsilon (Lens C M m many t [])
theorem Lens.val {C : List Int} {M m many t : Nat} {r : Except Nat (Nat × List Int)} (h : Lens C M m many t [] r) : lensV C M m many t = r :=
  (Classical.epsilon_spec ⟨r, h⟩ : Lens C M m many t [] (lensV C M m many t)).one h

/-- Lengths, as codes of literals (so many) and of distances. -/
def ownA (lit u : Nat) (A : List Int) : Except Nat (Nat × List Int × List Int) :=
  if A.getD 256 0 = 0 then .error 3
  else if newErr (A.take lit) ≠ 0 then .error (newErr (A.take lit)).toNat
  else if newErr (A.drop lit) ≠ 0 then .error (newErr (A.drop lit)).toNat
  else .ok (u, A.take lit, A.drop lit)
def ownB (lit : Nat) : Except Nat (Nat × List Int) → Except Nat (Nat × List Int × List Int)
  | .error e => .error e
  | .ok (u, A) => ownA lit u A
noncomputable def ownC (M m t h2 h3 h4 : Nat) : Except Nat (Nat × List Int × List Int) :=
  if 286 < h2 + 257 ∨ 30 < h3 + 1 then .error 3
  else if t + 14 + 3 * (h4 + 4) ≤ 8 * m then
    if newErr (clL M (t + 14) (h4 + 4)) = 0 then ownB (h2 + 257) (lensV (clL M (t + 14) (h4 + 4)) M m (h2 + 257 + (h3 + 1)) (t + 14 + 3 * (h4 + 4)))
    else .error (newErr (clL M (t + 14) (h4 + 4))).toNat
  else .error 2
/-- The codes that a block of kind 2 begins with: an error, or the lengths of literals and of distances, and the next bit. -/
noncomputable def ownP (M m t : Nat) : Except Nat (Nat × List Int × List Int) :=
  if t + 14 ≤ 8 * m then ownC M m t (M / 2 ^ t % 16384 % 32) (M / 2 ^ t % 16384 / 32 % 32) (M / 2 ^ t % 16384 / 1024) else .error 2

end Go.Proofs.YtinncakendfklaaDoor

namespace Go.Proofs.YtinncakendfklaaDoor
open Go.RowKit
set_option maxRecDepth 100000
set_option linter.unusedVariables false

set_option maxHeartbeats 1000000 in
theorem times_any (p b : Nat) (s v : Value) (M m t : Nat) (O : List Nat) (most : Int) (x : Nat) (w : World) (h : Str w p b s v M m t O most) (hm : m ≤ 1000000) (hx : x ≤ 1000) :
    Calls Tryd.prog 63 #[.pointer (some ⟨p, 0, none⟩), .int .i64 x] w fun e w' => NumE w p b s v M m O most (timP M m x t) e w' := by
  have H := hidden h
  have HN := hidden (fun (l n : Nat) (hl : l ≤ 100) (hn : n ≤ 10) => number_any p b s v M m t O most l n w h hm (by omega) (by omega))
  clear h
  by_cases g1 : x = 16
  · subst g1
    have HP : Hid (timP M m 16 t = numP M m t 3 2) := hidden (by unfold timP; rw [if_pos rfl])
    have HC := hidden (HN.out 3 2 (by omega) (by omega))
    go_enter Tryd.func63, Tryd.ntmps63
    go_wp2_with fail
    refine HC.out.mono ?_
    rintro e w1 ⟨S1, hr⟩
    cases hq : numP M m t 3 2 with
    | error z =>
      rw [hq] at hr
      have HR := hidden hr
      have HQ := hidden hq
      subst hr
      have HS := hidden S1
      clear S1 hq
      go_wp2
      go_ret2
      rw [HP.out, HQ.out]
      exact ⟨HS.out, rfl⟩
    | ok z =>
      obtain ⟨y, u⟩ := z
      rw [hq] at hr
      obtain ⟨rfl, hst⟩ := hr
      have HQ := hidden hq
      have HS := hidden (And.intro S1 hst)
      clear S1 hq hst
      go_wp2
      go_ret2
      rw [HP.out, HQ.out]
      exact ⟨HS.out.1, rfl, HS.out.2⟩
  · have b1 : ((x : Int) == 16) = false := by rw [beq_eq_false_iff_ne]; omega
    by_cases g2 : x = 17
    · subst g2
      have HP : Hid (timP M m 17 t = numP M m t 3 3) := hidden (by unfold timP; rw [if_neg (by omega), if_pos rfl])
      have HC := hidden (HN.out 3 3 (by omega) (by omega))
      clear b1 g1
      go_enter Tryd.func63, Tryd.ntmps63
      go_wp2_with fail
      refine HC.out.mono ?_
      rintro e w1 ⟨S1, hr⟩
      cases hq : numP M m t 3 3 with
      | error z =>
        rw [hq] at hr
        have HQ := hidden hq
        subst hr
        have HS := hidden S1
        clear S1 hq
        go_wp2
        go_ret2
        rw [HP.out, HQ.out]
        exact ⟨HS.out, rfl⟩
      | ok z =>
        obtain ⟨y, u⟩ := z
        rw [hq] at hr
        obtain ⟨rfl, hst⟩ := hr
        have HQ := hidden hq
        have HS := hidden (And.intro S1 hst)
        clear S1 hq hst
        go_wp2
        go_ret2
        rw [HP.out, HQ.out]
        exact ⟨HS.out.1, rfl, HS.out.2⟩
    · have b2 : ((x : Int) == 17) = false := by rw [beq_eq_false_iff_ne]; omega
      by_cases g3 : x = 18
      · subst g3
        have HP : Hid (timP M m 18 t = numP M m t 11 7) := hidden (by unfold timP; rw [if_neg (by omega), if_neg (by omega), if_pos rfl])
        have HC := hidden (HN.out 11 7 (by omega) (by omega))
        clear b1 g1 b2 g2
        go_enter Tryd.func63, Tryd.ntmps63
        go_wp2_with fail
        refine HC.out.mono ?_
        rintro e w1 ⟨S1, hr⟩
        cases hq : numP M m t 11 7 with
        | error z =>
          rw [hq] at hr
          have HQ := hidden hq
          subst hr
          have HS := hidden S1
          clear S1 hq
          go_wp2
          go_ret2
          rw [HP.out, HQ.out]
          exact ⟨HS.out, rfl⟩
        | ok z =>
          obtain ⟨y, u⟩ := z
          rw [hq] at hr
          obtain ⟨rfl, hst⟩ := hr
          have HQ := hidden hq
          have HS := hidden (And.intro S1 hst)
          clear S1 hq hst
          go_wp2
          go_ret2
          rw [HP.out, HQ.out]
          exact ⟨HS.out.1, rfl, HS.out.2⟩
      · have b3 : ((x : Int) == 18) = false := by rw [beq_eq_false_iff_ne]; omega
        have HP : Hid (timP M m x t = .ok (1, t)) := hidden (by unfold timP; rw [if_neg g1, if_neg g2, if_neg g3])
        go_enter Tryd.func63, Tryd.ntmps63
        go_wp2
        go_ret2
        rw [HP.out]
        exact ⟨Step.refl _ _, rfl, H.out⟩

/-- How lengths ends. -/
def LensE (w : World) (p b : Nat) (s v : Value) (M m : Nat) (O : List Nat) (most : Int) (d many t0 : Nat) (r : Except Nat (Nat × List Int)) (e : Ending) (w' : World) : Prop :=
  Step (fun k => k = b ∨ k = d) w w' ∧
  match r with
  | .error x => 0 < x ∧ e = .returned (.tuple #[.slice none 0 0, .int .i64 (x : Int)])
  | .ok (t, A) => ∃ ao c, e = .returned (.tuple #[.slice ao A.length c, .int .i64 0]) ∧ Str w' p b s v M m t O most ∧ w'.ownsRow 0 3 1 (.slice ao A.length c) A.length (i64s A) ∧ (∀ k, (Value.slice ao A.length c).ownBlock = some k → w.heap.size ≤ k) ∧ A.length = many ∧ (∀ y ∈ A, 0 ≤ y) ∧ t0 ≤ t

/-- A row of numbers of the call's own, with another row behind it. -/
theorem append_ints {w : World} {ops : Array Oper} {rest : List Oper} {o : Oper} {a : Act} {Q : Exit → Act → World → Prop} (hgd : o.guard = none) (s x : Operand)
    (ho : o.op = .call { callee := .builtin .append, args := #[s, x], argTypes := #[25, 25] })
    (v : Value) (n : Nat) (C : List Int) (hs : a.eval s = v) (hown : w.ownsRow 0 3 1 v n (i64s C))
    (g : Nat) (B : List Int) (N : Nat) (hB : B.length = N) (hx : a.eval x = .slice (some ⟨g, 0, none⟩) N N) (hr : w.ownsRow 0 3 1 (.slice (some ⟨g, 0, none⟩) N N) N (i64s B)) (hb : n + N ≤ 1000000)
    (h : ∀ v' w', w'.ownsRow 0 3 1 v' (n + N) (i64s (C ++ B)) → w.grownBy w' v.ownBlock → (v'.ownBlock = v.ownBlock ∨ v'.ownBlock = some w.heap.size) → wpList Tryd.prog ops Q rest (a.put o.dst v') w') :
    wpList Tryd.prog ops Q (o :: rest) a w := by
  obtain ⟨i0, hi, hz0, hz1, hz2⟩ := info_parts Tryd.info3
  exact wpList_append_at w hgd s x 25 ho 3 i0 (.int .i64 0) 1 8 Tryd.underlying25 hi hz0 hz1 hz2 rfl (by decide) v n (i64s C) hs hown ⟨g, 0, none⟩ N N (i64s B) hx (by rw [i64s_length]; omega) (Ri.of_own hr).news (i64s_one _) (by unfold maxLen; omega) (by omega)
      (fun v' w' k1 k2 _ k4 => h v' w' (by rw [i64s_append]; exact k1) k2 k4)

/-- A row of the call's own, with a row behind it, beside what is written. -/
theorem grown_step {S : Nat → Prop} {w w1 w2 w3 : World} {v v' : Value} (S1 : Step S w w1) (S2 : Step (fun _ => False) w1 w2) (hv : ∀ g, v.ownBlock = some g → w.heap.size ≤ g) (hg : w2.grownBy w3 v.ownBlock) (hb : v'.ownBlock = v.ownBlock ∨ v'.ownBlock = some w2.heap.size) : Step S w w3 ∧ ∀ g, v'.ownBlock = some g → w.heap.size ≤ g := by
  have S12 : Step S w w2 := S1.trans S2 (fun _ h => h.elim)
  refine ⟨S12.grown hg (fun k hk => .inr (hv k hk)), fun g hg2 => ?_⟩
  rcases hb with e | e
  · exact hv g (by rw [← e]; exact hg2)
  · rw [e] at hg2; have := Option.some.inj hg2; have := S12.size; omega

set_option maxHeartbeats 8000000 in
theorem lengths_any (p b : Nat) (s v : Value) (M m t : Nat) (O : List Nat) (most : Int) (d : Nat) (C : List Int) (bs tot many : Nat) (w : World) (h : Str w p b s v M m t O most) (hd : Dec w d C bs tot 0 0) (hb : Bes p b s v d bs C) (hm : m ≤ 1000000) (hC : newErr C = 0) (hc19 : C.length ≤ 19) (hmany : many ≤ 400) :
    Calls Tryd.prog 48 #[.pointer (some ⟨p, 0, none⟩), .pointer (some ⟨d, 0, none⟩), .int .i64 many] w fun e w' => LensE w p b s v M m O most d many t (lensV C M m many t) e w' := by
  have HC := hidden hC
  have HB := hidden hb
  have H0 := hidden (And.intro h hd)
  have hle := h.rr.le
  clear h hd hb hC
  go_enter Tryd.func48, Tryd.ntmps48
  go_wp2
  go_loopg [8, 9, 10, 11, 12] (many + 1) (fun k l _ _ _ _ wr => ∃ (u n c : Nat) (ao : Option Addr) (A : List Int), k = many + 1 - n ∧ n ≤ many ∧ u ≤ 8 * m ∧ l = .slice ao n c ∧ Hid (A.length = n ∧ (∀ r, Lens C M m many u A r → Lens C M m many t [] r) ∧ Str wr p b s v M m u O most ∧ Dec wr d C bs tot 0 0 ∧ wr.ownsRow 0 3 1 (.slice ao n c) n (i64s A) ∧ (∀ j, (Value.slice ao n c).ownBlock = some j → w.heap.size ≤ j) ∧ Step (fun k => k = b ∨ k = d) w wr ∧ (∀ y ∈ A, 0 ≤ y) ∧ t ≤ u))
  case atStart => exact ⟨t, 0, 0, none, [], rfl, Nat.zero_le _, hle, rfl, rfl, fun _ h => h, H0.out.1, H0.out.2, World.ownsRow_nil _ _ _ _, fun j hj => by simp [Value.ownBlock] at hj, Step.refl _ _, (fun _ h => by cases h), Nat.le_refl _⟩
  case round =>
    obtain ⟨u, n, c, ao, A, hk, hn, hu, rfl, HH⟩ := hrel
    have HK := hidden hk
    clear hk
    have hbw : Hid (b < w.heap.size) := hidden (World.block_lt_of_cell? w _ H0.out.1.rr.ins)
    have hpw : Hid (p < w.heap.size) := hidden (World.block_lt_of_cell? w _ H0.out.1.ci)
    have hdw : Hid (d < w.heap.size) := hidden (World.block_lt_of_cell? w _ H0.out.2.c1)
    have hvw : Hid (∀ k, v.ownBlock = some k → k < w.heap.size) := hidden (fun k hk => (H0.out.1.ou.ow.lt _ hk).2)
    have hsw : Hid (∀ k, s.ownBlock = some k → k < w.heap.size) := hidden (fun k hk => (H0.out.1.rr.own.lt _ hk).2)
    have hbsw : Hid ((∃ i, i < C.length ∧ 0 < C.getD i 0) → bs < w.heap.size) := hidden (fun ⟨i, h1, h2⟩ => World.block_lt_of_cell? w _ (H0.out.2.sy i h1 h2))
    have HA : Hid (A.length = n) := hidden HH.out.1
    have a2 := hidden HH.out.2.1
    have a6 := hidden HH.out.2.2.2.2.2.1
    have a7 := hidden HH.out.2.2.2.2.2.2.1
    have a8 := hidden HH.out.2.2.2.2.2.2.2.1
    have a9 : t ≤ u := HH.out.2.2.2.2.2.2.2.2
    by_cases hlt : n < many
    · have HS : Hid (Calls Tryd.prog 41 #[.pointer (some ⟨p, 0, none⟩), .pointer (some ⟨d, 0, none⟩)] wr fun e w' => Hid (Step (fun k => k = b ∨ k = d) w w' ∧ SymOk C.length m u (symV C M m u)) ∧ match symV C M m u with | .error z => e = .returned (.tuple #[.int .i64 0, .int .i64 (z : Int)]) | .ok (i, u2) => e = .returned (.tuple #[.int .i64 (i : Int), .int .i64 0]) ∧ Hid (Str w' p b s v M m u2 O most ∧ Dec w' d C bs tot 0 0 ∧ w'.ownsRow 0 3 1 (.slice ao n c) n (i64s A))) := by
        obtain ⟨b1, b2, b3, b4, b5, b6, b7, b8⟩ := HH.out
        refine hidden ((symbol_any p b s v M m u O most d C bs tot wr b3 b4 HB.out hm HC.out).mono fun e w' ⟨⟨hst, hr⟩, hok⟩ => ?_)
        refine ⟨hidden ⟨b7.trans hst (fun i hi => .inl hi), hok⟩, ?_⟩
        cases hq : symV C M m u with
        | error z => rw [hq] at hr; exact hr
        | ok z =>
          rw [hq] at hr
          obtain ⟨h1, h2, h3⟩ := hr
          refine ⟨h1, hidden ⟨h2, h3, owns_step b5 hst (fun k hk e => ?_)⟩⟩
          have := b6 k hk
          have := hbw.out
          have := hdw.out
          omega
      have hok := (symV_spec HC.out M m u).fine
      cases hq : symV C M m u with
      | error z =>
        rw [hq] at HS hok
        have hz0 : 0 < z := by rcases hok with e | e <;> omega
        have HQ := hidden hq
        clear hq hok HH
        go_wp2_with fail
        refine HS.out.mono ?_
        rintro e w1 ⟨S1, rfl⟩
        have hz : ((z : Int) != 0) = true := by rw [bne_iff_ne]; omega
        go_wp2
        go_ret2
        have hs := (a2.out _ (Lens.bad (by rw [HA.out]; exact hlt) HQ.out)).val
        unfold LensE
        rw [hs]
        exact ⟨S1.out.1, hz0, rfl⟩
      | ok z =>
        obtain ⟨x, u2⟩ := z
        rw [hq] at HS hok
        obtain ⟨hx, hu1, hu2⟩ := hok
        have HQ := hidden hq
        clear hq
        by_cases g1 : x = 16 ∧ n = 0
        · obtain ⟨rfl, rfl⟩ := g1
          clear HH
          go_wp2_with fail
          refine HS.out.mono ?_
          rintro e w1 ⟨S1, rfl, R1⟩
          go_wp2
          go_ret2
          have hs := (a2.out _ (Lens.first (by rw [HA.out]; exact hlt) HQ.out HA.out)).val
          unfold LensE
          rw [hs]
          exact ⟨S1.out.1, by omega, rfl⟩
        · have HNN : Hid (¬ (x = 16 ∧ A.length = 0)) := hidden (by rw [HA.out]; exact g1)
          have htok := timP_ok M m x u2 hu2
          have HT : Hid (∀ w1, Str w1 p b s v M m u2 O most → Dec w1 d C bs tot 0 0 → w1.ownsRow 0 3 1 (.slice ao n c) n (i64s A) → Step (fun k => k = b ∨ k = d) w w1 → Calls Tryd.prog 63 #[.pointer (some ⟨p, 0, none⟩), .int .i64 x] w1 fun e w' => Hid (Step (fun k => k = b ∨ k = d) w w') ∧ match timP M m x u2 with | .error z => e = .returned (.tuple #[.int .i64 0, .int .i64 (z : Int)]) | .ok (y, u3) => e = .returned (.tuple #[.int .i64 (y : Int), .int .i64 0]) ∧ Hid (Str w' p b s v M m u3 O most ∧ Dec w' d C bs tot 0 0 ∧ w'.ownsRow 0 3 1 (.slice ao n c) n (i64s A) ∧ Ri w' (.slice ao n c) A)) := hidden (fun w1 b3 b4 b5 b7 => by
            refine (times_any p b s v M m u2 O most x w1 b3 hm (by omega)).mono fun e w' ⟨hst, hr⟩ => ?_
            refine ⟨hidden (b7.trans hst (fun i hi => .inl (.inl hi))), ?_⟩
            cases hq : timP M m x u2 with
            | error z => rw [hq] at hr; exact hr
            | ok z =>
              rw [hq] at hr
              have ho : w'.ownsRow 0 3 1 (.slice ao n c) n (i64s A) := owns_step b5 hst (fun k hk e => by have := a6.out k hk; have := hbw.out; omega)
              exact ⟨hr.1, hidden ⟨hr.2, b4.far hst HB.out.db (fun _ => HB.out.bb), ho, Ri.of_own ho⟩⟩)
          have hg : ((x : Int) == 16 && (n : Int) == 0) = false := by
            by_cases e : x = 16
            · have : n ≠ 0 := fun e2 => g1 ⟨e, e2⟩
              have h2 : ((n : Int) == 0) = false := by rw [beq_eq_false_iff_ne]; omega
              rw [h2, Bool.and_false]
            · have h2 : ((x : Int) == 16) = false := by rw [beq_eq_false_iff_ne]; omega
              rw [h2, Bool.false_and]
          cases hq2 : timP M m x u2 with
          | error z =>
            rw [hq2] at HT htok
            have hz2 : z = 2 := htok
            subst hz2
            have HQT := hidden hq2
            clear hq2 htok HH
            by_cases e16 : x = 16
            · have b16 : ((x : Int) == 16) = true := by rw [e16]; rfl
              have bn : ((n : Int) == 0) = false := by rw [beq_eq_false_iff_ne]; omega
              clear e16 hg
              go_wp2_with fail
              refine HS.out.mono ?_
              rintro e w1 ⟨S1, rfl, R1⟩
              go_wp2_with fail
              refine (HT.out _ R1.out.1 R1.out.2.1 R1.out.2.2 S1.out.1).mono ?_
              rintro e w2 ⟨S2, rfl⟩
              go_wp2
              go_ret2
              have hs := (a2.out _ (Lens.short (by rw [HA.out]; exact hlt) HQ.out HNN.out HQT.out)).val
              unfold LensE
              rw [hs]
              exact ⟨S2.out, by omega, rfl⟩
            · have b16 : ((x : Int) == 16) = false := by rw [beq_eq_false_iff_ne]; omega
              clear e16 hg
              go_wp2_with fail
              refine HS.out.mono ?_
              rintro e w1 ⟨S1, rfl, R1⟩
              go_wp2_with fail
              refine (HT.out _ R1.out.1 R1.out.2.1 R1.out.2.2 S1.out.1).mono ?_
              rintro e w2 ⟨S2, rfl⟩
              go_wp2
              go_ret2
              have hs := (a2.out _ (Lens.short (by rw [HA.out]; exact hlt) HQ.out HNN.out HQT.out)).val
              unfold LensE
              rw [hs]
              exact ⟨S2.out, by omega, rfl⟩
          | ok z =>
            obtain ⟨y, u3⟩ := z
            rw [hq2] at HT htok
            obtain ⟨hy1, hy2, hy3, hy4⟩ := htok
            have hu3 := hidden hy4
            have HQT := hidden hq2
            clear hq2 HH
            have HREP : Hid (∀ (l : Int) w1, Calls Tryd.prog 45 #[.int .i64 l, .int .i64 y] w1 fun e w' => ∃ g, e = .returned (.slice (some ⟨g, 0, none⟩) y y) ∧ Hid (w1.heap.size ≤ g ∧ w'.ownsRow 0 3 1 (.slice (some ⟨g, 0, none⟩) y y) y (i64s (List.replicate y l)) ∧ Step (fun _ => False) w1 w')) := hidden (fun l w1 => (repeat_any l y w1 hy1 (by omega)).mono fun e w' ⟨g, he, h1, h2, h3⟩ => ⟨g, he, hidden ⟨h1, h2, h3⟩⟩)
            have hsub : (many : Int) - (n : Int) = ((many - n : Nat) : Int) := by omega
            have hu3t : Hid (t ≤ u3) := hidden (by omega)
            clear hg hy3
            by_cases e16 : x = 16
            · have b16 : ((x : Int) == 16) = true := by rw [e16]; rfl
              have n0 : 0 < n := by omega
              have bn : ((n : Int) == 0) = false := by rw [beq_eq_false_iff_ne]; omega
              have HLO : Hid (lenOf x A = A.getD (n - 1) 0) := hidden (by unfold lenOf; rw [if_pos e16, HA.out])
              clear e16
              by_cases gy : many - n < y
              · have gy2 : (many : Int) - (n : Int) < (y : Int) := by omega
                clear hsub
                go_wp2_with fail
                refine HS.out.mono ?_
                rintro e w1 ⟨S1, rfl, R1⟩
                go_wp2_with fail
                refine (HT.out _ R1.out.1 R1.out.2.1 R1.out.2.2 S1.out.1).mono ?_
                rintro e w2 ⟨S2, rfl, R2⟩
                go_wp2
                go_ret2
                have hs := (a2.out _ (Lens.over (by rw [HA.out]; exact hlt) HQ.out HNN.out HQT.out (by rw [HA.out]; omega))).val
                unfold LensE
                rw [hs]
                exact ⟨S2.out, by omega, rfl⟩
              · have gy2 : ¬ (many : Int) - (n : Int) < (y : Int) := by omega
                clear hsub
                go_wp2_with fail
                refine HS.out.mono ?_
                rintro e w1 ⟨S1, rfl, R1⟩
                go_wp2_with fail
                refine (HT.out _ R1.out.1 R1.out.2.1 R1.out.2.2 S1.out.1).mono ?_
                rintro e w2 ⟨S2, rfl, R2⟩
                have HSW2 := hidden S2.out
                obtain ⟨aoR, cR, eR, _, hR1, hR2⟩ := R2.out.2.2.2
                injection eR with eR1 eR2 eR3
                subst eR1
                have hAne : A ≠ [] := by intro e; have := HA.out; rw [e] at this; simp at this; omega
                cases ao with
                | none => exact absurd (hR1 rfl).1 hAne
                | some aa =>
                  obtain ⟨ba, oa, rfl, hcell⟩ := hR2 aa rfl hAne
                  obtain ⟨j, hj⟩ : ∃ j, j = n - 1 := ⟨_, rfl⟩
                  have cx := hcell j (by rw [HA.out]; omega)
                  rw [← hj] at HLO
                  have hji : (n : Int) - 1 = (j : Int) := by omega
                  have j1 : (j : Int) < (n : Int) := by omega
                  have j0 : (0 : Int) ≤ (j : Int) := by omega
                  generalize A.getD j 0 = l at *
                  clear hcell hR1 hR2 hAne eR2 eR3 hj
                  go_wp2_with fail
                  refine (HREP.out l w2).mono ?_
                  rintro e w3 ⟨g3, rfl, W3⟩
                  have HO3 := hidden (owns_step R2.out.2.2.1 W3.out.2.2 (fun _ _ h => h))
                  go_wp2_with (at_builtin; refine append_ints rfl (.tmp 61) (.tmp 64) rfl _ n A rfl HO3.out g3 (List.replicate y l) y (by simp) rfl W3.out.2.1 (by omega) ?_)
                  intro v4 w4 ho4 hg4 hb4
                  have hX := grown_step (w := w) HSW2.out W3.out.2.2 a6.out hg4 hb4
                  obtain ⟨ao4, c4, hv4⟩ := own_slice ho4
                  subst hv4
                  have HX := hidden hX
                  have HO4 := hidden ho4
                  have hfar : Hid (Step (fun j => w.heap.size ≤ j) w2 w4) := hidden (((W3.out.2.2.mono (fun _ h => h.elim)).grown hg4 (fun j hj => .inl (a6.out j hj))))
                  clear hX ho4 hg4 hb4
                  go_wp2
                  go_roundg (many + 1 - (n + y))
                  case measure => have := HK.out; omega
                  case rel =>
                    refine ⟨u3, n + y, c4, ao4, A ++ List.replicate y l, rfl, by omega, hu3.out, rfl, ⟨by rw [List.length_append, List.length_replicate, HA.out], fun r hr => a2.out r (Lens.more (by rw [HA.out]; exact hlt) HQ.out HNN.out HQT.out (by rw [HA.out]; omega) (by rw [HLO.out]; exact hr)), R2.out.1.step hfar.out (by have := hpw.out; omega) (by have := hbw.out; omega) (fun k hk => by have := hvw.out k hk; omega) (fun k hk => by have := hsw.out k hk; omega), R2.out.2.1.far hfar.out (by have := hdw.out; omega) (fun hx => by have := hbsw.out hx; omega), HO4.out, HX.out.2, HX.out.1, more_nonneg a8.out HLO.out, hu3t.out⟩⟩
            · have b16 : ((x : Int) == 16) = false := by rw [beq_eq_false_iff_ne]; omega
              by_cases e17 : 16 < x
              · have b17 : (16 : Int) < (x : Int) := by omega
                have HLO : Hid (lenOf x A = 0) := hidden (by unfold lenOf; rw [if_neg e16, if_pos e17])
                clear e16
                by_cases gy : many - n < y
                · have gy2 : (many : Int) - (n : Int) < (y : Int) := by omega
                  clear hsub
                  go_wp2_with fail
                  refine HS.out.mono ?_
                  rintro e w1 ⟨S1, rfl, R1⟩
                  go_wp2_with fail
                  refine (HT.out _ R1.out.1 R1.out.2.1 R1.out.2.2 S1.out.1).mono ?_
                  rintro e w2 ⟨S2, rfl, R2⟩
                  go_wp2
                  go_ret2
                  have hs := (a2.out _ (Lens.over (by rw [HA.out]; exact hlt) HQ.out HNN.out HQT.out (by rw [HA.out]; omega))).val
                  unfold LensE
                  rw [hs]
                  exact ⟨S2.out, by omega, rfl⟩
                · have gy2 : ¬ (many : Int) - (n : Int) < (y : Int) := by omega
                  clear hsub
                  go_wp2_with fail
                  refine HS.out.mono ?_
                  rintro e w1 ⟨S1, rfl, R1⟩
                  go_wp2_with fail
                  refine (HT.out _ R1.out.1 R1.out.2.1 R1.out.2.2 S1.out.1).mono ?_
                  rintro e w2 ⟨S2, rfl, R2⟩
                  have HSW2 := hidden S2.out
                  go_wp2_with fail
                  refine (HREP.out 0 w2).mono ?_
                  rintro e w3 ⟨g3, rfl, W3⟩
                  have HO3 := hidden (owns_step R2.out.2.2.1 W3.out.2.2 (fun _ _ h => h))
                  go_wp2_with (at_builtin; refine append_ints rfl (.tmp 61) (.tmp 64) rfl _ n A rfl HO3.out g3 (List.replicate y 0) y (by simp) rfl W3.out.2.1 (by omega) ?_)
                  intro v4 w4 ho4 hg4 hb4
                  have hX := grown_step (w := w) HSW2.out W3.out.2.2 a6.out hg4 hb4
                  obtain ⟨ao4, c4, hv4⟩ := own_slice ho4
                  subst hv4
                  have HX := hidden hX
                  have HO4 := hidden ho4
                  have hfar : Hid (Step (fun j => w.heap.size ≤ j) w2 w4) := hidden (((W3.out.2.2.mono (fun _ h => h.elim)).grown hg4 (fun j hj => .inl (a6.out j hj))))
                  clear hX ho4 hg4 hb4
                  go_wp2
                  go_roundg (many + 1 - (n + y))
                  case measure => have := HK.out; omega
                  case rel =>
                    refine ⟨u3, n + y, c4, ao4, A ++ List.replicate y 0, rfl, by omega, hu3.out, rfl, ⟨by rw [List.length_append, List.length_replicate, HA.out], fun r hr => a2.out r (Lens.more (by rw [HA.out]; exact hlt) HQ.out HNN.out HQT.out (by rw [HA.out]; omega) (by rw [HLO.out]; exact hr)), R2.out.1.step hfar.out (by have := hpw.out; omega) (by have := hbw.out; omega) (fun k hk => by have := hvw.out k hk; omega) (fun k hk => by have := hsw.out k hk; omega), R2.out.2.1.far hfar.out (by have := hdw.out; omega) (fun hx => by have := hbsw.out hx; omega), HO4.out, HX.out.2, HX.out.1, more_nonneg a8.out HLO.out, hu3t.out⟩⟩
              · have b17 : ¬ (16 : Int) < (x : Int) := by omega
                have HLO : Hid (lenOf x A = (x : Int)) := hidden (by unfold lenOf; rw [if_neg e16, if_neg e17])
                clear e16
                by_cases gy : many - n < y
                · have gy2 : (many : Int) - (n : Int) < (y : Int) := by omega
                  clear hsub
                  go_wp2_with fail
                  refine HS.out.mono ?_
                  rintro e w1 ⟨S1, rfl, R1⟩
                  go_wp2_with fail
                  refine (HT.out _ R1.out.1 R1.out.2.1 R1.out.2.2 S1.out.1).mono ?_
                  rintro e w2 ⟨S2, rfl, R2⟩
                  go_wp2
                  go_ret2
                  have hs := (a2.out _ (Lens.over (by rw [HA.out]; exact hlt) HQ.out HNN.out HQT.out (by rw [HA.out]; omega))).val
                  unfold LensE
                  rw [hs]
                  exact ⟨S2.out, by omega, rfl⟩
                · have gy2 : ¬ (many : Int) - (n : Int) < (y : Int) := by omega
                  clear hsub
                  go_wp2_with fail
                  refine HS.out.mono ?_
                  rintro e w1 ⟨S1, rfl, R1⟩
                  go_wp2_with fail
                  refine (HT.out _ R1.out.1 R1.out.2.1 R1.out.2.2 S1.out.1).mono ?_
                  rintro e w2 ⟨S2, rfl, R2⟩
                  have HSW2 := hidden S2.out
                  go_wp2_with fail
                  refine (HREP.out (x : Int) w2).mono ?_
                  rintro e w3 ⟨g3, rfl, W3⟩
                  have HO3 := hidden (owns_step R2.out.2.2.1 W3.out.2.2 (fun _ _ h => h))
                  go_wp2_with (at_builtin; refine append_ints rfl (.tmp 61) (.tmp 64) rfl _ n A rfl HO3.out g3 (List.replicate y (x : Int)) y (by simp) rfl W3.out.2.1 (by omega) ?_)
                  intro v4 w4 ho4 hg4 hb4
                  have hX := grown_step (w := w) HSW2.out W3.out.2.2 a6.out hg4 hb4
                  obtain ⟨ao4, c4, hv4⟩ := own_slice ho4
                  subst hv4
                  have HX := hidden hX
                  have HO4 := hidden ho4
                  have hfar : Hid (Step (fun j => w.heap.size ≤ j) w2 w4) := hidden (((W3.out.2.2.mono (fun _ h => h.elim)).grown hg4 (fun j hj => .inl (a6.out j hj))))
                  clear hX ho4 hg4 hb4
                  go_wp2
                  go_roundg (many + 1 - (n + y))
                  case measure => have := HK.out; omega
                  case rel =>
                    refine ⟨u3, n + y, c4, ao4, A ++ List.replicate y (x : Int), rfl, by omega, hu3.out, rfl, ⟨by rw [List.length_append, List.length_replicate, HA.out], fun r hr => a2.out r (Lens.more (by rw [HA.out]; exact hlt) HQ.out HNN.out HQT.out (by rw [HA.out]; omega) (by rw [HLO.out]; exact hr)), R2.out.1.step hfar.out (by have := hpw.out; omega) (by have := hbw.out; omega) (fun k hk => by have := hvw.out k hk; omega) (fun k hk => by have := hsw.out k hk; omega), R2.out.2.1.far hfar.out (by have := hdw.out; omega) (fun hx => by have := hbsw.out hx; omega), HO4.out, HX.out.2, HX.out.1, more_nonneg a8.out HLO.out, hu3t.out⟩⟩
    · have hnn : n = many := by omega
      subst hnn
      have hbad : ¬ (n : Int) < (n : Int) := by omega
      obtain ⟨b1, b2, b3, b4, b5, b6, b7, b8⟩ := HH.out
      have HF := hidden (And.intro b3 (And.intro b5 (And.intro b6 b7)))
      clear HH b1 b2 b3 b4 b5 b6 b7 b8
      go_wp2
      go_ret2
      have hs := (a2.out _ (Lens.done (by rw [HA.out]; exact Nat.le_refl _))).val
      unfold LensE
      rw [hs]
      simp only [HA.out]
      exact ⟨HF.out.2.2.2, ao, c, rfl, HF.out.1, HF.out.2.1, HF.out.2.2.1, trivial, a8.out, a9⟩

end Go.Proofs.YtinncakendfklaaDoor

namespace Go.Proofs.YtinncakendfklaaDoor
open Go.RowKit
set_option maxRecDepth 100000
set_option linter.unusedVariables false

/-- The table lies where the program laid it. -/
def Tab (w : World) : Prop := ∀ k, k < 19 → w.cell? ⟨0, k, none⟩ = some (.int .i64 ((ord k : Nat) : Int))
theorem Tab.step {S : Nat → Prop} {w w' : World} (h : Tab w) (hs : Step S w w') (h0 : ¬ S 0) : Tab w' := fun k hk => hs.cell (h k hk) h0
theorem Tab.pos {w : World} (h : Tab w) : 0 < w.heap.size := World.block_lt_of_cell? w _ (h 0 (by omega))

/-- How lengthsCodes ends. -/
def LcE (w : World) (p b : Nat) (s v : Value) (M m t : Nat) (O : List Nat) (most : Int) (many : Nat) (e : Ending) (w' : World) : Prop :=
  Step (fun k => k = b) w w' ∧
  if t + 3 * many ≤ 8 * m then
    if newErr (clL M t many) = 0 then ∃ d bs tot, e = .returned (.tuple #[.pointer (some ⟨d, 0, none⟩), .int .i64 0]) ∧ Str w' p b s v M m (t + 3 * many) O most ∧ Dec w' d (clL M t many) bs tot 0 0 ∧ w.heap.size ≤ d ∧ w.heap.size ≤ bs
    else e = .returned (.tuple #[.pointer none, .int .i64 (newErr (clL M t many))])
  else e = .returned (.tuple #[.pointer none, .int .i64 2])

set_option maxHeartbeats 8000000 in
theorem lengthsCodes_any (p b : Nat) (s v : Value) (M m t : Nat) (O : List Nat) (most : Int) (many : Nat) (w : World) (T : Tab w) (h : Str w p b s v M m t O most) (hm : m ≤ 1000000) (hmany : many ≤ 19) (hb0 : b ≠ 0) :
    Calls Tryd.prog 47 #[.pointer (some ⟨p, 0, none⟩), .int .i64 many] w (LcE w p b s v M m t O most many) := by
  have HT := hidden T
  have H0 := hidden h
  have hbw : Hid (b < w.heap.size) := hidden (World.block_lt_of_cell? w _ h.rr.ins)
  have hpw : Hid (p < w.heap.size) := hidden (World.block_lt_of_cell? w _ h.ci)
  have hvw : Hid (∀ k, v.ownBlock = some k → k < w.heap.size) := hidden (fun k hk => (h.ou.ow.lt _ hk).2)
  have hsw : Hid (∀ k, s.ownBlock = some k → k < w.heap.size) := hidden (fun k hk => (h.rr.own.lt _ hk).2)
  have h0w := hidden T.pos
  have hle := h.rr.le
  clear T h
  go_enter Tryd.func47, Tryd.ntmps47
  go_wp2
  go_loopw [7, 8, 9, 11] (fun _ _ _ i wr => ∃ k : Nat, i = .int .i64 (k : Int) ∧ k ≤ many ∧ t + 3 * k ≤ 8 * m ∧ Hid (Str wr p b s v M m (t + 3 * k) O most ∧ Af wr w.heap.size 19 (clF M t k) ∧ Tab wr ∧ Step (fun j => j = b) w wr)) (fun _ _ _ i _ => many - (intOf i).toNat)
  case atStart =>
    refine ⟨0, rfl, Nat.zero_le _, by omega, hidden ⟨H0.out.made ((Step.refl (fun _ => False) w).alloc _), ?_, HT.out.step ((Step.refl (fun _ => False) w).alloc _) (fun h => h), (Step.refl (fun j => j = b) w).alloc _⟩⟩
    refine Af.new w _ _ 19 _ (fun k hk => ?_)
    have h19 : k = 0 ∨ k = 1 ∨ k = 2 ∨ k = 3 ∨ k = 4 ∨ k = 5 ∨ k = 6 ∨ k = 7 ∨ k = 8 ∨ k = 9 ∨ k = 10 ∨ k = 11 ∨ k = 12 ∨ k = 13 ∨ k = 14 ∨ k = 15 ∨ k = 16 ∨ k = 17 ∨ k = 18 := by omega
    rcases h19 with rfl | rfl | rfl | rfl | rfl | rfl | rfl | rfl | rfl | rfl | rfl | rfl | rfl | rfl | rfl | rfl | rfl | rfl | rfl <;> rfl
  case round =>
    obtain ⟨k, rfl, hk, hkt, HH⟩ := hrel
    have c0 := HH.out.1.ci
    by_cases hlt : k < many
    · by_cases hs : t + 3 * k + 3 ≤ 8 * m
      · obtain ⟨n, hn, hn8⟩ : ∃ n, n = M / 2 ^ (t + 3 * k) % 2 ^ 3 ∧ n < 8 := ⟨_, rfl, Nat.mod_lt _ (by omega)⟩
        have HN : Hid (M / 2 ^ (t + 3 * k) % 8 = n) := hidden hn.symm
        obtain ⟨q, hq⟩ : ∃ q, q = ord k := ⟨_, rfl⟩
        have HQ := hidden hq
        have hq19 : q < 19 := by rw [hq]; exact ord_lt k
        have hk19 : k < 19 := by omega
        have HG : Hid (Calls Tryd.prog 27 #[.pointer (some ⟨b, 0, none⟩), .int .i64 (3 : Nat)] wr fun e w' => e = .returned (.tuple #[.int .i64 (n : Int), .int .i64 0]) ∧ (w'.cell? ⟨0, k, none⟩ = some (.int .i64 (q : Int)) ∧ w'.cell? ⟨w.heap.size, q, none⟩ = some (.int .i64 (clF M t k q)) ∧ w'.frozen? ⟨w.heap.size, q, none⟩ = false) ∧ Hid (Str w' p b s v M m (t + 3 * k + 3) O most ∧ Af w' w.heap.size 19 (clF M t k) ∧ Tab w' ∧ Step (fun j => j = b) w w')) := by
          obtain ⟨b1, b2, b3, b4⟩ := HH.out
          refine hidden ((get_ok b s M m (t + 3 * k) 3 wr b1.rr (by omega) (by omega) (by omega)).mono fun e w' ⟨he, Tk⟩ => ?_)
          rw [← hn] at he
          have hA : Af w' w.heap.size 19 (clF M t k) := b2.step Tk.2 (by have := hbw.out; omega)
          have hT : Tab w' := b3.step Tk.2 (fun e => hb0 e.symm)
          exact ⟨he, ⟨by rw [hq]; exact hT k hk19, (hA q hq19).1, (hA q hq19).2⟩, hidden ⟨(b1.took Tk).1, hA, hT, b4.trans Tk.2 (fun i hi => .inl hi)⟩⟩
        have k1 : (k : Int) < 19 := by omega
        have q1 : (q : Int) < 19 := by omega
        generalize clF M t k q = old at HG
        clear hn hq HH
        go_wp2_with fail
        refine HG.out.mono ?_
        rintro e w1 ⟨rfl, ⟨cT, cA, fA⟩, R1⟩
        go_wp2
        go_roundw
        case rel =>
          obtain ⟨b1, b2, b3, b4⟩ := R1.out
          have S2 : Step (fun j => j = w.heap.size) w1 (w1.setCell ⟨w.heap.size, q, none⟩ (.int .i64 (n : Int))) := (Step.refl (fun j => j = w.heap.size) w1).setCell ⟨w.heap.size, q, none⟩ _ (.inl rfl)
          refine ⟨k + 1, by go_num, by omega, by omega, hidden ⟨?_, ?_, b3.step S2 (by have := h0w.out; omega), b4.trans S2 (fun i hi => .inr (by omega))⟩⟩
          · rw [show t + 3 * (k + 1) = t + 3 * k + 3 by omega]
            exact b1.step S2 (by have := hpw.out; omega) (by have := hbw.out; omega) (fun j hj => by have := hvw.out j hj; omega) (fun j hj => by have := hsw.out j hj; omega)
          · refine (b2.set q (n : Int)).congr (fun j hj => ?_)
            unfold upd
            simp only [clF]
            rw [HN.out, ← HQ.out]
        case measure => simp [intOf]; omega
      · have HG : Hid (Calls Tryd.prog 27 #[.pointer (some ⟨b, 0, none⟩), .int .i64 (3 : Nat)] wr fun e w' => e = .returned (.tuple #[.int .i64 0, .int .i64 2]) ∧ Hid (Step (fun j => j = b) w w')) := by
          obtain ⟨b1, b2, b3, b4⟩ := HH.out
          exact hidden ((get_short b s M m (t + 3 * k) 3 wr b1.rr (by omega) (by omega) (by omega)).mono fun e w' ⟨he, q, hq⟩ => by
            subst hq
            exact ⟨he, hidden (b4.drewN q)⟩)
        have HN : Hid (¬ t + 3 * many ≤ 8 * m) := hidden (by omega)
        clear HH
        go_wp2_with fail
        refine HG.out.mono ?_
        rintro e w1 ⟨rfl, R1⟩
        go_wp2
        go_ret2
        unfold LcE
        rw [if_neg HN.out]
        exact ⟨R1.out, rfl⟩
    · have hkk : k = many := by omega
      subst hkk
      have hbad : ¬ (k : Int) < (k : Int) := by omega
      have HN : Hid (t + 3 * k ≤ 8 * m) := hidden hkt
      have HNEW : Hid (Calls Tryd.prog 62 #[.slice (some ⟨w.heap.size, 0, none⟩) 19 19] wr (NewP (clL M t k) wr)) := hidden (new_any _ _ wr (HH.out.2.1.ri (L := clL M t k) (cap := 19) (clL_length M t k) (by omega) (fun j hj => clL_getD M t k j hj)) (by rw [clL_length]; omega))
      have HF := hidden HH.out
      clear HH
      go_wp2_with fail
      refine HNEW.out.mono ?_
      rintro e w1 (⟨g1, rfl, S1⟩ | ⟨g1, d, bs, tot, rfl, k1, k2, D1, S1⟩)
      · have HG := hidden g1
        have HS := hidden S1
        generalize hE : newErr (clL M t k) = E at *
        have HE := hidden hE
        clear g1 S1 hE
        go_wp2
        go_ret2
        unfold LcE
        rw [if_pos HN.out, HE.out, if_neg HG.out]
        exact ⟨HF.out.2.2.2.trans HS.out (fun _ h => h.elim), rfl⟩
      · have HS := hidden (And.intro S1 (And.intro D1 (And.intro k1 k2)))
        have HG := hidden g1
        clear S1 D1 k1 k2 g1
        go_wp2
        go_ret2
        unfold LcE
        rw [if_pos HN.out, if_pos HG.out]
        obtain ⟨b1, b2, b3, b4⟩ := HF.out
        obtain ⟨S1, D1, k1, k2⟩ := HS.out
        have z := b4.size
        exact ⟨b4.trans S1 (fun _ h => h.elim), d, bs, tot, rfl, b1.made S1, D1, by omega, by omega⟩

end Go.Proofs.YtinncakendfklaaDoor

namespace Go.Proofs.YtinncakendfklaaDoor
open Go.RowKit
set_option maxRecDepth 100000
set_option linter.unusedVariables false

theorem Ri.take {w : World} {a : Addr} {n c : Nat} {A : List Int} (h : Ri w (.slice (some a) n c) A) (k : Nat) (hk : k ≤ n) (h0 : 0 < k) : Ri w (.slice (some a) k c) (A.take k) := by
  obtain ⟨ao, cp, e, hc, h1, h2⟩ := h
  injection e with e1 e2 e3
  subst e1
  subst e3
  have hl : (A.take k).length = k := by rw [List.length_take]; omega
  refine ⟨some a, c, by rw [hl], by omega, fun h => (by cases h), fun a' ha hne => ?_⟩
  obtain ⟨b, off, hb, hcell⟩ := h2 a' ha (by intro e; subst e; simp at hne)
  refine ⟨b, off, hb, fun j hj => ?_⟩
  rw [hl] at hj
  rw [hcell j (by omega)]
  simp [List.getD, hj]

theorem Ri.drop {w : World} {b o n c : Nat} {A : List Int} (h : Ri w (.slice (some ⟨b, o, none⟩) n c) A) (k : Nat) (hk : k < n) : Ri w (.slice (some ⟨b, o + k, none⟩) (n - k) (c - k)) (A.drop k) := by
  obtain ⟨ao, cp, e, hc, h1, h2⟩ := h
  injection e with e1 e2 e3
  subst e1
  subst e3
  have hl : (A.drop k).length = n - k := by rw [List.length_drop]; omega
  refine ⟨some ⟨b, o + k, none⟩, c - k, by rw [hl], by omega, fun h => (by cases h), fun a' ha hne => ?_⟩
  obtain ⟨b2, off, hb, hcell⟩ := h2 ⟨b, o, none⟩ rfl (by intro e; subst e; simp at hne)
  injection hb with hb1 hb2
  subst hb1
  subst hb2
  refine ⟨b, o + k, (Option.some.inj ha).symm, fun j hj => ?_⟩
  rw [hl] at hj
  rw [show o + k + j = o + (k + j) by omega, hcell (k + j) (by omega)]
  simp [List.getD]

/-- How ownCodes ends. -/
def OwnE (w : World) (p b : Nat) (s v : Value) (M m : Nat) (O : List Nat) (most : Int) (t0 : Nat) (r : Except Nat (Nat × List Int × List Int)) (e : Ending) (w' : World) : Prop :=
  Step (fun k => k = b) w w' ∧
  match r with
  | .error x => 0 < x ∧ e = .returned (.tuple #[.pointer none, .int .i64 (x : Int)])
  | .ok (u, L, D) => newErr L = 0 ∧ newErr D = 0 ∧ ∃ c d1 d2 b1 b2 n1 n2, e = .returned (.tuple #[.pointer (some ⟨c, 0, none⟩), .int .i64 0]) ∧ Cod w' c d1 d2 b1 b2 n1 n2 L D ∧ Str w' p b s v M m u O most ∧ w.heap.size ≤ c ∧ w.heap.size ≤ d1 ∧ w.heap.size ≤ d2 ∧ w.heap.size ≤ b1 ∧ w.heap.size ≤ b2 ∧ t0 ≤ u

/-- What lengths answers, seen so. -/
def LenQ (p b : Nat) (s v : Value) (M m : Nat) (O : List Nat) (most : Int) (many t0 : Nat) (r : Except Nat (Nat × List Int)) (e : Ending) (w' : World) : Prop :=
  match r with
  | .error x => 0 < x ∧ e = .returned (.tuple #[.slice none 0 0, .int .i64 (x : Int)])
  | .ok (u, A) => ∃ g c, e = .returned (.tuple #[.slice (some ⟨g, 0, none⟩) many c, .int .i64 0]) ∧ w'.cell? ⟨g, 256, none⟩ = some (.int .i64 (A.getD 256 0)) ∧ many ≤ c ∧ Hid (Str w' p b s v M m u O most ∧ Ri w' (.slice (some ⟨g, 0, none⟩) many c) A ∧ A.length = many ∧ (∀ y ∈ A, 0 ≤ y) ∧ t0 ≤ u)

theorem newErr_pos (L : List Int) (h : newErr L ≠ 0) : newErr L = ((newErr L).toNat : Int) ∧ 0 < (newErr L).toNat := by
  unfold newErr at *
  split at h <;> (try split at h) <;> simp_all

theorem and_31 (h : Nat) (hh : h < 16384) : bits .and .i64 (h : Int) 31 = ((h % 32 : Nat) : Int) := by
  have := i64_and_nat h 31 (by omega) (by omega)
  rw [show ((31 : Nat) : Int) = 31 from rfl] at this
  rw [this, show (31 : Nat) = 2 ^ 5 - 1 from rfl, Nat.and_two_pow_sub_one_eq_mod]

set_option maxHeartbeats 4000000 in
theorem ownCodes_any (p b : Nat) (s v : Value) (M m t : Nat) (O : List Nat) (most : Int) (w : World) (T : Tab w) (h : Str w p b s v M m t O most) (hm : m ≤ 1000000) (hb0 : b ≠ 0) :
    Calls Tryd.prog 31 #[.pointer (some ⟨p, 0, none⟩)] w (OwnE w p b s v M m O most t (ownP M m t)) := by
  have HT := hidden T
  have H0 := hidden h
  have c0 := h.ci
  have hle := h.rr.le
  have hbw : Hid (b < w.heap.size) := hidden (World.block_lt_of_cell? w _ h.rr.ins)
  have hpw : Hid (p < w.heap.size) := hidden (World.block_lt_of_cell? w _ h.ci)
  have hvw : Hid (∀ k, v.ownBlock = some k → k < w.heap.size) := hidden (fun k hk => (h.ou.ow.lt _ hk).2)
  have hsw : Hid (∀ k, s.ownBlock = some k → k < w.heap.size) := hidden (fun k hk => (h.rr.own.lt _ hk).2)
  clear T h
  by_cases g1 : t + 14 ≤ 8 * m
  · obtain ⟨h, hh, hh2⟩ : ∃ h, h = M / 2 ^ t % 2 ^ 14 ∧ h < 16384 := ⟨_, rfl, Nat.mod_lt _ (by omega)⟩
    have HH : Hid (M / 2 ^ t % 16384 = h) := hidden hh.symm
    have HG : Hid (Calls Tryd.prog 27 #[.pointer (some ⟨b, 0, none⟩), .int .i64 (14 : Nat)] w fun e w' => e = .returned (.tuple #[.int .i64 (h : Int), .int .i64 0]) ∧ Hid (Str w' p b s v M m (t + 14) O most ∧ Tab w' ∧ Step (fun j => j = b) w w')) :=
      hidden ((get_ok b s M m t 14 w H0.out.rr (by omega) (by omega) (by omega)).mono fun e w' ⟨he, Tk⟩ => by
        rw [← hh] at he
        exact ⟨he, hidden ⟨(H0.out.took Tk).1, HT.out.step Tk.2 (fun e => hb0 e.symm), Tk.2⟩⟩)
    clear hh
    obtain ⟨h1, hh1⟩ : ∃ h1, h1 = h / 32 := ⟨_, rfl⟩
    obtain ⟨h2, hh2'⟩ : ∃ h2, h2 = h % 32 := ⟨_, rfl⟩
    obtain ⟨h3, hh3⟩ : ∃ h3, h3 = h1 % 32 := ⟨_, rfl⟩
    obtain ⟨h4, hh4⟩ : ∃ h4, h4 = h / 1024 := ⟨_, rfl⟩
    have e1 : (h : Int) / 32 = (h1 : Int) := by omega
    have e4 : (h : Int) / 1024 = (h4 : Int) := by omega
    have e2 : bits .and .i64 (h : Int) 31 = (h2 : Int) := by rw [and_31 h hh2, hh2']
    have e3 : bits .and .i64 (h1 : Int) 31 = (h3 : Int) := by rw [and_31 h1 (by omega), hh3]
    have b2 : h2 ≤ 31 := by omega
    have b3 : h3 ≤ 31 := by omega
    have b4 : h4 ≤ 15 := by omega
    have HE : Hid (h % 32 = h2 ∧ h / 32 % 32 = h3 ∧ h / 1024 = h4) := hidden ⟨hh2'.symm, by rw [hh3, hh1], hh4.symm⟩
    clear hh1 hh2' hh3 hh4
    have HP : Hid (ownP M m t = ownC M m t h2 h3 h4) := hidden (by
      unfold ownP
      rw [if_pos g1, HH.out, HE.out.1, HE.out.2.1, HE.out.2.2])
    by_cases g2 : 286 < h2 + 257 ∨ 30 < h3 + 1
    · have HR : Hid (ownP M m t = .error 3) := hidden (by rw [HP.out]; unfold ownC; rw [if_pos g2])
      rcases g2 with g2 | g2
      · have g2' : (286 : Int) < (h2 : Int) + 257 := by omega
        go_enter Tryd.func31, Tryd.ntmps31
        go_wp2_with fail
        refine HG.out.mono ?_
        rintro e w1 ⟨rfl, R1⟩
        go_wp2
        go_ret2
        unfold OwnE
        rw [HR.out]
        exact ⟨R1.out.2.2, by omega, rfl⟩
      · by_cases g3 : 286 < h2 + 257
        · have g3' : (286 : Int) < (h2 : Int) + 257 := by omega
          go_enter Tryd.func31, Tryd.ntmps31
          go_wp2_with fail
          refine HG.out.mono ?_
          rintro e w1 ⟨rfl, R1⟩
          go_wp2
          go_ret2
          unfold OwnE
          rw [HR.out]
          exact ⟨R1.out.2.2, by omega, rfl⟩
        · have g3' : ¬ (286 : Int) < (h2 : Int) + 257 := by omega
          have g4' : (30 : Int) < (h3 : Int) + 1 := by omega
          go_enter Tryd.func31, Tryd.ntmps31
          go_wp2_with fail
          refine HG.out.mono ?_
          rintro e w1 ⟨rfl, R1⟩
          go_wp2
          go_ret2
          unfold OwnE
          rw [HR.out]
          exact ⟨R1.out.2.2, by omega, rfl⟩
    · have g2a : ¬ (286 : Int) < (h2 : Int) + 257 := by omega
      have g2b : ¬ (30 : Int) < (h3 : Int) + 1 := by omega
      have HLC : Hid (∀ w1, Str w1 p b s v M m (t + 14) O most → Tab w1 → Calls Tryd.prog 47 #[.pointer (some ⟨p, 0, none⟩), .int .i64 ((h4 : Int) + 4)] w1 (LcE w1 p b s v M m (t + 14) O most (h4 + 4))) := hidden (fun w1 S1 T1 => by
        have := lengthsCodes_any p b s v M m (t + 14) O most (h4 + 4) w1 T1 S1 hm (by omega) hb0
        rw [show ((h4 + 4 : Nat) : Int) = (h4 : Int) + 4 by omega] at this
        exact this)
      by_cases g3 : t + 14 + 3 * (h4 + 4) ≤ 8 * m
      · by_cases g4 : newErr (clL M (t + 14) (h4 + 4)) = 0
        · have HLC2 : Hid (∀ w1, Str w1 p b s v M m (t + 14) O most → Tab w1 → Step (fun j => j = b) w w1 → Calls Tryd.prog 47 #[.pointer (some ⟨p, 0, none⟩), .int .i64 ((h4 : Int) + 4)] w1 fun e w' => ∃ d, e = .returned (.tuple #[.pointer (some ⟨d, 0, none⟩), .int .i64 0]) ∧ Hid (∃ bs tot, Str w' p b s v M m (t + 14 + 3 * (h4 + 4)) O most ∧ Dec w' d (clL M (t + 14) (h4 + 4)) bs tot 0 0 ∧ w.heap.size ≤ d ∧ w.heap.size ≤ bs ∧ Step (fun j => j = b) w w')) := hidden (fun w1 S1 T1 St => (HLC.out w1 S1 T1).mono fun e w' ⟨S2, hr⟩ => by
            rw [if_pos g3, if_pos g4] at hr
            obtain ⟨d, bs, tot, he, a1, a2, a3, a4⟩ := hr
            have := St.size
            exact ⟨d, he, hidden ⟨bs, tot, a1, a2, by omega, by omega, St.trans S2 (fun i hi => .inl hi)⟩⟩)
          obtain ⟨lit, hlit⟩ : ∃ lit, lit = h2 + 257 := ⟨_, rfl⟩
          obtain ⟨many, hman⟩ : ∃ many, many = h2 + 257 + (h3 + 1) := ⟨_, rfl⟩
          have em : (h2 : Int) + 257 + ((h3 : Int) + 1) = (many : Int) := by omega
          have el : (h2 : Int) + 257 = (lit : Int) := by omega
          have em2 : (lit : Int) + ((h3 : Int) + 1) = (many : Int) := by omega
          have g2c : ¬ (286 : Int) < (lit : Int) := by omega
          have hlm : lit < many := by omega
          have hl257 : 257 ≤ lit := by omega
          have hm400 : many ≤ 400 := by omega
          obtain ⟨r, hr⟩ : ∃ r, r = lensV (clL M (t + 14) (h4 + 4)) M m many (t + 14 + 3 * (h4 + 4)) := ⟨_, rfl⟩
          have HOW : Hid (ownP M m t = ownB lit r) := hidden (by rw [HP.out]; unfold ownC; rw [if_neg g2, if_pos g3, if_pos g4, hr, hman, hlit])
          have HLE : Hid (∀ w2 d, (∃ bs tot, Str w2 p b s v M m (t + 14 + 3 * (h4 + 4)) O most ∧ Dec w2 d (clL M (t + 14) (h4 + 4)) bs tot 0 0 ∧ w.heap.size ≤ d ∧ w.heap.size ≤ bs ∧ Step (fun j => j = b) w w2) → Calls Tryd.prog 48 #[.pointer (some ⟨p, 0, none⟩), .pointer (some ⟨d, 0, none⟩), .int .i64 many] w2 fun e w' => Hid (Step (fun k => k = b) w w') ∧ LenQ p b s v M m O most many (t + 14 + 3 * (h4 + 4)) r e w') := hidden (fun w2 d ⟨bs, tot, a1, a2, a3, a4, a5⟩ => by
            have Bs : Bes p b s v d bs (clL M (t + 14) (h4 + 4)) := ⟨by have := hpw.out; omega, by have := hbw.out; omega, fun e => by have := hsw.out _ e; omega, fun e => by have := hvw.out _ e; omega, by have := hpw.out; omega, by have := hbw.out; omega, fun _ e => by have := hvw.out _ e; omega⟩
            refine (lengths_any p b s v M m _ O most d _ bs tot many w2 a1 a2 Bs hm g4 (by rw [clL_length]; omega) hm400).mono fun e w' ⟨hst, hx⟩ => ?_
            have St : Step (fun k => k = b) w w' := a5.trans hst (fun i hi => by rcases hi with h | h; exact .inl h; exact .inr (by omega))
            refine ⟨hidden St, ?_⟩
            rw [← hr] at hx
            cases r with
            | error x => exact hx
            | ok z =>
              obtain ⟨u, A⟩ := z
              obtain ⟨ao, c, he, k1, k2, k3, k4, k5, k6⟩ := hx
              rw [k4] at he k2
              have hcap : many ≤ c ∧ ∃ g, ao = some ⟨g, 0, none⟩ := by
                rcases k2.2 with ⟨e1, e2⟩ | ⟨g, cp, cur, e1, _, _, hc, _⟩
                · omega
                · injection e1 with e2 e3 e4
                  subst e4
                  exact ⟨hc, g, e2⟩
              obtain ⟨hcap, g, rfl⟩ := hcap
              have hri : Ri w' (.slice (some ⟨g, 0, none⟩) many c) A := Ri.of_own k2
              refine ⟨g, c, he, ?_, hcap, hidden ⟨k1, hri, k4, k5, k6⟩⟩
              obtain ⟨ao2, c2, e2, _, _, hcl⟩ := hri
              injection e2 with e2
              obtain ⟨b2, off, hb2, hc2⟩ := hcl ⟨g, 0, none⟩ e2.symm (by intro e; rw [e] at k4; simp at k4; omega)
              injection hb2 with hb3 hb4
              subst hb3
              have := hc2 256 (by omega)
              rw [← hb4, Nat.zero_add] at this
              exact this)
          have HRR := hidden hr
          clear hr hlit hman g2
          cases r with
          | error z =>
            have HR : Hid (ownP M m t = .error z) := hidden HOW.out
            go_enter Tryd.func31, Tryd.ntmps31
            go_wp2_with fail
            refine HG.out.mono ?_
            rintro e w1 ⟨rfl, R1⟩
            go_wp2_with fail
            refine (HLC2.out _ R1.out.1 R1.out.2.1 R1.out.2.2).mono ?_
            rintro e w2 ⟨d, rfl, R2⟩
            go_wp2_with fail
            refine (HLE.out _ d R2.out).mono ?_
            rintro e w3 ⟨R3, hz0, rfl⟩
            have hz : ((z : Int) != 0) = true := by rw [bne_iff_ne]; omega
            go_wp2
            go_ret2
            unfold OwnE
            rw [HR.out]
            exact ⟨R3.out, hz0, rfl⟩
          | ok z =>
            obtain ⟨u, A⟩ := z
            have HOA : Hid (ownP M m t = ownA lit u A) := hidden HOW.out
            by_cases ga : A.getD 256 0 = 0
            · have HR : Hid (ownP M m t = .error 3) := hidden (by rw [HOA.out]; unfold ownA; rw [if_pos ga])
              have hm256 : (256 : Int) < (many : Int) := by omega
              go_enter Tryd.func31, Tryd.ntmps31
              go_wp2_with fail
              refine HG.out.mono ?_
              rintro e w1 ⟨rfl, R1⟩
              go_wp2_with fail
              refine (HLC2.out _ R1.out.1 R1.out.2.1 R1.out.2.2).mono ?_
              rintro e w2 ⟨d, rfl, R2⟩
              go_wp2_with fail
              refine (HLE.out _ d R2.out).mono ?_
              rintro e w3 ⟨R3, g, c, rfl, cell, hcn, R4⟩
              rw [ga] at cell
              go_wp2
              go_ret2
              unfold OwnE
              rw [HR.out]
              exact ⟨R3.out, by omega, rfl⟩
            · have hm256 : (256 : Int) < (many : Int) := by omega
              obtain ⟨a0, ha0⟩ : ∃ a0, A.getD 256 0 = a0 := ⟨_, rfl⟩
              have hane : (a0 == 0) = false := by rw [beq_eq_false_iff_ne, ← ha0]; exact ga
              have HA0 := hidden ha0
              have HNC0 : Hid (∀ (w3 W : World) (g c : Nat), (Str w3 p b s v M m u O most ∧ Ri w3 (.slice (some ⟨g, 0, none⟩) many c) A ∧ A.length = many ∧ (∀ y ∈ A, 0 ≤ y) ∧ t + 14 + 3 * (h4 + 4) ≤ u) → Step (fun _ => False) w3 W → Step (fun k => k = b) w w3 → Calls Tryd.prog 46 #[.slice (some ⟨g, 0, none⟩) lit c, .slice (some ⟨g, lit, none⟩) (many - lit) (c - lit)] W fun e w' => NewC (A.take lit) (A.drop lit) W e w' ∧ Step (fun k => k = b) w w' ∧ Str w' p b s v M m u O most ∧ w.heap.size ≤ W.heap.size) := hidden (fun w3 W g c ⟨q1, q2, q3, q4, q5⟩ hW hS => by
                have hri := q2.made hW
                have hd := hri.drop lit hlm
                rw [Nat.zero_add] at hd
                refine (newCodes_any _ _ _ _ W (hri.take lit (by omega) (by omega)) hd (by rw [List.length_take]; omega) (by rw [List.length_drop]; omega) ⟨256, by rw [List.length_take]; omega, ?_⟩).mono fun e w' hn => ⟨hn, (hS.trans hW (fun _ h => h.elim)).trans hn.1 (fun _ h => h.elim), (q1.made hW).made hn.1, Nat.le_trans hS.size hW.size⟩
                have h256 : 256 < A.length := by omega
                have e1 : (A.take lit).getD 256 0 = A.getD 256 0 := by simp [List.getD, show 256 < lit by omega]
                rw [e1]
                have := q4 (A.getD 256 0) (by simp [List.getD, h256])
                omega)
              by_cases gl : newErr (A.take lit) = 0
              · by_cases gd : newErr (A.drop lit) = 0
                · have HR : Hid (ownP M m t = .ok (u, A.take lit, A.drop lit)) := hidden (by rw [HOA.out]; unfold ownA; rw [if_neg ga, if_neg (fun h => h gl), if_neg (fun h => h gd)])
                  have HNC : Hid (∀ (w3 W : World) (g c : Nat), (Str w3 p b s v M m u O most ∧ Ri w3 (.slice (some ⟨g, 0, none⟩) many c) A ∧ A.length = many ∧ (∀ y ∈ A, 0 ≤ y) ∧ t + 14 + 3 * (h4 + 4) ≤ u) → Step (fun _ => False) w3 W → Step (fun k => k = b) w w3 → Calls Tryd.prog 46 #[.slice (some ⟨g, 0, none⟩) lit c, .slice (some ⟨g, lit, none⟩) (many - lit) (c - lit)] W fun e w' => Hid (Step (fun k => k = b) w w' ∧ Str w' p b s v M m u O most) ∧ ∃ cc, e = .returned (.tuple #[.pointer (some ⟨cc, 0, none⟩), .int .i64 0]) ∧ Hid (∃ d1 d2 b1 b2 n1 n2, Cod w' cc d1 d2 b1 b2 n1 n2 (A.take lit) (A.drop lit) ∧ w.heap.size ≤ cc ∧ w.heap.size ≤ d1 ∧ w.heap.size ≤ d2 ∧ w.heap.size ≤ b1 ∧ w.heap.size ≤ b2)) := hidden (fun w3 W g c h1 h2 h3 => (HNC0.out w3 W g c h1 h2 h3).mono fun e w' ⟨⟨_, hn⟩, hs, hst, hz⟩ => by
                    refine ⟨hidden ⟨hs, hst⟩, ?_⟩
                    rcases hn with ⟨hn, _⟩ | ⟨_, hn, _⟩ | ⟨_, _, cc, d1, d2, b1, b2, n1, n2, he, hc, k0, k1, k2, k3, k4⟩
                    · exact absurd gl hn
                    · exact absurd gd hn
                    · exact ⟨cc, he, hidden ⟨d1, d2, b1, b2, n1, n2, hc, by omega, by omega, by omega, by omega, by omega⟩⟩)
                  clear HNC0 ga ha0
                  go_enter Tryd.func31, Tryd.ntmps31
                  go_wp2_with fail
                  refine HG.out.mono ?_
                  rintro e w1 ⟨rfl, R1⟩
                  go_wp2_with fail
                  refine (HLC2.out _ R1.out.1 R1.out.2.1 R1.out.2.2).mono ?_
                  rintro e w2 ⟨d, rfl, R2⟩
                  go_wp2_with fail
                  refine (HLE.out _ d R2.out).mono ?_
                  rintro e w3 ⟨R3, g, c, rfl, cell, hcn, R4⟩
                  rw [HA0.out] at cell
                  have cn2 : lit ≤ c := by omega
                  have cn3 : (lit : Int) ≤ (c : Int) := by omega
                  have cn4 : ¬ c = lit := by omega
                  have cn5 : ¬ c - lit = 0 := by omega
                  go_wp2
                  go_region_with (first
                    | (go_at_call 46; refine (HNC.out w3 _ g c R4.out (by first | exact Step.refl _ _ | exact (Step.refl _ _).drew | exact (Step.refl _ _).drewN _) R3.out).mono ?_; rintro e W5 ⟨R5, cc, rfl, R6⟩))
                  all_goals
                    go_wp2
                    go_ret2
                    unfold OwnE
                    rw [HR.out]
                    obtain ⟨d1, d2, b1, b2, n1, n2, q1, q2, q3, q4, q5, q6⟩ := R6.out
                    exact ⟨R5.out.1, gl, gd, cc, d1, d2, b1, b2, n1, n2, rfl, q1, R5.out.2, q2, q3, q4, q5, q6, by have := R4.out.2.2.2.2; omega⟩
                · have HR : Hid (ownP M m t = .error (newErr (A.drop lit)).toNat) := hidden (by rw [HOA.out]; unfold ownA; rw [if_neg ga, if_neg (fun h => h gl), if_pos gd])
                  have HPOS := hidden (newErr_pos _ gd)
                  have HNC : Hid (∀ (w3 W : World) (g c : Nat), (Str w3 p b s v M m u O most ∧ Ri w3 (.slice (some ⟨g, 0, none⟩) many c) A ∧ A.length = many ∧ (∀ y ∈ A, 0 ≤ y) ∧ t + 14 + 3 * (h4 + 4) ≤ u) → Step (fun _ => False) w3 W → Step (fun k => k = b) w w3 → Calls Tryd.prog 46 #[.slice (some ⟨g, 0, none⟩) lit c, .slice (some ⟨g, lit, none⟩) (many - lit) (c - lit)] W fun e w' => Hid (Step (fun k => k = b) w w') ∧ e = .returned (.tuple #[.pointer none, .int .i64 (newErr (A.drop lit))])) := hidden (fun w3 W g c h1 h2 h3 => (HNC0.out w3 W g c h1 h2 h3).mono fun e w' ⟨⟨_, hn⟩, hs, hst, hz⟩ => by
                    refine ⟨hidden hs, ?_⟩
                    rcases hn with ⟨hn, _⟩ | ⟨_, hn, he⟩ | ⟨_, hn, _⟩
                    · exact absurd gl hn
                    · exact he
                    · exact absurd hn gd)
                  generalize newErr (A.drop lit) = E at *
                  clear HNC0 ga ha0
                  go_enter Tryd.func31, Tryd.ntmps31
                  go_wp2_with fail
                  refine HG.out.mono ?_
                  rintro e w1 ⟨rfl, R1⟩
                  go_wp2_with fail
                  refine (HLC2.out _ R1.out.1 R1.out.2.1 R1.out.2.2).mono ?_
                  rintro e w2 ⟨d, rfl, R2⟩
                  go_wp2_with fail
                  refine (HLE.out _ d R2.out).mono ?_
                  rintro e w3 ⟨R3, g, c, rfl, cell, hcn, R4⟩
                  rw [HA0.out] at cell
                  have cn2 : lit ≤ c := by omega
                  have cn3 : (lit : Int) ≤ (c : Int) := by omega
                  have cn4 : ¬ c = lit := by omega
                  have cn5 : ¬ c - lit = 0 := by omega
                  go_wp2
                  go_region_with (first
                    | (go_at_call 46; refine (HNC.out w3 _ g c R4.out (by first | exact Step.refl _ _ | exact (Step.refl _ _).drew | exact (Step.refl _ _).drewN _) R3.out).mono ?_; rintro e W5 ⟨R5, rfl⟩))
                  all_goals
                    go_wp2
                    go_ret2
                    unfold OwnE
                    rw [HR.out]
                    refine ⟨R5.out, HPOS.out.2, ?_⟩
                    rw [← HPOS.out.1]
                    rfl
              · have HR : Hid (ownP M m t = .error (newErr (A.take lit)).toNat) := hidden (by rw [HOA.out]; unfold ownA; rw [if_neg ga, if_pos gl])
                have HPOS := hidden (newErr_pos _ gl)
                have HNC : Hid (∀ (w3 W : World) (g c : Nat), (Str w3 p b s v M m u O most ∧ Ri w3 (.slice (some ⟨g, 0, none⟩) many c) A ∧ A.length = many ∧ (∀ y ∈ A, 0 ≤ y) ∧ t + 14 + 3 * (h4 + 4) ≤ u) → Step (fun _ => False) w3 W → Step (fun k => k = b) w w3 → Calls Tryd.prog 46 #[.slice (some ⟨g, 0, none⟩) lit c, .slice (some ⟨g, lit, none⟩) (many - lit) (c - lit)] W fun e w' => Hid (Step (fun k => k = b) w w') ∧ e = .returned (.tuple #[.pointer none, .int .i64 (newErr (A.take lit))])) := hidden (fun w3 W g c h1 h2 h3 => (HNC0.out w3 W g c h1 h2 h3).mono fun e w' ⟨⟨_, hn⟩, hs, hst, hz⟩ => by
                  refine ⟨hidden hs, ?_⟩
                  rcases hn with ⟨hn, he⟩ | ⟨hn, _⟩ | ⟨hn, _⟩
                  · exact he
                  · exact absurd hn gl
                  · exact absurd hn gl)
                generalize newErr (A.take lit) = E at *
                clear HNC0 ga ha0
                go_enter Tryd.func31, Tryd.ntmps31
                go_wp2_with fail
                refine HG.out.mono ?_
                rintro e w1 ⟨rfl, R1⟩
                go_wp2_with fail
                refine (HLC2.out _ R1.out.1 R1.out.2.1 R1.out.2.2).mono ?_
                rintro e w2 ⟨d, rfl, R2⟩
                go_wp2_with fail
                refine (HLE.out _ d R2.out).mono ?_
                rintro e w3 ⟨R3, g, c, rfl, cell, hcn, R4⟩
                rw [HA0.out] at cell
                have cn2 : lit ≤ c := by omega
                have cn3 : (lit : Int) ≤ (c : Int) := by omega
                have cn4 : ¬ c = lit := by omega
                have cn5 : ¬ c - lit = 0 := by omega
                go_wp2
                go_region_with (first
                  | (go_at_call 46; refine (HNC.out w3 _ g c R4.out (by first | exact Step.refl _ _ | exact (Step.refl _ _).drew | exact (Step.refl _ _).drewN _) R3.out).mono ?_; rintro e W5 ⟨R5, rfl⟩))
                all_goals
                  go_wp2
                  go_ret2
                  unfold OwnE
                  rw [HR.out]
                  refine ⟨R5.out, HPOS.out.2, ?_⟩
                  rw [← HPOS.out.1]
                  rfl
        · have HR : Hid (ownP M m t = .error (newErr (clL M (t + 14) (h4 + 4))).toNat) := hidden (by rw [HP.out]; unfold ownC; rw [if_neg g2, if_pos g3, if_neg g4])
          have HPOS := hidden (newErr_pos _ g4)
          go_enter Tryd.func31, Tryd.ntmps31
          go_wp2_with fail
          refine HG.out.mono ?_
          rintro e w1 ⟨rfl, R1⟩
          go_wp2_with fail
          refine (HLC.out _ R1.out.1 R1.out.2.1).mono ?_
          rintro e w2 ⟨S2, hr⟩
          rw [if_pos g3, if_neg g4] at hr
          subst hr
          have HS2 := hidden S2
          generalize hE : newErr (clL M (t + 14) (h4 + 4)) = E at *
          have hne : (E != 0) = true := by rw [bne_iff_ne]; exact g4
          clear S2 hE
          go_wp2
          go_ret2
          unfold OwnE
          rw [HR.out]
          refine ⟨R1.out.2.2.trans HS2.out (fun i hi => .inl hi), HPOS.out.2, ?_⟩
          rw [← HPOS.out.1]
          rfl
      · have HR : Hid (ownP M m t = .error 2) := hidden (by rw [HP.out]; unfold ownC; rw [if_neg g2, if_neg g3])
        go_enter Tryd.func31, Tryd.ntmps31
        go_wp2_with fail
        refine HG.out.mono ?_
        rintro e w1 ⟨rfl, R1⟩
        go_wp2_with fail
        refine (HLC.out _ R1.out.1 R1.out.2.1).mono ?_
        rintro e w2 ⟨S2, hr⟩
        rw [if_neg g3] at hr
        subst hr
        have HS2 := hidden S2
        clear S2
        go_wp2
        go_ret2
        unfold OwnE
        rw [HR.out]
        exact ⟨R1.out.2.2.trans HS2.out (fun i hi => .inl hi), by omega, rfl⟩
  · have HR : Hid (ownP M m t = .error 2) := hidden (by unfold ownP; rw [if_neg g1])
    have HG : Hid (Calls Tryd.prog 27 #[.pointer (some ⟨b, 0, none⟩), .int .i64 (14 : Nat)] w fun e w' => e = .returned (.tuple #[.int .i64 0, .int .i64 2]) ∧ Hid (Step (fun j => j = b) w w')) :=
      hidden ((get_short b s M m t 14 w H0.out.rr (by omega) (by omega) (by omega)).mono fun e w' ⟨he, q, hq⟩ => by
        subst hq
        exact ⟨he, hidden ((Step.refl _ w).drewN q)⟩)
    go_enter Tryd.func31, Tryd.ntmps31
    go_wp2_with fail
    refine HG.out.mono ?_
    rintro e w1 ⟨rfl, R1⟩
    go_wp2
    go_ret2
    unfold OwnE
    rw [HR.out]
    exact ⟨R1.out, by omega, rfl⟩

end Go.Proofs.YtinncakendfklaaDoor

namespace Go.Proofs.YtinncakendfklaaDoor
open Go.RowKit
set_option maxRecDepth 100000
set_option linter.unusedVariables false

/-- Symbols by codes of the block's own. -/
noncomputable def ownS (M m : Nat) (most : Int) (O : List Nat) : Except Nat (Nat × List Int × List Int) → Except Nat (Nat × List Nat)
  | .error e => .error e
  | .ok (u, L, D) => symsV L D M m most u O
/-- What a block tells. -/
noncomputable def blkF (M m : Nat) (most : Int) (t : Nat) (O : List Nat) : Except Nat (Nat × List Nat) :=
  if t + 3 ≤ 8 * m ∧ M / 2 ^ (t + 1) % 4 = 2 then ownS M m most O (ownP M m (t + 3)) else blkP M m most t O

/-- What blocks tell, up to the last one, with so many blocks ahead of it. -/
inductive BlksF (M m : Nat) (most : Int) : Nat → Nat → List Nat → Except Nat (Nat × List Nat) → Prop
  | bad {n t e : Nat} {O : List Nat} : blkF M m most t O = .error e → BlksF M m most n t O (.error e)
  | last {n t u : Nat} {O Q : List Nat} : M / 2 ^ t % 2 = 1 → blkF M m most t O = .ok (u, Q) → BlksF M m most n t O (.ok (u, Q))
  | more {n t u : Nat} {O Q : List Nat} {r : Except Nat (Nat × List Nat)} : M / 2 ^ t % 2 = 0 → blkF M m most t O = .ok (u, Q) → BlksF M m most n u Q r → BlksF M m most (n + 1) t O r

/-- Codes of its own that a stream has read. -/
def OwnQ (w0 w1 : World) (p b : Nat) (s v : Value) (M m t u : Nat) (O : List Nat) (most : Int) (c : Nat) (L D : List Int) : Prop :=
  newErr L = 0 ∧ newErr D = 0 ∧ t ≤ u ∧ ∃ d1 d2 b1 b2 n1 n2, Cod w1 c d1 d2 b1 b2 n1 n2 L D ∧ BesC p b s v c d1 d2 b1 b2 L D ∧ Str w1 p b s v M m u O most ∧ w0.heap.size ≤ d1 ∧ w0.heap.size ≤ d2 ∧ Step (fun k => k = b) w0 w1

/-- How ownCodes ends, seen so. -/
def OwnR (w0 : World) (B p b : Nat) (s v : Value) (M m t : Nat) (O : List Nat) (most : Int) (r : Except Nat (Nat × List Int × List Int)) (e : Ending) (w' : World) : Prop :=
  Hid (Step (fun k => B ≤ k) w0 w') ∧
  match r with
  | .error x => 0 < x ∧ e = .returned (.tuple #[.pointer none, .int .i64 (x : Int)])
  | .ok (u, L, D) => ∃ c, e = .returned (.tuple #[.pointer (some ⟨c, 0, none⟩), .int .i64 0]) ∧ Hid (OwnQ w0 w' p b s v M m t u O most c L D)

theorem own_st (B p b : Nat) (s v : Value) (M m t : Nat) (O : List Nat) (most : Int) (w : World) (T : Tab w) (h : St w B p b s v M m t O most) (hm : m ≤ 1000000) (hB0 : 0 < B) :
    Calls Tryd.prog 31 #[.pointer (some ⟨p, 0, none⟩)] w (OwnR w B p b s v M m t O most (ownP M m t)) := by
  have hb0 : b ≠ 0 := by have := h.bb; omega
  refine (ownCodes_any p b s v M m t O most w T h.str hm hb0).mono fun e w' ⟨hs, hr⟩ => ⟨hidden (hs.mono (fun i hi => by rw [hi]; exact h.bb)), ?_⟩
  cases hq : ownP M m t with
  | error x => rw [hq] at hr; exact hr
  | ok z =>
    obtain ⟨u, L, D⟩ := z
    rw [hq] at hr
    obtain ⟨e1, e2, c, d1, d2, b1, b2, n1, n2, he, hc, hst, k0, k1, k2, k3, k4, k5⟩ := hr
    have lb : b < w.heap.size := World.block_lt_of_cell? w _ h.str.rr.ins
    have lp : p < w.heap.size := World.block_lt_of_cell? w _ h.str.ci
    have lv : ∀ k, v.ownBlock = some k → k < w.heap.size := fun k hk => (h.str.ou.ow.lt _ hk).2
    have ls : ∀ k, s.ownBlock = some k → k < w.heap.size := fun k hk => (h.str.rr.own.lt _ hk).2
    refine ⟨c, he, hidden ⟨e1, e2, k5, d1, d2, b1, b2, n1, n2, hc, ⟨⟨by omega, by omega, ?_, ?_, by omega, by omega, ?_⟩, ⟨by omega, by omega, ?_, ?_, by omega, by omega, ?_⟩, by omega, by omega, ?_⟩, hst, k1, k2, hs⟩⟩
    · intro e; have := ls _ e; omega
    · intro e; have := lv _ e; omega
    · intro _ e; have := lv _ e; omega
    · intro e; have := ls _ e; omega
    · intro e; have := lv _ e; omega
    · intro _ e; have := lv _ e; omega
    · intro e; have := lv _ e; omega

theorem own_syms (B p b : Nat) (s v : Value) (M m t u : Nat) (O : List Nat) (most : Int) (c : Nat) (L D : List Int) (w0 w : World) (h : St w0 B p b s v M m t O most) (hq : OwnQ w0 w p b s v M m t u O most c L D) (hm : m ≤ 1000000) (hB : B ≤ w0.heap.size) (h0 : 0 ≤ most) (h1 : most ≤ 9223372036854775807) :
    Calls Tryd.prog 29 #[.pointer (some ⟨p, 0, none⟩), .pointer (some ⟨c, 0, none⟩)] w fun e w' => Hid (Step (fun k => B ≤ k) w0 w') ∧
      match symsV L D M m most u O with
      | .error x => 0 < x ∧ e = .returned (.int .i64 (x : Int))
      | .ok (u2, Q) => e = .returned (.int .i64 0) ∧ Hid (∃ v', St w' B p b s v' M m u2 Q most) := by
  obtain ⟨e1, e2, htu, d1, d2, b1, b2, n1, n2, hc, hb, hst, k1, k2, S1⟩ := hq
  have hol := h.ol
  refine (symbols_any p b s v M m u O most c d1 d2 b1 b2 n1 n2 L D w hst hc hb hm e1 e2 (by omega) h0 h1).mono fun e w' ⟨he1, he2, he3⟩ => ?_
  have S2 : Step (Sb p b v) w0 w' := (S1.mono (fun i hi => .inr (.inl hi))).trans he1 (fun i hi => by
    rcases hi with h | h | h
    · exact .inl h
    · exact .inr (by omega)
    · exact .inr (by omega))
  have hSb : ∀ i, Sb p b v i → B ≤ i := by
    rintro i (e | e | e)
    · rw [e]; exact h.bp
    · rw [e]; exact h.bb
    · exact h.bv i e
  have K : Keep p w0 w' := (Keep.step S1 (World.block_lt_of_cell? w0 _ h.str.ci) h.str.pb).trans he2
  refine ⟨hidden (S2.mono hSb), ?_⟩
  cases hr : symsV L D M m most u O with
  | error x => rw [hr] at he3; exact he3
  | ok z =>
    obtain ⟨u2, Q⟩ := z
    rw [hr] at he3
    obtain ⟨a1, ⟨v', a2, a3⟩, a4, a5⟩ := he3
    have hv : v'.ownBlock = v.ownBlock ∨ ∃ k, v'.ownBlock = some k ∧ w0.heap.size ≤ k := by
      rcases a3 with e | ⟨k, e, hk⟩
      · exact .inl e
      · exact .inr ⟨k, e, Nat.le_trans S1.size hk⟩
    exact ⟨a1, hidden ⟨v', a2, K.2.trans h.f3, h.fx.beside (M := M) (m := m) (t := t) (O := O) (most := most) S2 K hv, h.bp, h.bb, bv_grow hB h.bv hv, a5⟩⟩

set_option maxHeartbeats 8000000 in
theorem block_full (B p b : Nat) (s v : Value) (M m t : Nat) (O : List Nat) (most : Int) (w : World) (T : Tab w) (h : St w B p b s v M m t O most) (hm : m ≤ 1000000) (hB : B ≤ w.heap.size) (hB0 : 0 < B) (h0 : 0 ≤ most) (h1 : most ≤ 9223372036854775807) :
    Calls Tryd.prog 22 #[.pointer (some ⟨p, 0, none⟩)] w (BlkE w B p b s M m most (decide (M / 2 ^ t % 2 = 1)) (blkF M m most t O)) := by
  by_cases g : t + 3 ≤ 8 * m ∧ M / 2 ^ (t + 1) % 4 = 2
  · have HT := hidden T
    have H := hidden h
    have c0 := h.str.ci
    have hle := h.str.rr.le
    obtain ⟨g2, gk⟩ := g
    have HP : Hid (blkF M m most t O = ownS M m most O (ownP M m (t + 3))) := hidden (by unfold blkF; rw [if_pos ⟨g2, gk⟩])
    clear T h
    obtain ⟨x, hx, hx2⟩ : ∃ x, x = M / 2 ^ t % 2 ^ 1 ∧ x < 2 := ⟨_, rfl, Nat.mod_lt _ (by omega)⟩
    have HX : Hid (M / 2 ^ t % 2 = x) := hidden hx.symm
    have hG1 : Hid (Calls Tryd.prog 27 #[.pointer (some ⟨b, 0, none⟩), .int .i64 (1 : Nat)] w fun e w' => e = .returned (.tuple #[.int .i64 (x : Int), .int .i64 0]) ∧ (w'.cell? ⟨p, 0, none⟩ = some (.pointer (some ⟨b, 0, none⟩)) ∧ Hid (St w' B p b s v M m (t + 1) O most ∧ Step (fun k => B ≤ k) w w'))) :=
      hidden ((get_ok b s M m t 1 w H.out.str.rr (by omega) (by omega) (by omega)).mono fun e w' ⟨he, T⟩ => by
        rw [← hx] at he
        have hT := H.out.took T (by omega)
        exact ⟨he, hT.1.str.ci, hT⟩)
    have hk : 2 = M / 2 ^ (t + 1) % 2 ^ 2 := gk.symm
    have hG2 : Hid (∀ w1, St w1 B p b s v M m (t + 1) O most → Calls Tryd.prog 27 #[.pointer (some ⟨b, 0, none⟩), .int .i64 (2 : Nat)] w1 fun e w' => e = .returned (.tuple #[.int .i64 2, .int .i64 0]) ∧ Hid (St w' B p b s v M m (t + 3) O most ∧ Step (fun k => B ≤ k) w1 w')) :=
      hidden (fun w1 S1 => (get_ok b s M m (t + 1) 2 w1 S1.str.rr (by omega) (by omega) (by omega)).mono fun e w' ⟨he, T⟩ => by
        rw [← hk] at he
        exact ⟨he, S1.took T (by omega)⟩)
    have HOC : Hid (∀ w1, St w1 B p b s v M m (t + 3) O most → Tab w1 → Calls Tryd.prog 31 #[.pointer (some ⟨p, 0, none⟩)] w1 (OwnR w1 B p b s v M m (t + 3) O most (ownP M m (t + 3)))) := hidden (fun w1 S1 T1 => own_st B p b s v M m (t + 3) O most w1 T1 S1 hm hB0)
    have HTS : Hid (∀ w1, Step (fun k => B ≤ k) w w1 → Tab w1) := hidden (fun w1 S1 => HT.out.step S1 (by omega))
    clear hx hk gk
    obtain ⟨r, hr⟩ : ∃ r, r = ownP M m (t + 3) := ⟨_, rfl⟩
    rw [← hr] at HOC HP
    clear hr
    cases r with
    | error z =>
      go_enter Tryd.func22, Tryd.ntmps22
      go_wp2_with fail
      refine hG1.out.mono ?_
      rintro e w1 ⟨rfl, c1, S1⟩
      go_wp2_with fail
      refine (hG2.out _ S1.out.1).mono ?_
      rintro e w2 ⟨rfl, S2⟩
      have HS2 := hidden (S1.out.2.trans S2.out.2 (fun i hi => .inl hi))
      go_wp2_with fail
      refine (HOC.out _ S2.out.1 (HTS.out _ HS2.out)).mono ?_
      rintro e w3 ⟨R3, hz0, rfl⟩
      have hz : ((z : Int) == 0) = false := by rw [beq_eq_false_iff_ne]; omega
      go_wp2
      go_ret2
      unfold BlkE
      rw [HP.out]
      exact ⟨HS2.out.trans R3.out (fun i hi => .inl hi), hz0, _, rfl⟩
    | ok z =>
      obtain ⟨u, L, D⟩ := z
      have HSY : Hid (∀ w0 w1 c, St w0 B p b s v M m (t + 3) O most → OwnQ w0 w1 p b s v M m (t + 3) u O most c L D → B ≤ w0.heap.size → Calls Tryd.prog 29 #[.pointer (some ⟨p, 0, none⟩), .pointer (some ⟨c, 0, none⟩)] w1 fun e w' => Hid (Step (fun k => B ≤ k) w0 w') ∧
          match symsV L D M m most u O with
          | .error x => 0 < x ∧ e = .returned (.int .i64 (x : Int))
          | .ok (u2, Q) => e = .returned (.int .i64 0) ∧ Hid (∃ v', St w' B p b s v' M m u2 Q most)) := hidden (fun w0 w1 c S0 hq hB2 => own_syms B p b s v M m (t + 3) u O most c L D w0 w1 S0 hq hm hB2 h0 h1)
      have HP2 : Hid (blkF M m most t O = symsV L D M m most u O) := hidden HP.out
      go_enter Tryd.func22, Tryd.ntmps22
      go_wp2_with fail
      refine hG1.out.mono ?_
      rintro e w1 ⟨rfl, c1, S1⟩
      go_wp2_with fail
      refine (hG2.out _ S1.out.1).mono ?_
      rintro e w2 ⟨rfl, S2⟩
      have HS2 := hidden (S1.out.2.trans S2.out.2 (fun i hi => .inl hi))
      go_wp2_with fail
      refine (HOC.out _ S2.out.1 (HTS.out _ HS2.out)).mono ?_
      rintro e w3 ⟨R3, c, rfl, Q3⟩
      go_wp2_with fail
      refine (HSY.out w2 w3 c S2.out.1 Q3.out (by have := HS2.out.size; omega)).mono ?_
      rintro e w4 ⟨R4, hr⟩
      cases hq : symsV L D M m most u O with
      | error z =>
        rw [hq] at hr
        obtain ⟨hz, rfl⟩ := hr
        have HQ := hidden hq
        clear hq
        go_wp2
        go_ret2
        unfold BlkE
        rw [HP2.out, HQ.out]
        exact ⟨HS2.out.trans R4.out (fun i hi => .inl hi), hz, _, rfl⟩
      | ok z =>
        obtain ⟨u2, Q⟩ := z
        rw [hq] at hr
        obtain ⟨rfl, hv⟩ := hr
        have HQ := hidden hq
        clear hq
        go_wp2
        go_ret2
        unfold BlkE
        rw [HP2.out, HQ.out, HX.out]
        refine ⟨HS2.out.trans R4.out (fun i hi => .inl hi), ?_, hv.out⟩
        rcases (show x = 0 ∨ x = 1 by omega) with rfl | rfl <;> rfl
  · have HP : blkF M m most t O = blkP M m most t O := by unfold blkF; rw [if_neg g]
    rw [HP]
    exact block_any B p b s v M m t O most w h hm hB h0 h1 (fun h3 h4 => g ⟨h3, h4⟩)

end Go.Proofs.YtinncakendfklaaDoor

namespace Go.Proofs.YtinncakendfklaaDoor
set_option linter.unusedVariables false

theorem symV_adv {L : List Int} (hL : newErr L = 0) {M m t x u : Nat} (h : symV L M m t = .ok (x, u)) : x < L.length ∧ t < u ∧ u ≤ 8 * m := by
  have := (symV_spec hL M m t).fine
  rw [h] at this
  exact this

theorem Syms.exists {L D : List Int} (hL : newErr L = 0) (hD : newErr D = 0) {M m : Nat} {most : Int} : ∀ (k t : Nat) (O : List Nat), t ≤ 8 * m → 8 * m - t ≤ k → ∃ r, Syms L D M m most t O r
  | k, t, O, ht, hk => by
    cases hs : symV L M m t with
    | error e => exact ⟨_, Syms.bad hs⟩
    | ok z =>
      obtain ⟨x, u⟩ := z
      obtain ⟨h1, h2, h3⟩ := symV_adv hL hs
      cases k with
      | zero => omega
      | succ k =>
        by_cases g1 : x = 256
        · subst g1; exact ⟨_, Syms.stop hs⟩
        · by_cases g2 : x < 256
          · by_cases g3 : 1 ≤ most - (O.length : Int)
            · obtain ⟨r, hr⟩ := Syms.exists hL hD k u (O ++ [x]) h3 (by omega)
              exact ⟨r, Syms.lit hs g2 g3 hr⟩
            · exact ⟨_, Syms.full hs g2 g3⟩
          · cases hq : matchP D M m most x u O with
            | error e => exact ⟨_, Syms.none hs (by omega) hq⟩
            | ok z =>
              obtain ⟨u2, O2⟩ := z
              obtain ⟨h4, h5, _⟩ := matchP_ok hD (by omega) h3 hq
              obtain ⟨r, hr⟩ := Syms.exists hL hD k u2 O2 h5 (by omega)
              exact ⟨r, Syms.mat hs (by omega) hq hr⟩

theorem Syms.adv {L D : List Int} (hL : newErr L = 0) (hD : newErr D = 0) {M m t : Nat} {most : Int} {O : List Nat} {r : Except Nat (Nat × List Nat)} (h : Syms L D M m most t O r) : ∀ u Q, r = .ok (u, Q) → t < u ∧ u ≤ 8 * m := by
  induction h with
  | bad _ => intro u Q e; cases e
  | stop hs => intro u Q e; injection e with e; injection e with e1 e2; subst e1; have := symV_adv hL hs; exact ⟨this.2.1, this.2.2⟩
  | full _ _ _ => intro u Q e; cases e
  | lit hs _ _ _ ih => intro u Q e; have := ih u Q e; have h2 := symV_adv hL hs; omega
  | none _ _ _ => intro u Q e; cases e
  | mat hs hx hq _ ih =>
    intro u Q e
    have := ih u Q e
    have h2 := symV_adv hL hs
    have h3 := matchP_ok hD (by omega) h2.2.2 hq
    omega

theorem symsV_adv {L D : List Int} (hL : newErr L = 0) (hD : newErr D = 0) {M m t u : Nat} {most : Int} {O Q : List Nat} (ht : t ≤ 8 * m) (h : symsV L D M m most t O = .ok (u, Q)) : t < u ∧ u ≤ 8 * m := by
  obtain ⟨r, hr⟩ := Syms.exists hL hD (M := M) (most := most) (8 * m - t) t O ht (Nat.le_refl _)
  have e := hr.val
  rw [e] at h
  exact hr.adv hL hD u Q h

theorem Lens.exists {C : List Int} (hC : newErr C = 0) {M m many : Nat} : ∀ (k t : Nat) (A : List Int), t ≤ 8 * m → many - A.length ≤ k → ∃ r, Lens C M m many t A r
  | k, t, A, ht, hk => by
    by_cases g0 : many ≤ A.length
    · exact ⟨_, Lens.done g0⟩
    · cases k with
      | zero => omega
      | succ k =>
        cases hs : symV C M m t with
        | error e => exact ⟨_, Lens.bad (by omega) hs⟩
        | ok z =>
          obtain ⟨x, u⟩ := z
          obtain ⟨h1, h2, h3⟩ := symV_adv hC hs
          by_cases g1 : x = 16 ∧ A.length = 0
          · obtain ⟨rfl, g1⟩ := g1; exact ⟨_, Lens.first (by omega) hs g1⟩
          · have htk := timP_ok M m x u h3
            cases hq : timP M m x u with
            | error e => exact ⟨_, Lens.short (by omega) hs g1 hq⟩
            | ok z =>
              obtain ⟨n, u2⟩ := z
              rw [hq] at htk
              obtain ⟨q1, q2, q3, q4⟩ := htk
              by_cases g2 : many - A.length < n
              · exact ⟨_, Lens.over (by omega) hs g1 hq g2⟩
              · obtain ⟨r, hr⟩ := Lens.exists hC (M := M) (m := m) (many := many) k u2 (A ++ List.replicate n (lenOf x A)) q4 (by rw [List.length_append, List.length_replicate]; omega)
                exact ⟨r, Lens.more (by omega) hs g1 hq (by omega) hr⟩

theorem Lens.adv {C : List Int} (hC : newErr C = 0) {M m many t : Nat} {A : List Int} {r : Except Nat (Nat × List Int)} (h : Lens C M m many t A r) : t ≤ 8 * m → ∀ u Q, r = .ok (u, Q) → t ≤ u ∧ u ≤ 8 * m := by
  induction h with
  | done _ => intro ht u Q e; injection e with e; injection e with e1 e2; subst e1; exact ⟨Nat.le_refl _, ht⟩
  | bad _ _ => intro ht u Q e; cases e
  | first _ _ _ => intro ht u Q e; cases e
  | short _ _ _ _ => intro ht u Q e; cases e
  | over _ _ _ _ _ => intro ht u Q e; cases e
  | @more t u x n u2 A r _ hs _ hq _ _ ih =>
    intro ht u' Q e
    have h2 := symV_adv hC hs
    have h3 := timP_ok M m x u h2.2.2
    rw [hq] at h3
    obtain ⟨q1, q2, q3, q4⟩ := h3
    have := ih q4 u' Q e
    omega

theorem lensV_adv {C : List Int} (hC : newErr C = 0) {M m many t u : Nat} {A : List Int} (ht : t ≤ 8 * m) (h : lensV C M m many t = .ok (u, A)) : t ≤ u ∧ u ≤ 8 * m := by
  obtain ⟨r, hr⟩ := Lens.exists hC (M := M) (many := many) many t [] ht (by simp)
  have e := hr.val
  rw [e] at h
  exact hr.adv hC ht u A h

theorem ownP_adv {M m t u : Nat} {L D : List Int} (h : ownP M m t = .ok (u, L, D)) : newErr L = 0 ∧ newErr D = 0 ∧ t ≤ u ∧ u ≤ 8 * m := by
  unfold ownP at h
  split at h
  · unfold ownC at h
    split at h
    · cases h
    · split at h
      · split at h
        · rename_i g1 g2 g3 g4
          cases hq : lensV (clL M (t + 14) (M / 2 ^ t % 16384 / 1024 + 4)) M m (M / 2 ^ t % 16384 % 32 + 257 + (M / 2 ^ t % 16384 / 32 % 32 + 1)) (t + 14 + 3 * (M / 2 ^ t % 16384 / 1024 + 4)) with
          | error e => rw [hq] at h; cases h
          | ok z =>
            obtain ⟨u', A⟩ := z
            rw [hq] at h
            have ha := lensV_adv g4 g3 hq
            have h' : ownA (M / 2 ^ t % 16384 % 32 + 257) u' A = .ok (u, L, D) := h
            unfold ownA at h'
            by_cases k1 : A.getD 256 0 = 0
            · rw [if_pos k1] at h'; cases h'
            · rw [if_neg k1] at h'
              by_cases k2 : newErr (A.take (M / 2 ^ t % 16384 % 32 + 257)) = 0
              · rw [if_neg (fun q => q k2)] at h'
                by_cases k3 : newErr (A.drop (M / 2 ^ t % 16384 % 32 + 257)) = 0
                · rw [if_neg (fun q => q k3)] at h'
                  injection h' with h'
                  injection h' with e1 e2
                  injection e2 with e2 e3
                  subst e1; subst e2; subst e3
                  exact ⟨k2, k3, by omega, ha.2⟩
                · rw [if_pos k3] at h'; cases h'
              · rw [if_pos k2] at h'; cases h'
        · cases h
      · cases h
  · cases h

theorem storedP_adv {M m t u : Nat} {most : Int} {O Q : List Nat} (h : storedP M m most t O = .ok (u, Q)) : t < u ∧ u ≤ 8 * m := by
  unfold storedP at h
  simp only at h
  split at h
  · split at h
    · split at h
      · split at h
        · injection h with h
          injection h with h1 h2
          subst h1
          omega
        · cases h
      · cases h
    · cases h
  · cases h

theorem blkF_adv {M m t u : Nat} {most : Int} {O Q : List Nat} (h : blkF M m most t O = .ok (u, Q)) : t < u ∧ u ≤ 8 * m := by
  unfold blkF at h
  split at h
  · rename_i g
    cases hq : ownP M m (t + 3) with
    | error e => rw [hq] at h; cases h
    | ok z =>
      obtain ⟨u1, L, D⟩ := z
      rw [hq] at h
      obtain ⟨a1, a2, a3, a4⟩ := ownP_adv hq
      have := symsV_adv a1 a2 a4 h
      omega
  · unfold blkP at h
    split at h
    · split at h
      · have := storedP_adv h; omega
      · split at h
        · have := symsV_adv FL_ok FD_ok (by omega) h; omega
        · cases h
    · cases h

theorem BlksF.exists {M m : Nat} {most : Int} : ∀ (k t : Nat) (O : List Nat), 8 * m - t < k → ∃ r, BlksF M m most k t O r
  | 0, t, O, hk => by omega
  | k + 1, t, O, hk => by
    cases hq : blkF M m most t O with
    | error e => exact ⟨_, BlksF.bad hq⟩
    | ok z =>
      obtain ⟨u, Q⟩ := z
      have ha := blkF_adv hq
      have h2 : M / 2 ^ t % 2 < 2 := Nat.mod_lt _ (by omega)
      by_cases g : M / 2 ^ t % 2 = 1
      · exact ⟨_, BlksF.last g hq⟩
      · obtain ⟨r, hr⟩ := BlksF.exists (M := M) (m := m) (most := most) k u Q (by omega)
        exact ⟨r, BlksF.more (by omega) hq hr⟩

end Go.Proofs.YtinncakendfklaaDoor
