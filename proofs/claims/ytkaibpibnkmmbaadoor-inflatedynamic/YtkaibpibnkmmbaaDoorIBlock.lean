/-
  A block; all of a stream.
-/
import Derived.Test.YtkaibpibnkmmbaaDoorIFix
namespace Go.Proofs.YtkaibpibnkmmbaaDoor
open Go.RowKit
set_option maxRecDepth 100000
set_option linter.unusedVariables false

/-- A stream as it stands between blocks. -/
structure St (w : World) (B p b : Nat) (s v : Value) (M m t : Nat) (O : List Nat) (most : Int) : Prop where
  str : Str w p b s v M m t O most
  f3 : w.frozen? ⟨p, 3, none⟩ = false
  fx : Fx w B p b s v
  bp : B ≤ p
  bb : B ≤ b
  bv : ∀ k, v.ownBlock = some k → B ≤ k
  ol : O.length ≤ 258 * t

/-- How a block ends. -/
def BlkE (w : World) (B p b : Nat) (s : Value) (M m : Nat) (most : Int) (l : Bool) (r : Except Nat (Nat × List Nat)) (e : Ending) (w' : World) : Prop :=
  Step (fun k => B ≤ k) w w' ∧
  match r with
  | .error x => 0 < x ∧ ∃ q, e = .returned (.tuple #[.bool q, .int .i64 (x : Int)])
  | .ok (u, Q) => e = .returned (.tuple #[.bool l, .int .i64 0]) ∧ ∃ v', St w' B p b s v' M m u Q most

theorem Fx.beside {w w' : World} {B p b : Nat} {s v v' : Value} {M m t : Nat} {O : List Nat} {most : Int} (h : Fx w B p b s v) (hs : Step (Sb p b v) w w') (hk : Keep p w w') (hv : v'.ownBlock = v.ownBlock ∨ ∃ k, v'.ownBlock = some k ∧ w.heap.size ≤ k) : Fx w' B p b s v' := by
  rcases h with h | ⟨c, d1, d2, b1, b2, n1, n2, h1, h2, h3, h4, h5⟩
  · exact .inl (hk.1 _ h)
  · exact .inr ⟨c, d1, d2, b1, b2, n1, n2, hk.1 _ h1, h2.beside h3 hs, h3.grow h2 hv, h4, h5⟩

theorem St.took {w w' : World} {B p b : Nat} {s v : Value} {M m t t' : Nat} {O : List Nat} {most : Int} (h : St w B p b s v M m t O most) (T : Took w w' b s M m t') (ht : t ≤ t') : St w' B p b s v M m t' O most ∧ Step (fun k => B ≤ k) w w' := by
  obtain ⟨a1, a2, a3⟩ := h.str.took T
  refine ⟨⟨a1, a3.2.trans h.f3, h.fx.beside (M := M) (m := m) (t := t) (O := O) (most := most) a2 a3 (.inl rfl), h.bp, h.bb, h.bv, ?_⟩, T.2.mono (fun i hi => by subst hi; exact h.bb)⟩
  have := h.ol
  omega

theorem bv_grow {w : World} {B : Nat} {v v' : Value} (hB : B ≤ w.heap.size) (h : ∀ k, v.ownBlock = some k → B ≤ k) (hv : v'.ownBlock = v.ownBlock ∨ ∃ k, v'.ownBlock = some k ∧ w.heap.size ≤ k) : ∀ k, v'.ownBlock = some k → B ≤ k := by
  intro k hk
  rcases hv with e | ⟨j, e, hj⟩
  · exact h k (by rw [← e]; exact hk)
  · rw [e] at hk; have := Option.some.inj hk; omega

theorem storedP_len {M m t u : Nat} {most : Int} {O Q : List Nat} (h : storedP M m most t O = .ok (u, Q)) (ho : O.length ≤ 258 * t) : Q.length ≤ 258 * u := by
  unfold storedP at h
  simp only at h
  split at h
  · split at h
    · split at h
      · split at h
        · injection h with h
          injection h with h1 h2
          subst h1; subst h2
          rw [List.length_append, bytesOf_length]
          omega
        · cases h
      · cases h
    · cases h
  · cases h

theorem storedP_err {M m t x : Nat} {most : Int} {O : List Nat} (h : storedP M m most t O = .error x) : 0 < x := by
  unfold storedP at h
  simp only at h
  split at h
  · split at h
    · split at h
      · split at h
        · cases h
        · injection h with h; omega
      · injection h with h; omega
    · injection h with h; omega
  · injection h with h; omega

/-- stored, seen so. -/
theorem stored_st (B p b : Nat) (s v : Value) (M m t : Nat) (O : List Nat) (most : Int) (w : World) (h : St w B p b s v M m t O most) (hm : m ≤ 1000000) (hB : B ≤ w.heap.size) (h0 : 0 ≤ most) (h1 : most ≤ 9223372036854775807) :
    Calls Tryd.prog 21 #[.pointer (some ⟨p, 0, none⟩)] w fun e w' => Step (fun k => B ≤ k) w w' ∧
      match storedP M m most t O with
      | .error x => 0 < x ∧ e = .returned (.int .i64 (x : Int))
      | .ok (u, Q) => e = .returned (.int .i64 0) ∧ ∃ v', St w' B p b s v' M m u Q most := by
  have hle := h.str.rr.le
  have hol := h.ol
  refine (stored_any p b s v M m t O most w h.str hm (by omega) h0 h1).mono fun e w' he => ?_
  have hSb : ∀ i, Sb p b v i → B ≤ i := by
    rintro i (e | e | e)
    · rw [e]; exact h.bp
    · rw [e]; exact h.bb
    · exact h.bv i e
  unfold Ends at he
  cases hr : storedP M m most t O with
  | error x =>
    rw [hr] at he
    exact ⟨he.2.1.mono hSb, storedP_err hr, he.1⟩
  | ok z =>
    obtain ⟨u, Q⟩ := z
    rw [hr] at he
    obtain ⟨he, v', a1, a2, a3, a4⟩ := he
    refine ⟨a2.mono hSb, he, v', a1, a4.2.trans h.f3, h.fx.beside (M := M) (m := m) (t := t) (O := O) (most := most) a2 a4 a3, h.bp, h.bb, bv_grow hB h.bv a3, storedP_len hr hol⟩

/-- The symbols of a block by the fixed codes. -/
theorem symbols_st (B p b : Nat) (s v : Value) (M m t : Nat) (O : List Nat) (most : Int) (c d1 d2 b1 b2 n1 n2 : Nat) (w : World) (h : St w B p b s v M m t O most) (hm : m ≤ 1000000) (hB : B ≤ w.heap.size) (h0 : 0 ≤ most) (h1 : most ≤ 9223372036854775807)
    (hp : w.cell? ⟨p, 3, none⟩ = some (.pointer (some ⟨c, 0, none⟩))) (hc : Cod w c d1 d2 b1 b2 n1 n2 FL FD) (hb : BesC p b s v c d1 d2 b1 b2 FL FD) (x1 : B ≤ d1) (x2 : B ≤ d2) :
    Calls Tryd.prog 22 #[.pointer (some ⟨p, 0, none⟩), .pointer (some ⟨c, 0, none⟩)] w fun e w' => Step (fun k => B ≤ k) w w' ∧
      match symsV FL FD M m most t O with
      | .error x => 0 < x ∧ e = .returned (.int .i64 (x : Int))
      | .ok (u, Q) => e = .returned (.int .i64 0) ∧ ∃ v', St w' B p b s v' M m u Q most := by
  refine (symbols_any p b s v M m t O most c d1 d2 b1 b2 n1 n2 FL FD w h.str hc hb hm FL_ok FD_ok h.ol h0 h1).mono fun e w' ⟨he1, he2, he3⟩ => ?_
  have hSb : ∀ i, Sc p b v d1 d2 i → B ≤ i := by
    rintro i ((e | e | e) | e | e)
    · rw [e]; exact h.bp
    · rw [e]; exact h.bb
    · exact h.bv i e
    · rw [e]; exact x1
    · rw [e]; exact x2
  refine ⟨he1.mono hSb, ?_⟩
  cases hr : symsV FL FD M m most t O with
  | error x => rw [hr] at he3; exact he3
  | ok z =>
    obtain ⟨u, Q⟩ := z
    rw [hr] at he3
    obtain ⟨a1, ⟨v', a2, a3⟩, a4, a5⟩ := he3
    exact ⟨a1, v', a2, he2.2.trans h.f3, .inr ⟨c, d1, d2, b1, b2, n1, n2, he2.1 _ hp, a4, hb.grow hc a3, x1, x2⟩, h.bp, h.bb, bv_grow hB h.bv a3, a5⟩

set_option maxHeartbeats 8000000 in
theorem block_any (B p b : Nat) (s v : Value) (M m t : Nat) (O : List Nat) (most : Int) (w : World) (h : St w B p b s v M m t O most) (hm : m ≤ 1000000) (hB : B ≤ w.heap.size) (h0 : 0 ≤ most) (h1 : most ≤ 9223372036854775807) (hk2 : t + 3 ≤ 8 * m → M / 2 ^ (t + 1) % 4 ≠ 2) :
    Calls Tryd.prog 17 #[.pointer (some ⟨p, 0, none⟩)] w (BlkE w B p b s M m most (decide (M / 2 ^ t % 2 = 1)) (blkP M m most t O)) := by
  have H := hidden h
  have c0 := h.str.ci
  have hle := h.str.rr.le
  clear h
  by_cases g1 : t + 1 ≤ 8 * m
  · obtain ⟨x, hx, hx2⟩ : ∃ x, x = M / 2 ^ t % 2 ^ 1 ∧ x < 2 := ⟨_, rfl, Nat.mod_lt _ (by omega)⟩
    have HX : Hid (M / 2 ^ t % 2 = x) := hidden hx.symm
    have hG1 : Hid (Calls Tryd.prog 20 #[.pointer (some ⟨b, 0, none⟩), .int .i64 (1 : Nat)] w fun e w' => e = .returned (.tuple #[.int .i64 (x : Int), .int .i64 0]) ∧ (w'.cell? ⟨p, 0, none⟩ = some (.pointer (some ⟨b, 0, none⟩)) ∧ Hid (St w' B p b s v M m (t + 1) O most ∧ Step (fun k => B ≤ k) w w'))) :=
      hidden ((get_ok b s M m t 1 w H.out.str.rr (by omega) (by omega) (by omega)).mono fun e w' ⟨he, T⟩ => by
        rw [← hx] at he
        have hT := H.out.took T (by omega)
        exact ⟨he, hT.1.str.ci, hT⟩)
    clear hx
    by_cases g2 : t + 3 ≤ 8 * m
    · obtain ⟨k, hk, hk4⟩ : ∃ k, k = M / 2 ^ (t + 1) % 2 ^ 2 ∧ k < 4 := ⟨_, rfl, Nat.mod_lt _ (by omega)⟩
      have HK : Hid (M / 2 ^ (t + 1) % 4 = k) := hidden hk.symm
      have hkn : k ≠ 2 := by have := hk2 g2; rw [HK.out] at this; exact this
      have hG2 : Hid (∀ w1, St w1 B p b s v M m (t + 1) O most → Calls Tryd.prog 20 #[.pointer (some ⟨b, 0, none⟩), .int .i64 (2 : Nat)] w1 fun e w' => e = .returned (.tuple #[.int .i64 (k : Int), .int .i64 0]) ∧ Hid (St w' B p b s v M m (t + 3) O most ∧ Step (fun k => B ≤ k) w1 w')) :=
        hidden (fun w1 S1 => (get_ok b s M m (t + 1) 2 w1 S1.str.rr (by omega) (by omega) (by omega)).mono fun e w' ⟨he, T⟩ => by
          rw [← hk] at he
          exact ⟨he, S1.took T (by omega)⟩)
      clear hk hk2
      have HG2 := hidden g2
      rcases (show k = 0 ∨ k = 1 ∨ k = 3 by omega) with rfl | rfl | rfl
      · have HP : Hid (blkP M m most t O = storedP M m most (t + 3) O) := hidden (by unfold blkP; rw [if_pos g2, if_pos HK.out])
        have HST : Hid (∀ w1, St w1 B p b s v M m (t + 3) O most → B ≤ w1.heap.size → Calls Tryd.prog 21 #[.pointer (some ⟨p, 0, none⟩)] w1 fun e w' => Hid (Step (fun k => B ≤ k) w1 w') ∧
            match storedP M m most (t + 3) O with
            | .error x => 0 < x ∧ e = .returned (.int .i64 (x : Int))
            | .ok (u, Q) => e = .returned (.int .i64 0) ∧ Hid (∃ v', St w' B p b s v' M m u Q most)) := hidden (fun w1 S1 hB1 => stored_st B p b s v M m (t + 3) O most w1 S1 hm hB1 h0 h1)
        clear g2
        go_enter Tryd.func17, Tryd.ntmps17
        go_wp2_with fail
        refine hG1.out.mono ?_
        rintro e w1 ⟨rfl, c1, S1⟩
        go_wp2_with fail
        refine (hG2.out _ S1.out.1).mono ?_
        rintro e w2 ⟨rfl, S2⟩
        go_wp2_with fail
        refine (HST.out _ S2.out.1 (by have := S1.out.2.size; have := S2.out.2.size; omega)).mono ?_
        rintro e w3 ⟨S3, hr⟩
        cases hq : storedP M m most (t + 3) O with
        | error z =>
          rw [hq] at hr
          obtain ⟨hz, rfl⟩ := hr
          have HQ := hidden hq
          clear hq
          go_wp2
          go_ret2
          unfold BlkE
          rw [HP.out, HQ.out]
          exact ⟨(S1.out.2.trans S2.out.2 (fun i hi => .inl hi)).trans S3.out (fun i hi => .inl hi), hz, _, rfl⟩
        | ok z =>
          obtain ⟨u, Q⟩ := z
          rw [hq] at hr
          obtain ⟨rfl, hv⟩ := hr
          have HQ := hidden hq
          clear hq
          go_wp2
          go_ret2
          unfold BlkE
          rw [HP.out, HQ.out, HX.out]
          refine ⟨(S1.out.2.trans S2.out.2 (fun i hi => .inl hi)).trans S3.out (fun i hi => .inl hi), ?_, hv.out⟩
          rcases (show x = 0 ∨ x = 1 by omega) with rfl | rfl <;> rfl
      · have HP : Hid (blkP M m most t O = symsV FL FD M m most (t + 3) O) := hidden (by unfold blkP; rw [if_pos g2, if_neg (by rw [HK.out]; omega), if_pos HK.out])
        have HFX : Hid (∀ w1, St w1 B p b s v M m (t + 3) O most → B ≤ w1.heap.size → Calls Tryd.prog 23 #[.pointer (some ⟨p, 0, none⟩)] w1 fun e w' => ∃ c, e = .returned (.pointer (some ⟨c, 0, none⟩)) ∧ Hid (∃ d1 d2 b1 b2 n1 n2, w'.cell? ⟨p, 3, none⟩ = some (.pointer (some ⟨c, 0, none⟩)) ∧ Cod w' c d1 d2 b1 b2 n1 n2 FL FD ∧ BesC p b s v c d1 d2 b1 b2 FL FD ∧ B ≤ d1 ∧ B ≤ d2 ∧ St w' B p b s v M m (t + 3) O most ∧ Step (fun k => B ≤ k) w1 w')) :=
          hidden (fun w1 S1 hB1 => (fixed_any B p b s v M m (t + 3) O most w1 S1.str S1.f3 S1.fx hB1).mono fun e w' ⟨c, d1, d2, b1, b2, n1, n2, he, a1, a2, a3, a4, a5, a6, a7, a8⟩ =>
            ⟨c, he, d1, d2, b1, b2, n1, n2, a1, a3, a4, a5, a6, ⟨a7, a2, .inr ⟨c, d1, d2, b1, b2, n1, n2, a1, a3, a4, a5, a6⟩, S1.bp, S1.bb, S1.bv, S1.ol⟩, a8.mono (fun i hi => by rw [hi]; exact S1.bp)⟩)
        have HST : Hid (∀ w1 c, (∃ d1 d2 b1 b2 n1 n2, w1.cell? ⟨p, 3, none⟩ = some (.pointer (some ⟨c, 0, none⟩)) ∧ Cod w1 c d1 d2 b1 b2 n1 n2 FL FD ∧ BesC p b s v c d1 d2 b1 b2 FL FD ∧ B ≤ d1 ∧ B ≤ d2 ∧ St w1 B p b s v M m (t + 3) O most) → B ≤ w1.heap.size → Calls Tryd.prog 22 #[.pointer (some ⟨p, 0, none⟩), .pointer (some ⟨c, 0, none⟩)] w1 fun e w' => Hid (Step (fun k => B ≤ k) w1 w') ∧
            match symsV FL FD M m most (t + 3) O with
            | .error x => 0 < x ∧ e = .returned (.int .i64 (x : Int))
            | .ok (u, Q) => e = .returned (.int .i64 0) ∧ Hid (∃ v', St w' B p b s v' M m u Q most)) :=
          hidden (fun w1 c ⟨d1, d2, b1, b2, n1, n2, a1, a3, a4, a5, a6, S1⟩ hB1 => symbols_st B p b s v M m (t + 3) O most c d1 d2 b1 b2 n1 n2 w1 S1 hm hB1 h0 h1 a1 a3 a4 a5 a6)
        clear g2
        go_enter Tryd.func17, Tryd.ntmps17
        go_wp2_with fail
        refine hG1.out.mono ?_
        rintro e w1 ⟨rfl, c1, S1⟩
        go_wp2_with fail
        refine (hG2.out _ S1.out.1).mono ?_
        rintro e w2 ⟨rfl, S2⟩
        have hB2 : Hid (B ≤ w2.heap.size) := hidden (by have := S1.out.2.size; have := S2.out.2.size; omega)
        go_wp2_with fail
        refine (HFX.out _ S2.out.1 hB2.out).mono ?_
        rintro e w3 ⟨c, rfl, S3⟩
        have S3a : Hid (Step (fun k => B ≤ k) w2 w3) := hidden (by obtain ⟨d1, d2, b1, b2, n1, n2, a1, a3, a4, a5, a6, a7, a8⟩ := S3.out; exact a8)
        have S3b : Hid (∃ d1 d2 b1 b2 n1 n2, w3.cell? ⟨p, 3, none⟩ = some (.pointer (some ⟨c, 0, none⟩)) ∧ Cod w3 c d1 d2 b1 b2 n1 n2 FL FD ∧ BesC p b s v c d1 d2 b1 b2 FL FD ∧ B ≤ d1 ∧ B ≤ d2 ∧ St w3 B p b s v M m (t + 3) O most) := hidden (by obtain ⟨d1, d2, b1, b2, n1, n2, a1, a3, a4, a5, a6, a7, a8⟩ := S3.out; exact ⟨d1, d2, b1, b2, n1, n2, a1, a3, a4, a5, a6, a7⟩)
        clear S3
        go_wp2_with fail
        refine (HST.out _ c S3b.out (by have := hB2.out; have := S3a.out.size; omega)).mono ?_
        rintro e w4 ⟨S4, hr⟩
        cases hq : symsV FL FD M m most (t + 3) O with
        | error z =>
          rw [hq] at hr
          obtain ⟨hz, rfl⟩ := hr
          have HQ := hidden hq
          clear hq
          go_wp2
          go_ret2
          unfold BlkE
          rw [HP.out, HQ.out]
          exact ⟨((S1.out.2.trans S2.out.2 (fun i hi => .inl hi)).trans S3a.out (fun i hi => .inl hi)).trans S4.out (fun i hi => .inl hi), hz, _, rfl⟩
        | ok z =>
          obtain ⟨u, Q⟩ := z
          rw [hq] at hr
          obtain ⟨rfl, hv⟩ := hr
          have HQ := hidden hq
          clear hq
          go_wp2
          go_ret2
          unfold BlkE
          rw [HP.out, HQ.out, HX.out]
          refine ⟨((S1.out.2.trans S2.out.2 (fun i hi => .inl hi)).trans S3a.out (fun i hi => .inl hi)).trans S4.out (fun i hi => .inl hi), ?_, hv.out⟩
          rcases (show x = 0 ∨ x = 1 by omega) with rfl | rfl <;> rfl
      · have HP : Hid (blkP M m most t O = .error 3) := hidden (by unfold blkP; rw [if_pos g2, if_neg (by rw [HK.out]; omega), if_neg (by rw [HK.out]; omega)])
        clear g2
        go_enter Tryd.func17, Tryd.ntmps17
        go_wp2_with fail
        refine hG1.out.mono ?_
        rintro e w1 ⟨rfl, c1, S1⟩
        go_wp2_with fail
        refine (hG2.out _ S1.out.1).mono ?_
        rintro e w2 ⟨rfl, S2⟩
        go_wp2
        go_ret2
        unfold BlkE
        rw [HP.out]
        exact ⟨S1.out.2.trans S2.out.2 (fun i hi => .inl hi), by omega, _, rfl⟩
    · have HP : Hid (blkP M m most t O = .error 2) := hidden (by unfold blkP; rw [if_neg g2])
      have hG2 : Hid (∀ w1, St w1 B p b s v M m (t + 1) O most → Calls Tryd.prog 20 #[.pointer (some ⟨b, 0, none⟩), .int .i64 (2 : Nat)] w1 fun e w' => e = .returned (.tuple #[.int .i64 0, .int .i64 2]) ∧ Hid (Step (fun k => B ≤ k) w1 w')) :=
        hidden (fun w1 S1 => (get_short b s M m (t + 1) 2 w1 S1.str.rr (by omega) (by omega) (by omega)).mono fun e w' ⟨he, q, hq⟩ => by
          subst hq
          exact ⟨he, (Step.refl _ w1).drewN q⟩)
      clear g2 hk2
      go_enter Tryd.func17, Tryd.ntmps17
      go_wp2_with fail
      refine hG1.out.mono ?_
      rintro e w1 ⟨rfl, c1, S1⟩
      go_wp2_with fail
      refine (hG2.out _ S1.out.1).mono ?_
      rintro e w2 ⟨rfl, S2⟩
      go_wp2
      go_ret2
      unfold BlkE
      rw [HP.out]
      exact ⟨S1.out.2.trans S2.out (fun i hi => .inl hi), by omega, _, rfl⟩
  · have HP : Hid (blkP M m most t O = .error 2) := hidden (by unfold blkP; rw [if_neg (by omega)])
    have hG1 : Hid (Calls Tryd.prog 20 #[.pointer (some ⟨b, 0, none⟩), .int .i64 (1 : Nat)] w fun e w' => e = .returned (.tuple #[.int .i64 0, .int .i64 2]) ∧ Hid (Step (fun k => B ≤ k) w w')) :=
      hidden ((get_short b s M m t 1 w H.out.str.rr (by omega) (by omega) (by omega)).mono fun e w' ⟨he, q, hq⟩ => by
        subst hq
        exact ⟨he, (Step.refl _ w).drewN q⟩)
    clear g1 hk2
    go_enter Tryd.func17, Tryd.ntmps17
    go_wp2_with fail
    refine hG1.out.mono ?_
    rintro e w1 ⟨rfl, S1⟩
    go_wp2
    go_ret2
    unfold BlkE
    rw [HP.out]
    exact ⟨S1.out, by omega, _, rfl⟩

end Go.Proofs.YtkaibpibnkmmbaaDoor
