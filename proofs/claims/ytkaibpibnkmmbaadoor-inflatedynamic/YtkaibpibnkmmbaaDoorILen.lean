/-
  Numbers behind a symbol; how long a match is, and how far back it begins.
-/
import Derived.Test.YtkaibpibnkmmbaaDoorISym
namespace Go.Proofs.YtkaibpibnkmmbaaDoor
open Go.RowKit
set_option maxRecDepth 100000
set_option linter.unusedVariables false

/-- So many bits' number, and least more. -/
def numP (M m t least n : Nat) : Except Nat (Nat × Nat) := if t + n ≤ 8 * m then .ok (least + M / 2 ^ t % 2 ^ n, t + n) else .error 2

/-- How number ends. -/
def NumE (w : World) (p b : Nat) (s v : Value) (M m : Nat) (O : List Nat) (most : Int) (r : Except Nat (Nat × Nat)) (e : Ending) (w' : World) : Prop :=
  Step (fun k => k = b) w w' ∧
  match r with
  | .error x => e = .returned (.tuple #[.int .i64 0, .int .i64 (x : Int)])
  | .ok (y, t) => e = .returned (.tuple #[.int .i64 (y : Int), .int .i64 0]) ∧ Str w' p b s v M m t O most

set_option maxHeartbeats 1000000 in
theorem number_any (p b : Nat) (s v : Value) (M m t : Nat) (O : List Nat) (most : Int) (least n : Nat) (w : World) (h : Str w p b s v M m t O most) (hm : m ≤ 1000000) (hn : n ≤ 24) (hl : least ≤ 1000000) :
    Calls Tryd.prog 46 #[.pointer (some ⟨p, 0, none⟩), .int .i64 least, .int .i64 n] w fun e w' => NumE w p b s v M m O most (numP M m t least n) e w' := by
  have c0 := h.ci
  have hle := h.rr.le
  have H := hidden h
  by_cases g : t + n ≤ 8 * m
  · obtain ⟨x, hx, hx2⟩ : ∃ x, x = M / 2 ^ t % 2 ^ n ∧ x ≤ 16777216 := ⟨_, rfl, Nat.le_trans (Nat.le_of_lt (Nat.mod_lt _ (Nat.two_pow_pos _))) (pow_le_24 n hn)⟩
    have hG : Hid (Calls Tryd.prog 20 #[.pointer (some ⟨b, 0, none⟩), .int .i64 n] w fun e w' => e = .returned (.tuple #[.int .i64 (x : Int), .int .i64 0]) ∧ Hid (Str w' p b s v M m (t + n) O most ∧ Step (fun k => k = b) w w')) :=
      hidden ((get_ok b s M m t n w h.rr (by omega) (by omega) (by omega)).mono fun e w' ⟨he, T⟩ => by
        rw [← hx] at he
        exact ⟨he, (h.took T).1, T.2⟩)
    have HR : Hid (numP M m t least n = .ok (least + x, t + n)) := hidden (by unfold numP; rw [if_pos g, ← hx])
    clear h hx g
    go_enter Tryd.func46, Tryd.ntmps46
    go_wp2_with (go_at_call 20; refine hG.out.mono ?_; rintro e w1 ⟨rfl, S1⟩)
    go_ret2
    rw [HR.out]
    refine ⟨S1.out.2, ?_, S1.out.1⟩
    simp
  · have hG : Hid (Calls Tryd.prog 20 #[.pointer (some ⟨b, 0, none⟩), .int .i64 n] w fun e w' => e = .returned (.tuple #[.int .i64 0, .int .i64 2]) ∧ Hid (Step (fun k => k = b) w w')) :=
      hidden ((get_short b s M m t n w h.rr (by omega) (by omega) (by omega)).mono fun e w' ⟨he, q, hq⟩ => by
        subst hq
        exact ⟨he, (Step.refl _ w).drewN q⟩)
    have HR : Hid (numP M m t least n = .error 2) := hidden (by unfold numP; rw [if_neg g])
    clear h g
    go_enter Tryd.func46, Tryd.ntmps46
    go_wp2_with (go_at_call 20; refine hG.out.mono ?_; rintro e w1 ⟨rfl, S1⟩)
    go_ret2
    rw [HR.out]
    exact ⟨S1.out, rfl⟩

/-- How long a match is, by its symbol (257 and more). -/
def lenP (M m x t : Nat) : Except Nat (Nat × Nat) :=
  if 286 ≤ x then .error 3 else if x = 285 then .ok (258, t) else if x < 265 then .ok (x - 254, t)
  else numP M m t ((4 + (x - 257) % 4) * 2 ^ ((x - 257) / 4 - 1) + 3) ((x - 257) / 4 - 1)

set_option maxHeartbeats 1000000 in
theorem length_any (p b : Nat) (s v : Value) (M m t : Nat) (O : List Nat) (most : Int) (x : Nat) (w : World) (h : Str w p b s v M m t O most) (hm : m ≤ 1000000) (h1 : 257 ≤ x) (h2 : x ≤ 1000) :
    Calls Tryd.prog 38 #[.pointer (some ⟨p, 0, none⟩), .int .i64 x] w fun e w' => NumE w p b s v M m O most (lenP M m x t) e w' := by
  have H := hidden h
  by_cases g1 : 286 ≤ x
  · have HR : Hid (lenP M m x t = .error 3) := hidden (by unfold lenP; rw [if_pos g1])
    clear h
    go_enter Tryd.func38, Tryd.ntmps38
    go_wp2
    go_ret2
    rw [HR.out]
    exact ⟨Step.refl _ _, rfl⟩
  · by_cases g2 : x = 285
    · subst g2
      have HR : Hid (lenP M m 285 t = .ok (258, t)) := hidden (by unfold lenP; rfl)
      clear h
      go_enter Tryd.func38, Tryd.ntmps38
      go_wp2
      go_ret2
      rw [HR.out]
      exact ⟨Step.refl _ _, rfl, H.out⟩
    · by_cases g3 : x < 265
      · have HR : Hid (lenP M m x t = .ok (x - 254, t)) := hidden (by unfold lenP; rw [if_neg g1, if_neg g2, if_pos g3])
        have hb : ((x : Int) == 285) = false := by rw [beq_eq_false_iff_ne]; omega
        clear h
        go_enter Tryd.func38, Tryd.ntmps38
        go_wp2
        go_ret2
        rw [HR.out]
        refine ⟨Step.refl _ _, ?_, H.out⟩
        rw [show ((x - 254 : Nat) : Int) = (x : Int) - 256 - 1 + 3 by omega]
        rfl
      · obtain ⟨k, hk, hk2⟩ : ∃ k, x = k + 257 ∧ k < 28 := ⟨x - 257, by omega, by omega⟩
        subst hk
        have hb : (((k + 257 : Nat) : Int) == 285) = false := by rw [beq_eq_false_iff_ne]; omega
        obtain ⟨n, hn, hn1, hn2⟩ : ∃ n, n = k / 4 - 1 ∧ 1 ≤ n ∧ n ≤ 5 := ⟨_, rfl, by omega, by omega⟩
        obtain ⟨y, hy, hy2⟩ : ∃ y, y = (4 + k % 4) * 2 ^ n ∧ y ≤ 1000 := ⟨_, rfl, by
          have : (2 : Nat) ^ n ≤ 2 ^ 5 := Nat.pow_le_pow_right (by omega) hn2
          have h4 : 4 + k % 4 ≤ 7 := by omega
          have := Nat.mul_le_mul h4 this
          omega⟩
        have HR : Hid (lenP M m (k + 257) t = numP M m t (y + 3) n) := hidden (by unfold lenP; rw [if_neg g1, if_neg g2, if_neg g3, Nat.add_sub_cancel, ← hn, ← hy])
        have hN : Hid (∀ w1, Str w1 p b s v M m t O most → Calls Tryd.prog 46 #[.pointer (some ⟨p, 0, none⟩), .int .i64 ((y + 3 : Nat) : Int), .int .i64 n] w1 fun e w' => NumE w1 p b s v M m O most (numP M m t (y + 3) n) e w') :=
          hidden (fun w1 S1 => number_any p b s v M m t O most (y + 3) n w1 S1 hm (by omega) (by omega))
        have ea : Hid (wrap64 (wrap64 ((4 + ((k : Int) + 257 - 256 - 1) % 4) * 2 ^ (k / 4 - 1)) + 3) = ((y + 3 : Nat) : Int)) := hidden (by
          have e3 : (4 + ((k : Int) + 257 - 256 - 1) % 4) * 2 ^ (k / 4 - 1) = (y : Int) := by
            rw [← hn, hy, show (k : Int) + 257 - 256 - 1 = (k : Int) by omega]
            simp
          rw [e3, wrap64_id (y : Int) (by omega) (by omega), wrap64_id ((y : Int) + 3) (by omega) (by omega)]
          omega)
        have en : Hid (((k : Int) + 257 - 256 - 1) / 4 - 1 = (n : Int)) := hidden (by omega)
        clear h hn hy
        go_enter Tryd.func38, Tryd.ntmps38
        go_wp2_with fail
        rw [ea.out, en.out]
        refine (hN.out _ H.out).mono ?_
        rintro e w1 ⟨hst, hr⟩
        have HST := hidden hst
        clear hst
        cases hq : numP M m t (y + 3) n with
        | error z =>
          rw [hq] at hr
          obtain rfl := hr
          have HQ := hidden hq
          clear hq
          go_wp2
          go_ret2
          rw [HR.out, HQ.out]
          exact ⟨HST.out, rfl⟩
        | ok z =>
          obtain ⟨z1, z2⟩ := z
          rw [hq] at hr
          obtain ⟨rfl, hS⟩ := hr
          have HQ := hidden (And.intro hq hS)
          clear hq hS
          go_wp2
          go_ret2
          rw [HR.out, HQ.out.1]
          exact ⟨HST.out, rfl, HQ.out.2⟩

/-- How far back a match begins, by lengths of codes D. -/
noncomputable def disP (D : List Int) (M m t : Nat) : Except Nat (Nat × Nat) :=
  match symV D M m t with
  | .error e => .error e
  | .ok (k, u) => if 30 ≤ k then .error 3 else if k < 4 then .ok (k + 1, u) else numP M m u ((2 + k % 2) * 2 ^ (k / 2 - 1) + 1) (k / 2 - 1)

/-- What holds of a length. -/
def LenOk (m t : Nat) : Except Nat (Nat × Nat) → Prop
  | .error x => x = 2 ∨ x = 3
  | .ok (y, u) => 3 ≤ y ∧ y ≤ 258 ∧ t ≤ u ∧ u ≤ 8 * m

theorem lenP_ok (M m x t : Nat) (h1 : 257 ≤ x) (ht : t ≤ 8 * m) : LenOk m t (lenP M m x t) := by
  unfold lenP
  by_cases g1 : 286 ≤ x
  · rw [if_pos g1]; exact .inr rfl
  · rw [if_neg g1]
    by_cases g2 : x = 285
    · rw [if_pos g2]; exact ⟨by omega, by omega, by omega, ht⟩
    · rw [if_neg g2]
      by_cases g3 : x < 265
      · rw [if_pos g3]; exact ⟨by omega, by omega, by omega, ht⟩
      · rw [if_neg g3]
        unfold numP
        obtain ⟨k, rfl⟩ : ∃ k, x = k + 257 := ⟨x - 257, by omega⟩
        rw [Nat.add_sub_cancel]
        obtain ⟨n, hn, hn1, hn2⟩ : ∃ n, n = k / 4 - 1 ∧ 1 ≤ n ∧ n ≤ 5 := ⟨_, rfl, by omega, by omega⟩
        rw [← hn]
        by_cases g : t + n ≤ 8 * m
        · rw [if_pos g]
          have hk := Nat.mod_lt (M / 2 ^ t) (Nat.two_pow_pos n)
          have h4 : k % 4 ≤ 3 := by omega
          refine ⟨by omega, ?_, by omega, g⟩
          have hn5 : n = 1 ∨ n = 2 ∨ n = 3 ∨ n = 4 ∨ n = 5 := by omega
          rcases hn5 with e | e | e | e | e <;> subst e <;> simp at hk ⊢ <;> omega
        · rw [if_neg g]; exact .inl rfl

/-- What holds of a distance. -/
def DisOk (m t : Nat) : Except Nat (Nat × Nat) → Prop
  | .error x => x = 2 ∨ x = 3
  | .ok (y, u) => 1 ≤ y ∧ y ≤ 32768 ∧ t < u ∧ u ≤ 8 * m

theorem disP_ok (D : List Int) (M m t : Nat) (h : SymOk D.length m t (symV D M m t)) : DisOk m t (disP D M m t) := by
  unfold disP
  cases hv : symV D M m t with
  | error x => rw [hv] at h; exact h
  | ok z =>
    obtain ⟨k, u⟩ := z
    rw [hv] at h
    obtain ⟨_, h2, h3⟩ := h
    show DisOk m t (if 30 ≤ k then _ else _)
    by_cases g1 : 30 ≤ k
    · rw [if_pos g1]; exact .inr rfl
    · rw [if_neg g1]
      by_cases g2 : k < 4
      · rw [if_pos g2]; exact ⟨by omega, by omega, h2, h3⟩
      · rw [if_neg g2]
        unfold numP
        obtain ⟨n, hn, hn1, hn2⟩ : ∃ n, n = k / 2 - 1 ∧ 1 ≤ n ∧ n ≤ 13 := ⟨_, rfl, by omega, by omega⟩
        rw [← hn]
        by_cases g : u + n ≤ 8 * m
        · rw [if_pos g]
          have hk := Nat.mod_lt (M / 2 ^ u) (Nat.two_pow_pos n)
          refine ⟨by omega, ?_, by omega, g⟩
          have hp : (2 : Nat) ^ n ≤ 2 ^ 13 := Nat.pow_le_pow_right (by omega) hn2
          have h3' : 2 + k % 2 ≤ 3 := by omega
          have := Nat.mul_le_mul_right (2 ^ n) h3'
          omega
        · rw [if_neg g]; exact .inl rfl

set_option maxHeartbeats 2000000 in
theorem distance_any (p b : Nat) (s v : Value) (M m t : Nat) (O : List Nat) (most : Int) (d : Nat) (L : List Int) (bs tot : Nat) (w : World) (h : Str w p b s v M m t O most) (hd : Dec w d L bs tot 0 0) (hb : Bes p b s v d bs L) (hm : m ≤ 1000000) (hL : newErr L = 0) :
    Calls Tryd.prog 39 #[.pointer (some ⟨p, 0, none⟩), .pointer (some ⟨d, 0, none⟩)] w fun e w' => SymE w p b s v M m O most d L bs tot (disP L M m t) e w' ∧ DisOk m t (disP L M m t) := by
  have hL2 := (newErr_ok hL).1
  have HS := hidden (symbol_any p b s v M m t O most d L bs tot w h hd hb hm hL)
  have HB := hidden hb
  clear h hd hb hL
  have hgo : Hid (∀ r, symV L M m t = r → Calls Tryd.prog 39 #[.pointer (some ⟨p, 0, none⟩), .pointer (some ⟨d, 0, none⟩)] w fun e w' => SymE w p b s v M m O most d L bs tot (disP L M m t) e w' ∧ DisOk m t (disP L M m t)) := hidden (fun r hr => by
    rw [hr] at HS
    have HV := hidden hr
    clear hr
    go_enter Tryd.func39, Tryd.ntmps39
    go_wp2_with fail
    refine HS.out.mono ?_
    rintro e w1 ⟨⟨hst, he⟩, hz⟩
    cases r with
    | error z =>
      obtain rfl := he
      have HR : Hid (disP L M m t = .error z) := hidden (by unfold disP; rw [HV.out])
      have hz' : ((z : Int) != 0) = true := by rw [bne_iff_ne]; rcases hz with e | e <;> omega
      have HZ := hidden hz
      have HST2 := hidden hst
      clear hst hz
      go_wp2
      go_ret2
      rw [HR.out]
      exact ⟨⟨HST2.out, rfl⟩, HZ.out⟩
    | ok z =>
      obtain ⟨k, u⟩ := z
      obtain ⟨rfl, hS, hD⟩ := he
      have HOK : Hid (DisOk m t (disP L M m t)) := hidden (disP_ok L M m t (by rw [HV.out]; exact hz))
      obtain ⟨hk1, hk2, hk3⟩ := hz
      have HST2 := hidden (And.intro hst (And.intro hS hD))
      clear hst hS hD
      by_cases g1 : 30 ≤ k
      · have HR : Hid (disP L M m t = .error 3) := hidden (by unfold disP; rw [HV.out]; exact if_pos g1)
        go_wp2
        go_ret2
        refine ⟨?_, HOK.out⟩
        rw [HR.out]
        exact ⟨HST2.out.1, rfl⟩
      · by_cases g2 : k < 4
        · have HR : Hid (disP L M m t = .ok (k + 1, u)) := hidden (by unfold disP; rw [HV.out]; show (if 30 ≤ k then _ else _) = _; rw [if_neg g1, if_pos g2])
          go_wp2
          go_ret2
          refine ⟨?_, HOK.out⟩
          rw [HR.out]
          refine ⟨HST2.out.1, ?_, HST2.out.2.1, HST2.out.2.2⟩
          simp
        · obtain ⟨n, hn, hn1, hn2⟩ : ∃ n, n = k / 2 - 1 ∧ 1 ≤ n ∧ n ≤ 13 := ⟨_, rfl, by omega, by omega⟩
          obtain ⟨y, hy, hy2⟩ : ∃ y, y = (2 + k % 2) * 2 ^ n ∧ y ≤ 30000 := ⟨_, rfl, by
            have : (2 : Nat) ^ n ≤ 2 ^ 13 := Nat.pow_le_pow_right (by omega) hn2
            have h4 : 2 + k % 2 ≤ 3 := by omega
            have := Nat.mul_le_mul h4 this
            omega⟩
          have HR : Hid (disP L M m t = numP M m u (y + 1) n) := hidden (by unfold disP; rw [HV.out]; show (if 30 ≤ k then _ else _) = _; rw [if_neg g1, if_neg g2, ← hn, ← hy])
          have hN : Hid (∀ w1, Str w1 p b s v M m u O most → Calls Tryd.prog 46 #[.pointer (some ⟨p, 0, none⟩), .int .i64 ((y + 1 : Nat) : Int), .int .i64 n] w1 fun e w' => NumE w1 p b s v M m O most (numP M m u (y + 1) n) e w') :=
            hidden (fun w1 S1 => number_any p b s v M m u O most (y + 1) n w1 S1 hm (by omega) (by omega))
          have ea : Hid (wrap64 (wrap64 ((2 + (k : Int) % 2) * 2 ^ (k / 2 - 1)) + 1) = ((y + 1 : Nat) : Int)) := hidden (by
            have e3 : (2 + (k : Int) % 2) * 2 ^ (k / 2 - 1) = (y : Int) := by
              rw [← hn, hy]
              simp
            rw [e3, wrap64_id (y : Int) (by omega) (by omega), wrap64_id ((y : Int) + 1) (by omega) (by omega)]
            omega)
          have en : Hid ((k : Int) / 2 - 1 = (n : Int)) := hidden (by omega)
          clear hn hy
          go_wp2_with fail
          rw [ea.out, en.out]
          refine (hN.out _ HST2.out.2.1).mono ?_
          rintro e w2 ⟨hst, hr⟩
          have HST3 := hidden hst
          clear hst
          cases hq : numP M m u (y + 1) n with
          | error z =>
            rw [hq] at hr
            obtain rfl := hr
            have HQ := hidden hq
            clear hq
            go_wp2
            go_ret2
            refine ⟨?_, HOK.out⟩
            rw [HR.out, HQ.out]
            exact ⟨HST2.out.1.trans HST3.out (fun i hi => .inl (.inl hi)), rfl⟩
          | ok z =>
            obtain ⟨z1, z2⟩ := z
            rw [hq] at hr
            obtain ⟨rfl, hS⟩ := hr
            have HQ := hidden (And.intro hq hS)
            clear hq hS
            go_wp2
            go_ret2
            refine ⟨?_, HOK.out⟩
            rw [HR.out, HQ.out.1]
            exact ⟨HST2.out.1.trans HST3.out (fun i hi => .inl (.inl hi)), rfl, HQ.out.2, HST2.out.2.2.far HST3.out HB.out.db (fun _ => HB.out.bb)⟩)
  exact hgo.out _ rfl

end Go.Proofs.YtkaibpibnkmmbaaDoor
