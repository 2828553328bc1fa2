/-
  Bytes that stand as they are: stored.
-/
import Derived.Test.YtkaibpibnkmmbaaDoorIStr
namespace Go.Proofs.YtkaibpibnkmmbaaDoor
open Go.RowKit
set_option maxRecDepth 100000
set_option linter.unusedVariables false

theorem xor_full (n k : Nat) (hn : n < 65536) (hk : k < 65536) : n ^^^ k = 65535 ↔ n + k = 65535 := by
  have e : n ^^^ 65535 = 65535 - n := by
    apply Nat.eq_of_testBit_eq
    intro i
    have h1 := Nat.testBit_two_pow_sub_succ (n := 16) hn i
    have h2 := Nat.testBit_two_pow_sub_one 16 i
    rw [show (2 : Nat) ^ 16 - (n + 1) = 65535 - n by omega] at h1
    rw [show (2 : Nat) ^ 16 - 1 = 65535 by rfl] at h2
    rw [Nat.testBit_xor, h1, h2]
    by_cases hi : i < 16
    · simp [hi]
    · simp [hi]
      exact Nat.testBit_lt_two_pow (Nat.lt_of_lt_of_le hn (Nat.pow_le_pow_right (n := 2) (i := 16) (j := i) (by omega) (by omega)))
  constructor
  · intro h
    have : k = n ^^^ 65535 := by rw [← h, ← Nat.xor_assoc, Nat.xor_self, Nat.zero_xor]
    omega
  · intro h
    have : k = n ^^^ 65535 := by omega
    rw [this, ← Nat.xor_assoc, Nat.xor_self, Nat.zero_xor]

theorem i64_xor_nat (a b : Nat) (ha : a < 65536) (hb : b < 65536) : bits .xor .i64 (a : Int) (b : Int) = ((a ^^^ b : Nat) : Int) := by
  show IntKind.i64.wrap ((BitVec.ofInt 64 (a : Int) ^^^ BitVec.ofInt 64 (b : Int)).toNat : Int) = _
  rw [BitVec.toNat_xor, ofInt_i64 a (by omega), ofInt_i64 b (by omega)]
  exact wrap_i64_nat _ (Nat.lt_of_lt_of_le (Nat.xor_lt_two_pow (n := 16) ha hb) (by omega))

/-- What a block of kind 0 tells, from bit t on: an error, or the next bit and all that came out. -/
def storedP (M m : Nat) (most : Int) (t : Nat) (O : List Nat) : Except Nat (Nat × List Nat) :=
  let u := (t + 7) / 8 * 8
  if u + 32 ≤ 8 * m then
    if M / 2 ^ u % 65536 + M / 2 ^ (u + 16) % 65536 = 65535 then
      if ((M / 2 ^ u % 65536 : Nat) : Int) ≤ most - (O.length : Int) then
        if u + 32 + 8 * (M / 2 ^ u % 65536) ≤ 8 * m then .ok (u + 32 + 8 * (M / 2 ^ u % 65536), O ++ bytesOf (M / 2 ^ (u + 32)) (M / 2 ^ u % 65536))
        else .error 2
      else .error 5
    else .error 3
  else .error 2

/-- How a step of a stream ends. -/
def Ends (w : World) (p b : Nat) (s v : Value) (M m : Nat) (most : Int) (r : Except Nat (Nat × List Nat)) (e : Ending) (w' : World) : Prop :=
  match r with
  | .error x => e = .returned (.int .i64 (x : Int)) ∧ Step (Sb p b v) w w' ∧ Keep p w w'
  | .ok (t, O) => e = .returned (.int .i64 0) ∧ After w w' p b s v M m t O most

set_option maxHeartbeats 4000000 in
theorem stored_any (p b : Nat) (s v : Value) (M m t : Nat) (O : List Nat) (most : Int) (w : World) (h : Str w p b s v M m t O most) (hm : m ≤ 1000000) (hO : O.length ≤ 10000000000) (h0 : 0 ≤ most) (h1 : most ≤ 9223372036854775807) :
    Calls Tryd.prog 21 #[.pointer (some ⟨p, 0, none⟩)] w (Ends w p b s v M m most (storedP M m most t O)) := by
  have hle := h.rr.le
  obtain ⟨u, hu⟩ : ∃ u, u = (t + 7) / 8 * 8 := ⟨_, rfl⟩
  have HU := hidden hu
  have hu8 : u % 8 = 0 := by omega
  have hum : u ≤ 8 * m := by omega
  have c0 := h.ci
  have H := hidden h
  have HA : Hid (Calls Tryd.prog 18 #[.pointer (some ⟨b, 0, none⟩)] w fun e w' => e = .returned (.int .i64 (((t + 7) / 8 : Nat) : Int)) ∧ (w'.cell? ⟨p, 0, none⟩ = some (.pointer (some ⟨b, 0, none⟩)) ∧ Hid (Str w' p b s v M m u O most ∧ Step (Sb p b v) w w' ∧ Keep p w w'))) :=
    hidden ((ralign_any b s M m t w h.rr (by omega)).mono fun e w' ⟨he, T⟩ => by
      rw [← hu] at T
      exact ⟨he, (h.took T).1.ci, h.took T⟩)
  clear h hu
  by_cases g1 : u + 16 ≤ 8 * m
  · by_cases g2 : u + 32 ≤ 8 * m
    · obtain ⟨n, hn, hn2⟩ : ∃ n, n = M / 2 ^ u % 65536 ∧ n < 65536 := ⟨_, rfl, Nat.mod_lt _ (by omega)⟩
      obtain ⟨k, hk, hk2⟩ : ∃ k, k = M / 2 ^ (u + 16) % 65536 ∧ k < 65536 := ⟨_, rfl, Nat.mod_lt _ (by omega)⟩
      have HN := hidden (And.intro hn hk)
      have hx := i64_xor_nat n k hn2 hk2
      have hxl : n ^^^ k < 65536 := Nat.xor_lt_two_pow (n := 16) hn2 hk2
      have HX := hidden (xor_full n k hn2 hk2)
      have hG1 : Hid (∀ w1, Str w1 p b s v M m u O most → Calls Tryd.prog 20 #[.pointer (some ⟨b, 0, none⟩), .int .i64 (16 : Nat)] w1 fun e w' => e = .returned (.tuple #[.int .i64 (n : Int), .int .i64 0]) ∧ (w'.cell? ⟨p, 0, none⟩ = some (.pointer (some ⟨b, 0, none⟩)) ∧ Hid (Str w' p b s v M m (u + 16) O most ∧ Step (Sb p b v) w1 w' ∧ Keep p w1 w'))) :=
        hidden (fun w1 S1 => (get_ok b s M m u 16 w1 S1.rr (by omega) (by omega) (by omega)).mono fun e w' ⟨he, T⟩ => by
          rw [show (2 : Nat) ^ 16 = 65536 by rfl, ← hn] at he
          exact ⟨he, (S1.took T).1.ci, S1.took T⟩)
      have hG2 : Hid (∀ w1, Str w1 p b s v M m (u + 16) O most → Calls Tryd.prog 20 #[.pointer (some ⟨b, 0, none⟩), .int .i64 (16 : Nat)] w1 fun e w' => e = .returned (.tuple #[.int .i64 (k : Int), .int .i64 0]) ∧ (w'.cell? ⟨p, 0, none⟩ = some (.pointer (some ⟨b, 0, none⟩)) ∧ Hid (Str w' p b s v M m (u + 32) O most ∧ Step (Sb p b v) w1 w' ∧ Keep p w1 w'))) :=
        hidden (fun w1 S1 => (get_ok b s M m (u + 16) 16 w1 S1.rr (by omega) (by omega) (by omega)).mono fun e w' ⟨he, T⟩ => by
          rw [show (2 : Nat) ^ 16 = 65536 by rfl, ← hk] at he
          exact ⟨he, (S1.took T).1.ci, S1.took T⟩)
      clear hn hk
      by_cases g3 : n + k = 65535
      · have g3' : n ^^^ k = 65535 := HX.out.2 g3
        have hx2 : bits .xor .i64 (n : Int) (k : Int) = 65535 := by rw [hx, g3']; rfl
        have HP3 := hidden g3
        clear hx hxl g3 g3'
        by_cases g4 : (n : Int) ≤ most - (O.length : Int)
        · have hR : Hid (∀ w1, Str w1 p b s v M m (u + 32) O most → Calls Tryd.prog 27 #[.pointer (some ⟨p, 0, none⟩), .int .i64 (n : Int)] w1 fun e w' => e = .returned (.int .i64 0) ∧ (w'.cell? ⟨p, 0, none⟩ = some (.pointer (some ⟨b, 0, none⟩)) ∧ Hid (∃ v', Str w' p b s v' M m (u + 32) O most ∧ O.length + n ≤ capOf v' ∧ Step (Sb p b v) w1 w' ∧ (v'.ownBlock = v.ownBlock ∨ ∃ k, v'.ownBlock = some k ∧ w1.heap.size ≤ k) ∧ Keep p w1 w'))) :=
            hidden (fun w1 S1 => (room_ok p v O most n w1 S1.ou (by omega) hO h0 h1 g4).mono fun e w' ⟨he, R⟩ => by
              have := S1.roomed R
              obtain ⟨v', q1, q2, q3, q4⟩ := this
              exact ⟨he, q1.ci, v', q1, q2, q3, q4⟩)
          by_cases g5 : u + 32 + 8 * n ≤ 8 * m
          · have HR : Hid (storedP M m most t O = .ok (u + 32 + 8 * n, O ++ bytesOf (M / 2 ^ (u + 32)) n)) := hidden (by
              simp only [storedP, ← HU.out, ← HN.out.1, ← HN.out.2]
              rw [if_pos g2, if_pos HP3.out, if_pos g4, if_pos g5])
            have hW : Hid (∀ w1 v', Str w1 p b s v' M m (u + 32) O most → Calls Tryd.prog 28 #[.pointer (some ⟨b, 0, none⟩), .int .i64 (n : Int)] w1 fun e w' => ∃ r, e = .returned (.tuple #[r, .int .i64 0]) ∧ (w'.cell? ⟨p, 1, none⟩ = some v' ∧ Hid (Rd w' r (bytesOf (M / 2 ^ (u + 32)) n) ∧ Str w' p b s v' M m (u + 32 + 8 * n) O most ∧ Step (Sb p b v') w1 w' ∧ Keep p w1 w'))) :=
              hidden (fun w1 v' S1 => (rraw_ok b s M m (u + 32) n w1 S1.rr (by omega) (by omega) (by omega)).mono fun e w' ⟨r, he, q1, q2, T⟩ => ⟨r, he, (S1.took T).1.ou.co, Rd.of_own q1, S1.took T⟩)
            have HO : Hid (O.length + n ≤ 137438953600) := hidden (by omega)
            clear hO g4 g5 g1 g2
            go_enter Tryd.func21, Tryd.ntmps21
            go_wp2_with (go_at_call 18; refine HA.out.mono ?_; rintro e w1 ⟨rfl, c1, S1⟩)
            refine (hG1.out _ S1.out.1).mono ?_
            rintro e w2 ⟨rfl, c2, S2⟩
            go_wp2_with fail
            refine (hG2.out _ S2.out.1).mono ?_
            rintro e w3 ⟨rfl, c3, S3⟩
            go_wp2_with fail
            refine (hR.out _ S3.out.1).mono ?_
            rintro e w4 ⟨rfl, c4, S4⟩
            obtain ⟨v', s1, s2, s3, s4, s5⟩ := S4.out
            have HS1 := hidden s1
            have HS2 := hidden (And.intro s2 (And.intro s3 (And.intro s4 s5)))
            clear s1 s2 s3 s4 s5 S4
            go_wp2_with fail
            refine (hW.out _ v' HS1.out).mono ?_
            rintro e w5 ⟨r, rfl, c5, S5⟩
            go_wp2_with (at_builtin; refine append_cap rfl _ _ rfl v' O.length O rfl S5.out.2.1.ou.ow r _ rfl S5.out.1 (by rw [bytesOf_length]; exact HO.out) (by rw [bytesOf_length]; exact HS2.out.1) ?_)
            intro v2 w6 k1 k2 k3 k4
            obtain ⟨ao2, cap2, hv2⟩ := own_slice k1
            subst hv2
            have HK := hidden (S5.out.2.1.appended k1 k2 k3 k4 (bytesOf_lt _ _))
            clear k1 k2 k4
            have HK3 := hidden k3
            clear k3
            have c6 := HK.out.1
            have f6 := HK.out.2.1
            go_wp2
            go_ret
            rw [HR.out]
            refine ⟨rfl, After.trans (Sb.trans (Sb.trans S1.out.2.1 (.inl rfl) S2.out.2.1) (.inl rfl) S3.out.2.1) (.inl rfl) ((S1.out.2.2.trans S2.out.2.2).trans S3.out.2.2) (After.trans HS2.out.2.1 HS2.out.2.2.1 HS2.out.2.2.2 ?_)⟩
            exact ⟨_, HK.out.2.2.1, Sb.trans S5.out.2.2.1 (.inl rfl) HK.out.2.2.2.1, .inl HK3.out, S5.out.2.2.2.trans HK.out.2.2.2.2⟩
          · have HR : Hid (storedP M m most t O = .error 2) := hidden (by
              simp only [storedP, ← HU.out, ← HN.out.1, ← HN.out.2]
              rw [if_pos g2, if_pos HP3.out, if_pos g4, if_neg g5])
            have hW : Hid (∀ w1 v', Str w1 p b s v' M m (u + 32) O most → Calls Tryd.prog 28 #[.pointer (some ⟨b, 0, none⟩), .int .i64 (n : Int)] w1 fun e w' => e = .returned (.tuple #[.slice none 0 0, .int .i64 2]) ∧ (w'.cell? ⟨p, 1, none⟩ = some v' ∧ Hid (Str w' p b s v' M m (u + 32) O most ∧ Step (Sb p b v') w1 w' ∧ Keep p w1 w'))) :=
              hidden (fun w1 v' S1 => (rraw_short b s M m (u + 32) n w1 S1.rr (by omega) (by omega) (by omega) (by omega)).mono fun e w' ⟨he, q, hq⟩ => by
                subst hq
                exact ⟨he, (S1.drewN q).ou.co, S1.drewN q, (Step.refl _ w1).drewN q, (Keep.refl p w1).drewN q⟩)
            have HO : Hid (O.length + n ≤ 137438953600) := hidden (by omega)
            clear hO g4 g5 g1 g2
            go_enter Tryd.func21, Tryd.ntmps21
            go_wp2_with (go_at_call 18; refine HA.out.mono ?_; rintro e w1 ⟨rfl, c1, S1⟩)
            refine (hG1.out _ S1.out.1).mono ?_
            rintro e w2 ⟨rfl, c2, S2⟩
            go_wp2_with fail
            refine (hG2.out _ S2.out.1).mono ?_
            rintro e w3 ⟨rfl, c3, S3⟩
            go_wp2_with fail
            refine (hR.out _ S3.out.1).mono ?_
            rintro e w4 ⟨rfl, c4, S4⟩
            obtain ⟨v', s1, s2, s3, s4, s5⟩ := S4.out
            have HS1 := hidden s1
            have HS2 := hidden (And.intro s2 (And.intro s3 (And.intro s4 s5)))
            clear s1 s2 s3 s4 s5 S4
            go_wp2_with fail
            refine (hW.out _ v' HS1.out).mono ?_
            rintro e w5 ⟨rfl, c5, S5⟩
            go_wp2_with (at_builtin; refine append_cap rfl _ _ rfl v' O.length O rfl S5.out.1.ou.ow (.slice none 0 0) [] rfl (rd_none _) (by have := HO.out; simp; omega) (by have := HS2.out.1; simp; omega) ?_)
            intro v2 w6 k1 k2 k3 k4
            obtain ⟨ao2, cap2, hv2⟩ := own_slice k1
            subst hv2
            have HK := hidden (S5.out.1.appended (B := []) (by simpa using k1) k2 k3 k4 (fun _ h => by cases h))
            clear k1 k2 k4
            have HK3 := hidden k3
            clear k3
            have c6 := HK.out.1
            have f6 := HK.out.2.1
            go_wp2
            go_ret
            rw [HR.out]
            exact ⟨rfl, Sb.trans (Sb.trans (Sb.trans S1.out.2.1 (.inl rfl) S2.out.2.1) (.inl rfl) S3.out.2.1) (.inl rfl) (Sb.trans HS2.out.2.1 HS2.out.2.2.1 (Sb.trans S5.out.2.1 (.inl rfl) HK.out.2.2.2.1)), ((S1.out.2.2.trans S2.out.2.2).trans S3.out.2.2).trans (HS2.out.2.2.2.trans (S5.out.2.2.trans HK.out.2.2.2.2))⟩
        · have HR : Hid (storedP M m most t O = .error 5) := hidden (by
            simp only [storedP, ← HU.out, ← HN.out.1, ← HN.out.2]
            rw [if_pos g2, if_pos HP3.out, if_neg g4])
          have hR : Hid (∀ w1, Str w1 p b s v M m (u + 32) O most → Calls Tryd.prog 27 #[.pointer (some ⟨p, 0, none⟩), .int .i64 (n : Int)] w1 fun e w' => e = .returned (.int .i64 5) ∧ Hid (Step (Sb p b v) w1 w' ∧ Keep p w1 w')) :=
            hidden (fun w1 S1 => (room_no p v O most n w1 S1.ou (by omega) hO h0 h1 (by omega)).mono fun e w' ⟨he, q, hq⟩ => by
              subst hq
              exact ⟨he, (Step.refl _ w1).drewN q, (Keep.refl p w1).drewN q⟩)
          clear hO g4 g1 g2
          go_enter Tryd.func21, Tryd.ntmps21
          go_wp2_with (go_at_call 18; refine HA.out.mono ?_; rintro e w1 ⟨rfl, c1, S1⟩)
          refine (hG1.out _ S1.out.1).mono ?_
          rintro e w2 ⟨rfl, c2, S2⟩
          go_wp2_with fail
          refine (hG2.out _ S2.out.1).mono ?_
          rintro e w3 ⟨rfl, c3, S3⟩
          go_wp2_with fail
          refine (hR.out _ S3.out.1).mono ?_
          rintro e w4 ⟨rfl, S4⟩
          go_wp2
          go_ret
          rw [HR.out]
          exact ⟨rfl, Sb.trans (Sb.trans (Sb.trans S1.out.2.1 (.inl rfl) S2.out.2.1) (.inl rfl) S3.out.2.1) (.inl rfl) S4.out.1, ((S1.out.2.2.trans S2.out.2.2).trans S3.out.2.2).trans S4.out.2⟩
      · have g3' : ¬ n ^^^ k = 65535 := fun e => g3 (HX.out.1 e)
        have hx2 : (bits .xor .i64 (n : Int) (k : Int) != 65535) = true := by rw [hx, bne_iff_ne]; omega
        have HR : Hid (storedP M m most t O = .error 3) := hidden (by
          simp only [storedP, ← HU.out, ← HN.out.1, ← HN.out.2]
          rw [if_pos g2, if_neg g3])
        clear hx hxl g3 g3'
        go_enter Tryd.func21, Tryd.ntmps21
        go_wp2_with (go_at_call 18; refine HA.out.mono ?_; rintro e w1 ⟨rfl, c1, S1⟩)
        refine (hG1.out _ S1.out.1).mono ?_
        rintro e w2 ⟨rfl, c2, S2⟩
        go_wp2_with fail
        refine (hG2.out _ S2.out.1).mono ?_
        rintro e w3 ⟨rfl, c3, S3⟩
        go_wp2
        go_ret
        rw [HR.out]
        exact ⟨rfl, Sb.trans (Sb.trans S1.out.2.1 (.inl rfl) S2.out.2.1) (.inl rfl) S3.out.2.1, (S1.out.2.2.trans S2.out.2.2).trans S3.out.2.2⟩
    · have HR : Hid (storedP M m most t O = .error 2) := hidden (by
        simp only [storedP, ← HU.out]
        rw [if_neg g2])
      obtain ⟨n, hn, hn2⟩ : ∃ n, n = M / 2 ^ u % 65536 ∧ n < 65536 := ⟨_, rfl, Nat.mod_lt _ (by omega)⟩
      have hG1 : Hid (∀ w1, Str w1 p b s v M m u O most → Calls Tryd.prog 20 #[.pointer (some ⟨b, 0, none⟩), .int .i64 (16 : Nat)] w1 fun e w' => e = .returned (.tuple #[.int .i64 (n : Int), .int .i64 0]) ∧ (w'.cell? ⟨p, 0, none⟩ = some (.pointer (some ⟨b, 0, none⟩)) ∧ Hid (Str w' p b s v M m (u + 16) O most ∧ Step (Sb p b v) w1 w' ∧ Keep p w1 w'))) :=
        hidden (fun w1 S1 => (get_ok b s M m u 16 w1 S1.rr (by omega) (by omega) (by omega)).mono fun e w' ⟨he, T⟩ => by
          rw [show (2 : Nat) ^ 16 = 65536 by rfl, ← hn] at he
          exact ⟨he, (S1.took T).1.ci, S1.took T⟩)
      have hG2 : Hid (∀ w1, Str w1 p b s v M m (u + 16) O most → Calls Tryd.prog 20 #[.pointer (some ⟨b, 0, none⟩), .int .i64 (16 : Nat)] w1 fun e w' => e = .returned (.tuple #[.int .i64 0, .int .i64 2]) ∧ Hid (Step (Sb p b v) w1 w' ∧ Keep p w1 w')) :=
        hidden (fun w1 S1 => (get_short b s M m (u + 16) 16 w1 S1.rr (by omega) (by omega) (by omega)).mono fun e w' ⟨he, q, hq⟩ => by
          subst hq
          exact ⟨he, (Step.refl _ w1).drewN q, (Keep.refl p w1).drewN q⟩)
      clear hn hO g1 g2
      go_enter Tryd.func21, Tryd.ntmps21
      go_wp2_with (go_at_call 18; refine HA.out.mono ?_; rintro e w1 ⟨rfl, c1, S1⟩)
      refine (hG1.out _ S1.out.1).mono ?_
      rintro e w2 ⟨rfl, c2, S2⟩
      go_wp2_with fail
      refine (hG2.out _ S2.out.1).mono ?_
      rintro e w3 ⟨rfl, S3⟩
      go_wp2
      go_ret
      rw [HR.out]
      exact ⟨rfl, Sb.trans (Sb.trans S1.out.2.1 (.inl rfl) S2.out.2.1) (.inl rfl) S3.out.1, (S1.out.2.2.trans S2.out.2.2).trans S3.out.2⟩
  · have HR : Hid (storedP M m most t O = .error 2) := hidden (by
      simp only [storedP, ← HU.out]
      rw [if_neg (by omega)])
    have hG1 : Hid (∀ w1, Str w1 p b s v M m u O most → Calls Tryd.prog 20 #[.pointer (some ⟨b, 0, none⟩), .int .i64 (16 : Nat)] w1 fun e w' => e = .returned (.tuple #[.int .i64 0, .int .i64 2]) ∧ Hid (Step (Sb p b v) w1 w' ∧ Keep p w1 w')) :=
      hidden (fun w1 S1 => (get_short b s M m u 16 w1 S1.rr (by omega) (by omega) (by omega)).mono fun e w' ⟨he, q, hq⟩ => by
        subst hq
        exact ⟨he, (Step.refl _ w1).drewN q, (Keep.refl p w1).drewN q⟩)
    clear hO g1
    go_enter Tryd.func21, Tryd.ntmps21
    go_wp2_with (go_at_call 18; refine HA.out.mono ?_; rintro e w1 ⟨rfl, c1, S1⟩)
    refine (hG1.out _ S1.out.1).mono ?_
    rintro e w2 ⟨rfl, S2⟩
    go_wp2
    go_ret
    rw [HR.out]
    exact ⟨rfl, Sb.trans S1.out.2.1 (.inl rfl) S2.out.1, S1.out.2.2.trans S2.out.2⟩

end Go.Proofs.YtkaibpibnkmmbaaDoor
