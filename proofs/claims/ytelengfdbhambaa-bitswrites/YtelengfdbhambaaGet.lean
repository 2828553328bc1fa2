/-
  Get of a Reader: so many bits, the first one the lowest.
-/
import Derived.Test.YtelengfdbhambaaReader
namespace Go.Proofs.Ytelengfdbhambaa
open Go.RowKit

/-- Bits of one byte of a number are bits of the number. -/
theorem byte_bits (M q u k : Nat) (h : u + k ≤ 8) : M / 2 ^ (8 * q) % 256 / 2 ^ u % 2 ^ k = M / 2 ^ (8 * q + u) % 2 ^ k := by
  have e : (256 : Nat) = 2 ^ u * 2 ^ (8 - u) := by rw [← Nat.pow_add, show u + (8 - u) = 8 by omega]
  rw [e, Nat.mod_mul_right_div_self, Nat.div_div_eq_div_mul, ← Nat.pow_add]
  have e2 : (2 : Nat) ^ (8 - u) = 2 ^ k * 2 ^ (8 - u - k) := by rw [← Nat.pow_add, show k + (8 - u - k) = 8 - u by omega]
  rw [e2, Nat.mod_mul_right_mod]

theorem mod_step (A g k : Nat) : A % 2 ^ g ||| (A / 2 ^ g % 2 ^ k) * 2 ^ g = A % 2 ^ (g + k) := by
  rw [Nat.pow_add, Nat.mod_mul]
  have := Nat.two_pow_add_eq_or_of_lt (Nat.mod_lt A (Nat.two_pow_pos g)) (A / 2 ^ g % 2 ^ k)
  rw [Nat.add_comm, this, Nat.or_comm, Nat.mul_comm]

theorem get_or (M t d T k : Nat) (hT : t + d = T) (hk : k ≤ 8 - T % 8) (hd : d + k ≤ 24) :
    bits BinOp.or IntKind.i64 ((M / 2 ^ t % 2 ^ d : Nat) : Int) (wrap64 (((M / 2 ^ (8 * (T / 8)) % 256 : Nat) : Int) / 2 ^ (T % 8) % 2 ^ k * 2 ^ d)) = ((M / 2 ^ t % 2 ^ (d + k) : Nat) : Int) := by
  have e1 : (((M / 2 ^ (8 * (T / 8)) % 256 : Nat) : Int) / 2 ^ (T % 8) % 2 ^ k * 2 ^ d) = ((M / 2 ^ (8 * (T / 8)) % 256 / 2 ^ (T % 8) % 2 ^ k * 2 ^ d : Nat) : Int) := by simp
  have h8 : 8 * (T / 8) + T % 8 = T := by omega
  rw [e1, byte_bits M (T / 8) (T % 8) k (by omega), h8]
  have hlt : M / 2 ^ T % 2 ^ k * 2 ^ d < 2 ^ k * 2 ^ d := Nat.mul_lt_mul_of_pos_right (Nat.mod_lt _ (Nat.two_pow_pos _)) (Nat.two_pow_pos _)
  rw [← Nat.pow_add] at hlt
  have h24 := pow_le_24 (k + d) (by omega)
  have hacc : M / 2 ^ t % 2 ^ d < 2 ^ d := Nat.mod_lt _ (Nat.two_pow_pos _)
  have h24' := pow_le_24 d (by omega)
  rw [wrap64_id _ (by omega) (by omega), i64_or_nat _ _ (by omega) (by omega), ← hT, Nat.pow_add, ← Nat.div_div_eq_div_mul, mod_step]

/-- What a call on a Reader leaves: some bits are taken. -/
def Took (w w' : World) (b : Nat) (s : Value) (M m t : Nat) : Prop := Rr w' b s M m t ∧ Step (fun k => k = b) w w'

theorem Rr.took {w w1 : World} {b : Nat} {s : Value} {M m t t' : Nat} (R : Rr w1 b s M m t) (St : Step (fun k => k = b) w w1) (h : t' ≤ 8 * m) (z : Int) (hz : z = (t' : Int)) : Took w (w1.setCell ⟨b, 1, none⟩ (.int .i64 z)) b s M m t' := by
  have hS : Step (fun k => k = b) w1 (w1.setCell ⟨b, 1, none⟩ (.int .i64 z)) := (Step.refl (fun k => k = b) w1).setCell ⟨b, 1, none⟩ (.int .i64 z) (.inl rfl)
  refine ⟨⟨?_, ?_, ?_, owns_step R.own hS (fun k hk hb => R.ne (by rw [hk, hb])), R.ne, h⟩, St.trans hS (fun i hi => .inl hi)⟩
  · rw [World.cell?_setCell_other _ _ _ _ (by simp)]; exact R.ins
  · rw [World.cell?_setCell_same _ _ _ R.at_, hz]
  · simp [R.f1]

theorem Rr.drewN {w : World} {b : Nat} {s : Value} {M m t : Nat} (R : Rr w b s M m t) (n : Nat) : Rr (w.drewN n) b s M m t := ⟨R.ins, R.at_, R.f1, R.own, R.ne, R.le⟩

theorem Rr.cell {w : World} {b : Nat} {s : Value} {M m t : Nat} (R : Rr w b s M m t) (h : t < 8 * m) :
    ∃ g cap, s = .slice (some ⟨g, 0, none⟩) m cap ∧ w.cell? ⟨g, t / 8, none⟩ = some (.int .u8 ((M / 2 ^ (8 * (t / 8)) % 256 : Nat) : Int)) := by
  rcases R.own.2 with ⟨_, h2⟩ | ⟨g, cap, cur, h1, _⟩
  · omega
  · refine ⟨g, cap, h1, ?_⟩
    have o := R.own
    rw [h1] at o
    rw [o.cellAt (t / 8) (by omega), u8s_get?, bytesOf_get? _ _ _ (by omega)]
    rfl

set_option maxHeartbeats 400000 in
theorem get_no (b : Nat) (n : Int) (w : World) (h : ¬ (0 ≤ n ∧ n ≤ 24)) : Calls Try.prog 27 #[.pointer (some ⟨b, 0, none⟩), .int .i64 n] w fun e w' => e = .returned (.tuple #[.int .i64 0, .int .i64 1]) ∧ w' = w := by
  by_cases h0 : n < 0
  · go_enter Try.func27, Try.ntmps27
    go_wp2
    go_ret2
    exact ⟨rfl, rfl⟩
  · have h1 : 24 < n := by omega
    go_enter Try.func27, Try.ntmps27
    go_wp2
    go_ret2
    exact ⟨rfl, rfl⟩

set_option maxHeartbeats 400000 in
theorem get_short (b : Nat) (s : Value) (M m t n : Nat) (w : World) (R : Rr w b s M m t) (hm : m ≤ 137438953600) (hn : n ≤ 24) (h : 8 * m - t < n) :
    Calls Try.prog 27 #[.pointer (some ⟨b, 0, none⟩), .int .i64 n] w fun e w' => e = .returned (.tuple #[.int .i64 0, .int .i64 2]) ∧ ∃ q, w' = w.drewN q := by
  have H := hidden R
  have h' : ((8 * m - t : Nat) : Int) < (n : Int) := by omega
  clear R h
  go_enter Try.func27, Try.ntmps27
  go_wp2_with (go_at_call 33; refine (left_any b s M m t _ H.out hm).mono ?_; rintro e w' ⟨rfl, q, rfl⟩)
  go_ret2
  exact ⟨rfl, _, rfl⟩

set_option maxHeartbeats 1000000 in
theorem get_ok (b : Nat) (s : Value) (M m t n : Nat) (w : World) (R : Rr w b s M m t) (hm : m ≤ 137438953600) (hn : n ≤ 24) (h : n ≤ 8 * m - t) :
    Calls Try.prog 27 #[.pointer (some ⟨b, 0, none⟩), .int .i64 n] w fun e w' => e = .returned (.tuple #[.int .i64 ((M / 2 ^ t % 2 ^ n : Nat) : Int), .int .i64 0]) ∧ Took w w' b s M m (t + n) := by
  have H := hidden R
  have h' : (n : Int) ≤ ((8 * m - t : Nat) : Int) := by omega
  have ht := R.le
  clear R
  go_enter Try.func27, Try.ntmps27
  go_wp2_with (go_at_call 33; refine (left_any b s M m t _ H.out hm).mono ?_; rintro e w' ⟨rfl, q, hw⟩; have H2 := hidden (H.out.drewN q); have S2 := hidden ((Step.refl (fun k => k = b) w).drewN q); rw [← hw] at H2 S2; clear hw)
  rename_i w0
  clear h'
  go_loopw [6, 7] (fun v g wr => ∃ d : Nat, d ≤ n ∧ v = .int .i64 ((M / 2 ^ t % 2 ^ d : Nat) : Int) ∧ g = .int .i64 (d : Int) ∧ Took w wr b s M m (t + d)) (fun _ g _ => n - (intOf g).toNat)
  case atStart => exact ⟨0, Nat.zero_le _, by simp [Nat.mod_one], rfl, H2.out, S2.out⟩
  case round =>
    obtain ⟨d, hd, rfl, rfl, W, St⟩ := hrel
    by_cases hlt : d < n
    · obtain ⟨g, cap, hs, c2⟩ := W.cell (by omega)
      have c0 := W.ins
      have c1 := W.at_
      have f1 := W.f1
      rw [hs] at c0
      obtain ⟨T, hT, hT2⟩ : ∃ T : Nat, t + d = T ∧ T ≤ 1099511628800 := ⟨_, rfl, by omega⟩
      rw [hT] at c1 c2
      have HT := hidden hT
      have HW := hidden W
      have HS := hidden St
      obtain ⟨k, hk, hk1, hk2, hk3⟩ : ∃ k : Nat, (if (8 : Int) - (T : Int) % 8 < (n : Int) - (d : Int) then (8 : Int) - (T : Int) % 8 else (n : Int) - (d : Int)) = (k : Int) ∧ 1 ≤ k ∧ k ≤ 8 - T % 8 ∧ k ≤ n - d := by
        by_cases hc : (8 : Int) - (T : Int) % 8 < (n : Int) - (d : Int)
        · exact ⟨8 - T % 8, by rw [if_pos hc]; omega, by omega, by omega, by omega⟩
        · exact ⟨n - d, by rw [if_neg hc]; omega, by omega, by omega, by omega⟩
      obtain ⟨y, hy, hy2⟩ : ∃ y : Nat, M / 2 ^ (8 * (T / 8)) % 256 = y ∧ y < 256 := ⟨_, rfl, Nat.mod_lt _ (by omega)⟩
      obtain ⟨acc, hacc, hacc2⟩ : ∃ acc : Nat, M / 2 ^ t % 2 ^ d = acc ∧ acc < 16777216 :=
        ⟨_, rfl, Nat.lt_of_lt_of_le (Nat.mod_lt _ (Nat.two_pow_pos _)) (pow_le_24 d (by omega))⟩
      have hT8 : T / 8 < m := by omega
      have hT9 : ((T : Int) % 8).toNat = T % 8 := by omega
      have hyd : (y : Int) / 2 ^ (T % 8) = ((y / 2 ^ (T % 8) : Nat) : Int) := by simp
      have hyd2 : y / 2 ^ (T % 8) < 256 := Nat.lt_of_le_of_lt (Nat.div_le_self _ _) hy2
      have hlow := hidden (fun wx => lowest_any ((y : Int) / 2 ^ (T % 8)) k wx (by rw [hyd]; exact Int.natCast_nonneg _) (by rw [hyd]; omega) (by omega) (by omega))
      clear hyd
      rw [hy] at c2
      rw [hacc]
      have Hy := hidden hy
      have Hacc := hidden hacc
      clear W St hs hT h ht hy hacc
      go_wp2
      go_quiet ((go_at_call 38; exact Calls.quiet_of_same (hlow.out _)))
      go_wp2
      have hfin := get_or M t d T k HT.out hk2 (by omega)
      rw [Hy.out, Hacc.out] at hfin
      go_roundw
      case rel =>
        refine ⟨d + k, by omega, by rw [hfin], by go_num, ?_⟩
        exact (HW.out.drewN _).took (HS.out.drewN _) (by have := HT.out; omega) _ (by have := HT.out; omega)
      case measure => simp [intOf]; omega
    · have hdn : d = n := by omega
      subst hdn
      have H3 := hidden (And.intro W St)
      clear W St
      go_wp2
      go_ret2
      exact ⟨rfl, H3.out⟩

end Go.Proofs.Ytelengfdbhambaa
