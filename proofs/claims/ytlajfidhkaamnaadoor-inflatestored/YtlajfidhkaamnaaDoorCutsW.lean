/-
  The walk of the law on streams that are cut off.
-/
import Derived.Test.YtlajfidhkaamnaaDoorILaw
namespace Go.Proofs.YtlajfidhkaamnaaDoor
open Go.RowKit
set_option maxRecDepth 100000
set_option linter.unusedVariables false

theorem i64_and_low (z : Int) (n : Nat) (hn : n ≤ 62) : ∃ q : Nat, q < 2 ^ n ∧ bits .and .i64 z ((2 ^ n - 1 : Nat) : Int) = (q : Int) := by
  have h62 : (2 : Nat) ^ n ≤ 2 ^ 62 := Nat.pow_le_pow_right (by omega) hn
  have hp : 0 < (2 : Nat) ^ n := Nat.two_pow_pos n
  refine ⟨(BitVec.ofInt 64 z).toNat % 2 ^ n, Nat.mod_lt _ hp, ?_⟩
  show IntKind.i64.wrap ((BitVec.ofInt 64 z &&& BitVec.ofInt 64 ((2 ^ n - 1 : Nat) : Int)).toNat : Int) = _
  rw [BitVec.toNat_and, ofInt_i64 _ (by omega), Nat.and_two_pow_sub_one_eq_mod]
  exact wrap_i64_nat _ (by have := Nat.mod_lt (BitVec.ofInt 64 z).toNat hp; omega)

theorem bytesOf_mod (M k : Nat) : bytesOf (M % 2 ^ (8 * k)) k = bytesOf M k := by
  have h := bytesOf_low (M % 2 ^ (8 * k)) (M / 2 ^ (8 * k)) (8 * k) k (Nat.le_refl _)
  rw [← h, Nat.mul_comm (M / 2 ^ (8 * k)) (2 ^ (8 * k)), Nat.mod_add_div]

theorem bytesOf_take (M G k : Nat) (h : k ≤ G) : (bytesOf M G).take k = bytesOf M k := by
  unfold bytesOf
  rw [← List.map_take, List.take_range, Nat.min_eq_left h]

theorem Rd.take {w : World} {a : Addr} {n c : Nat} {B : List Nat} (h : Rd w (.slice (some a) n c) B) (k : Nat) (hk : k ≤ n) : Rd w (.slice (some a) k c) (B.take k) := by
  have hn := h.slot
  obtain ⟨ao, cp, e, h1, h2⟩ := h
  injection e with e1 e2 e3
  subst e1
  subst e3
  refine ⟨some a, c, by rw [List.length_take, Nat.min_eq_left (by omega)], fun h => (by cases h), fun a' ha hne => ?_⟩
  obtain ⟨b, off, hb, hc⟩ := h2 a' ha (by intro e; subst e; simp at hne)
  refine ⟨b, off, hb, fun j hj => ?_⟩
  have hj2 : j < k := by rw [List.length_take] at hj; omega
  rw [hc j (by omega)]
  simp [List.getD, hj2]

set_option maxHeartbeats 4000000 in
theorem cuts_in (aa : Option Addr) (ca : Nat) (A : List Nat) (cut : Int) (w : World) (hA : ∀ x ∈ A, x < 256) (ra : Rd w (.slice aa A.length ca) A) (hl : A.length ≤ 3000) :
    Calls Tryd.prog 6 #[.slice aa A.length ca, .int .i64 cut] w fun e w' => e = .returned (.bool true) ∧ Step (fun _ => False) w w' := by
  obtain ⟨ps, hps⟩ : ∃ ps, ps = laidP A 0 1 := ⟨_, rfl⟩
  obtain ⟨G, hG⟩ : ∃ G, (pcL ps + 7) / 8 = G := ⟨_, rfl⟩
  have HL := hidden (laid_any _ A 0 1 w ra hA (by omega) (.inl rfl) (by omega) (by omega) ps hps)
  rw [hG] at HL
  have hpl : pcL ps = 3 + pcL (A.map fixP) + 7 := by rw [hps, laidP_len, laidT_len 0 1 (.inl rfl), if_pos rfl]
  have h9 := lits_len A
  have hG1 : 2 ≤ G := by omega
  have hGb : G ≤ 10000 := by omega
  have hgl : 8 * G < pcL ps + 8 := by omega
  have HRB : Hid (∀ W a k c, Rd W (.slice (some a) G c) (bytesOf (pcN ps) G) → k < G → Calls Tryd.prog 12 #[.slice (some a) k c, .int .i64 6000] W fun e w' => e = .returned (.tuple #[.slice none 0 0, .int .i64 0, .int .i64 2]) ∧ Hid (Step (fun _ => False) W w')) := hidden (fun W a k c hr hk => by
    have hr2 := hr.take k (by omega)
    rw [bytesOf_take _ _ _ (by omega), ← bytesOf_mod] at hr2
    refine (bytes_any _ _ _ 6000 0 _ W hr2 (by omega) (by omega) (by omega) (blk_cut A hA ((by rw [← hps]; exact (Bt.of 0 (by simp) (by rw [hps]; exact laidP_ok A 0 1) : Bt (pcN ps) G 0 ps).cut (by omega))) (by rw [← hps]; omega) (by omega) 0)).mono fun e w' ⟨hs, _, he⟩ => ⟨he, hs⟩)
  obtain ⟨q, hq, hb⟩ := i64_and_low cut 30 (by omega)
  have hb' : bits .and .i64 cut 1073741823 = (q : Int) := hb
  obtain ⟨k, hk⟩ : ∃ k, k = q % G := ⟨_, rfl⟩
  have hkG : k < G := by rw [hk]; exact Nat.mod_lt _ (by omega)
  have ht : Int.tmod (q : Int) (G : Int) = (k : Int) := by rw [hk]; rfl
  obtain ⟨m, hm⟩ : ∃ m, A.length = m := ⟨_, rfl⟩
  rw [hm] at HL hl ⊢
  clear hA ra hm hps hG hb hq hk hpl h9 hgl
  go_enter Tryd.func6, Tryd.ntmps6
  go_wp2_with fail
  refine HL.out.mono ?_
  rintro e w1 ⟨ao1, c1, rfl, W1⟩
  have hc1 : G ≤ c1 := cap_ge W1.out.1
  cases ao1 with
  | none =>
    exfalso
    have := (Rd.of_own W1.out.1).slot
    obtain ⟨a, c, e, h1, _⟩ := Rd.of_own W1.out.1
    injection e with e1
    have := (h1 e1.symm).1
    have h3 := bytesOf_length (pcN ps) G
    rw [this] at h3
    simp at h3
    omega
  | some a =>
    have HC := hidden (HRB.out w1 a k c1 (Rd.of_own W1.out.1) hkG)
    have k0 : (0 : Int) ≤ (k : Int) := by omega
    have k1 : (k : Int) ≤ (c1 : Int) := by omega
    have g0 : ((G : Int) == 0) = false := by rw [beq_eq_false_iff_ne]; omega
    go_wp2_with fail
    refine HC.out.mono ?_
    rintro e w2 ⟨rfl, W2⟩
    have HS2 := hidden (W1.out.2.1.made W2.out)
    go_wp2_with fail
    refine (known_any w2).mono ?_
    rintro e w3 ⟨rfl, hk3⟩
    have HS3 := hidden (HS2.out.made hk3)
    clear hk3
    go_wp2
    go_ret
    exact ⟨rfl, HS3.out⟩

set_option maxHeartbeats 1000000 in
theorem cuts_out (aa : Option Addr) (m ca : Nat) (cut : Int) (w : World) (hm : m ≤ 140737488351232) (hl : 3000 < m) :
    Calls Tryd.prog 6 #[.slice aa m ca, .int .i64 cut] w fun e w' => e = .returned (.bool true) ∧ Step (fun _ => False) w w' := by
  have hd : (3000 : Int) < (m : Int) := by omega
  go_enter Tryd.func6, Tryd.ntmps6
  go_wp2
  go_ret
  exact ⟨rfl, Step.refl _ _⟩

end Go.Proofs.YtlajfidhkaamnaaDoor
