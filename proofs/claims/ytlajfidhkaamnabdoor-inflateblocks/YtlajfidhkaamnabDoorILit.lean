/-
  The page's Little: a number by its bytes; the page's Stored: bytes as they are.
-/
import Derived.Test.YtlajfidhkaamnabDoorIRead
import Derived.Test.YtlajfidhkaamnabDoorAppRd
namespace Go.Proofs.YtlajfidhkaamnabDoor
open Go.RowKit
set_option maxRecDepth 100000
set_option linter.unusedVariables false

/-- How many bytes. -/
def longOf (n : Int) : Nat := min n.toNat 8

set_option maxHeartbeats 1000000 in
theorem rlittle_any (v n : Int) (w : World) (hv : v ≤ 9223372036854775807) (hn : n ≤ 9223372036854775807) :
    Calls Tryd.prog 15 #[.int .i64 v, .int .i64 n] w fun e w' => ∃ u, e = .returned u ∧ w'.ownsRow 0 5 1 u (longOf n) (u8s (bytesOf v.toNat (longOf n))) ∧ Step (fun _ => False) w w' := by
  obtain ⟨i0, hi, hz0, hz1, hz2⟩ := info_parts Tryd.info5
  obtain ⟨N, hN, hN2, hN3⟩ : ∃ N : Nat, (if 0 < v then v else (0 : Int)) = (N : Int) ∧ v.toNat = N ∧ N ≤ 9223372036854775807 := by
    refine ⟨v.toNat, ?_, rfl, by omega⟩
    split <;> omega
  obtain ⟨c, hc, hc8, hcm⟩ : ∃ c : Int, (if (8 : Int) < n then (8 : Int) else n) = c ∧ c ≤ 8 ∧ longOf n = c.toNat := by
    refine ⟨_, rfl, ?_, ?_⟩
    · split <;> omega
    · unfold longOf
      split <;> omega
  obtain ⟨m, hm, hmc⟩ : ∃ m : Nat, c.toNat = m ∧ m ≤ 8 := ⟨_, rfl, by omega⟩
  rw [hcm, hm, hN2]
  clear hcm hN2
  go_enter Tryd.func15, Tryd.ntmps15
  go_wp2
  go_loopw [0, 5, 6] (fun x s i wr => ∃ k : Nat, k ≤ m ∧ i = .int .i64 k ∧ x = .int .i64 ((N / 2 ^ (8 * k) : Nat) : Int) ∧ wr.ownsRow 0 5 1 s k (u8s (bytesOf N k)) ∧ (∀ g, s.ownBlock = some g → w.heap.size ≤ g) ∧ Step (fun _ => False) w wr) (fun _ _ i _ => m - (intOf i).toNat)
  case atStart => exact ⟨0, Nat.zero_le _, rfl, by simp, World.ownsRow_nil _ _ _ _, fun g hg => by simp [Value.ownBlock] at hg, Step.refl _ _⟩
  case round =>
    obtain ⟨k, hk, rfl, rfl, O, Og, St⟩ := hrel
    by_cases hlt : k < m
    · have k1 : (k : Int) < c := by omega
      have hy : N / 2 ^ (8 * k) ≤ 9223372036854775807 := Nat.le_trans (Nat.div_le_self _ _) hN3
      have hnext : N / 2 ^ (8 * (k + 1)) = N / 2 ^ (8 * k) / 256 := by
        rw [Nat.div_div_eq_div_mul, Nat.mul_add, Nat.pow_add]
      have HF := hidden (bytesOf_succ N k)
      have Hnext := hidden hnext
      have HO := hidden (And.intro O (And.intro Og St))
      clear hnext O Og St
      generalize N / 2 ^ (8 * k) = y at *
      go_wp2_with (at_builtin; refine wpList_append_at _ rfl (.tmp 15) (.tmp 18) 22 rfl 5 i0 (.int .u8 0) 1 1 Tryd.underlying22 hi hz0 hz1 hz2 rfl (by decide) _ _ _ rfl (HO.out.1.alloc _) ⟨wr.heap.size, 0, none⟩ 1 1 [.int .u8 ((y : Int) % 256)] rfl rfl ?c1 ?c2 ?c3 ?c4 ?_)
      case c1 => exact cell_one_new _ _ _
      case c2 => intro u hu; simp at hu; subst hu; rfl
      case c3 => unfold maxLen; omega
      case c4 => omega
      intro v' w1 hown' hgrow hnil hv'
      have e1 : u8s (bytesOf N k) ++ [.int .u8 ((y : Int) % 256)] = u8s (bytesOf N (k + 1)) := by rw [HF.out]; simp [u8s]
      rw [e1] at hown'
      have HG := hidden (show (∀ g, v'.ownBlock = some g → w.heap.size ≤ g) ∧ Step (fun _ => False) w w1 from
        ⟨fun g hg => by
          rcases hv' with e | e
          · exact HO.out.2.1 g (by rw [← e]; exact hg)
          · rw [e] at hg; have := Option.some.inj hg; have := HO.out.2.2.size; simp at *; omega,
        (HO.out.2.2.alloc _).grown hgrow (fun g hg => .inr (HO.out.2.1 g hg))⟩)
      have HW := hidden hown'
      have ey : (y : Int) / 256 = ((y / 256 : Nat) : Int) := by omega
      have Hey := hidden ey
      clear hown' hgrow hnil hv' e1 ey
      go_wp2
      go_roundw
      case rel => exact ⟨k + 1, by omega, by go_num, by rw [Hnext.out]; exact congrArg _ Hey.out, HW.out, HG.out.1, HG.out.2⟩
      case measure => simp [intOf]; omega
    · have hkm : k = m := by omega
      subst hkm
      have H2 := hidden (And.intro O St)
      obtain ⟨ao, cp, rfl⟩ := own_slice O
      clear O St
      have k2 : ¬ ((k : Int) < c) := by omega
      go_wp2
      go_ret
      exact ⟨_, rfl, H2.out.1, H2.out.2⟩

theorem rlittle_2 (v : Nat) (w : World) (hv : v ≤ 65535) :
    Calls Tryd.prog 15 #[.int .i64 (v : Int), .int .i64 2] w fun e w' => ∃ ao c, e = .returned (.slice ao 2 c) ∧ Hid (Rd w' (.slice ao 2 c) (bytesOf v 2) ∧ Step (fun _ => False) w w') := by
  refine (rlittle_any v 2 w (by omega) (by omega)).mono fun e w' ⟨u, he, h1, h2⟩ => ?_
  have hl : longOf 2 = 2 := rfl
  rw [hl, Int.toNat_natCast] at h1
  obtain ⟨ao, c, hu⟩ := own_slice h1
  subst hu
  exact ⟨ao, c, he, Rd.of_own h1, h2⟩

/-- What Stored lays of bytes that go into one block. -/
def storedB (P : List Nat) : List Nat := [1] ++ bytesOf P.length 2 ++ bytesOf (65535 - P.length) 2 ++ P
theorem storedB_length (P : List Nat) : (storedB P).length = P.length + 5 := by
  unfold storedB
  simp only [List.length_append, bytesOf_length, List.length_singleton]
  omega

/-- A row of the call's own, with more behind it. -/
theorem grown_new {w w1 w2 : World} {v v' : Value} (S1 : Step (fun _ => False) w w1) (hv : ∀ g, v.ownBlock = some g → w.heap.size ≤ g) (hg : w1.grownBy w2 v.ownBlock) (hb : v'.ownBlock = v.ownBlock ∨ v'.ownBlock = some w1.heap.size) : Step (fun _ => False) w w2 ∧ ∀ g, v'.ownBlock = some g → w.heap.size ≤ g := by
  refine ⟨S1.grown hg (fun k hk => .inr (hv k hk)), fun g hg2 => ?_⟩
  rcases hb with e | e
  · exact hv g (by rw [← e]; exact hg2)
  · rw [e] at hg2; have := Option.some.inj hg2; have := S1.size; omega

set_option maxHeartbeats 4000000 in
theorem rstored_any (aa : Option Addr) (ca : Nat) (P : List Nat) (w : World) (ha : Rd w (.slice aa P.length ca) P) (hl : P.length ≤ 60000) (hc : P.length ≤ ca) :
    Calls Tryd.prog 6 #[.slice aa P.length ca] w fun e w' => ∃ ao c, e = .returned (.slice ao (P.length + 5) c) ∧ Hid (w'.ownsRow 0 5 1 (.slice ao (P.length + 5) c) (P.length + 5) (u8s (storedB P)) ∧ Step (fun _ => False) w w' ∧ (∀ g, (Value.slice ao (P.length + 5) c).ownBlock = some g → w.heap.size ≤ g)) := by
  have HA := hidden ha
  have hnil : Hid (aa = none → P.length = 0) := hidden (fun h => by
    obtain ⟨a, c, e, h1, _⟩ := ha
    injection e with e1
    rw [(h1 (by rw [← e1]; exact h)).1]
    rfl)
  obtain ⟨m, hm⟩ : ∃ m, P.length = m := ⟨_, rfl⟩
  rw [hm] at HA hl hc hnil ⊢
  have Hm := hidden hm
  have HB : Hid (u8s (storedB P) = u8s (([1] ++ bytesOf m 2 ++ bytesOf (65535 - m) 2) ++ P)) := hidden (by unfold storedB; rw [hm])
  clear hm ha
  have m1 : (if m < 65535 then (m : Int) else 65535) = (m : Int) := by rw [if_pos (by omega)]
  have m2 : (0 : Int) ≤ (m : Int) := by omega
  have m3 : (m : Int) ≤ (ca : Int) := by omega
  have HL1 := hidden (fun W => rlittle_2 m W (by omega))
  have HL2 := hidden (fun W => rlittle_2 (65535 - m) W (by omega))
  rw [show ((65535 - m : Nat) : Int) = 65535 - (m : Int) by omega] at HL2
  go_enter Tryd.func6, Tryd.ntmps6
  go_wp2
  go_loopw [0, 3, 4, 5] (fun p b _ _ wr => p = .slice aa m ca ∧ b = .slice none 0 0 ∧ wr = w) (fun _ _ _ _ _ => 0)
  case atStart => exact ⟨rfl, rfl, rfl⟩
  case round =>
    obtain ⟨rfl, rfl, rfl⟩ := hrel
    have HR1 := hidden (Rd.lit wr 1)
    have HS1 := hidden ((Step.refl (fun _ => False) wr).alloc (.cells #[.int .u8 1] 5))
    go_wp2_with (at_builtin; refine append_bytes rfl (.tmp 13) (.tmp 15) rfl _ 0 [] rfl (World.ownsRow_nil _ _ _ _) _ [1] rfl HR1.out ?b1 ?_)
    case b1 => simp
    intro v2 w2 ho2 hg2 hb2
    have HX2 := hidden (grown_new (v := .slice none 0 0) HS1.out (fun g hg => by simp [Value.ownBlock] at hg) hg2 (hb2.imp id (fun h => h.trans (congrArg some (Array.size_push _).symm))))
    obtain ⟨a2, c2, hv2⟩ := own_slice ho2
    subst hv2
    have HO2 := hidden ho2
    clear ho2 hg2 hb2
    go_wp2_with fail
    refine (HL1.out w2).mono ?_
    rintro e w3 ⟨a3, c3, rfl, W3⟩
    have HO3 := hidden (owns_step HO2.out W3.out.2 (fun _ _ h => h))
    go_wp2_with (at_builtin; refine append_bytes rfl (.tmp 17) (.tmp 19) rfl _ _ _ rfl HO3.out _ _ rfl W3.out.1 ?b2 ?_)
    case b2 => rw [bytesOf_length]; simp
    intro v4 w4 ho4 hg4 hb4
    have HX4 := hidden (grown_new (HX2.out.1.made W3.out.2) HX2.out.2 hg4 hb4)
    obtain ⟨a4, c4, hv4⟩ := own_slice ho4
    subst hv4
    have HO4 := hidden ho4
    clear ho4 hg4 hb4
    go_wp2_with fail
    refine (HL2.out w4).mono ?_
    rintro e w5 ⟨a5, c5, rfl, W5⟩
    have HO5 := hidden (owns_step HO4.out W5.out.2 (fun _ _ h => h))
    go_wp2_with (at_builtin; refine append_bytes rfl (.tmp 21) (.tmp 24) rfl _ _ _ rfl HO5.out _ _ rfl W5.out.1 ?b3 ?_)
    case b3 => rw [bytesOf_length, bytesOf_length]; simp
    intro v6 w6 ho6 hg6 hb6
    have HX6 := hidden (grown_new (HX4.out.1.made W5.out.2) HX4.out.2 hg6 hb6)
    obtain ⟨a6, c6, hv6⟩ := own_slice ho6
    subst hv6
    have HO6 := hidden ho6
    have HA6 := hidden (HA.out.step HX6.out.1 (fun _ _ _ _ _ h => h))
    clear ho6 hg6 hb6
    go_wp2_with (at_builtin; refine append_bytes rfl (.tmp 26) (.tmp 29) rfl _ _ _ rfl HO6.out _ P rfl HA6.out ?b4 ?_)
    case b4 => rw [bytesOf_length, bytesOf_length, Hm.out]; simp; omega
    intro v7 w7 ho7 hg7 hb7
    have HX7 := hidden (grown_new HX6.out.1 HX6.out.2 hg7 hb7)
    obtain ⟨a7, c7, hv7⟩ := own_slice ho7
    subst hv7
    have HO7 := hidden ho7
    clear ho7 hg7 hb7
    have hlen : Hid (1 + (bytesOf m 2).length + (bytesOf (65535 - m) 2).length + P.length = m + 5) := hidden (by rw [bytesOf_length, bytesOf_length, Hm.out]; omega)
    go_wp2
    all_goals
      go_ret
      refine ⟨a7, c7, ?_, ?_⟩
      · show Ending.returned (Value.slice a7 (1 + (bytesOf m 2).length + (bytesOf (65535 - m) 2).length + P.length) c7) = _
        rw [hlen.out]
      · have h1 := HO7.out
        have h2 := HX7.out
        rw [hlen.out] at h1 h2
        refine hidden ⟨?_, h2.1, h2.2⟩
        rw [HB.out]
        simpa using h1

end Go.Proofs.YtlajfidhkaamnabDoor
