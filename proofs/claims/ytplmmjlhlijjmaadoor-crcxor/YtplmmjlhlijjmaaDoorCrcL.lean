/-
  Little, and the page's: a number by its bytes.
-/
import Derived.Test.YtplmmjlhlijjmaaDoorRow
import Derived.Test.YtplmmjlhlijjmaaDoorCrcB
namespace Go.Proofs.YtplmmjlhlijjmaaDoor
open Go.RowKit

/-- A row that is filled from below: the next place. -/
theorem fill_set (N k d : Nat) (x : Int) (hx : x = ((N / 2 ^ (8 * k) % 256 : Nat) : Int)) : (u8s (bytesOf N k ++ List.replicate (d + 1) 0)).set k (.int .u8 x) = u8s (bytesOf N (k + 1) ++ List.replicate d 0) := by
  subst hx
  have hl : (u8s (bytesOf N k)).length = k := by rw [u8s_length, bytesOf_length]
  rw [bytesOf_succ, u8s_append, u8s_append, u8s_append, List.replicate_succ]
  rw [List.set_append_right _ _ (by omega), hl, Nat.sub_self]
  simp [u8s]

theorem made_zeros (w : World) (m : Nat) (hm : m ≤ 8) : ∃ w', (Instr.makeSlice 22 (.int .i64 (m : Int)) (.int .i64 (m : Int))).run Tryd.prog w = .ok (.slice (some ⟨w.heap.size, 0, none⟩) m m) w' ∧
    w'.ownsRow 0 5 1 (.slice (some ⟨w.heap.size, 0, none⟩) m m) m (u8s (List.replicate m 0)) ∧ Step (fun _ => False) w w' := by
  obtain ⟨i0, hi, hz0, hz1, hz2⟩ := info_parts Tryd.info5
  obtain ⟨w', h1, h2, h3⟩ := run_make_full (P := Tryd.prog) w 0 22 5 i0 (.int .u8 0) 1 Tryd.underlying22 hi hz0 hz1 .i64 .i64 m (by rw [hz2]; omega) (by unfold maxLen; omega) (Nat.zero_le _)
  refine ⟨w', h1, ?_, (Step.refl _ _).grown h3 (fun k hk => by cases hk)⟩
  have e : (madeCells (Value.int .u8 0).cells (m * 1)).toList = u8s (List.replicate m 0) := by
    have := toList_madeCells_one (.int .u8 0) m
    rw [Nat.mul_one]
    rw [show (Value.int .u8 0).cells = #[.int .u8 0] from rfl, this]
    simp [u8s]
  rw [e] at h2
  exact h2

/-- How long the answer is. -/
def longOf (n : Int) : Nat := min n.toNat 8

set_option maxHeartbeats 1000000 in
theorem little_any (v n : Int) (w : World) (hv : v ≤ 9223372036854775807) (hn : n ≤ 9223372036854775807) :
    Calls Tryd.prog 16 #[.int .i64 v, .int .i64 n] w fun e w' => e = .returned (.slice (some ⟨w.heap.size, 0, none⟩) (longOf n) (longOf n)) ∧ w'.ownsRow 0 5 1 (.slice (some ⟨w.heap.size, 0, none⟩) (longOf n) (longOf n)) (longOf n) (u8s (bytesOf v.toNat (longOf n))) ∧ Step (fun _ => False) w w' := by
  obtain ⟨N, hN, hN2, hN3⟩ : ∃ N : Nat, (if v < 0 then (0 : Int) else v) = (N : Int) ∧ v.toNat = N ∧ N ≤ 9223372036854775807 := by
    refine ⟨v.toNat, ?_, rfl, by omega⟩
    split <;> omega
  obtain ⟨p, hp, hp2⟩ : ∃ p : Nat, (if n < 0 then (0 : Int) else n) = (p : Int) ∧ n.toNat = p := by
    refine ⟨n.toNat, ?_, rfl⟩
    split <;> omega
  obtain ⟨m, hm, hm2, hm8⟩ : ∃ m : Nat, (if (8 : Int) < (p : Int) then (8 : Int) else (p : Int)) = (m : Int) ∧ longOf n = m ∧ m ≤ 8 := by
    unfold longOf
    rw [hp2]
    refine ⟨min p 8, ?_, rfl, by omega⟩
    split <;> omega
  rw [hN2, hm2]
  obtain ⟨w1, hmk, hown, hst⟩ := made_zeros w m hm8
  have HO := hidden hown
  have HS := hidden hst
  clear hown hst hm2 hN2 hp2
  go_enter Tryd.func16, Tryd.ntmps16
  go_wp2
  go_loopw [15] (fun i wr => ∃ k : Nat, k ≤ m ∧ i = .int .i64 k ∧ wr.ownsRow 0 5 1 (.slice (some ⟨w.heap.size, 0, none⟩) m m) m (u8s (bytesOf N k ++ List.replicate (m - k) 0)) ∧ Step (fun _ => False) w wr) (fun i _ => m - (intOf i).toNat)
  case atStart => exact ⟨0, Nat.zero_le _, rfl, by simpa [bytesOf] using HO.out, HS.out⟩
  case round =>
    obtain ⟨k, hk, rfl, O, St⟩ := hrel
    by_cases hlt : k < m
    · have hc := O.cellAt k (by omega)
      have hf := O.frozenAt k
      have hyl : k < (u8s (bytesOf N k ++ List.replicate (m - k) 0)).length := by rw [O.1]; omega
      rw [List.getElem?_eq_getElem hyl] at hc
      obtain ⟨d, hd⟩ : ∃ d, m - k = d + 1 := ⟨m - k - 1, by omega⟩
      have hd2 : m - (k + 1) = d := by omega
      have HF := hidden (And.intro (O.stored k (.int .u8 ((N : Int) / 2 ^ (8 * k) % 256))).1 (St.setCell ⟨w.heap.size, k, none⟩ (.int .u8 ((N : Int) / 2 ^ (8 * k) % 256)) (.inr (Nat.le_refl _))))
      rw [hd, fill_set N k d _ (by simp), ← hd2] at HF
      clear hd hd2
      have k1 : (k : Int) < (m : Int) := by omega
      generalize (u8s (bytesOf N k ++ List.replicate (m - k) 0))[k] = yk at hc
      clear O St
      go_wp2
      go_roundw
      case rel => exact ⟨k + 1, by omega, by go_num, HF.out.1, HF.out.2⟩
      case measure => simp [intOf]; omega
    · have hkm : k = m := by omega
      subst hkm
      rw [Nat.sub_self] at O
      have H2 := hidden (And.intro O St)
      clear O St
      go_wp2
      go_ret
      exact ⟨rfl, by simpa using H2.out.1, H2.out.2⟩

set_option maxHeartbeats 1000000 in
theorem rlittle_any (v n : Int) (w : World) (hv : v ≤ 9223372036854775807) (hn : n ≤ 9223372036854775807) :
    Calls Tryd.prog 18 #[.int .i64 v, .int .i64 n] w fun e w' => ∃ u, e = .returned u ∧ w'.ownsRow 0 5 1 u (longOf n) (u8s (bytesOf v.toNat (longOf n))) ∧ Step (fun _ => False) w w' := by
  obtain ⟨i0, hi, hz0, hz1, hz2⟩ := info_parts Tryd.info5
  obtain ⟨N, hN, hN2, hN3⟩ : ∃ N : Nat, (if 0 < v then v else (0 : Int)) = (N : Int) ∧ v.toNat = N ∧ N ≤ 9223372036854775807 := by
    refine ⟨v.toNat, ?_, rfl, by omega⟩
    split <;> omega
  obtain ⟨c, hc, hc8, hcm⟩ : ∃ c : Int, (if (8 : Int) < n then (8 : Int) else n) = c ∧ c ≤ 8 ∧ longOf n = c.toNat := by
    refine ⟨_, rfl, ?_, ?_⟩
    · split <;> omega
    · unfold longOf
      split <;> omega
  obtain ⟨m, hm, hmc⟩ : ∃ m : Nat, c.toNat = m ∧ m ≤ 8 := ⟨_, rfl, by omega⟩
  rw [hcm, hm, hN2]
  clear hcm hN2
  go_enter Tryd.func18, Tryd.ntmps18
  go_wp2
  go_loopw [0, 5, 6] (fun x s i wr => ∃ k : Nat, k ≤ m ∧ i = .int .i64 k ∧ x = .int .i64 ((N / 2 ^ (8 * k) : Nat) : Int) ∧ wr.ownsRow 0 5 1 s k (u8s (bytesOf N k)) ∧ (∀ g, s.ownBlock = some g → w.heap.size ≤ g) ∧ Step (fun _ => False) w wr) (fun _ _ i _ => m - (intOf i).toNat)
  case atStart => exact ⟨0, Nat.zero_le _, rfl, by simp, World.ownsRow_nil _ _ _ _, fun g hg => by simp [Value.ownBlock] at hg, Step.refl _ _⟩
  case round =>
    obtain ⟨k, hk, rfl, rfl, O, Og, St⟩ := hrel
    by_cases hlt : k < m
    · have k1 : (k : Int) < c := by omega
      have hy : N / 2 ^ (8 * k) ≤ 9223372036854775807 := Nat.le_trans (Nat.div_le_self _ _) hN3
      have hnext : N / 2 ^ (8 * (k + 1)) = N / 2 ^ (8 * k) / 256 := by
        rw [Nat.div_div_eq_div_mul, Nat.mul_add, Nat.pow_add]
      have HF := hidden (bytesOf_succ N k)
      have Hnext := hidden hnext
      have HO := hidden (And.intro O (And.intro Og St))
      clear hnext O Og St
      generalize N / 2 ^ (8 * k) = y at *
      go_wp2_with (at_builtin; refine wpList_append_at _ rfl (.tmp 15) (.tmp 18) 22 rfl 5 i0 (.int .u8 0) 1 1 Tryd.underlying22 hi hz0 hz1 hz2 rfl (by decide) _ _ _ rfl (HO.out.1.alloc _) ⟨wr.heap.size, 0, none⟩ 1 1 [.int .u8 ((y : Int) % 256)] rfl rfl ?c1 ?c2 ?c3 ?c4 ?_)
      case c1 => exact cell_one_new _ _ _
      case c2 => intro u hu; simp at hu; subst hu; rfl
      case c3 => unfold maxLen; omega
      case c4 => omega
      intro v' w1 hown' hgrow hnil hv'
      have e1 : u8s (bytesOf N k) ++ [.int .u8 ((y : Int) % 256)] = u8s (bytesOf N (k + 1)) := by rw [HF.out]; simp [u8s]
      rw [e1] at hown'
      have HG := hidden (show (∀ g, v'.ownBlock = some g → w.heap.size ≤ g) ∧ Step (fun _ => False) w w1 from
        ⟨fun g hg => by
          rcases hv' with e | e
          · exact HO.out.2.1 g (by rw [← e]; exact hg)
          · rw [e] at hg; have := Option.some.inj hg; have := HO.out.2.2.size; simp at *; omega,
        (HO.out.2.2.alloc _).grown hgrow (fun g hg => .inr (HO.out.2.1 g hg))⟩)
      have HW := hidden hown'
      have ey : (y : Int) / 256 = ((y / 256 : Nat) : Int) := by omega
      have Hey := hidden ey
      clear hown' hgrow hnil hv' e1 ey
      go_wp2
      go_roundw
      case rel => exact ⟨k + 1, by omega, by go_num, by rw [Hnext.out]; exact congrArg _ Hey.out, HW.out, HG.out.1, HG.out.2⟩
      case measure => simp [intOf]; omega
    · have hkm : k = m := by omega
      subst hkm
      have H2 := hidden (And.intro O St)
      obtain ⟨ao, cp, rfl⟩ := own_slice O
      clear O St
      have k2 : ¬ ((k : Int) < c) := by omega
      go_wp2
      go_ret
      exact ⟨_, rfl, H2.out.1, H2.out.2⟩

end Go.Proofs.YtplmmjlhlijjmaaDoor
