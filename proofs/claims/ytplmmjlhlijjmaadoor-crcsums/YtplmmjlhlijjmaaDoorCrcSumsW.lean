/-
  The walk of the law on the sum of two rows.
-/
import Derived.Test.YtplmmjlhlijjmaaDoorCrcR
import Derived.Test.YtplmmjlhlijjmaaDoorLRoomM
import Derived.Test.YtplmmjlhlijjmaaDoorAppRd
import Derived.Deep.RegionHeld3
namespace Go.Proofs.YtplmmjlhlijjmaaDoor
open Go.RowKit

theorem sum_two_drew (u v : Value) (A B : List Nat) (w : World) (hA : ∀ x ∈ A, x < 256) (hB : ∀ x ∈ B, x < 256) (T : Tab w) (h : Rd w u A) (k : Rd w v B) (hl : A.length ≤ 137438953600) (kl : B.length ≤ 137438953600) :
    Calls Tryd.prog 10 #[.slice (some ⟨w.heap.size, 0, none⟩) 2 2] (w.alloc (.cells #[u, v] 22)).drew fun e w' => e = .returned (.int .u32 ((crcSum (A ++ B) : Nat) : Int)) ∧ ∃ n, w' = (w.alloc (.cells #[u, v] 22)).drew.drewN n := by
  have T1 : Tab (w.alloc (.cells #[u, v] 22)) := T.step ((Step.refl (fun _ => False) w).alloc (.cells #[u, v] 22)) (fun h => h)
  have R1 := Rds.two h k 22
  have := sum_any _ [A, B] (w.alloc (.cells #[u, v] 22)).drew (by intro C hC; simp at hC; rcases hC with rfl | rfl; exact hA; exact hB) T1 R1 (by simp) (by intro C hC; simp at hC; rcases hC with rfl | rfl; exact hl; exact kl)
  simpa using this

set_option maxHeartbeats 2000000 in
theorem sums_in (aa ab : Option Addr) (ca cb : Nat) (A B : List Nat) (w : World) (hA : ∀ x ∈ A, x < 256) (hB : ∀ x ∈ B, x < 256) (T : Tab w) (ra : Rd w (.slice aa A.length ca) A) (rb : Rd w (.slice ab B.length cb) B) (hl : A.length + B.length ≤ 4000) :
    Calls Tryd.prog 3 #[.slice aa A.length ca, .slice ab B.length cb] w fun e w' => e = .returned (.bool true) ∧ Step (fun _ => False) w w' := by
  obtain ⟨i0, hi, hz0, hz1, hz2⟩ := info_parts Tryd.info5
  have HT := hidden T
  have HA := hidden hA
  have HB := hidden hB
  have HRa := hidden ra
  have HRb := hidden rb
  obtain ⟨m, hm⟩ : ∃ m, A.length = m := ⟨_, rfl⟩
  obtain ⟨n, hn⟩ : ∃ n, B.length = n := ⟨_, rfl⟩
  rw [hm] at HRa
  rw [hn] at HRb
  rw [hm, hn] at hl ⊢
  have Hm := hidden hm
  have Hn := hidden hn
  clear T hA hB ra rb hm hn
  go_enter Tryd.func3, Tryd.ntmps3
  go_wp2_with fail
  refine Calls.mono (roomy_any _ A w HRa.out (by have := Hm.out; omega)) ?_
  rintro e w1 ⟨g1, c1, rfl, R1, hg1, S1⟩
  rw [Hm.out]
  have hc1 : m + 2 ≤ c1 := by have := R1.room; have := Hm.out; omega
  have HR1 := hidden R1
  have Hg1 := hidden hg1
  have HS1 := hidden S1
  clear R1 hg1 S1
  go_wp2_with fail
  refine Calls.mono (roomy_any _ B w1 (HRb.out.step HS1.out (fun _ _ _ _ _ h => h)) (by have := Hn.out; omega)) ?_
  rintro e w2 ⟨g2, c2, rfl, R2, hg2, S2⟩
  rw [Hn.out]
  have hc2 : n + 2 ≤ c2 := by have := R2.room; have := Hn.out; omega
  have HR1' := hidden (HR1.out.step S2 (fun h => h))
  have HR2 := hidden R2
  have Hg2 := hidden hg2
  have HS2 := hidden (HS1.out.made S2)
  clear R2 hg2 S2
  have m0 : (0 : Int) ≤ (m : Int) := by omega
  have n0 : (0 : Int) ≤ (n : Int) := by omega
  have m1 : (m : Int) ≤ (c1 : Int) := by omega
  have n1 : (n : Int) ≤ (c2 : Int) := by omega
  have HC := hidden (sum_two_drew (.slice (some ⟨g1, 0, none⟩) m c1) (.slice (some ⟨g2, 0, none⟩) n c2) A B w2 HA.out HB.out (HT.out.step HS2.out (fun h => h)) (by have := HR1'.out.rd; rw [Hm.out] at this; exact this) (by have := HR2.out.rd; rw [Hn.out] at this; exact this) (by have := Hm.out; omega) (by have := Hn.out; omega))
  generalize hsum : crcSum (A ++ B) = sm at *
  have Hsum := hidden hsum
  clear hsum
  go_wp2
  go_region_held3 (fun _ => True) (trivial) (first | (go_at_call 10; refine HC.out.mono ?_; rintro e w' ⟨rfl, q3, rfl⟩))
  obtain ⟨w3, hw3⟩ : ∃ w3, w3 = (w2.alloc (.cells #[.slice (some ⟨g1, 0, none⟩) m c1, .slice (some ⟨g2, 0, none⟩) n c2] 22)).drewN (1 + q3) := ⟨_, rfl⟩
  rw [← hw3]
  have S3 : Step (fun _ => False) w2 w3 := by rw [hw3]; exact ((Step.refl _ _).alloc _).drewN _
  have HS3 := hidden (HS2.out.made S3)
  have HR1'' := hidden (HR1'.out.step S3 (fun h => h))
  have HR2'' := hidden (HR2.out.step S3 (fun h => h))
  clear hw3 S3 HC
  have hown := hidden (show (w3.alloc (.cells #[] 5)).ownsRow 0 5 1 (.slice (some ⟨w3.heap.size, 0, none⟩) 0 0) 0 (u8s []) by
    have := World.ownsRow_lit (base := 0) (e := 5) (size := 1) w3 #[] 0 (Nat.zero_le _) (Nat.zero_le _) rfl
    simpa [u8s] using this)
  have HRa3 := hidden (HRa.out.step (HS3.out.alloc (.cells #[] 5)) (fun _ _ _ _ _ h => h))
  go_wp2_with (at_builtin; refine append_bytes rfl (.tmp 29) (.tmp 30) rfl _ _ _ rfl hown.out _ A rfl HRa3.out ?b1 ?_)
  case b1 => have := Hm.out; omega
  intro v4 w4 ho4 hg4 hb4
  have hn4 : ∀ g, v4.ownBlock = some g → w3.heap.size ≤ g := by
    intro g hg
    rcases hb4 with e | e
    · rw [e] at hg; simp [Value.ownBlock] at hg; omega
    · rw [e] at hg; have := Option.some.inj hg; simp at *; omega
  have S4 : Step (fun _ => False) w3 w4 := ((Step.refl _ _).alloc _).grown hg4 (fun k hk => .inr (by simp [Value.ownBlock] at hk; omega))
  have HO4 := hidden ho4
  have HN4 := hidden hn4
  have HS4 := hidden S4
  have HRb4 := hidden (HRb.out.step (HS3.out.made S4) (fun _ _ _ _ _ h => h))
  clear ho4 hg4 hb4 hn4 S4
  go_wp2_with (at_builtin; refine append_bytes rfl (.tmp 31) (.tmp 32) rfl _ _ _ rfl HO4.out _ B rfl HRb4.out ?b2 ?_)
  case b2 => have := Hm.out; have := Hn.out; simp; omega
  intro v5 w5 ho5 hg5 hb5
  have S5 : Step (fun _ => False) w3 w5 := HS4.out.grown hg5 (fun k hk => .inr (HN4.out k hk))
  obtain ⟨va, vc, hv5⟩ := own_slice ho5
  have HO5 := hidden (show Rd w5 v5 (A ++ B) from by simpa using Rd.of_own ho5)
  rw [hv5] at HO5 ⊢
  have HS5 := hidden (HS3.out.made S5)
  have HR1f := hidden (HR1''.out.step S5 (fun h => h))
  have HR2f := hidden (HR2''.out.step S5 (fun h => h))
  clear ho5 hg5 hb5 S5 hv5
  have HRa5 := hidden (HRa.out.step HS5.out (fun _ _ _ _ _ h => h))
  have HRb5 := hidden (HRb.out.step HS5.out (fun _ _ _ _ _ h => h))
  have HT5 := hidden (HT.out.step HS5.out (fun h => h))
  go_wp2_with fail
  refine Calls.mono (rsum_two _ _ A B w5 _ rfl HA.out HB.out HRa5.out HRb5.out (by have := Hm.out; omega) (by have := Hn.out; omega)) ?_
  rintro e w6 ⟨rfl, q6, hw6⟩
  rw [Hsum.out]
  have S6 : Step (fun _ => False) w5 w6 := by rw [hw6]; exact ((Step.refl _ _).alloc _).drewN _
  clear hw6
  have HT6 := hidden (HT5.out.step S6 (fun h => h))
  have HO6 := hidden (HO5.out.step S6 (fun _ _ _ _ _ h => h))
  have HS6 := hidden S6
  clear S6
  go_wp2_with fail
  refine Calls.mono (sum_one _ (A ++ B) w6 _ rfl ?ab HT6.out HO6.out ?al) ?_
  case ab => intro x hx; rcases List.mem_append.1 hx with h | h; exact HA.out x h; exact HB.out x h
  case al => have := Hm.out; have := Hn.out; simp; omega
  rintro e w7 ⟨rfl, q7, hw7⟩
  rw [Hsum.out]
  have S7 : Step (fun _ => False) w5 w7 := HS6.out.made (by rw [hw7]; exact ((Step.refl _ _).alloc _).drewN _)
  clear hw7
  have HT7 := hidden (HT5.out.step S7 (fun h => h))
  have HRa7 := hidden (HRa5.out.step S7 (fun _ _ _ _ _ h => h))
  have HS7 := hidden S7
  clear S7
  go_wp2_with fail
  refine Calls.mono (sum_one _ A w7 _ rfl HA.out HT7.out HRa7.out (by have := Hm.out; omega)) ?_
  rintro e w8 ⟨rfl, q8, hw8⟩
  have S8 : Step (fun _ => False) w5 w8 := HS7.out.made (by rw [hw8]; exact ((Step.refl _ _).alloc _).drewN _)
  clear hw8
  have HM8 := hidden (more_any (crcSum A) _ B w8 (crcSum_lt A HA.out) HB.out (HT5.out.step S8 (fun h => h)) (HRb5.out.step S8 (fun _ _ _ _ _ h => h)) (by have := Hn.out; omega))
  rw [crcSum_more, Hsum.out] at HM8
  have HS8 := hidden S8
  clear S8
  generalize crcSum A = sA at *
  go_wp2_with fail
  refine HM8.out.mono ?_
  rintro e w9 ⟨rfl, q9, hw9⟩
  have S9 : Step (fun _ => False) w5 w9 := HS8.out.made (by rw [hw9]; exact (Step.refl _ _).drewN _)
  clear hw9
  have HSt9 := hidden (stands_any g1 c1 _ A w9 (HR1f.out.step S9 (fun h => h)) (HRa5.out.step S9 (fun _ _ _ _ _ h => h)) (by have := Hm.out; omega))
  rw [Hm.out] at HSt9
  have HS9 := hidden S9
  clear S9
  go_wp2_with fail
  refine HSt9.out.mono ?_
  rintro e w10 ⟨rfl, q10, hw10⟩
  have S10 : Step (fun _ => False) w5 w10 := HS9.out.made (by rw [hw10]; exact (Step.refl _ _).drewN _)
  clear hw10
  have HSt10 := hidden (stands_any g2 c2 _ B w10 (HR2f.out.step S10 (fun h => h)) (HRb5.out.step S10 (fun _ _ _ _ _ h => h)) (by have := Hn.out; omega))
  rw [Hn.out] at HSt10
  have HS10 := hidden S10
  clear S10
  go_wp2_with fail
  refine HSt10.out.mono ?_
  rintro e w11 ⟨rfl, q11, hw11⟩
  have S11 : Step (fun _ => False) w5 w11 := HS10.out.made (by rw [hw11]; exact (Step.refl _ _).drewN _)
  clear hw11
  have HT11 := hidden (HT5.out.step S11 (fun h => h))
  have HS11 := hidden (HS5.out.made S11)
  clear S11
  go_wp2_with fail
  refine Calls.mono (known_any w11 HT11.out) ?_
  rintro e wk ⟨rfl, hk⟩
  have HKK := hidden (HS11.out.made hk)
  clear hk
  go_wp2
  go_ret
  exact ⟨rfl, HKK.out⟩

set_option maxHeartbeats 1000000 in
theorem sums_out (aa ab : Option Addr) (m n ca cb : Nat) (w : World) (hm : m ≤ 140737488351232) (hn : n ≤ 140737488351232) (hl : 4000 < m + n) :
    Calls Tryd.prog 3 #[.slice aa m ca, .slice ab n cb] w fun e w' => e = .returned (.bool true) ∧ Step (fun _ => False) w w' := by
  have hd : (4000 : Int) < (m : Int) + (n : Int) := by omega
  go_enter Tryd.func3, Tryd.ntmps3
  go_wp2
  go_ret
  exact ⟨rfl, Step.refl _ _⟩

end Go.Proofs.YtplmmjlhlijjmaaDoor
