/-
  DeflateStored's walk.
-/
import Derived.Test.YtcgjmkcigmmjjaaGreatDoorCmM

namespace Go.Proofs.YtcgjmkcigmmjjaaGreatDoor
set_option linter.unusedVariables false
set_option maxRecDepth 100000
/-- The bytes of one block. -/
def kB (mk : Bool) (B : List Nat) : List Nat := (if mk then 1 else 0) :: (B.length % 256) :: (B.length / 256) :: ((65535 - B.length) % 256) :: ((65535 - B.length) / 256) :: B

/-- The bytes of the first so many blocks. -/
def stBy (P : List Nat) : Nat → List Nat
  | 0 => []
  | i + 1 => stBy P i ++ kB (decide ((P.drop (65535 * i)).length ≤ 65535)) ((P.drop (65535 * i)).take 65535)

theorem kB_len (mk : Bool) (B : List Nat) : (kB mk B).length = B.length + 5 := by simp [kB]

theorem stK_num (l : Nat) (mk : Bool) (B : List Nat) (hl : l % 8 = 0) (hB : B.length ≤ 65535) : pcN (stK l mk B) = numOf (kB mk B) ∧ pcL (stK l mk B) = 8 * (kB mk B).length := by
  have hu : up8 (l + 3) - (l + 3) = 5 := by unfold up8; omega
  obtain ⟨m, hm⟩ : ∃ m : Nat, (if mk then 1 else 0) = m := ⟨_, rfl⟩
  have hm1 : m < 2 := by rw [← hm]; cases mk <;> decide
  have e1 : pcN (stK l mk B) = 2 ^ 1 * (2 ^ 2 * (2 ^ (up8 (l + 3) - (l + 3)) * (2 ^ 16 * (2 ^ 16 * (2 ^ (8 * B.length) * 0 + numOf B) + (65535 - B.length)) + B.length) + 0) + 0) + m := by rw [← hm]; rfl
  refine ⟨?_, ?_⟩
  · rw [e1, hu]
    unfold kB
    rw [hm]
    simp only [numOf_cons]
    generalize numOf B = z
    have e3 : (2 : Nat) ^ 16 = 65536 := rfl
    have e4 : (2 : Nat) ^ 5 = 32 := rfl
    have e5 : (2 : Nat) ^ 2 = 4 := rfl
    have e6 : (2 : Nat) ^ 1 = 2 := rfl
    rw [e3, e4, e5, e6, Nat.mul_zero]
    omega
  · rw [stK_len, kB_len]
    have := up8_ge (l + 3)
    omega

theorem stC_num (P : List Nat) : ∀ i, pcN (stC [] P true i) = numOf (stBy P i) ∧ pcL (stC [] P true i) = 8 * (stBy P i).length
  | 0 => ⟨rfl, rfl⟩
  | i + 1 => by
    obtain ⟨h1, h2⟩ := stC_num P i
    obtain ⟨h3, h4⟩ := stK_num (pcL (stC [] P true i)) (true && decide ((P.drop (65535 * i)).length ≤ 65535)) ((P.drop (65535 * i)).take 65535) (by rw [h2]; omega) (by rw [List.length_take]; omega)
    rw [stC, stBy, pcN_append, pcL_append, h3, h4, h1, h2, numOf_append, List.length_append, Bool.true_and]
    exact ⟨rfl, by omega⟩

theorem kB_by (mk : Bool) (B : List Nat) (h : B.length ≤ 65535) (hB : ∀ x ∈ B, x < 256) : ∀ x ∈ kB mk B, x < 256 := by
  intro x hx
  unfold kB at hx
  simp only [List.mem_cons] at hx
  rcases hx with hx | hx | hx | hx | hx | hx
  · subst hx; cases mk <;> decide
  · omega
  · omega
  · omega
  · omega
  · exact hB x hx

theorem stBy_by (P : List Nat) (hP : ∀ x ∈ P, x < 256) : ∀ i, ∀ x ∈ stBy P i, x < 256
  | 0 => fun x hx => by cases hx
  | i + 1 => fun x hx => by
    rcases List.mem_append.1 hx with h | h
    · exact stBy_by P hP i x h
    · exact kB_by _ _ (by rw [List.length_take]; omega) (fun y hy => hP y (List.mem_of_mem_drop (List.mem_of_mem_take hy))) x h

theorem outB_st (P : List Nat) (hP : ∀ x ∈ P, x < 256) : outB (stPs P) = stBy P (stB P.length) := by
  obtain ⟨h1, h2⟩ := stC_num P (stB P.length)
  unfold outB stPs
  rw [h1, h2, show (8 * (stBy P (stB P.length)).length + 7) / 8 = (stBy P (stB P.length)).length by omega]
  exact bytesOf_numOf _ (stBy_by P hP _)

theorem stBy_len (P : List Nat) : ∀ i, (stBy P i).length ≤ 65540 * i
  | 0 => by simp [stBy]
  | i + 1 => by
    have := stBy_len P i
    rw [stBy, List.length_append, kB_len, List.length_take]
    omega

end Go.Proofs.YtcgjmkcigmmjjaaGreatDoor

namespace Go.Proofs.YtcgjmkcigmmjjaaGreatDoor
open Go.RowKit
set_option maxRecDepth 100000
set_option linter.unusedVariables false
def lenV : Value → Nat
  | .slice _ n _ => n
  | _ => 0

theorem kB_eq (mk : Nat) (b : Bool) (hb : (if b then 1 else 0) = mk) (C B : List Nat) (h : B.length ≤ 65535) : C ++ ([mk] ++ (bytesOf B.length 2 ++ (bytesOf (65535 - B.length) 2 ++ B))) = C ++ kB b B := by
  unfold kB
  rw [hb, two_bytes _ h, two_bytes _ (by omega)]
  rfl

set_option maxHeartbeats 4000000 in
theorem rstored_all (w : World) (ao : Option Addr) (cap : Nat) (P : List Nat) (hr : Rd w (.slice ao P.length cap) P) (hcap : P.length ≤ cap) (hn : P.length ≤ 1000000) :
    Calls Tryz.prog 13 #[.slice ao P.length cap] w fun e w' => ∃ v, e = .returned v ∧ Hid (O1 w w' v (stBy P (stB P.length))) := by
  have HR := hidden hr
  have HLT := hidden (fun (v : Nat) (w : World) (hv : v ≤ 65535) => rlittle_2 v w hv)
  obtain ⟨n, hnn⟩ : ∃ n, P.length = n := ⟨_, rfl⟩
  have Hn := hidden hnn
  obtain ⟨N, hN⟩ : ∃ N, stB n = N := ⟨_, rfl⟩
  have HN := hidden (show 1 ≤ N ∧ (N = 1 ∨ 65535 * (N - 1) < n) ∧ n ≤ 65535 * N ∧ N ≤ 17 by
    rw [hnn] at hn
    rw [← hN]; unfold stB; omega)
  have HSL := hidden (fun i => stBy_len P i)
  rw [hnn] at HR hcap hn ⊢
  rw [hN]
  clear hr hnn hN
  go_enter Tryz.func13, Tryz.ntmps13
  go_wp2_with fail
  go_loopw [0, 3] (fun pv bv wr => ∃ (i m cp : Nat) (ap : Option Addr), pv = .slice ap m cp ∧ m ≤ cp ∧ i < N ∧ Hid ((P.drop (65535 * i)).length = m ∧ Rd w (.slice ap m cp) (P.drop (65535 * i)) ∧ O1 w wr bv (stBy P i))) (fun pv _ _ => lenV pv)
  case atStart => exact ⟨0, n, cap, ao, rfl, hcap, by have := HN.out; omega, hidden ⟨Hn.out, HR.out, O1.nil w⟩⟩
  case round =>
    obtain ⟨i, m, cp, ap, rfl, hmc, hiN, HQ⟩ := hrel
    have HRN := hidden (show (65535 < m → i + 1 < N ∧ P.drop (65535 * (i + 1)) = (P.drop (65535 * i)).drop 65535) ∧ (m ≤ 65535 → i + 1 = N) by
      have h1 := HQ.out.1
      rw [List.length_drop, Hn.out] at h1
      have h2 := HN.out
      refine ⟨fun h => ⟨by omega, by rw [List.drop_drop]; congr 1⟩, fun h => by omega⟩)
    have HIB := hidden (show i ≤ 17 ∧ m ≤ 1000000 by
      have h1 := HQ.out.1
      rw [List.length_drop, Hn.out] at h1
      have := HN.out; omega)
    have hSB := hidden (show stBy P (i + 1) = stBy P i ++ kB (decide ((P.drop (65535 * i)).length ≤ 65535)) ((P.drop (65535 * i)).take 65535) from rfl)
    have hCl := HSL.out i
    obtain ⟨R, hR⟩ : ∃ R, P.drop (65535 * i) = R := ⟨_, rfl⟩
    obtain ⟨C, hC⟩ : ∃ C, stBy P i = C := ⟨_, rfl⟩
    rw [hR, hC] at HQ hSB
    rw [hR] at HRN
    rw [hC] at hCl
    have HRm := hidden HQ.out.1
    have HRr := hidden HQ.out.2.1
    have HO := hidden HQ.out.2.2
    have HCl := hidden (show C.length ≤ 2000000 by have := HIB.out.1; omega)
    have hm6 := HIB.out.2
    clear hR hC HQ hCl
    by_cases hsm : m ≤ 65535
    · skip
      have hmn : (if (65535 : Int) < (m : Int) then (65535 : Int) else (m : Int)) = (m : Int) := by split <;> omega
      have hmn2 : min (m : Int) 65535 = (m : Int) := by omega
      have hdc : ¬ (65535 : Int) < (m : Int) := by omega
      have HB := hidden (show R.take 65535 = R ∧ R.length = m from ⟨List.take_of_length_le (by rw [HRm.out]; omega), HRm.out⟩)
      have hKl : (R.take 65535).length = m := by rw [List.length_take, HRm.out]; omega
      have HK := hidden hKl
      obtain ⟨x5, hx5⟩ : ∃ x, 65535 - m = x := ⟨_, rfl⟩
      have hx5i : (65535 : Int) - (m : Int) = (x5 : Int) := by omega
      have HX5 := hidden (show 65535 - m = x5 ∧ x5 ≤ 65535 ∧ m ≤ 65535 from ⟨hx5, by omega, by omega⟩)
      have w5 : wrap64 (x5 : Int) = (x5 : Int) := wrap64_id _ (by omega) (by omega)
      clear hKl hx5
      go_wp2_with (at_builtin; refine app_o1 rfl (.tmp 13) (.tmp 15) rfl w _ C rfl (HO.out.made ((Step.refl _ _).alloc _)) _ [1] rfl (Rd.lit wr 1) ?b1 ?_)
      case b1 => have := HCl.out; simp; omega
      intro v1 w1 H1
      go_wp2_with fail
      refine (HLT.out m w1 HX5.out.2.2).mono ?_
      rintro e w2 ⟨a2, c2, rfl, R2⟩
      have HO2 := hidden (H1.out.made R2.out.2)
      go_wp2_with (at_builtin; refine app_o1 rfl (.tmp 17) (.tmp 19) rfl w _ (C ++ [1]) rfl HO2.out _ (bytesOf m 2) rfl R2.out.1 ?b2 ?_)
      case b2 => have := HCl.out; rw [bytesOf_length, List.length_append]; simp; omega
      intro v3 w3 H3
      clear HO2 R2 H1
      go_wp2_with fail
      refine (HLT.out x5 w3 HX5.out.2.1).mono ?_
      rintro e w4 ⟨a4, c4, rfl, R4⟩
      have HO4 := hidden (H3.out.made R4.out.2)
      go_wp2_with (at_builtin; refine app_o1 rfl (.tmp 21) (.tmp 24) rfl w _ _ rfl HO4.out _ (bytesOf x5 2) rfl R4.out.1 ?b3 ?_)
      case b3 => have := HCl.out; simp only [List.length_append, bytesOf_length, List.length_cons]; omega
      intro v5 w5 H5
      have HR5 := hidden (show Rd w5 (.slice ap m cp) (R.take 65535) by
        have h1 := HRr.out.step H5.out.st (fun _ _ _ _ _ q => q)
        rw [HB.out.1]; exact h1)
      clear HO4 R4 H3
      go_wp2_with (at_builtin; refine app_o1 rfl (.tmp 26) (.tmp 29) rfl w _ _ rfl H5.out _ (R.take 65535) rfl HR5.out ?b4 ?_)
      case b4 => have := HCl.out; rw [HK.out]; simp only [List.length_append, bytesOf_length, List.length_cons]; omega
      intro v6 w6 H6
      have HF := hidden (show O1 w w6 v6 (stBy P (i + 1)) by
        have h := H6.out
        have e : C ++ ([1] ++ (bytesOf m 2 ++ (bytesOf x5 2 ++ R.take 65535))) = C ++ kB (decide (R.length ≤ 65535)) (R.take 65535) := by
          have := kB_eq 1 (decide (R.length ≤ 65535)) (by rw [HRm.out, decide_eq_true hsm]; rfl) C (R.take 65535) (by rw [HK.out]; omega)
          rw [HK.out, HX5.out.1] at this
          exact this
        rw [hSB.out, ← e]
        simpa [List.append_assoc] using h)
      clear H6 H5 HR5
      go_wp2_with fail
      all_goals
        go_ret
        exact ⟨v6, rfl, by have := HF.out; rw [HRN.out.2 hsm] at this; exact hidden this⟩
    · skip
      have hmn : (if (65535 : Int) < (m : Int) then (65535 : Int) else (m : Int)) = (65535 : Int) := by split <;> omega
      have hmn2 : min (m : Int) 65535 = 65535 := by omega
      have hdc : (65535 : Int) < (m : Int) := by omega
      have hne : ¬ (65535 : Int) = (m : Int) := by omega
      have hne2 : ((65535 : Int) == (m : Int)) = false := by rw [beq_eq_false_iff_ne]; exact hne
      have hne3 : ¬ (65535 : Nat) = m := by omega
      have hKl : (R.take 65535).length = 65535 := by rw [List.length_take, HRm.out]; omega
      have HK := hidden hKl
      obtain ⟨x5, hx5⟩ : ∃ x, 65535 - 65535 = x := ⟨_, rfl⟩
      have hx5i : (65535 : Int) - (65535 : Int) = (x5 : Int) := by omega
      have HX5 := hidden (show 65535 - 65535 = x5 ∧ x5 ≤ 65535 ∧ 65535 ≤ 65535 from ⟨hx5, by omega, by omega⟩)
      have w5 : wrap64 (x5 : Int) = (x5 : Int) := wrap64_id _ (by omega) (by omega)
      clear hKl hx5
      go_wp2_with (at_builtin; refine app_o1 rfl (.tmp 13) (.tmp 15) rfl w _ C rfl (HO.out.made ((Step.refl _ _).alloc _)) _ [0] rfl (Rd.lit wr 0) ?b1 ?_)
      case b1 => have := HCl.out; simp; omega
      intro v1 w1 H1
      go_wp2_with fail
      refine (HLT.out 65535 w1 HX5.out.2.2).mono ?_
      rintro e w2 ⟨a2, c2, rfl, R2⟩
      have HO2 := hidden (H1.out.made R2.out.2)
      go_wp2_with (at_builtin; refine app_o1 rfl (.tmp 17) (.tmp 19) rfl w _ (C ++ [0]) rfl HO2.out _ (bytesOf 65535 2) rfl R2.out.1 ?b2 ?_)
      case b2 => have := HCl.out; rw [bytesOf_length, List.length_append]; simp; omega
      intro v3 w3 H3
      clear HO2 R2 H1
      go_wp2_with fail
      refine (HLT.out x5 w3 HX5.out.2.1).mono ?_
      rintro e w4 ⟨a4, c4, rfl, R4⟩
      have HO4 := hidden (H3.out.made R4.out.2)
      go_wp2_with (at_builtin; refine app_o1 rfl (.tmp 21) (.tmp 24) rfl w _ _ rfl HO4.out _ (bytesOf x5 2) rfl R4.out.1 ?b3 ?_)
      case b3 => have := HCl.out; simp only [List.length_append, bytesOf_length, List.length_cons]; omega
      intro v5 w5 H5
      have HR5 := hidden (show Rd w5 (.slice ap 65535 cp) (R.take 65535) by
        have h1 := HRr.out.step H5.out.st (fun _ _ _ _ _ q => q)
        rw [← HRm.out] at h1
        exact h1.takeS 65535 (by rw [HRm.out]; omega))
      clear HO4 R4 H3
      go_wp2_with (at_builtin; refine app_o1 rfl (.tmp 26) (.tmp 29) rfl w _ _ rfl H5.out _ (R.take 65535) rfl HR5.out ?b4 ?_)
      case b4 => have := HCl.out; rw [HK.out]; simp only [List.length_append, bytesOf_length, List.length_cons]; omega
      intro v6 w6 H6
      have HF := hidden (show O1 w w6 v6 (stBy P (i + 1)) by
        have h := H6.out
        have e : C ++ ([0] ++ (bytesOf 65535 2 ++ (bytesOf x5 2 ++ R.take 65535))) = C ++ kB (decide (R.length ≤ 65535)) (R.take 65535) := by
          have := kB_eq 0 (decide (R.length ≤ 65535)) (by rw [HRm.out, decide_eq_false hsm]; rfl) C (R.take 65535) (by rw [HK.out]; omega)
          rw [HK.out, HX5.out.1] at this
          exact this
        rw [hSB.out, ← e]
        simpa [List.append_assoc] using h)
      clear H6 H5 HR5
      obtain ⟨g, off, hap⟩ := HRr.out.form (by intro e; have := HRm.out; rw [e] at this; simp at this; omega)
      subst hap
      have HD := hidden (HRN.out.1 (Nat.lt_of_not_le hsm))
      have HDR := hidden (show (P.drop (65535 * (i + 1))).length = m - 65535 ∧ Rd w (.slice (some ⟨g, off + 65535, none⟩) (m - 65535) (cp - 65535)) (P.drop (65535 * (i + 1))) by
        rw [HD.out.2]
        have h1 := HRr.out
        rw [← HRm.out] at h1
        have h2 := h1.dropS 65535 (by rw [HRm.out]; omega) (cp - 65535)
        rw [List.length_drop, HRm.out] at h2
        exact ⟨by rw [List.length_drop, HRm.out], h2⟩)
      have hmc2 : m - 65535 ≤ cp - 65535 := Nat.sub_le_sub_right hmc _
      go_wp2_with fail
      refine ⟨⟨i + 1, m - 65535, cp - 65535, some ⟨g, off + 65535, none⟩, rfl, hmc2, HD.out.1, hidden ⟨HDR.out.1, HDR.out.2, HF.out⟩⟩, ?_⟩
      show m - 65535 < m
      omega

end Go.Proofs.YtcgjmkcigmmjjaaGreatDoor

namespace Go.Proofs.YtcgjmkcigmmjjaaGreatDoor
open Go.RowKit
set_option maxRecDepth 100000
set_option linter.unusedVariables false
set_option maxHeartbeats 4000000 in
theorem stlaw_in (aa : Option Addr) (ca : Nat) (A : List Nat) (t : Nat) (w : World) (hT : TabD w) (hA : ∀ x ∈ A, x < 256) (ra : Rd w (.slice aa A.length ca) A) (hl : A.length ≤ 6000) (ht : t ≤ 12) :
    Calls Tryz.prog 4 #[.slice aa A.length ca, .int .i64 (t : Int)] w fun e w' => e = .returned (.bool true) ∧ Step (fun _ => False) w w' := by
  have HA := hidden ra
  have HA2 := hidden hA
  have HT := hidden hT
  have HE := hidden (O1.nil w)
  obtain ⟨m, hm⟩ : ∃ m, A.length = m := ⟨_, rfl⟩
  have Hm := hidden hm
  rw [hm] at hl HA ⊢
  have z1 : ¬ (6000 : Int) < (m : Int) := by omega
  have z2 : ¬ (t : Int) < 0 := by omega
  have z3 : ¬ (12 : Int) < (t : Int) := by omega
  clear hA ra hT hm
  go_enter Tryz.func4, Tryz.ntmps4
  go_wp2_with fail
  go_loopw [5, 6] (fun qv iv wr => ∃ (i : Nat) (Q : List Nat) (ao : Option Addr) (cap : Nat), iv = .int .i64 (i : Int) ∧ i ≤ t ∧ qv = .slice ao Q.length cap ∧ Hid (O1 w wr (.slice ao Q.length cap) Q ∧ (∀ x ∈ Q, x < 256) ∧ Q.length ≤ 146000)) (fun _ iv _ => t - (RowKit.intOf iv).toNat)
  case atStart => exact ⟨0, [], none, 0, rfl, Nat.zero_le _, rfl, hidden ⟨HE.out, ⟨fun x hx => absurd hx (by simp), Nat.zero_le _⟩⟩⟩
  case round =>
    obtain ⟨i, Q, ao, cap, rfl, hi, rfl, HQ⟩ := hrel
    have i0 : (0 : Int) ≤ (i : Int) := by omega
    by_cases hit : i < t
    · have z4 : (i : Int) < (t : Int) := by omega
      go_wp2_with fail
      go_loopw [5, 7] (fun qv kv wr => ∃ (k : Nat) (Q : List Nat) (ao : Option Addr) (cap : Nat), kv = .int .i64 (k : Int) ∧ k ≤ 20 ∧ qv = .slice ao Q.length cap ∧ Hid (O1 w wr (.slice ao Q.length cap) Q ∧ (∀ x ∈ Q, x < 256) ∧ Q.length ≤ 146000)) (fun _ kv _ => 20 - (RowKit.intOf kv).toNat)
      case atStart => exact ⟨0, Q, ao, cap, rfl, Nat.zero_le _, rfl, HQ⟩
      case round =>
        obtain ⟨k, Q2, ao2, cap2, rfl, hk, rfl, HQ2⟩ := hrel
        clear HQ
        have k0 : (0 : Int) ≤ (k : Int) := by omega
        obtain ⟨l, hl2⟩ : ∃ l, Q2.length = l := ⟨_, rfl⟩
        have Hl := hidden hl2
        have hlb := HQ2.out.2.2
        rw [hl2] at HQ2 hlb ⊢
        clear hl2
        by_cases hk2 : k < 20
        · have z5 : (k : Int) < 20 := by omega
          by_cases hq : l < 140000
          · have z6 : (l : Int) < 140000 := by omega
            go_wp2_with (at_builtin; refine app_o1 rfl (.tmp 33) (.tmp 34) rfl w _ Q2 rfl HQ2.out.1 _ A rfl (HA.out.step HQ2.out.1.st (fun _ _ _ _ _ q => q)) ?b1 ?_)
            case b1 => have := Hl.out; have := Hm.out; omega
            intro v3 w3 H3
            obtain ⟨ao3, cap3, e3, _, _⟩ := H3.out.form
            subst e3
            have HF := hidden (show O1 w w3 (.slice ao3 (Q2 ++ A).length cap3) (Q2 ++ A) ∧ (∀ x ∈ Q2 ++ A, x < 256) ∧ (Q2 ++ A).length ≤ 146000 from ⟨H3.out, fun z hz => by
              rcases List.mem_append.1 hz with hz | hz
              · exact HQ2.out.2.1 z hz
              · exact HA2.out z hz, by rw [List.length_append, Hl.out, Hm.out]; omega⟩)
            clear H3 HQ2
            go_wp2_with fail
            go_roundw
            case rel => exact ⟨k + 1, Q2 ++ A, ao3, cap3, by go_num, by omega, rfl, HF⟩
            case measure => simp [RowKit.intOf]; omega
          · have z6 : ¬ (l : Int) < 140000 := by omega
            go_wp2_with fail
            go_roundw
            case rel => exact ⟨i + 1, Q2, ao2, cap2, by go_num, by omega, by rw [Hl.out], by rw [Hl.out]; exact HQ2⟩
            case measure => simp [RowKit.intOf]; omega
        · have z5 : ¬ (k : Int) < 20 := by omega
          go_wp2_with fail
          go_roundw
          case rel => exact ⟨i + 1, Q2, ao2, cap2, by go_num, by omega, by rw [Hl.out], by rw [Hl.out]; exact HQ2⟩
          case measure => simp [RowKit.intOf]; omega
    · have z4 : ¬ ((i : Int) < (t : Int)) := by omega
      obtain ⟨HO, hP256, hP6⟩ := HQ.out
      obtain ⟨ao', cap', e, hcap, hrd⟩ := HO.form
      injection e with e1 _ e3
      subst e1
      subst e3
      have HS := hidden (fun wx (hx : Step (fun _ => False) wr wx) => dstored_any wx ao cap Q (hrd.step hx (fun _ _ _ _ _ q => q)) hcap hP256 (by omega))
      have HRS := hidden (fun wx (hx : Step (fun _ => False) wr wx) => rstored_all wx ao cap Q (hrd.step hx (fun _ _ _ _ _ q => q)) hcap (by omega))
      have HOB := hidden (outB_st Q hP256)
      have HLB := hidden (show (stBy Q (stB Q.length)).length ≤ 1000000 by
        have h1 := stBy_len Q (stB Q.length)
        have h2 : stB Q.length ≤ 3 := by unfold stB; omega
        omega)
      have HSt := hidden HO.st
      rw [HOB.out] at HS
      obtain ⟨Y, hY⟩ : ∃ Y, stBy Q (stB Q.length) = Y := ⟨_, rfl⟩
      obtain ⟨q, hq⟩ : ∃ q, Q.length = q := ⟨_, rfl⟩
      rw [hY] at HS HRS HLB
      rw [hq] at HS HRS ⊢
      obtain ⟨y, hy⟩ : ∃ y, Y.length = y := ⟨_, rfl⟩
      have Hy := hidden hy
      rw [hy] at HS
      clear HO hP256 hP6 hcap hrd HQ HOB hY hq hy
      go_wp2_with fail
      refine (HS.out _ (by first | exact Step.refl _ _ | exact (Step.refl _ _).drewN _)).mono ?_
      rintro e w4 ⟨a4, c4, rfl, R4⟩
      have HR4 := hidden R4.out.1
      have HS4 := hidden (show Step (fun _ => False) wr w4 from by first | exact R4.out.2.1 | exact ((Step.refl _ _).drewN _).made R4.out.2.1)
      clear R4
      go_wp2_with fail
      refine (HRS.out w4 HS4.out).mono ?_
      rintro e w5 ⟨v5, rfl, H5⟩
      obtain ⟨a5, c5, e5, _, hr5⟩ := H5.out.form
      subst e5
      have HS5 := hidden (HS4.out.made H5.out.st)
      have HSM := hidden (same_eq (.slice a4 y c4) (.slice a5 Y.length c5) Y w5 (HR4.out.step H5.out.st (fun _ _ _ _ _ q => q)) hr5 (by have := HLB.out; omega))
      rw [Hy.out] at HSM ⊢
      clear H5 hr5
      go_wp2_with fail
      refine HSM.out.mono ?_
      rintro e w6 ⟨rfl, S6⟩
      have HS6 := hidden (HSt.out.made (HS5.out.made S6.out))
      have HK := hidden (dknown_any w6 (HT.out.made HS6.out))
      go_wp2_with fail
      refine HK.out.mono ?_
      rintro e w7 ⟨rfl, S7⟩
      have HS7 := hidden (HS6.out.made S7)
      clear S7
      go_wp2
      go_ret
      exact ⟨rfl, HS7.out⟩

set_option maxHeartbeats 1000000 in
theorem stlaw_any (aa : Option Addr) (ca : Nat) (A : List Nat) (t : Int) (w : World) (hT : TabD w) (hA : ∀ x ∈ A, x < 256) (ra : Rd w (.slice aa A.length ca) A) (ma : A.length ≤ 140737488351232) :
    Calls Tryz.prog 4 #[.slice aa A.length ca, .int .i64 t] w fun e w' => e = .returned (.bool true) ∧ Step (fun _ => False) w w' := by
  by_cases hl : A.length ≤ 6000
  · by_cases h0 : 0 ≤ t
    · by_cases h1 : t ≤ 12
      · obtain ⟨k, rfl⟩ : ∃ k : Nat, t = (k : Int) := ⟨t.toNat, by omega⟩
        exact stlaw_in aa ca A k w hT hA ra hl (by omega)
      · generalize A.length = m at *
        have z1 : ¬ (6000 : Int) < (m : Int) := by omega
        have z2 : ¬ t < 0 := by omega
        have z3 : (12 : Int) < t := by omega
        clear ra
        go_enter Tryz.func4, Tryz.ntmps4
        go_wp2
        go_ret
        exact ⟨rfl, Step.refl _ _⟩
    · generalize A.length = m at *
      have z1 : ¬ (6000 : Int) < (m : Int) := by omega
      have z2 : t < 0 := by omega
      clear ra
      go_enter Tryz.func4, Tryz.ntmps4
      go_wp2
      go_ret
      exact ⟨rfl, Step.refl _ _⟩
  · generalize A.length = m at *
    have z1 : (6000 : Int) < (m : Int) := by omega
    clear ra
    go_enter Tryz.func4, Tryz.ntmps4
    go_wp2
    go_ret
    exact ⟨rfl, Step.refl _ _⟩

end Go.Proofs.YtcgjmkcigmmjjaaGreatDoor
