/-
  The walk of the law on a rune's bytes.
-/
import Derived.Test.YthomkgajilmphaaDoorULawV
import Derived.Test.YthomkgajilmphaaDoorUPageQ
namespace Go.Proofs.YthomkgajilmphaaDoor
open Go.RowKit Go.Lib

theorem cut_short (a : UInt8) (t : List UInt8) (h : decodeL (a :: t) = (65533, 1)) : validD (a :: t) = false := by
  rw [validD_step _ (by simp), h]
  simp
/-- A rune's bytes without the last one are none, if there is any left. -/
theorem cut_bad (q : Nat) (hq : okR q) : validD ((encodeRune (q : Int)).take ((encodeRune (q : Int)).length - 1)) = decide ((encodeRune (q : Int)).length - 1 = 0) := by
  have hq' := hq
  unfold okR at hq'
  by_cases h1 : q < 128
  · rw [enc1 q h1]; rfl
  by_cases h2 : q < 2048
  · rw [enc2 q (by omega) h2]
    refine cut_short _ [] ?_
    have e : bN [(192 + q / 64).toUInt8] 0 = 192 + q / 64 := n8 _ (by omega)
    rw [dec2 _ (by rw [e]; omega), if_neg]
    simp
  by_cases h3 : q < 65536
  · rw [enc3 q (by omega) h3 hq]
    refine cut_short _ [_] ?_
    have e : bN [(224 + q / 4096).toUInt8, (128 + q / 64 % 64).toUInt8] 0 = 224 + q / 4096 := n8 _ (by omega)
    rw [dec3 _ (by rw [e]; omega), if_neg]
    simp
  · rw [enc4 q (by omega) (by omega)]
    refine cut_short _ [_, _] ?_
    have e : bN [(240 + q / 262144).toUInt8, (128 + q / 4096 % 64).toUInt8, (128 + q / 64 % 64).toUInt8] 0 = 240 + q / 262144 := n8 _ (by omega)
    rw [dec4 _ (by rw [e]; omega), if_neg]
    simp

/-- What any number is as a rune. -/
theorem enc_q (r : Int) : ∃ q, okR q ∧ encodeRune r = encodeRune ((q : Nat) : Int) ∧ (r = 0 → q = 0) ∧ (r ≠ 0 → q ≠ 0) := by
  by_cases hr : 0 ≤ r ∧ (r < 55296 ∨ (57344 ≤ r ∧ r ≤ 1114111))
  · refine ⟨r.toNat, by unfold okR; omega, ?_, by omega, by omega⟩
    rw [show ((r.toNat : Nat) : Int) = r by omega]
  · refine ⟨65533, by unfold okR; omega, ?_, by omega, by omega⟩
    unfold encodeRune
    rw [encodeRuneZ_bad (by omega)]
    rfl

set_option maxHeartbeats 4000000 in
theorem runesLaw_any (r : Int) (w : World) (h0 : -2147483648 ≤ r) (h1 : r ≤ 2147483647) (hT : Lib.Utf8Tabs 0 1 w) :
    Calls Tryd.prog 5 #[.int .i32 r] w fun e w' => e = .returned (.bool true) ∧ Step (fun _ => False) w w' := by
  obtain ⟨q, hq, he, hq0, hq1⟩ := enc_q r
  have HE := hidden (pencode_any r h0 h1 w)
  rw [he] at HE
  have hl := enc_len q
  have hv := validD_enc q hq []
  have hru := runesD_enc q hq []
  have hre := repair_enc q hq []
  have hcut := cut_bad q hq
  rw [List.append_nil] at hv hru hre
  rw [validD_nil] at hv
  rw [runesD_nil] at hru
  rw [repair_nil, List.append_nil] at hre
  obtain ⟨E, hE⟩ : ∃ E, encodeRune ((q : Nat) : Int) = E := ⟨_, rfl⟩
  rw [hE] at HE hl hv hru hre hcut
  obtain ⟨sE, hsE⟩ : ∃ s : ByteArray, (⟨E.toArray⟩ : ByteArray) = s := ⟨_, rfl⟩
  obtain ⟨m, hm⟩ : ∃ m, E.length - 1 = m := ⟨_, rfl⟩
  rw [hm] at hcut
  obtain ⟨C, hC⟩ : ∃ C, E.take m = C := ⟨_, rfl⟩
  rw [hC] at hcut
  have hCl : C.length = m := by rw [← hC, List.length_take]; omega
  obtain ⟨sC, hsC⟩ : ∃ s : ByteArray, (⟨C.toArray⟩ : ByteArray) = s := ⟨_, rfl⟩
  have hsz : sE.size = E.length := by rw [← hsE]; exact ba_size E
  have hex : sE.extract 0 m = sC := by
    rw [ext_seg sE E (by rw [← hsE]) 0 m (by omega), ← hsC]
    unfold seg
    rw [List.drop_zero, Nat.sub_zero, hC]
  have Henc := hidden (show (⟨(encodeRune ((q : Nat) : Int)).toArray⟩ : ByteArray) = sE by rw [hE]; exact hsE)
  have kE := fun wx => run_bytes wx E
  have kC := fun wx => run_bytes wx C
  have HvE := hidden (fun wx hT => valid_conv E (by omega) wx hT)
  have HcE := hidden (fun wx => count_any E wx (by omega))
  have HrE := hidden (rep_conv E (by omega))
  rw [hv] at HvE
  rw [hru] at HcE
  rw [hre] at HrE
  obtain ⟨nE, hnE⟩ : ∃ n, E.length = n := ⟨_, rfl⟩
  unfold str at HE kE kC HcE HrE
  simp only [hsE, hnE] at HE kE HvE HcE HrE
  simp only [hsC, hCl] at kC
  have ez : (nE : Int) - 1 = (m : Int) := by omega
  have nz : (m : Int) ≤ (nE : Int) := by omega
  have m0 : (0 : Int) ≤ (m : Int) := by omega
  rw [hnE] at hsz
  have HC := hidden (And.intro hCl hsC)
  have HT := hidden hT
  have hm4 : m ≤ 3 := by omega
  have Hm4 := hidden hm4
  have Hcut := hidden hcut
  have Hsz := hidden hsz
  have mz : (m : Int) ≤ (sE.size : Int) := by omega
  clear hE hl hv hru hre hcut hC hCl hnE hm he hsE hsC hT
  by_cases hr0 : r = 0
  · have hq2 := hq0 hr0
    subst hr0
    subst hq2
    have hw : (⟨(encodeRune ((repN 0 : Nat) : Int)).toArray⟩ : ByteArray) = ⟨#[239, 191, 189]⟩ := by decide +kernel
    simp only [hw] at HrE
    clear hq hq0 hq1 hw h0 h1
    go_enter Tryd.func5, Tryd.ntmps5
    go_wp2_with fail
    refine Calls.mono HE.out ?_
    rintro e w1 ⟨rfl, S1⟩
    have HSA := hidden (S1.made (bytes_step w1 sC))
    have HCR := hidden (show Rb (Lib.bytesWorld w1 5 sC) (.slice (some ⟨w1.heap.size, 0, none⟩) m (grownCap w1 m 0 5)) C by
      have := bytes_rb w1 C (grownCap w1 m 0 5)
      rw [HC.out.1, HC.out.2] at this
      exact this)
    have HG := hidden (grownCap_ge w1 m 0 5)
    clear S1
    go_wp2_with fail
    refine Calls.mono (HvE.out _ (tabs_step HT.out HSA.out)) ?_
    rintro e w2 ⟨rfl, S2⟩
    have HS2 := hidden (HSA.out.made S2)
    have HCR2 := hidden (HCR.out.step S2 (fun _ _ _ _ _ h => h))
    generalize grownCap w1 m 0 5 = gc at *
    generalize w1.heap.size = kb at *
    clear S2 HCR HSA
    go_wp2_with fail
    refine Calls.mono (HcE.out _) ?_
    rintro e w3 ⟨rfl, S3⟩
    have HS3 := hidden (HS2.out.made S3)
    have HCR3 := hidden (HCR2.out.step S3 (fun _ _ _ _ _ h => h))
    clear S3
    go_wp2_with fail
    refine Calls.mono (HrE.out _) ?_
    rintro e w4 ⟨rfl, S4⟩
    have HS4 := hidden (HS3.out.made S4)
    have HV := hidden (uvalid_any _ m gc C w4 HC.out.1 (HCR3.out.step S4 (fun _ _ _ _ _ h => h)) HG.out (by have := Hm4.out; omega) (tabs_step HT.out (HS3.out.made S4)))
    rw [Hcut.out] at HV
    clear S4
    go_wp2_with fail
    refine Calls.mono HV.out ?_
    rintro e w5 ⟨rfl, S5⟩
    have HS5 := hidden (HS4.out.made S5)
    have HK := hidden (known_any w5)
    have hdd : (decide (m = 0) == decide ((m : Int) = 0)) = true := by
      by_cases h : m = 0 <;> simp [h]
    have hdd2 : (decide (m = 0) == ((m : Int) == 0)) = true := by
      by_cases h : m = 0 <;> simp [h]
    clear S5
    go_wp2_with fail
    refine Calls.mono HK.out ?_
    rintro e w6 ⟨rfl, S6⟩
    have HS6 := hidden (HS5.out.made S6)
    clear S6
    go_wp2
    go_ret
    exact ⟨rfl, HS6.out⟩
  · have hq2 := hq1 hr0
    have hrq : repN q = q := by unfold repN; rw [if_neg hq2]
    rw [hrq] at HrE
    have g0 : (r == 0) = false := by simp [hr0]
    have HrE2 := hidden (show ∀ wx, Calls Tryd.prog 7 #[.slice (some ⟨wx.heap.size, 0, none⟩) nE (grownCap wx nE 0 5)] (Lib.bytesWorld wx 5 sE) fun e w' => e = .returned (.string sE) ∧ Step (fun _ => False) wx w' by
      intro wx
      have := HrE.out wx
      rw [Henc.out] at this
      exact this)
    clear HrE
    have HrE := HrE2
    clear HrE2 hq hq0 hq1 hr0 hq2 hrq h0 h1
    go_enter Tryd.func5, Tryd.ntmps5
    go_wp2_with fail
    refine Calls.mono HE.out ?_
    rintro e w1 ⟨rfl, S1⟩
    have HSA := hidden (S1.made (bytes_step w1 sC))
    have HCR := hidden (show Rb (Lib.bytesWorld w1 5 sC) (.slice (some ⟨w1.heap.size, 0, none⟩) m (grownCap w1 m 0 5)) C by
      have := bytes_rb w1 C (grownCap w1 m 0 5)
      rw [HC.out.1, HC.out.2] at this
      exact this)
    have HG := hidden (grownCap_ge w1 m 0 5)
    clear S1
    go_wp2_with fail
    refine Calls.mono (HvE.out _ (tabs_step HT.out HSA.out)) ?_
    rintro e w2 ⟨rfl, S2⟩
    have HS2 := hidden (HSA.out.made S2)
    have HCR2 := hidden (HCR.out.step S2 (fun _ _ _ _ _ h => h))
    generalize grownCap w1 m 0 5 = gc at *
    generalize w1.heap.size = kb at *
    clear S2 HCR HSA
    go_wp2_with fail
    refine Calls.mono (HcE.out _) ?_
    rintro e w3 ⟨rfl, S3⟩
    have HS3 := hidden (HS2.out.made S3)
    have HCR3 := hidden (HCR2.out.step S3 (fun _ _ _ _ _ h => h))
    clear S3
    go_wp2_with fail
    refine Calls.mono (HrE.out _) ?_
    rintro e w4 ⟨rfl, S4⟩
    have HS4 := hidden (HS3.out.made S4)
    have HV := hidden (uvalid_any _ m gc C w4 HC.out.1 (HCR3.out.step S4 (fun _ _ _ _ _ h => h)) HG.out (by have := Hm4.out; omega) (tabs_step HT.out (HS3.out.made S4)))
    rw [Hcut.out] at HV
    clear S4
    go_wp2_with fail
    refine Calls.mono HV.out ?_
    rintro e w5 ⟨rfl, S5⟩
    have HS5 := hidden (HS4.out.made S5)
    have HK := hidden (known_any w5)
    have hdd : (decide (m = 0) == decide ((m : Int) = 0)) = true := by
      by_cases h : m = 0 <;> simp [h]
    have hdd2 : (decide (m = 0) == ((m : Int) == 0)) = true := by
      by_cases h : m = 0 <;> simp [h]
    clear S5
    go_wp2_with fail
    refine Calls.mono HK.out ?_
    rintro e w6 ⟨rfl, S6⟩
    have HS6 := hidden (HS5.out.made S6)
    clear S6
    go_wp2
    go_ret
    exact ⟨rfl, HS6.out⟩

end Go.Proofs.YthomkgajilmphaaDoor
