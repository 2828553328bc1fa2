/-
  The walk of the law on bytes repaired.
-/
import Derived.Test.YthomkgajilmphaaDoorULawV
import Derived.Test.YthomkgajilmphaaDoorUPageQ
import Derived.Test.YthomkgajilmphaaDoorLRoomM
namespace Go.Proofs.YthomkgajilmphaaDoor
open Go.RowKit Go.Lib

/-- Numbers below 256 are bytes. -/
theorem bytes_of (B : List Nat) (hB : ∀ x ∈ B, x < 256) : ∃ l : List UInt8, B = l.map UInt8.toNat ∧ l.length = B.length := by
  refine ⟨B.map Nat.toUInt8, ?_, by simp⟩
  rw [List.map_map]
  symm
  rw [List.map_congr_left (g := id)]
  · simp
  · intro x hx
    exact n8 x (hB x hx)

set_option maxHeartbeats 2000000 in
theorem repairsLaw_any (ao : Option Addr) (c : Nat) (B : List Nat) (w : World) (hr : Rd w (.slice ao B.length c) B) (hB : ∀ x ∈ B, x < 256) (hm : B.length ≤ 140737488351232) (hT : Lib.Utf8Tabs 0 1 w) :
    Calls Tryd.prog 3 #[.slice ao B.length c] w fun e w' => e = .returned (.bool true) ∧ Step (fun _ => False) w w' := by
  obtain ⟨l, hl, hll⟩ := bytes_of B hB
  obtain ⟨n, hn⟩ : ∃ n, B.length = n := ⟨_, rfl⟩
  by_cases h : n ≤ 3000
  · have g : ¬ ((3000 : Int) < (n : Int)) := by omega
    have Hl := hidden hl
    have HR := hidden hr
    have HT := hidden hT
    have HM := hidden (roomy_any (.slice ao B.length c) B w hr (by omega))
    have hrl := repair_length l
    have HPr := hidden (fun wx => prepair_any l wx (by omega))
    have HR2 := hidden (rep_conv (repair l) (by omega))
    have kz := fun wx => run_bytes wx (repair l)
    have HV2 := hidden (fun wx hT => valid_conv (repair l) (by omega) wx hT)
    rw [repair_repair] at HR2
    rw [repair_valid] at HV2
    obtain ⟨sr, hsr⟩ : ∃ s : ByteArray, (⟨(repair l).toArray⟩ : ByteArray) = s := ⟨_, rfl⟩
    obtain ⟨nr, hnr⟩ : ∃ n, (repair l).length = n := ⟨_, rfl⟩
    obtain ⟨sl, hsl⟩ : ∃ s : ByteArray, (⟨l.toArray⟩ : ByteArray) = s := ⟨_, rfl⟩
    unfold str at HPr HR2 kz
    simp only [hsr, hnr, hsl] at HPr HR2 kz HV2
    have Hsr := hidden hsr
    have Hsl := hidden hsl
    have Hn := hidden hn
    have Hll := hidden hll
    rw [hn] at HM HR ⊢
    clear hl hr hB hT hsr hnr hsl hn hll hrl hm
    go_enter Tryd.func3, Tryd.ntmps3
    go_wp2_with fail
    refine Calls.mono HM.out ?_
    rintro e w1 ⟨g1, cap1, rfl, R1, hg1, S1⟩
    have hroom : n + 2 ≤ cap1 := by have := R1.room; have := Hn.out; omega
    have HRm := hidden R1
    have HS1 := hidden S1
    have HRp := hidden (repair_any (.slice (some ⟨g1, 0, none⟩) n cap1) l w1 (by have := R1.rd; rw [Hn.out] at this; show Rd w1 _ (l.map UInt8.toNat); rw [← Hl.out]; exact this) (by have := Hll.out; have := Hn.out; omega))
    unfold str at HRp
    rw [Hsr.out] at HRp
    clear R1 hg1 S1
    go_wp2_with fail
    refine Calls.mono HRp.out ?_
    rintro e w2 ⟨rfl, S2⟩
    have HS2 := hidden (HS1.out.made S2)
    have HRm2 := hidden (HRm.out.step S2 (fun h => h))
    clear S2
    have hcv := conv_any (l := l) (w := w2) (v := .slice ao n c) (by show Rd w2 _ (l.map UInt8.toNat); rw [← Hl.out]; exact HR.out.step HS2.out (fun _ _ _ _ _ h => h))
    unfold str at hcv
    rw [Hsl.out] at hcv
    go_wp2_with fail
    refine Calls.mono (HPr.out _) ?_
    rintro e w3 ⟨rfl, S3⟩
    have HS3 := hidden (HS2.out.made S3)
    have HSt := hidden (stands_any g1 cap1 (.slice ao n c) B w3 (HRm2.out.step S3 (fun h => h)) (HR.out.step (HS2.out.made S3) (fun _ _ _ _ _ h => h)) (by have := Hn.out; omega))
    rw [Hn.out] at HSt
    clear S3
    go_wp2_with fail
    refine Calls.mono HSt.out ?_
    rintro e w4 ⟨rfl, q4, rfl⟩
    have HS4 := hidden (HS3.out.drewN q4)
    generalize w3.drewN q4 = w4 at *
    go_wp2_with fail
    refine Calls.mono (HR2.out _) ?_
    rintro e w5 ⟨rfl, S5⟩
    have HS5 := hidden (HS4.out.made S5)
    clear S5
    go_wp2_with fail
    refine Calls.mono (HV2.out _ (tabs_step HT.out HS5.out)) ?_
    rintro e w6 ⟨rfl, S6⟩
    have HS6 := hidden (HS5.out.made S6)
    clear S6
    have HK := hidden (known_any w6)
    go_wp2_with fail
    refine Calls.mono HK.out ?_
    rintro e w7 ⟨rfl, S7⟩
    have HS7 := hidden (HS6.out.made S7)
    clear S7
    go_wp2
    go_ret
    exact ⟨rfl, HS7.out⟩
  · have g : (3000 : Int) < (n : Int) := by omega
    rw [hn]
    clear hl hr hB hT hm hn hll h
    go_enter Tryd.func3, Tryd.ntmps3
    go_wp2
    go_ret
    exact ⟨rfl, Step.refl _ _⟩

end Go.Proofs.YthomkgajilmphaaDoor
