/-
  The walk of the law on two texts side by side.
-/
import Derived.Test.YthomkgajilmphaaUPageV
import Derived.Test.YthomkgajilmphaaULinesW
import Derived.Test.YthomkgajilmphaaUApp
namespace Go.Proofs.Ythomkgajilmphaa
open Go.RowKit Go.Lib

set_option maxRecDepth 100000 in
set_option maxHeartbeats 2000000 in
theorem partsLaw_any (a b : List UInt8) (w : World) (hm : a.length ≤ 140737488351232) (hmb : b.length ≤ 140737488351232) :
    Calls Try.prog 5 #[str a, str b] w fun e w' => e = .returned (.bool true) ∧ Step (fun _ => False) w w' := by
  obtain ⟨sa, hsa⟩ : ∃ s : ByteArray, (⟨a.toArray⟩ : ByteArray) = s := ⟨_, rfl⟩
  obtain ⟨sb, hsb⟩ : ∃ s : ByteArray, (⟨b.toArray⟩ : ByteArray) = s := ⟨_, rfl⟩
  have hla : sa.size = a.length := by rw [← hsa]; exact ba_size a
  have hlb : sb.size = b.length := by rw [← hsb]; exact ba_size b
  have hda : sa.data.toList = a := by rw [← hsa]
  unfold str
  rw [hsa, hsb]
  have a0 : sa.size ≤ 140737488351232 := by omega
  have b0 : sb.size ≤ 140737488351232 := by omega
  by_cases h : a.length + b.length ≤ 3000
  · have g : ¬ ((3000 : Int) < (sa.size : Int) + (sb.size : Int)) := by omega
    have HV := hidden (pvalid_any sa a hda (by omega) w)
    by_cases hv : validD a = true
    · rw [hv] at HV
      obtain ⟨sx, hsx⟩ : ∃ s : ByteArray, (⟨(a ++ [10]).toArray⟩ : ByteArray) = s := ⟨_, rfl⟩
      obtain ⟨sy, hsy⟩ : ∃ s : ByteArray, (⟨(a ++ [10] ++ b).toArray⟩ : ByteArray) = s := ⟨_, rfl⟩
      obtain ⟨sz, hsz⟩ : ∃ s : ByteArray, (⟨(a ++ b).toArray⟩ : ByteArray) = s := ⟨_, rfl⟩
      have cx : sa ++ ⟨#[10]⟩ = sx := by rw [← hsa, ← hsx]; exact cat_str a [10]
      have cy : sx ++ sb = sy := by rw [← hsx, ← hsb, ← hsy]; exact cat_str (a ++ [10]) b
      have cz : sa ++ sb = sz := by rw [← hsa, ← hsb, ← hsz]; exact cat_str a b
      have sz1 : sx.size ≤ 3001 := by rw [← hsx, ba_size, List.length_append]; simp only [List.length_cons, List.length_nil]; omega
      have sz2 : sb.size ≤ 3000 := by omega
      have sz3 : sa.size ≤ 3000 := by omega
      have HLx := hidden (fun wx => lines_any (a ++ [10]) wx (by simp; omega))
      have HLb := hidden (fun wx => lines_any b wx (by omega))
      have HLy := hidden (fun wx => lines_any (a ++ [10] ++ b) wx (by simp; omega))
      have HCz := hidden (fun wx => count_any (a ++ b) wx (by simp; omega))
      have HCa := hidden (fun wx => count_any a wx (by omega))
      have HCb := hidden (fun wx => count_any b wx (by omega))
      unfold str at HLx HLb HLy HCz HCa HCb
      rw [hsx] at HLx
      rw [hsb] at HLb HCb
      rw [hsy] at HLy
      rw [hsz] at HCz
      rw [hsa] at HCa
      rw [runesD_append a b hv, List.length_append] at HCz
      have hla2 := runesD_length a
      have hlb2 := runesD_length b
      generalize (runesD a).length = na at *
      generalize (runesD b).length = nb at *
      have na0 : na ≤ 3000 := by omega
      have nb0 : nb ≤ 3000 := by omega
      have HRz := hidden (rep_conv (a ++ b) (by simp; omega))
      have HRa := hidden (rep_conv a (by omega))
      have HRb := hidden (rep_conv b (by omega))
      have kz := fun wx => run_bytes wx (a ++ b)
      have ka := fun wx => run_bytes wx a
      have kb := fun wx => run_bytes wx b
      unfold str at HRz HRa HRb kz ka kb
      rw [repair_append a b hv] at HRz
      simp only [hsz] at HRz kz
      simp only [hsa] at HRa ka
      simp only [hsb] at HRb kb
      obtain ⟨ra, hra⟩ : ∃ s : ByteArray, (⟨(repair a).toArray⟩ : ByteArray) = s := ⟨_, rfl⟩
      obtain ⟨rb, hrb⟩ : ∃ s : ByteArray, (⟨(repair b).toArray⟩ : ByteArray) = s := ⟨_, rfl⟩
      obtain ⟨rz, hrz⟩ : ∃ s : ByteArray, (⟨(repair a ++ repair b).toArray⟩ : ByteArray) = s := ⟨_, rfl⟩
      have sr1 : ra.size ≤ 12000 := by rw [← hra, ba_size]; have := repair_length a; omega
      have sr2 : rb.size ≤ 12000 := by rw [← hrb, ba_size]; have := repair_length b; omega
      have cr : ra ++ rb = rz := by rw [← hra, ← hrb, ← hrz]; exact cat_str _ _
      simp only [hra] at HRa
      simp only [hrb] at HRb
      simp only [hrz] at HRz
      obtain ⟨nz, hnz⟩ : ∃ n, (a ++ b).length = n := ⟨_, rfl⟩
      obtain ⟨ya, hya⟩ : ∃ n, a.length = n := ⟨_, rfl⟩
      obtain ⟨yb, hyb⟩ : ∃ n, b.length = n := ⟨_, rfl⟩
      simp only [hnz] at HRz kz
      simp only [hya] at HRa ka
      simp only [hyb] at HRb kb
      clear hnz hya hyb
      have HLen := hidden (And.intro (lnG_length (a ++ [10]) false []) (lnG_length b false []))
      have HPa := hidden (show linesD (a ++ [10] ++ b) = linesD (a ++ [10]) ++ linesD b by rw [← linesD_parts a b]; simp)
      have HH := hidden h
      have HHl := hidden (And.intro hla hlb)
      clear hla hlb
      clear hla2 hlb2 h hm hmb hsa hsb hsx hsy hsz hra hrb hrz hda hv
      go_enter Try.func5, Try.ntmps5
      go_wp2_with fail
      refine Calls.mono HV.out ?_
      rintro e w1 ⟨rfl, rfl⟩
      go_wp2_with fail
      refine Calls.mono (HLx.out _) ?_
      rintro e w1 ⟨v1, rfl, O1, S1⟩
      have HO1 := hidden O1
      have HS1 := hidden S1
      clear O1 S1
      go_wp2_with fail
      refine Calls.mono (HLb.out _) ?_
      rintro e w2 ⟨v2, rfl, O2, S2⟩
      have HO2 := hidden (And.intro (HO1.out.keep S2) (Ss.of_own O2.own))
      have HS2 := hidden (HS1.out.made S2)
      clear O2 S2
      have hn3 : (linesD (a ++ [10])).length + (linesD b).length ≤ 1000000 := by
        have h1 := HLen.out; have h2 := HH.out; unfold linesD; rw [List.length_append] at h1; simp only [List.length_cons, List.length_nil] at h1; omega
      go_wp2_with (at_builtin; refine wpList_append_ss rfl _ _ rfl _ _ _ rfl HO2.out.1.own _ _ rfl HO2.out.2 hn3 ?_)
      intro v3 w3 hown3 hgrow3 hb3
      have HO3 := hidden (Ss.of_own hown3)
      rw [← HPa.out] at HO3
      have HS3 := hidden (HS2.out.grown hgrow3 (fun k hk => .inr (HO2.out.1.new k hk)))
      clear hown3 hgrow3 hb3
      go_wp2_with fail
      refine Calls.mono (HLy.out _) ?_
      rintro e w4 ⟨v4, rfl, O4, S4⟩
      have HT := hidden (texts_any v4 v3 _ _ w4 (Ss.of_own O4.own) (HO3.out.step S4) (by rw [HPa.out, List.length_append]; omega))
      rw [decide_eq_true rfl] at HT
      have HS4 := hidden (HS3.out.made S4)
      clear O4 S4
      go_wp2_with fail
      refine Calls.mono HT.out ?_
      rintro e w5 ⟨rfl, q5, rfl⟩
      have HS5 := hidden (HS4.out.drewN q5)
      generalize w4.drewN q5 = w5 at *
      go_wp2_with fail
      refine Calls.mono (HCz.out _) ?_
      rintro e w6 ⟨rfl, S6⟩
      have HS6 := hidden (HS5.out.made S6)
      clear S6
      go_wp2_with fail
      refine Calls.mono (HCa.out _) ?_
      rintro e w7 ⟨rfl, S7⟩
      have HS7 := hidden (HS6.out.made S7)
      clear S7
      go_wp2_with fail
      refine Calls.mono (HCb.out _) ?_
      rintro e w8 ⟨rfl, S8⟩
      have HS8 := hidden (HS7.out.made S8)
      clear S8
      go_wp2_with fail
      refine Calls.mono (HRz.out _) ?_
      rintro e w9 ⟨rfl, S9⟩
      have HS9 := hidden (HS8.out.made S9)
      clear S9
      go_wp2_with fail
      refine Calls.mono (HRa.out _) ?_
      rintro e wA ⟨rfl, SA⟩
      have HSA := hidden (HS9.out.made SA)
      clear SA
      go_wp2_with fail
      refine Calls.mono (HRb.out _) ?_
      rintro e wB ⟨rfl, SB⟩
      have HSB := hidden (HSA.out.made SB)
      clear SB
      have HK := hidden (known_any wB)
      go_wp2_with fail
      refine Calls.mono HK.out ?_
      rintro e wC ⟨rfl, SC⟩
      have HSC := hidden (HSB.out.made SC)
      clear SC
      go_wp2
      go_ret
      exact ⟨rfl, HSC.out⟩
    · rw [Bool.eq_false_iff.2 hv] at HV
      clear hda hsa hsb hla hlb hv h hm hmb
      go_enter Try.func5, Try.ntmps5
      go_wp2_with fail
      refine Calls.mono HV.out ?_
      rintro e w1 ⟨rfl, rfl⟩
      go_wp2
      go_ret
      exact ⟨rfl, Step.refl _ _⟩
  · have g : (3000 : Int) < (sa.size : Int) + (sb.size : Int) := by omega
    clear hda hsa hsb hla hlb h hm hmb
    go_enter Try.func5, Try.ntmps5
    go_wp2
    go_ret
    exact ⟨rfl, Step.refl _ _⟩

end Go.Proofs.Ythomkgajilmphaa
