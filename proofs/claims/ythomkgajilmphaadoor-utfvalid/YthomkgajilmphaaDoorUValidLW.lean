/-
  The walk of the law on whether bytes are text.
-/
import Derived.Test.YthomkgajilmphaaDoorURepairsLW
import Derived.Deep.RegionHeld3
namespace Go.Proofs.YthomkgajilmphaaDoor
open Go.RowKit Go.Lib

set_option maxHeartbeats 4000000 in
theorem validLaw_any (ao : Option Addr) (c : Nat) (B : List Nat) (w : World) (hr : Rd w (.slice ao B.length c) B) (hB : ∀ x ∈ B, x < 256) (hc : B.length ≤ c) (hm : B.length ≤ 140737488351232) (hT : Lib.Utf8Tabs 0 1 w) :
    Calls Tryd.prog 4 #[.slice ao B.length c] w fun e w' => e = .returned (.bool true) ∧ Step (fun _ => False) w w' := by
  obtain ⟨l, hl, hll⟩ := bytes_of B hB
  obtain ⟨n, hn⟩ : ∃ n, B.length = n := ⟨_, rfl⟩
  by_cases h : n ≤ 3000
  · have g : ¬ ((3000 : Int) < (n : Int)) := by omega
    have HR := hidden (show ∀ wx, Step (fun _ => False) w wx → Rb wx (.slice ao n c) l by
      intro wx hs
      show Rd wx _ (l.map UInt8.toNat)
      rw [← hl, ← hn]
      exact hr.step hs (fun _ _ _ _ _ h => h))
    have HV := hidden (fun wx (hs : Step (fun _ => False) w wx) => uvalid_any ao n c l wx (by omega) (HR.out wx hs) (by omega) (by omega) (tabs_step hT hs))
    have HP := hidden (fun wx => pvalid_any (⟨l.toArray⟩ : ByteArray) l rfl (by omega) wx)
    have HC := hidden (fun wx => count_any l wx (by omega))
    have HQ := hidden (fun wx => prunes_any l wx (by omega))
    have Hcv := hidden (fun wx (hs : Step (fun _ => False) w wx) => conv_any (HR.out wx hs))
    have HK := hidden (fun wx => known_any wx)
    obtain ⟨V, hV⟩ : ∃ V, validD l = V := ⟨_, rfl⟩
    obtain ⟨sl, hsl⟩ : ∃ s : ByteArray, (⟨l.toArray⟩ : ByteArray) = s := ⟨_, rfl⟩
    obtain ⟨nr, hnr⟩ : ∃ n, (runesD l).length = n := ⟨_, rfl⟩
    unfold str at HC HQ Hcv
    simp only [hsl, hV, hnr] at HV HP HC HQ Hcv
    rw [hn]
    clear hl hr hB hT hsl hn hll hm hV hnr hc
    have hS0 := Step.refl (fun _ => False) w
    go_enter Tryd.func4, Tryd.ntmps4
    have hcv := fun wx hs => Hcv.out wx hs
    go_wp2_with fail
    go_region_held3 (fun wx => Step (fun _ => False) w wx) (first | assumption | (apply Step.drew; assumption)) (first
      | (go_at_call 10; refine (HV.out _ (by assumption)).mono ?_; rintro e w' ⟨rfl, hs⟩; have hs' := Step.made (by assumption) hs; clear hs)
      | (go_at_call 12; refine (HP.out _).mono ?_; rintro e w' ⟨rfl, rfl⟩)
      | (go_at_call 13; refine (HC.out _).mono ?_; rintro e w' ⟨rfl, hs⟩; have hs' := Step.made (by assumption) hs; clear hs)
      | (go_at_call 14; refine (HQ.out _).mono ?_; rintro e w' ⟨ax, cx, rfl, hs⟩; have hs' := Step.made (by assumption) hs; clear hs)
      | (go_at_call 11; refine (HK.out _).mono ?_; rintro e w' ⟨rfl, hs⟩; have hs' := Step.made (by assumption) hs; clear hs))
    all_goals (go_wp2; go_ret; exact ⟨rfl, by assumption⟩)
  · have g : (3000 : Int) < (n : Int) := by omega
    rw [hn]
    clear hl hr hB hT hm hn hll h hc
    go_enter Tryd.func4, Tryd.ntmps4
    go_wp2
    go_ret
    exact ⟨rfl, Step.refl _ _⟩

end Go.Proofs.YthomkgajilmphaaDoor
