/-
  What any text spells at its beginning: the code and the page say the same.
-/
import Derived.Test.YtmegfcgnemfjnaaDoorEPage3
import Derived.Test.YtmegfcgnemfjnaaDoorECode3
namespace Go.Proofs.YtmegfcgnemfjnaaDoor
open Go.RowKit Go.Lib

set_option maxHeartbeats 4000000 in
theorem law_at (l : List UInt8) (w : World) (T : EW w) :
    Calls Tryd.prog 3 #[str l] w fun e w' => e = .returned (.bool true) ∧ Step (fun _ => False) w w' := by
  obtain ⟨s, hs⟩ : ∃ s : ByteArray, s = ⟨l.toArray⟩ := ⟨_, rfl⟩
  have hsl : s.data.toList = l := by rw [hs]
  have hsz : s.size = l.length := by rw [hs]; exact ba_size l
  unfold str
  rw [← hs]
  have HS := hidden (Step.refl (fun _ => False) w)
  have TT := hidden T
  by_cases hl : l.length ≤ 1500
  · have z0 : ¬ ((1500 : Int) < (s.size : Int)) := by omega
    have hc := at_any s l hsl (by omega) w T
    have HP := hidden (fun wx => pat_any s l hsl (by omega) wx)
    rw [at_eq] at HP
    have HK := hidden (fun wx => eknown_any wx)
    unfold atT str at *
    generalize atC l = A at *
    obtain ⟨a, n⟩ := A
    dsimp only at *
    generalize (⟨a.toArray⟩ : ByteArray) = sa at *
    have HC := hidden hc
    clear hs hsl hsz hl T hc
    go_enter Tryd.func3, Tryd.ntmps3
    go_wp2_with fail
    refine Calls.mono (HC.out) ?_
    rintro e w1 ⟨rfl, S1⟩
    have HS1 := hidden S1
    clear S1
    go_wp2_with fail
    refine Calls.mono (HP.out _) ?_
    rintro e w2 ⟨rfl, S2⟩
    have HS2 := hidden (HS1.out.made S2)
    clear S2
    have HK2 := hidden (HK.out w2 (TT.out.step HS2.out))
    go_wp2_with fail
    refine Calls.mono (HK2.out) ?_
    rintro e w3 ⟨rfl, S3⟩
    have HS3 := hidden (HS2.out.made S3)
    clear S3
    go_wp2
    go_ret
    exact ⟨rfl, HS3.out⟩
  · have z0 : (1500 : Int) < (s.size : Int) := by omega
    clear hs hsl hsz hl T
    go_enter Tryd.func3, Tryd.ntmps3
    go_wp2
    go_ret
    exact ⟨rfl, HS.out⟩

end Go.Proofs.YtmegfcgnemfjnaaDoor
