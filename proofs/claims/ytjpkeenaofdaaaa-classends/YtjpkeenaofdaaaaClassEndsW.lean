/-
  The walk of the law on the first and the last rune.
-/
import Derived.Test.YtjpkeenaofdaaaaCKnown
namespace Go.Proofs.Ytjpkeenaofdaaaa
open Go.RowKit Go.Lib

set_option maxHeartbeats 2000000 in
theorem classEnds_any (l : List UInt8) (w : World) (hl : l.length ≤ 140737488351232) :
    Calls Try.prog 4 #[str l] w fun e w' => e = .returned (.bool true) ∧ Step (fun _ => False) w w' := by
  obtain ⟨s, hs⟩ : ∃ s : ByteArray, s = ⟨l.toArray⟩ := ⟨_, rfl⟩
  have hsz : s.size = l.length := by rw [hs]; exact ba_size l
  by_cases hn : 3000 < l.length
  · have hz : (3000 : Int) < (s.size : Int) := by omega
    unfold str
    rw [← hs]
    clear hs hsz hl hn
    go_enter Try.func4, Try.ntmps4
    go_wp2
    go_ret
    exact ⟨rfl, Step.refl _ _⟩
  · have hz : ¬ ((3000 : Int) < (s.size : Int)) := by omega
    have H1 := hidden (fun wx => first_any l wx (by omega))
    have H2 := hidden (fun wx => pfirst_any l wx (by omega))
    have H3 := hidden (fun wx => last_any l wx (by omega))
    have H4 := hidden (fun wx => plast_any l wx (by omega))
    have E1 := hidden (fun wx => first_any [] wx (by decide))
    have E2 := hidden (fun wx => last_any [] wx (by decide))
    have HK := hidden (fun wx => known_any wx)
    have e1 : firstD [] = 10 := rfl
    have e2 : lastD [] = 10 := rfl
    rw [e1] at E1
    rw [e2] at E2
    unfold str at *
    rw [← hs] at *
    generalize firstD l = F at *
    generalize lastD l = L at *
    have hF : ((F : Int) == (F : Int)) = true := by simp
    have hL : ((L : Int) == (L : Int)) = true := by simp
    clear hs hsz hl hn e1 e2
    go_enter Try.func4, Try.ntmps4
    go_wp2_with fail
    refine Calls.mono (H1.out _) ?_
    rintro e w1 ⟨rfl, S1⟩
    have HS1 := hidden S1
    clear S1
    go_wp2_with fail
    refine Calls.mono (H2.out _) ?_
    rintro e w2 ⟨rfl, rfl⟩
    go_wp2_with fail
    refine Calls.mono (H3.out _) ?_
    rintro e w3 ⟨rfl, S1⟩
    have HS3 := hidden (HS1.out.made S1)
    clear S1
    go_wp2_with fail
    refine Calls.mono (H4.out _) ?_
    rintro e w4 ⟨rfl, S1⟩
    have HS4 := hidden (HS3.out.made S1)
    clear S1
    go_wp2_with fail
    refine Calls.mono (E1.out _) ?_
    rintro e w5 ⟨rfl, S1⟩
    have HS5 := hidden (HS4.out.made S1)
    clear S1
    go_wp2_with fail
    refine Calls.mono (E2.out _) ?_
    rintro e w6 ⟨rfl, S1⟩
    have HS6 := hidden (HS5.out.made S1)
    clear S1
    go_wp2_with fail
    refine Calls.mono (HK.out _) ?_
    rintro e w7 ⟨rfl, S1⟩
    have HS7 := hidden (HS6.out.made S1)
    clear S1
    go_wp2
    go_ret
    exact ⟨rfl, HS7.out⟩

end Go.Proofs.Ytjpkeenaofdaaaa
