/-
  The walk of the law on kinds.
-/
import Derived.Test.YtjpkeenaofdaaaaCKnown
namespace Go.Proofs.Ytjpkeenaofdaaaa
open Go.RowKit

set_option maxHeartbeats 2000000 in
theorem classOf_any (r c : Int) (w : World) (h0 : 0 ≤ c) (h1 : c < 256) :
    Calls Try.prog 3 #[.int .i32 r, .int .u8 c] w fun e w' => e = .returned (.bool true) ∧ Step (fun _ => False) w w' := by
  have HB := hidden (fun wx => blank_any r wx)
  have HB2 := hidden (fun wx => pblank_any r wx)
  have HP := hidden (fun wx => punct_any r wx)
  have HP2 := hidden (fun wx => ppunct_any r wx)
  have HS := hidden (fun wx => sign_any c h0 h1 wx)
  have HS2 := hidden (fun wx => psign_any c h0 h1 wx)
  have HA := apart r
  obtain ⟨b, hb⟩ : ∃ b, blankB r = b := ⟨_, rfl⟩
  obtain ⟨p, hp⟩ : ∃ p, punctB r = p := ⟨_, rfl⟩
  obtain ⟨s, hs⟩ : ∃ s, signB c = s := ⟨_, rfl⟩
  rw [hb] at HB HB2 HA
  rw [hp] at HP HP2 HA
  rw [hs] at HS HS2
  have HK := hidden (fun wx => known_any wx)
  clear hb hp hs
  cases b with
  | true =>
    have hpf := HA rfl
    subst hpf
    clear HA
    cases s
    · go_enter Try.func3, Try.ntmps3
      go_wp2_with fail
      refine Calls.mono (HB.out _) ?_
      rintro e w1 ⟨rfl, rfl⟩
      go_wp2_with fail
      refine Calls.mono (HB2.out _) ?_
      rintro e w2 ⟨rfl, rfl⟩
      go_wp2_with fail
      refine Calls.mono (HP.out _) ?_
      rintro e w3 ⟨rfl, rfl⟩
      go_wp2_with fail
      refine Calls.mono (HP2.out _) ?_
      rintro e w4 ⟨rfl, rfl⟩
      go_wp2_with fail
      refine Calls.mono (HS.out _) ?_
      rintro e w5 ⟨rfl, rfl⟩
      go_wp2_with fail
      refine Calls.mono (HS2.out _) ?_
      rintro e w6 ⟨rfl, rfl⟩
      go_wp2_with fail
      refine Calls.mono (HB.out _) ?_
      rintro e w7 ⟨rfl, rfl⟩
      go_wp2_with fail
      refine Calls.mono (HP.out _) ?_
      rintro e w8 ⟨rfl, rfl⟩
      go_wp2_with fail
      refine Calls.mono (HK.out _) ?_
      rintro e w9 ⟨rfl, S1⟩
      have HSS := hidden S1
      clear S1
      go_wp2
      go_ret
      exact ⟨rfl, HSS.out⟩
    · go_enter Try.func3, Try.ntmps3
      go_wp2_with fail
      refine Calls.mono (HB.out _) ?_
      rintro e w1 ⟨rfl, rfl⟩
      go_wp2_with fail
      refine Calls.mono (HB2.out _) ?_
      rintro e w2 ⟨rfl, rfl⟩
      go_wp2_with fail
      refine Calls.mono (HP.out _) ?_
      rintro e w3 ⟨rfl, rfl⟩
      go_wp2_with fail
      refine Calls.mono (HP2.out _) ?_
      rintro e w4 ⟨rfl, rfl⟩
      go_wp2_with fail
      refine Calls.mono (HS.out _) ?_
      rintro e w5 ⟨rfl, rfl⟩
      go_wp2_with fail
      refine Calls.mono (HS2.out _) ?_
      rintro e w6 ⟨rfl, rfl⟩
      go_wp2_with fail
      refine Calls.mono (HB.out _) ?_
      rintro e w7 ⟨rfl, rfl⟩
      go_wp2_with fail
      refine Calls.mono (HP.out _) ?_
      rintro e w8 ⟨rfl, rfl⟩
      go_wp2_with fail
      refine Calls.mono (HK.out _) ?_
      rintro e w9 ⟨rfl, S1⟩
      have HSS := hidden S1
      clear S1
      go_wp2
      go_ret
      exact ⟨rfl, HSS.out⟩
  | false =>
    clear HA
    cases p <;> cases s
    · go_enter Try.func3, Try.ntmps3
      go_wp2_with fail
      refine Calls.mono (HB.out _) ?_
      rintro e w1 ⟨rfl, rfl⟩
      go_wp2_with fail
      refine Calls.mono (HB2.out _) ?_
      rintro e w2 ⟨rfl, rfl⟩
      go_wp2_with fail
      refine Calls.mono (HP.out _) ?_
      rintro e w3 ⟨rfl, rfl⟩
      go_wp2_with fail
      refine Calls.mono (HP2.out _) ?_
      rintro e w4 ⟨rfl, rfl⟩
      go_wp2_with fail
      refine Calls.mono (HS.out _) ?_
      rintro e w5 ⟨rfl, rfl⟩
      go_wp2_with fail
      refine Calls.mono (HS2.out _) ?_
      rintro e w6 ⟨rfl, rfl⟩
      go_wp2_with fail
      refine Calls.mono (HB.out _) ?_
      rintro e w7 ⟨rfl, rfl⟩
      go_wp2_with fail
      refine Calls.mono (HK.out _) ?_
      rintro e w8 ⟨rfl, S1⟩
      have HSS := hidden S1
      clear S1
      go_wp2
      go_ret
      exact ⟨rfl, HSS.out⟩
    · go_enter Try.func3, Try.ntmps3
      go_wp2_with fail
      refine Calls.mono (HB.out _) ?_
      rintro e w1 ⟨rfl, rfl⟩
      go_wp2_with fail
      refine Calls.mono (HB2.out _) ?_
      rintro e w2 ⟨rfl, rfl⟩
      go_wp2_with fail
      refine Calls.mono (HP.out _) ?_
      rintro e w3 ⟨rfl, rfl⟩
      go_wp2_with fail
      refine Calls.mono (HP2.out _) ?_
      rintro e w4 ⟨rfl, rfl⟩
      go_wp2_with fail
      refine Calls.mono (HS.out _) ?_
      rintro e w5 ⟨rfl, rfl⟩
      go_wp2_with fail
      refine Calls.mono (HS2.out _) ?_
      rintro e w6 ⟨rfl, rfl⟩
      go_wp2_with fail
      refine Calls.mono (HB.out _) ?_
      rintro e w7 ⟨rfl, rfl⟩
      go_wp2_with fail
      refine Calls.mono (HK.out _) ?_
      rintro e w8 ⟨rfl, S1⟩
      have HSS := hidden S1
      clear S1
      go_wp2
      go_ret
      exact ⟨rfl, HSS.out⟩
    · go_enter Try.func3, Try.ntmps3
      go_wp2_with fail
      refine Calls.mono (HB.out _) ?_
      rintro e w1 ⟨rfl, rfl⟩
      go_wp2_with fail
      refine Calls.mono (HB2.out _) ?_
      rintro e w2 ⟨rfl, rfl⟩
      go_wp2_with fail
      refine Calls.mono (HP.out _) ?_
      rintro e w3 ⟨rfl, rfl⟩
      go_wp2_with fail
      refine Calls.mono (HP2.out _) ?_
      rintro e w4 ⟨rfl, rfl⟩
      go_wp2_with fail
      refine Calls.mono (HS.out _) ?_
      rintro e w5 ⟨rfl, rfl⟩
      go_wp2_with fail
      refine Calls.mono (HS2.out _) ?_
      rintro e w6 ⟨rfl, rfl⟩
      go_wp2_with fail
      refine Calls.mono (HB.out _) ?_
      rintro e w7 ⟨rfl, rfl⟩
      go_wp2_with fail
      refine Calls.mono (HK.out _) ?_
      rintro e w8 ⟨rfl, S1⟩
      have HSS := hidden S1
      clear S1
      go_wp2
      go_ret
      exact ⟨rfl, HSS.out⟩
    · go_enter Try.func3, Try.ntmps3
      go_wp2_with fail
      refine Calls.mono (HB.out _) ?_
      rintro e w1 ⟨rfl, rfl⟩
      go_wp2_with fail
      refine Calls.mono (HB2.out _) ?_
      rintro e w2 ⟨rfl, rfl⟩
      go_wp2_with fail
      refine Calls.mono (HP.out _) ?_
      rintro e w3 ⟨rfl, rfl⟩
      go_wp2_with fail
      refine Calls.mono (HP2.out _) ?_
      rintro e w4 ⟨rfl, rfl⟩
      go_wp2_with fail
      refine Calls.mono (HS.out _) ?_
      rintro e w5 ⟨rfl, rfl⟩
      go_wp2_with fail
      refine Calls.mono (HS2.out _) ?_
      rintro e w6 ⟨rfl, rfl⟩
      go_wp2_with fail
      refine Calls.mono (HB.out _) ?_
      rintro e w7 ⟨rfl, rfl⟩
      go_wp2_with fail
      refine Calls.mono (HK.out _) ?_
      rintro e w8 ⟨rfl, S1⟩
      have HSS := hidden S1
      clear S1
      go_wp2
      go_ret
      exact ⟨rfl, HSS.out⟩

end Go.Proofs.Ytjpkeenaofdaaaa
