/-
  The walk of the law on the signs of ASCII.
-/
import Derived.Test.YtjpkeenaofdaaaaCKnown
namespace Go.Proofs.Ytjpkeenaofdaaaa
open Go.RowKit

set_option maxHeartbeats 8000000 in
theorem classSigns_any (c : Int) (w : World) (h0 : 0 ≤ c) (h1 : c < 256) :
    Calls Try.prog 5 #[.int .u8 c] w fun e w' => e = .returned (.bool true) ∧ Step (fun _ => False) w w' := by
  have HS := hidden (fun wx => sign_any c h0 h1 wx)
  have HP := hidden (fun wx => punct_any c wx)
  have HK := hidden (fun wx => known_any wx)
  have hwr : IntKind.i32.wrap c = c := by simp [IntKind.wrap, IntKind.bits, IntKind.signed]; omega
  rcases (by omega : (0 ≤ c ∧ c ≤ 32) ∨ (33 ≤ c ∧ c ≤ 47) ∨ (48 ≤ c ∧ c ≤ 57) ∨ (58 ≤ c ∧ c ≤ 64) ∨ (65 ≤ c ∧ c ≤ 90) ∨ (91 ≤ c ∧ c ≤ 96) ∨ (97 ≤ c ∧ c ≤ 122) ∨ (123 ≤ c ∧ c ≤ 126) ∨ (127 ≤ c ∧ c ≤ 127) ∨ (128 ≤ c ∧ c ≤ 255)) with ⟨g0, g1⟩ | ⟨g0, g1⟩ | ⟨g0, g1⟩ | ⟨g0, g1⟩ | ⟨g0, g1⟩ | ⟨g0, g1⟩ | ⟨g0, g1⟩ | ⟨g0, g1⟩ | ⟨g0, g1⟩ | ⟨g0, g1⟩
  · have hb : signB c = false := by
      unfold signB
      rw [show inB c 33 47 = false from inB_false.2 (by omega), show inB c 58 64 = false from inB_false.2 (by omega), show inB c 91 96 = false from inB_false.2 (by omega), show inB c 123 126 = false from inB_false.2 (by omega)]
      rfl
    rw [hb] at HS
    rw [punct_sign c (by omega), hb] at HP
    clear hb
    have l0 : ¬ ((97 : Int) ≤ c) := by omega
    have m0 : c ≤ 122 := by omega
    have l1 : ¬ ((65 : Int) ≤ c) := by omega
    have m1 : c ≤ 90 := by omega
    have l2 : ¬ ((48 : Int) ≤ c) := by omega
    have m2 : c ≤ 57 := by omega
    have l3 : ¬ ((33 : Int) ≤ c) := by omega
    have m3 : c ≤ 126 := by omega
    have x0 : ¬ ((32 : Int) < c) := by omega
    have x1 : c < 127 := by omega
    have x2 : ¬ ((128 : Int) ≤ c) := by omega
    go_enter Try.func5, Try.ntmps5
    go_wp2_with fail
    refine Calls.mono (HS.out _) ?_
    rintro e w1 ⟨rfl, rfl⟩
    go_wp2_with fail
    refine Calls.mono (HP.out _) ?_
    rintro e w2 ⟨rfl, rfl⟩
    go_wp2_with fail
    refine Calls.mono (HS.out _) ?_
    rintro e w3 ⟨rfl, rfl⟩
    go_wp2_with fail
    refine Calls.mono (HK.out _) ?_
    rintro e w7 ⟨rfl, S1⟩
    have HSS := hidden S1
    clear S1
    go_wp2
    go_ret
    exact ⟨rfl, HSS.out⟩
  · have hb : signB c = true := by
      unfold signB
      rw [show inB c 33 47 = true from inB_true.2 (by omega), show inB c 58 64 = false from inB_false.2 (by omega), show inB c 91 96 = false from inB_false.2 (by omega), show inB c 123 126 = false from inB_false.2 (by omega)]
      rfl
    rw [hb] at HS
    rw [punct_sign c (by omega), hb] at HP
    clear hb
    have l0 : ¬ ((97 : Int) ≤ c) := by omega
    have m0 : c ≤ 122 := by omega
    have l1 : ¬ ((65 : Int) ≤ c) := by omega
    have m1 : c ≤ 90 := by omega
    have l2 : ¬ ((48 : Int) ≤ c) := by omega
    have m2 : c ≤ 57 := by omega
    have l3 : (33 : Int) ≤ c := by omega
    have m3 : c ≤ 126 := by omega
    have x0 : (32 : Int) < c := by omega
    have x1 : c < 127 := by omega
    have x2 : ¬ ((128 : Int) ≤ c) := by omega
    go_enter Try.func5, Try.ntmps5
    go_wp2_with fail
    refine Calls.mono (HS.out _) ?_
    rintro e w1 ⟨rfl, rfl⟩
    go_wp2_with fail
    refine Calls.mono (HP.out _) ?_
    rintro e w2 ⟨rfl, rfl⟩
    go_wp2_with fail
    refine Calls.mono (HS.out _) ?_
    rintro e w3 ⟨rfl, rfl⟩
    go_wp2_with fail
    refine Calls.mono (HK.out _) ?_
    rintro e w7 ⟨rfl, S1⟩
    have HSS := hidden S1
    clear S1
    go_wp2
    go_ret
    exact ⟨rfl, HSS.out⟩
  · have hb : signB c = false := by
      unfold signB
      rw [show inB c 33 47 = false from inB_false.2 (by omega), show inB c 58 64 = false from inB_false.2 (by omega), show inB c 91 96 = false from inB_false.2 (by omega), show inB c 123 126 = false from inB_false.2 (by omega)]
      rfl
    rw [hb] at HS
    rw [punct_sign c (by omega), hb] at HP
    clear hb
    have l0 : ¬ ((97 : Int) ≤ c) := by omega
    have m0 : c ≤ 122 := by omega
    have l1 : ¬ ((65 : Int) ≤ c) := by omega
    have m1 : c ≤ 90 := by omega
    have l2 : (48 : Int) ≤ c := by omega
    have m2 : c ≤ 57 := by omega
    have l3 : (33 : Int) ≤ c := by omega
    have m3 : c ≤ 126 := by omega
    have x0 : (32 : Int) < c := by omega
    have x1 : c < 127 := by omega
    have x2 : ¬ ((128 : Int) ≤ c) := by omega
    go_enter Try.func5, Try.ntmps5
    go_wp2_with fail
    refine Calls.mono (HS.out _) ?_
    rintro e w1 ⟨rfl, rfl⟩
    go_wp2_with fail
    refine Calls.mono (HP.out _) ?_
    rintro e w2 ⟨rfl, rfl⟩
    go_wp2_with fail
    refine Calls.mono (HS.out _) ?_
    rintro e w3 ⟨rfl, rfl⟩
    go_wp2_with fail
    refine Calls.mono (HK.out _) ?_
    rintro e w7 ⟨rfl, S1⟩
    have HSS := hidden S1
    clear S1
    go_wp2
    go_ret
    exact ⟨rfl, HSS.out⟩
  · have hb : signB c = true := by
      unfold signB
      rw [show inB c 33 47 = false from inB_false.2 (by omega), show inB c 58 64 = true from inB_true.2 (by omega), show inB c 91 96 = false from inB_false.2 (by omega), show inB c 123 126 = false from inB_false.2 (by omega)]
      rfl
    rw [hb] at HS
    rw [punct_sign c (by omega), hb] at HP
    clear hb
    have l0 : ¬ ((97 : Int) ≤ c) := by omega
    have m0 : c ≤ 122 := by omega
    have l1 : ¬ ((65 : Int) ≤ c) := by omega
    have m1 : c ≤ 90 := by omega
    have l2 : (48 : Int) ≤ c := by omega
    have m2 : ¬ (c ≤ 57) := by omega
    have l3 : (33 : Int) ≤ c := by omega
    have m3 : c ≤ 126 := by omega
    have x0 : (32 : Int) < c := by omega
    have x1 : c < 127 := by omega
    have x2 : ¬ ((128 : Int) ≤ c) := by omega
    go_enter Try.func5, Try.ntmps5
    go_wp2_with fail
    refine Calls.mono (HS.out _) ?_
    rintro e w1 ⟨rfl, rfl⟩
    go_wp2_with fail
    refine Calls.mono (HP.out _) ?_
    rintro e w2 ⟨rfl, rfl⟩
    go_wp2_with fail
    refine Calls.mono (HS.out _) ?_
    rintro e w3 ⟨rfl, rfl⟩
    go_wp2_with fail
    refine Calls.mono (HK.out _) ?_
    rintro e w7 ⟨rfl, S1⟩
    have HSS := hidden S1
    clear S1
    go_wp2
    go_ret
    exact ⟨rfl, HSS.out⟩
  · have hb : signB c = false := by
      unfold signB
      rw [show inB c 33 47 = false from inB_false.2 (by omega), show inB c 58 64 = false from inB_false.2 (by omega), show inB c 91 96 = false from inB_false.2 (by omega), show inB c 123 126 = false from inB_false.2 (by omega)]
      rfl
    rw [hb] at HS
    rw [punct_sign c (by omega), hb] at HP
    clear hb
    have l0 : ¬ ((97 : Int) ≤ c) := by omega
    have m0 : c ≤ 122 := by omega
    have l1 : (65 : Int) ≤ c := by omega
    have m1 : c ≤ 90 := by omega
    have l2 : (48 : Int) ≤ c := by omega
    have m2 : ¬ (c ≤ 57) := by omega
    have l3 : (33 : Int) ≤ c := by omega
    have m3 : c ≤ 126 := by omega
    have x0 : (32 : Int) < c := by omega
    have x1 : c < 127 := by omega
    have x2 : ¬ ((128 : Int) ≤ c) := by omega
    go_enter Try.func5, Try.ntmps5
    go_wp2_with fail
    refine Calls.mono (HS.out _) ?_
    rintro e w1 ⟨rfl, rfl⟩
    go_wp2_with fail
    refine Calls.mono (HP.out _) ?_
    rintro e w2 ⟨rfl, rfl⟩
    go_wp2_with fail
    refine Calls.mono (HS.out _) ?_
    rintro e w3 ⟨rfl, rfl⟩
    go_wp2_with fail
    refine Calls.mono (HK.out _) ?_
    rintro e w7 ⟨rfl, S1⟩
    have HSS := hidden S1
    clear S1
    go_wp2
    go_ret
    exact ⟨rfl, HSS.out⟩
  · have hb : signB c = true := by
      unfold signB
      rw [show inB c 33 47 = false from inB_false.2 (by omega), show inB c 58 64 = false from inB_false.2 (by omega), show inB c 91 96 = true from inB_true.2 (by omega), show inB c 123 126 = false from inB_false.2 (by omega)]
      rfl
    rw [hb] at HS
    rw [punct_sign c (by omega), hb] at HP
    clear hb
    have l0 : ¬ ((97 : Int) ≤ c) := by omega
    have m0 : c ≤ 122 := by omega
    have l1 : (65 : Int) ≤ c := by omega
    have m1 : ¬ (c ≤ 90) := by omega
    have l2 : (48 : Int) ≤ c := by omega
    have m2 : ¬ (c ≤ 57) := by omega
    have l3 : (33 : Int) ≤ c := by omega
    have m3 : c ≤ 126 := by omega
    have x0 : (32 : Int) < c := by omega
    have x1 : c < 127 := by omega
    have x2 : ¬ ((128 : Int) ≤ c) := by omega
    go_enter Try.func5, Try.ntmps5
    go_wp2_with fail
    refine Calls.mono (HS.out _) ?_
    rintro e w1 ⟨rfl, rfl⟩
    go_wp2_with fail
    refine Calls.mono (HP.out _) ?_
    rintro e w2 ⟨rfl, rfl⟩
    go_wp2_with fail
    refine Calls.mono (HS.out _) ?_
    rintro e w3 ⟨rfl, rfl⟩
    go_wp2_with fail
    refine Calls.mono (HK.out _) ?_
    rintro e w7 ⟨rfl, S1⟩
    have HSS := hidden S1
    clear S1
    go_wp2
    go_ret
    exact ⟨rfl, HSS.out⟩
  · have hb : signB c = false := by
      unfold signB
      rw [show inB c 33 47 = false from inB_false.2 (by omega), show inB c 58 64 = false from inB_false.2 (by omega), show inB c 91 96 = false from inB_false.2 (by omega), show inB c 123 126 = false from inB_false.2 (by omega)]
      rfl
    rw [hb] at HS
    rw [punct_sign c (by omega), hb] at HP
    clear hb
    have l0 : (97 : Int) ≤ c := by omega
    have m0 : c ≤ 122 := by omega
    have l1 : (65 : Int) ≤ c := by omega
    have m1 : ¬ (c ≤ 90) := by omega
    have l2 : (48 : Int) ≤ c := by omega
    have m2 : ¬ (c ≤ 57) := by omega
    have l3 : (33 : Int) ≤ c := by omega
    have m3 : c ≤ 126 := by omega
    have x0 : (32 : Int) < c := by omega
    have x1 : c < 127 := by omega
    have x2 : ¬ ((128 : Int) ≤ c) := by omega
    go_enter Try.func5, Try.ntmps5
    go_wp2_with fail
    refine Calls.mono (HS.out _) ?_
    rintro e w1 ⟨rfl, rfl⟩
    go_wp2_with fail
    refine Calls.mono (HP.out _) ?_
    rintro e w2 ⟨rfl, rfl⟩
    go_wp2_with fail
    refine Calls.mono (HS.out _) ?_
    rintro e w3 ⟨rfl, rfl⟩
    go_wp2_with fail
    refine Calls.mono (HK.out _) ?_
    rintro e w7 ⟨rfl, S1⟩
    have HSS := hidden S1
    clear S1
    go_wp2
    go_ret
    exact ⟨rfl, HSS.out⟩
  · have hb : signB c = true := by
      unfold signB
      rw [show inB c 33 47 = false from inB_false.2 (by omega), show inB c 58 64 = false from inB_false.2 (by omega), show inB c 91 96 = false from inB_false.2 (by omega), show inB c 123 126 = true from inB_true.2 (by omega)]
      rfl
    rw [hb] at HS
    rw [punct_sign c (by omega), hb] at HP
    clear hb
    have l0 : (97 : Int) ≤ c := by omega
    have m0 : ¬ (c ≤ 122) := by omega
    have l1 : (65 : Int) ≤ c := by omega
    have m1 : ¬ (c ≤ 90) := by omega
    have l2 : (48 : Int) ≤ c := by omega
    have m2 : ¬ (c ≤ 57) := by omega
    have l3 : (33 : Int) ≤ c := by omega
    have m3 : c ≤ 126 := by omega
    have x0 : (32 : Int) < c := by omega
    have x1 : c < 127 := by omega
    have x2 : ¬ ((128 : Int) ≤ c) := by omega
    go_enter Try.func5, Try.ntmps5
    go_wp2_with fail
    refine Calls.mono (HS.out _) ?_
    rintro e w1 ⟨rfl, rfl⟩
    go_wp2_with fail
    refine Calls.mono (HP.out _) ?_
    rintro e w2 ⟨rfl, rfl⟩
    go_wp2_with fail
    refine Calls.mono (HS.out _) ?_
    rintro e w3 ⟨rfl, rfl⟩
    go_wp2_with fail
    refine Calls.mono (HK.out _) ?_
    rintro e w7 ⟨rfl, S1⟩
    have HSS := hidden S1
    clear S1
    go_wp2
    go_ret
    exact ⟨rfl, HSS.out⟩
  · have hb : signB c = false := by
      unfold signB
      rw [show inB c 33 47 = false from inB_false.2 (by omega), show inB c 58 64 = false from inB_false.2 (by omega), show inB c 91 96 = false from inB_false.2 (by omega), show inB c 123 126 = false from inB_false.2 (by omega)]
      rfl
    rw [hb] at HS
    rw [punct_sign c (by omega), hb] at HP
    clear hb
    have l0 : (97 : Int) ≤ c := by omega
    have m0 : ¬ (c ≤ 122) := by omega
    have l1 : (65 : Int) ≤ c := by omega
    have m1 : ¬ (c ≤ 90) := by omega
    have l2 : (48 : Int) ≤ c := by omega
    have m2 : ¬ (c ≤ 57) := by omega
    have l3 : (33 : Int) ≤ c := by omega
    have m3 : ¬ (c ≤ 126) := by omega
    have x0 : (32 : Int) < c := by omega
    have x1 : ¬ (c < 127) := by omega
    have x2 : ¬ ((128 : Int) ≤ c) := by omega
    go_enter Try.func5, Try.ntmps5
    go_wp2_with fail
    refine Calls.mono (HS.out _) ?_
    rintro e w1 ⟨rfl, rfl⟩
    go_wp2_with fail
    refine Calls.mono (HP.out _) ?_
    rintro e w2 ⟨rfl, rfl⟩
    go_wp2_with fail
    refine Calls.mono (HS.out _) ?_
    rintro e w3 ⟨rfl, rfl⟩
    go_wp2_with fail
    refine Calls.mono (HK.out _) ?_
    rintro e w7 ⟨rfl, S1⟩
    have HSS := hidden S1
    clear S1
    go_wp2
    go_ret
    exact ⟨rfl, HSS.out⟩
  · have hb : signB c = false := by
      unfold signB
      rw [show inB c 33 47 = false from inB_false.2 (by omega), show inB c 58 64 = false from inB_false.2 (by omega), show inB c 91 96 = false from inB_false.2 (by omega), show inB c 123 126 = false from inB_false.2 (by omega)]
      rfl
    rw [hb] at HS
    clear hb
    have l0 : (97 : Int) ≤ c := by omega
    have m0 : ¬ (c ≤ 122) := by omega
    have l1 : (65 : Int) ≤ c := by omega
    have m1 : ¬ (c ≤ 90) := by omega
    have l2 : (48 : Int) ≤ c := by omega
    have m2 : ¬ (c ≤ 57) := by omega
    have l3 : (33 : Int) ≤ c := by omega
    have m3 : ¬ (c ≤ 126) := by omega
    have x0 : (32 : Int) < c := by omega
    have x1 : ¬ (c < 127) := by omega
    have x2 : (128 : Int) ≤ c := by omega
    go_enter Try.func5, Try.ntmps5
    go_wp2_with fail
    refine Calls.mono (HS.out _) ?_
    rintro e w1 ⟨rfl, rfl⟩
    go_wp2_with fail
    refine Calls.mono (HK.out _) ?_
    rintro e w7 ⟨rfl, S1⟩
    have HSS := hidden S1
    clear S1
    go_wp2
    go_ret
    exact ⟨rfl, HSS.out⟩

end Go.Proofs.Ytjpkeenaofdaaaa
