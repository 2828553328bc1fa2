/-
  DeflateTwice's walk.
-/
import Derived.Test.YtcgjmkcigmmjjaaGreatDoorCmM

namespace Go.Proofs.YtcgjmkcigmmjjaaGreatDoor
open Go.RowKit
set_option maxRecDepth 100000
set_option maxHeartbeats 4000000 in
theorem twice_in (aa ab : Option Addr) (ca cb : Nat) (A B : List Nat) (w : World) (hT : TabD w) (hA : ∀ x ∈ A, x < 256) (hB : ∀ x ∈ B, x < 256) (ra : Rd w (.slice aa A.length ca) A) (rb : Rd w (.slice ab B.length cb) B) (hl : A.length + B.length ≤ 2000) :
    Calls Tryz.prog 6 #[.slice aa A.length ca, .slice ab B.length cb] w fun e w' => e = .returned (.bool true) ∧ Step (fun _ => False) w w' := by
  have HA := hidden ra
  have HB := hidden rb
  have HT := hidden hT
  have HE := hidden (O1.empty w)
  have HP := hidden (show (∀ x ∈ A ++ (B ++ A), x < 256) ∧ (A ++ (B ++ A)).length ≤ 4000 from ⟨fun x hx => by
    simp only [List.mem_append] at hx
    rcases hx with hx | hx | hx
    · exact hA x hx
    · exact hB x hx
    · exact hA x hx, by simp only [List.length_append]; omega⟩)
  have HL := hidden hl
  obtain ⟨m, hm⟩ : ∃ m, A.length = m := ⟨_, rfl⟩
  obtain ⟨n, hn⟩ : ∃ n, B.length = n := ⟨_, rfl⟩
  rw [hm] at HA
  rw [hn] at HB
  rw [hm, hn] at hl ⊢
  have hz : ¬ ((2000 : Int) < (m : Int) + (n : Int)) := by omega
  clear hA hB ra rb hT hm hn
  go_enter Tryz.func6, Tryz.ntmps6
  go_wp2_with (at_builtin; refine app_o1 rfl (.tmp 16) (.tmp 17) rfl w _ [] rfl HE.out _ A rfl (HA.out.step HE.out.st (fun _ _ _ _ _ q => q)) ?b1 ?_)
  case b1 => have := HL.out; simp; omega
  intro v1 w1 H1
  have HB1 := hidden (HB.out.step H1.out.st (fun _ _ _ _ _ q => q))
  go_wp2_with (at_builtin; refine app_o1 rfl (.tmp 18) (.tmp 19) rfl w _ A rfl H1.out _ B rfl HB1.out ?b2 ?_)
  case b2 => have := HL.out; omega
  intro v2 w2 H2
  have HA2 := hidden (HA.out.step H2.out.st (fun _ _ _ _ _ q => q))
  go_wp2_with (at_builtin; refine app_o1 rfl (.tmp 20) (.tmp 21) rfl w _ (A ++ B) rfl H2.out _ A rfl HA2.out ?b3 ?_)
  case b3 => have := HL.out; rw [List.length_append]; omega
  intro v3 w3 H3
  obtain ⟨P, hP⟩ : ∃ P, A ++ (B ++ A) = P := ⟨_, rfl⟩
  rw [hP] at H3 HP
  obtain ⟨ao, cap, e3, _, _⟩ := H3.out.form
  subst e3
  have HY := hidden (bytes_o1 w w3 ao cap P H3.out HP.out.1 (by have := HP.out.2; omega) (HT.out.made H3.out.st))
  have HP63 := hidden HP.out.2
  obtain ⟨p, hp⟩ : ∃ p, P.length = p := ⟨_, rfl⟩
  have Hp := hidden hp
  rw [hp] at HY HP63 ⊢
  clear hP hp H1 H2
  go_wp2_with fail
  refine HY.out.mono ?_
  rintro e w4 ⟨a, c, S, rfl, R4⟩
  have HBK := hidden (back_any w4 a c P S R4.out.1 HP.out.1 (by have := HP.out.2; omega) R4.out.2.1 R4.out.2.2.2 (p : Int) (by have := Hp.out; omega) (by have := HP63.out; omega))
  have HS4 := hidden (H3.out.st.made R4.out.2.2.1)
  have HX4 := hidden (H3.out.made R4.out.2.2.1)
  rw [Hp.out] at HBK
  obtain ⟨s, hs⟩ : ∃ s, S.length = s := ⟨_, rfl⟩
  rw [hs] at HBK ⊢
  clear R4 HY hs
  go_wp2_with fail
  refine HBK.out.mono ?_
  rintro e w5 ⟨a5, c5, rfl, R5⟩
  have HX5 := hidden (HX4.out.made R5.out.2)
  have HSM := hidden (same_eq (.slice a5 p c5) (.slice ao p cap) P w5 R5.out.1 (by
    obtain ⟨ao', cap', e, _, h⟩ := HX5.out.form
    rw [Hp.out] at e h
    injection e with e1 _ e3
    subst e1
    subst e3
    exact h) (by have := HP.out.2; omega))
  have HS5 := hidden (HS4.out.made R5.out.2)
  clear R5 HBK
  go_wp2_with fail
  refine HSM.out.mono ?_
  rintro e w6 ⟨rfl, S6⟩
  have HS6 := hidden (HS5.out.made S6.out)
  have HK := hidden (dknown_any w6 (HT.out.made HS6.out))
  go_wp2_with fail
  refine HK.out.mono ?_
  rintro e w7 ⟨rfl, S7⟩
  have HS7 := hidden (HS6.out.made S7)
  clear S7
  go_wp2
  go_ret
  exact ⟨rfl, HS7.out⟩

set_option maxHeartbeats 1000000 in
theorem twice_any (aa ab : Option Addr) (ca cb : Nat) (A B : List Nat) (w : World) (hT : TabD w) (hA : ∀ x ∈ A, x < 256) (hB : ∀ x ∈ B, x < 256) (ra : Rd w (.slice aa A.length ca) A) (rb : Rd w (.slice ab B.length cb) B) (ma : A.length ≤ 140737488351232) (mb : B.length ≤ 140737488351232) :
    Calls Tryz.prog 6 #[.slice aa A.length ca, .slice ab B.length cb] w fun e w' => e = .returned (.bool true) ∧ Step (fun _ => False) w w' := by
  by_cases hl : A.length + B.length ≤ 2000
  · exact twice_in aa ab ca cb A B w hT hA hB ra rb hl
  · generalize A.length = m at *
    generalize B.length = n at *
    have hz : (2000 : Int) < (m : Int) + (n : Int) := by omega
    clear ra rb
    go_enter Tryz.func6, Tryz.ntmps6
    go_wp2
    go_ret
    exact ⟨rfl, Step.refl _ _⟩

end Go.Proofs.YtcgjmkcigmmjjaaGreatDoor
