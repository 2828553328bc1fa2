/-
  Rows of numbers that came in as arguments.
-/
import Derived.Test.YtcgjmkcigmmjjaaGreatDoorCmM
import Derived.OpenShut

namespace Go.Proofs.YtcgjmkcigmmjjaaGreatDoor
open Go.RowKit
set_option maxRecDepth 100000
set_option linter.unusedVariables false
theorem and_1023 (z : Int) : ∃ y : Nat, y ≤ 1023 ∧ bits .and .i64 z 1023 = (y : Int) := by
  have h : (BitVec.ofInt 64 z &&& BitVec.ofInt 64 1023).toNat ≤ 1023 := by
    rw [BitVec.toNat_and]
    have : (BitVec.ofInt 64 1023).toNat = 1023 := by decide
    rw [this]
    exact Nat.and_le_right
  refine ⟨(BitVec.ofInt 64 z &&& BitVec.ofInt 64 1023).toNat, h, ?_⟩
  show IntKind.i64.wrap ((BitVec.ofInt 64 z &&& BitVec.ofInt 64 1023).toNat : Int) = _
  exact wrap_i64_id _ (by omega) (by omega)

set_option maxHeartbeats 4000000 in
theorem runs_any (aa ab : Option Addr) (ca cb : Nat) (A : List Nat) (B : List Int) (w : World) (hT : TabD w) (hA : ∀ x ∈ A, x < 256) (ra : Rd w (.slice aa A.length ca) A) (rb : Ri w (.slice ab B.length cb) B) (ma : A.length ≤ 140737488351232) (mb : B.length ≤ 9223372036854775807) :
    Calls Tryz.prog 7 #[.slice aa A.length ca, .slice ab B.length cb] w fun e w' => e = .returned (.bool true) ∧ Step (fun _ => False) w w' := by
  have HA := hidden ra
  have HB := hidden rb
  have HT := hidden hT
  have HA2 := hidden hA
  have HE := hidden (O1.nil w)
  obtain ⟨m, hm⟩ : ∃ m, A.length = m := ⟨_, rfl⟩
  obtain ⟨n, hn⟩ : ∃ n, B.length = n := ⟨_, rfl⟩
  have Hm := hidden hm
  have Hn := hidden hn
  rw [hm] at ma HA
  rw [hn] at mb HB
  rw [hm, hn]
  clear hA ra rb hT hm hn
  go_enter Tryz.func7, Tryz.ntmps7
  go_wp2_with fail
  go_loopw [5, 6] (fun pv iv wr => ∃ (i : Nat) (P : List Nat) (ao : Option Addr) (cap : Nat), iv = .int .i64 (i : Int) ∧ i ≤ m ∧ pv = .slice ao P.length cap ∧ Hid (O1 w wr (.slice ao P.length cap) P ∧ (∀ x ∈ P, x < 256) ∧ P.length ≤ 6000)) (fun _ iv _ => m - (RowKit.intOf iv).toNat)
  case atStart => exact ⟨0, [], none, 0, rfl, Nat.zero_le _, rfl, hidden ⟨HE.out, ⟨fun x hx => absurd hx (by simp), Nat.zero_le _⟩⟩⟩
  case round =>
    obtain ⟨i, P, ao, cap, rfl, hi, rfl, HQ⟩ := hrel
    have i0 : (0 : Int) ≤ (i : Int) := by omega
    by_cases h1 : i < m
    · have z1 : (i : Int) < (m : Int) := by omega
      by_cases h2 : i < n
      · have z2 : (i : Int) < (n : Int) := by omega
        obtain ⟨gb, ob, hb, hbn, eb⟩ := (HB.out.step HQ.out.1.st (fun _ _ _ _ _ q => q)).at (k := i) (by rw [Hn.out]; exact h2)
        subst hb
        obtain ⟨zb, hzb⟩ : ∃ z, B.getD i 0 = z := ⟨_, rfl⟩
        rw [hzb] at eb
        obtain ⟨y, hy, hya⟩ := and_1023 zb
        have hp6 := HQ.out.2.2
        obtain ⟨l, hl⟩ : ∃ l, P.length = l := ⟨_, rfl⟩
        have Hl := hidden hl
        rw [hl] at hp6 HQ ⊢
        have HPv := hidden (show Hid (O1 w wr (.slice ao l cap) P ∧ (∀ x ∈ P, x < 256) ∧ l ≤ 6000) from HQ)
        clear hzb hl HQ hbn
        by_cases h3 : 6000 < l + y
        · have z3 : (6000 : Int) < (l : Int) + (y : Int) := by omega
          go_wp2_with fail
          go_ret
          exact ⟨rfl, HPv.out.out.1.st⟩
        · have z3 : ¬ ((6000 : Int) < (l : Int) + (y : Int)) := by omega
          obtain ⟨ga, oa, ha, ea⟩ := (HA.out.step HPv.out.out.1.st (fun _ _ _ _ _ q => q)).at (k := i) (by rw [Hm.out]; exact h1)
          subst ha
          obtain ⟨x, hx⟩ : ∃ x, A.getD i 0 = x := ⟨_, rfl⟩
          have hx256 := (show x < 256 from by rw [← hx]; exact HA2.out _ (by rw [List.getD_eq_getElem?_getD, List.getElem?_eq_getElem (by rw [Hm.out]; exact h1)]; exact List.getElem_mem _))
          have HCX := hidden (show ∀ wx, Step (fun _ => False) w wx → wx.cell? ⟨ga, oa + i, none⟩ = some (.int .u8 (x : Int)) from fun wx hw => by
            obtain ⟨ga', oa', ha', ea'⟩ := (HA.out.step hw (fun _ _ _ _ _ q => q)).at (k := i) (by rw [Hm.out]; exact h1)
            injection ha' with e1
            injection e1 with e2 e3
            subst e2
            subst e3
            rw [← hx]; exact ea')
          clear ea hx
          go_wp2_with fail
          go_loopw [5, 8] (fun pv jv wr => ∃ (j : Nat) (P : List Nat) (ao : Option Addr) (cap : Nat), jv = .int .i64 (j : Int) ∧ j ≤ y ∧ pv = .slice ao P.length cap ∧ Hid (O1 w wr (.slice ao P.length cap) P ∧ (∀ x ∈ P, x < 256) ∧ P.length = l + j)) (fun _ jv _ => y - (RowKit.intOf jv).toNat)
          case atStart =>
            refine ⟨0, P, ao, cap, rfl, Nat.zero_le _, by rw [Hl.out], hidden ⟨?_, HPv.out.out.2.1, Hl.out⟩⟩
            rw [Hl.out]
            first | exact HPv.out.out.1 | exact HPv.out.out.1.made ((Step.refl _ _).drewN _)
          case round =>
            obtain ⟨j, P2, ao2, cap2, rfl, hj, rfl, HQ2⟩ := hrel
            have j0 : (0 : Int) ≤ (j : Int) := by omega
            by_cases hjy : j < y
            · have z4 : (j : Int) < (y : Int) := by omega
              have ea := HCX.out wr HQ2.out.1.st
              go_wp2_with (at_builtin; refine app_o1 rfl (.tmp 40) (.tmp 45) rfl w _ P2 rfl (HQ2.out.1.made ((Step.refl _ _).alloc _)) _ [x] rfl (Rd.lit wr x) ?b1 ?_)
              case b1 => have := HQ2.out.2.2; simp; omega
              intro v3 w3 H3
              obtain ⟨ao3, cap3, e3, _, _⟩ := H3.out.form
              subst e3
              have HF := hidden (show O1 w w3 (.slice ao3 (P2 ++ [x]).length cap3) (P2 ++ [x]) ∧ (∀ t ∈ P2 ++ [x], t < 256) ∧ (P2 ++ [x]).length = l + (j + 1) from ⟨H3.out, fun z hz => by
                have hx256' := hx256
                rcases List.mem_append.1 hz with hz | hz
                · exact HQ2.out.2.1 z hz
                · have e := List.mem_singleton.1 hz; rw [e]; exact hx256', by rw [List.length_append, HQ2.out.2.2]; simp; omega⟩)
              clear H3 HQ2 ea
              go_wp2_with fail
              go_roundw
              case rel => exact ⟨j + 1, P2 ++ [x], ao3, cap3, by go_num, by omega, rfl, HF⟩
              case measure => simp [RowKit.intOf]; omega
            · have z4 : ¬ ((j : Int) < (y : Int)) := by omega
              have HF := hidden (show O1 w wr (.slice ao2 P2.length cap2) P2 ∧ (∀ x ∈ P2, x < 256) ∧ P2.length ≤ 6000 from ⟨HQ2.out.1, HQ2.out.2.1, by have := HQ2.out.2.2; omega⟩)
              clear HQ2
              go_wp2_with fail
              go_roundw
              case rel => exact ⟨i + 1, P2, ao2, cap2, by go_num, by omega, rfl, HF⟩
              case measure => simp [RowKit.intOf]; omega
      · have z2 : ¬ ((i : Int) < (n : Int)) := by omega
        obtain ⟨HO, hP256, hP6⟩ := HQ.out
        have HO1 := hidden HO
        have HPP := hidden (And.intro hP256 hP6)
        have HY := hidden (fun wx (hx : Step (fun _ => False) wr wx) => bytes_o1 w wx ao cap P (HO1.out.made hx) hP256 (by omega) (HT.out.made (HO1.out.made hx).st))
        obtain ⟨p, hp⟩ : ∃ p, P.length = p := ⟨_, rfl⟩
        have Hp := hidden hp
        rw [hp] at HY hP6 ⊢
        clear HO hP256 hp HQ
        go_wp2_with fail
        refine (HY.out _ (by first | exact Step.refl _ _ | exact (Step.refl _ _).drewN _)).mono ?_
        rintro e w4 ⟨a, c, S, rfl, R4⟩
        have HBK := hidden (back_any w4 a c P S R4.out.1 HPP.out.1 (by have := HPP.out.2; omega) R4.out.2.1 R4.out.2.2.2 (p : Int) (by have := Hp.out; omega) (by have := Hp.out; have := HPP.out.2; omega))
        have HX4 := hidden (show O1 w w4 (.slice ao P.length cap) P from by first | exact HO1.out.made R4.out.2.2.1 | exact (HO1.out.made ((Step.refl _ _).drewN _)).made R4.out.2.2.1)
        rw [Hp.out] at HBK
        obtain ⟨s, hs⟩ : ∃ s, S.length = s := ⟨_, rfl⟩
        rw [hs] at HBK ⊢
        clear R4 HY hs
        go_wp2_with fail
        refine HBK.out.mono ?_
        rintro e w5 ⟨a5, c5, rfl, R5⟩
        have HX5 := hidden (HX4.out.made R5.out.2)
        have HSM := hidden (same_eq (.slice a5 p c5) (.slice ao p cap) P w5 R5.out.1 (by
          obtain ⟨ao', cap', e, _, h⟩ := HX5.out.form
          rw [Hp.out] at e h
          injection e with e1 _ e3
          subst e1
          subst e3
          exact h) (by have := HPP.out.2; omega))
        clear R5 HBK
        go_wp2_with fail
        refine HSM.out.mono ?_
        rintro e w6 ⟨rfl, S6⟩
        have HS6 := hidden (HX5.out.st.made S6.out)
        have HK := hidden (dknown_any w6 (HT.out.made HS6.out))
        go_wp2_with fail
        refine HK.out.mono ?_
        rintro e w7 ⟨rfl, S7⟩
        have HS7 := hidden (HS6.out.made S7)
        clear S7
        go_wp2
        go_ret
        exact ⟨rfl, HS7.out⟩
    · have z1 : ¬ ((i : Int) < (m : Int)) := by omega
      obtain ⟨HO, hP256, hP6⟩ := HQ.out
      have HO1 := hidden HO
      have HPP := hidden (And.intro hP256 hP6)
      have HY := hidden (fun wx (hx : Step (fun _ => False) wr wx) => bytes_o1 w wx ao cap P (HO1.out.made hx) hP256 (by omega) (HT.out.made (HO1.out.made hx).st))
      obtain ⟨p, hp⟩ : ∃ p, P.length = p := ⟨_, rfl⟩
      have Hp := hidden hp
      rw [hp] at HY hP6 ⊢
      clear HO hP256 hp HQ
      go_wp2_with fail
      refine (HY.out _ (by first | exact Step.refl _ _ | exact (Step.refl _ _).drewN _)).mono ?_
      rintro e w4 ⟨a, c, S, rfl, R4⟩
      have HBK := hidden (back_any w4 a c P S R4.out.1 HPP.out.1 (by have := HPP.out.2; omega) R4.out.2.1 R4.out.2.2.2 (p : Int) (by have := Hp.out; omega) (by have := Hp.out; have := HPP.out.2; omega))
      have HX4 := hidden (show O1 w w4 (.slice ao P.length cap) P from by first | exact HO1.out.made R4.out.2.2.1 | exact (HO1.out.made ((Step.refl _ _).drewN _)).made R4.out.2.2.1)
      rw [Hp.out] at HBK
      obtain ⟨s, hs⟩ : ∃ s, S.length = s := ⟨_, rfl⟩
      rw [hs] at HBK ⊢
      clear R4 HY hs
      go_wp2_with fail
      refine HBK.out.mono ?_
      rintro e w5 ⟨a5, c5, rfl, R5⟩
      have HX5 := hidden (HX4.out.made R5.out.2)
      have HSM := hidden (same_eq (.slice a5 p c5) (.slice ao p cap) P w5 R5.out.1 (by
        obtain ⟨ao', cap', e, _, h⟩ := HX5.out.form
        rw [Hp.out] at e h
        injection e with e1 _ e3
        subst e1
        subst e3
        exact h) (by have := HPP.out.2; omega))
      clear R5 HBK
      go_wp2_with fail
      refine HSM.out.mono ?_
      rintro e w6 ⟨rfl, S6⟩
      have HS6 := hidden (HX5.out.st.made S6.out)
      have HK := hidden (dknown_any w6 (HT.out.made HS6.out))
      go_wp2_with fail
      refine HK.out.mono ?_
      rintro e w7 ⟨rfl, S7⟩
      have HS7 := hidden (HS6.out.made S7)
      clear S7
      go_wp2
      go_ret
      exact ⟨rfl, HS7.out⟩

end Go.Proofs.YtcgjmkcigmmjjaaGreatDoor

namespace Go.Proofs.YtcgjmkcigmmjjaaGreatDoor
open Go.RowKit
theorem ri_of_ints {w : World} {x : Addr} {len cap : Nat} {zs : List Int} (hl : len ≤ cap) (hz : zs.length = cap) (hc : ∀ i, i < zs.length → w.cell? (x.add i) = some (.int .i64 (zs.getD i 0))) : Ri w (.slice (some x) len cap) (zs.take len) := by
  have hlen : (zs.take len).length = len := by simp; omega
  refine ⟨some x, cap, by rw [hlen], by omega, fun h => (by cases h), fun a ha hne => ?_⟩
  have hp : 0 < len := by
    rcases Nat.eq_zero_or_pos len with h | h
    · exact absurd (List.eq_nil_of_length_eq_zero (by omega)) hne
    · exact h
  obtain ⟨b, off, rfl, hcl⟩ := ints_at hc (by omega)
  refine ⟨b, off, (Option.some.inj ha).symm, fun k hk => ?_⟩
  rw [hlen] at hk
  rw [hcl k (by omega)]
  have hk2 : k < zs.length := by omega
  simp [List.getD, hk2, hk]

end Go.Proofs.YtcgjmkcigmmjjaaGreatDoor
