/-
  HuffLeast: for all counts and longest lengths the law answers true: the lengths that are made are none longer than may be, just full, and cost what the page's sum by packages is, or are refused; its arguments read as they did. No condition.
-/
import Derived.Test.YtkglackbbcfhbaaHSymB
import Derived.Test.YtkglackbbcfhbaaHMay
import Derived.Test.YtkglackbbcfhbaaHRLeast
import Derived.Test.YtkglackbbcfhbaaHRefFill
import Derived.Test.YtkglackbbcfhbaaHCost
import Derived.Test.YtkglackbbcfhbaaHKnown
import Derived.BigQuiet
import Derived.Test.YtkglackbbcfhbaaRows
import Derived.Test.YtkglackbbcfhbaaHArg
import Derived.WalkKit
import Derived.ProofKit
import Derived.OpenShut
import Derived.ShutString
import Derived.ChangeOld
import Derived.Below

namespace Go.Proofs.Ytkglackbbcfhbaa
open Go.RowKit
set_option maxRecDepth 100000
set_option linter.unusedVariables false

theorem ih_call {K : Nat} (IH : ∀ k, k < K → SymOk k) {O : List Int} {v : Value} {B g : Nat} {D D2 : List Int} {a m b n : Nat} (cap : Nat) {w w2 : World} (hE : Env w B g v O) (hs : Step (fun k => k = g) w w2) (hr : Row w2 g D2) (hin : InO O D) (hp : List.Perm D2 D) (hn : n = D.length) (h1 : a < m) (h2 : m < b) (hb : b ≤ n) (s1 : Sr O D2 a m) (s2 : Sr O D2 m b) (hl : n ≤ 100000) (hO : O.length ≤ 100000) (hK : b - a < K) :
    Calls Try.prog 38 #[.slice (some ⟨g, 0, none⟩) n cap, .int .i64 (a : Int), .int .i64 (m : Int), .int .i64 (b : Int), cmpV B] w2 fun e w' => (∃ u, e = .returned u) ∧ SymP O D2 g a b w2 w' := by
  have e : n = D2.length := by rw [hp.length_eq]; exact hn
  subst e
  exact IH (b - a) hK O v B g D2 a m b cap w2 (hE.step hs) hr (hin.perm hp) h1 h2 hb s1 s2 hl hO rfl


set_option maxHeartbeats 8000000 in
theorem sym_hi {a b : Nat} (IH : ∀ k, k < b - a → SymOk k) (O : List Int) (v : Value) (B g : Nat) (D : List Int) (m cap mid : Nat) (w : World) (hE : Env w B g v O) (hD : Row w g D) (hin : InO O D) (ham : a + 1 < m) (hmb : m + 1 < b) (hb : b ≤ D.length) (hs1 : Sr O D a m) (hs2 : Sr O D m b) (hn : D.length ≤ 100000) (hO : O.length ≤ 100000) (hmid : mid = (a + b) / 2) (hgt : mid < m) :
    Calls Try.prog 38 #[.slice (some ⟨g, 0, none⟩) D.length cap, .int .i64 (a : Int), .int .i64 (m : Int), .int .i64 (b : Int), cmpV B] w
      fun e w' => (∃ u, e = .returned u) ∧ SymP O D g a b w w' := by
  have HC := hidden (fun (u : World) (hu : ∃ q, u = w.drewN q) i j (hi : i < D.length) (hj : j < D.length) => cmp_at (w := u) (by obtain ⟨q, rfl⟩ := hu; exact hE.drewN q) (by obtain ⟨q, rfl⟩ := hu; exact hD.drewN q) hin hO i j hi hj)
  have HE := hidden hE
  have HD := hidden hD
  have HI := hidden hin
  have HS1 := hidden hs1
  have HS2 := hidden hs2
  have IH := hidden IH
  obtain ⟨n, hnn⟩ : ∃ n, n = D.length := ⟨_, rfl⟩
  have Hn := hidden hnn
  rw [← hnn] at hb hn ⊢
  clear hE hD hin hs1 hs2 hnn
  have emid : ((a : Int) + (b : Int)) / 2 = (mid : Int) := by omega
  have hm1 : a < mid := by omega
  have hm2 : mid < b := by omega
  have hm3 : 2 * mid ≤ a + b := by omega
  have hm4 : a + b ≤ 2 * mid + 1 := by omega
  have e1 : ((m : Int) - (a : Int) == 1) = false := by simp; omega
  have e1' : ¬ ((m : Int) - (a : Int) = 1) := by omega
  have e2 : ((b : Int) - (m : Int) == 1) = false := by simp; omega
  have e2' : ¬ ((b : Int) - (m : Int) = 1) := by omega
  obtain ⟨N, hN⟩ : ∃ N, N = mid + m := ⟨_, rfl⟩
  have eN : (mid : Int) + (m : Int) = (N : Int) := by omega
  obtain ⟨P, hP⟩ : ∃ P, P = N - 1 := ⟨_, rfl⟩
  have eP : (N : Int) - 1 = (P : Int) := by omega
  obtain ⟨S0, hS0⟩ : ∃ S0, S0 = N - b := ⟨_, rfl⟩
  have eS : (N : Int) - (b : Int) = (S0 : Int) := by omega
  have iM : (mid : Int) < (m : Int) := by omega
  have HS0 := hidden (show S0 + b = N by omega)
  have hS1 : a ≤ S0 := by omega
  have hS2 : S0 ≤ mid := by omega
  clear hS0
  have HN := hidden hN
  have HP := hidden (show P + 1 = N by omega)
  have hN1 : N ≤ 300000 := by omega
  have hP1 : P ≤ 300000 := by omega
  clear hN hP hmid
  go_enter Try.func38, Try.ntmps38
  go_wp2
  go_loopw [20, 21] (fun iv jv wr => ∃ s r : Nat, iv = .int .i64 (s : Int) ∧ jv = .int .i64 (r : Int) ∧ S0 ≤ s ∧ s ≤ r ∧ r ≤ mid ∧ Hid (S0 < s → key O (D.getD (s - 1) 0) ≤ key O (D.getD (P - (s - 1)) 0)) ∧ Hid (r < mid → key O (D.getD (P - r) 0) < key O (D.getD r 0)) ∧ Hid (∃ q, wr = w.drewN q)) (fun iv jv _ => (intOf jv - intOf iv).toNat)
  case atStart => exact ⟨S0, mid, rfl, rfl, by omega, by omega, by omega, (fun h => by omega), (fun h => by omega), 0, rfl⟩
  case round =>
    obtain ⟨s, r, rfl, rfl, h1, h2, h3, HL, HR, HW⟩ := hrel
    by_cases hij : s < r
    · have hij' : (s : Int) < (r : Int) := by omega
      obtain ⟨c, hc0⟩ : ∃ c, c = (s + r) / 2 := ⟨_, rfl⟩
      have hh1 : s ≤ c := by omega
      have hh2 : c < r := by omega
      obtain ⟨pc, hpc⟩ : ∃ pc, pc = P - c := ⟨_, rfl⟩
      have hpc1 : pc < n := by have := HS0.out; have := HN.out; have := HP.out; omega
      have hpc2 : pc + c = P := by have := HS0.out; have := HN.out; have := HP.out; omega
      obtain ⟨x, y, cv, c1, c2, hcv, HCC⟩ := HC.out wr HW.out pc c (by have := Hn.out; omega) (by have := Hn.out; omega)
      have HCC := hidden HCC
      have Hcv := hidden hcv
      have Hpc := hidden hpc
      have ec : ((s : Int) + (r : Int)) / 2 = (c : Int) := by omega
      have epc : (P : Int) - (c : Int) = (pc : Int) := by omega
      have hl1 : (pc : Int) < (n : Int) := by omega
      have hl2 : (c : Int) < (n : Int) := by omega
      clear hcv hc0 hpc hpc2
      by_cases hc : cv < 0
      · have hk := hidden (Hcv.out.1 hc)
        go_wp2
        go_quiet ((go_at_call 30; exact Calls.quiet_of (HCC.out _)))
        go_wp2
        all_goals try (exfalso; first | omega | (rename_i hz; simp at hz; omega))
        go_roundw
        case rel => exact ⟨s, c, rfl, rfl, by omega, by omega, by omega, HL, (fun _ => by rw [← Hpc.out]; exact hk.out), (by obtain ⟨q, rfl⟩ := HW.out; exact ⟨_, World.drewN_drewN _ _ _⟩)⟩
        case measure => simp [intOf]; omega
      · have hk := hidden (Int.not_lt.1 (fun z => hc (Hcv.out.2 z)))
        have hc' : (0 : Int) ≤ cv := by omega
        have hnb : (!decide (cv < 0)) = true := by simp; omega
        have hnc : decide (cv < 0) = false := by simp; omega
        go_wp2
        go_quiet ((go_at_call 30; exact Calls.quiet_of (HCC.out _)))
        go_wp2
        all_goals try (exfalso; first | omega | (rename_i hz; simp at hz; omega))
        go_roundw
        case rel => exact ⟨c + 1, r, by go_num, rfl, by omega, by omega, by omega, (fun _ => by rw [Nat.add_sub_cancel, ← Hpc.out]; exact hk.out), HR, (by obtain ⟨q, rfl⟩ := HW.out; exact ⟨_, World.drewN_drewN _ _ _⟩)⟩
        case measure => simp [intOf]; omega
    · have hij' : ¬ (s : Int) < (r : Int) := by omega
      have hij2 : s = r := by omega
      subst hij2
      obtain ⟨e, he⟩ : ∃ e, e = N - s := ⟨_, rfl⟩
      have ee : (N : Int) - (s : Int) = (e : Int) := by have := HN.out; omega
      have ee2 : s + e = mid + m := by have := HN.out; omega
      have HRW := hidden (show Row wr g D ∧ Step (fun k => k = g) w wr by obtain ⟨q, rfl⟩ := HW.out; exact ⟨HD.out.drewN q, (Step.refl _ _).drewN q⟩)
      have b1 : a ≤ s := by omega
      have b2 : s ≤ m := by omega
      have b3 : m ≤ e := by omega
      have b4 : e ≤ b := by have := HS0.out; have := HN.out; omega
      have b5 : s ≤ mid := by omega
      have b6 : mid ≤ e := by omega
      have HX := hidden (show a < s → e < b → key O (D.getD (s - 1) 0) ≤ key O (D.getD e 0) from fun x y => by
        have z := HL.out (by have := HS0.out; have := HN.out; omega)
        rwa [show P - (s - 1) = e by have := HP.out; have := HN.out; omega] at z)
      have HY := hidden (show s < m → m < e → key O (D.getD (e - 1) 0) ≤ key O (D.getD s 0) from fun x y => by
        have z := HR.out (by omega)
        rw [show P - s = e - 1 by have := HP.out; have := HN.out; omega] at z
        omega)
      have HTU := hidden (fun (D2 : List Int) (w2 : World) (hp : List.Perm D2 D) (H : ∀ k, k < D.length → D2.getD k 0 = D.getD (rotI s m e k) 0) (hr : Row w2 g D2) (hst : Step (fun k => k = g) w w2) => turned_of (mid := mid) (b := b) (by omega) (by omega) (by have := Hn.out; omega) b1 b2 b3 b4 (by omega) b5 HS1.out HS2.out HX.out HY.out hp H hr hst)
      have Hee := hidden ee2
      have ee3 : e + s ≤ mid + m := by omega
      have ee4 : mid + m ≤ e + s := by omega
      clear he ee2 h2 h3 hij
      by_cases cA : s < m
      · have iA : (s : Int) < (m : Int) := by omega
        have jA : (mid : Int) < (e : Int) := by omega
        by_cases cB : m < e
        · have iB : (m : Int) < (e : Int) := by omega
          have jB : (s : Int) < (mid : Int) := by omega
          by_cases cC : a < s
          · have iC : (a : Int) < (s : Int) := by omega
            by_cases cE : e < b
            · have iE : (e : Int) < (b : Int) := by omega
              have HRT := hidden (show Calls Try.prog 39 #[.slice (some ⟨g, 0, none⟩) n cap, .int .i64 (s : Int), .int .i64 (m : Int), .int .i64 (e : Int), cmpV B] wr (fun x w' => (∃ u, x = .returned u) ∧ RotP D g s m e wr w') by rw [Hn.out]; exact rotate_any g D s m e cap (cmpV B) wr HRW.out.1 (by omega) (by omega) (by have := Hn.out; omega) (by have := Hn.out; omega))
              go_wp2_with fail
              refine HRT.out.mono ?_
              rintro x w2 ⟨⟨u, rfl⟩, hr⟩
              have HT := hidden (show ∃ D2, Turned O D g a s mid e b w w2 D2 by
                obtain ⟨D2, p1, p2, p3, p4⟩ := hr
                exact ⟨D2, HTU.out D2 w2 p1 p2 p3 (HRW.out.2.trans p4 (fun i hi => .inl hi))⟩)
              clear hr HRT
              obtain ⟨D2, T⟩ := HT.out
              have T := hidden T
              clear HT
              have HI1 := hidden (ih_call IH.out cap HE.out T.out.st T.out.row HI.out T.out.perm Hn.out (a := a) (m := s) (b := mid) (by omega) (by omega) (by omega) T.out.s1 T.out.s2 hn hO (by omega))
              go_wp2_with fail
              refine HI1.out.mono ?_
              rintro x w3 ⟨⟨u, rfl⟩, hr⟩
              have HH := hidden hr
              clear hr HI1
              obtain ⟨D3, hx1, hx2, hx3⟩ := HH.out
              have X1 := hidden hx1
              have X2 := hidden hx2
              have X3 := hidden hx3
              clear hx1 hx2 hx3 HH
              have HI2 := hidden (ih_call IH.out cap HE.out (T.out.st.trans X3.out (fun i hi => .inl hi)) X2.out HI.out (X1.out.perm.trans T.out.perm) Hn.out (a := mid) (m := e) (b := b) (by omega) (by omega) (by omega) (T.out.s3.of_out X1.out.mix (by omega)) (T.out.s4.of_out X1.out.mix (by omega)) hn hO (by omega))
              go_wp2_with fail
              refine HI2.out.mono ?_
              rintro x w4 ⟨⟨u, rfl⟩, hr⟩
              have HZ := hidden (halves T.out (by have := Hn.out; omega) (by omega) (by omega) X1.out X3.out hr)
              clear hr HI2
              go_wp2
              all_goals (go_end0; exact ⟨⟨_, rfl⟩, HZ.out⟩)
            · have iE : ¬ (e : Int) < (b : Int) := by omega
              have HRT := hidden (show Calls Try.prog 39 #[.slice (some ⟨g, 0, none⟩) n cap, .int .i64 (s : Int), .int .i64 (m : Int), .int .i64 (e : Int), cmpV B] wr (fun x w' => (∃ u, x = .returned u) ∧ RotP D g s m e wr w') by rw [Hn.out]; exact rotate_any g D s m e cap (cmpV B) wr HRW.out.1 (by omega) (by omega) (by have := Hn.out; omega) (by have := Hn.out; omega))
              go_wp2_with fail
              refine HRT.out.mono ?_
              rintro x w2 ⟨⟨u, rfl⟩, hr⟩
              have HT := hidden (show ∃ D2, Turned O D g a s mid e b w w2 D2 by
                obtain ⟨D2, p1, p2, p3, p4⟩ := hr
                exact ⟨D2, HTU.out D2 w2 p1 p2 p3 (HRW.out.2.trans p4 (fun i hi => .inl hi))⟩)
              clear hr HRT
              obtain ⟨D2, T⟩ := HT.out
              have T := hidden T
              clear HT
              have HI1 := hidden (ih_call IH.out cap HE.out T.out.st T.out.row HI.out T.out.perm Hn.out (a := a) (m := s) (b := mid) (by omega) (by omega) (by omega) T.out.s1 T.out.s2 hn hO (by omega))
              go_wp2_with fail
              refine HI1.out.mono ?_
              rintro x w3 ⟨⟨u, rfl⟩, hr⟩
              have HH := hidden hr
              clear hr HI1
              obtain ⟨D3, hx1, hx2, hx3⟩ := HH.out
              have X1 := hidden hx1
              have X2 := hidden hx2
              have X3 := hidden hx3
              clear hx1 hx2 hx3 HH
              have HZ := hidden (halves T.out (by have := Hn.out; omega) (by omega) (by omega) X1.out X3.out (Half.asis (s := e) (by omega) (by omega) (by omega) (T.out.s3.of_out X1.out.mix (by omega)) (T.out.s4.of_out X1.out.mix (by omega)) X2.out))
              go_wp2
              all_goals (go_end0; exact ⟨⟨_, rfl⟩, HZ.out⟩)
          · have iC : ¬ (a : Int) < (s : Int) := by omega
            by_cases cE : e < b
            · have iE : (e : Int) < (b : Int) := by omega
              have HRT := hidden (show Calls Try.prog 39 #[.slice (some ⟨g, 0, none⟩) n cap, .int .i64 (s : Int), .int .i64 (m : Int), .int .i64 (e : Int), cmpV B] wr (fun x w' => (∃ u, x = .returned u) ∧ RotP D g s m e wr w') by rw [Hn.out]; exact rotate_any g D s m e cap (cmpV B) wr HRW.out.1 (by omega) (by omega) (by have := Hn.out; omega) (by have := Hn.out; omega))
              go_wp2_with fail
              refine HRT.out.mono ?_
              rintro x w2 ⟨⟨u, rfl⟩, hr⟩
              have HT := hidden (show ∃ D2, Turned O D g a s mid e b w w2 D2 by
                obtain ⟨D2, p1, p2, p3, p4⟩ := hr
                exact ⟨D2, HTU.out D2 w2 p1 p2 p3 (HRW.out.2.trans p4 (fun i hi => .inl hi))⟩)
              clear hr HRT
              obtain ⟨D2, T⟩ := HT.out
              have T := hidden T
              clear HT
              have HH := hidden (show SymP O D2 g a mid w2 w2 from Half.asis (s := s) (by omega) (by omega) (by omega) T.out.s1 T.out.s2 T.out.row)
              obtain ⟨D3, hx1, hx2, hx3⟩ := HH.out
              have X1 := hidden hx1
              have X2 := hidden hx2
              have X3 := hidden hx3
              clear hx1 hx2 hx3 HH
              have HI2 := hidden (ih_call IH.out cap HE.out (T.out.st.trans X3.out (fun i hi => .inl hi)) X2.out HI.out (X1.out.perm.trans T.out.perm) Hn.out (a := mid) (m := e) (b := b) (by omega) (by omega) (by omega) (T.out.s3.of_out X1.out.mix (by omega)) (T.out.s4.of_out X1.out.mix (by omega)) hn hO (by omega))
              go_wp2_with fail
              refine HI2.out.mono ?_
              rintro x w4 ⟨⟨u, rfl⟩, hr⟩
              have HZ := hidden (halves T.out (by have := Hn.out; omega) (by omega) (by omega) X1.out X3.out hr)
              clear hr HI2
              go_wp2
              all_goals (go_end0; exact ⟨⟨_, rfl⟩, HZ.out⟩)
            · have iE : ¬ (e : Int) < (b : Int) := by omega
              have HRT := hidden (show Calls Try.prog 39 #[.slice (some ⟨g, 0, none⟩) n cap, .int .i64 (s : Int), .int .i64 (m : Int), .int .i64 (e : Int), cmpV B] wr (fun x w' => (∃ u, x = .returned u) ∧ RotP D g s m e wr w') by rw [Hn.out]; exact rotate_any g D s m e cap (cmpV B) wr HRW.out.1 (by omega) (by omega) (by have := Hn.out; omega) (by have := Hn.out; omega))
              go_wp2_with fail
              refine HRT.out.mono ?_
              rintro x w2 ⟨⟨u, rfl⟩, hr⟩
              have HT := hidden (show ∃ D2, Turned O D g a s mid e b w w2 D2 by
                obtain ⟨D2, p1, p2, p3, p4⟩ := hr
                exact ⟨D2, HTU.out D2 w2 p1 p2 p3 (HRW.out.2.trans p4 (fun i hi => .inl hi))⟩)
              clear hr HRT
              obtain ⟨D2, T⟩ := HT.out
              have T := hidden T
              clear HT
              have HH := hidden (show SymP O D2 g a mid w2 w2 from Half.asis (s := s) (by omega) (by omega) (by omega) T.out.s1 T.out.s2 T.out.row)
              obtain ⟨D3, hx1, hx2, hx3⟩ := HH.out
              have X1 := hidden hx1
              have X2 := hidden hx2
              have X3 := hidden hx3
              clear hx1 hx2 hx3 HH
              have HZ := hidden (halves T.out (by have := Hn.out; omega) (by omega) (by omega) X1.out X3.out (Half.asis (s := e) (by omega) (by omega) (by omega) (T.out.s3.of_out X1.out.mix (by omega)) (T.out.s4.of_out X1.out.mix (by omega)) X2.out))
              go_wp2
              all_goals (go_end0; exact ⟨⟨_, rfl⟩, HZ.out⟩)
        · have iB : ¬ (m : Int) < (e : Int) := by omega
          have jB : ¬ (s : Int) < (mid : Int) := by omega
          by_cases cC : a < s
          · have iC : (a : Int) < (s : Int) := by omega
            by_cases cE : e < b
            · have iE : (e : Int) < (b : Int) := by omega
              have HT := hidden (show ∃ D2, Turned O D g a s mid e b w wr D2 from ⟨D, HTU.out D wr (List.Perm.refl _) (fun k _ => by rw [rotI_none (by omega) (by omega) (by omega)]) HRW.out.1 HRW.out.2⟩)
              obtain ⟨D2, T⟩ := HT.out
              have T := hidden T
              clear HT
              have HH := hidden (show SymP O D2 g a mid wr wr from Half.asis (s := s) (by omega) (by omega) (by omega) T.out.s1 T.out.s2 T.out.row)
              obtain ⟨D3, hx1, hx2, hx3⟩ := HH.out
              have X1 := hidden hx1
              have X2 := hidden hx2
              have X3 := hidden hx3
              clear hx1 hx2 hx3 HH
              have HI2 := hidden (ih_call IH.out cap HE.out (T.out.st.trans X3.out (fun i hi => .inl hi)) X2.out HI.out (X1.out.perm.trans T.out.perm) Hn.out (a := mid) (m := e) (b := b) (by omega) (by omega) (by omega) (T.out.s3.of_out X1.out.mix (by omega)) (T.out.s4.of_out X1.out.mix (by omega)) hn hO (by omega))
              go_wp2_with fail
              refine HI2.out.mono ?_
              rintro x w4 ⟨⟨u, rfl⟩, hr⟩
              have HZ := hidden (halves T.out (by have := Hn.out; omega) (by omega) (by omega) X1.out X3.out hr)
              clear hr HI2
              go_wp2
              all_goals (go_end0; exact ⟨⟨_, rfl⟩, HZ.out⟩)
            · have iE : ¬ (e : Int) < (b : Int) := by omega
              have HT := hidden (show ∃ D2, Turned O D g a s mid e b w wr D2 from ⟨D, HTU.out D wr (List.Perm.refl _) (fun k _ => by rw [rotI_none (by omega) (by omega) (by omega)]) HRW.out.1 HRW.out.2⟩)
              obtain ⟨D2, T⟩ := HT.out
              have T := hidden T
              clear HT
              have HH := hidden (show SymP O D2 g a mid wr wr from Half.asis (s := s) (by omega) (by omega) (by omega) T.out.s1 T.out.s2 T.out.row)
              obtain ⟨D3, hx1, hx2, hx3⟩ := HH.out
              have X1 := hidden hx1
              have X2 := hidden hx2
              have X3 := hidden hx3
              clear hx1 hx2 hx3 HH
              have HZ := hidden (halves T.out (by have := Hn.out; omega) (by omega) (by omega) X1.out X3.out (Half.asis (s := e) (by omega) (by omega) (by omega) (T.out.s3.of_out X1.out.mix (by omega)) (T.out.s4.of_out X1.out.mix (by omega)) X2.out))
              go_wp2
              all_goals (go_end0; exact ⟨⟨_, rfl⟩, HZ.out⟩)
          · have iC : ¬ (a : Int) < (s : Int) := by omega
            by_cases cE : e < b
            · have iE : (e : Int) < (b : Int) := by omega
              have HT := hidden (show ∃ D2, Turned O D g a s mid e b w wr D2 from ⟨D, HTU.out D wr (List.Perm.refl _) (fun k _ => by rw [rotI_none (by omega) (by omega) (by omega)]) HRW.out.1 HRW.out.2⟩)
              obtain ⟨D2, T⟩ := HT.out
              have T := hidden T
              clear HT
              have HH := hidden (show SymP O D2 g a mid wr wr from Half.asis (s := s) (by omega) (by omega) (by omega) T.out.s1 T.out.s2 T.out.row)
              obtain ⟨D3, hx1, hx2, hx3⟩ := HH.out
              have X1 := hidden hx1
              have X2 := hidden hx2
              have X3 := hidden hx3
              clear hx1 hx2 hx3 HH
              have HI2 := hidden (ih_call IH.out cap HE.out (T.out.st.trans X3.out (fun i hi => .inl hi)) X2.out HI.out (X1.out.perm.trans T.out.perm) Hn.out (a := mid) (m := e) (b := b) (by omega) (by omega) (by omega) (T.out.s3.of_out X1.out.mix (by omega)) (T.out.s4.of_out X1.out.mix (by omega)) hn hO (by omega))
              go_wp2_with fail
              refine HI2.out.mono ?_
              rintro x w4 ⟨⟨u, rfl⟩, hr⟩
              have HZ := hidden (halves T.out (by have := Hn.out; omega) (by omega) (by omega) X1.out X3.out hr)
              clear hr HI2
              go_wp2
              all_goals (go_end0; exact ⟨⟨_, rfl⟩, HZ.out⟩)
            · have iE : ¬ (e : Int) < (b : Int) := by omega
              have HT := hidden (show ∃ D2, Turned O D g a s mid e b w wr D2 from ⟨D, HTU.out D wr (List.Perm.refl _) (fun k _ => by rw [rotI_none (by omega) (by omega) (by omega)]) HRW.out.1 HRW.out.2⟩)
              obtain ⟨D2, T⟩ := HT.out
              have T := hidden T
              clear HT
              have HH := hidden (show SymP O D2 g a mid wr wr from Half.asis (s := s) (by omega) (by omega) (by omega) T.out.s1 T.out.s2 T.out.row)
              obtain ⟨D3, hx1, hx2, hx3⟩ := HH.out
              have X1 := hidden hx1
              have X2 := hidden hx2
              have X3 := hidden hx3
              clear hx1 hx2 hx3 HH
              have HZ := hidden (halves T.out (by have := Hn.out; omega) (by omega) (by omega) X1.out X3.out (Half.asis (s := e) (by omega) (by omega) (by omega) (T.out.s3.of_out X1.out.mix (by omega)) (T.out.s4.of_out X1.out.mix (by omega)) X2.out))
              go_wp2
              all_goals (go_end0; exact ⟨⟨_, rfl⟩, HZ.out⟩)
      · have iA : ¬ (s : Int) < (m : Int) := by omega
        have jA : ¬ (mid : Int) < (e : Int) := by omega
        by_cases cB : m < e
        · have iB : (m : Int) < (e : Int) := by omega
          have jB : (s : Int) < (mid : Int) := by omega
          by_cases cC : a < s
          · have iC : (a : Int) < (s : Int) := by omega
            by_cases cE : e < b
            · have iE : (e : Int) < (b : Int) := by omega
              have HT := hidden (show ∃ D2, Turned O D g a s mid e b w wr D2 from ⟨D, HTU.out D wr (List.Perm.refl _) (fun k _ => by rw [rotI_none (by omega) (by omega) (by omega)]) HRW.out.1 HRW.out.2⟩)
              obtain ⟨D2, T⟩ := HT.out
              have T := hidden T
              clear HT
              have HI1 := hidden (ih_call IH.out cap HE.out T.out.st T.out.row HI.out T.out.perm Hn.out (a := a) (m := s) (b := mid) (by omega) (by omega) (by omega) T.out.s1 T.out.s2 hn hO (by omega))
              go_wp2_with fail
              refine HI1.out.mono ?_
              rintro x w3 ⟨⟨u, rfl⟩, hr⟩
              have HH := hidden hr
              clear hr HI1
              obtain ⟨D3, hx1, hx2, hx3⟩ := HH.out
              have X1 := hidden hx1
              have X2 := hidden hx2
              have X3 := hidden hx3
              clear hx1 hx2 hx3 HH
              have HZ := hidden (halves T.out (by have := Hn.out; omega) (by omega) (by omega) X1.out X3.out (Half.asis (s := e) (by omega) (by omega) (by omega) (T.out.s3.of_out X1.out.mix (by omega)) (T.out.s4.of_out X1.out.mix (by omega)) X2.out))
              go_wp2
              all_goals (go_end0; exact ⟨⟨_, rfl⟩, HZ.out⟩)
            · have iE : ¬ (e : Int) < (b : Int) := by omega
              have HT := hidden (show ∃ D2, Turned O D g a s mid e b w wr D2 from ⟨D, HTU.out D wr (List.Perm.refl _) (fun k _ => by rw [rotI_none (by omega) (by omega) (by omega)]) HRW.out.1 HRW.out.2⟩)
              obtain ⟨D2, T⟩ := HT.out
              have T := hidden T
              clear HT
              have HI1 := hidden (ih_call IH.out cap HE.out T.out.st T.out.row HI.out T.out.perm Hn.out (a := a) (m := s) (b := mid) (by omega) (by omega) (by omega) T.out.s1 T.out.s2 hn hO (by omega))
              go_wp2_with fail
              refine HI1.out.mono ?_
              rintro x w3 ⟨⟨u, rfl⟩, hr⟩
              have HH := hidden hr
              clear hr HI1
              obtain ⟨D3, hx1, hx2, hx3⟩ := HH.out
              have X1 := hidden hx1
              have X2 := hidden hx2
              have X3 := hidden hx3
              clear hx1 hx2 hx3 HH
              have HZ := hidden (halves T.out (by have := Hn.out; omega) (by omega) (by omega) X1.out X3.out (Half.asis (s := e) (by omega) (by omega) (by omega) (T.out.s3.of_out X1.out.mix (by omega)) (T.out.s4.of_out X1.out.mix (by omega)) X2.out))
              go_wp2
              all_goals (go_end0; exact ⟨⟨_, rfl⟩, HZ.out⟩)
          · have iC : ¬ (a : Int) < (s : Int) := by omega
            by_cases cE : e < b
            · have iE : (e : Int) < (b : Int) := by omega
              have HT := hidden (show ∃ D2, Turned O D g a s mid e b w wr D2 from ⟨D, HTU.out D wr (List.Perm.refl _) (fun k _ => by rw [rotI_none (by omega) (by omega) (by omega)]) HRW.out.1 HRW.out.2⟩)
              obtain ⟨D2, T⟩ := HT.out
              have T := hidden T
              clear HT
              have HH := hidden (show SymP O D2 g a mid wr wr from Half.asis (s := s) (by omega) (by omega) (by omega) T.out.s1 T.out.s2 T.out.row)
              obtain ⟨D3, hx1, hx2, hx3⟩ := HH.out
              have X1 := hidden hx1
              have X2 := hidden hx2
              have X3 := hidden hx3
              clear hx1 hx2 hx3 HH
              have HZ := hidden (halves T.out (by have := Hn.out; omega) (by omega) (by omega) X1.out X3.out (Half.asis (s := e) (by omega) (by omega) (by omega) (T.out.s3.of_out X1.out.mix (by omega)) (T.out.s4.of_out X1.out.mix (by omega)) X2.out))
              go_wp2
              all_goals (go_end0; exact ⟨⟨_, rfl⟩, HZ.out⟩)
            · have iE : ¬ (e : Int) < (b : Int) := by omega
              have HT := hidden (show ∃ D2, Turned O D g a s mid e b w wr D2 from ⟨D, HTU.out D wr (List.Perm.refl _) (fun k _ => by rw [rotI_none (by omega) (by omega) (by omega)]) HRW.out.1 HRW.out.2⟩)
              obtain ⟨D2, T⟩ := HT.out
              have T := hidden T
              clear HT
              have HH := hidden (show SymP O D2 g a mid wr wr from Half.asis (s := s) (by omega) (by omega) (by omega) T.out.s1 T.out.s2 T.out.row)
              obtain ⟨D3, hx1, hx2, hx3⟩ := HH.out
              have X1 := hidden hx1
              have X2 := hidden hx2
              have X3 := hidden hx3
              clear hx1 hx2 hx3 HH
              have HZ := hidden (halves T.out (by have := Hn.out; omega) (by omega) (by omega) X1.out X3.out (Half.asis (s := e) (by omega) (by omega) (by omega) (T.out.s3.of_out X1.out.mix (by omega)) (T.out.s4.of_out X1.out.mix (by omega)) X2.out))
              go_wp2
              all_goals (go_end0; exact ⟨⟨_, rfl⟩, HZ.out⟩)
        · have iB : ¬ (m : Int) < (e : Int) := by omega
          have jB : ¬ (s : Int) < (mid : Int) := by omega
          by_cases cC : a < s
          · have iC : (a : Int) < (s : Int) := by omega
            by_cases cE : e < b
            · have iE : (e : Int) < (b : Int) := by omega
              have HT := hidden (show ∃ D2, Turned O D g a s mid e b w wr D2 from ⟨D, HTU.out D wr (List.Perm.refl _) (fun k _ => by rw [rotI_none (by omega) (by omega) (by omega)]) HRW.out.1 HRW.out.2⟩)
              obtain ⟨D2, T⟩ := HT.out
              have T := hidden T
              clear HT
              have HH := hidden (show SymP O D2 g a mid wr wr from Half.asis (s := s) (by omega) (by omega) (by omega) T.out.s1 T.out.s2 T.out.row)
              obtain ⟨D3, hx1, hx2, hx3⟩ := HH.out
              have X1 := hidden hx1
              have X2 := hidden hx2
              have X3 := hidden hx3
              clear hx1 hx2 hx3 HH
              have HZ := hidden (halves T.out (by have := Hn.out; omega) (by omega) (by omega) X1.out X3.out (Half.asis (s := e) (by omega) (by omega) (by omega) (T.out.s3.of_out X1.out.mix (by omega)) (T.out.s4.of_out X1.out.mix (by omega)) X2.out))
              go_wp2
              all_goals (go_end0; exact ⟨⟨_, rfl⟩, HZ.out⟩)
            · have iE : ¬ (e : Int) < (b : Int) := by omega
              have HT := hidden (show ∃ D2, Turned O D g a s mid e b w wr D2 from ⟨D, HTU.out D wr (List.Perm.refl _) (fun k _ => by rw [rotI_none (by omega) (by omega) (by omega)]) HRW.out.1 HRW.out.2⟩)
              obtain ⟨D2, T⟩ := HT.out
              have T := hidden T
              clear HT
              have HH := hidden (show SymP O D2 g a mid wr wr from Half.asis (s := s) (by omega) (by omega) (by omega) T.out.s1 T.out.s2 T.out.row)
              obtain ⟨D3, hx1, hx2, hx3⟩ := HH.out
              have X1 := hidden hx1
              have X2 := hidden hx2
              have X3 := hidden hx3
              clear hx1 hx2 hx3 HH
              have HZ := hidden (halves T.out (by have := Hn.out; omega) (by omega) (by omega) X1.out X3.out (Half.asis (s := e) (by omega) (by omega) (by omega) (T.out.s3.of_out X1.out.mix (by omega)) (T.out.s4.of_out X1.out.mix (by omega)) X2.out))
              go_wp2
              all_goals (go_end0; exact ⟨⟨_, rfl⟩, HZ.out⟩)
          · have iC : ¬ (a : Int) < (s : Int) := by omega
            by_cases cE : e < b
            · have iE : (e : Int) < (b : Int) := by omega
              have HT := hidden (show ∃ D2, Turned O D g a s mid e b w wr D2 from ⟨D, HTU.out D wr (List.Perm.refl _) (fun k _ => by rw [rotI_none (by omega) (by omega) (by omega)]) HRW.out.1 HRW.out.2⟩)
              obtain ⟨D2, T⟩ := HT.out
              have T := hidden T
              clear HT
              have HH := hidden (show SymP O D2 g a mid wr wr from Half.asis (s := s) (by omega) (by omega) (by omega) T.out.s1 T.out.s2 T.out.row)
              obtain ⟨D3, hx1, hx2, hx3⟩ := HH.out
              have X1 := hidden hx1
              have X2 := hidden hx2
              have X3 := hidden hx3
              clear hx1 hx2 hx3 HH
              have HZ := hidden (halves T.out (by have := Hn.out; omega) (by omega) (by omega) X1.out X3.out (Half.asis (s := e) (by omega) (by omega) (by omega) (T.out.s3.of_out X1.out.mix (by omega)) (T.out.s4.of_out X1.out.mix (by omega)) X2.out))
              go_wp2
              all_goals (go_end0; exact ⟨⟨_, rfl⟩, HZ.out⟩)
            · have iE : ¬ (e : Int) < (b : Int) := by omega
              have HT := hidden (show ∃ D2, Turned O D g a s mid e b w wr D2 from ⟨D, HTU.out D wr (List.Perm.refl _) (fun k _ => by rw [rotI_none (by omega) (by omega) (by omega)]) HRW.out.1 HRW.out.2⟩)
              obtain ⟨D2, T⟩ := HT.out
              have T := hidden T
              clear HT
              have HH := hidden (show SymP O D2 g a mid wr wr from Half.asis (s := s) (by omega) (by omega) (by omega) T.out.s1 T.out.s2 T.out.row)
              obtain ⟨D3, hx1, hx2, hx3⟩ := HH.out
              have X1 := hidden hx1
              have X2 := hidden hx2
              have X3 := hidden hx3
              clear hx1 hx2 hx3 HH
              have HZ := hidden (halves T.out (by have := Hn.out; omega) (by omega) (by omega) X1.out X3.out (Half.asis (s := e) (by omega) (by omega) (by omega) (T.out.s3.of_out X1.out.mix (by omega)) (T.out.s4.of_out X1.out.mix (by omega)) X2.out))
              go_wp2
              all_goals (go_end0; exact ⟨⟨_, rfl⟩, HZ.out⟩)

end Go.Proofs.Ytkglackbbcfhbaa

namespace Go.Proofs.Ytkglackbbcfhbaa
open Go.RowKit
set_option maxRecDepth 100000
set_option linter.unusedVariables false


set_option maxHeartbeats 8000000 in
theorem sym_lo {a b : Nat} (IH : ∀ k, k < b - a → SymOk k) (O : List Int) (v : Value) (B g : Nat) (D : List Int) (m cap mid : Nat) (w : World) (hE : Env w B g v O) (hD : Row w g D) (hin : InO O D) (ham : a + 1 < m) (hmb : m + 1 < b) (hb : b ≤ D.length) (hs1 : Sr O D a m) (hs2 : Sr O D m b) (hn : D.length ≤ 100000) (hO : O.length ≤ 100000) (hmid : mid = (a + b) / 2) (hgt : m ≤ mid) :
    Calls Try.prog 38 #[.slice (some ⟨g, 0, none⟩) D.length cap, .int .i64 (a : Int), .int .i64 (m : Int), .int .i64 (b : Int), cmpV B] w
      fun e w' => (∃ u, e = .returned u) ∧ SymP O D g a b w w' := by
  have HC := hidden (fun (u : World) (hu : ∃ q, u = w.drewN q) i j (hi : i < D.length) (hj : j < D.length) => cmp_at (w := u) (by obtain ⟨q, rfl⟩ := hu; exact hE.drewN q) (by obtain ⟨q, rfl⟩ := hu; exact hD.drewN q) hin hO i j hi hj)
  have HE := hidden hE
  have HD := hidden hD
  have HI := hidden hin
  have HS1 := hidden hs1
  have HS2 := hidden hs2
  have IH := hidden IH
  obtain ⟨n, hnn⟩ : ∃ n, n = D.length := ⟨_, rfl⟩
  have Hn := hidden hnn
  rw [← hnn] at hb hn ⊢
  clear hE hD hin hs1 hs2 hnn
  have emid : ((a : Int) + (b : Int)) / 2 = (mid : Int) := by omega
  have hm1 : a < mid := by omega
  have hm2 : mid < b := by omega
  have hm3 : 2 * mid ≤ a + b := by omega
  have hm4 : a + b ≤ 2 * mid + 1 := by omega
  have e1 : ((m : Int) - (a : Int) == 1) = false := by simp; omega
  have e1' : ¬ ((m : Int) - (a : Int) = 1) := by omega
  have e2 : ((b : Int) - (m : Int) == 1) = false := by simp; omega
  have e2' : ¬ ((b : Int) - (m : Int) = 1) := by omega
  obtain ⟨N, hN⟩ : ∃ N, N = mid + m := ⟨_, rfl⟩
  have eN : (mid : Int) + (m : Int) = (N : Int) := by omega
  obtain ⟨P, hP⟩ : ∃ P, P = N - 1 := ⟨_, rfl⟩
  have eP : (N : Int) - 1 = (P : Int) := by omega
  have iM : ¬ (mid : Int) < (m : Int) := by omega
  have HN := hidden hN
  have HP := hidden (show P + 1 = N by omega)
  have hN1 : N ≤ 300000 := by omega
  have hP1 : P ≤ 300000 := by omega
  clear hN hP hmid
  go_enter Try.func38, Try.ntmps38
  go_wp2
  go_loopw [20, 21] (fun iv jv wr => ∃ s r : Nat, iv = .int .i64 (s : Int) ∧ jv = .int .i64 (r : Int) ∧ a ≤ s ∧ s ≤ r ∧ r ≤ m ∧ Hid (a < s → key O (D.getD (s - 1) 0) ≤ key O (D.getD (P - (s - 1)) 0)) ∧ Hid (r < m → key O (D.getD (P - r) 0) < key O (D.getD r 0)) ∧ Hid (∃ q, wr = w.drewN q)) (fun iv jv _ => (intOf jv - intOf iv).toNat)
  case atStart => exact ⟨a, m, rfl, rfl, by omega, by omega, by omega, (fun h => by omega), (fun h => by omega), 0, rfl⟩
  case round =>
    obtain ⟨s, r, rfl, rfl, h1, h2, h3, HL, HR, HW⟩ := hrel
    by_cases hij : s < r
    · have hij' : (s : Int) < (r : Int) := by omega
      obtain ⟨c, hc0⟩ : ∃ c, c = (s + r) / 2 := ⟨_, rfl⟩
      have hh1 : s ≤ c := by omega
      have hh2 : c < r := by omega
      obtain ⟨pc, hpc⟩ : ∃ pc, pc = P - c := ⟨_, rfl⟩
      have hpc1 : pc < n := by have := HN.out; have := HP.out; omega
      have hpc2 : pc + c = P := by have := HN.out; have := HP.out; omega
      obtain ⟨x, y, cv, c1, c2, hcv, HCC⟩ := HC.out wr HW.out pc c (by have := Hn.out; omega) (by have := Hn.out; omega)
      have HCC := hidden HCC
      have Hcv := hidden hcv
      have Hpc := hidden hpc
      have ec : ((s : Int) + (r : Int)) / 2 = (c : Int) := by omega
      have epc : (P : Int) - (c : Int) = (pc : Int) := by omega
      have hl1 : (pc : Int) < (n : Int) := by omega
      have hl2 : (c : Int) < (n : Int) := by omega
      clear hcv hc0 hpc hpc2
      by_cases hc : cv < 0
      · have hk := hidden (Hcv.out.1 hc)
        go_wp2
        go_quiet ((go_at_call 30; exact Calls.quiet_of (HCC.out _)))
        go_wp2
        all_goals try (exfalso; first | omega | (rename_i hz; simp at hz; omega))
        go_roundw
        case rel => exact ⟨s, c, rfl, rfl, by omega, by omega, by omega, HL, (fun _ => by rw [← Hpc.out]; exact hk.out), (by obtain ⟨q, rfl⟩ := HW.out; exact ⟨_, World.drewN_drewN _ _ _⟩)⟩
        case measure => simp [intOf]; omega
      · have hk := hidden (Int.not_lt.1 (fun z => hc (Hcv.out.2 z)))
        have hc' : (0 : Int) ≤ cv := by omega
        have hnb : (!decide (cv < 0)) = true := by simp; omega
        have hnc : decide (cv < 0) = false := by simp; omega
        go_wp2
        go_quiet ((go_at_call 30; exact Calls.quiet_of (HCC.out _)))
        go_wp2
        all_goals try (exfalso; first | omega | (rename_i hz; simp at hz; omega))
        go_roundw
        case rel => exact ⟨c + 1, r, by go_num, rfl, by omega, by omega, by omega, (fun _ => by rw [Nat.add_sub_cancel, ← Hpc.out]; exact hk.out), HR, (by obtain ⟨q, rfl⟩ := HW.out; exact ⟨_, World.drewN_drewN _ _ _⟩)⟩
        case measure => simp [intOf]; omega
    · have hij' : ¬ (s : Int) < (r : Int) := by omega
      have hij2 : s = r := by omega
      subst hij2
      obtain ⟨e, he⟩ : ∃ e, e = N - s := ⟨_, rfl⟩
      have ee : (N : Int) - (s : Int) = (e : Int) := by have := HN.out; omega
      have ee2 : s + e = mid + m := by have := HN.out; omega
      have HRW := hidden (show Row wr g D ∧ Step (fun k => k = g) w wr by obtain ⟨q, rfl⟩ := HW.out; exact ⟨HD.out.drewN q, (Step.refl _ _).drewN q⟩)
      have b1 : a ≤ s := by omega
      have b2 : s ≤ m := by omega
      have b3 : m ≤ e := by omega
      have b4 : e ≤ b := by have := HN.out; omega
      have b5 : s ≤ mid := by omega
      have b6 : mid ≤ e := by omega
      have HX := hidden (show a < s → e < b → key O (D.getD (s - 1) 0) ≤ key O (D.getD e 0) from fun x y => by
        have z := HL.out (by have := HN.out; omega)
        rwa [show P - (s - 1) = e by have := HP.out; have := HN.out; omega] at z)
      have HY := hidden (show s < m → m < e → key O (D.getD (e - 1) 0) ≤ key O (D.getD s 0) from fun x y => by
        have z := HR.out (by omega)
        rw [show P - s = e - 1 by have := HP.out; have := HN.out; omega] at z
        omega)
      have HTU := hidden (fun (D2 : List Int) (w2 : World) (hp : List.Perm D2 D) (H : ∀ k, k < D.length → D2.getD k 0 = D.getD (rotI s m e k) 0) (hr : Row w2 g D2) (hst : Step (fun k => k = g) w w2) => turned_of (mid := mid) (b := b) (by omega) (by omega) (by have := Hn.out; omega) b1 b2 b3 b4 (by omega) b5 HS1.out HS2.out HX.out HY.out hp H hr hst)
      have Hee := hidden ee2
      have ee3 : e + s ≤ mid + m := by omega
      have ee4 : mid + m ≤ e + s := by omega
      clear he ee2 h2 h3 hij
      by_cases cA : s < m
      · have iA : (s : Int) < (m : Int) := by omega
        have jA : (mid : Int) < (e : Int) := by omega
        by_cases cB : m < e
        · have iB : (m : Int) < (e : Int) := by omega
          have jB : (s : Int) < (mid : Int) := by omega
          by_cases cC : a < s
          · have iC : (a : Int) < (s : Int) := by omega
            by_cases cE : e < b
            · have iE : (e : Int) < (b : Int) := by omega
              have HRT := hidden (show Calls Try.prog 39 #[.slice (some ⟨g, 0, none⟩) n cap, .int .i64 (s : Int), .int .i64 (m : Int), .int .i64 (e : Int), cmpV B] wr (fun x w' => (∃ u, x = .returned u) ∧ RotP D g s m e wr w') by rw [Hn.out]; exact rotate_any g D s m e cap (cmpV B) wr HRW.out.1 (by omega) (by omega) (by have := Hn.out; omega) (by have := Hn.out; omega))
              go_wp2_with fail
              refine HRT.out.mono ?_
              rintro x w2 ⟨⟨u, rfl⟩, hr⟩
              have HT := hidden (show ∃ D2, Turned O D g a s mid e b w w2 D2 by
                obtain ⟨D2, p1, p2, p3, p4⟩ := hr
                exact ⟨D2, HTU.out D2 w2 p1 p2 p3 (HRW.out.2.trans p4 (fun i hi => .inl hi))⟩)
              clear hr HRT
              obtain ⟨D2, T⟩ := HT.out
              have T := hidden T
              clear HT
              have HI1 := hidden (ih_call IH.out cap HE.out T.out.st T.out.row HI.out T.out.perm Hn.out (a := a) (m := s) (b := mid) (by omega) (by omega) (by omega) T.out.s1 T.out.s2 hn hO (by omega))
              go_wp2_with fail
              refine HI1.out.mono ?_
              rintro x w3 ⟨⟨u, rfl⟩, hr⟩
              have HH := hidden hr
              clear hr HI1
              obtain ⟨D3, hx1, hx2, hx3⟩ := HH.out
              have X1 := hidden hx1
              have X2 := hidden hx2
              have X3 := hidden hx3
              clear hx1 hx2 hx3 HH
              have HI2 := hidden (ih_call IH.out cap HE.out (T.out.st.trans X3.out (fun i hi => .inl hi)) X2.out HI.out (X1.out.perm.trans T.out.perm) Hn.out (a := mid) (m := e) (b := b) (by omega) (by omega) (by omega) (T.out.s3.of_out X1.out.mix (by omega)) (T.out.s4.of_out X1.out.mix (by omega)) hn hO (by omega))
              go_wp2_with fail
              refine HI2.out.mono ?_
              rintro x w4 ⟨⟨u, rfl⟩, hr⟩
              have HZ := hidden (halves T.out (by have := Hn.out; omega) (by omega) (by omega) X1.out X3.out hr)
              clear hr HI2
              go_wp2
              all_goals (go_end0; exact ⟨⟨_, rfl⟩, HZ.out⟩)
            · have iE : ¬ (e : Int) < (b : Int) := by omega
              have HRT := hidden (show Calls Try.prog 39 #[.slice (some ⟨g, 0, none⟩) n cap, .int .i64 (s : Int), .int .i64 (m : Int), .int .i64 (e : Int), cmpV B] wr (fun x w' => (∃ u, x = .returned u) ∧ RotP D g s m e wr w') by rw [Hn.out]; exact rotate_any g D s m e cap (cmpV B) wr HRW.out.1 (by omega) (by omega) (by have := Hn.out; omega) (by have := Hn.out; omega))
              go_wp2_with fail
              refine HRT.out.mono ?_
              rintro x w2 ⟨⟨u, rfl⟩, hr⟩
              have HT := hidden (show ∃ D2, Turned O D g a s mid e b w w2 D2 by
                obtain ⟨D2, p1, p2, p3, p4⟩ := hr
                exact ⟨D2, HTU.out D2 w2 p1 p2 p3 (HRW.out.2.trans p4 (fun i hi => .inl hi))⟩)
              clear hr HRT
              obtain ⟨D2, T⟩ := HT.out
              have T := hidden T
              clear HT
              have HI1 := hidden (ih_call IH.out cap HE.out T.out.st T.out.row HI.out T.out.perm Hn.out (a := a) (m := s) (b := mid) (by omega) (by omega) (by omega) T.out.s1 T.out.s2 hn hO (by omega))
              go_wp2_with fail
              refine HI1.out.mono ?_
              rintro x w3 ⟨⟨u, rfl⟩, hr⟩
              have HH := hidden hr
              clear hr HI1
              obtain ⟨D3, hx1, hx2, hx3⟩ := HH.out
              have X1 := hidden hx1
              have X2 := hidden hx2
              have X3 := hidden hx3
              clear hx1 hx2 hx3 HH
              have HZ := hidden (halves T.out (by have := Hn.out; omega) (by omega) (by omega) X1.out X3.out (Half.asis (s := e) (by omega) (by omega) (by omega) (T.out.s3.of_out X1.out.mix (by omega)) (T.out.s4.of_out X1.out.mix (by omega)) X2.out))
              go_wp2
              all_goals (go_end0; exact ⟨⟨_, rfl⟩, HZ.out⟩)
          · have iC : ¬ (a : Int) < (s : Int) := by omega
            by_cases cE : e < b
            · have iE : (e : Int) < (b : Int) := by omega
              have HRT := hidden (show Calls Try.prog 39 #[.slice (some ⟨g, 0, none⟩) n cap, .int .i64 (s : Int), .int .i64 (m : Int), .int .i64 (e : Int), cmpV B] wr (fun x w' => (∃ u, x = .returned u) ∧ RotP D g s m e wr w') by rw [Hn.out]; exact rotate_any g D s m e cap (cmpV B) wr HRW.out.1 (by omega) (by omega) (by have := Hn.out; omega) (by have := Hn.out; omega))
              go_wp2_with fail
              refine HRT.out.mono ?_
              rintro x w2 ⟨⟨u, rfl⟩, hr⟩
              have HT := hidden (show ∃ D2, Turned O D g a s mid e b w w2 D2 by
                obtain ⟨D2, p1, p2, p3, p4⟩ := hr
                exact ⟨D2, HTU.out D2 w2 p1 p2 p3 (HRW.out.2.trans p4 (fun i hi => .inl hi))⟩)
              clear hr HRT
              obtain ⟨D2, T⟩ := HT.out
              have T := hidden T
              clear HT
              have HH := hidden (show SymP O D2 g a mid w2 w2 from Half.asis (s := s) (by omega) (by omega) (by omega) T.out.s1 T.out.s2 T.out.row)
              obtain ⟨D3, hx1, hx2, hx3⟩ := HH.out
              have X1 := hidden hx1
              have X2 := hidden hx2
              have X3 := hidden hx3
              clear hx1 hx2 hx3 HH
              have HI2 := hidden (ih_call IH.out cap HE.out (T.out.st.trans X3.out (fun i hi => .inl hi)) X2.out HI.out (X1.out.perm.trans T.out.perm) Hn.out (a := mid) (m := e) (b := b) (by omega) (by omega) (by omega) (T.out.s3.of_out X1.out.mix (by omega)) (T.out.s4.of_out X1.out.mix (by omega)) hn hO (by omega))
              go_wp2_with fail
              refine HI2.out.mono ?_
              rintro x w4 ⟨⟨u, rfl⟩, hr⟩
              have HZ := hidden (halves T.out (by have := Hn.out; omega) (by omega) (by omega) X1.out X3.out hr)
              clear hr HI2
              go_wp2
              all_goals (go_end0; exact ⟨⟨_, rfl⟩, HZ.out⟩)
            · have iE : ¬ (e : Int) < (b : Int) := by omega
              have HRT := hidden (show Calls Try.prog 39 #[.slice (some ⟨g, 0, none⟩) n cap, .int .i64 (s : Int), .int .i64 (m : Int), .int .i64 (e : Int), cmpV B] wr (fun x w' => (∃ u, x = .returned u) ∧ RotP D g s m e wr w') by rw [Hn.out]; exact rotate_any g D s m e cap (cmpV B) wr HRW.out.1 (by omega) (by omega) (by have := Hn.out; omega) (by have := Hn.out; omega))
              go_wp2_with fail
              refine HRT.out.mono ?_
              rintro x w2 ⟨⟨u, rfl⟩, hr⟩
              have HT := hidden (show ∃ D2, Turned O D g a s mid e b w w2 D2 by
                obtain ⟨D2, p1, p2, p3, p4⟩ := hr
                exact ⟨D2, HTU.out D2 w2 p1 p2 p3 (HRW.out.2.trans p4 (fun i hi => .inl hi))⟩)
              clear hr HRT
              obtain ⟨D2, T⟩ := HT.out
              have T := hidden T
              clear HT
              have HH := hidden (show SymP O D2 g a mid w2 w2 from Half.asis (s := s) (by omega) (by omega) (by omega) T.out.s1 T.out.s2 T.out.row)
              obtain ⟨D3, hx1, hx2, hx3⟩ := HH.out
              have X1 := hidden hx1
              have X2 := hidden hx2
              have X3 := hidden hx3
              clear hx1 hx2 hx3 HH
              have HZ := hidden (halves T.out (by have := Hn.out; omega) (by omega) (by omega) X1.out X3.out (Half.asis (s := e) (by omega) (by omega) (by omega) (T.out.s3.of_out X1.out.mix (by omega)) (T.out.s4.of_out X1.out.mix (by omega)) X2.out))
              go_wp2
              all_goals (go_end0; exact ⟨⟨_, rfl⟩, HZ.out⟩)
        · have iB : ¬ (m : Int) < (e : Int) := by omega
          have jB : ¬ (s : Int) < (mid : Int) := by omega
          by_cases cC : a < s
          · have iC : (a : Int) < (s : Int) := by omega
            by_cases cE : e < b
            · have iE : (e : Int) < (b : Int) := by omega
              have HT := hidden (show ∃ D2, Turned O D g a s mid e b w wr D2 from ⟨D, HTU.out D wr (List.Perm.refl _) (fun k _ => by rw [rotI_none (by omega) (by omega) (by omega)]) HRW.out.1 HRW.out.2⟩)
              obtain ⟨D2, T⟩ := HT.out
              have T := hidden T
              clear HT
              have HH := hidden (show SymP O D2 g a mid wr wr from Half.asis (s := s) (by omega) (by omega) (by omega) T.out.s1 T.out.s2 T.out.row)
              obtain ⟨D3, hx1, hx2, hx3⟩ := HH.out
              have X1 := hidden hx1
              have X2 := hidden hx2
              have X3 := hidden hx3
              clear hx1 hx2 hx3 HH
              have HI2 := hidden (ih_call IH.out cap HE.out (T.out.st.trans X3.out (fun i hi => .inl hi)) X2.out HI.out (X1.out.perm.trans T.out.perm) Hn.out (a := mid) (m := e) (b := b) (by omega) (by omega) (by omega) (T.out.s3.of_out X1.out.mix (by omega)) (T.out.s4.of_out X1.out.mix (by omega)) hn hO (by omega))
              go_wp2_with fail
              refine HI2.out.mono ?_
              rintro x w4 ⟨⟨u, rfl⟩, hr⟩
              have HZ := hidden (halves T.out (by have := Hn.out; omega) (by omega) (by omega) X1.out X3.out hr)
              clear hr HI2
              go_wp2
              all_goals (go_end0; exact ⟨⟨_, rfl⟩, HZ.out⟩)
            · have iE : ¬ (e : Int) < (b : Int) := by omega
              have HT := hidden (show ∃ D2, Turned O D g a s mid e b w wr D2 from ⟨D, HTU.out D wr (List.Perm.refl _) (fun k _ => by rw [rotI_none (by omega) (by omega) (by omega)]) HRW.out.1 HRW.out.2⟩)
              obtain ⟨D2, T⟩ := HT.out
              have T := hidden T
              clear HT
              have HH := hidden (show SymP O D2 g a mid wr wr from Half.asis (s := s) (by omega) (by omega) (by omega) T.out.s1 T.out.s2 T.out.row)
              obtain ⟨D3, hx1, hx2, hx3⟩ := HH.out
              have X1 := hidden hx1
              have X2 := hidden hx2
              have X3 := hidden hx3
              clear hx1 hx2 hx3 HH
              have HZ := hidden (halves T.out (by have := Hn.out; omega) (by omega) (by omega) X1.out X3.out (Half.asis (s := e) (by omega) (by omega) (by omega) (T.out.s3.of_out X1.out.mix (by omega)) (T.out.s4.of_out X1.out.mix (by omega)) X2.out))
              go_wp2
              all_goals (go_end0; exact ⟨⟨_, rfl⟩, HZ.out⟩)
          · have iC : ¬ (a : Int) < (s : Int) := by omega
            by_cases cE : e < b
            · have iE : (e : Int) < (b : Int) := by omega
              have HT := hidden (show ∃ D2, Turned O D g a s mid e b w wr D2 from ⟨D, HTU.out D wr (List.Perm.refl _) (fun k _ => by rw [rotI_none (by omega) (by omega) (by omega)]) HRW.out.1 HRW.out.2⟩)
              obtain ⟨D2, T⟩ := HT.out
              have T := hidden T
              clear HT
              have HH := hidden (show SymP O D2 g a mid wr wr from Half.asis (s := s) (by omega) (by omega) (by omega) T.out.s1 T.out.s2 T.out.row)
              obtain ⟨D3, hx1, hx2, hx3⟩ := HH.out
              have X1 := hidden hx1
              have X2 := hidden hx2
              have X3 := hidden hx3
              clear hx1 hx2 hx3 HH
              have HI2 := hidden (ih_call IH.out cap HE.out (T.out.st.trans X3.out (fun i hi => .inl hi)) X2.out HI.out (X1.out.perm.trans T.out.perm) Hn.out (a := mid) (m := e) (b := b) (by omega) (by omega) (by omega) (T.out.s3.of_out X1.out.mix (by omega)) (T.out.s4.of_out X1.out.mix (by omega)) hn hO (by omega))
              go_wp2_with fail
              refine HI2.out.mono ?_
              rintro x w4 ⟨⟨u, rfl⟩, hr⟩
              have HZ := hidden (halves T.out (by have := Hn.out; omega) (by omega) (by omega) X1.out X3.out hr)
              clear hr HI2
              go_wp2
              all_goals (go_end0; exact ⟨⟨_, rfl⟩, HZ.out⟩)
            · have iE : ¬ (e : Int) < (b : Int) := by omega
              have HT := hidden (show ∃ D2, Turned O D g a s mid e b w wr D2 from ⟨D, HTU.out D wr (List.Perm.refl _) (fun k _ => by rw [rotI_none (by omega) (by omega) (by omega)]) HRW.out.1 HRW.out.2⟩)
              obtain ⟨D2, T⟩ := HT.out
              have T := hidden T
              clear HT
              have HH := hidden (show SymP O D2 g a mid wr wr from Half.asis (s := s) (by omega) (by omega) (by omega) T.out.s1 T.out.s2 T.out.row)
              obtain ⟨D3, hx1, hx2, hx3⟩ := HH.out
              have X1 := hidden hx1
              have X2 := hidden hx2
              have X3 := hidden hx3
              clear hx1 hx2 hx3 HH
              have HZ := hidden (halves T.out (by have := Hn.out; omega) (by omega) (by omega) X1.out X3.out (Half.asis (s := e) (by omega) (by omega) (by omega) (T.out.s3.of_out X1.out.mix (by omega)) (T.out.s4.of_out X1.out.mix (by omega)) X2.out))
              go_wp2
              all_goals (go_end0; exact ⟨⟨_, rfl⟩, HZ.out⟩)
      · have iA : ¬ (s : Int) < (m : Int) := by omega
        have jA : ¬ (mid : Int) < (e : Int) := by omega
        by_cases cB : m < e
        · have iB : (m : Int) < (e : Int) := by omega
          have jB : (s : Int) < (mid : Int) := by omega
          by_cases cC : a < s
          · have iC : (a : Int) < (s : Int) := by omega
            by_cases cE : e < b
            · have iE : (e : Int) < (b : Int) := by omega
              have HT := hidden (show ∃ D2, Turned O D g a s mid e b w wr D2 from ⟨D, HTU.out D wr (List.Perm.refl _) (fun k _ => by rw [rotI_none (by omega) (by omega) (by omega)]) HRW.out.1 HRW.out.2⟩)
              obtain ⟨D2, T⟩ := HT.out
              have T := hidden T
              clear HT
              have HI1 := hidden (ih_call IH.out cap HE.out T.out.st T.out.row HI.out T.out.perm Hn.out (a := a) (m := s) (b := mid) (by omega) (by omega) (by omega) T.out.s1 T.out.s2 hn hO (by omega))
              go_wp2_with fail
              refine HI1.out.mono ?_
              rintro x w3 ⟨⟨u, rfl⟩, hr⟩
              have HH := hidden hr
              clear hr HI1
              obtain ⟨D3, hx1, hx2, hx3⟩ := HH.out
              have X1 := hidden hx1
              have X2 := hidden hx2
              have X3 := hidden hx3
              clear hx1 hx2 hx3 HH
              have HZ := hidden (halves T.out (by have := Hn.out; omega) (by omega) (by omega) X1.out X3.out (Half.asis (s := e) (by omega) (by omega) (by omega) (T.out.s3.of_out X1.out.mix (by omega)) (T.out.s4.of_out X1.out.mix (by omega)) X2.out))
              go_wp2
              all_goals (go_end0; exact ⟨⟨_, rfl⟩, HZ.out⟩)
            · have iE : ¬ (e : Int) < (b : Int) := by omega
              have HT := hidden (show ∃ D2, Turned O D g a s mid e b w wr D2 from ⟨D, HTU.out D wr (List.Perm.refl _) (fun k _ => by rw [rotI_none (by omega) (by omega) (by omega)]) HRW.out.1 HRW.out.2⟩)
              obtain ⟨D2, T⟩ := HT.out
              have T := hidden T
              clear HT
              have HI1 := hidden (ih_call IH.out cap HE.out T.out.st T.out.row HI.out T.out.perm Hn.out (a := a) (m := s) (b := mid) (by omega) (by omega) (by omega) T.out.s1 T.out.s2 hn hO (by omega))
              go_wp2_with fail
              refine HI1.out.mono ?_
              rintro x w3 ⟨⟨u, rfl⟩, hr⟩
              have HH := hidden hr
              clear hr HI1
              obtain ⟨D3, hx1, hx2, hx3⟩ := HH.out
              have X1 := hidden hx1
              have X2 := hidden hx2
              have X3 := hidden hx3
              clear hx1 hx2 hx3 HH
              have HZ := hidden (halves T.out (by have := Hn.out; omega) (by omega) (by omega) X1.out X3.out (Half.asis (s := e) (by omega) (by omega) (by omega) (T.out.s3.of_out X1.out.mix (by omega)) (T.out.s4.of_out X1.out.mix (by omega)) X2.out))
              go_wp2
              all_goals (go_end0; exact ⟨⟨_, rfl⟩, HZ.out⟩)
          · have iC : ¬ (a : Int) < (s : Int) := by omega
            by_cases cE : e < b
            · have iE : (e : Int) < (b : Int) := by omega
              have HT := hidden (show ∃ D2, Turned O D g a s mid e b w wr D2 from ⟨D, HTU.out D wr (List.Perm.refl _) (fun k _ => by rw [rotI_none (by omega) (by omega) (by omega)]) HRW.out.1 HRW.out.2⟩)
              obtain ⟨D2, T⟩ := HT.out
              have T := hidden T
              clear HT
              have HH := hidden (show SymP O D2 g a mid wr wr from Half.asis (s := s) (by omega) (by omega) (by omega) T.out.s1 T.out.s2 T.out.row)
              obtain ⟨D3, hx1, hx2, hx3⟩ := HH.out
              have X1 := hidden hx1
              have X2 := hidden hx2
              have X3 := hidden hx3
              clear hx1 hx2 hx3 HH
              have HZ := hidden (halves T.out (by have := Hn.out; omega) (by omega) (by omega) X1.out X3.out (Half.asis (s := e) (by omega) (by omega) (by omega) (T.out.s3.of_out X1.out.mix (by omega)) (T.out.s4.of_out X1.out.mix (by omega)) X2.out))
              go_wp2
              all_goals (go_end0; exact ⟨⟨_, rfl⟩, HZ.out⟩)
            · have iE : ¬ (e : Int) < (b : Int) := by omega
              have HT := hidden (show ∃ D2, Turned O D g a s mid e b w wr D2 from ⟨D, HTU.out D wr (List.Perm.refl _) (fun k _ => by rw [rotI_none (by omega) (by omega) (by omega)]) HRW.out.1 HRW.out.2⟩)
              obtain ⟨D2, T⟩ := HT.out
              have T := hidden T
              clear HT
              have HH := hidden (show SymP O D2 g a mid wr wr from Half.asis (s := s) (by omega) (by omega) (by omega) T.out.s1 T.out.s2 T.out.row)
              obtain ⟨D3, hx1, hx2, hx3⟩ := HH.out
              have X1 := hidden hx1
              have X2 := hidden hx2
              have X3 := hidden hx3
              clear hx1 hx2 hx3 HH
              have HZ := hidden (halves T.out (by have := Hn.out; omega) (by omega) (by omega) X1.out X3.out (Half.asis (s := e) (by omega) (by omega) (by omega) (T.out.s3.of_out X1.out.mix (by omega)) (T.out.s4.of_out X1.out.mix (by omega)) X2.out))
              go_wp2
              all_goals (go_end0; exact ⟨⟨_, rfl⟩, HZ.out⟩)
        · have iB : ¬ (m : Int) < (e : Int) := by omega
          have jB : ¬ (s : Int) < (mid : Int) := by omega
          by_cases cC : a < s
          · have iC : (a : Int) < (s : Int) := by omega
            by_cases cE : e < b
            · have iE : (e : Int) < (b : Int) := by omega
              have HT := hidden (show ∃ D2, Turned O D g a s mid e b w wr D2 from ⟨D, HTU.out D wr (List.Perm.refl _) (fun k _ => by rw [rotI_none (by omega) (by omega) (by omega)]) HRW.out.1 HRW.out.2⟩)
              obtain ⟨D2, T⟩ := HT.out
              have T := hidden T
              clear HT
              have HH := hidden (show SymP O D2 g a mid wr wr from Half.asis (s := s) (by omega) (by omega) (by omega) T.out.s1 T.out.s2 T.out.row)
              obtain ⟨D3, hx1, hx2, hx3⟩ := HH.out
              have X1 := hidden hx1
              have X2 := hidden hx2
              have X3 := hidden hx3
              clear hx1 hx2 hx3 HH
              have HZ := hidden (halves T.out (by have := Hn.out; omega) (by omega) (by omega) X1.out X3.out (Half.asis (s := e) (by omega) (by omega) (by omega) (T.out.s3.of_out X1.out.mix (by omega)) (T.out.s4.of_out X1.out.mix (by omega)) X2.out))
              go_wp2
              all_goals (go_end0; exact ⟨⟨_, rfl⟩, HZ.out⟩)
            · have iE : ¬ (e : Int) < (b : Int) := by omega
              have HT := hidden (show ∃ D2, Turned O D g a s mid e b w wr D2 from ⟨D, HTU.out D wr (List.Perm.refl _) (fun k _ => by rw [rotI_none (by omega) (by omega) (by omega)]) HRW.out.1 HRW.out.2⟩)
              obtain ⟨D2, T⟩ := HT.out
              have T := hidden T
              clear HT
              have HH := hidden (show SymP O D2 g a mid wr wr from Half.asis (s := s) (by omega) (by omega) (by omega) T.out.s1 T.out.s2 T.out.row)
              obtain ⟨D3, hx1, hx2, hx3⟩ := HH.out
              have X1 := hidden hx1
              have X2 := hidden hx2
              have X3 := hidden hx3
              clear hx1 hx2 hx3 HH
              have HZ := hidden (halves T.out (by have := Hn.out; omega) (by omega) (by omega) X1.out X3.out (Half.asis (s := e) (by omega) (by omega) (by omega) (T.out.s3.of_out X1.out.mix (by omega)) (T.out.s4.of_out X1.out.mix (by omega)) X2.out))
              go_wp2
              all_goals (go_end0; exact ⟨⟨_, rfl⟩, HZ.out⟩)
          · have iC : ¬ (a : Int) < (s : Int) := by omega
            by_cases cE : e < b
            · have iE : (e : Int) < (b : Int) := by omega
              have HT := hidden (show ∃ D2, Turned O D g a s mid e b w wr D2 from ⟨D, HTU.out D wr (List.Perm.refl _) (fun k _ => by rw [rotI_none (by omega) (by omega) (by omega)]) HRW.out.1 HRW.out.2⟩)
              obtain ⟨D2, T⟩ := HT.out
              have T := hidden T
              clear HT
              have HH := hidden (show SymP O D2 g a mid wr wr from Half.asis (s := s) (by omega) (by omega) (by omega) T.out.s1 T.out.s2 T.out.row)
              obtain ⟨D3, hx1, hx2, hx3⟩ := HH.out
              have X1 := hidden hx1
              have X2 := hidden hx2
              have X3 := hidden hx3
              clear hx1 hx2 hx3 HH
              have HZ := hidden (halves T.out (by have := Hn.out; omega) (by omega) (by omega) X1.out X3.out (Half.asis (s := e) (by omega) (by omega) (by omega) (T.out.s3.of_out X1.out.mix (by omega)) (T.out.s4.of_out X1.out.mix (by omega)) X2.out))
              go_wp2
              all_goals (go_end0; exact ⟨⟨_, rfl⟩, HZ.out⟩)
            · have iE : ¬ (e : Int) < (b : Int) := by omega
              have HT := hidden (show ∃ D2, Turned O D g a s mid e b w wr D2 from ⟨D, HTU.out D wr (List.Perm.refl _) (fun k _ => by rw [rotI_none (by omega) (by omega) (by omega)]) HRW.out.1 HRW.out.2⟩)
              obtain ⟨D2, T⟩ := HT.out
              have T := hidden T
              clear HT
              have HH := hidden (show SymP O D2 g a mid wr wr from Half.asis (s := s) (by omega) (by omega) (by omega) T.out.s1 T.out.s2 T.out.row)
              obtain ⟨D3, hx1, hx2, hx3⟩ := HH.out
              have X1 := hidden hx1
              have X2 := hidden hx2
              have X3 := hidden hx3
              clear hx1 hx2 hx3 HH
              have HZ := hidden (halves T.out (by have := Hn.out; omega) (by omega) (by omega) X1.out X3.out (Half.asis (s := e) (by omega) (by omega) (by omega) (T.out.s3.of_out X1.out.mix (by omega)) (T.out.s4.of_out X1.out.mix (by omega)) X2.out))
              go_wp2
              all_goals (go_end0; exact ⟨⟨_, rfl⟩, HZ.out⟩)

theorem sym_all : ∀ k, SymOk k := by
  intro k
  induction k using Nat.strongRecOn with
  | _ k ih =>
    intro O v B g D a m b cap w hE hD hin ham hmb hb hs1 hs2 hn hO hk
    subst hk
    by_cases c1 : a + 1 = m
    · exact sym_left O v B g D a m b cap w hE hD hin c1 hmb hb hs2 hn hO
    · by_cases c2 : m + 1 = b
      · exact sym_right O v B g D a m b cap w hE hD hin (by omega) c2 hb hs1 hn hO
      · by_cases c3 : (a + b) / 2 < m
        · exact sym_hi ih O v B g D m cap _ w hE hD hin (by omega) (by omega) hb hs1 hs2 hn hO rfl c3
        · exact sym_lo ih O v B g D m cap _ w hE hD hin (by omega) (by omega) hb hs1 hs2 hn hO rfl (by omega)

end Go.Proofs.Ytkglackbbcfhbaa

namespace Go.Proofs.Ytkglackbbcfhbaa
open Go.RowKit
set_option maxRecDepth 100000
set_option linter.unusedVariables false

/-- Stretches of z symbols, from place z * t on, are sorted, as far as c. -/
def Blk (O D : List Int) (z c : Nat) : Prop := ∀ t p q, z * t ≤ p → p < q → q < z * t + z → q < c → key O (D.getD p 0) ≤ key O (D.getD q 0)
/-- Those from place a on. -/
def BlkF (O D : List Int) (z a c : Nat) : Prop := ∀ t p q, a ≤ z * t → z * t ≤ p → p < q → q < z * t + z → q < c → key O (D.getD p 0) ≤ key O (D.getD q 0)

theorem Blk.more {O D D' : List Int} {z c b : Nat} (h : Blk O D z (z * c)) (hs : Srt O D (z * c) b D') : Blk O D' z b := by
  intro t p q h1 h2 h3 h4
  by_cases e : t < c
  · have hm : z * (t + 1) ≤ z * c := Nat.mul_le_mul_left z e
    rw [Nat.mul_succ] at hm
    rw [hs.out p (by omega), hs.out q (by omega)]
    exact h t p q h1 h2 h3 (by omega)
  · have hm : z * c ≤ z * t := Nat.mul_le_mul_left z (by omega)
    exact hs.sr p q (by omega) h2 h4

theorem BlkF.more {O D D' : List Int} {z a b b' n : Nat} (h : BlkF O D z a n) (hab : a ≤ b) (hs : Srt O D a b D') : BlkF O D' z b n := by
  intro t p q h0 h1 h2 h3 h4
  rw [hs.out p (by omega), hs.out q (by omega)]
  exact h t p q (by omega) h1 h2 h3 h4

theorem Blk.twice {O D : List Int} {z c n : Nat} (h : Blk O D (2 * z) (2 * z * c)) (hf : BlkF O D z (2 * z * c) n) (hc : n ≤ 2 * z * c + z) : Blk O D (2 * z) n := by
  intro t p q h1 h2 h3 h4
  by_cases e : t < c
  · have hm : 2 * z * (t + 1) ≤ 2 * z * c := Nat.mul_le_mul_left (2 * z) e
    rw [Nat.mul_succ] at hm
    exact h t p q h1 h2 h3 (by omega)
  · have hm : 2 * z * c ≤ 2 * z * t := Nat.mul_le_mul_left (2 * z) (by omega)
    have e1 : z * (2 * c) = 2 * z * c := by rw [Nat.mul_comm 2 z, Nat.mul_assoc]
    exact hf (2 * c) p q (by omega) (by omega) h2 (by omega) h4

theorem BlkF.parts {O D : List Int} {z c n m : Nat} (hf : BlkF O D z (2 * z * c) n) (hm : m = 2 * z * c + z) (b : Nat) (hb : b ≤ n) (hb2 : b ≤ m + z) : Sr O D (2 * z * c) (min m b) ∧ Sr O D m b := by
  have e1 : z * (2 * c) = 2 * z * c := by rw [Nat.mul_comm 2 z, Nat.mul_assoc]
  have e2 : z * (2 * c + 1) = 2 * z * c + z := by rw [Nat.mul_succ, e1]
  refine ⟨fun p q h1 h2 h3 => hf (2 * c) p q (by omega) (by omega) h2 (by omega) (by omega), fun p q h1 h2 h3 => hf (2 * c + 1) p q (by omega) (by omega) h2 (by omega) (by omega)⟩

theorem Blk.all {O D : List Int} {z n : Nat} (h : Blk O D z n) (hz : n ≤ z) : Sr O D 0 n := fun p q h1 h2 h3 => h 0 p q (by simp) h2 (by omega) h3
theorem Blk.from0 {O D : List Int} {z n : Nat} (h : Blk O D z n) : BlkF O D z 0 n := fun t p q _ h1 h2 h3 h4 => h t p q h1 h2 h3 h4
theorem Blk.none (O D : List Int) (z : Nat) : Blk O D z 0 := fun t p q _ _ _ h => by omega

/-- While blocks are sorted. -/
def S1 (O D : List Int) (g a n : Nat) (w w' : World) : Prop := ∃ D', Mix D 0 n D' ∧ Blk O D' 20 a ∧ Row w' g D' ∧ Step (fun k => k = g) w w'
/-- While blocks are merged. -/
def S2 (O D : List Int) (g z a n : Nat) (w w' : World) : Prop := ∃ D', Mix D 0 n D' ∧ Blk O D' (2 * z) a ∧ BlkF O D' z a n ∧ Row w' g D' ∧ Step (fun k => k = g) w w'
/-- Behind a pass. -/
def S3 (O D : List Int) (g z n : Nat) (w w' : World) : Prop := ∃ D', Mix D 0 n D' ∧ Blk O D' z n ∧ Row w' g D' ∧ Step (fun k => k = g) w w'

theorem ins_call {O : List Int} {v : Value} {B g : Nat} {D : List Int} {a b n : Nat} (cap : Nat) {w w2 : World} (hE : Env w B g v O) (hin : InO O D) (hn : n = D.length) (c : Nat) (hc : a = 20 * c) (h : S1 O D g a n w w2) (hab : a ≤ b) (hb : b ≤ n) (hl : n ≤ 100000) (hO : O.length ≤ 100000) :
    Calls Try.prog 37 #[.slice (some ⟨g, 0, none⟩) n cap, .int .i64 (a : Int), .int .i64 (b : Int), cmpV B] w2 fun e w' => (∃ u, e = .returned u) ∧ S1 O D g b n w w' := by
  obtain ⟨D', m1, m2, m3, m4⟩ := h
  have e : n = D'.length := by rw [m1.perm.length_eq]; exact hn
  have k := ins_any O v B g D' a b cap w2 (hE.step m4) m3 (hin.perm m1.perm) hab (by omega) (by omega) hO
  rw [← e] at k
  refine k.mono ?_
  rintro x w3 ⟨hu, D2, p1, p2, p3⟩
  subst hc
  exact ⟨hu, D2, m1.trans (p1.mix.wide (Nat.zero_le _) hb), m2.more p1, p2, m4.trans p3 (fun i hi => .inl hi)⟩

theorem sym_call {O : List Int} {v : Value} {B g : Nat} {D : List Int} {z a m b n : Nat} (cap : Nat) {w w2 : World} (hE : Env w B g v O) (hin : InO O D) (hn : n = D.length) (c : Nat) (hc : a = 2 * z * c) (h : S2 O D g z a n w w2) (hz : 0 < z) (hm : m = a + z) (hmb : m < b) (hb2 : b ≤ m + z) (hb : b ≤ n) (hl : n ≤ 100000) (hO : O.length ≤ 100000) :
    Calls Try.prog 38 #[.slice (some ⟨g, 0, none⟩) n cap, .int .i64 (a : Int), .int .i64 (m : Int), .int .i64 (b : Int), cmpV B] w2 fun e w' => (∃ u, e = .returned u) ∧ S2 O D g z b n w w' := by
  obtain ⟨D', m1, m2, m3, m4, m5⟩ := h
  have e : n = D'.length := by rw [m1.perm.length_eq]; exact hn
  subst hc
  obtain ⟨q1, q2⟩ := m3.parts hm b hb hb2
  rw [Nat.min_eq_left (by omega)] at q1
  have k := sym_all _ O v B g D' (2 * z * c) m b cap w2 (hE.step m5) m4 (hin.perm m1.perm) (by omega) hmb (by omega) q1 q2 (by omega) hO rfl
  rw [← e] at k
  refine k.mono ?_
  rintro x w3 ⟨hu, D2, p1, p2, p3⟩
  exact ⟨hu, D2, m1.trans (p1.mix.wide (Nat.zero_le _) hb), m2.more p1, m3.more (b' := b) (by omega) p1, p2, m5.trans p3 (fun i hi => .inl hi)⟩

theorem S2.start {O D : List Int} {g z n : Nat} {w w' : World} (h : S3 O D g z n w w') : S2 O D g z 0 n w w' := by
  obtain ⟨D', m1, m2, m3, m4⟩ := h
  exact ⟨D', m1, Blk.none _ _ _, m2.from0, m3, m4⟩
theorem S2.stop {O D : List Int} {g z n : Nat} {w w' : World} (h : S2 O D g z n n w w') : S3 O D g (2 * z) n w w' := by
  obtain ⟨D', m1, m2, _, m3, m4⟩ := h
  exact ⟨D', m1, m2, m3, m4⟩
theorem S2.short {O D : List Int} {g z a n : Nat} {w w' : World} (c : Nat) (hc : a = 2 * z * c) (h : S2 O D g z a n w w') (hn : n ≤ a + z) : S3 O D g (2 * z) n w w' := by
  obtain ⟨D', m1, m2, m5, m3, m4⟩ := h
  subst hc
  exact ⟨D', m1, Blk.twice m2 m5 hn, m3, m4⟩

end Go.Proofs.Ytkglackbbcfhbaa

namespace Go.Proofs.Ytkglackbbcfhbaa
open Go.RowKit
set_option maxRecDepth 100000
set_option linter.unusedVariables false

set_option maxHeartbeats 4000000 in
theorem stable_any (O : List Int) (v : Value) (B g : Nat) (D : List Int) (cap : Nat) (w : World) (hE : Env w B g v O) (hD : Row w g D) (hin : InO O D) (hl : D.length ≤ 100000) (hO : O.length ≤ 100000) :
    Calls Try.prog 35 #[.slice (some ⟨g, 0, none⟩) D.length cap, .int .i64 (D.length : Int), cmpV B] w fun e w' => (∃ u, e = .returned u) ∧ ∃ D', Srt O D 0 D.length D' ∧ Row w' g D' ∧ Step (fun k => k = g) w w' := by
  obtain ⟨n, hn⟩ : ∃ n, n = D.length := ⟨_, rfl⟩
  have HI := hidden (fun (a b c : Nat) (w2 : World) (hc : a = 20 * c) (h : S1 O D g a n w w2) (hab : a ≤ b) (hb : b ≤ n) => ins_call cap hE hin hn c hc h hab hb (by omega) hO)
  have HY := hidden (fun (z a m b c : Nat) (w2 : World) (hc : a = 2 * z * c) (h : S2 O D g z a n w w2) (hz : 0 < z) (hm : m = a + z) (hmb : m < b) (hb2 : b ≤ m + z) (hb : b ≤ n) => sym_call cap hE hin hn c hc h hz hm hmb hb2 hb (by omega) hO)
  have H0 := hidden (show S1 O D g 0 n w w from ⟨D, Mix.refl _ _ _, Blk.none _ _ _, hD, Step.refl _ _⟩)
  have HF := hidden (fun (z : Nat) (w2 : World) (hz : n ≤ z) (h : S3 O D g z n w w2) => show ∃ D', Srt O D 0 n D' ∧ Row w2 g D' ∧ Step (fun k => k = g) w w2 by
    obtain ⟨D', m1, m2, m3, m4⟩ := h
    exact ⟨D', ⟨m1.perm, m1.out, m2.all hz⟩, m3, m4⟩)
  rw [← hn] at hl ⊢
  clear hE hD hin hn
  go_enter Try.func35, Try.ntmps35
  go_wp2
  go_loopw [7, 8] (fun av bv wr => ∃ a b : Nat, av = .int .i64 (a : Int) ∧ bv = .int .i64 (b : Int) ∧ a + 20 ≤ b ∧ b ≤ a + 20 ∧ a ≤ n ∧ Hid (∃ c, a = 20 * c) ∧ Hid (S1 O D g a n w wr)) (fun _ bv _ => (n + 40 - intOf bv).toNat)
  case atStart => exact ⟨0, 20, rfl, rfl, by omega, by omega, by omega, ⟨0, rfl⟩, H0.out⟩
  case round =>
    obtain ⟨a, b, rfl, rfl, h1, h2, h3, HC, HS⟩ := hrel
    by_cases hb : b ≤ n
    · have hb' : (b : Int) ≤ (n : Int) := by omega
      have HK := hidden (HI.out a b HC.out.choose wr HC.out.choose_spec HS.out (by omega) hb)
      go_wp2_with fail
      refine HK.out.mono ?_
      rintro x w2 ⟨⟨u, rfl⟩, hr⟩
      have HR := hidden hr
      clear hr HK
      go_wp2
      go_roundw
      case rel => exact ⟨b, b + 20, rfl, by go_num, by omega, by omega, by omega, (by obtain ⟨c, hc⟩ := HC.out; exact ⟨c + 1, by omega⟩), HR.out⟩
      case measure => simp [intOf]; omega
    · have hb' : ¬ (b : Int) ≤ (n : Int) := by omega
      have HK := hidden (HI.out a n HC.out.choose wr HC.out.choose_spec HS.out (by omega) (Nat.le_refl _))
      go_wp2_with fail
      refine HK.out.mono ?_
      rintro x w2 ⟨⟨u, rfl⟩, hr⟩
      have HR := hidden (show S3 O D g 20 n w w2 from hr)
      clear hr HK HS HC h1 h2 h3
      go_wp2
      go_loopw [6, 7, 8, 9] (fun zv _ _ _ wx => ∃ z : Nat, zv = .int .i64 (z : Int) ∧ 20 ≤ z ∧ z ≤ 300000 ∧ Hid (S3 O D g z n w wx)) (fun zv _ _ _ _ => (n - intOf zv).toNat)
      case atStart => exact ⟨20, rfl, by omega, by omega, HR.out⟩
      case round =>
        obtain ⟨z, rfl, z1, z2, HS3⟩ := hrel
        by_cases hz : z < n
        · have hz' : (z : Int) < (n : Int) := by omega
          obtain ⟨Z, hZ⟩ : ∃ Z, Z = 2 * z := ⟨_, rfl⟩
          have eZ : (2 : Int) * (z : Int) = (Z : Int) := by omega
          have eZ' : (z : Int) * 2 = (Z : Int) := by omega
          have hZ1 : Z ≤ 2 * z := by omega
          have hZ2 : 2 * z ≤ Z := by omega
          have HZ := hidden hZ
          have HS2 := hidden (S2.start HS3.out)
          clear hZ HS3
          go_wp2
          go_loopw [7, 8] (fun av bv wy => ∃ a b : Nat, av = .int .i64 (a : Int) ∧ bv = .int .i64 (b : Int) ∧ a + Z ≤ b ∧ b ≤ a + Z ∧ a ≤ n ∧ Hid (∃ c, a = 2 * z * c) ∧ Hid (S2 O D g z a n w wy)) (fun _ bv _ => (n + Z + 1 - intOf bv).toNat)
          case atStart => exact ⟨0, Z, rfl, rfl, by omega, by omega, by omega, ⟨0, by simp⟩, HS2.out⟩
          case round =>
            obtain ⟨a, b, rfl, rfl, h1, h2, h3, HC, HS⟩ := hrel
            obtain ⟨m, hm⟩ : ∃ m, m = a + z := ⟨_, rfl⟩
            have em : (a : Int) + (z : Int) = (m : Int) := by omega
            have hm1 : m ≤ a + z := by omega
            have hm2 : a + z ≤ m := by omega
            by_cases hb2 : b ≤ n
            · have hb2' : (b : Int) ≤ (n : Int) := by omega
              have HK := hidden (HY.out z a m b HC.out.choose _ HC.out.choose_spec HS.out (by omega) hm (by omega) (by omega) hb2)
              clear hm
              go_wp2_with fail
              refine HK.out.mono ?_
              rintro x w3 ⟨⟨u, rfl⟩, hr⟩
              have HR2 := hidden hr
              clear hr HK
              go_wp2
              go_roundw
              case rel => exact ⟨b, b + Z, rfl, by go_num, by omega, by omega, by omega, (by obtain ⟨c, hc⟩ := HC.out; exact ⟨c + 1, by rw [Nat.mul_succ]; omega⟩), HR2.out⟩
              case measure => simp [intOf]; omega
            · have hb2' : ¬ (b : Int) ≤ (n : Int) := by omega
              by_cases hmn : m < n
              · have hmn' : (m : Int) < (n : Int) := by omega
                have HK := hidden (HY.out z a m n HC.out.choose _ HC.out.choose_spec HS.out (by omega) hm hmn (by omega) (Nat.le_refl _))
                clear hm
                go_wp2_with fail
                refine HK.out.mono ?_
                rintro x w3 ⟨⟨u, rfl⟩, hr⟩
                have HR2 := hidden (show S3 O D g Z n w w3 by rw [HZ.out]; exact S2.stop hr)
                clear hr HK
                go_wp2
                go_roundw
                case rel => exact ⟨Z, rfl, by omega, by omega, HR2.out⟩
                case measure => simp [intOf]; omega
              · have hmn' : ¬ (m : Int) < (n : Int) := by omega
                have HR2 := hidden (fun w3 (h : S2 O D g z a n w w3) => show S3 O D g Z n w w3 by rw [HZ.out]; exact S2.short HC.out.choose HC.out.choose_spec h (by omega))
                clear hm
                go_wp2
                go_roundw
                case rel => exact ⟨Z, rfl, by omega, by omega, HR2.out _ HS.out⟩
                case measure => simp [intOf]; omega
        · have hz' : ¬ (z : Int) < (n : Int) := by omega
          have HZZ := hidden (HF.out z _ (by omega) HS3.out)
          go_wp2
          go_end0
          exact ⟨⟨_, rfl⟩, HZZ.out⟩

theorem sort_all (n : Nat) (h : n ≤ 100000) : SortOk n :=
  sort_of_stable n (fun O v B g D cap w hE hD hin hl hO => stable_any O v B g D cap w hE hD hin (by omega) hO) h

end Go.Proofs.Ytkglackbbcfhbaa

namespace Go.Proofs.Ytkglackbbcfhbaa
open Go.RowKit
set_option linter.unusedVariables false

theorem sortAll2 {O : List Int} : ∀ (_ : O.length ≤ 400) n, n = (posTo O O.length).length → SortOk n := fun h n hn => sort_all n (by have := posTo_length O O.length; omega)

theorem Used.rising {O D E : List Int} {m : Nat} (h : Used O D m) (hE : Ris O O.length E) : E = D.map (key O) :=
  List.Perm.eq_of_pairwise (le := (· ≤ ·)) (fun a b _ _ h1 h2 => Int.le_antisymm h1 h2) hE.up h.sorted (hE.pm.trans (h.perm.map (key O)).symm)

theorem Used.leastE {O D E : List Int} {m : Nat} (h : Used O D m) (hE : Ris O O.length E) : csum O (lensOf O D m) O.length = leastN E m := by
  have e := h.rising hE
  have hl : E.length = D.length := by rw [e, List.length_map]
  unfold leastN
  by_cases h2 : D.length < 2
  · rw [if_pos (by omega), h.costs, hl, e]
    refine sm_congr _ (fun p hp => ?_)
    unfold lnA
    rw [if_pos h2]
    simp
  · rw [if_neg (by omega), h.least (by omega), hl, e]

theorem Used.cb {O D : List Int} {m : Nat} (h : Used O D m) : Cb O (lensOf O D m) := by
  have hb := h.bd
  refine ⟨fun k hk => ?_, fun k hk => ?_⟩
  · have := h.often k; omega
  · rw [lensOf_length] at hk
    have := h.bounds hk
    omega

set_option maxRecDepth 100000 in
set_option maxHeartbeats 4000000 in
theorem huffLeast_any (v : Value) (O : List Int) (m : Int) (w : World) (h : Ri w v O) (hl : O.length ≤ 9223372036854775807) :
    Calls Try.prog 3 #[v, .int .i64 m] w fun e w' => e = .returned (.bool true) ∧ Step (fun _ => False) w w' := by
  have HR := hidden h
  obtain ⟨ao, cap, rfl, _, r1, r2⟩ := h
  have R1 := hidden r1
  have R2 := hidden r2
  obtain ⟨n, hn⟩ : ∃ n, n = O.length := ⟨_, rfl⟩
  have Hn := hidden hn
  rw [← hn] at hl HR ⊢
  clear hn r1 r2
  by_cases h400 : n ≤ 400
  · have hO400 : Hid (O.length ≤ 400) := by unfold Hid; rw [← Hn.out]; exact h400
    go_enter Try.func3, Try.ntmps3
    go_wp2_with fail
    refine (own_any _ O _ HR.out (by have := hO400.out; omega)).mono ?_
    rintro e w1 ⟨u, rfl, ho1, hb1, hs1⟩
    have RU := hidden (Ri.of_own ho1)
    have S1 := hidden hs1
    obtain ⟨uo, uc, rfl⟩ := own_slice ho1
    clear ho1 hb1 hs1
    go_wp2_with fail
    refine (len_any _ O m _ RU.out (by have := hO400.out; omega) (sortAll2 hO400.out)).mono ?_
    rintro e w2 (⟨hno, rfl, hs2⟩ | ⟨hyes, vl, D, rfl, d1, d2, rl, _, hs2⟩)
    · have S2 := hidden (S1.out.made hs2)
      have HM := hidden (may_any _ O m _ (HR.out.made S2.out) (by have := hO400.out; omega))
      rw [hno] at HM
      clear hno hs2
      have b1 : ((1 : Int) == 1) = true := rfl
      have b2 : ((0 : Int) == 0) = true := rfl
      go_wp2_with fail
      refine HM.out.mono ?_
      rintro e w3 ⟨rfl, rfl⟩
      go_wp2_with fail
      refine (known_any _).mono ?_
      rintro e w4 ⟨rfl, hs4⟩
      have S4 := hidden (S2.out.made hs4)
      clear hs4
      go_wp2
      go_ret
      exact ⟨rfl, S4.out⟩
    · obtain ⟨M, rfl⟩ := Int.eq_ofNat_of_zero_le (show 0 ≤ m by have := (mayB_iff O m).1 hyes; omega)
      have S2 := hidden (S1.out.made hs2)
      have S12 := hidden hs2
      have HM := hidden (may_any _ O (M : Int) _ (HR.out.made S2.out) (by have := hO400.out; omega))
      rw [hyes] at HM
      have HMAY := hidden hyes
      have HU := hidden (show Used O D M from ⟨d1, d2, hyes⟩)
      rw [Int.toNat_natCast] at rl
      have hM15 : M ≤ 15 := HU.out.bd.2.2
      have HRL := hidden rl
      obtain ⟨lo, lc, rfl, _, l1, l2⟩ := rl
      have L1 := hidden l1
      have L2 := hidden l2
      have HLL := hidden (lensOf_length O D M)
      rw [lensOf_length, ← Hn.out] at HRL ⊢
      clear d1 d2 l1 l2 hs2 hyes
      go_wp2_with fail
      refine HM.out.mono ?_
      rintro e w3 ⟨rfl, rfl⟩
      have hbn : ((n : Int) != (n : Int)) = false := by simp
      have b0 : ((0 : Int) != 0) = false := rfl
      have HI := hidden (fun (h1 : Ri w3 _ O) (h2 : Ri w3 _ O) => ints_any (.slice uo O.length uc) (.slice ao O.length cap) _ _ w3 h1 h2 (by have := hO400.out; omega))
      rw [← Hn.out] at HI RU
      simp only [decide_true] at HI
      go_wp2_with fail
      refine (HI.out (RU.out.made S12.out) (HR.out.made S2.out)).mono ?_
      rintro e w4 ⟨rfl, q4, rfl⟩
      go_wp2
      go_loopw [8, 9] (fun cv iv wr => ∃ i : Nat, i ≤ n ∧ iv = .int .i64 (i : Int) ∧ cv = .int .i64 (mny (lensOf O D M) i) ∧ ∃ q, wr = w3.drewN q) (fun _ iv _ => n - (intOf iv).toNat)
      case atStart => exact ⟨0, Nat.zero_le _, rfl, rfl, q4, rfl⟩
      case round =>
        obtain ⟨i, hi, rfl, rfl, q, rfl⟩ := hrel
        have mb := mny_bd (lensOf O D M) i
        by_cases hin : i < n
        · have i1 : (i : Int) < (n : Int) := by omega
          have hiL : i < O.length := by have := Hn.out; omega
          cases ao with
          | none => have := (R1.out rfl).1; subst this; simp at hiL
          | some a =>
            cases lo with
            | none => have := (L1.out rfl).1; have : (lensOf O D M).length = 0 := by rw [this]; rfl
                      rw [lensOf_length] at this; omega
            | some b =>
              obtain ⟨ba, oa, rfl, ka⟩ := R2.out a rfl (by intro e; subst e; simp at hiL)
              obtain ⟨bb, ob, rfl, kb⟩ := L2.out b rfl (by intro e; have : (lensOf O D M).length = 0 := by { rw [e]; rfl }
                                                           rw [lensOf_length] at this; omega)
              have oi := S2.out.cell (ka i hiL) (fun h => h)
              have li := kb i (by rw [lensOf_length]; exact hiL)
              have hbd := HU.out.bounds hiL
              have hof := HU.out.often i
              have HMS := hidden (show mny (lensOf O D M) (i + 1) = if 0 < (lensOf O D M).getD i 0 then mny (lensOf O D M) i + 1 else mny (lensOf O D M) i from rfl)
              clear ka kb hiL
              generalize mny (lensOf O D M) i = c at *
              generalize O.getD i 0 = x at *
              generalize (lensOf O D M).getD i 0 = y at *
              have e2 : decide (y < 0) = false := decide_eq_false (by omega)
              have e3 : decide ((M : Int) < y) = false := decide_eq_false (by omega)
              have y0 : 0 ≤ y := hbd.1
              have HXY := hidden (And.intro hbd.2.2.1 hbd.2.2.2)
              have x0 : 0 ≤ x := hof.1
              have c0 := mb.1
              have c1 := mb.2
              clear hbd hof mb
              by_cases hy : 0 < y
              · have HC := hidden (show mny (lensOf O D M) (i + 1) = c + 1 by rw [HMS.out, if_pos hy])
                have hx : ¬ x = 0 := fun h => by have := HXY.out.2 h; omega
                have b1 : (y == 0) = false := by rw [beq_eq_false_iff_ne]; omega
                have b2 : (x == 0) = false := by rw [beq_eq_false_iff_ne]; exact hx
                clear hx
                go_wp2
                go_quiet (fail)
                go_wp2
                go_roundw
                case rel => exact ⟨i + 1, by omega, by go_num, by rw [HC.out], _, rfl⟩
                case measure => simp [intOf]; omega
              · have HC := hidden (show mny (lensOf O D M) (i + 1) = c by rw [HMS.out, if_neg hy])
                have hy' : y = 0 := by omega
                have hx' : x = 0 := by
                  by_cases hx : x = 0
                  · exact hx
                  · have := HXY.out.1 (by omega); omega
                subst hy'
                subst hx'
                have b1 : ((0 : Int) == 0) = true := rfl
                have e4 : decide ((M : Int) < 0) = false := decide_eq_false (by omega)
                go_wp2
                go_quiet (fail)
                go_wp2
                go_roundw
                case rel => exact ⟨i + 1, by omega, by go_num, by rw [HC.out], _, rfl⟩
                case measure => simp [intOf]; omega
        · have e : i = n := by omega
          subst e
          have HMN := hidden (show mny (lensOf O D M) i = (D.length : Int) by rw [Hn.out]; exact HU.out.many)
          have HFI := hidden (refFill_any _ (lensOf O D M) (w3.drewN q) (HRL.out.drewN q) (by rw [lensOf_length]; exact hO400.out) ((okB_iff _).1 HU.out.ok).2)
          have HCO := hidden (fun (W : World) (h1 : Ri W _ O) (h2 : Ri W _ (lensOf O D M)) => cost_any (.slice ao i cap) (.slice lo i lc) O (lensOf O D M) W h1 h2 hO400.out (by rw [lensOf_length]; exact hO400.out) HU.out.cb)
          have HMI := hidden (show min O.length (lensOf O D M).length = O.length by rw [lensOf_length, Nat.min_self])
          have HLE := hidden (fun (W : World) (h1 : Ri W _ O) => refLeast_any (.slice ao i cap) O M W h1 HMAY.out)
          rw [HMN.out]
          by_cases hd2 : 2 ≤ D.length
          · rw [HU.out.full hd2] at HFI
            have b1 : ((D.length : Int) == 1) = false := by rw [beq_eq_false_iff_ne]; omega
            have b2 : ((D.length : Int) == 0) = false := by rw [beq_eq_false_iff_ne]; omega
            have b3 : ((32768 : Int) == 32768) = true := rfl
            generalize D.length = dl at *
            go_wp2_with fail
            refine HFI.out.mono ?_
            rintro e w5 ⟨rfl, rfl⟩
            go_wp2_with fail
            refine (HCO.out _ ((HR.out.made S2.out).drewN _) (HRL.out.drewN _)).mono ?_
            rintro e w6 ⟨rfl, q6, rfl⟩
            rw [HMI.out]
            go_wp2_with fail
            refine (HLE.out _ ((HR.out.made S2.out).drewN _)).mono ?_
            rintro e w7 ⟨E, hE, rfl, hs7⟩
            have HEQ := hidden (HU.out.leastE hE)
            rw [HEQ.out]
            have S7 := hidden (show Step (fun _ => False) w w7 from (S2.out.drewN _).made hs7)
            clear hE hs7 HEQ
            have bl : (leastN E M == leastN E M) = true := by simp
            generalize leastN E M = c at *
            go_wp2_with fail
            refine (known_any _).mono ?_
            rintro e w8 ⟨rfl, hs8⟩
            have S8 := hidden (S7.out.made hs8)
            clear hs8
            go_wp2
            go_ret
            exact ⟨rfl, S8.out⟩
          · by_cases hd1 : D.length = 1
            · rw [HU.out.one hd1] at HFI
              rw [hd1]
              have b1 : ((1 : Int) == 1) = true := rfl
              have b2 : ((1 : Int) == 0) = false := rfl
              have b3 : ((16384 : Int) == 32768) = false := rfl
              have b4 : ((16384 : Int) == 16384) = true := rfl
              go_wp2_with fail
              refine HFI.out.mono ?_
              rintro e w5 ⟨rfl, rfl⟩
              go_wp2_with fail
              refine HFI.out.mono ?_
              rintro e w5 ⟨rfl, rfl⟩
              go_wp2_with fail
              refine (HCO.out _ ((HR.out.made S2.out).drewN _) (HRL.out.drewN _)).mono ?_
              rintro e w6 ⟨rfl, q6, rfl⟩
              rw [HMI.out]
              go_wp2_with fail
              refine (HLE.out _ ((HR.out.made S2.out).drewN _)).mono ?_
              rintro e w7 ⟨E, hE, rfl, hs7⟩
              have HEQ := hidden (HU.out.leastE hE)
              rw [HEQ.out]
              have S7 := hidden (show Step (fun _ => False) w w7 from (S2.out.drewN _).made hs7)
              clear hE hs7 HEQ
              have bl : (leastN E M == leastN E M) = true := by simp
              generalize leastN E M = c at *
              go_wp2_with fail
              refine (known_any _).mono ?_
              rintro e w8 ⟨rfl, hs8⟩
              have S8 := hidden (S7.out.made hs8)
              clear hs8
              go_wp2
              go_ret
              exact ⟨rfl, S8.out⟩
            · have hd0 : D.length = 0 := by omega
              rw [HU.out.none hd0] at HFI
              rw [hd0]
              have b1 : ((0 : Int) == 1) = false := rfl
              have b2 : ((0 : Int) == 0) = true := rfl
              have b3 : ((0 : Int) == 32768) = false := rfl
              go_wp2_with fail
              refine HFI.out.mono ?_
              rintro e w5 ⟨rfl, rfl⟩
              go_wp2_with fail
              refine (HCO.out _ ((HR.out.made S2.out).drewN _) (HRL.out.drewN _)).mono ?_
              rintro e w6 ⟨rfl, q6, rfl⟩
              rw [HMI.out]
              go_wp2_with fail
              refine (HLE.out _ ((HR.out.made S2.out).drewN _)).mono ?_
              rintro e w7 ⟨E, hE, rfl, hs7⟩
              have HEQ := hidden (HU.out.leastE hE)
              rw [HEQ.out]
              have S7 := hidden (show Step (fun _ => False) w w7 from (S2.out.drewN _).made hs7)
              clear hE hs7 HEQ
              have bl : (leastN E M == leastN E M) = true := by simp
              generalize leastN E M = c at *
              go_wp2_with fail
              refine (known_any _).mono ?_
              rintro e w8 ⟨rfl, hs8⟩
              have S8 := hidden (S7.out.made hs8)
              clear hs8
              go_wp2
              go_ret
              exact ⟨rfl, S8.out⟩
  · have h3 : (400 : Int) < (n : Int) := by omega
    go_enter Try.func3, Try.ntmps3
    go_wp2
    go_ret
    exact ⟨rfl, Step.refl _ _⟩

end Go.Proofs.Ytkglackbbcfhbaa

namespace Go.Proofs.Ytkglackbbcfhbaa.huffLeast
open Go.ChangeShapes Go.WideShapes Go.ChangeAt Go.RowKit
open Go.ChangeMaps (open_string shut_string)
set_option linter.unusedVariables false

theorem own : ownKnob Try.prog.godebug = none := by kernel_rfl
theorem laidOut : laidOutB Try.prog = true := by kernel_rfl

theorem walk (w : World) (a0 : Option Addr) (l0 c0 : Nat) (z0 : List Int) (r0 : Ri w (.slice a0 l0 c0) z0) (m0 : z0.length ≤ 9223372036854775807) (a1 : Int) (w1 : (Lit.int .i64 a1).wf = true) :
    Calls Try.prog 3 #[.slice a0 l0 c0, .int .i64 a1] w fun e w' => e = .returned (.bool true) ∧ Below w.heap.size w w' := by
  exact (huffLeast_any _ z0 a1 w r0 m0).mono fun e w' ⟨h1, h2⟩ => ⟨h1, h2.below w.heap.size (Nat.le_refl _) (fun _ h => h.elim)⟩

set_option maxRecDepth 100000 in
theorem lifted (os : Os) (started : os.Started) (H : Type) (enc : TypeId × Value → H) :
    ReturnsInHanded {} Try.checked os 3 .any (Rows.huffLeastSpec.pre6 enc Try.prog Try.f3 Rows.huffLeastRow.domain false) (Rows.huffLeastSpec.post enc Try.prog Try.f3 false true false false) := by
  refine returnsInHanded_of_change (C := Try.checked) own started (by kernel_rfl) Try.func3
    (ChangeSpec.witness6 (enc := enc) (C := Try.checked) false ⟨#[], #[.slice none 0 0, .int .i64 0], []⟩ 8 (by kernel_rfl) (by kernel_rfl) (by kernel_rfl) (by kernel_rfl)) ?_
  intro W base args ds gs before hval0 hW hcnd _
  have hval : ∀ (j : Nat) t v, Try.f3.params[j]? = some t → args[j]? = some v → Value.okWide Try.prog W .any base t v := hval0
  have hW' := hW
  obtain ⟨p, q, hA0, hV, rfl, hfz, hnd⟩ := hW
  have hA : DataW.TrodAll enc Try.prog W 0 (fun _ => true) true Try.f3.params.toList args.toList ds p := hA0
  rw [Try.params3] at hA hval
  obtain ⟨v0, vs0, d0, ds0, p0, q0, hargs, rfl, rfl, h0, t0⟩ := trodAll_cons hA
  obtain ⟨v1, vs1, d1, ds1, p1, q1, rfl, rfl, rfl, h1, t1⟩ := trodAll_cons t0
  obtain ⟨rfl, rfl, rfl⟩ := trodAll_nil t1
  obtain rfl : args = #[v0, v1] := by cases args; simp_all
  obtain ⟨rfl, rfl⟩ := trodVars_none hV
  obtain ⟨a0, len0, cap0, rfl⟩ := okWide_slice Try.underlying22 (hval 0 22 v0 rfl rfl)
  have k0 := h0
  have lt0 : ∀ x ∈ p0, x.block < W.heap.size := by obtain ⟨m, hm⟩ := k0; exact DataW.trod_lt m _ _ _ hm
  obtain ⟨z0, r0, m0⟩ : ∃ zs : List Int, Ri W (.slice a0 len0 cap0) zs ∧ zs.length ≤ 9223372036854775807 := by
    obtain ⟨fuel, hf⟩ := h0
    rcases open_ints Try.underlying22 Try.underlying3 (by kernel_rfl) hf with ⟨hcs, _⟩ | ⟨x, l, c, zs, hcs, _, hl, hm, hz, _, hcell, hwz⟩
    · simp [Value.cells] at hcs
      obtain ⟨rfl, rfl, rfl⟩ := hcs
      exact ⟨[], ri_none W, by simp⟩
    · simp [Value.cells] at hcs
      obtain ⟨rfl, rfl, rfl⟩ := hcs
      exact ⟨zs.take len0, ri_of_ints hl (by simpa using hz) hcell, by unfold maxLen at hm; simp; omega⟩
  obtain ⟨a1, rfl, rfl, rfl, w1⟩ := open_int Try.underlying3 (hval 1 3 v1 rfl rfl) h1
  clear hA0 hval0
  refine (walk W a0 len0 cap0 z0 r0 m0 a1 w1).mono fun e W' ⟨he, bel⟩ => ?_
  subst he
  exact ⟨_, rfl, _, _, _, [], _, [], hW', trodAll_mk1 (shut_bool Try.underlying4 _), (trodAll_cons_mk (Below.trod laidOut (by kernel_rfl) (of_decide_eq_true (by kernel_rfl)) k0 bel lt0) (trodAll_cons_mk (shut_int Try.underlying3 w1) trodAll_mk0)), rfl, bel.frame _, fun h => by cases h⟩

theorem over : Rows.huffLeastRow.holds Try.pinned (OpenSpec.ofChange Rows.huffLeastSpec) :=
  OpenClaim.holds_of_wide 3 Try.f3 rfl rfl rfl rfl rfl rfl rfl ⟨rfl, rfl, rfl, rfl, rfl⟩ rfl rfl rfl rfl rfl (by kernel_rfl) Try.func3 (by kernel_rfl)
    (of_decide_eq_true (by kernel_rfl)) (by unfold Func.isWrapper; first | (rw [if_pos (by decide +kernel)]; kernel_rfl) | (rw [if_neg (by decide +kernel)]; exact ⟨rfl, rfl⟩))
    (fun os started H enc _ => lifted os started H enc)

theorem proved : Rows.HuffLeastSaid := over
#print axioms proved
end Go.Proofs.Ytkglackbbcfhbaa.huffLeast
