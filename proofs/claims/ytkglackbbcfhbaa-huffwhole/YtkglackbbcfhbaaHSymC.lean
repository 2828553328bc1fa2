/-
  Two sorted stretches become one: the turn, and both halves.
-/
import Derived.Test.YtkglackbbcfhbaaHSymB
namespace Go.Proofs.Ytkglackbbcfhbaa
open Go.RowKit
set_option maxRecDepth 100000
set_option linter.unusedVariables false

theorem ih_call {K : Nat} (IH : ∀ k, k < K → SymOk k) {O : List Int} {v : Value} {B g : Nat} {D D2 : List Int} {a m b n : Nat} (cap : Nat) {w w2 : World} (hE : Env w B g v O) (hs : Step (fun k => k = g) w w2) (hr : Row w2 g D2) (hin : InO O D) (hp : List.Perm D2 D) (hn : n = D.length) (h1 : a < m) (h2 : m < b) (hb : b ≤ n) (s1 : Sr O D2 a m) (s2 : Sr O D2 m b) (hl : n ≤ 100000) (hO : O.length ≤ 100000) (hK : b - a < K) :
    Calls Try.prog 38 #[.slice (some ⟨g, 0, none⟩) n cap, .int .i64 (a : Int), .int .i64 (m : Int), .int .i64 (b : Int), cmpV B] w2 fun e w' => (∃ u, e = .returned u) ∧ SymP O D2 g a b w2 w' := by
  have e : n = D2.length := by rw [hp.length_eq]; exact hn
  subst e
  exact IH (b - a) hK O v B g D2 a m b cap w2 (hE.step hs) hr (hin.perm hp) h1 h2 hb s1 s2 hl hO rfl


set_option maxHeartbeats 8000000 in
theorem sym_hi {a b : Nat} (IH : ∀ k, k < b - a → SymOk k) (O : List Int) (v : Value) (B g : Nat) (D : List Int) (m cap mid : Nat) (w : World) (hE : Env w B g v O) (hD : Row w g D) (hin : InO O D) (ham : a + 1 < m) (hmb : m + 1 < b) (hb : b ≤ D.length) (hs1 : Sr O D a m) (hs2 : Sr O D m b) (hn : D.length ≤ 100000) (hO : O.length ≤ 100000) (hmid : mid = (a + b) / 2) (hgt : mid < m) :
    Calls Try.prog 38 #[.slice (some ⟨g, 0, none⟩) D.length cap, .int .i64 (a : Int), .int .i64 (m : Int), .int .i64 (b : Int), cmpV B] w
      fun e w' => (∃ u, e = .returned u) ∧ SymP O D g a b w w' := by
  have HC := hidden (fun (u : World) (hu : ∃ q, u = w.drewN q) i j (hi : i < D.length) (hj : j < D.length) => cmp_at (w := u) (by obtain ⟨q, rfl⟩ := hu; exact hE.drewN q) (by obtain ⟨q, rfl⟩ := hu; exact hD.drewN q) hin hO i j hi hj)
  have HE := hidden hE
  have HD := hidden hD
  have HI := hidden hin
  have HS1 := hidden hs1
  have HS2 := hidden hs2
  have IH := hidden IH
  obtain ⟨n, hnn⟩ : ∃ n, n = D.length := ⟨_, rfl⟩
  have Hn := hidden hnn
  rw [← hnn] at hb hn ⊢
  clear hE hD hin hs1 hs2 hnn
  have emid : ((a : Int) + (b : Int)) / 2 = (mid : Int) := by omega
  have hm1 : a < mid := by omega
  have hm2 : mid < b := by omega
  have hm3 : 2 * mid ≤ a + b := by omega
  have hm4 : a + b ≤ 2 * mid + 1 := by omega
  have e1 : ((m : Int) - (a : Int) == 1) = false := by simp; omega
  have e1' : ¬ ((m : Int) - (a : Int) = 1) := by omega
  have e2 : ((b : Int) - (m : Int) == 1) = false := by simp; omega
  have e2' : ¬ ((b : Int) - (m : Int) = 1) := by omega
  obtain ⟨N, hN⟩ : ∃ N, N = mid + m := ⟨_, rfl⟩
  have eN : (mid : Int) + (m : Int) = (N : Int) := by omega
  obtain ⟨P, hP⟩ : ∃ P, P = N - 1 := ⟨_, rfl⟩
  have eP : (N : Int) - 1 = (P : Int) := by omega
  obtain ⟨S0, hS0⟩ : ∃ S0, S0 = N - b := ⟨_, rfl⟩
  have eS : (N : Int) - (b : Int) = (S0 : Int) := by omega
  have iM : (mid : Int) < (m : Int) := by omega
  have HS0 := hidden (show S0 + b = N by omega)
  have hS1 : a ≤ S0 := by omega
  have hS2 : S0 ≤ mid := by omega
  clear hS0
  have HN := hidden hN
  have HP := hidden (show P + 1 = N by omega)
  have hN1 : N ≤ 300000 := by omega
  have hP1 : P ≤ 300000 := by omega
  clear hN hP hmid
  go_enter Try.func38, Try.ntmps38
  go_wp2
  go_loopw [20, 21] (fun iv jv wr => ∃ s r : Nat, iv = .int .i64 (s : Int) ∧ jv = .int .i64 (r : Int) ∧ S0 ≤ s ∧ s ≤ r ∧ r ≤ mid ∧ Hid (S0 < s → key O (D.getD (s - 1) 0) ≤ key O (D.getD (P - (s - 1)) 0)) ∧ Hid (r < mid → key O (D.getD (P - r) 0) < key O (D.getD r 0)) ∧ Hid (∃ q, wr = w.drewN q)) (fun iv jv _ => (intOf jv - intOf iv).toNat)
  case atStart => exact ⟨S0, mid, rfl, rfl, by omega, by omega, by omega, (fun h => by omega), (fun h => by omega), 0, rfl⟩
  case round =>
    obtain ⟨s, r, rfl, rfl, h1, h2, h3, HL, HR, HW⟩ := hrel
    by_cases hij : s < r
    · have hij' : (s : Int) < (r : Int) := by omega
      obtain ⟨c, hc0⟩ : ∃ c, c = (s + r) / 2 := ⟨_, rfl⟩
      have hh1 : s ≤ c := by omega
      have hh2 : c < r := by omega
      obtain ⟨pc, hpc⟩ : ∃ pc, pc = P - c := ⟨_, rfl⟩
      have hpc1 : pc < n := by have := HS0.out; have := HN.out; have := HP.out; omega
      have hpc2 : pc + c = P := by have := HS0.out; have := HN.out; have := HP.out; omega
      obtain ⟨x, y, cv, c1, c2, hcv, HCC⟩ := HC.out wr HW.out pc c (by have := Hn.out; omega) (by have := Hn.out; omega)
      have HCC := hidden HCC
      have Hcv := hidden hcv
      have Hpc := hidden hpc
      have ec : ((s : Int) + (r : Int)) / 2 = (c : Int) := by omega
      have epc : (P : Int) - (c : Int) = (pc : Int) := by omega
      have hl1 : (pc : Int) < (n : Int) := by omega
      have hl2 : (c : Int) < (n : Int) := by omega
      clear hcv hc0 hpc hpc2
      by_cases hc : cv < 0
      · have hk := hidden (Hcv.out.1 hc)
        go_wp2
        go_quiet ((go_at_call 30; exact Calls.quiet_of (HCC.out _)))
        go_wp2
        all_goals try (exfalso; first | omega | (rename_i hz; simp at hz; omega))
        go_roundw
        case rel => exact ⟨s, c, rfl, rfl, by omega, by omega, by omega, HL, (fun _ => by rw [← Hpc.out]; exact hk.out), (by obtain ⟨q, rfl⟩ := HW.out; exact ⟨_, World.drewN_drewN _ _ _⟩)⟩
        case measure => simp [intOf]; omega
      · have hk := hidden (Int.not_lt.1 (fun z => hc (Hcv.out.2 z)))
        have hc' : (0 : Int) ≤ cv := by omega
        have hnb : (!decide (cv < 0)) = true := by simp; omega
        have hnc : decide (cv < 0) = false := by simp; omega
        go_wp2
        go_quiet ((go_at_call 30; exact Calls.quiet_of (HCC.out _)))
        go_wp2
        all_goals try (exfalso; first | omega | (rename_i hz; simp at hz; omega))
        go_roundw
        case rel => exact ⟨c + 1, r, by go_num, rfl, by omega, by omega, by omega, (fun _ => by rw [Nat.add_sub_cancel, ← Hpc.out]; exact hk.out), HR, (by obtain ⟨q, rfl⟩ := HW.out; exact ⟨_, World.drewN_drewN _ _ _⟩)⟩
        case measure => simp [intOf]; omega
    · have hij' : ¬ (s : Int) < (r : Int) := by omega
      have hij2 : s = r := by omega
      subst hij2
      obtain ⟨e, he⟩ : ∃ e, e = N - s := ⟨_, rfl⟩
      have ee : (N : Int) - (s : Int) = (e : Int) := by have := HN.out; omega
      have ee2 : s + e = mid + m := by have := HN.out; omega
      have HRW := hidden (show Row wr g D ∧ Step (fun k => k = g) w wr by obtain ⟨q, rfl⟩ := HW.out; exact ⟨HD.out.drewN q, (Step.refl _ _).drewN q⟩)
      have b1 : a ≤ s := by omega
      have b2 : s ≤ m := by omega
      have b3 : m ≤ e := by omega
      have b4 : e ≤ b := by have := HS0.out; have := HN.out; omega
      have b5 : s ≤ mid := by omega
      have b6 : mid ≤ e := by omega
      have HX := hidden (show a < s → e < b → key O (D.getD (s - 1) 0) ≤ key O (D.getD e 0) from fun x y => by
        have z := HL.out (by have := HS0.out; have := HN.out; omega)
        rwa [show P - (s - 1) = e by have := HP.out; have := HN.out; omega] at z)
      have HY := hidden (show s < m → m < e → key O (D.getD (e - 1) 0) ≤ key O (D.getD s 0) from fun x y => by
        have z := HR.out (by omega)
        rw [show P - s = e - 1 by have := HP.out; have := HN.out; omega] at z
        omega)
      have HTU := hidden (fun (D2 : List Int) (w2 : World) (hp : List.Perm D2 D) (H : ∀ k, k < D.length → D2.getD k 0 = D.getD (rotI s m e k) 0) (hr : Row w2 g D2) (hst : Step (fun k => k = g) w w2) => turned_of (mid := mid) (b := b) (by omega) (by omega) (by have := Hn.out; omega) b1 b2 b3 b4 (by omega) b5 HS1.out HS2.out HX.out HY.out hp H hr hst)
      have Hee := hidden ee2
      have ee3 : e + s ≤ mid + m := by omega
      have ee4 : mid + m ≤ e + s := by omega
      clear he ee2 h2 h3 hij
      by_cases cA : s < m
      · have iA : (s : Int) < (m : Int) := by omega
        have jA : (mid : Int) < (e : Int) := by omega
        by_cases cB : m < e
        · have iB : (m : Int) < (e : Int) := by omega
          have jB : (s : Int) < (mid : Int) := by omega
          by_cases cC : a < s
          · have iC : (a : Int) < (s : Int) := by omega
            by_cases cE : e < b
            · have iE : (e : Int) < (b : Int) := by omega
              have HRT := hidden (show Calls Try.prog 39 #[.slice (some ⟨g, 0, none⟩) n cap, .int .i64 (s : Int), .int .i64 (m : Int), .int .i64 (e : Int), cmpV B] wr (fun x w' => (∃ u, x = .returned u) ∧ RotP D g s m e wr w') by rw [Hn.out]; exact rotate_any g D s m e cap (cmpV B) wr HRW.out.1 (by omega) (by omega) (by have := Hn.out; omega) (by have := Hn.out; omega))
              go_wp2_with fail
              refine HRT.out.mono ?_
              rintro x w2 ⟨⟨u, rfl⟩, hr⟩
              have HT := hidden (show ∃ D2, Turned O D g a s mid e b w w2 D2 by
                obtain ⟨D2, p1, p2, p3, p4⟩ := hr
                exact ⟨D2, HTU.out D2 w2 p1 p2 p3 (HRW.out.2.trans p4 (fun i hi => .inl hi))⟩)
              clear hr HRT
              obtain ⟨D2, T⟩ := HT.out
              have T := hidden T
              clear HT
              have HI1 := hidden (ih_call IH.out cap HE.out T.out.st T.out.row HI.out T.out.perm Hn.out (a := a) (m := s) (b := mid) (by omega) (by omega) (by omega) T.out.s1 T.out.s2 hn hO (by omega))
              go_wp2_with fail
              refine HI1.out.mono ?_
              rintro x w3 ⟨⟨u, rfl⟩, hr⟩
              have HH := hidden hr
              clear hr HI1
              obtain ⟨D3, hx1, hx2, hx3⟩ := HH.out
              have X1 := hidden hx1
              have X2 := hidden hx2
              have X3 := hidden hx3
              clear hx1 hx2 hx3 HH
              have HI2 := hidden (ih_call IH.out cap HE.out (T.out.st.trans X3.out (fun i hi => .inl hi)) X2.out HI.out (X1.out.perm.trans T.out.perm) Hn.out (a := mid) (m := e) (b := b) (by omega) (by omega) (by omega) (T.out.s3.of_out X1.out.mix (by omega)) (T.out.s4.of_out X1.out.mix (by omega)) hn hO (by omega))
              go_wp2_with fail
              refine HI2.out.mono ?_
              rintro x w4 ⟨⟨u, rfl⟩, hr⟩
              have HZ := hidden (halves T.out (by have := Hn.out; omega) (by omega) (by omega) X1.out X3.out hr)
              clear hr HI2
              go_wp2
              all_goals (go_end0; exact ⟨⟨_, rfl⟩, HZ.out⟩)
            · have iE : ¬ (e : Int) < (b : Int) := by omega
              have HRT := hidden (show Calls Try.prog 39 #[.slice (some ⟨g, 0, none⟩) n cap, .int .i64 (s : Int), .int .i64 (m : Int), .int .i64 (e : Int), cmpV B] wr (fun x w' => (∃ u, x = .returned u) ∧ RotP D g s m e wr w') by rw [Hn.out]; exact rotate_any g D s m e cap (cmpV B) wr HRW.out.1 (by omega) (by omega) (by have := Hn.out; omega) (by have := Hn.out; omega))
              go_wp2_with fail
              refine HRT.out.mono ?_
              rintro x w2 ⟨⟨u, rfl⟩, hr⟩
              have HT := hidden (show ∃ D2, Turned O D g a s mid e b w w2 D2 by
                obtain ⟨D2, p1, p2, p3, p4⟩ := hr
                exact ⟨D2, HTU.out D2 w2 p1 p2 p3 (HRW.out.2.trans p4 (fun i hi => .inl hi))⟩)
              clear hr HRT
              obtain ⟨D2, T⟩ := HT.out
              have T := hidden T
              clear HT
              have HI1 := hidden (ih_call IH.out cap HE.out T.out.st T.out.row HI.out T.out.perm Hn.out (a := a) (m := s) (b := mid) (by omega) (by omega) (by omega) T.out.s1 T.out.s2 hn hO (by omega))
              go_wp2_with fail
              refine HI1.out.mono ?_
              rintro x w3 ⟨⟨u, rfl⟩, hr⟩
              have HH := hidden hr
              clear hr HI1
              obtain ⟨D3, hx1, hx2, hx3⟩ := HH.out
              have X1 := hidden hx1
              have X2 := hidden hx2
              have X3 := hidden hx3
              clear hx1 hx2 hx3 HH
              have HZ := hidden (halves T.out (by have := Hn.out; omega) (by omega) (by omega) X1.out X3.out (Half.asis (s := e) (by omega) (by omega) (by omega) (T.out.s3.of_out X1.out.mix (by omega)) (T.out.s4.of_out X1.out.mix (by omega)) X2.out))
              go_wp2
              all_goals (go_end0; exact ⟨⟨_, rfl⟩, HZ.out⟩)
          · have iC : ¬ (a : Int) < (s : Int) := by omega
            by_cases cE : e < b
            · have iE : (e : Int) < (b : Int) := by omega
              have HRT := hidden (show Calls Try.prog 39 #[.slice (some ⟨g, 0, none⟩) n cap, .int .i64 (s : Int), .int .i64 (m : Int), .int .i64 (e : Int), cmpV B] wr (fun x w' => (∃ u, x = .returned u) ∧ RotP D g s m e wr w') by rw [Hn.out]; exact rotate_any g D s m e cap (cmpV B) wr HRW.out.1 (by omega) (by omega) (by have := Hn.out; omega) (by have := Hn.out; omega))
              go_wp2_with fail
              refine HRT.out.mono ?_
              rintro x w2 ⟨⟨u, rfl⟩, hr⟩
              have HT := hidden (show ∃ D2, Turned O D g a s mid e b w w2 D2 by
                obtain ⟨D2, p1, p2, p3, p4⟩ := hr
                exact ⟨D2, HTU.out D2 w2 p1 p2 p3 (HRW.out.2.trans p4 (fun i hi => .inl hi))⟩)
              clear hr HRT
              obtain ⟨D2, T⟩ := HT.out
              have T := hidden T
              clear HT
              have HH := hidden (show SymP O D2 g a mid w2 w2 from Half.asis (s := s) (by omega) (by omega) (by omega) T.out.s1 T.out.s2 T.out.row)
              obtain ⟨D3, hx1, hx2, hx3⟩ := HH.out
              have X1 := hidden hx1
              have X2 := hidden hx2
              have X3 := hidden hx3
              clear hx1 hx2 hx3 HH
              have HI2 := hidden (ih_call IH.out cap HE.out (T.out.st.trans X3.out (fun i hi => .inl hi)) X2.out HI.out (X1.out.perm.trans T.out.perm) Hn.out (a := mid) (m := e) (b := b) (by omega) (by omega) (by omega) (T.out.s3.of_out X1.out.mix (by omega)) (T.out.s4.of_out X1.out.mix (by omega)) hn hO (by omega))
              go_wp2_with fail
              refine HI2.out.mono ?_
              rintro x w4 ⟨⟨u, rfl⟩, hr⟩
              have HZ := hidden (halves T.out (by have := Hn.out; omega) (by omega) (by omega) X1.out X3.out hr)
              clear hr HI2
              go_wp2
              all_goals (go_end0; exact ⟨⟨_, rfl⟩, HZ.out⟩)
            · have iE : ¬ (e : Int) < (b : Int) := by omega
              have HRT := hidden (show Calls Try.prog 39 #[.slice (some ⟨g, 0, none⟩) n cap, .int .i64 (s : Int), .int .i64 (m : Int), .int .i64 (e : Int), cmpV B] wr (fun x w' => (∃ u, x = .returned u) ∧ RotP D g s m e wr w') by rw [Hn.out]; exact rotate_any g D s m e cap (cmpV B) wr HRW.out.1 (by omega) (by omega) (by have := Hn.out; omega) (by have := Hn.out; omega))
              go_wp2_with fail
              refine HRT.out.mono ?_
              rintro x w2 ⟨⟨u, rfl⟩, hr⟩
              have HT := hidden (show ∃ D2, Turned O D g a s mid e b w w2 D2 by
                obtain ⟨D2, p1, p2, p3, p4⟩ := hr
                exact ⟨D2, HTU.out D2 w2 p1 p2 p3 (HRW.out.2.trans p4 (fun i hi => .inl hi))⟩)
              clear hr HRT
              obtain ⟨D2, T⟩ := HT.out
              have T := hidden T
              clear HT
              have HH := hidden (show SymP O D2 g a mid w2 w2 from Half.asis (s := s) (by omega) (by omega) (by omega) T.out.s1 T.out.s2 T.out.row)
              obtain ⟨D3, hx1, hx2, hx3⟩ := HH.out
              have X1 := hidden hx1
              have X2 := hidden hx2
              have X3 := hidden hx3
              clear hx1 hx2 hx3 HH
              have HZ := hidden (halves T.out (by have := Hn.out; omega) (by omega) (by omega) X1.out X3.out (Half.asis (s := e) (by omega) (by omega) (by omega) (T.out.s3.of_out X1.out.mix (by omega)) (T.out.s4.of_out X1.out.mix (by omega)) X2.out))
              go_wp2
              all_goals (go_end0; exact ⟨⟨_, rfl⟩, HZ.out⟩)
        · have iB : ¬ (m : Int) < (e : Int) := by omega
          have jB : ¬ (s : Int) < (mid : Int) := by omega
          by_cases cC : a < s
          · have iC : (a : Int) < (s : Int) := by omega
            by_cases cE : e < b
            · have iE : (e : Int) < (b : Int) := by omega
              have HT := hidden (show ∃ D2, Turned O D g a s mid e b w wr D2 from ⟨D, HTU.out D wr (List.Perm.refl _) (fun k _ => by rw [rotI_none (by omega) (by omega) (by omega)]) HRW.out.1 HRW.out.2⟩)
              obtain ⟨D2, T⟩ := HT.out
              have T := hidden T
              clear HT
              have HH := hidden (show SymP O D2 g a mid wr wr from Half.asis (s := s) (by omega) (by omega) (by omega) T.out.s1 T.out.s2 T.out.row)
              obtain ⟨D3, hx1, hx2, hx3⟩ := HH.out
              have X1 := hidden hx1
              have X2 := hidden hx2
              have X3 := hidden hx3
              clear hx1 hx2 hx3 HH
              have HI2 := hidden (ih_call IH.out cap HE.out (T.out.st.trans X3.out (fun i hi => .inl hi)) X2.out HI.out (X1.out.perm.trans T.out.perm) Hn.out (a := mid) (m := e) (b := b) (by omega) (by omega) (by omega) (T.out.s3.of_out X1.out.mix (by omega)) (T.out.s4.of_out X1.out.mix (by omega)) hn hO (by omega))
              go_wp2_with fail
              refine HI2.out.mono ?_
              rintro x w4 ⟨⟨u, rfl⟩, hr⟩
              have HZ := hidden (halves T.out (by have := Hn.out; omega) (by omega) (by omega) X1.out X3.out hr)
              clear hr HI2
              go_wp2
              all_goals (go_end0; exact ⟨⟨_, rfl⟩, HZ.out⟩)
            · have iE : ¬ (e : Int) < (b : Int) := by omega
              have HT := hidden (show ∃ D2, Turned O D g a s mid e b w wr D2 from ⟨D, HTU.out D wr (List.Perm.refl _) (fun k _ => by rw [rotI_none (by omega) (by omega) (by omega)]) HRW.out.1 HRW.out.2⟩)
              obtain ⟨D2, T⟩ := HT.out
              have T := hidden T
              clear HT
              have HH := hidden (show SymP O D2 g a mid wr wr from Half.asis (s := s) (by omega) (by omega) (by omega) T.out.s1 T.out.s2 T.out.row)
              obtain ⟨D3, hx1, hx2, hx3⟩ := HH.out
              have X1 := hidden hx1
              have X2 := hidden hx2
              have X3 := hidden hx3
              clear hx1 hx2 hx3 HH
              have HZ := hidden (halves T.out (by have := Hn.out; omega) (by omega) (by omega) X1.out X3.out (Half.asis (s := e) (by omega) (by omega) (by omega) (T.out.s3.of_out X1.out.mix (by omega)) (T.out.s4.of_out X1.out.mix (by omega)) X2.out))
              go_wp2
              all_goals (go_end0; exact ⟨⟨_, rfl⟩, HZ.out⟩)
          · have iC : ¬ (a : Int) < (s : Int) := by omega
            by_cases cE : e < b
            · have iE : (e : Int) < (b : Int) := by omega
              have HT := hidden (show ∃ D2, Turned O D g a s mid e b w wr D2 from ⟨D, HTU.out D wr (List.Perm.refl _) (fun k _ => by rw [rotI_none (by omega) (by omega) (by omega)]) HRW.out.1 HRW.out.2⟩)
              obtain ⟨D2, T⟩ := HT.out
              have T := hidden T
              clear HT
              have HH := hidden (show SymP O D2 g a mid wr wr from Half.asis (s := s) (by omega) (by omega) (by omega) T.out.s1 T.out.s2 T.out.row)
              obtain ⟨D3, hx1, hx2, hx3⟩ := HH.out
              have X1 := hidden hx1
              have X2 := hidden hx2
              have X3 := hidden hx3
              clear hx1 hx2 hx3 HH
              have HI2 := hidden (ih_call IH.out cap HE.out (T.out.st.trans X3.out (fun i hi => .inl hi)) X2.out HI.out (X1.out.perm.trans T.out.perm) Hn.out (a := mid) (m := e) (b := b) (by omega) (by omega) (by omega) (T.out.s3.of_out X1.out.mix (by omega)) (T.out.s4.of_out X1.out.mix (by omega)) hn hO (by omega))
              go_wp2_with fail
              refine HI2.out.mono ?_
              rintro x w4 ⟨⟨u, rfl⟩, hr⟩
              have HZ := hidden (halves T.out (by have := Hn.out; omega) (by omega) (by omega) X1.out X3.out hr)
              clear hr HI2
              go_wp2
              all_goals (go_end0; exact ⟨⟨_, rfl⟩, HZ.out⟩)
            · have iE : ¬ (e : Int) < (b : Int) := by omega
              have HT := hidden (show ∃ D2, Turned O D g a s mid e b w wr D2 from ⟨D, HTU.out D wr (List.Perm.refl _) (fun k _ => by rw [rotI_none (by omega) (by omega) (by omega)]) HRW.out.1 HRW.out.2⟩)
              obtain ⟨D2, T⟩ := HT.out
              have T := hidden T
              clear HT
              have HH := hidden (show SymP O D2 g a mid wr wr from Half.asis (s := s) (by omega) (by omega) (by omega) T.out.s1 T.out.s2 T.out.row)
              obtain ⟨D3, hx1, hx2, hx3⟩ := HH.out
              have X1 := hidden hx1
              have X2 := hidden hx2
              have X3 := hidden hx3
              clear hx1 hx2 hx3 HH
              have HZ := hidden (halves T.out (by have := Hn.out; omega) (by omega) (by omega) X1.out X3.out (Half.asis (s := e) (by omega) (by omega) (by omega) (T.out.s3.of_out X1.out.mix (by omega)) (T.out.s4.of_out X1.out.mix (by omega)) X2.out))
              go_wp2
              all_goals (go_end0; exact ⟨⟨_, rfl⟩, HZ.out⟩)
      · have iA : ¬ (s : Int) < (m : Int) := by omega
        have jA : ¬ (mid : Int) < (e : Int) := by omega
        by_cases cB : m < e
        · have iB : (m : Int) < (e : Int) := by omega
          have jB : (s : Int) < (mid : Int) := by omega
          by_cases cC : a < s
          · have iC : (a : Int) < (s : Int) := by omega
            by_cases cE : e < b
            · have iE : (e : Int) < (b : Int) := by omega
              have HT := hidden (show ∃ D2, Turned O D g a s mid e b w wr D2 from ⟨D, HTU.out D wr (List.Perm.refl _) (fun k _ => by rw [rotI_none (by omega) (by omega) (by omega)]) HRW.out.1 HRW.out.2⟩)
              obtain ⟨D2, T⟩ := HT.out
              have T := hidden T
              clear HT
              have HI1 := hidden (ih_call IH.out cap HE.out T.out.st T.out.row HI.out T.out.perm Hn.out (a := a) (m := s) (b := mid) (by omega) (by omega) (by omega) T.out.s1 T.out.s2 hn hO (by omega))
              go_wp2_with fail
              refine HI1.out.mono ?_
              rintro x w3 ⟨⟨u, rfl⟩, hr⟩
              have HH := hidden hr
              clear hr HI1
              obtain ⟨D3, hx1, hx2, hx3⟩ := HH.out
              have X1 := hidden hx1
              have X2 := hidden hx2
              have X3 := hidden hx3
              clear hx1 hx2 hx3 HH
              have HZ := hidden (halves T.out (by have := Hn.out; omega) (by omega) (by omega) X1.out X3.out (Half.asis (s := e) (by omega) (by omega) (by omega) (T.out.s3.of_out X1.out.mix (by omega)) (T.out.s4.of_out X1.out.mix (by omega)) X2.out))
              go_wp2
              all_goals (go_end0; exact ⟨⟨_, rfl⟩, HZ.out⟩)
            · have iE : ¬ (e : Int) < (b : Int) := by omega
              have HT := hidden (show ∃ D2, Turned O D g a s mid e b w wr D2 from ⟨D, HTU.out D wr (List.Perm.refl _) (fun k _ => by rw [rotI_none (by omega) (by omega) (by omega)]) HRW.out.1 HRW.out.2⟩)
              obtain ⟨D2, T⟩ := HT.out
              have T := hidden T
              clear HT
              have HI1 := hidden (ih_call IH.out cap HE.out T.out.st T.out.row HI.out T.out.perm Hn.out (a := a) (m := s) (b := mid) (by omega) (by omega) (by omega) T.out.s1 T.out.s2 hn hO (by omega))
              go_wp2_with fail
              refine HI1.out.mono ?_
              rintro x w3 ⟨⟨u, rfl⟩, hr⟩
              have HH := hidden hr
              clear hr HI1
              obtain ⟨D3, hx1, hx2, hx3⟩ := HH.out
              have X1 := hidden hx1
              have X2 := hidden hx2
              have X3 := hidden hx3
              clear hx1 hx2 hx3 HH
              have HZ := hidden (halves T.out (by have := Hn.out; omega) (by omega) (by omega) X1.out X3.out (Half.asis (s := e) (by omega) (by omega) (by omega) (T.out.s3.of_out X1.out.mix (by omega)) (T.out.s4.of_out X1.out.mix (by omega)) X2.out))
              go_wp2
              all_goals (go_end0; exact ⟨⟨_, rfl⟩, HZ.out⟩)
          · have iC : ¬ (a : Int) < (s : Int) := by omega
            by_cases cE : e < b
            · have iE : (e : Int) < (b : Int) := by omega
              have HT := hidden (show ∃ D2, Turned O D g a s mid e b w wr D2 from ⟨D, HTU.out D wr (List.Perm.refl _) (fun k _ => by rw [rotI_none (by omega) (by omega) (by omega)]) HRW.out.1 HRW.out.2⟩)
              obtain ⟨D2, T⟩ := HT.out
              have T := hidden T
              clear HT
              have HH := hidden (show SymP O D2 g a mid wr wr from Half.asis (s := s) (by omega) (by omega) (by omega) T.out.s1 T.out.s2 T.out.row)
              obtain ⟨D3, hx1, hx2, hx3⟩ := HH.out
              have X1 := hidden hx1
              have X2 := hidden hx2
              have X3 := hidden hx3
              clear hx1 hx2 hx3 HH
              have HZ := hidden (halves T.out (by have := Hn.out; omega) (by omega) (by omega) X1.out X3.out (Half.asis (s := e) (by omega) (by omega) (by omega) (T.out.s3.of_out X1.out.mix (by omega)) (T.out.s4.of_out X1.out.mix (by omega)) X2.out))
              go_wp2
              all_goals (go_end0; exact ⟨⟨_, rfl⟩, HZ.out⟩)
            · have iE : ¬ (e : Int) < (b : Int) := by omega
              have HT := hidden (show ∃ D2, Turned O D g a s mid e b w wr D2 from ⟨D, HTU.out D wr (List.Perm.refl _) (fun k _ => by rw [rotI_none (by omega) (by omega) (by omega)]) HRW.out.1 HRW.out.2⟩)
              obtain ⟨D2, T⟩ := HT.out
              have T := hidden T
              clear HT
              have HH := hidden (show SymP O D2 g a mid wr wr from Half.asis (s := s) (by omega) (by omega) (by omega) T.out.s1 T.out.s2 T.out.row)
              obtain ⟨D3, hx1, hx2, hx3⟩ := HH.out
              have X1 := hidden hx1
              have X2 := hidden hx2
              have X3 := hidden hx3
              clear hx1 hx2 hx3 HH
              have HZ := hidden (halves T.out (by have := Hn.out; omega) (by omega) (by omega) X1.out X3.out (Half.asis (s := e) (by omega) (by omega) (by omega) (T.out.s3.of_out X1.out.mix (by omega)) (T.out.s4.of_out X1.out.mix (by omega)) X2.out))
              go_wp2
              all_goals (go_end0; exact ⟨⟨_, rfl⟩, HZ.out⟩)
        · have iB : ¬ (m : Int) < (e : Int) := by omega
          have jB : ¬ (s : Int) < (mid : Int) := by omega
          by_cases cC : a < s
          · have iC : (a : Int) < (s : Int) := by omega
            by_cases cE : e < b
            · have iE : (e : Int) < (b : Int) := by omega
              have HT := hidden (show ∃ D2, Turned O D g a s mid e b w wr D2 from ⟨D, HTU.out D wr (List.Perm.refl _) (fun k _ => by rw [rotI_none (by omega) (by omega) (by omega)]) HRW.out.1 HRW.out.2⟩)
              obtain ⟨D2, T⟩ := HT.out
              have T := hidden T
              clear HT
              have HH := hidden (show SymP O D2 g a mid wr wr from Half.asis (s := s) (by omega) (by omega) (by omega) T.out.s1 T.out.s2 T.out.row)
              obtain ⟨D3, hx1, hx2, hx3⟩ := HH.out
              have X1 := hidden hx1
              have X2 := hidden hx2
              have X3 := hidden hx3
              clear hx1 hx2 hx3 HH
              have HZ := hidden (halves T.out (by have := Hn.out; omega) (by omega) (by omega) X1.out X3.out (Half.asis (s := e) (by omega) (by omega) (by omega) (T.out.s3.of_out X1.out.mix (by omega)) (T.out.s4.of_out X1.out.mix (by omega)) X2.out))
              go_wp2
              all_goals (go_end0; exact ⟨⟨_, rfl⟩, HZ.out⟩)
            · have iE : ¬ (e : Int) < (b : Int) := by omega
              have HT := hidden (show ∃ D2, Turned O D g a s mid e b w wr D2 from ⟨D, HTU.out D wr (List.Perm.refl _) (fun k _ => by rw [rotI_none (by omega) (by omega) (by omega)]) HRW.out.1 HRW.out.2⟩)
              obtain ⟨D2, T⟩ := HT.out
              have T := hidden T
              clear HT
              have HH := hidden (show SymP O D2 g a mid wr wr from Half.asis (s := s) (by omega) (by omega) (by omega) T.out.s1 T.out.s2 T.out.row)
              obtain ⟨D3, hx1, hx2, hx3⟩ := HH.out
              have X1 := hidden hx1
              have X2 := hidden hx2
              have X3 := hidden hx3
              clear hx1 hx2 hx3 HH
              have HZ := hidden (halves T.out (by have := Hn.out; omega) (by omega) (by omega) X1.out X3.out (Half.asis (s := e) (by omega) (by omega) (by omega) (T.out.s3.of_out X1.out.mix (by omega)) (T.out.s4.of_out X1.out.mix (by omega)) X2.out))
              go_wp2
              all_goals (go_end0; exact ⟨⟨_, rfl⟩, HZ.out⟩)
          · have iC : ¬ (a : Int) < (s : Int) := by omega
            by_cases cE : e < b
            · have iE : (e : Int) < (b : Int) := by omega
              have HT := hidden (show ∃ D2, Turned O D g a s mid e b w wr D2 from ⟨D, HTU.out D wr (List.Perm.refl _) (fun k _ => by rw [rotI_none (by omega) (by omega) (by omega)]) HRW.out.1 HRW.out.2⟩)
              obtain ⟨D2, T⟩ := HT.out
              have T := hidden T
              clear HT
              have HH := hidden (show SymP O D2 g a mid wr wr from Half.asis (s := s) (by omega) (by omega) (by omega) T.out.s1 T.out.s2 T.out.row)
              obtain ⟨D3, hx1, hx2, hx3⟩ := HH.out
              have X1 := hidden hx1
              have X2 := hidden hx2
              have X3 := hidden hx3
              clear hx1 hx2 hx3 HH
              have HZ := hidden (halves T.out (by have := Hn.out; omega) (by omega) (by omega) X1.out X3.out (Half.asis (s := e) (by omega) (by omega) (by omega) (T.out.s3.of_out X1.out.mix (by omega)) (T.out.s4.of_out X1.out.mix (by omega)) X2.out))
              go_wp2
              all_goals (go_end0; exact ⟨⟨_, rfl⟩, HZ.out⟩)
            · have iE : ¬ (e : Int) < (b : Int) := by omega
              have HT := hidden (show ∃ D2, Turned O D g a s mid e b w wr D2 from ⟨D, HTU.out D wr (List.Perm.refl _) (fun k _ => by rw [rotI_none (by omega) (by omega) (by omega)]) HRW.out.1 HRW.out.2⟩)
              obtain ⟨D2, T⟩ := HT.out
              have T := hidden T
              clear HT
              have HH := hidden (show SymP O D2 g a mid wr wr from Half.asis (s := s) (by omega) (by omega) (by omega) T.out.s1 T.out.s2 T.out.row)
              obtain ⟨D3, hx1, hx2, hx3⟩ := HH.out
              have X1 := hidden hx1
              have X2 := hidden hx2
              have X3 := hidden hx3
              clear hx1 hx2 hx3 HH
              have HZ := hidden (halves T.out (by have := Hn.out; omega) (by omega) (by omega) X1.out X3.out (Half.asis (s := e) (by omega) (by omega) (by omega) (T.out.s3.of_out X1.out.mix (by omega)) (T.out.s4.of_out X1.out.mix (by omega)) X2.out))
              go_wp2
              all_goals (go_end0; exact ⟨⟨_, rfl⟩, HZ.out⟩)

end Go.Proofs.Ytkglackbbcfhbaa
