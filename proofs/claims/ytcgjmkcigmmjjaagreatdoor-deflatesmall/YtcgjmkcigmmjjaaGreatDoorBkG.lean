/-
  Codes by lengths, and the best ones.
-/
import Derived.Test.YtcgjmkcigmmjjaaGreatDoorBkF

namespace Go.Proofs.YtcgjmkcigmmjjaaGreatDoor
open Go.RowKit
set_option maxRecDepth 100000
set_option linter.unusedVariables false
theorem ih_call {K : Nat} (IH : ∀ k, k < K → MergeOk k) {O : List Int} {v : Value} {B g : Nat} {D D2 : List Int} {a m b n : Nat} (cap : Nat) {w w2 : World} (hE : Env w B g v O) (hs : Step (fun k => k = g) w w2) (hr : Row w2 g D2) (hin : InO O D) (hp : List.Perm D2 D) (hn : n = D.length) (h1 : a < m) (h2 : m < b) (hb : b ≤ n) (s1 : Sr O D2 a m) (s2 : Sr O D2 m b) (hl : n ≤ 100000) (hO : O.length ≤ 100000) (hK : b - a < K) :
    Calls Tryz.prog 110 #[.slice (some ⟨g, 0, none⟩) n cap, .int .i64 (a : Int), .int .i64 (m : Int), .int .i64 (b : Int), cmpV B] w2 fun e w' => (∃ u, e = .returned u) ∧ SymP O D2 g a b w2 w' := by
  have e : n = D2.length := by rw [hp.length_eq]; exact hn
  subst e
  exact IH (b - a) hK O v B g D2 a m b cap w2 (hE.step hs) hr (hin.perm hp) h1 h2 hb s1 s2 hl hO rfl

set_option maxHeartbeats 8000000 in
theorem sym_hi {a b : Nat} (IH : ∀ k, k < b - a → MergeOk k) (O : List Int) (v : Value) (B g : Nat) (D : List Int) (m cap mid : Nat) (w : World) (hE : Env w B g v O) (hD : Row w g D) (hin : InO O D) (ham : a + 1 < m) (hmb : m + 1 < b) (hb : b ≤ D.length) (hs1 : Sr O D a m) (hs2 : Sr O D m b) (hn : D.length ≤ 100000) (hO : O.length ≤ 100000) (hmid : mid = (a + b) / 2) (hgt : mid < m) :
    Calls Tryz.prog 110 #[.slice (some ⟨g, 0, none⟩) D.length cap, .int .i64 (a : Int), .int .i64 (m : Int), .int .i64 (b : Int), cmpV B] w
      fun e w' => (∃ u, e = .returned u) ∧ SymP O D g a b w w' := by
  have HC := hidden (fun (u : World) (hu : ∃ q, u = w.drewN q) i j (hi : i < D.length) (hj : j < D.length) => cmp_at (w := u) (by obtain ⟨q, rfl⟩ := hu; exact hE.drewN q) (by obtain ⟨q, rfl⟩ := hu; exact hD.drewN q) hin hO i j hi hj)
  have HE := hidden hE
  have HD := hidden hD
  have HI := hidden hin
  have HS1 := hidden hs1
  have HS2 := hidden hs2
  have IH := hidden IH
  obtain ⟨n, hnn⟩ : ∃ n, n = D.length := ⟨_, rfl⟩
  have Hn := hidden hnn
  rw [← hnn] at hb hn ⊢
  clear hE hD hin hs1 hs2 hnn
  have emid : ((a : Int) + (b : Int)) / 2 = (mid : Int) := by omega
  have hm1 : a < mid := by omega
  have hm2 : mid < b := by omega
  have hm3 : 2 * mid ≤ a + b := by omega
  have hm4 : a + b ≤ 2 * mid + 1 := by omega
  have e1 : ((m : Int) - (a : Int) == 1) = false := by simp; omega
  have e1' : ¬ ((m : Int) - (a : Int) = 1) := by omega
  have e2 : ((b : Int) - (m : Int) == 1) = false := by simp; omega
  have e2' : ¬ ((b : Int) - (m : Int) = 1) := by omega
  obtain ⟨N, hN⟩ : ∃ N, N = mid + m := ⟨_, rfl⟩
  have eN : (mid : Int) + (m : Int) = (N : Int) := by omega
  obtain ⟨P, hP⟩ : ∃ P, P = N - 1 := ⟨_, rfl⟩
  have eP : (N : Int) - 1 = (P : Int) := by omega
  obtain ⟨S0, hS0⟩ : ∃ S0, S0 = N - b := ⟨_, rfl⟩
  have eS : (N : Int) - (b : Int) = (S0 : Int) := by omega
  have iM : (mid : Int) < (m : Int) := by omega
  have HS0 := hidden (show S0 + b = N by omega)
  have hS1 : a ≤ S0 := by omega
  have hS2 : S0 ≤ mid := by omega
  clear hS0
  have HN := hidden hN
  have HP := hidden (show P + 1 = N by omega)
  have hN1 : N ≤ 300000 := by omega
  have hP1 : P ≤ 300000 := by omega
  clear hN hP hmid
  go_enter Tryz.func110, Tryz.ntmps110
  go_wp2
  go_loopw [20, 21] (fun iv jv wr => ∃ s r : Nat, iv = .int .i64 (s : Int) ∧ jv = .int .i64 (r : Int) ∧ S0 ≤ s ∧ s ≤ r ∧ r ≤ mid ∧ Hid (S0 < s → key O (D.getD (s - 1) 0) ≤ key O (D.getD (P - (s - 1)) 0)) ∧ Hid (r < mid → key O (D.getD (P - r) 0) < key O (D.getD r 0)) ∧ Hid (∃ q, wr = w.drewN q)) (fun iv jv _ => (intOf jv - intOf iv).toNat)
  case atStart => exact ⟨S0, mid, rfl, rfl, by omega, by omega, by omega, (fun h => by omega), (fun h => by omega), 0, rfl⟩
  case round =>
    obtain ⟨s, r, rfl, rfl, h1, h2, h3, HL, HR, HW⟩ := hrel
    by_cases hij : s < r
    · have hij' : (s : Int) < (r : Int) := by omega
      obtain ⟨c, hc0⟩ : ∃ c, c = (s + r) / 2 := ⟨_, rfl⟩
      have hh1 : s ≤ c := by omega
      have hh2 : c < r := by omega
      obtain ⟨pc, hpc⟩ : ∃ pc, pc = P - c := ⟨_, rfl⟩
      have hpc1 : pc < n := by have := HS0.out; have := HN.out; have := HP.out; omega
      have hpc2 : pc + c = P := by have := HS0.out; have := HN.out; have := HP.out; omega
      obtain ⟨x, y, cv, c1, c2, hcv, HCC⟩ := HC.out wr HW.out pc c (by have := Hn.out; omega) (by have := Hn.out; omega)
      have HCC := hidden HCC
      have Hcv := hidden hcv
      have Hpc := hidden hpc
      have ec : ((s : Int) + (r : Int)) / 2 = (c : Int) := by omega
      have epc : (P : Int) - (c : Int) = (pc : Int) := by omega
      have hl1 : (pc : Int) < (n : Int) := by omega
      have hl2 : (c : Int) < (n : Int) := by omega
      clear hcv hc0 hpc hpc2
      by_cases hc : cv < 0
      · have hk := hidden (Hcv.out.1 hc)
        go_wp2
        go_quiet ((go_at_call 102; exact Calls.quiet_of (HCC.out _)))
        go_wp2
        all_goals try (exfalso; first | omega | (rename_i hz; simp at hz; omega))
        go_roundw
        case rel => exact ⟨s, c, rfl, rfl, by omega, by omega, by omega, HL, (fun _ => by rw [← Hpc.out]; exact hk.out), (by obtain ⟨q, rfl⟩ := HW.out; exact ⟨_, World.drewN_drewN _ _ _⟩)⟩
        case measure => simp [intOf]; omega
      · have hk := hidden (Int.not_lt.1 (fun z => hc (Hcv.out.2 z)))
        have hc' : (0 : Int) ≤ cv := by omega
        have hnb : (!decide (cv < 0)) = true := by simp; omega
        have hnc : decide (cv < 0) = false := by simp; omega
        go_wp2
        go_quiet ((go_at_call 102; exact Calls.quiet_of (HCC.out _)))
        go_wp2
        all_goals try (exfalso; first | omega | (rename_i hz; simp at hz; omega))
        go_roundw
        case rel => exact ⟨c + 1, r, by go_num, rfl, by omega, by omega, by omega, (fun _ => by rw [Nat.add_sub_cancel, ← Hpc.out]; exact hk.out), HR, (by obtain ⟨q, rfl⟩ := HW.out; exact ⟨_, World.drewN_drewN _ _ _⟩)⟩
        case measure => simp [intOf]; omega
    · have hij' : ¬ (s : Int) < (r : Int) := by omega
      have hij2 : s = r := by omega
      subst hij2
      obtain ⟨e, he⟩ : ∃ e, e = N - s := ⟨_, rfl⟩
      have ee : (N : Int) - (s : Int) = (e : Int) := by have := HN.out; omega
      have ee2 : s + e = mid + m := by have := HN.out; omega
      have HRW := hidden (show Row wr g D ∧ Step (fun k => k = g) w wr by obtain ⟨q, rfl⟩ := HW.out; exact ⟨HD.out.drewN q, (Step.refl _ _).drewN q⟩)
      have b1 : a ≤ s := by omega
      have b2 : s ≤ m := by omega
      have b3 : m ≤ e := by omega
      have b4 : e ≤ b := by have := HS0.out; have := HN.out; omega
      have b5 : s ≤ mid := by omega
      have b6 : mid ≤ e := by omega
      have HX := hidden (show a < s → e < b → key O (D.getD (s - 1) 0) ≤ key O (D.getD e 0) from fun x y => by
        have z := HL.out (by have := HS0.out; have := HN.out; omega)
        rwa [show P - (s - 1) = e by have := HP.out; have := HN.out; omega] at z)
      have HY := hidden (show s < m → m < e → key O (D.getD (e - 1) 0) < key O (D.getD s 0) from fun x y => by
        have z := HR.out (by omega)
        rw [show P - s = e - 1 by have := HP.out; have := HN.out; omega] at z
        exact z)
      have HTU := hidden (fun (D2 : List Int) (w2 : World) (hp : List.Perm D2 D) (H : ∀ k, k < D.length → D2.getD k 0 = D.getD (rotI s m e k) 0) (hr : Row w2 g D2) (hst : Step (fun k => k = g) w w2) => turned_of (mid := mid) (b := b) (by omega) (by omega) (by have := Hn.out; omega) b1 b2 b3 b4 (by omega) b5 HS1.out HS2.out HX.out HY.out hp H hr hst)
      have Hee := hidden ee2
      have ee3 : e + s ≤ mid + m := by omega
      have ee4 : mid + m ≤ e + s := by omega
      clear he ee2 h2 h3 hij
      by_cases cA : s < m
      · have iA : (s : Int) < (m : Int) := by omega
        have jA : (mid : Int) < (e : Int) := by omega
        by_cases cB : m < e
        · have iB : (m : Int) < (e : Int) := by omega
          have jB : (s : Int) < (mid : Int) := by omega
          by_cases cC : a < s
          · have iC : (a : Int) < (s : Int) := by omega
            by_cases cE : e < b
            · have iE : (e : Int) < (b : Int) := by omega
              have HRT := hidden (show Calls Tryz.prog 111 #[.slice (some ⟨g, 0, none⟩) n cap, .int .i64 (s : Int), .int .i64 (m : Int), .int .i64 (e : Int), cmpV B] wr (fun x w' => (∃ u, x = .returned u) ∧ RotP D g s m e wr w') by rw [Hn.out]; exact rotate_any g D s m e cap (cmpV B) wr HRW.out.1 (by omega) (by omega) (by have := Hn.out; omega) (by have := Hn.out; omega))
              go_wp2_with fail
              refine HRT.out.mono ?_
              rintro x w2 ⟨⟨u, rfl⟩, hr⟩
              have HT := hidden (show ∃ D2, Turned O D g a s mid e b w w2 D2 by
                obtain ⟨D2, p1, p2, p3, p4⟩ := hr
                exact ⟨D2, HTU.out D2 w2 p1 p2 p3 (HRW.out.2.trans p4 (fun i hi => .inl hi))⟩)
              clear hr HRT
              obtain ⟨D2, T⟩ := HT.out
              have T := hidden T
              clear HT
              have HI1 := hidden (ih_call IH.out cap HE.out T.out.st T.out.row HI.out T.out.perm Hn.out (a := a) (m := s) (b := mid) (by omega) (by omega) (by omega) T.out.s1 T.out.s2 hn hO (by omega))
              go_wp2_with fail
              refine HI1.out.mono ?_
              rintro x w3 ⟨⟨u, rfl⟩, hr⟩
              have HH := hidden hr
              clear hr HI1
              obtain ⟨D3, hx1, hx2, hx3⟩ := HH.out
              have X1 := hidden hx1
              have X2 := hidden hx2
              have X3 := hidden hx3
              clear hx1 hx2 hx3 HH
              have HI2 := hidden (ih_call IH.out cap HE.out (T.out.st.trans X3.out (fun i hi => .inl hi)) X2.out HI.out (X1.out.perm.trans T.out.perm) Hn.out (a := mid) (m := e) (b := b) (by omega) (by omega) (by omega) (T.out.s3.of_out X1.out.mix (by omega)) (T.out.s4.of_out X1.out.mix (by omega)) hn hO (by omega))
              go_wp2_with fail
              refine HI2.out.mono ?_
              rintro x w4 ⟨⟨u, rfl⟩, hr⟩
              have HZ := hidden (halves T.out (by have := Hn.out; omega) (by omega) (by omega) X1.out X3.out hr)
              clear hr HI2
              go_wp2
              all_goals (go_end0; exact ⟨⟨_, rfl⟩, HZ.out⟩)
            · have iE : ¬ (e : Int) < (b : Int) := by omega
              have HRT := hidden (show Calls Tryz.prog 111 #[.slice (some ⟨g, 0, none⟩) n cap, .int .i64 (s : Int), .int .i64 (m : Int), .int .i64 (e : Int), cmpV B] wr (fun x w' => (∃ u, x = .returned u) ∧ RotP D g s m e wr w') by rw [Hn.out]; exact rotate_any g D s m e cap (cmpV B) wr HRW.out.1 (by omega) (by omega) (by have := Hn.out; omega) (by have := Hn.out; omega))
              go_wp2_with fail
              refine HRT.out.mono ?_
              rintro x w2 ⟨⟨u, rfl⟩, hr⟩
              have HT := hidden (show ∃ D2, Turned O D g a s mid e b w w2 D2 by
                obtain ⟨D2, p1, p2, p3, p4⟩ := hr
                exact ⟨D2, HTU.out D2 w2 p1 p2 p3 (HRW.out.2.trans p4 (fun i hi => .inl hi))⟩)
              clear hr HRT
              obtain ⟨D2, T⟩ := HT.out
              have T := hidden T
              clear HT
              have HI1 := hidden (ih_call IH.out cap HE.out T.out.st T.out.row HI.out T.out.perm Hn.out (a := a) (m := s) (b := mid) (by omega) (by omega) (by omega) T.out.s1 T.out.s2 hn hO (by omega))
              go_wp2_with fail
              refine HI1.out.mono ?_
              rintro x w3 ⟨⟨u, rfl⟩, hr⟩
              have HH := hidden hr
              clear hr HI1
              obtain ⟨D3, hx1, hx2, hx3⟩ := HH.out
              have X1 := hidden hx1
              have X2 := hidden hx2
              have X3 := hidden hx3
              clear hx1 hx2 hx3 HH
              have HZ := hidden (halves T.out (by have := Hn.out; omega) (by omega) (by omega) X1.out X3.out (Half.asis (s := e) (by omega) (by omega) (by omega) (T.out.s3.of_out X1.out.mix (by omega)) (T.out.s4.of_out X1.out.mix (by omega)) X2.out))
              go_wp2
              all_goals (go_end0; exact ⟨⟨_, rfl⟩, HZ.out⟩)
          · have iC : ¬ (a : Int) < (s : Int) := by omega
            by_cases cE : e < b
            · have iE : (e : Int) < (b : Int) := by omega
              have HRT := hidden (show Calls Tryz.prog 111 #[.slice (some ⟨g, 0, none⟩) n cap, .int .i64 (s : Int), .int .i64 (m : Int), .int .i64 (e : Int), cmpV B] wr (fun x w' => (∃ u, x = .returned u) ∧ RotP D g s m e wr w') by rw [Hn.out]; exact rotate_any g D s m e cap (cmpV B) wr HRW.out.1 (by omega) (by omega) (by have := Hn.out; omega) (by have := Hn.out; omega))
              go_wp2_with fail
              refine HRT.out.mono ?_
              rintro x w2 ⟨⟨u, rfl⟩, hr⟩
              have HT := hidden (show ∃ D2, Turned O D g a s mid e b w w2 D2 by
                obtain ⟨D2, p1, p2, p3, p4⟩ := hr
                exact ⟨D2, HTU.out D2 w2 p1 p2 p3 (HRW.out.2.trans p4 (fun i hi => .inl hi))⟩)
              clear hr HRT
              obtain ⟨D2, T⟩ := HT.out
              have T := hidden T
              clear HT
              have HH := hidden (show SymP O D2 g a mid w2 w2 from Half.asis (s := s) (by omega) (by omega) (by omega) T.out.s1 T.out.s2 T.out.row)
              obtain ⟨D3, hx1, hx2, hx3⟩ := HH.out
              have X1 := hidden hx1
              have X2 := hidden hx2
              have X3 := hidden hx3
              clear hx1 hx2 hx3 HH
              have HI2 := hidden (ih_call IH.out cap HE.out (T.out.st.trans X3.out (fun i hi => .inl hi)) X2.out HI.out (X1.out.perm.trans T.out.perm) Hn.out (a := mid) (m := e) (b := b) (by omega) (by omega) (by omega) (T.out.s3.of_out X1.out.mix (by omega)) (T.out.s4.of_out X1.out.mix (by omega)) hn hO (by omega))
              go_wp2_with fail
              refine HI2.out.mono ?_
              rintro x w4 ⟨⟨u, rfl⟩, hr⟩
              have HZ := hidden (halves T.out (by have := Hn.out; omega) (by omega) (by omega) X1.out X3.out hr)
              clear hr HI2
              go_wp2
              all_goals (go_end0; exact ⟨⟨_, rfl⟩, HZ.out⟩)
            · have iE : ¬ (e : Int) < (b : Int) := by omega
              have HRT := hidden (show Calls Tryz.prog 111 #[.slice (some ⟨g, 0, none⟩) n cap, .int .i64 (s : Int), .int .i64 (m : Int), .int .i64 (e : Int), cmpV B] wr (fun x w' => (∃ u, x = .returned u) ∧ RotP D g s m e wr w') by rw [Hn.out]; exact rotate_any g D s m e cap (cmpV B) wr HRW.out.1 (by omega) (by omega) (by have := Hn.out; omega) (by have := Hn.out; omega))
              go_wp2_with fail
              refine HRT.out.mono ?_
              rintro x w2 ⟨⟨u, rfl⟩, hr⟩
              have HT := hidden (show ∃ D2, Turned O D g a s mid e b w w2 D2 by
                obtain ⟨D2, p1, p2, p3, p4⟩ := hr
                exact ⟨D2, HTU.out D2 w2 p1 p2 p3 (HRW.out.2.trans p4 (fun i hi => .inl hi))⟩)
              clear hr HRT
              obtain ⟨D2, T⟩ := HT.out
              have T := hidden T
              clear HT
              have HH := hidden (show SymP O D2 g a mid w2 w2 from Half.asis (s := s) (by omega) (by omega) (by omega) T.out.s1 T.out.s2 T.out.row)
              obtain ⟨D3, hx1, hx2, hx3⟩ := HH.out
              have X1 := hidden hx1
              have X2 := hidden hx2
              have X3 := hidden hx3
              clear hx1 hx2 hx3 HH
              have HZ := hidden (halves T.out (by have := Hn.out; omega) (by omega) (by omega) X1.out X3.out (Half.asis (s := e) (by omega) (by omega) (by omega) (T.out.s3.of_out X1.out.mix (by omega)) (T.out.s4.of_out X1.out.mix (by omega)) X2.out))
              go_wp2
              all_goals (go_end0; exact ⟨⟨_, rfl⟩, HZ.out⟩)
        · have iB : ¬ (m : Int) < (e : Int) := by omega
          have jB : ¬ (s : Int) < (mid : Int) := by omega
          by_cases cC : a < s
          · have iC : (a : Int) < (s : Int) := by omega
            by_cases cE : e < b
            · have iE : (e : Int) < (b : Int) := by omega
              have HT := hidden (show ∃ D2, Turned O D g a s mid e b w wr D2 from ⟨D, HTU.out D wr (List.Perm.refl _) (fun k _ => by rw [rotI_none (by omega) (by omega) (by omega)]) HRW.out.1 HRW.out.2⟩)
              obtain ⟨D2, T⟩ := HT.out
              have T := hidden T
              clear HT
              have HH := hidden (show SymP O D2 g a mid wr wr from Half.asis (s := s) (by omega) (by omega) (by omega) T.out.s1 T.out.s2 T.out.row)
              obtain ⟨D3, hx1, hx2, hx3⟩ := HH.out
              have X1 := hidden hx1
              have X2 := hidden hx2
              have X3 := hidden hx3
              clear hx1 hx2 hx3 HH
              have HI2 := hidden (ih_call IH.out cap HE.out (T.out.st.trans X3.out (fun i hi => .inl hi)) X2.out HI.out (X1.out.perm.trans T.out.perm) Hn.out (a := mid) (m := e) (b := b) (by omega) (by omega) (by omega) (T.out.s3.of_out X1.out.mix (by omega)) (T.out.s4.of_out X1.out.mix (by omega)) hn hO (by omega))
              go_wp2_with fail
              refine HI2.out.mono ?_
              rintro x w4 ⟨⟨u, rfl⟩, hr⟩
              have HZ := hidden (halves T.out (by have := Hn.out; omega) (by omega) (by omega) X1.out X3.out hr)
              clear hr HI2
              go_wp2
              all_goals (go_end0; exact ⟨⟨_, rfl⟩, HZ.out⟩)
            · have iE : ¬ (e : Int) < (b : Int) := by omega
              have HT := hidden (show ∃ D2, Turned O D g a s mid e b w wr D2 from ⟨D, HTU.out D wr (List.Perm.refl _) (fun k _ => by rw [rotI_none (by omega) (by omega) (by omega)]) HRW.out.1 HRW.out.2⟩)
              obtain ⟨D2, T⟩ := HT.out
              have T := hidden T
              clear HT
              have HH := hidden (show SymP O D2 g a mid wr wr from Half.asis (s := s) (by omega) (by omega) (by omega) T.out.s1 T.out.s2 T.out.row)
              obtain ⟨D3, hx1, hx2, hx3⟩ := HH.out
              have X1 := hidden hx1
              have X2 := hidden hx2
              have X3 := hidden hx3
              clear hx1 hx2 hx3 HH
              have HZ := hidden (halves T.out (by have := Hn.out; omega) (by omega) (by omega) X1.out X3.out (Half.asis (s := e) (by omega) (by omega) (by omega) (T.out.s3.of_out X1.out.mix (by omega)) (T.out.s4.of_out X1.out.mix (by omega)) X2.out))
              go_wp2
              all_goals (go_end0; exact ⟨⟨_, rfl⟩, HZ.out⟩)
          · have iC : ¬ (a : Int) < (s : Int) := by omega
            by_cases cE : e < b
            · have iE : (e : Int) < (b : Int) := by omega
              have HT := hidden (show ∃ D2, Turned O D g a s mid e b w wr D2 from ⟨D, HTU.out D wr (List.Perm.refl _) (fun k _ => by rw [rotI_none (by omega) (by omega) (by omega)]) HRW.out.1 HRW.out.2⟩)
              obtain ⟨D2, T⟩ := HT.out
              have T := hidden T
              clear HT
              have HH := hidden (show SymP O D2 g a mid wr wr from Half.asis (s := s) (by omega) (by omega) (by omega) T.out.s1 T.out.s2 T.out.row)
              obtain ⟨D3, hx1, hx2, hx3⟩ := HH.out
              have X1 := hidden hx1
              have X2 := hidden hx2
              have X3 := hidden hx3
              clear hx1 hx2 hx3 HH
              have HI2 := hidden (ih_call IH.out cap HE.out (T.out.st.trans X3.out (fun i hi => .inl hi)) X2.out HI.out (X1.out.perm.trans T.out.perm) Hn.out (a := mid) (m := e) (b := b) (by omega) (by omega) (by omega) (T.out.s3.of_out X1.out.mix (by omega)) (T.out.s4.of_out X1.out.mix (by omega)) hn hO (by omega))
              go_wp2_with fail
              refine HI2.out.mono ?_
              rintro x w4 ⟨⟨u, rfl⟩, hr⟩
              have HZ := hidden (halves T.out (by have := Hn.out; omega) (by omega) (by omega) X1.out X3.out hr)
              clear hr HI2
              go_wp2
              all_goals (go_end0; exact ⟨⟨_, rfl⟩, HZ.out⟩)
            · have iE : ¬ (e : Int) < (b : Int) := by omega
              have HT := hidden (show ∃ D2, Turned O D g a s mid e b w wr D2 from ⟨D, HTU.out D wr (List.Perm.refl _) (fun k _ => by rw [rotI_none (by omega) (by omega) (by omega)]) HRW.out.1 HRW.out.2⟩)
              obtain ⟨D2, T⟩ := HT.out
              have T := hidden T
              clear HT
              have HH := hidden (show SymP O D2 g a mid wr wr from Half.asis (s := s) (by omega) (by omega) (by omega) T.out.s1 T.out.s2 T.out.row)
              obtain ⟨D3, hx1, hx2, hx3⟩ := HH.out
              have X1 := hidden hx1
              have X2 := hidden hx2
              have X3 := hidden hx3
              clear hx1 hx2 hx3 HH
              have HZ := hidden (halves T.out (by have := Hn.out; omega) (by omega) (by omega) X1.out X3.out (Half.asis (s := e) (by omega) (by omega) (by omega) (T.out.s3.of_out X1.out.mix (by omega)) (T.out.s4.of_out X1.out.mix (by omega)) X2.out))
              go_wp2
              all_goals (go_end0; exact ⟨⟨_, rfl⟩, HZ.out⟩)
      · have iA : ¬ (s : Int) < (m : Int) := by omega
        have jA : ¬ (mid : Int) < (e : Int) := by omega
        by_cases cB : m < e
        · have iB : (m : Int) < (e : Int) := by omega
          have jB : (s : Int) < (mid : Int) := by omega
          by_cases cC : a < s
          · have iC : (a : Int) < (s : Int) := by omega
            by_cases cE : e < b
            · have iE : (e : Int) < (b : Int) := by omega
              have HT := hidden (show ∃ D2, Turned O D g a s mid e b w wr D2 from ⟨D, HTU.out D wr (List.Perm.refl _) (fun k _ => by rw [rotI_none (by omega) (by omega) (by omega)]) HRW.out.1 HRW.out.2⟩)
              obtain ⟨D2, T⟩ := HT.out
              have T := hidden T
              clear HT
              have HI1 := hidden (ih_call IH.out cap HE.out T.out.st T.out.row HI.out T.out.perm Hn.out (a := a) (m := s) (b := mid) (by omega) (by omega) (by omega) T.out.s1 T.out.s2 hn hO (by omega))
              go_wp2_with fail
              refine HI1.out.mono ?_
              rintro x w3 ⟨⟨u, rfl⟩, hr⟩
              have HH := hidden hr
              clear hr HI1
              obtain ⟨D3, hx1, hx2, hx3⟩ := HH.out
              have X1 := hidden hx1
              have X2 := hidden hx2
              have X3 := hidden hx3
              clear hx1 hx2 hx3 HH
              have HZ := hidden (halves T.out (by have := Hn.out; omega) (by omega) (by omega) X1.out X3.out (Half.asis (s := e) (by omega) (by omega) (by omega) (T.out.s3.of_out X1.out.mix (by omega)) (T.out.s4.of_out X1.out.mix (by omega)) X2.out))
              go_wp2
              all_goals (go_end0; exact ⟨⟨_, rfl⟩, HZ.out⟩)
            · have iE : ¬ (e : Int) < (b : Int) := by omega
              have HT := hidden (show ∃ D2, Turned O D g a s mid e b w wr D2 from ⟨D, HTU.out D wr (List.Perm.refl _) (fun k _ => by rw [rotI_none (by omega) (by omega) (by omega)]) HRW.out.1 HRW.out.2⟩)
              obtain ⟨D2, T⟩ := HT.out
              have T := hidden T
              clear HT
              have HI1 := hidden (ih_call IH.out cap HE.out T.out.st T.out.row HI.out T.out.perm Hn.out (a := a) (m := s) (b := mid) (by omega) (by omega) (by omega) T.out.s1 T.out.s2 hn hO (by omega))
              go_wp2_with fail
              refine HI1.out.mono ?_
              rintro x w3 ⟨⟨u, rfl⟩, hr⟩
              have HH := hidden hr
              clear hr HI1
              obtain ⟨D3, hx1, hx2, hx3⟩ := HH.out
              have X1 := hidden hx1
              have X2 := hidden hx2
              have X3 := hidden hx3
              clear hx1 hx2 hx3 HH
              have HZ := hidden (halves T.out (by have := Hn.out; omega) (by omega) (by omega) X1.out X3.out (Half.asis (s := e) (by omega) (by omega) (by omega) (T.out.s3.of_out X1.out.mix (by omega)) (T.out.s4.of_out X1.out.mix (by omega)) X2.out))
              go_wp2
              all_goals (go_end0; exact ⟨⟨_, rfl⟩, HZ.out⟩)
          · have iC : ¬ (a : Int) < (s : Int) := by omega
            by_cases cE : e < b
            · have iE : (e : Int) < (b : Int) := by omega
              have HT := hidden (show ∃ D2, Turned O D g a s mid e b w wr D2 from ⟨D, HTU.out D wr (List.Perm.refl _) (fun k _ => by rw [rotI_none (by omega) (by omega) (by omega)]) HRW.out.1 HRW.out.2⟩)
              obtain ⟨D2, T⟩ := HT.out
              have T := hidden T
              clear HT
              have HH := hidden (show SymP O D2 g a mid wr wr from Half.asis (s := s) (by omega) (by omega) (by omega) T.out.s1 T.out.s2 T.out.row)
              obtain ⟨D3, hx1, hx2, hx3⟩ := HH.out
              have X1 := hidden hx1
              have X2 := hidden hx2
              have X3 := hidden hx3
              clear hx1 hx2 hx3 HH
              have HZ := hidden (halves T.out (by have := Hn.out; omega) (by omega) (by omega) X1.out X3.out (Half.asis (s := e) (by omega) (by omega) (by omega) (T.out.s3.of_out X1.out.mix (by omega)) (T.out.s4.of_out X1.out.mix (by omega)) X2.out))
              go_wp2
              all_goals (go_end0; exact ⟨⟨_, rfl⟩, HZ.out⟩)
            · have iE : ¬ (e : Int) < (b : Int) := by omega
              have HT := hidden (show ∃ D2, Turned O D g a s mid e b w wr D2 from ⟨D, HTU.out D wr (List.Perm.refl _) (fun k _ => by rw [rotI_none (by omega) (by omega) (by omega)]) HRW.out.1 HRW.out.2⟩)
              obtain ⟨D2, T⟩ := HT.out
              have T := hidden T
              clear HT
              have HH := hidden (show SymP O D2 g a mid wr wr from Half.asis (s := s) (by omega) (by omega) (by omega) T.out.s1 T.out.s2 T.out.row)
              obtain ⟨D3, hx1, hx2, hx3⟩ := HH.out
              have X1 := hidden hx1
              have X2 := hidden hx2
              have X3 := hidden hx3
              clear hx1 hx2 hx3 HH
              have HZ := hidden (halves T.out (by have := Hn.out; omega) (by omega) (by omega) X1.out X3.out (Half.asis (s := e) (by omega) (by omega) (by omega) (T.out.s3.of_out X1.out.mix (by omega)) (T.out.s4.of_out X1.out.mix (by omega)) X2.out))
              go_wp2
              all_goals (go_end0; exact ⟨⟨_, rfl⟩, HZ.out⟩)
        · have iB : ¬ (m : Int) < (e : Int) := by omega
          have jB : ¬ (s : Int) < (mid : Int) := by omega
          by_cases cC : a < s
          · have iC : (a : Int) < (s : Int) := by omega
            by_cases cE : e < b
            · have iE : (e : Int) < (b : Int) := by omega
              have HT := hidden (show ∃ D2, Turned O D g a s mid e b w wr D2 from ⟨D, HTU.out D wr (List.Perm.refl _) (fun k _ => by rw [rotI_none (by omega) (by omega) (by omega)]) HRW.out.1 HRW.out.2⟩)
              obtain ⟨D2, T⟩ := HT.out
              have T := hidden T
              clear HT
              have HH := hidden (show SymP O D2 g a mid wr wr from Half.asis (s := s) (by omega) (by omega) (by omega) T.out.s1 T.out.s2 T.out.row)
              obtain ⟨D3, hx1, hx2, hx3⟩ := HH.out
              have X1 := hidden hx1
              have X2 := hidden hx2
              have X3 := hidden hx3
              clear hx1 hx2 hx3 HH
              have HZ := hidden (halves T.out (by have := Hn.out; omega) (by omega) (by omega) X1.out X3.out (Half.asis (s := e) (by omega) (by omega) (by omega) (T.out.s3.of_out X1.out.mix (by omega)) (T.out.s4.of_out X1.out.mix (by omega)) X2.out))
              go_wp2
              all_goals (go_end0; exact ⟨⟨_, rfl⟩, HZ.out⟩)
            · have iE : ¬ (e : Int) < (b : Int) := by omega
              have HT := hidden (show ∃ D2, Turned O D g a s mid e b w wr D2 from ⟨D, HTU.out D wr (List.Perm.refl _) (fun k _ => by rw [rotI_none (by omega) (by omega) (by omega)]) HRW.out.1 HRW.out.2⟩)
              obtain ⟨D2, T⟩ := HT.out
              have T := hidden T
              clear HT
              have HH := hidden (show SymP O D2 g a mid wr wr from Half.asis (s := s) (by omega) (by omega) (by omega) T.out.s1 T.out.s2 T.out.row)
              obtain ⟨D3, hx1, hx2, hx3⟩ := HH.out
              have X1 := hidden hx1
              have X2 := hidden hx2
              have X3 := hidden hx3
              clear hx1 hx2 hx3 HH
              have HZ := hidden (halves T.out (by have := Hn.out; omega) (by omega) (by omega) X1.out X3.out (Half.asis (s := e) (by omega) (by omega) (by omega) (T.out.s3.of_out X1.out.mix (by omega)) (T.out.s4.of_out X1.out.mix (by omega)) X2.out))
              go_wp2
              all_goals (go_end0; exact ⟨⟨_, rfl⟩, HZ.out⟩)
          · have iC : ¬ (a : Int) < (s : Int) := by omega
            by_cases cE : e < b
            · have iE : (e : Int) < (b : Int) := by omega
              have HT := hidden (show ∃ D2, Turned O D g a s mid e b w wr D2 from ⟨D, HTU.out D wr (List.Perm.refl _) (fun k _ => by rw [rotI_none (by omega) (by omega) (by omega)]) HRW.out.1 HRW.out.2⟩)
              obtain ⟨D2, T⟩ := HT.out
              have T := hidden T
              clear HT
              have HH := hidden (show SymP O D2 g a mid wr wr from Half.asis (s := s) (by omega) (by omega) (by omega) T.out.s1 T.out.s2 T.out.row)
              obtain ⟨D3, hx1, hx2, hx3⟩ := HH.out
              have X1 := hidden hx1
              have X2 := hidden hx2
              have X3 := hidden hx3
              clear hx1 hx2 hx3 HH
              have HZ := hidden (halves T.out (by have := Hn.out; omega) (by omega) (by omega) X1.out X3.out (Half.asis (s := e) (by omega) (by omega) (by omega) (T.out.s3.of_out X1.out.mix (by omega)) (T.out.s4.of_out X1.out.mix (by omega)) X2.out))
              go_wp2
              all_goals (go_end0; exact ⟨⟨_, rfl⟩, HZ.out⟩)
            · have iE : ¬ (e : Int) < (b : Int) := by omega
              have HT := hidden (show ∃ D2, Turned O D g a s mid e b w wr D2 from ⟨D, HTU.out D wr (List.Perm.refl _) (fun k _ => by rw [rotI_none (by omega) (by omega) (by omega)]) HRW.out.1 HRW.out.2⟩)
              obtain ⟨D2, T⟩ := HT.out
              have T := hidden T
              clear HT
              have HH := hidden (show SymP O D2 g a mid wr wr from Half.asis (s := s) (by omega) (by omega) (by omega) T.out.s1 T.out.s2 T.out.row)
              obtain ⟨D3, hx1, hx2, hx3⟩ := HH.out
              have X1 := hidden hx1
              have X2 := hidden hx2
              have X3 := hidden hx3
              clear hx1 hx2 hx3 HH
              have HZ := hidden (halves T.out (by have := Hn.out; omega) (by omega) (by omega) X1.out X3.out (Half.asis (s := e) (by omega) (by omega) (by omega) (T.out.s3.of_out X1.out.mix (by omega)) (T.out.s4.of_out X1.out.mix (by omega)) X2.out))
              go_wp2
              all_goals (go_end0; exact ⟨⟨_, rfl⟩, HZ.out⟩)

end Go.Proofs.YtcgjmkcigmmjjaaGreatDoor

namespace Go.Proofs.YtcgjmkcigmmjjaaGreatDoor
open Go.RowKit
set_option maxRecDepth 100000
set_option linter.unusedVariables false
set_option maxHeartbeats 8000000 in
theorem sym_lo {a b : Nat} (IH : ∀ k, k < b - a → MergeOk k) (O : List Int) (v : Value) (B g : Nat) (D : List Int) (m cap mid : Nat) (w : World) (hE : Env w B g v O) (hD : Row w g D) (hin : InO O D) (ham : a + 1 < m) (hmb : m + 1 < b) (hb : b ≤ D.length) (hs1 : Sr O D a m) (hs2 : Sr O D m b) (hn : D.length ≤ 100000) (hO : O.length ≤ 100000) (hmid : mid = (a + b) / 2) (hgt : m ≤ mid) :
    Calls Tryz.prog 110 #[.slice (some ⟨g, 0, none⟩) D.length cap, .int .i64 (a : Int), .int .i64 (m : Int), .int .i64 (b : Int), cmpV B] w
      fun e w' => (∃ u, e = .returned u) ∧ SymP O D g a b w w' := by
  have HC := hidden (fun (u : World) (hu : ∃ q, u = w.drewN q) i j (hi : i < D.length) (hj : j < D.length) => cmp_at (w := u) (by obtain ⟨q, rfl⟩ := hu; exact hE.drewN q) (by obtain ⟨q, rfl⟩ := hu; exact hD.drewN q) hin hO i j hi hj)
  have HE := hidden hE
  have HD := hidden hD
  have HI := hidden hin
  have HS1 := hidden hs1
  have HS2 := hidden hs2
  have IH := hidden IH
  obtain ⟨n, hnn⟩ : ∃ n, n = D.length := ⟨_, rfl⟩
  have Hn := hidden hnn
  rw [← hnn] at hb hn ⊢
  clear hE hD hin hs1 hs2 hnn
  have emid : ((a : Int) + (b : Int)) / 2 = (mid : Int) := by omega
  have hm1 : a < mid := by omega
  have hm2 : mid < b := by omega
  have hm3 : 2 * mid ≤ a + b := by omega
  have hm4 : a + b ≤ 2 * mid + 1 := by omega
  have e1 : ((m : Int) - (a : Int) == 1) = false := by simp; omega
  have e1' : ¬ ((m : Int) - (a : Int) = 1) := by omega
  have e2 : ((b : Int) - (m : Int) == 1) = false := by simp; omega
  have e2' : ¬ ((b : Int) - (m : Int) = 1) := by omega
  obtain ⟨N, hN⟩ : ∃ N, N = mid + m := ⟨_, rfl⟩
  have eN : (mid : Int) + (m : Int) = (N : Int) := by omega
  obtain ⟨P, hP⟩ : ∃ P, P = N - 1 := ⟨_, rfl⟩
  have eP : (N : Int) - 1 = (P : Int) := by omega
  have iM : ¬ (mid : Int) < (m : Int) := by omega
  have HN := hidden hN
  have HP := hidden (show P + 1 = N by omega)
  have hN1 : N ≤ 300000 := by omega
  have hP1 : P ≤ 300000 := by omega
  clear hN hP hmid
  go_enter Tryz.func110, Tryz.ntmps110
  go_wp2
  go_loopw [20, 21] (fun iv jv wr => ∃ s r : Nat, iv = .int .i64 (s : Int) ∧ jv = .int .i64 (r : Int) ∧ a ≤ s ∧ s ≤ r ∧ r ≤ m ∧ Hid (a < s → key O (D.getD (s - 1) 0) ≤ key O (D.getD (P - (s - 1)) 0)) ∧ Hid (r < m → key O (D.getD (P - r) 0) < key O (D.getD r 0)) ∧ Hid (∃ q, wr = w.drewN q)) (fun iv jv _ => (intOf jv - intOf iv).toNat)
  case atStart => exact ⟨a, m, rfl, rfl, by omega, by omega, by omega, (fun h => by omega), (fun h => by omega), 0, rfl⟩
  case round =>
    obtain ⟨s, r, rfl, rfl, h1, h2, h3, HL, HR, HW⟩ := hrel
    by_cases hij : s < r
    · have hij' : (s : Int) < (r : Int) := by omega
      obtain ⟨c, hc0⟩ : ∃ c, c = (s + r) / 2 := ⟨_, rfl⟩
      have hh1 : s ≤ c := by omega
      have hh2 : c < r := by omega
      obtain ⟨pc, hpc⟩ : ∃ pc, pc = P - c := ⟨_, rfl⟩
      have hpc1 : pc < n := by have := HN.out; have := HP.out; omega
      have hpc2 : pc + c = P := by have := HN.out; have := HP.out; omega
      obtain ⟨x, y, cv, c1, c2, hcv, HCC⟩ := HC.out wr HW.out pc c (by have := Hn.out; omega) (by have := Hn.out; omega)
      have HCC := hidden HCC
      have Hcv := hidden hcv
      have Hpc := hidden hpc
      have ec : ((s : Int) + (r : Int)) / 2 = (c : Int) := by omega
      have epc : (P : Int) - (c : Int) = (pc : Int) := by omega
      have hl1 : (pc : Int) < (n : Int) := by omega
      have hl2 : (c : Int) < (n : Int) := by omega
      clear hcv hc0 hpc hpc2
      by_cases hc : cv < 0
      · have hk := hidden (Hcv.out.1 hc)
        go_wp2
        go_quiet ((go_at_call 102; exact Calls.quiet_of (HCC.out _)))
        go_wp2
        all_goals try (exfalso; first | omega | (rename_i hz; simp at hz; omega))
        go_roundw
        case rel => exact ⟨s, c, rfl, rfl, by omega, by omega, by omega, HL, (fun _ => by rw [← Hpc.out]; exact hk.out), (by obtain ⟨q, rfl⟩ := HW.out; exact ⟨_, World.drewN_drewN _ _ _⟩)⟩
        case measure => simp [intOf]; omega
      · have hk := hidden (Int.not_lt.1 (fun z => hc (Hcv.out.2 z)))
        have hc' : (0 : Int) ≤ cv := by omega
        have hnb : (!decide (cv < 0)) = true := by simp; omega
        have hnc : decide (cv < 0) = false := by simp; omega
        go_wp2
        go_quiet ((go_at_call 102; exact Calls.quiet_of (HCC.out _)))
        go_wp2
        all_goals try (exfalso; first | omega | (rename_i hz; simp at hz; omega))
        go_roundw
        case rel => exact ⟨c + 1, r, by go_num, rfl, by omega, by omega, by omega, (fun _ => by rw [Nat.add_sub_cancel, ← Hpc.out]; exact hk.out), HR, (by obtain ⟨q, rfl⟩ := HW.out; exact ⟨_, World.drewN_drewN _ _ _⟩)⟩
        case measure => simp [intOf]; omega
    · have hij' : ¬ (s : Int) < (r : Int) := by omega
      have hij2 : s = r := by omega
      subst hij2
      obtain ⟨e, he⟩ : ∃ e, e = N - s := ⟨_, rfl⟩
      have ee : (N : Int) - (s : Int) = (e : Int) := by have := HN.out; omega
      have ee2 : s + e = mid + m := by have := HN.out; omega
      have HRW := hidden (show Row wr g D ∧ Step (fun k => k = g) w wr by obtain ⟨q, rfl⟩ := HW.out; exact ⟨HD.out.drewN q, (Step.refl _ _).drewN q⟩)
      have b1 : a ≤ s := by omega
      have b2 : s ≤ m := by omega
      have b3 : m ≤ e := by omega
      have b4 : e ≤ b := by have := HN.out; omega
      have b5 : s ≤ mid := by omega
      have b6 : mid ≤ e := by omega
      have HX := hidden (show a < s → e < b → key O (D.getD (s - 1) 0) ≤ key O (D.getD e 0) from fun x y => by
        have z := HL.out (by have := HN.out; omega)
        rwa [show P - (s - 1) = e by have := HP.out; have := HN.out; omega] at z)
      have HY := hidden (show s < m → m < e → key O (D.getD (e - 1) 0) < key O (D.getD s 0) from fun x y => by
        have z := HR.out (by omega)
        rw [show P - s = e - 1 by have := HP.out; have := HN.out; omega] at z
        exact z)
      have HTU := hidden (fun (D2 : List Int) (w2 : World) (hp : List.Perm D2 D) (H : ∀ k, k < D.length → D2.getD k 0 = D.getD (rotI s m e k) 0) (hr : Row w2 g D2) (hst : Step (fun k => k = g) w w2) => turned_of (mid := mid) (b := b) (by omega) (by omega) (by have := Hn.out; omega) b1 b2 b3 b4 (by omega) b5 HS1.out HS2.out HX.out HY.out hp H hr hst)
      have Hee := hidden ee2
      have ee3 : e + s ≤ mid + m := by omega
      have ee4 : mid + m ≤ e + s := by omega
      clear he ee2 h2 h3 hij
      by_cases cA : s < m
      · have iA : (s : Int) < (m : Int) := by omega
        have jA : (mid : Int) < (e : Int) := by omega
        by_cases cB : m < e
        · have iB : (m : Int) < (e : Int) := by omega
          have jB : (s : Int) < (mid : Int) := by omega
          by_cases cC : a < s
          · have iC : (a : Int) < (s : Int) := by omega
            by_cases cE : e < b
            · have iE : (e : Int) < (b : Int) := by omega
              have HRT := hidden (show Calls Tryz.prog 111 #[.slice (some ⟨g, 0, none⟩) n cap, .int .i64 (s : Int), .int .i64 (m : Int), .int .i64 (e : Int), cmpV B] wr (fun x w' => (∃ u, x = .returned u) ∧ RotP D g s m e wr w') by rw [Hn.out]; exact rotate_any g D s m e cap (cmpV B) wr HRW.out.1 (by omega) (by omega) (by have := Hn.out; omega) (by have := Hn.out; omega))
              go_wp2_with fail
              refine HRT.out.mono ?_
              rintro x w2 ⟨⟨u, rfl⟩, hr⟩
              have HT := hidden (show ∃ D2, Turned O D g a s mid e b w w2 D2 by
                obtain ⟨D2, p1, p2, p3, p4⟩ := hr
                exact ⟨D2, HTU.out D2 w2 p1 p2 p3 (HRW.out.2.trans p4 (fun i hi => .inl hi))⟩)
              clear hr HRT
              obtain ⟨D2, T⟩ := HT.out
              have T := hidden T
              clear HT
              have HI1 := hidden (ih_call IH.out cap HE.out T.out.st T.out.row HI.out T.out.perm Hn.out (a := a) (m := s) (b := mid) (by omega) (by omega) (by omega) T.out.s1 T.out.s2 hn hO (by omega))
              go_wp2_with fail
              refine HI1.out.mono ?_
              rintro x w3 ⟨⟨u, rfl⟩, hr⟩
              have HH := hidden hr
              clear hr HI1
              obtain ⟨D3, hx1, hx2, hx3⟩ := HH.out
              have X1 := hidden hx1
              have X2 := hidden hx2
              have X3 := hidden hx3
              clear hx1 hx2 hx3 HH
              have HI2 := hidden (ih_call IH.out cap HE.out (T.out.st.trans X3.out (fun i hi => .inl hi)) X2.out HI.out (X1.out.perm.trans T.out.perm) Hn.out (a := mid) (m := e) (b := b) (by omega) (by omega) (by omega) (T.out.s3.of_out X1.out.mix (by omega)) (T.out.s4.of_out X1.out.mix (by omega)) hn hO (by omega))
              go_wp2_with fail
              refine HI2.out.mono ?_
              rintro x w4 ⟨⟨u, rfl⟩, hr⟩
              have HZ := hidden (halves T.out (by have := Hn.out; omega) (by omega) (by omega) X1.out X3.out hr)
              clear hr HI2
              go_wp2
              all_goals (go_end0; exact ⟨⟨_, rfl⟩, HZ.out⟩)
            · have iE : ¬ (e : Int) < (b : Int) := by omega
              have HRT := hidden (show Calls Tryz.prog 111 #[.slice (some ⟨g, 0, none⟩) n cap, .int .i64 (s : Int), .int .i64 (m : Int), .int .i64 (e : Int), cmpV B] wr (fun x w' => (∃ u, x = .returned u) ∧ RotP D g s m e wr w') by rw [Hn.out]; exact rotate_any g D s m e cap (cmpV B) wr HRW.out.1 (by omega) (by omega) (by have := Hn.out; omega) (by have := Hn.out; omega))
              go_wp2_with fail
              refine HRT.out.mono ?_
              rintro x w2 ⟨⟨u, rfl⟩, hr⟩
              have HT := hidden (show ∃ D2, Turned O D g a s mid e b w w2 D2 by
                obtain ⟨D2, p1, p2, p3, p4⟩ := hr
                exact ⟨D2, HTU.out D2 w2 p1 p2 p3 (HRW.out.2.trans p4 (fun i hi => .inl hi))⟩)
              clear hr HRT
              obtain ⟨D2, T⟩ := HT.out
              have T := hidden T
              clear HT
              have HI1 := hidden (ih_call IH.out cap HE.out T.out.st T.out.row HI.out T.out.perm Hn.out (a := a) (m := s) (b := mid) (by omega) (by omega) (by omega) T.out.s1 T.out.s2 hn hO (by omega))
              go_wp2_with fail
              refine HI1.out.mono ?_
              rintro x w3 ⟨⟨u, rfl⟩, hr⟩
              have HH := hidden hr
              clear hr HI1
              obtain ⟨D3, hx1, hx2, hx3⟩ := HH.out
              have X1 := hidden hx1
              have X2 := hidden hx2
              have X3 := hidden hx3
              clear hx1 hx2 hx3 HH
              have HZ := hidden (halves T.out (by have := Hn.out; omega) (by omega) (by omega) X1.out X3.out (Half.asis (s := e) (by omega) (by omega) (by omega) (T.out.s3.of_out X1.out.mix (by omega)) (T.out.s4.of_out X1.out.mix (by omega)) X2.out))
              go_wp2
              all_goals (go_end0; exact ⟨⟨_, rfl⟩, HZ.out⟩)
          · have iC : ¬ (a : Int) < (s : Int) := by omega
            by_cases cE : e < b
            · have iE : (e : Int) < (b : Int) := by omega
              have HRT := hidden (show Calls Tryz.prog 111 #[.slice (some ⟨g, 0, none⟩) n cap, .int .i64 (s : Int), .int .i64 (m : Int), .int .i64 (e : Int), cmpV B] wr (fun x w' => (∃ u, x = .returned u) ∧ RotP D g s m e wr w') by rw [Hn.out]; exact rotate_any g D s m e cap (cmpV B) wr HRW.out.1 (by omega) (by omega) (by have := Hn.out; omega) (by have := Hn.out; omega))
              go_wp2_with fail
              refine HRT.out.mono ?_
              rintro x w2 ⟨⟨u, rfl⟩, hr⟩
              have HT := hidden (show ∃ D2, Turned O D g a s mid e b w w2 D2 by
                obtain ⟨D2, p1, p2, p3, p4⟩ := hr
                exact ⟨D2, HTU.out D2 w2 p1 p2 p3 (HRW.out.2.trans p4 (fun i hi => .inl hi))⟩)
              clear hr HRT
              obtain ⟨D2, T⟩ := HT.out
              have T := hidden T
              clear HT
              have HH := hidden (show SymP O D2 g a mid w2 w2 from Half.asis (s := s) (by omega) (by omega) (by omega) T.out.s1 T.out.s2 T.out.row)
              obtain ⟨D3, hx1, hx2, hx3⟩ := HH.out
              have X1 := hidden hx1
              have X2 := hidden hx2
              have X3 := hidden hx3
              clear hx1 hx2 hx3 HH
              have HI2 := hidden (ih_call IH.out cap HE.out (T.out.st.trans X3.out (fun i hi => .inl hi)) X2.out HI.out (X1.out.perm.trans T.out.perm) Hn.out (a := mid) (m := e) (b := b) (by omega) (by omega) (by omega) (T.out.s3.of_out X1.out.mix (by omega)) (T.out.s4.of_out X1.out.mix (by omega)) hn hO (by omega))
              go_wp2_with fail
              refine HI2.out.mono ?_
              rintro x w4 ⟨⟨u, rfl⟩, hr⟩
              have HZ := hidden (halves T.out (by have := Hn.out; omega) (by omega) (by omega) X1.out X3.out hr)
              clear hr HI2
              go_wp2
              all_goals (go_end0; exact ⟨⟨_, rfl⟩, HZ.out⟩)
            · have iE : ¬ (e : Int) < (b : Int) := by omega
              have HRT := hidden (show Calls Tryz.prog 111 #[.slice (some ⟨g, 0, none⟩) n cap, .int .i64 (s : Int), .int .i64 (m : Int), .int .i64 (e : Int), cmpV B] wr (fun x w' => (∃ u, x = .returned u) ∧ RotP D g s m e wr w') by rw [Hn.out]; exact rotate_any g D s m e cap (cmpV B) wr HRW.out.1 (by omega) (by omega) (by have := Hn.out; omega) (by have := Hn.out; omega))
              go_wp2_with fail
              refine HRT.out.mono ?_
              rintro x w2 ⟨⟨u, rfl⟩, hr⟩
              have HT := hidden (show ∃ D2, Turned O D g a s mid e b w w2 D2 by
                obtain ⟨D2, p1, p2, p3, p4⟩ := hr
                exact ⟨D2, HTU.out D2 w2 p1 p2 p3 (HRW.out.2.trans p4 (fun i hi => .inl hi))⟩)
              clear hr HRT
              obtain ⟨D2, T⟩ := HT.out
              have T := hidden T
              clear HT
              have HH := hidden (show SymP O D2 g a mid w2 w2 from Half.asis (s := s) (by omega) (by omega) (by omega) T.out.s1 T.out.s2 T.out.row)
              obtain ⟨D3, hx1, hx2, hx3⟩ := HH.out
              have X1 := hidden hx1
              have X2 := hidden hx2
              have X3 := hidden hx3
              clear hx1 hx2 hx3 HH
              have HZ := hidden (halves T.out (by have := Hn.out; omega) (by omega) (by omega) X1.out X3.out (Half.asis (s := e) (by omega) (by omega) (by omega) (T.out.s3.of_out X1.out.mix (by omega)) (T.out.s4.of_out X1.out.mix (by omega)) X2.out))
              go_wp2
              all_goals (go_end0; exact ⟨⟨_, rfl⟩, HZ.out⟩)
        · have iB : ¬ (m : Int) < (e : Int) := by omega
          have jB : ¬ (s : Int) < (mid : Int) := by omega
          by_cases cC : a < s
          · have iC : (a : Int) < (s : Int) := by omega
            by_cases cE : e < b
            · have iE : (e : Int) < (b : Int) := by omega
              have HT := hidden (show ∃ D2, Turned O D g a s mid e b w wr D2 from ⟨D, HTU.out D wr (List.Perm.refl _) (fun k _ => by rw [rotI_none (by omega) (by omega) (by omega)]) HRW.out.1 HRW.out.2⟩)
              obtain ⟨D2, T⟩ := HT.out
              have T := hidden T
              clear HT
              have HH := hidden (show SymP O D2 g a mid wr wr from Half.asis (s := s) (by omega) (by omega) (by omega) T.out.s1 T.out.s2 T.out.row)
              obtain ⟨D3, hx1, hx2, hx3⟩ := HH.out
              have X1 := hidden hx1
              have X2 := hidden hx2
              have X3 := hidden hx3
              clear hx1 hx2 hx3 HH
              have HI2 := hidden (ih_call IH.out cap HE.out (T.out.st.trans X3.out (fun i hi => .inl hi)) X2.out HI.out (X1.out.perm.trans T.out.perm) Hn.out (a := mid) (m := e) (b := b) (by omega) (by omega) (by omega) (T.out.s3.of_out X1.out.mix (by omega)) (T.out.s4.of_out X1.out.mix (by omega)) hn hO (by omega))
              go_wp2_with fail
              refine HI2.out.mono ?_
              rintro x w4 ⟨⟨u, rfl⟩, hr⟩
              have HZ := hidden (halves T.out (by have := Hn.out; omega) (by omega) (by omega) X1.out X3.out hr)
              clear hr HI2
              go_wp2
              all_goals (go_end0; exact ⟨⟨_, rfl⟩, HZ.out⟩)
            · have iE : ¬ (e : Int) < (b : Int) := by omega
              have HT := hidden (show ∃ D2, Turned O D g a s mid e b w wr D2 from ⟨D, HTU.out D wr (List.Perm.refl _) (fun k _ => by rw [rotI_none (by omega) (by omega) (by omega)]) HRW.out.1 HRW.out.2⟩)
              obtain ⟨D2, T⟩ := HT.out
              have T := hidden T
              clear HT
              have HH := hidden (show SymP O D2 g a mid wr wr from Half.asis (s := s) (by omega) (by omega) (by omega) T.out.s1 T.out.s2 T.out.row)
              obtain ⟨D3, hx1, hx2, hx3⟩ := HH.out
              have X1 := hidden hx1
              have X2 := hidden hx2
              have X3 := hidden hx3
              clear hx1 hx2 hx3 HH
              have HZ := hidden (halves T.out (by have := Hn.out; omega) (by omega) (by omega) X1.out X3.out (Half.asis (s := e) (by omega) (by omega) (by omega) (T.out.s3.of_out X1.out.mix (by omega)) (T.out.s4.of_out X1.out.mix (by omega)) X2.out))
              go_wp2
              all_goals (go_end0; exact ⟨⟨_, rfl⟩, HZ.out⟩)
          · have iC : ¬ (a : Int) < (s : Int) := by omega
            by_cases cE : e < b
            · have iE : (e : Int) < (b : Int) := by omega
              have HT := hidden (show ∃ D2, Turned O D g a s mid e b w wr D2 from ⟨D, HTU.out D wr (List.Perm.refl _) (fun k _ => by rw [rotI_none (by omega) (by omega) (by omega)]) HRW.out.1 HRW.out.2⟩)
              obtain ⟨D2, T⟩ := HT.out
              have T := hidden T
              clear HT
              have HH := hidden (show SymP O D2 g a mid wr wr from Half.asis (s := s) (by omega) (by omega) (by omega) T.out.s1 T.out.s2 T.out.row)
              obtain ⟨D3, hx1, hx2, hx3⟩ := HH.out
              have X1 := hidden hx1
              have X2 := hidden hx2
              have X3 := hidden hx3
              clear hx1 hx2 hx3 HH
              have HI2 := hidden (ih_call IH.out cap HE.out (T.out.st.trans X3.out (fun i hi => .inl hi)) X2.out HI.out (X1.out.perm.trans T.out.perm) Hn.out (a := mid) (m := e) (b := b) (by omega) (by omega) (by omega) (T.out.s3.of_out X1.out.mix (by omega)) (T.out.s4.of_out X1.out.mix (by omega)) hn hO (by omega))
              go_wp2_with fail
              refine HI2.out.mono ?_
              rintro x w4 ⟨⟨u, rfl⟩, hr⟩
              have HZ := hidden (halves T.out (by have := Hn.out; omega) (by omega) (by omega) X1.out X3.out hr)
              clear hr HI2
              go_wp2
              all_goals (go_end0; exact ⟨⟨_, rfl⟩, HZ.out⟩)
            · have iE : ¬ (e : Int) < (b : Int) := by omega
              have HT := hidden (show ∃ D2, Turned O D g a s mid e b w wr D2 from ⟨D, HTU.out D wr (List.Perm.refl _) (fun k _ => by rw [rotI_none (by omega) (by omega) (by omega)]) HRW.out.1 HRW.out.2⟩)
              obtain ⟨D2, T⟩ := HT.out
              have T := hidden T
              clear HT
              have HH := hidden (show SymP O D2 g a mid wr wr from Half.asis (s := s) (by omega) (by omega) (by omega) T.out.s1 T.out.s2 T.out.row)
              obtain ⟨D3, hx1, hx2, hx3⟩ := HH.out
              have X1 := hidden hx1
              have X2 := hidden hx2
              have X3 := hidden hx3
              clear hx1 hx2 hx3 HH
              have HZ := hidden (halves T.out (by have := Hn.out; omega) (by omega) (by omega) X1.out X3.out (Half.asis (s := e) (by omega) (by omega) (by omega) (T.out.s3.of_out X1.out.mix (by omega)) (T.out.s4.of_out X1.out.mix (by omega)) X2.out))
              go_wp2
              all_goals (go_end0; exact ⟨⟨_, rfl⟩, HZ.out⟩)
      · have iA : ¬ (s : Int) < (m : Int) := by omega
        have jA : ¬ (mid : Int) < (e : Int) := by omega
        by_cases cB : m < e
        · have iB : (m : Int) < (e : Int) := by omega
          have jB : (s : Int) < (mid : Int) := by omega
          by_cases cC : a < s
          · have iC : (a : Int) < (s : Int) := by omega
            by_cases cE : e < b
            · have iE : (e : Int) < (b : Int) := by omega
              have HT := hidden (show ∃ D2, Turned O D g a s mid e b w wr D2 from ⟨D, HTU.out D wr (List.Perm.refl _) (fun k _ => by rw [rotI_none (by omega) (by omega) (by omega)]) HRW.out.1 HRW.out.2⟩)
              obtain ⟨D2, T⟩ := HT.out
              have T := hidden T
              clear HT
              have HI1 := hidden (ih_call IH.out cap HE.out T.out.st T.out.row HI.out T.out.perm Hn.out (a := a) (m := s) (b := mid) (by omega) (by omega) (by omega) T.out.s1 T.out.s2 hn hO (by omega))
              go_wp2_with fail
              refine HI1.out.mono ?_
              rintro x w3 ⟨⟨u, rfl⟩, hr⟩
              have HH := hidden hr
              clear hr HI1
              obtain ⟨D3, hx1, hx2, hx3⟩ := HH.out
              have X1 := hidden hx1
              have X2 := hidden hx2
              have X3 := hidden hx3
              clear hx1 hx2 hx3 HH
              have HZ := hidden (halves T.out (by have := Hn.out; omega) (by omega) (by omega) X1.out X3.out (Half.asis (s := e) (by omega) (by omega) (by omega) (T.out.s3.of_out X1.out.mix (by omega)) (T.out.s4.of_out X1.out.mix (by omega)) X2.out))
              go_wp2
              all_goals (go_end0; exact ⟨⟨_, rfl⟩, HZ.out⟩)
            · have iE : ¬ (e : Int) < (b : Int) := by omega
              have HT := hidden (show ∃ D2, Turned O D g a s mid e b w wr D2 from ⟨D, HTU.out D wr (List.Perm.refl _) (fun k _ => by rw [rotI_none (by omega) (by omega) (by omega)]) HRW.out.1 HRW.out.2⟩)
              obtain ⟨D2, T⟩ := HT.out
              have T := hidden T
              clear HT
              have HI1 := hidden (ih_call IH.out cap HE.out T.out.st T.out.row HI.out T.out.perm Hn.out (a := a) (m := s) (b := mid) (by omega) (by omega) (by omega) T.out.s1 T.out.s2 hn hO (by omega))
              go_wp2_with fail
              refine HI1.out.mono ?_
              rintro x w3 ⟨⟨u, rfl⟩, hr⟩
              have HH := hidden hr
              clear hr HI1
              obtain ⟨D3, hx1, hx2, hx3⟩ := HH.out
              have X1 := hidden hx1
              have X2 := hidden hx2
              have X3 := hidden hx3
              clear hx1 hx2 hx3 HH
              have HZ := hidden (halves T.out (by have := Hn.out; omega) (by omega) (by omega) X1.out X3.out (Half.asis (s := e) (by omega) (by omega) (by omega) (T.out.s3.of_out X1.out.mix (by omega)) (T.out.s4.of_out X1.out.mix (by omega)) X2.out))
              go_wp2
              all_goals (go_end0; exact ⟨⟨_, rfl⟩, HZ.out⟩)
          · have iC : ¬ (a : Int) < (s : Int) := by omega
            by_cases cE : e < b
            · have iE : (e : Int) < (b : Int) := by omega
              have HT := hidden (show ∃ D2, Turned O D g a s mid e b w wr D2 from ⟨D, HTU.out D wr (List.Perm.refl _) (fun k _ => by rw [rotI_none (by omega) (by omega) (by omega)]) HRW.out.1 HRW.out.2⟩)
              obtain ⟨D2, T⟩ := HT.out
              have T := hidden T
              clear HT
              have HH := hidden (show SymP O D2 g a mid wr wr from Half.asis (s := s) (by omega) (by omega) (by omega) T.out.s1 T.out.s2 T.out.row)
              obtain ⟨D3, hx1, hx2, hx3⟩ := HH.out
              have X1 := hidden hx1
              have X2 := hidden hx2
              have X3 := hidden hx3
              clear hx1 hx2 hx3 HH
              have HZ := hidden (halves T.out (by have := Hn.out; omega) (by omega) (by omega) X1.out X3.out (Half.asis (s := e) (by omega) (by omega) (by omega) (T.out.s3.of_out X1.out.mix (by omega)) (T.out.s4.of_out X1.out.mix (by omega)) X2.out))
              go_wp2
              all_goals (go_end0; exact ⟨⟨_, rfl⟩, HZ.out⟩)
            · have iE : ¬ (e : Int) < (b : Int) := by omega
              have HT := hidden (show ∃ D2, Turned O D g a s mid e b w wr D2 from ⟨D, HTU.out D wr (List.Perm.refl _) (fun k _ => by rw [rotI_none (by omega) (by omega) (by omega)]) HRW.out.1 HRW.out.2⟩)
              obtain ⟨D2, T⟩ := HT.out
              have T := hidden T
              clear HT
              have HH := hidden (show SymP O D2 g a mid wr wr from Half.asis (s := s) (by omega) (by omega) (by omega) T.out.s1 T.out.s2 T.out.row)
              obtain ⟨D3, hx1, hx2, hx3⟩ := HH.out
              have X1 := hidden hx1
              have X2 := hidden hx2
              have X3 := hidden hx3
              clear hx1 hx2 hx3 HH
              have HZ := hidden (halves T.out (by have := Hn.out; omega) (by omega) (by omega) X1.out X3.out (Half.asis (s := e) (by omega) (by omega) (by omega) (T.out.s3.of_out X1.out.mix (by omega)) (T.out.s4.of_out X1.out.mix (by omega)) X2.out))
              go_wp2
              all_goals (go_end0; exact ⟨⟨_, rfl⟩, HZ.out⟩)
        · have iB : ¬ (m : Int) < (e : Int) := by omega
          have jB : ¬ (s : Int) < (mid : Int) := by omega
          by_cases cC : a < s
          · have iC : (a : Int) < (s : Int) := by omega
            by_cases cE : e < b
            · have iE : (e : Int) < (b : Int) := by omega
              have HT := hidden (show ∃ D2, Turned O D g a s mid e b w wr D2 from ⟨D, HTU.out D wr (List.Perm.refl _) (fun k _ => by rw [rotI_none (by omega) (by omega) (by omega)]) HRW.out.1 HRW.out.2⟩)
              obtain ⟨D2, T⟩ := HT.out
              have T := hidden T
              clear HT
              have HH := hidden (show SymP O D2 g a mid wr wr from Half.asis (s := s) (by omega) (by omega) (by omega) T.out.s1 T.out.s2 T.out.row)
              obtain ⟨D3, hx1, hx2, hx3⟩ := HH.out
              have X1 := hidden hx1
              have X2 := hidden hx2
              have X3 := hidden hx3
              clear hx1 hx2 hx3 HH
              have HZ := hidden (halves T.out (by have := Hn.out; omega) (by omega) (by omega) X1.out X3.out (Half.asis (s := e) (by omega) (by omega) (by omega) (T.out.s3.of_out X1.out.mix (by omega)) (T.out.s4.of_out X1.out.mix (by omega)) X2.out))
              go_wp2
              all_goals (go_end0; exact ⟨⟨_, rfl⟩, HZ.out⟩)
            · have iE : ¬ (e : Int) < (b : Int) := by omega
              have HT := hidden (show ∃ D2, Turned O D g a s mid e b w wr D2 from ⟨D, HTU.out D wr (List.Perm.refl _) (fun k _ => by rw [rotI_none (by omega) (by omega) (by omega)]) HRW.out.1 HRW.out.2⟩)
              obtain ⟨D2, T⟩ := HT.out
              have T := hidden T
              clear HT
              have HH := hidden (show SymP O D2 g a mid wr wr from Half.asis (s := s) (by omega) (by omega) (by omega) T.out.s1 T.out.s2 T.out.row)
              obtain ⟨D3, hx1, hx2, hx3⟩ := HH.out
              have X1 := hidden hx1
              have X2 := hidden hx2
              have X3 := hidden hx3
              clear hx1 hx2 hx3 HH
              have HZ := hidden (halves T.out (by have := Hn.out; omega) (by omega) (by omega) X1.out X3.out (Half.asis (s := e) (by omega) (by omega) (by omega) (T.out.s3.of_out X1.out.mix (by omega)) (T.out.s4.of_out X1.out.mix (by omega)) X2.out))
              go_wp2
              all_goals (go_end0; exact ⟨⟨_, rfl⟩, HZ.out⟩)
          · have iC : ¬ (a : Int) < (s : Int) := by omega
            by_cases cE : e < b
            · have iE : (e : Int) < (b : Int) := by omega
              have HT := hidden (show ∃ D2, Turned O D g a s mid e b w wr D2 from ⟨D, HTU.out D wr (List.Perm.refl _) (fun k _ => by rw [rotI_none (by omega) (by omega) (by omega)]) HRW.out.1 HRW.out.2⟩)
              obtain ⟨D2, T⟩ := HT.out
              have T := hidden T
              clear HT
              have HH := hidden (show SymP O D2 g a mid wr wr from Half.asis (s := s) (by omega) (by omega) (by omega) T.out.s1 T.out.s2 T.out.row)
              obtain ⟨D3, hx1, hx2, hx3⟩ := HH.out
              have X1 := hidden hx1
              have X2 := hidden hx2
              have X3 := hidden hx3
              clear hx1 hx2 hx3 HH
              have HZ := hidden (halves T.out (by have := Hn.out; omega) (by omega) (by omega) X1.out X3.out (Half.asis (s := e) (by omega) (by omega) (by omega) (T.out.s3.of_out X1.out.mix (by omega)) (T.out.s4.of_out X1.out.mix (by omega)) X2.out))
              go_wp2
              all_goals (go_end0; exact ⟨⟨_, rfl⟩, HZ.out⟩)
            · have iE : ¬ (e : Int) < (b : Int) := by omega
              have HT := hidden (show ∃ D2, Turned O D g a s mid e b w wr D2 from ⟨D, HTU.out D wr (List.Perm.refl _) (fun k _ => by rw [rotI_none (by omega) (by omega) (by omega)]) HRW.out.1 HRW.out.2⟩)
              obtain ⟨D2, T⟩ := HT.out
              have T := hidden T
              clear HT
              have HH := hidden (show SymP O D2 g a mid wr wr from Half.asis (s := s) (by omega) (by omega) (by omega) T.out.s1 T.out.s2 T.out.row)
              obtain ⟨D3, hx1, hx2, hx3⟩ := HH.out
              have X1 := hidden hx1
              have X2 := hidden hx2
              have X3 := hidden hx3
              clear hx1 hx2 hx3 HH
              have HZ := hidden (halves T.out (by have := Hn.out; omega) (by omega) (by omega) X1.out X3.out (Half.asis (s := e) (by omega) (by omega) (by omega) (T.out.s3.of_out X1.out.mix (by omega)) (T.out.s4.of_out X1.out.mix (by omega)) X2.out))
              go_wp2
              all_goals (go_end0; exact ⟨⟨_, rfl⟩, HZ.out⟩)

theorem sym_all : ∀ k, MergeOk k := by
  intro k
  induction k using Nat.strongRecOn with
  | _ k ih =>
    intro O v B g D a m b cap w hE hD hin ham hmb hb hs1 hs2 hn hO hk
    subst hk
    by_cases c1 : a + 1 = m
    · exact sym_left O v B g D a m b cap w hE hD hin c1 hmb hb hs2 hn hO
    · by_cases c2 : m + 1 = b
      · exact sym_right O v B g D a m b cap w hE hD hin (by omega) c2 hb hs1 hn hO
      · by_cases c3 : (a + b) / 2 < m
        · exact sym_hi ih O v B g D m cap _ w hE hD hin (by omega) (by omega) hb hs1 hs2 hn hO rfl c3
        · exact sym_lo ih O v B g D m cap _ w hE hD hin (by omega) (by omega) hb hs1 hs2 hn hO rfl (by omega)

end Go.Proofs.YtcgjmkcigmmjjaaGreatDoor

namespace Go.Proofs.YtcgjmkcigmmjjaaGreatDoor
open Go.RowKit
set_option maxRecDepth 100000
set_option linter.unusedVariables false
/-- Stretches of z symbols, from place z * t on, are sorted, as far as c. -/
def Blk (O D : List Int) (z c : Nat) : Prop := ∀ t p q, z * t ≤ p → p < q → q < z * t + z → q < c → key O (D.getD p 0) ≤ key O (D.getD q 0)

/-- Those from place a on. -/
def BlkF (O D : List Int) (z a c : Nat) : Prop := ∀ t p q, a ≤ z * t → z * t ≤ p → p < q → q < z * t + z → q < c → key O (D.getD p 0) ≤ key O (D.getD q 0)

theorem Blk.more {O D D' : List Int} {z c b : Nat} (h : Blk O D z (z * c)) (hs : Srt O D (z * c) b D') : Blk O D' z b := by
  intro t p q h1 h2 h3 h4
  by_cases e : t < c
  · have hm : z * (t + 1) ≤ z * c := Nat.mul_le_mul_left z e
    rw [Nat.mul_succ] at hm
    rw [hs.out p (by omega), hs.out q (by omega)]
    exact h t p q h1 h2 h3 (by omega)
  · have hm : z * c ≤ z * t := Nat.mul_le_mul_left z (by omega)
    exact hs.sr p q (by omega) h2 h4

theorem BlkF.more {O D D' : List Int} {z a b b' n : Nat} (h : BlkF O D z a n) (hab : a ≤ b) (hs : Srt O D a b D') : BlkF O D' z b n := by
  intro t p q h0 h1 h2 h3 h4
  rw [hs.out p (by omega), hs.out q (by omega)]
  exact h t p q (by omega) h1 h2 h3 h4

theorem Blk.twice {O D : List Int} {z c n : Nat} (h : Blk O D (2 * z) (2 * z * c)) (hf : BlkF O D z (2 * z * c) n) (hc : n ≤ 2 * z * c + z) : Blk O D (2 * z) n := by
  intro t p q h1 h2 h3 h4
  by_cases e : t < c
  · have hm : 2 * z * (t + 1) ≤ 2 * z * c := Nat.mul_le_mul_left (2 * z) e
    rw [Nat.mul_succ] at hm
    exact h t p q h1 h2 h3 (by omega)
  · have hm : 2 * z * c ≤ 2 * z * t := Nat.mul_le_mul_left (2 * z) (by omega)
    have e1 : z * (2 * c) = 2 * z * c := by rw [Nat.mul_comm 2 z, Nat.mul_assoc]
    exact hf (2 * c) p q (by omega) (by omega) h2 (by omega) h4

theorem BlkF.parts {O D : List Int} {z c n m : Nat} (hf : BlkF O D z (2 * z * c) n) (hm : m = 2 * z * c + z) (b : Nat) (hb : b ≤ n) (hb2 : b ≤ m + z) : Sr O D (2 * z * c) (min m b) ∧ Sr O D m b := by
  have e1 : z * (2 * c) = 2 * z * c := by rw [Nat.mul_comm 2 z, Nat.mul_assoc]
  have e2 : z * (2 * c + 1) = 2 * z * c + z := by rw [Nat.mul_succ, e1]
  refine ⟨fun p q h1 h2 h3 => hf (2 * c) p q (by omega) (by omega) h2 (by omega) (by omega), fun p q h1 h2 h3 => hf (2 * c + 1) p q (by omega) (by omega) h2 (by omega) (by omega)⟩

theorem Blk.all {O D : List Int} {z n : Nat} (h : Blk O D z n) (hz : n ≤ z) : Sr O D 0 n := fun p q h1 h2 h3 => h 0 p q (by simp) h2 (by omega) h3

theorem Blk.from0 {O D : List Int} {z n : Nat} (h : Blk O D z n) : BlkF O D z 0 n := fun t p q _ h1 h2 h3 h4 => h t p q h1 h2 h3 h4

theorem Blk.none (O D : List Int) (z : Nat) : Blk O D z 0 := fun t p q _ _ _ h => by omega

/-- While blocks are sorted. -/
def S1 (O D : List Int) (g a n : Nat) (w w' : World) : Prop := ∃ D', Mix O D 0 n D' ∧ Blk O D' 20 a ∧ Row w' g D' ∧ Step (fun k => k = g) w w'

/-- While blocks are merged. -/
def S2 (O D : List Int) (g z a n : Nat) (w w' : World) : Prop := ∃ D', Mix O D 0 n D' ∧ Blk O D' (2 * z) a ∧ BlkF O D' z a n ∧ Row w' g D' ∧ Step (fun k => k = g) w w'

/-- Behind a pass. -/
def S3 (O D : List Int) (g z n : Nat) (w w' : World) : Prop := ∃ D', Mix O D 0 n D' ∧ Blk O D' z n ∧ Row w' g D' ∧ Step (fun k => k = g) w w'

theorem ins_call {O : List Int} {v : Value} {B g : Nat} {D : List Int} {a b n : Nat} (cap : Nat) {w w2 : World} (hE : Env w B g v O) (hin : InO O D) (hn : n = D.length) (c : Nat) (hc : a = 20 * c) (h : S1 O D g a n w w2) (hab : a ≤ b) (hb : b ≤ n) (hl : n ≤ 100000) (hO : O.length ≤ 100000) :
    Calls Tryz.prog 109 #[.slice (some ⟨g, 0, none⟩) n cap, .int .i64 (a : Int), .int .i64 (b : Int), cmpV B] w2 fun e w' => (∃ u, e = .returned u) ∧ S1 O D g b n w w' := by
  obtain ⟨D', m1, m2, m3, m4⟩ := h
  have e : n = D'.length := by rw [m1.perm.length_eq]; exact hn
  have k := ins_any O v B g D' a b cap w2 (hE.step m4) m3 (hin.perm m1.perm) hab (by omega) (by omega) hO
  rw [← e] at k
  refine k.mono ?_
  rintro x w3 ⟨hu, D2, p1, p2, p3⟩
  subst hc
  exact ⟨hu, D2, m1.trans (p1.mix.wide (Nat.zero_le _) hb), m2.more p1, p2, m4.trans p3 (fun i hi => .inl hi)⟩

theorem sym_call {O : List Int} {v : Value} {B g : Nat} {D : List Int} {z a m b n : Nat} (cap : Nat) {w w2 : World} (hE : Env w B g v O) (hin : InO O D) (hn : n = D.length) (c : Nat) (hc : a = 2 * z * c) (h : S2 O D g z a n w w2) (hz : 0 < z) (hm : m = a + z) (hmb : m < b) (hb2 : b ≤ m + z) (hb : b ≤ n) (hl : n ≤ 100000) (hO : O.length ≤ 100000) :
    Calls Tryz.prog 110 #[.slice (some ⟨g, 0, none⟩) n cap, .int .i64 (a : Int), .int .i64 (m : Int), .int .i64 (b : Int), cmpV B] w2 fun e w' => (∃ u, e = .returned u) ∧ S2 O D g z b n w w' := by
  obtain ⟨D', m1, m2, m3, m4, m5⟩ := h
  have e : n = D'.length := by rw [m1.perm.length_eq]; exact hn
  subst hc
  obtain ⟨q1, q2⟩ := m3.parts hm b hb hb2
  rw [Nat.min_eq_left (by omega)] at q1
  have k := sym_all _ O v B g D' (2 * z * c) m b cap w2 (hE.step m5) m4 (hin.perm m1.perm) (by omega) hmb (by omega) q1 q2 (by omega) hO rfl
  rw [← e] at k
  refine k.mono ?_
  rintro x w3 ⟨hu, D2, p1, p2, p3⟩
  exact ⟨hu, D2, m1.trans (p1.mix.wide (Nat.zero_le _) hb), m2.more p1, m3.more (b' := b) (by omega) p1, p2, m5.trans p3 (fun i hi => .inl hi)⟩

theorem S2.start {O D : List Int} {g z n : Nat} {w w' : World} (h : S3 O D g z n w w') : S2 O D g z 0 n w w' := by
  obtain ⟨D', m1, m2, m3, m4⟩ := h
  exact ⟨D', m1, Blk.none _ _ _, m2.from0, m3, m4⟩

theorem S2.stop {O D : List Int} {g z n : Nat} {w w' : World} (h : S2 O D g z n n w w') : S3 O D g (2 * z) n w w' := by
  obtain ⟨D', m1, m2, _, m3, m4⟩ := h
  exact ⟨D', m1, m2, m3, m4⟩

theorem S2.short {O D : List Int} {g z a n : Nat} {w w' : World} (c : Nat) (hc : a = 2 * z * c) (h : S2 O D g z a n w w') (hn : n ≤ a + z) : S3 O D g (2 * z) n w w' := by
  obtain ⟨D', m1, m2, m5, m3, m4⟩ := h
  subst hc
  exact ⟨D', m1, Blk.twice m2 m5 hn, m3, m4⟩

end Go.Proofs.YtcgjmkcigmmjjaaGreatDoor

namespace Go.Proofs.YtcgjmkcigmmjjaaGreatDoor
open Go.RowKit
set_option maxRecDepth 100000
set_option linter.unusedVariables false
set_option maxHeartbeats 4000000 in
theorem stable_any (O : List Int) (v : Value) (B g : Nat) (D : List Int) (cap : Nat) (w : World) (hE : Env w B g v O) (hD : Row w g D) (hin : InO O D) (hl : D.length ≤ 100000) (hO : O.length ≤ 100000) :
    Calls Tryz.prog 107 #[.slice (some ⟨g, 0, none⟩) D.length cap, .int .i64 (D.length : Int), cmpV B] w fun e w' => (∃ u, e = .returned u) ∧ ∃ D', Srt O D 0 D.length D' ∧ Row w' g D' ∧ Step (fun k => k = g) w w' := by
  obtain ⟨n, hn⟩ : ∃ n, n = D.length := ⟨_, rfl⟩
  have HI := hidden (fun (a b c : Nat) (w2 : World) (hc : a = 20 * c) (h : S1 O D g a n w w2) (hab : a ≤ b) (hb : b ≤ n) => ins_call cap hE hin hn c hc h hab hb (by omega) hO)
  have HY := hidden (fun (z a m b c : Nat) (w2 : World) (hc : a = 2 * z * c) (h : S2 O D g z a n w w2) (hz : 0 < z) (hm : m = a + z) (hmb : m < b) (hb2 : b ≤ m + z) (hb : b ≤ n) => sym_call cap hE hin hn c hc h hz hm hmb hb2 hb (by omega) hO)
  have H0 := hidden (show S1 O D g 0 n w w from ⟨D, Mix.refl _ _ _ _, Blk.none _ _ _, hD, Step.refl _ _⟩)
  have HF := hidden (fun (z : Nat) (w2 : World) (hz : n ≤ z) (h : S3 O D g z n w w2) => show ∃ D', Srt O D 0 n D' ∧ Row w2 g D' ∧ Step (fun k => k = g) w w2 by
    obtain ⟨D', m1, m2, m3, m4⟩ := h
    exact ⟨D', ⟨m1.perm, m1.out, m2.all hz, m1.stb⟩, m3, m4⟩)
  rw [← hn] at hl ⊢
  clear hE hD hin hn
  go_enter Tryz.func107, Tryz.ntmps107
  go_wp2
  go_loopw [7, 8] (fun av bv wr => ∃ a b : Nat, av = .int .i64 (a : Int) ∧ bv = .int .i64 (b : Int) ∧ a + 20 ≤ b ∧ b ≤ a + 20 ∧ a ≤ n ∧ Hid (∃ c, a = 20 * c) ∧ Hid (S1 O D g a n w wr)) (fun _ bv _ => (n + 40 - intOf bv).toNat)
  case atStart => exact ⟨0, 20, rfl, rfl, by omega, by omega, by omega, ⟨0, rfl⟩, H0.out⟩
  case round =>
    obtain ⟨a, b, rfl, rfl, h1, h2, h3, HC, HS⟩ := hrel
    by_cases hb : b ≤ n
    · have hb' : (b : Int) ≤ (n : Int) := by omega
      have HK := hidden (HI.out a b HC.out.choose wr HC.out.choose_spec HS.out (by omega) hb)
      go_wp2_with fail
      refine HK.out.mono ?_
      rintro x w2 ⟨⟨u, rfl⟩, hr⟩
      have HR := hidden hr
      clear hr HK
      go_wp2
      go_roundw
      case rel => exact ⟨b, b + 20, rfl, by go_num, by omega, by omega, by omega, (by obtain ⟨c, hc⟩ := HC.out; exact ⟨c + 1, by omega⟩), HR.out⟩
      case measure => simp [intOf]; omega
    · have hb' : ¬ (b : Int) ≤ (n : Int) := by omega
      have HK := hidden (HI.out a n HC.out.choose wr HC.out.choose_spec HS.out (by omega) (Nat.le_refl _))
      go_wp2_with fail
      refine HK.out.mono ?_
      rintro x w2 ⟨⟨u, rfl⟩, hr⟩
      have HR := hidden (show S3 O D g 20 n w w2 from hr)
      clear hr HK HS HC h1 h2 h3
      go_wp2
      go_loopw [6, 7, 8, 9] (fun zv _ _ _ wx => ∃ z : Nat, zv = .int .i64 (z : Int) ∧ 20 ≤ z ∧ z ≤ 300000 ∧ Hid (S3 O D g z n w wx)) (fun zv _ _ _ _ => (n - intOf zv).toNat)
      case atStart => exact ⟨20, rfl, by omega, by omega, HR.out⟩
      case round =>
        obtain ⟨z, rfl, z1, z2, HS3⟩ := hrel
        by_cases hz : z < n
        · have hz' : (z : Int) < (n : Int) := by omega
          obtain ⟨Z, hZ⟩ : ∃ Z, Z = 2 * z := ⟨_, rfl⟩
          have eZ : (2 : Int) * (z : Int) = (Z : Int) := by omega
          have eZ' : (z : Int) * 2 = (Z : Int) := by omega
          have hZ1 : Z ≤ 2 * z := by omega
          have hZ2 : 2 * z ≤ Z := by omega
          have HZ := hidden hZ
          have HS2 := hidden (S2.start HS3.out)
          clear hZ HS3
          go_wp2
          go_loopw [7, 8] (fun av bv wy => ∃ a b : Nat, av = .int .i64 (a : Int) ∧ bv = .int .i64 (b : Int) ∧ a + Z ≤ b ∧ b ≤ a + Z ∧ a ≤ n ∧ Hid (∃ c, a = 2 * z * c) ∧ Hid (S2 O D g z a n w wy)) (fun _ bv _ => (n + Z + 1 - intOf bv).toNat)
          case atStart => exact ⟨0, Z, rfl, rfl, by omega, by omega, by omega, ⟨0, by simp⟩, HS2.out⟩
          case round =>
            obtain ⟨a, b, rfl, rfl, h1, h2, h3, HC, HS⟩ := hrel
            obtain ⟨m, hm⟩ : ∃ m, m = a + z := ⟨_, rfl⟩
            have em : (a : Int) + (z : Int) = (m : Int) := by omega
            have hm1 : m ≤ a + z := by omega
            have hm2 : a + z ≤ m := by omega
            by_cases hb2 : b ≤ n
            · have hb2' : (b : Int) ≤ (n : Int) := by omega
              have HK := hidden (HY.out z a m b HC.out.choose _ HC.out.choose_spec HS.out (by omega) hm (by omega) (by omega) hb2)
              clear hm
              go_wp2_with fail
              refine HK.out.mono ?_
              rintro x w3 ⟨⟨u, rfl⟩, hr⟩
              have HR2 := hidden hr
              clear hr HK
              go_wp2
              go_roundw
              case rel => exact ⟨b, b + Z, rfl, by go_num, by omega, by omega, by omega, (by obtain ⟨c, hc⟩ := HC.out; exact ⟨c + 1, by rw [Nat.mul_succ]; omega⟩), HR2.out⟩
              case measure => simp [intOf]; omega
            · have hb2' : ¬ (b : Int) ≤ (n : Int) := by omega
              by_cases hmn : m < n
              · have hmn' : (m : Int) < (n : Int) := by omega
                have HK := hidden (HY.out z a m n HC.out.choose _ HC.out.choose_spec HS.out (by omega) hm hmn (by omega) (Nat.le_refl _))
                clear hm
                go_wp2_with fail
                refine HK.out.mono ?_
                rintro x w3 ⟨⟨u, rfl⟩, hr⟩
                have HR2 := hidden (show S3 O D g Z n w w3 by rw [HZ.out]; exact S2.stop hr)
                clear hr HK
                go_wp2
                go_roundw
                case rel => exact ⟨Z, rfl, by omega, by omega, HR2.out⟩
                case measure => simp [intOf]; omega
              · have hmn' : ¬ (m : Int) < (n : Int) := by omega
                have HR2 := hidden (fun w3 (h : S2 O D g z a n w w3) => show S3 O D g Z n w w3 by rw [HZ.out]; exact S2.short HC.out.choose HC.out.choose_spec h (by omega))
                clear hm
                go_wp2
                go_roundw
                case rel => exact ⟨Z, rfl, by omega, by omega, HR2.out _ HS.out⟩
                case measure => simp [intOf]; omega
        · have hz' : ¬ (z : Int) < (n : Int) := by omega
          have HZZ := hidden (HF.out z _ (by omega) HS3.out)
          go_wp2
          go_end0
          exact ⟨⟨_, rfl⟩, HZZ.out⟩

theorem sort_all (n : Nat) (h : n ≤ 100000) : SortOk n :=
  sort_of_stable n (fun O v B g D cap w hE hD hin hl hO => stable_any O v B g D cap w hE hD hin (by omega) hO) h

end Go.Proofs.YtcgjmkcigmmjjaaGreatDoor

namespace Go.Proofs.YtcgjmkcigmmjjaaGreatDoor
/-- How many of the first t things are singles. -/
def cntN (n : Nat) (A B : List Int) (t : Nat) : Nat := (((mrgN n A B).map (·.2)).take t).count true

theorem cntN_zero (n : Nat) (A B : List Int) : cntN n A B 0 = 0 := rfl

theorem cntN_yes (n : Nat) (a : Int) (A B : List Int) (t : Nat) (h : sg (a :: A) B = true) : cntN (n + 1) (a :: A) B (t + 1) = cntN n A B t + 1 := by
  unfold cntN
  rw [mrgN, if_pos h]
  simp

theorem cntN_no (n : Nat) (A : List Int) (b : Int) (B : List Int) (t : Nat) (h : ¬ sg A (b :: B) = true) : cntN (n + 1) A (b :: B) (t + 1) = cntN n A B t := by
  unfold cntN
  rw [mrgN, if_neg h]
  simp

theorem cntN_le (n : Nat) (A B : List Int) (t : Nat) : cntN n A B t ≤ t := by
  unfold cntN
  exact Nat.le_trans List.count_le_length (by simp; omega)

theorem mrg_ahead : ∀ (n : Nat) (A B : List Int) (t i j : Nat), n = A.length + B.length → A.Pairwise (· ≤ ·) → j < t - cntN n A B t → i < A.length → j < B.length → A.getD i 0 ≤ B.getD j 0 → i < cntN n A B t
  | 0, A, B, t, i, j, hn, hp, hj, hi, hjB, hle => by omega
  | n + 1, A, B, 0, i, j, hn, hp, hj, hi, hjB, hle => by omega
  | n + 1, A, B, t + 1, i, j, hn, hp, hj, hi, hjB, hle => by
    by_cases hs : sg A B = true
    · cases A with
      | nil => simp at hi
      | cons a A =>
        rw [cntN_yes n a A B t hs] at hj ⊢
        cases i with
        | zero => omega
        | succ i =>
          have := mrg_ahead n A B t i j (by simp at hn; omega) (List.pairwise_cons.1 hp).2 (by omega) (by simpa using hi) hjB (by simpa using hle)
          omega
    · cases B with
      | nil => simp at hjB
      | cons b B =>
        rw [cntN_no n A b B t hs] at hj ⊢
        cases j with
        | zero =>
          exfalso
          cases A with
          | nil => simp at hi
          | cons a A =>
            rw [sg_both] at hs
            have h1 : ¬ a ≤ b := by simpa using hs
            have h2 : a ≤ (a :: A).getD i 0 := by
              cases i with
              | zero => simp
              | succ i =>
                have hi' : i < A.length := by simpa using hi
                have : (a :: A).getD (i + 1) 0 = A[i] := by simp [List.getD, hi']
                rw [this]
                exact (List.pairwise_cons.1 hp).1 _ (List.getElem_mem hi')
            have h3 : (b :: B).getD 0 0 = b := rfl
            rw [h3] at hle
            omega
        | succ j =>
          exact mrg_ahead n A B t i j (by simp at hn; omega) hp (by omega) hi (by simpa using hjB) (by simpa using hle)

theorem mrg_has : ∀ (n : Nat) (A B : List Int) (t s : Nat), n = A.length + B.length → s < cntN n A B t → ∃ q, q < t ∧ q < n ∧ ((mrgN n A B).map (·.1)).getD q 0 = A.getD s 0
  | 0, A, B, t, s, hn, hs => by simp [cntN, mrgN] at hs
  | n + 1, A, B, 0, s, hn, hs => by simp [cntN] at hs
  | n + 1, A, B, t + 1, s, hn, hs => by
    by_cases hg : sg A B = true
    · cases A with
      | nil =>
        exfalso
        cases B with
        | nil => simp at hn
        | cons b B => simp [sg] at hg
      | cons a A =>
        rw [cntN_yes n a A B t hg] at hs
        cases s with
        | zero => exact ⟨0, by omega, by omega, by rw [mrgN, if_pos hg]; simp⟩
        | succ s =>
          obtain ⟨q, h1, h2, h3⟩ := mrg_has n A B t s (by simp at hn; omega) (by omega)
          refine ⟨q + 1, by omega, by omega, ?_⟩
          rw [mrgN, if_pos hg]
          simpa using h3
    · cases B with
      | nil => simp [sg] at hg
      | cons b B =>
        rw [cntN_no n A b B t hg] at hs
        obtain ⟨q, h1, h2, h3⟩ := mrg_has n A B t s (by simp at hn; omega) hs
        refine ⟨q + 1, by omega, by omega, ?_⟩
        rw [mrgN, if_neg hg]
        simpa using h3

theorem sing_cnt (W : List Int) (k t : Nat) : sing W k t = cntN (W.length + (prs W k).length) W (prs W k) t := by
  unfold sing told
  rw [rowN_prs]
  rfl

theorem rowN_nonneg (W : List Int) (h : ∀ x ∈ W, 0 ≤ x ∧ x ≤ 1048576) (k q : Nat) : 0 ≤ ((rowN W k).map (·.1)).getD q 0 := by
  by_cases hq : q < ((rowN W k).map (·.1)).length
  · rw [getD_i _ _ hq]
    exact (rowN_mem W h k _ (List.getElem_mem hq)).1
  · simp [List.getD, List.getElem?_eq_none (Nat.le_of_not_lt hq)]

theorem sing_fall (W : List Int) (hp : W.Pairwise (· ≤ ·)) (h : ∀ x ∈ W, 0 ≤ x ∧ x ≤ 1048576) (k t : Nat) (ht : t ≤ (told W (k + 1)).length) :
    sing W k (2 * (t - sing W (k + 1) t)) ≤ sing W (k + 1) t := by
  by_cases hc : sing W k (2 * (t - sing W (k + 1) t)) ≤ sing W (k + 1) t
  · exact hc
  · exfalso
    have hs : sing W (k + 1) t < sing W k (2 * (t - sing W (k + 1) t)) := by omega
    have hsW : sing W (k + 1) t < W.length := Nat.lt_of_lt_of_le hs (sing_le W k _)
    have hb := rest_le W (k + 1) t ht
    rw [sing_cnt W k] at hs
    obtain ⟨q, h1, h2, h3⟩ := mrg_has _ W (prs W k) _ _ rfl hs
    have hr : ((rowN W k).map (·.1)).getD q 0 = W.getD (sing W (k + 1) t) 0 := by rw [rowN_prs]; exact h3
    have hj : q / 2 < (prs W (k + 1)).length := by omega
    have hjl : q / 2 < ((rowN W k).map (·.1)).length / 2 := by
      have : (prs W (k + 1)).length = ((rowN W k).map (·.1)).length / 2 := pairs_length _
      omega
    have hP : (prs W (k + 1)).getD (q / 2) 0 = ((rowN W k).map (·.1)).getD (2 * (q / 2)) 0 + ((rowN W k).map (·.1)).getD (2 * (q / 2) + 1) 0 := pairs_getD _ _ hjl
    have n1 := rowN_nonneg W h k (2 * (q / 2))
    have n2 := rowN_nonneg W h k (2 * (q / 2) + 1)
    have hle : W.getD (sing W (k + 1) t) 0 ≤ (prs W (k + 1)).getD (q / 2) 0 := by
      rw [hP]
      rcases Nat.mod_two_eq_zero_or_one q with e | e
      · rw [show 2 * (q / 2) = q by omega] at *
        omega
      · rw [show 2 * (q / 2) + 1 = q by omega] at *
        omega
    have := mrg_ahead _ W (prs W (k + 1)) t (sing W (k + 1) t) (q / 2) rfl hp (by rw [← sing_cnt]; omega) hsW hj hle
    rw [← sing_cnt] at this
    omega

theorem sing_more (W : List Int) (k : Nat) {t t' : Nat} (h : t ≤ t') : sing W k t ≤ sing W k t' := by
  unfold sing
  have : (told W k).take t = ((told W k).take t').take t := by rw [List.take_take, Nat.min_eq_left h]
  rw [this]
  exact (List.take_sublist t _).count_le true

theorem sing_whole (W : List Int) (k t : Nat) (h : (told W k).length ≤ t) : sing W k t = W.length := by
  unfold sing
  rw [List.take_of_length_le h, told_true]

theorem sing_full (W : List Int) (hp : W.Pairwise (· ≤ ·)) (h : ∀ x ∈ W, 0 ≤ x ∧ x ≤ 1048576) (hn : 2 ≤ W.length) : ∀ k, sing W k (2 * W.length - 2) = W.length
  | 0 => by
    apply sing_whole
    rw [told_length]
    show W.length + 0 ≤ _
    omega
  | k + 1 => by
    by_cases ht : (told W (k + 1)).length ≤ 2 * W.length - 2
    · exact sing_whole W _ _ ht
    · have ih := sing_full W hp h hn k
      have h1 := sing_fall W hp h k (2 * W.length - 2) (by omega)
      have h2 := sing_le W (k + 1) (2 * W.length - 2)
      by_cases hc : sing W (k + 1) (2 * W.length - 2) = W.length
      · exact hc
      · exfalso
        have h3 := sing_more W k (t := 2 * W.length - 2) (t' := 2 * (2 * W.length - 2 - sing W (k + 1) (2 * W.length - 2))) (by omega)
        omega

/-- How many singles are taken in round r. -/
def sr (W : List Int) (m r : Nat) : Nat := sing W (m - 1 - r) (tk W m r)

theorem sr_le (W : List Int) (m r : Nat) : sr W m r ≤ W.length := sing_le W _ _

theorem sr_first (W : List Int) (hp : W.Pairwise (· ≤ ·)) (h : ∀ x ∈ W, 0 ≤ x ∧ x ≤ 1048576) (hn : 2 ≤ W.length) (m : Nat) : sr W m 0 = W.length := sing_full W hp h hn _

theorem sr_fall (W : List Int) (hp : W.Pairwise (· ≤ ·)) (h : ∀ x ∈ W, 0 ≤ x ∧ x ≤ 1048576) (m : Nat) (hm : W.length ≤ 2 ^ m) (r : Nat) (hr : r + 1 < m) : sr W m (r + 1) ≤ sr W m r := by
  have ht := tk_le W m hm r (by omega)
  have e : m - 1 - r = (m - 1 - (r + 1)) + 1 := by omega
  have := sing_fall W hp h (m - 1 - (r + 1)) (tk W m r) (by rw [← e]; exact ht)
  rw [← e] at this
  exact this

theorem tk_succ (W : List Int) (m r : Nat) : tk W m (r + 1) = 2 * (tk W m r - sr W m r) := rfl

theorem sr_le_tk (W : List Int) (m r : Nat) : sr W m r ≤ tk W m r := sing_le_t W _ _

theorem sing_row0 (W : List Int) (t : Nat) (h : t ≤ W.length) : sing W 0 t = t := by
  have h1 := count_both ((told W 0).take t)
  have h2 := count_take_le (told W 0) false t
  rw [told_false] at h2
  have h3 : (prs W 0).length = 0 := rfl
  have h4 := told_length W 0
  rw [List.length_take] at h1
  unfold sing
  omega

theorem tk_end (W : List Int) (m : Nat) (h0 : 1 ≤ m) (hm : W.length ≤ 2 ^ m) : tk W m m = 0 := by
  obtain ⟨k, rfl⟩ : ∃ k, m = k + 1 := ⟨m - 1, by omega⟩
  have ht := tk_le W (k + 1) hm k (by omega)
  rw [show k + 1 - 1 - k = 0 by omega] at ht
  have h3 : (told W 0).length = W.length := by rw [told_length]; rfl
  have := sing_row0 W (tk W (k + 1) k) (by omega)
  rw [tk_succ]
  unfold sr
  rw [show k + 1 - 1 - k = 0 by omega]
  omega

/-- In how many of the first r rounds the single of place p is taken. -/
def ln (W : List Int) (m : Nat) : Nat → Nat → Nat
  | 0, _ => 0
  | r + 1, p => ln W m r p + if p < sr W m r then 1 else 0

theorem ln_le (W : List Int) (m p : Nat) : ∀ r, ln W m r p ≤ r
  | 0 => Nat.le_refl _
  | r + 1 => by
    have := ln_le W m p r
    simp only [ln]
    split <;> omega

theorem ln_up (W : List Int) (m p : Nat) (r : Nat) : ∀ d, ln W m r p ≤ ln W m (r + d) p
  | 0 => Nat.le_refl _
  | d + 1 => by
    have := ln_up W m p r d
    rw [show r + (d + 1) = (r + d) + 1 by omega]
    simp only [ln]
    omega

theorem ln_all (W : List Int) (hp : W.Pairwise (· ≤ ·)) (h : ∀ x ∈ W, 0 ≤ x ∧ x ≤ 1048576) (m : Nat) (hm : W.length ≤ 2 ^ m) (p : Nat) : ∀ r, r < m → p < sr W m r → ln W m r p = r
  | 0, _, _ => rfl
  | r + 1, hr, hlt => by
    have h1 := sr_fall W hp h m hm r hr
    have ih := ln_all W hp h m hm p r (by omega) (by omega)
    simp only [ln]
    rw [ih, if_pos (by omega)]

/-- The sum of the first n. -/
def sm (f : Nat → Int) : Nat → Int
  | 0 => 0
  | n + 1 => sm f n + f n

theorem sm_congr {f g : Nat → Int} : ∀ n, (∀ i, i < n → f i = g i) → sm f n = sm g n
  | 0, _ => rfl
  | n + 1, h => by simp only [sm]; rw [sm_congr n (fun i hi => h i (by omega)), h n (by omega)]

theorem sm_step (f : Nat → Int) (c : Nat) : ∀ n, c ≤ n → sm (fun p => 2 * f p - if p < c then 1 else 0) n = 2 * sm f n - c
  | 0, h => by simp [sm]; omega
  | n + 1, h => by
    simp only [sm]
    by_cases e : c ≤ n
    · rw [sm_step f c n e, if_neg (by omega)]; omega
    · have e2 : c = n + 1 := by omega
      subst e2
      have : sm (fun p => 2 * f p - if p < n + 1 then 1 else 0) n = sm (fun p => 2 * f p - if p < n then 1 else 0) n := sm_congr n (fun i hi => by rw [if_pos (by omega), if_pos hi])
      rw [this, sm_step f n n (Nat.le_refl _), if_pos (by omega)]
      omega

theorem sm_mul (f : Nat → Int) (c : Int) : ∀ n, sm (fun p => c * f p) n = c * sm f n
  | 0 => by simp [sm]
  | n + 1 => by simp only [sm]; rw [sm_mul f c n, Int.mul_add]

theorem sm_one : ∀ n, sm (fun _ => 1) n = n
  | 0 => rfl
  | n + 1 => by simp only [sm]; rw [sm_one n]; omega

theorem kraft_round (W : List Int) (hp : W.Pairwise (· ≤ ·)) (h : ∀ x ∈ W, 0 ≤ x ∧ x ≤ 1048576) (hn : 2 ≤ W.length) (m : Nat) (hm : W.length ≤ 2 ^ m) : ∀ r, r ≤ m → 2 * sm (fun p => (2 : Int) ^ (r - ln W m r p)) W.length = tk W m r + 2 ^ (r + 1)
  | 0, _ => by
    have : sm (fun p => (2 : Int) ^ (0 - ln W m 0 p)) W.length = W.length := by
      rw [← sm_one W.length]
      exact sm_congr _ (fun i _ => by simp [ln])
    rw [this]
    simp only [tk]
    omega
  | r + 1, hr => by
    have ih := kraft_round W hp h hn m hm r (by omega)
    have e : sm (fun p => (2 : Int) ^ (r + 1 - ln W m (r + 1) p)) W.length = sm (fun p => 2 * (2 : Int) ^ (r - ln W m r p) - if p < sr W m r then 1 else 0) W.length := by
      refine sm_congr _ (fun p _ => ?_)
      simp only [ln]
      by_cases hc : p < sr W m r
      · rw [if_pos hc, if_pos hc, ln_all W hp h m hm p r (by omega) hc]
        simp
      · rw [if_neg hc, if_neg hc]
        have := ln_le W m p r
        rw [show r + 1 - (ln W m r p + 0) = (r - ln W m r p) + 1 by omega, Int.pow_succ]
        omega
    rw [e, sm_step _ _ _ (sr_le W m r), tk_succ]
    have h1 := sr_le_tk W m r
    have e2 : (2 : Int) ^ (r + 1 + 1) = 2 ^ (r + 1) * 2 := Int.pow_succ _ _
    rw [e2]
    omega

/-- Just full. -/
theorem kraft (W : List Int) (hp : W.Pairwise (· ≤ ·)) (h : ∀ x ∈ W, 0 ≤ x ∧ x ≤ 1048576) (hn : 2 ≤ W.length) (m : Nat) (h0 : 1 ≤ m) (h15 : m ≤ 15) (hm : W.length ≤ 2 ^ m) : sm (fun p => (2 : Int) ^ (15 - ln W m m p)) W.length = 32768 := by
  have h1 := kraft_round W hp h hn m hm m (Nat.le_refl _)
  rw [tk_end W m h0 hm, Int.pow_succ] at h1
  have e : sm (fun p => (2 : Int) ^ (15 - ln W m m p)) W.length = 2 ^ (15 - m) * sm (fun p => (2 : Int) ^ (m - ln W m m p)) W.length := by
    rw [← sm_mul]
    refine sm_congr _ (fun p _ => ?_)
    have := ln_le W m p m
    rw [← Int.pow_add]
    congr 1
    omega
  have h2 : sm (fun p => (2 : Int) ^ (m - ln W m m p)) W.length = 2 ^ m := by omega
  rw [e, h2, ← Int.pow_add, show 15 - m + m = 15 by omega]
  rfl

end Go.Proofs.YtcgjmkcigmmjjaaGreatDoor

namespace Go.Proofs.YtcgjmkcigmmjjaaGreatDoor
theorem count_take_at : ∀ (D : List Int) (p c : Nat), D.Nodup → p < D.length → (D.take c).count (D.getD p 0) = if p < c then 1 else 0
  | [], p, c, _, h => by simp at h
  | x :: D, 0, 0, _, _ => by simp
  | x :: D, 0, c + 1, hd, _ => by
    have h1 : x ∉ D := (List.nodup_cons.1 hd).1
    have h2 : x ∉ D.take c := fun h => h1 (List.mem_of_mem_take h)
    simp [List.count_eq_zero.2 h2]
  | x :: D, p + 1, 0, _, _ => by simp
  | x :: D, p + 1, c + 1, hd, h => by
    have hp : p < D.length := by simpa using h
    have h1 : x ∉ D := (List.nodup_cons.1 hd).1
    have ih := count_take_at D p c (List.nodup_cons.1 hd).2 hp
    have e : (x :: D).getD (p + 1) 0 = D.getD p 0 := by simp
    have hne : ¬ x = D.getD p 0 := by
      intro h
      apply h1
      rw [h, getD_i D p hp]
      exact List.getElem_mem hp
    rw [e, List.take_succ_cons, List.count_cons, ih]
    have : (x == D.getD p 0) = false := by simpa using hne
    rw [this]
    by_cases hc : p < c
    · simp [hc]
    · simp [hc]

theorem posTo_nodup (O : List Int) (k : Nat) : (posTo O k).Nodup := by
  unfold posTo
  unfold List.Nodup
  rw [List.pairwise_map]
  refine (List.Pairwise.filter _ List.nodup_range).imp ?_
  intro a b h e
  exact h (by omega)

/-- D is the symbols that come at all, the rarest first. -/
structure Used (O D : List Int) (m : Nat) : Prop where
  perm : List.Perm D (posTo O O.length)
  sr : Sr O D 0 D.length
  may : mayB O (m : Int) = true
  asc : EqA O D

/-- Two rows of the same, each in a strict order, are one. -/
theorem perm_sorted_eq {R : Int → Int → Prop} (hR : ∀ a b, R a b → ¬ R b a) : ∀ {A B : List Int}, List.Perm A B → A.Pairwise R → B.Pairwise R → A = B
  | [], B, hp, _, _ => (List.nil_perm.1 hp).symm
  | a :: A, [], hp, _, _ => absurd hp.length_eq (by simp)
  | a :: A, b :: B, hp, ha, hb => by
    have e : a = b := by
      apply Classical.byContradiction
      intro hne
      have h1 : a ∈ B := by
        rcases List.mem_cons.1 (hp.mem_iff.1 (List.mem_cons_self (a := a) (l := A))) with h | h
        · exact absurd h hne
        · exact h
      have h2 : b ∈ A := by
        rcases List.mem_cons.1 (hp.mem_iff.2 (List.mem_cons_self (a := b) (l := B))) with h | h
        · exact absurd h.symm hne
        · exact h
      exact hR _ _ ((List.pairwise_cons.1 ha).1 b h2) ((List.pairwise_cons.1 hb).1 a h1)
    subst e
    rw [perm_sorted_eq hR ((List.perm_cons a).1 hp) (List.pairwise_cons.1 ha).2 (List.pairwise_cons.1 hb).2]

theorem Used.lex {O D : List Int} {m : Nat} (h : Used O D m) : D.Pairwise (fun x y => key O x < key O y ∨ (key O x = key O y ∧ x < y)) := by
  rw [List.pairwise_iff_getElem]
  intro i j hi hj hij
  have h1 := h.sr i j (Nat.zero_le _) hij hj
  have h2 := h.asc i j hij hj
  rw [getD_i D i hi, getD_i D j hj] at h1 h2
  by_cases e : key O D[i] = key O D[j]
  · exact .inr ⟨e, h2 e⟩
  · exact .inl (by omega)

/-- There is one such row alone. -/
theorem Used.uniq {O D D' : List Int} {m m' : Nat} (h : Used O D m) (h' : Used O D' m') : D = D' :=
  perm_sorted_eq (fun a b h1 h2 => by omega) (h.perm.trans h'.perm.symm) h.lex h'.lex

theorem Used.nodup {O D : List Int} {m : Nat} (h : Used O D m) : D.Nodup := h.perm.nodup_iff.2 (posTo_nodup O O.length)

theorem Used.le {O D : List Int} {m : Nat} (h : Used O D m) : D.length ≤ 2 ^ m := by
  have := ((mayB_iff O m).1 h.may).2.2.2.2
  rw [h.perm.length_eq]
  simpa using this

theorem Used.bd {O D : List Int} {m : Nat} (h : Used O D m) : O.length ≤ 320 ∧ 1 ≤ m ∧ m ≤ 15 := by
  have := (mayB_iff O m).1 h.may
  omega

theorem Used.often {O D : List Int} {m : Nat} (h : Used O D m) (i : Nat) : 0 ≤ O.getD i 0 ∧ O.getD i 0 ≤ 1048576 := by
  by_cases hi : i < O.length
  · rw [getD_i O i hi]
    exact (oftB_iff O).1 ((mayB_iff O m).1 h.may).2.2.2.1 _ (List.getElem_mem hi)
  · simp [List.getD, List.getElem?_eq_none (Nat.le_of_not_lt hi)]

theorem Used.mem {O D : List Int} {m : Nat} (h : Used O D m) (x : Int) : x ∈ D ↔ ∃ i : Nat, x = (i : Int) ∧ i < O.length ∧ 0 < O.getD i 0 := (h.perm.mem_iff).trans (posTo_mem O O.length x)

theorem Used.at {O D : List Int} {m : Nat} (h : Used O D m) {i : Nat} (hi : i < O.length) (hp : 0 < O.getD i 0) : ∃ p, p < D.length ∧ D.getD p 0 = (i : Int) := by
  obtain ⟨p, hp, e⟩ := List.mem_iff_getElem.1 ((h.mem (i : Int)).2 ⟨i, rfl, hi, hp⟩)
  exact ⟨p, hp, by rw [getD_i D p hp, e]⟩

theorem Used.sorted {O D : List Int} {m : Nat} (h : Used O D m) : (D.map (key O)).Pairwise (· ≤ ·) := by
  rw [List.pairwise_iff_getElem]
  intro i j hi hj hij
  have hi' : i < D.length := by simpa using hi
  have hj' : j < D.length := by simpa using hj
  have := h.sr i j (Nat.zero_le _) hij hj'
  rw [getD_i D i hi', getD_i D j hj'] at this
  simpa using this

theorem Used.wt {O D : List Int} {m : Nat} (h : Used O D m) : ∀ x ∈ D.map (key O), 0 ≤ x ∧ x ≤ 1048576 := by
  intro x hx
  obtain ⟨y, hy, rfl⟩ := List.mem_map.1 hx
  exact h.often y.toNat

theorem lf_ln (D W : List Int) (m : Nat) (hd : D.Nodup) (p i : Nat) (hp : p < D.length) (hi : D.getD p 0 = (i : Int)) : ∀ r, lf D W m r i = (ln W m r p : Int)
  | 0 => rfl
  | r + 1 => by
    have ih := lf_ln D W m hd p i hp hi r
    have := count_take_at D p (sing W (m - 1 - r) (tk W m r)) hd hp
    rw [hi] at this
    simp only [lf, ln]
    rw [ih, this, Int.natCast_add]
    rfl

theorem lf_none (D W : List Int) (m i : Nat) (h : (i : Int) ∉ D) : ∀ r, lf D W m r i = 0
  | 0 => rfl
  | r + 1 => by
    have ih := lf_none D W m i h r
    have : (i : Int) ∉ D.take (sing W (m - 1 - r) (tk W m r)) := fun h2 => h (List.mem_of_mem_take h2)
    simp only [lf]
    rw [ih, List.count_eq_zero.2 this]
    rfl

/-- How long the code of the symbol at place p is. -/
def lnA (O D : List Int) (m p : Nat) : Nat := if D.length < 2 then 1 else ln (D.map (key O)) m m p

theorem Used.len {O D : List Int} {m : Nat} (h : Used O D m) {i p : Nat} (hi : i < O.length) (hp : p < D.length) (e : D.getD p 0 = (i : Int)) : (lensOf O D m).getD i 0 = (lnA O D m p : Int) := by
  rw [lensOf_getD O D m i hi]
  unfold lnA
  by_cases h2 : D.length < 2
  · rw [if_pos h2, if_pos h2]
    have := count_take_at D p D.length h.nodup hp
    rw [e, List.take_of_length_le (Nat.le_refl _), if_pos hp] at this
    rw [this]
  · rw [if_neg h2, if_neg h2]
    exact lf_ln D _ m h.nodup p i hp e m

theorem Used.len0 {O D : List Int} {m : Nat} (h : Used O D m) {i : Nat} (hi : i < O.length) (e : O.getD i 0 = 0) : (lensOf O D m).getD i 0 = 0 := by
  have hn : (i : Int) ∉ D := by
    intro hm
    obtain ⟨j, h1, _, h3⟩ := (h.mem _).1 hm
    have : i = j := by omega
    subst this
    omega
  rw [lensOf_getD O D m i hi]
  by_cases h2 : D.length < 2
  · rw [if_pos h2, List.count_eq_zero.2 hn]; rfl
  · rw [if_neg h2]
    exact lf_none D _ m i hn m

theorem Used.lnIn {O D : List Int} {m : Nat} (h : Used O D m) {p : Nat} (hp : p < D.length) : 1 ≤ lnA O D m p ∧ lnA O D m p ≤ m := by
  have hb := h.bd
  unfold Go.Proofs.YtcgjmkcigmmjjaaGreatDoor.lnA
  by_cases h2 : D.length < 2
  · rw [if_pos h2]; omega
  · rw [if_neg h2]
    have h1 := ln_le (D.map (key O)) m p m
    have h3 := ln_up (D.map (key O)) m p 1 (m - 1)
    rw [show 1 + (m - 1) = m by omega] at h3
    have h4 := sr_first (D.map (key O)) h.sorted h.wt (by simp; omega) m
    have h5 : ln (D.map (key O)) m 1 p = 1 := by
      simp only [ln]
      rw [h4, if_pos (by simpa using hp)]
    omega

theorem Used.bounds {O D : List Int} {m : Nat} (h : Used O D m) {i : Nat} (hi : i < O.length) : 0 ≤ (lensOf O D m).getD i 0 ∧ (lensOf O D m).getD i 0 ≤ m ∧ (0 < O.getD i 0 → 0 < (lensOf O D m).getD i 0) ∧ (O.getD i 0 = 0 → (lensOf O D m).getD i 0 = 0) := by
  have ho := h.often i
  by_cases e : O.getD i 0 = 0
  · have := h.len0 hi e
    omega
  · obtain ⟨p, hp, ep⟩ := h.at hi (by omega)
    have h1 := h.len hi hp ep
    have h2 := h.lnIn hp
    omega

theorem Used.ok {O D : List Int} {m : Nat} (h : Used O D m) : okB (lensOf O D m) = true := by
  refine okTo_all (fun j hj => ?_) (by rw [lensOf_length]; exact h.bd.1)
  rw [lensOf_length] at hj
  have := h.bounds hj
  have := h.bd
  omega

theorem ln_rare (W : List Int) (m : Nat) {p q : Nat} (h : p ≤ q) : ∀ r, ln W m r q ≤ ln W m r p
  | 0 => Nat.le_refl _
  | r + 1 => by
    have := ln_rare W m h r
    simp only [ln]
    split <;> split <;> omega

/-- What comes more often has no longer code. -/
theorem Used.rare {O D : List Int} {m : Nat} (h : Used O D m) {i k : Nat} (hi : i < O.length) (hk : k < O.length) (h1 : O.getD k 0 < O.getD i 0) (h2 : 0 < O.getD k 0) : (lensOf O D m).getD i 0 ≤ (lensOf O D m).getD k 0 := by
  obtain ⟨p, hp, ep⟩ := h.at hi (by omega)
  obtain ⟨q, hq, eq⟩ := h.at hk h2
  rw [h.len hi hp ep, h.len hk hq eq]
  have hqp : q < p := by
    rcases Nat.lt_trichotomy p q with h3 | h3 | h3
    · have := h.sr p q (Nat.zero_le _) h3 hq
      rw [ep, eq] at this
      unfold key at this
      rw [Int.toNat_natCast, Int.toNat_natCast] at this
      omega
    · subst h3
      rw [ep] at eq
      have : i = k := by omega
      subst this
      omega
    · exact h3
  unfold Go.Proofs.YtcgjmkcigmmjjaaGreatDoor.lnA
  split
  · omega
  · have := ln_rare (D.map (key O)) m (Nat.le_of_lt hqp) m
    omega

theorem sum_perm {A B : List Int} (h : A.Perm B) (g : Int → Int) : (A.map g).sum = (B.map g).sum := by
  induction h with
  | nil => rfl
  | cons x _ ih => simp [ih]
  | swap x y l => simp; omega
  | trans _ _ ih1 ih2 => exact ih1.trans ih2

theorem sm_shift (f : Nat → Int) : ∀ n, sm f (n + 1) = f 0 + sm (fun p => f (p + 1)) n
  | 0 => by simp [sm]
  | n + 1 => by
    have := sm_shift f n
    simp only [sm] at this ⊢
    omega

theorem sum_sm (g : Int → Int) : ∀ D : List Int, (D.map g).sum = sm (fun p => g (D.getD p 0)) D.length
  | [] => rfl
  | x :: D => by
    have ih := sum_sm g D
    rw [List.map_cons, List.sum_cons, ih, List.length_cons, sm_shift]
    rfl

theorem Used.flt {O D : List Int} {m : Nat} (h : Used O D m) : ∀ k, k ≤ O.length → flt (lensOf O D m) k = ((posTo O k).map fun x => (2 : Int) ^ (15 - ((lensOf O D m).getD x.toNat 0).toNat)).sum
  | 0, _ => rfl
  | k + 1, hk => by
    have ih := Used.flt h k (by omega)
    have hb := h.bounds (i := k) (by omega)
    have ho := h.often k
    simp only [Go.Proofs.YtcgjmkcigmmjjaaGreatDoor.flt]
    by_cases e : 0 < O.getD k 0
    · rw [posTo_yes O k e, List.map_append, List.sum_append, ih, if_pos (hb.2.2.1 e)]
      simp
    · rw [posTo_no O k e, ih, if_neg (by have := hb.2.2.2 (by omega); omega)]
      omega

theorem Used.mny {O D : List Int} {m : Nat} (h : Used O D m) : ∀ k, k ≤ O.length → mny (lensOf O D m) k = (posTo O k).length
  | 0, _ => rfl
  | k + 1, hk => by
    have ih := Used.mny h k (by omega)
    have hb := h.bounds (i := k) (by omega)
    have ho := h.often k
    simp only [Go.Proofs.YtcgjmkcigmmjjaaGreatDoor.mny]
    by_cases e : 0 < O.getD k 0
    · rw [posTo_yes O k e, if_pos (hb.2.2.1 e), ih]
      simp
    · rw [posTo_no O k e, if_neg (by have := hb.2.2.2 (by omega); omega), ih]

theorem Used.fill {O D : List Int} {m : Nat} (h : Used O D m) : fl (cf (lensOf O D m)) 16 = sm (fun p => (2 : Int) ^ (15 - lnA O D m p)) D.length := by
  rw [← flt_all _ ((okB_iff _).1 h.ok).2, lensOf_length, h.flt O.length (Nat.le_refl _), ← sum_perm h.perm, sum_sm]
  refine sm_congr _ (fun p hp => ?_)
  obtain ⟨i, e, hi, _⟩ := (h.mem (D.getD p 0)).1 (by rw [getD_i D p hp]; exact List.getElem_mem hp)
  rw [e, Int.toNat_natCast, h.len hi hp e, Int.toNat_natCast]

theorem Used.full {O D : List Int} {m : Nat} (h : Used O D m) (h2 : 2 ≤ D.length) : fl (cf (lensOf O D m)) 16 = 32768 := by
  have hb := h.bd
  have := kraft (D.map (key O)) h.sorted h.wt (by simpa using h2) m hb.2.1 hb.2.2 (by simpa using h.le)
  rw [h.fill, ← this, List.length_map]
  refine sm_congr _ (fun p _ => ?_)
  unfold Go.Proofs.YtcgjmkcigmmjjaaGreatDoor.lnA
  rw [if_neg (by omega)]

theorem Used.one {O D : List Int} {m : Nat} (h : Used O D m) (h1 : D.length = 1) : fl (cf (lensOf O D m)) 16 = 16384 := by
  have e : sm (fun p => (2 : Int) ^ (15 - lnA O D m p)) 1 = 0 + (2 : Int) ^ (15 - lnA O D m 0) := by simp only [sm]
  have e1 : lnA O D m 0 = 1 := by unfold lnA; rw [h1]; exact if_pos (by omega)
  rw [h.fill, h1, e, e1]
  decide

theorem Used.none {O D : List Int} {m : Nat} (h : Used O D m) (h1 : D.length = 0) : fl (cf (lensOf O D m)) 16 = 0 := by
  rw [h.fill, h1]
  rfl

theorem Used.many {O D : List Int} {m : Nat} (h : Used O D m) : Go.Proofs.YtcgjmkcigmmjjaaGreatDoor.mny (lensOf O D m) O.length = D.length := by
  rw [h.mny O.length (Nat.le_refl _), h.perm.length_eq]

/-- A decoder of them there is. -/
theorem Used.new {O D : List Int} {m : Nat} (h : Used O D m) : newErr (lensOf O D m) = 0 := by
  unfold newErr
  rw [if_pos h.ok]
  by_cases h2 : 2 ≤ D.length
  · rw [if_pos (.inl (h.full h2))]
  · have few : fewB (cf (lensOf O D m)) = true := by
      have f := mny_facts (lensOf O D m) (lensOf O D m).length
      have hm := h.many
      have hlen := lensOf_length O D m
      rw [← hlen] at hm
      have hf := flt_all _ ((okB_iff _).1 h.ok).2
      refine (few_iff _ ((okB_iff _).1 h.ok).2).2 ?_
      by_cases h0 : D.length = 0
      · left; omega
      · right
        have h1 : D.length = 1 := by omega
        refine ⟨by omega, ?_⟩
        have e1 := f.2.2.1 (by omega)
        have e2 := (f.2.1 (by omega)).2
        rw [hf, h.one h1] at e1
        obtain ⟨y, hy⟩ := Int.eq_ofNat_of_zero_le (show 0 ≤ onl (lensOf O D m) (lensOf O D m).length by omega)
        rw [hy] at e1 e2 ⊢
        rw [Int.toNat_natCast] at e1
        have e3 : ((2 ^ (15 - y) : Nat) : Int) = (2 : Int) ^ (15 - y) := by simp
        have e4 : (2 ^ (15 - y) : Nat) = 2 ^ 14 := by omega
        have := (Nat.pow_right_inj (by omega : 1 < 2)).1 e4
        have : y = 1 := by
          have : 15 - y = 14 := this
          omega
        omega
    rw [if_pos (.inr few)]

/-! What they cost. -/

theorem Used.cost {O D : List Int} {m : Nat} (h : Used O D m) : ∀ k, k ≤ O.length → csum O (lensOf O D m) k = ((posTo O k).map fun x => key O x * (lensOf O D m).getD x.toNat 0).sum
  | 0, _ => rfl
  | k + 1, hk => by
    have ih := Used.cost h k (by omega)
    have ho := h.often k
    simp only [csum]
    by_cases e : 0 < O.getD k 0
    · rw [posTo_yes O k e, List.map_append, List.sum_append, ih]
      simp [key]
    · have e0 : O.getD k 0 = 0 := by omega
      rw [posTo_no O k e, ih, e0]
      omega

theorem Used.costs {O D : List Int} {m : Nat} (h : Used O D m) : csum O (lensOf O D m) O.length = sm (fun p => (D.map (key O)).getD p 0 * (lnA O D m p : Int)) D.length := by
  rw [h.cost O.length (Nat.le_refl _), ← sum_perm h.perm, sum_sm]
  refine sm_congr _ (fun p hp => ?_)
  obtain ⟨i, e, hi, _⟩ := (h.mem (D.getD p 0)).1 (by rw [getD_i D p hp]; exact List.getElem_mem hp)
  have e2 : (D.map (key O)).getD p 0 = key O (D.getD p 0) := by simp [List.getD, hp]
  rw [e2, e, Int.toNat_natCast, h.len hi hp e]

theorem sm_add (f g : Nat → Int) : ∀ n, sm (fun p => f p + g p) n = sm f n + sm g n
  | 0 => rfl
  | n + 1 => by simp only [sm]; rw [sm_add f g n]; omega

theorem sm_upto (f : Nat → Int) (c : Nat) : ∀ n, c ≤ n → sm (fun p => if p < c then f p else 0) n = sm f c
  | 0, h => by
    have : c = 0 := by omega
    subst this; rfl
  | n + 1, h => by
    simp only [sm]
    by_cases e : c ≤ n
    · rw [sm_upto f c n e, if_neg (by omega)]; omega
    · have : c = n + 1 := by omega
      subst this
      rw [if_pos (by omega)]
      simp only [sm]
      congr 1
      exact sm_congr n (fun i hi => by rw [if_pos (by omega)])

theorem sm_zero : ∀ n, sm (fun _ => 0) n = 0
  | 0 => rfl
  | n + 1 => by simp only [sm]; rw [sm_zero n]; rfl

/-- The sum of the first t things of a row. -/
def rsum (W : List Int) (k t : Nat) : Int := sm (fun q => ((rowN W k).map (·.1)).getD q 0) t

theorem mrg_sum : ∀ (n : Nat) (A B : List Int) (t : Nat), n = A.length + B.length → t ≤ n → sm (fun q => ((mrgN n A B).map (·.1)).getD q 0) t = sm (fun p => A.getD p 0) (cntN n A B t) + sm (fun p => B.getD p 0) (t - cntN n A B t)
  | 0, A, B, t, hn, ht => by
    have : t = 0 := by omega
    subst this
    rfl
  | n + 1, A, B, 0, hn, ht => by simp [cntN, sm]
  | n + 1, A, B, t + 1, hn, ht => by
    by_cases hg : sg A B = true
    · cases A with
      | nil =>
        exfalso
        cases B with
        | nil => simp at hn
        | cons b B => simp [sg] at hg
      | cons a A =>
        have ih := mrg_sum n A B t (by simp at hn; omega) (by omega)
        rw [cntN_yes n a A B t hg, sm_shift, sm_shift, mrgN, if_pos hg, show t + 1 - (cntN n A B t + 1) = t - cntN n A B t by omega]
        simp only [List.map_cons, List.getD_cons_zero, List.getD_cons_succ, List.headD_cons, List.tail_cons]
        rw [ih]
        omega
    · cases B with
      | nil => simp [sg] at hg
      | cons b B =>
        have ih := mrg_sum n A B t (by simp at hn; omega) (by omega)
        have hc := cntN_le n A B t
        rw [cntN_no n A b B t hg, show t + 1 - cntN n A B t = (t - cntN n A B t) + 1 by omega, sm_shift, sm_shift (fun p => (b :: B).getD p 0), mrgN, if_neg hg]
        simp only [List.map_cons, List.getD_cons_zero, List.getD_cons_succ, List.headD_cons, List.tail_cons]
        rw [ih]
        omega

theorem pairs_sum (R : List Int) : ∀ b, b ≤ R.length / 2 → sm (fun p => (pairs R).getD p 0) b = sm (fun p => R.getD p 0) (2 * b)
  | 0, _ => rfl
  | b + 1, h => by
    have ih := pairs_sum R b (by omega)
    rw [show 2 * (b + 1) = (2 * b + 1) + 1 by omega]
    simp only [sm]
    rw [ih, pairs_getD R b (by omega)]
    omega

theorem rsum_row (W : List Int) (k t : Nat) (h : t ≤ (told W k).length) : rsum W k t = sm (fun p => W.getD p 0) (sing W k t) + sm (fun p => (prs W k).getD p 0) (t - sing W k t) := by
  rw [told_length] at h
  unfold rsum
  rw [sing_cnt, rowN_prs]
  exact mrg_sum _ W (prs W k) t rfl h

theorem rsum_down (W : List Int) (k t : Nat) (h : t ≤ (told W (k + 1)).length) : rsum W (k + 1) t = sm (fun p => W.getD p 0) (sing W (k + 1) t) + rsum W k (2 * (t - sing W (k + 1) t)) := by
  rw [rsum_row W (k + 1) t h]
  congr 1
  have h1 := rest_le W (k + 1) t h
  have h2 : (prs W (k + 1)).length = ((rowN W k).map (·.1)).length / 2 := pairs_length _
  exact pairs_sum _ _ (by omega)

theorem rsum_all (W : List Int) (m : Nat) (hm : W.length ≤ 2 ^ m) : ∀ d r, r + d + 1 = m → rsum W (m - 1 - r) (tk W m r) + sm (fun p => W.getD p 0 * (ln W m r p : Int)) W.length = sm (fun p => W.getD p 0 * (ln W m m p : Int)) W.length
  | 0, r, hr => by
    have e : m - 1 - r = 0 := by omega
    have ht := tk_le W m hm r (by omega)
    have hrow := rsum_row W 0 (tk W m r) (by rw [← e]; exact ht)
    have e3 : sing W 0 (tk W m r) = sr W m r := by unfold sr; rw [e]
    have h0 : (prs W 0) = [] := rfl
    rw [e, hrow, h0, e3]
    have e4 : sm (fun p => ([] : List Int).getD p 0) (tk W m r - sr W m r) = 0 := by
      have := sm_congr (f := fun p => ([] : List Int).getD p 0) (g := fun _ => 0) (tk W m r - sr W m r) (fun i _ => by simp)
      rw [this, sm_zero]
    rw [e4]
    have e5 : m = r + 1 := by omega
    have e6 : sm (fun p => W.getD p 0 * (ln W m m p : Int)) W.length = sm (fun p => (if p < sr W m r then W.getD p 0 else 0) + W.getD p 0 * (ln W m r p : Int)) W.length := by
      refine sm_congr _ (fun p _ => ?_)
      have : ln W m m p = ln W m r p + if p < sr W m r then 1 else 0 := by
        conv => lhs; arg 3; rw [e5]
        rfl
      rw [this]
      split
      · rw [Int.natCast_add, Int.mul_add]; simp; omega
      · simp
    rw [e6, sm_add, sm_upto _ _ _ (sr_le W m r)]
    omega
  | d + 1, r, hr => by
    have ih := rsum_all W m hm d (r + 1) (by omega)
    have ht := tk_le W m hm r (by omega)
    have e : m - 1 - r = (m - 1 - (r + 1)) + 1 := by omega
    have hd := rsum_down W (m - 1 - (r + 1)) (tk W m r) (by rw [← e]; exact ht)
    rw [← e] at hd
    have e3 : sing W (m - 1 - r) (tk W m r) = sr W m r := rfl
    rw [e3, ← tk_succ] at hd
    rw [hd]
    have e6 : sm (fun p => W.getD p 0 * (ln W m (r + 1) p : Int)) W.length = sm (fun p => (if p < sr W m r then W.getD p 0 else 0) + W.getD p 0 * (ln W m r p : Int)) W.length := by
      refine sm_congr _ (fun p _ => ?_)
      simp only [ln]
      split
      · rw [Int.natCast_add, Int.mul_add]; simp; omega
      · simp
    rw [e6, sm_add, sm_upto _ _ _ (sr_le W m r)] at ih
    omega

/-- The cost is the sum of so many things of the last row. -/
theorem Used.least {O D : List Int} {m : Nat} (h : Used O D m) (h2 : 2 ≤ D.length) : csum O (lensOf O D m) O.length = rsum (D.map (key O)) (m - 1) (2 * D.length - 2) := by
  have hb := h.bd
  have h1 := rsum_all (D.map (key O)) m (by simpa using h.le) (m - 1) 0 (by omega)
  rw [h.costs]
  have e1 : sm (fun p => (D.map (key O)).getD p 0 * (ln (D.map (key O)) m 0 p : Int)) (D.map (key O)).length = 0 := by
    have := sm_congr (f := fun p => (D.map (key O)).getD p 0 * (ln (D.map (key O)) m 0 p : Int)) (g := fun _ => 0) (D.map (key O)).length (fun i _ => by simp [ln])
    rw [this, sm_zero]
  rw [e1] at h1
  have e2 : tk (D.map (key O)) m 0 = 2 * D.length - 2 := by simp [tk]
  rw [e2] at h1
  have e3 : sm (fun p => (D.map (key O)).getD p 0 * (lnA O D m p : Int)) D.length = sm (fun p => (D.map (key O)).getD p 0 * (ln (D.map (key O)) m m p : Int)) (D.map (key O)).length := by
    rw [List.length_map]
    refine sm_congr _ (fun p _ => ?_)
    unfold Go.Proofs.YtcgjmkcigmmjjaaGreatDoor.lnA
    rw [if_neg (by omega)]
  rw [e3, ← h1]
  simp

end Go.Proofs.YtcgjmkcigmmjjaaGreatDoor

namespace Go.Proofs.YtcgjmkcigmmjjaaGreatDoor
open Go.RowKit
set_option maxRecDepth 100000
def cdL (vl vn : Value) : List Value := [vl, vn]

theorem Tryz.infoCd : (Tryz.prog.info? 96).map (·.size) = some 2 := by kernel_rfl

theorem cd_load {w : World} {b : Nat} {vl vn : Value} (h : Sv w b (cdL vl vn)) : (loadVar 96 ⟨b, 0, none⟩).run Tryz.prog w = .ok (.agg #[vl, vn]) w := h.load _ _ Tryz.underlying96 rfl Tryz.infoCd

theorem cdL_one (a b : Option Addr) (n m c d : Nat) : ∀ v ∈ cdL (.slice a n c) (.slice b m d), v.oneCell' = true := by
  intro v hv
  simp [cdL] at hv
  rcases hv with rfl | rfl <;> rfl

theorem Ri.slice {w : World} {v : Value} {L : List Int} (h : Ri w v L) : ∃ a c, v = .slice a L.length c := by
  obtain ⟨a, c, e, _⟩ := h
  exact ⟨a, c, e⟩

theorem dnewCodes_any (v : Value) (L : List Int) (w : World) (h : Ri w v L) (hl : L.length ≤ 1000) (he : codeErr L = 0) :
    Calls Tryz.prog 62 #[v] w fun e w' => ∃ u, e = .returned (.agg #[v, u]) ∧ Ri w' u (codes L) ∧ (∀ a n c, u = .slice (some a) n c → w.heap.size ≤ a.block) ∧ Step (fun _ => False) w w' := by
  obtain ⟨W0, hW0⟩ : ∃ W0, w.alloc (.cells #[.slice none 0 0, .slice none 0 0] 96) = W0 := ⟨_, rfl⟩
  obtain ⟨B0, hB0⟩ : ∃ B0, w.heap.size = B0 := ⟨_, rfl⟩
  have S0 : Step (fun _ => False) w W0 := by rw [← hW0]; exact (Step.refl _ _).alloc _
  have HV0 := hidden (show Sv W0 B0 (cdL (.slice none 0 0) (.slice none 0 0)) by rw [← hW0, ← hB0]; exact Sv.new w _ _)
  have HS0 := hidden S0
  have HB0 := hidden hB0
  have HC := hidden (codes_any v L W0 (h.made S0) (by omega))
  have HE := hidden he
  have hzz := S0.size
  obtain ⟨al, cl, hv⟩ := Ri.slice h
  subst hv
  have hz0 : B0 < W0.heap.size := HV0.out.lt (by simp [cdL])
  obtain ⟨ll, hll⟩ : ∃ ll, L.length = ll := ⟨_, rfl⟩
  rw [hll] at HC ⊢
  clear h he S0 hll
  go_enter Tryz.func62, Tryz.ntmps62
  go_wp2_with fail
  refine HC.out.mono ?_
  rintro e w1 ⟨u, rfl, r1, r2, S1⟩
  rw [(codeErr_ok HE.out).2.2] at r1
  rw [HE.out]
  obtain ⟨an, cn, hu⟩ := Ri.slice r1
  subst hu
  have HR1 := hidden r1
  have HR2 := hidden (show ∀ a n c, Value.slice an (codes L).length cn = .slice (some a) n c → B0 < a.block from fun a n c e => by have := r2 a n c e; omega)
  have HS1 := hidden (HS0.out.made S1)
  have HV1 := hidden (HV0.out.made S1)
  generalize (codes L).length = nl at *
  clear r1 r2 S1 HC
  go_wp2_with (refine store_sv B0 (cdL (.slice none 0 0) (.slice none 0 0)) (cdL (.slice al ll cl) (.slice an nl cn)) rfl Tryz.infoCd (cdL_one _ _ _ _ _ _) rfl rfl HV1.out ?_)
  intro w3 S3 V3
  have HS3 := hidden (HS1.out.trans S3 (fun i hi => .inr (by have := HB0.out; omega)))
  have HR3 := hidden (HR1.out.step S3 (fun a n c e _ => by
    have := HR2.out a n c e
    omega))
  have HV3 := hidden V3
  clear S3 V3
  go_wp2
  refine bodyPost_ret (v := .agg #[.slice al ll cl, .slice an nl cn]) ?_ rfl ⟨_, rfl, HR3.out, fun a n c e => by have := HR2.out a n c e; have := HB0.out; omega, HS3.out⟩
  have := cd_load HV3.out
  simp [results, Tryz.results62, asAddr, this]

/-- Counts of symbols that Lengths takes. -/
theorem bestCodes_any (v : Value) (O : List Int) (m : Nat) (w : World) (h : Ri w v O) (hl : O.length ≤ 320) (hm : mayB O (m : Int) = true) :
    Calls Tryz.prog 63 #[v, .int .i64 (m : Int)] w fun e w' => ∃ vl u D, e = .returned (.agg #[vl, u]) ∧ Used O D m ∧ Ri w' vl (lensOf O D m) ∧ Ri w' u (codes (lensOf O D m)) ∧ (∀ a n c, vl = .slice (some a) n c → w.heap.size ≤ a.block) ∧ (∀ a n c, u = .slice (some a) n c → w.heap.size ≤ a.block) ∧ Step (fun _ => False) w w' := by
  obtain ⟨W0, hW0⟩ : ∃ W0, w.alloc (.cells #[.slice none 0 0, .slice none 0 0] 96) = W0 := ⟨_, rfl⟩
  obtain ⟨B0, hB0⟩ : ∃ B0, w.heap.size = B0 := ⟨_, rfl⟩
  have S0 : Step (fun _ => False) w W0 := by rw [← hW0]; exact (Step.refl _ _).alloc _
  have HV0 := hidden (show Sv W0 B0 (cdL (.slice none 0 0) (.slice none 0 0)) by rw [← hW0, ← hB0]; exact Sv.new w _ _)
  have HS0 := hidden S0
  have HB0 := hidden hB0
  have HL := hidden (len_any v O (m : Int) W0 (h.made S0) (by omega) (fun n hn => sort_all n (by have := posTo_length O O.length; omega)))
  have HM := hidden hm
  have hz0 : B0 < W0.heap.size := HV0.out.lt (by simp [cdL])
  have HOL := hidden hl
  clear h hm S0
  go_enter Tryz.func63, Tryz.ntmps63
  go_wp2_with fail
  refine HL.out.mono ?_
  rintro e w1 (⟨hno, _⟩ | ⟨_, vl, D, rfl, hp, hsr, rl, rf, S1⟩)
  · rw [HM.out] at hno; cases hno
  · have HU := hidden (show Used O D m from ⟨hp, hsr.1, HM.out, hsr.2⟩)
    rw [Int.toNat_natCast] at rl
    obtain ⟨al, cl, hv⟩ := Ri.slice rl
    subst hv
    have HRL := hidden rl
    have hll : (lensOf O D m).length = O.length := by simp [lensOf]
    have HF := hidden (show ∀ a n c, Value.slice al (lensOf O D m).length cl = .slice (some a) n c → B0 < a.block from fun a n c e => by have := rf a n c e; omega)
    have HS1 := hidden (HS0.out.made S1)
    have HV1 := hidden (HV0.out.made S1)
    have hz1 : B0 < w1.heap.size := HV1.out.lt (by simp [cdL])
    have HNC := hidden (dnewCodes_any (.slice al (lensOf O D m).length cl) (lensOf O D m) w1 rl (by rw [hll]; omega) (newErr_codes _ HU.out.new).1)
    clear rl rf S1 HL hp hsr hll
    obtain ⟨L, hL⟩ : ∃ L, lensOf O D m = L := ⟨_, rfl⟩
    rw [hL] at HRL HF HNC ⊢
    have HLE := hidden hL
    clear hL
    go_wp2_with fail
    refine HNC.out.mono ?_
    rintro e w2 ⟨u, rfl, ru, uf, S2⟩
    obtain ⟨an, cn, hu⟩ := Ri.slice ru
    subst hu
    have HRU := hidden ru
    have HUF := hidden (show ∀ a n c, Value.slice an (codes L).length cn = .slice (some a) n c → B0 < a.block from fun a n c e => by have := uf a n c e; omega)
    have HRL2 := hidden (HRL.out.made S2)
    have HS2 := hidden (HS1.out.made S2)
    have HV2 := hidden (HV1.out.made S2)
    clear ru uf S2 HNC
    generalize (codes L).length = nl at *
    generalize hLl : L.length = ll at *
    go_wp2_with (refine store_sv B0 (cdL (.slice none 0 0) (.slice none 0 0)) (cdL (.slice al ll cl) (.slice an nl cn)) rfl Tryz.infoCd (cdL_one _ _ _ _ _ _) rfl rfl HV2.out ?_)
    intro w3 S3 V3
    have HS3 := hidden (HS2.out.trans S3 (fun i hi => .inr (by have := HB0.out; omega)))
    have HR3 := hidden (HRU.out.step S3 (fun a n c e _ => by
      have := HUF.out a n c e
      omega))
    have HR4 := hidden (HRL2.out.step S3 (fun a n c e _ => by
      have := HF.out a n c e
      omega))
    have HV3 := hidden V3
    clear S3 V3
    go_wp2
    refine bodyPost_ret (v := .agg #[.slice al ll cl, .slice an nl cn]) ?_ rfl ⟨_, _, D, rfl, HU.out, ?_, ?_, fun a n c e => by have := HF.out a n c e; have := HB0.out; omega, fun a n c e => by have := HUF.out a n c e; have := HB0.out; omega, HS3.out⟩
    · have := cd_load HV3.out
      simp [results, Tryz.results63, asAddr, this]
    · rw [HLE.out]; exact HR4.out
    · rw [HLE.out]; exact HR3.out

end Go.Proofs.YtcgjmkcigmmjjaaGreatDoor
