/-
  Two sorted stretches become one: where one of them has one symbol alone.
-/
import Derived.Test.YtkglackbbcfhbaaHSymN
import Derived.Test.YtkglackbbcfhbaaHSortS
namespace Go.Proofs.Ytkglackbbcfhbaa
open Go.RowKit
set_option maxRecDepth 100000
set_option linter.unusedVariables false

/-- What a merge leaves. -/
def SymP (O D : List Int) (g a b : Nat) (w w' : World) : Prop := ∃ D', Srt O D a b D' ∧ Row w' g D' ∧ Step (fun k => k = g) w w'

/-- Two symbols of a row are compared. -/
theorem cmp_at {O : List Int} {v : Value} {B g : Nat} {D : List Int} {w : World} (hE : Env w B g v O) (hD : Row w g D) (hin : InO O D) (hO : O.length ≤ 100000) (i j : Nat) (hi : i < D.length) (hj : j < D.length) :
    ∃ x y : Nat, ∃ cv : Int, w.cell? ⟨g, i, none⟩ = some (.int .i64 (x : Int)) ∧ w.cell? ⟨g, j, none⟩ = some (.int .i64 (y : Int)) ∧ (cv < 0 ↔ key O (D.getD i 0) < key O (D.getD j 0)) ∧
      ∀ q, Calls Try.prog 30 #[.int .i64 (x : Int), .int .i64 (y : Int), .pointer (some ⟨B, 0, none⟩)] (w.drewN q) fun e w' => e = .returned (.int .i64 cv) ∧ ∃ n, w' = (w.drewN q).drewN n := by
  obtain ⟨x, ex, hx⟩ := hin.at hi
  obtain ⟨y, ey, hy⟩ := hin.at hj
  have c1 := (hD i hi).1
  have c2 := (hD j hj).1
  simp only [ex] at c1
  simp only [ey] at c2
  refine ⟨x, y, cmpI (O.getD x 0) (O.getD y 0), c1, c2, ?_, fun q => closure_any x y B g v O (w.drewN q) (hE.drewN q) hx hy hO⟩
  rw [cmpI_lt, ex, ey]
  simp [key]


set_option maxHeartbeats 2000000 in
theorem sym_left (O : List Int) (v : Value) (B g : Nat) (D : List Int) (a m b cap : Nat) (w : World) (hE : Env w B g v O) (hD : Row w g D) (hin : InO O D) (ham : a + 1 = m) (hmb : m < b) (hb : b ≤ D.length) (hs : Sr O D m b) (hn : D.length ≤ 100000) (hO : O.length ≤ 100000) :
    Calls Try.prog 38 #[.slice (some ⟨g, 0, none⟩) D.length cap, .int .i64 (a : Int), .int .i64 (m : Int), .int .i64 (b : Int), cmpV B] w
      fun e w' => (∃ u, e = .returned u) ∧ SymP O D g a b w w' := by
  have HC := hidden (fun (u : World) (hu : ∃ q, u = w.drewN q) i j (hi : i < D.length) (hj : j < D.length) => cmp_at (w := u) (by obtain ⟨q, rfl⟩ := hu; exact hE.drewN q) (by obtain ⟨q, rfl⟩ := hu; exact hD.drewN q) hin hO i j hi hj)
  have HD := hidden hD
  have HS := hidden hs
  obtain ⟨n, hnn⟩ : ∃ n, n = D.length := ⟨_, rfl⟩
  have Hn := hidden hnn
  rw [← hnn] at hb hn ⊢
  clear hE hD hin hs hnn
  have e1 : (m : Int) - (a : Int) = 1 := by omega
  have Ham := hidden ham
  have ham1 : a < m := by omega
  have ham2 : m ≤ a + 1 := by omega
  clear ham
  go_enter Try.func38, Try.ntmps38
  go_wp2
  go_loopw [10, 11] (fun iv jv wr => ∃ i j : Nat, iv = .int .i64 (i : Int) ∧ jv = .int .i64 (j : Int) ∧ m ≤ i ∧ i ≤ j ∧ j ≤ b ∧ Hid (m < i → key O (D.getD (i - 1) 0) < key O (D.getD a 0)) ∧ Hid (j < b → key O (D.getD a 0) ≤ key O (D.getD j 0)) ∧ Hid (∃ q, wr = w.drewN q)) (fun iv jv _ => (intOf jv - intOf iv).toNat)
  case atStart => exact ⟨m, b, rfl, rfl, by omega, by omega, by omega, (fun h => by omega), (fun h => by omega), 0, rfl⟩
  case round =>
    obtain ⟨i, j, rfl, rfl, h1, h2, h3, HL, HR, HW⟩ := hrel
    by_cases hij : i < j
    · have hij' : (i : Int) < (j : Int) := by omega
      obtain ⟨h, hh⟩ : ∃ h, h = (i + j) / 2 := ⟨_, rfl⟩
      have hh1 : i ≤ h := by omega
      have hh2 : h < j := by omega
      obtain ⟨x, y, cv, c1, c2, hcv, HCC⟩ := HC.out wr HW.out h a (by have := Hn.out; omega) (by have := Hn.out; omega)
      have HCC := hidden HCC
      have Hcv := hidden hcv
      have eh : ((i : Int) + (j : Int)) / 2 = (h : Int) := by omega
      have hl1 : (h : Int) < (n : Int) := by omega
      have hl2 : (a : Int) < (n : Int) := by omega
      clear hcv hh
      by_cases hc : cv < 0
      · have hk := hidden (Hcv.out.1 hc)
        go_wp2
        go_quiet ((go_at_call 30; exact Calls.quiet_of (HCC.out _)))
        go_wp2
        all_goals try (exfalso; first | omega | (rename_i hz; simp at hz; omega))
        first
          | (go_roundw
             case rel => exact ⟨h + 1, j, by go_num, rfl, by omega, by omega, by omega, (fun _ => by rw [Nat.add_sub_cancel]; exact hk.out), HR, (by obtain ⟨q, rfl⟩ := HW.out; exact ⟨_, World.drewN_drewN _ _ _⟩)⟩
             case measure => simp [intOf]; omega)
          | exact ⟨⟨h + 1, j, by go_num, rfl, by omega, by omega, by omega, (fun _ => by rw [Nat.add_sub_cancel]; exact hk.out), HR, (by obtain ⟨q, rfl⟩ := HW.out; exact ⟨_, World.drewN_drewN _ _ _⟩)⟩, by simp [intOf]; omega⟩
      · have hk := hidden (Int.not_lt.1 (fun z => hc (Hcv.out.2 z)))
        have hc' : (0 : Int) ≤ cv := by omega
        have hnb : (!decide (cv < 0)) = true := by simp; omega
        have hnc : decide (cv < 0) = false := by simp; omega
        go_wp2
        go_quiet ((go_at_call 30; exact Calls.quiet_of (HCC.out _)))
        go_wp2
        all_goals try (exfalso; first | omega | (rename_i hz; simp at hz; omega))
        first
          | (go_roundw
             case rel => exact ⟨i, h, rfl, rfl, by omega, by omega, by omega, HL, (fun _ => hk.out), (by obtain ⟨q, rfl⟩ := HW.out; exact ⟨_, World.drewN_drewN _ _ _⟩)⟩
             case measure => simp [intOf]; omega)
          | exact ⟨⟨i, h, rfl, rfl, by omega, by omega, by omega, HL, (fun _ => hk.out), (by obtain ⟨q, rfl⟩ := HW.out; exact ⟨_, World.drewN_drewN _ _ _⟩)⟩, by simp [intOf]; omega⟩
    · have hij' : ¬ (i : Int) < (j : Int) := by omega
      have hij2 : i = j := by omega
      subst hij2
      have ei : (i : Int) - 1 = ((i - 1 : Nat) : Int) := by omega
      obtain ⟨T, hT⟩ : ∃ T, T = i - 1 := ⟨_, rfl⟩
      rw [← hT] at ei
      have hT1 : a ≤ T := by omega
      have hT2 : T + 1 ≤ b := by omega
      have HT := hidden hT
      have HD' := hidden (show Row wr g D ∧ Step (fun k => k = g) w wr by obtain ⟨q, rfl⟩ := HW.out; exact ⟨HD.out.drewN q, (Step.refl _ _).drewN q⟩)
      have hli := hidden (And.intro h1 h3)
      clear hT h1 h2 h3 hij
      go_wp2
      go_loopw [13] (fun kv wx => ∃ k : Nat, kv = .int .i64 (k : Int) ∧ a ≤ k ∧ k ≤ T ∧ Hid (∃ D', List.Perm D' D ∧ (∀ p, p < D.length → D'.getD p 0 = D.getD (upI a k p) 0) ∧ Row wx g D' ∧ Step (fun k => k = g) w wx)) (fun kv _ => T - (intOf kv).toNat)
      case atStart => exact ⟨a, rfl, by omega, by omega, D, List.Perm.refl _, (fun p hp => by unfold upI; rw [if_neg (by omega)]; by_cases e : p = a <;> simp [e]), HD'.out.1, HD'.out.2⟩
      case round =>
        obtain ⟨k, rfl, k1, k2, hrest⟩ := hrel
        by_cases hkT : k < T
        · have hkT' : (k : Int) < (T : Int) := by omega
          obtain ⟨D', m1, m2, m3, m4⟩ := hrest.out
          have hl' : D'.length = n := by rw [m1.length_eq]; exact Hn.out.symm
          obtain ⟨cx, fx⟩ := m3 k (by omega)
          obtain ⟨cy, fy⟩ := m3 (k + 1) (by omega)
          have HFIN := hidden (show ∃ D'', List.Perm D'' D ∧ (∀ p, p < D.length → D''.getD p 0 = D.getD (upI a (k + 1) p) 0) ∧ (∀ q, Row (((wr.drewN q).setCell ⟨g, k, none⟩ (.int .i64 (D'.getD (k + 1) 0))).setCell ⟨g, k + 1, none⟩ (.int .i64 (D'.getD k 0))) g D'') from
            ⟨swp D' k (k + 1), (swp_perm D' _ _ (by omega) (by omega)).trans m1, up_next k1 (by have := Hn.out; omega) (by rw [hl', Hn.out]) m2, fun q => row_swp m3 _ _ (by omega) (by omega) q⟩)
          have HST := hidden m4
          have la : (k : Int) < (n : Int) := by omega
          have lb : (k : Int) + 1 < (n : Int) := by omega
          simp only at cx cy
          generalize D'.getD k 0 = xa at *
          generalize D'.getD (k + 1) 0 = xb at *
          clear hrest m1 m2 m3 m4 hl'
          go_wp2
          go_region
          all_goals
            go_wp2
            go_roundw
            case rel =>
              obtain ⟨D'', p1, p2, p3⟩ := HFIN.out
              exact ⟨k + 1, by go_num, by omega, by omega, D'', p1, p2, p3 _, ((HST.out.drewN _).setCell _ _ (.inl rfl)).setCell _ _ (.inl rfl)⟩
            case measure => simp [intOf]; omega
        · have hkT' : ¬ (k : Int) < (T : Int) := by omega
          have HFIN := hidden (show SymP O D g a b w wr by
            obtain ⟨D', m1, m2, m3, m4⟩ := hrest.out
            have e : k = i - 1 := by have := HT.out; omega
            subst e
            have h0 := Ham.out
            have hs' := HS.out
            rw [← h0] at hs' HL hli
            exact ⟨D', up_srt (by have := Hn.out; omega) (by rw [m1.length_eq]) m1 (by have := hli.out; omega) (by have := hli.out; omega) hs' HL.out HR.out m2, m3, m4⟩)
          clear hrest
          go_wp2
          (try simp only [Exit.inBlock, Exit.then])
          refine bodyPost_ret (results_none rfl _ _ _) rfl ?_
          exact ⟨⟨_, rfl⟩, HFIN.out⟩

set_option maxHeartbeats 2000000 in
theorem sym_right (O : List Int) (v : Value) (B g : Nat) (D : List Int) (a m b cap : Nat) (w : World) (hE : Env w B g v O) (hD : Row w g D) (hin : InO O D) (ham : a + 1 < m) (hmb : m + 1 = b) (hb : b ≤ D.length) (hs : Sr O D a m) (hn : D.length ≤ 100000) (hO : O.length ≤ 100000) :
    Calls Try.prog 38 #[.slice (some ⟨g, 0, none⟩) D.length cap, .int .i64 (a : Int), .int .i64 (m : Int), .int .i64 (b : Int), cmpV B] w
      fun e w' => (∃ u, e = .returned u) ∧ SymP O D g a b w w' := by
  have HC := hidden (fun (u : World) (hu : ∃ q, u = w.drewN q) i j (hi : i < D.length) (hj : j < D.length) => cmp_at (w := u) (by obtain ⟨q, rfl⟩ := hu; exact hE.drewN q) (by obtain ⟨q, rfl⟩ := hu; exact hD.drewN q) hin hO i j hi hj)
  have HD := hidden hD
  have HS := hidden hs
  obtain ⟨n, hnn⟩ : ∃ n, n = D.length := ⟨_, rfl⟩
  have Hn := hidden hnn
  rw [← hnn] at hb hn ⊢
  clear hE hD hin hs hnn
  have e1 : ((m : Int) - (a : Int) == 1) = false := by simp; omega
  have e1' : ¬ ((m : Int) - (a : Int) = 1) := by omega
  have e2 : (b : Int) - (m : Int) = 1 := by omega
  have Ham := hidden hmb
  have ham1 : m < b := by omega
  have ham2 : b ≤ m + 1 := by omega
  have ham3 : a < m := by omega
  clear hmb ham
  go_enter Try.func38, Try.ntmps38
  go_wp2
  go_loopw [14, 15] (fun iv jv wr => ∃ i j : Nat, iv = .int .i64 (i : Int) ∧ jv = .int .i64 (j : Int) ∧ a ≤ i ∧ i ≤ j ∧ j ≤ m ∧ Hid (a < i → key O (D.getD (i - 1) 0) ≤ key O (D.getD m 0)) ∧ Hid (j < m → key O (D.getD m 0) < key O (D.getD j 0)) ∧ Hid (∃ q, wr = w.drewN q)) (fun iv jv _ => (intOf jv - intOf iv).toNat)
  case atStart => exact ⟨a, m, rfl, rfl, by omega, by omega, by omega, (fun h => by omega), (fun h => by omega), 0, rfl⟩
  case round =>
    obtain ⟨i, j, rfl, rfl, h1, h2, h3, HL, HR, HW⟩ := hrel
    by_cases hij : i < j
    · have hij' : (i : Int) < (j : Int) := by omega
      obtain ⟨h, hh⟩ : ∃ h, h = (i + j) / 2 := ⟨_, rfl⟩
      have hh1 : i ≤ h := by omega
      have hh2 : h < j := by omega
      obtain ⟨x, y, cv, c1, c2, hcv, HCC⟩ := HC.out wr HW.out m h (by have := Hn.out; omega) (by have := Hn.out; omega)
      have HCC := hidden HCC
      have Hcv := hidden hcv
      have eh : ((i : Int) + (j : Int)) / 2 = (h : Int) := by omega
      have hl1 : (h : Int) < (n : Int) := by omega
      have hl2 : (m : Int) < (n : Int) := by omega
      clear hcv hh
      by_cases hc : cv < 0
      · have hk := hidden (Hcv.out.1 hc)
        go_wp2
        go_quiet ((go_at_call 30; exact Calls.quiet_of (HCC.out _)))
        go_wp2
        all_goals try (exfalso; first | omega | (rename_i hz; simp at hz; omega))
        first
          | (go_roundw
             case rel => exact ⟨i, h, rfl, rfl, by omega, by omega, by omega, HL, (fun _ => hk.out), (by obtain ⟨q, rfl⟩ := HW.out; exact ⟨_, World.drewN_drewN _ _ _⟩)⟩
             case measure => simp [intOf]; omega)
          | exact ⟨⟨i, h, rfl, rfl, by omega, by omega, by omega, HL, (fun _ => hk.out), (by obtain ⟨q, rfl⟩ := HW.out; exact ⟨_, World.drewN_drewN _ _ _⟩)⟩, by simp [intOf]; omega⟩
      · have hk := hidden (Int.not_lt.1 (fun z => hc (Hcv.out.2 z)))
        have hc' : (0 : Int) ≤ cv := by omega
        have hnb : (!decide (cv < 0)) = true := by simp; omega
        have hnc : decide (cv < 0) = false := by simp; omega
        go_wp2
        go_quiet ((go_at_call 30; exact Calls.quiet_of (HCC.out _)))
        go_wp2
        all_goals try (exfalso; first | omega | (rename_i hz; simp at hz; omega))
        first
          | (go_roundw
             case rel => exact ⟨h + 1, j, by go_num, rfl, by omega, by omega, by omega, (fun _ => by rw [Nat.add_sub_cancel]; exact hk.out), HR, (by obtain ⟨q, rfl⟩ := HW.out; exact ⟨_, World.drewN_drewN _ _ _⟩)⟩
             case measure => simp [intOf]; omega)
          | exact ⟨⟨h + 1, j, by go_num, rfl, by omega, by omega, by omega, (fun _ => by rw [Nat.add_sub_cancel]; exact hk.out), HR, (by obtain ⟨q, rfl⟩ := HW.out; exact ⟨_, World.drewN_drewN _ _ _⟩)⟩, by simp [intOf]; omega⟩
    · have hij' : ¬ (i : Int) < (j : Int) := by omega
      have hij2 : i = j := by omega
      subst hij2
      have HD' := hidden (show Row wr g D ∧ Step (fun k => k = g) w wr by obtain ⟨q, rfl⟩ := HW.out; exact ⟨HD.out.drewN q, (Step.refl _ _).drewN q⟩)
      have hli := hidden (And.intro h1 h3)
      have hi0 : i ≤ m := by omega
      clear h2 h3 hij
      go_wp2
      go_loopw [17] (fun kv wx => ∃ k : Nat, kv = .int .i64 (k : Int) ∧ i ≤ k ∧ k ≤ m ∧ Hid (∃ D', List.Perm D' D ∧ (∀ p, p < D.length → D'.getD p 0 = D.getD (dnI m k p) 0) ∧ Row wx g D' ∧ Step (fun k => k = g) w wx)) (fun kv _ => (intOf kv).toNat)
      case atStart => exact ⟨m, rfl, by omega, by omega, D, List.Perm.refl _, (fun p hp => by unfold dnI; rw [if_neg (by omega)]; by_cases e : p = m <;> simp [e]), HD'.out.1, HD'.out.2⟩
      case round =>
        obtain ⟨k, rfl, k1, k2, hrest⟩ := hrel
        by_cases hkT : i < k
        · have hkT' : (i : Int) < (k : Int) := by omega
          obtain ⟨D', m1, m2, m3, m4⟩ := hrest.out
          have hl' : D'.length = n := by rw [m1.length_eq]; exact Hn.out.symm
          obtain ⟨cx, fx⟩ := m3 k (by omega)
          obtain ⟨cy, fy⟩ := m3 (k - 1) (by omega)
          have HFIN := hidden (show ∃ D'', List.Perm D'' D ∧ (∀ p, p < D.length → D''.getD p 0 = D.getD (dnI m (k - 1) p) 0) ∧ (∀ q, Row (((wr.drewN q).setCell ⟨g, k, none⟩ (.int .i64 (D'.getD (k - 1) 0))).setCell ⟨g, k - 1, none⟩ (.int .i64 (D'.getD k 0))) g D'') from
            ⟨swp D' k (k - 1), (swp_perm D' _ _ (by omega) (by omega)).trans m1, dn_next k2 (by omega) (by have := Hn.out; omega) (by rw [hl', Hn.out]) m2, fun q => row_swp m3 _ _ (by omega) (by omega) q⟩)
          have HST := hidden m4
          have la : (k : Int) < (n : Int) := by omega
          obtain ⟨K, hK⟩ : ∃ K, K = k - 1 := ⟨_, rfl⟩
          rw [← hK] at HFIN cy fy
          have lb : (K : Int) < (n : Int) := by omega
          have ek : (k : Int) - 1 = (K : Int) := by omega
          have hne : k ≠ K := by omega
          have hne' : K ≠ k := by omega
          have HKK := hidden hK
          have hK1 : K < k := by omega
          have hK2 : i ≤ K := by omega
          simp only at cx cy
          generalize D'.getD k 0 = xa at *
          generalize D'.getD K 0 = xb at *
          clear hrest m1 m2 m3 m4 hl' hK
          go_wp2
          go_region
          all_goals
            go_wp2
            go_roundw
            case rel =>
              obtain ⟨D'', p1, p2, p3⟩ := HFIN.out
              exact ⟨K, rfl, by omega, by omega, D'', p1, p2, p3 _, ((HST.out.drewN _).setCell _ _ (.inl rfl)).setCell _ _ (.inl rfl)⟩
            case measure => simp [intOf]; omega
        · have hkT' : ¬ (i : Int) < (k : Int) := by omega
          have HFIN := hidden (show SymP O D g a b w wr by
            obtain ⟨D', m1, m2, m3, m4⟩ := hrest.out
            have e : k = i := by omega
            subst e
            have h0 := Ham.out
            rw [← h0]
            exact ⟨D', dn_srt (by have := Hn.out; omega) (by rw [m1.length_eq]) m1 (by have := hli.out; omega) (by have := hli.out; omega) HS.out HL.out HR.out m2, m3, m4⟩)
          clear hrest
          go_wp2
          (try simp only [Exit.inBlock, Exit.then])
          refine bodyPost_ret (results_none rfl _ _ _) rfl ?_
          exact ⟨⟨_, rfl⟩, HFIN.out⟩

end Go.Proofs.Ytkglackbbcfhbaa
