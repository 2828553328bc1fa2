/-
  A stretch of a row turned about.
-/
import Derived.Test.YtkglackbbcfhbaaHRotN
namespace Go.Proofs.Ytkglackbbcfhbaa
open Go.RowKit
set_option maxRecDepth 100000
set_option linter.unusedVariables false

/-- What a turn leaves. -/
def RotP (D : List Int) (g a m b : Nat) (w w' : World) : Prop := ∃ D', List.Perm D' D ∧ (∀ k, k < D.length → D'.getD k 0 = D.getD (rotI a m b k) 0) ∧ Row w' g D' ∧ Step (fun k => k = g) w w'
/-- While it turns. -/
def RotQ (D : List Int) (g a m b i j : Nat) (w w' : World) : Prop := ∃ D', List.Perm D' D ∧ (∀ k, k < D.length → D'.getD (rotI (m - i) m (m + j) k) 0 = D.getD (rotI a m b k) 0) ∧ Row w' g D' ∧ Step (fun k => k = g) w w'
/-- What the change of places leaves. -/
def SwpP (D : List Int) (g a b n : Nat) (w w' : World) : Prop := ∃ D', List.Perm D' D ∧ (∀ k, k < D.length → D'.getD k 0 = swr D a b n k) ∧ Row w' g D' ∧ Step (fun k => k = g) w w'

theorem swap_q {D D' : List Int} {g a b n : Nat} {w u u' : World} (hp : List.Perm D' D) (hs : Step (fun k => k = g) w u) (h : SwpP D' g a b n u u') (hn : D'.length = D.length) : ∃ D'', List.Perm D'' D ∧ (∀ k, k < D.length → D''.getD k 0 = D'.getD (swI a b n k) 0) ∧ Row u' g D'' ∧ Step (fun k => k = g) w u' := by
  obtain ⟨D'', h1, h2, h3, h4⟩ := h
  exact ⟨D'', h1.trans hp, fun k hk => by rw [h2 k (by omega), swr_idx], h3, hs.trans h4 (fun i hi => .inl hi)⟩

set_option maxHeartbeats 600000 in
theorem rotate_any (g : Nat) (D : List Int) (a m b cap : Nat) (cv : Value) (w : World) (hD : Row w g D) (ham : a < m) (hmb : m < b) (hb : b ≤ D.length) (hn : D.length ≤ 100000) :
    Calls Try.prog 39 #[.slice (some ⟨g, 0, none⟩) D.length cap, .int .i64 (a : Int), .int .i64 (m : Int), .int .i64 (b : Int), cv] w
      fun e w' => (∃ u, e = .returned u) ∧ RotP D g a m b w w' := by
  have HD := hidden hD
  obtain ⟨N, hnn⟩ : ∃ N, N = D.length := ⟨_, rfl⟩
  have Hn := hidden hnn
  rw [← hnn] at hb hn ⊢
  clear hD hnn
  obtain ⟨i0, hi0⟩ : ∃ i0, i0 = m - a := ⟨_, rfl⟩
  obtain ⟨j0, hj0⟩ : ∃ j0, j0 = b - m := ⟨_, rfl⟩
  have ei : (m : Int) - (a : Int) = (i0 : Int) := by omega
  have ej : (b : Int) - (m : Int) = (j0 : Int) := by omega
  have HI0 := hidden (show m - i0 = a ∧ m + j0 = b by omega)
  have hi2 : i0 + a ≤ m := by omega
  have hj2 : j0 + m ≤ b := by omega
  have hi3 : 0 < i0 := by omega
  have hj3 : 0 < j0 := by omega
  clear hi0 hj0
  go_enter Try.func39, Try.ntmps39
  go_wp2
  go_loopw [10, 11] (fun iv jv wr => ∃ i j : Nat, iv = .int .i64 (i : Int) ∧ jv = .int .i64 (j : Int) ∧ 0 < i ∧ 0 < j ∧ i ≤ i0 ∧ j ≤ j0 ∧ Hid (RotQ D g a m b i j w wr)) (fun iv jv _ => (intOf iv + intOf jv).toNat)
  case atStart => exact ⟨i0, j0, rfl, rfl, by omega, by omega, by omega, by omega, D, List.Perm.refl _, (fun k hk => by rw [HI0.out.1, HI0.out.2]), HD.out, Step.refl _ _⟩
  case round =>
    obtain ⟨i, j, rfl, rfl, hi0', hj0', hi1, hj1, hrest⟩ := hrel
    obtain ⟨D', m1, m2, m3, m4⟩ := hrest.out
    have hl' : D'.length = N := by rw [m1.length_eq]; exact Hn.out.symm
    have hll : D'.length = D.length := m1.length_eq
    obtain ⟨P, hP⟩ : ∃ P, P = m - i := ⟨_, rfl⟩
    have eP : (m : Int) - (i : Int) = (P : Int) := by omega
    have HP := hidden hP
    have hP2 : P + i = m := by omega
    clear hP
    have HM := hidden (And.intro m1 (And.intro m2 (And.intro m4 hll)))
    by_cases hne : i = j
    · subst hne
      have hbb : ((i : Int) != (i : Int)) = false := by simp
      have HSW := hidden (show Calls Try.prog _ _ _ (fun e w' => (∃ u, e = .returned u) ∧ SwpP D' g P m i wr w') from swapRange_any g D' P m i cap cv wr m3 (by omega) (by omega) (by omega) (by omega))
      rw [hl'] at HSW
      clear m1 m2 m3 m4 hrest hll hl'
      go_wp2_with fail
      refine HSW.out.mono ?_
      rintro e w2 ⟨⟨u, rfl⟩, hs⟩
      have HF := hidden (show RotP D g a m b w w2 by
        obtain ⟨D'', p1, p2, p3, p4⟩ := swap_q HM.out.1 (HM.out.2.2.1) hs HM.out.2.2.2
        exact ⟨D'', p1, fun k hk => by rw [p2 k hk, HP.out, rot_same (by omega) (by omega)]; exact HM.out.2.1 k hk, p3, p4⟩)
      clear hs
      go_wp2
      go_end0
      exact ⟨⟨_, rfl⟩, HF.out⟩
    · have hbb : ((i : Int) != (j : Int)) = true := by rw [bne_iff_ne]; omega
      by_cases hgt : j < i
      · have hg : (j : Int) < (i : Int) := by omega
        have HSW := hidden (show Calls Try.prog _ _ _ (fun e w' => (∃ u, e = .returned u) ∧ SwpP D' g P m j wr w') from swapRange_any g D' P m j cap cv wr m3 (by omega) (by omega) (by omega) (by omega))
        rw [hl'] at HSW
        clear m1 m2 m3 m4 hrest hll hl'
        go_wp2_with fail
        refine HSW.out.mono ?_
        rintro e w2 ⟨⟨u, rfl⟩, hs⟩
        have HF := hidden (show RotQ D g a m b (i - j) j w w2 by
          obtain ⟨D'', p1, p2, p3, p4⟩ := swap_q HM.out.1 (HM.out.2.2.1) hs HM.out.2.2.2
          exact ⟨D'', p1, fun k hk => by rw [p2 _ (rotI_lt (by omega) (by omega) (by have := Hn.out; omega) hk), HP.out, rot_big hgt (by omega) hj0']; exact HM.out.2.1 k hk, p3, p4⟩)
        clear hs
        go_wp2
        go_roundw
        case rel => exact ⟨i - j, j, by go_num, rfl, by omega, by omega, by omega, by omega, HF.out⟩
        case measure => simp [intOf]; omega
      · have hg : ¬ (j : Int) < (i : Int) := by omega
        obtain ⟨R, hR⟩ : ∃ R, R = m + j - i := ⟨_, rfl⟩
        have eR : (m : Int) + (j : Int) - (i : Int) = (R : Int) := by omega
        have HR := hidden hR
        have hR2 : R + i = m + j := by omega
        clear hR
        have HSW := hidden (show Calls Try.prog _ _ _ (fun e w' => (∃ u, e = .returned u) ∧ SwpP D' g P R i wr w') from swapRange_any g D' P R i cap cv wr m3 (by omega) (by omega) (by omega) (by omega))
        rw [hl'] at HSW
        clear m1 m2 m3 m4 hrest hll hl'
        go_wp2_with fail
        refine HSW.out.mono ?_
        rintro e w2 ⟨⟨u, rfl⟩, hs⟩
        have HF := hidden (show RotQ D g a m b i (j - i) w w2 by
          obtain ⟨D'', p1, p2, p3, p4⟩ := swap_q HM.out.1 (HM.out.2.2.1) hs HM.out.2.2.2
          exact ⟨D'', p1, fun k hk => by rw [p2 _ (rotI_lt (by omega) (by omega) (by have := Hn.out; omega) hk), HP.out, HR.out, rot_small (by omega) (by omega) hi0']; exact HM.out.2.1 k hk, p3, p4⟩)
        clear hs
        go_wp2
        go_roundw
        case rel => exact ⟨i, j - i, rfl, by go_num, by omega, by omega, by omega, by omega, HF.out⟩
        case measure => simp [intOf]; omega

end Go.Proofs.Ytkglackbbcfhbaa
