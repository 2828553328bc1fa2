/-
  Two stretches of a row change places.
-/
import Derived.Test.YtkglackbbcfhbaaHIns
namespace Go.Proofs.Ytkglackbbcfhbaa
open Go.RowKit
set_option maxRecDepth 100000
set_option linter.unusedVariables false

/-- What stands at k when the first t of two stretches have changed places. -/
def swr (D : List Int) (a b t k : Nat) : Int := if a ≤ k ∧ k < a + t then D.getD (b + (k - a)) 0 else if b ≤ k ∧ k < b + t then D.getD (a + (k - b)) 0 else D.getD k 0

theorem swr_next {D D' : List Int} {a b n t : Nat} (hd : a + n ≤ b ∨ b + n ≤ a) (ht : t < n) (hl : D'.length = D.length) (ha : a + n ≤ D.length) (hb : b + n ≤ D.length) (H : ∀ k, k < D.length → D'.getD k 0 = swr D a b t k) :
    ∀ k, k < D.length → (swp D' (a + t) (b + t)).getD k 0 = swr D a b (t + 1) k := by
  intro k hk
  rw [swp_getD D' _ _ k (by omega) (by omega)]
  have e1 := H (a + t) (by omega)
  have e2 := H (b + t) (by omega)
  have e3 := H k hk
  unfold swr at *
  by_cases k1 : k = b + t
  · subst k1
    rw [if_pos rfl, e1, if_neg (by omega), if_neg (by omega), if_neg (by omega), if_pos (by omega), show a + (b + t - b) = a + t by omega]
  · rw [if_neg k1]
    by_cases k2 : k = a + t
    · subst k2
      rw [if_pos rfl, e2, if_neg (by omega), if_neg (by omega), if_pos (by omega), show b + (a + t - a) = b + t by omega]
    · rw [if_neg k2, e3]
      by_cases i1 : a ≤ k ∧ k < a + t
      · rw [if_pos i1, if_pos (by omega)]
      · rw [if_neg i1, if_neg (show ¬ (a ≤ k ∧ k < a + (t + 1)) by omega)]
        by_cases i2 : b ≤ k ∧ k < b + t
        · rw [if_pos i2, if_pos (by omega)]
        · rw [if_neg i2, if_neg (by omega)]

set_option maxHeartbeats 2000000 in
theorem swapRange_any (g : Nat) (D : List Int) (a b n cap : Nat) (cv : Value) (w : World) (hD : Row w g D) (hd : a + n ≤ b ∨ b + n ≤ a) (ha : a + n ≤ D.length) (hb : b + n ≤ D.length) (hn : D.length ≤ 100000) :
    Calls Try.prog 40 #[.slice (some ⟨g, 0, none⟩) D.length cap, .int .i64 (a : Int), .int .i64 (b : Int), .int .i64 (n : Int), cv] w
      fun e w' => (∃ u, e = .returned u) ∧ ∃ D', List.Perm D' D ∧ (∀ k, k < D.length → D'.getD k 0 = swr D a b n k) ∧ Row w' g D' ∧ Step (fun k => k = g) w w' := by
  have HD := hidden hD
  obtain ⟨N, hnn⟩ : ∃ N, N = D.length := ⟨_, rfl⟩
  have Hn := hidden hnn
  rw [← hnn] at ha hb hn ⊢
  clear hD hnn
  go_enter Try.func40, Try.ntmps40
  go_wp2
  go_loopw [10] (fun i wr => ∃ t : Nat, i = .int .i64 (t : Int) ∧ t ≤ n ∧ Hid (∃ D', List.Perm D' D ∧ (∀ k, k < D.length → D'.getD k 0 = swr D a b t k) ∧ Row wr g D' ∧ Step (fun k => k = g) w wr)) (fun i _ => n - (intOf i).toNat)
  case atStart => exact ⟨0, rfl, Nat.zero_le _, D, List.Perm.refl _, (fun k hk => by unfold swr; rw [if_neg (by omega), if_neg (by omega)]), HD.out, Step.refl _ _⟩
  case round =>
    obtain ⟨t, rfl, htn, hrest⟩ := hrel
    by_cases hlt : t < n
    · obtain ⟨D', m1, m2, m3, m4⟩ := hrest.out
      have hl' : D'.length = N := by rw [m1.length_eq]; exact Hn.out.symm
      have cx := m3 (a + t) (by omega)
      have cy := m3 (b + t) (by omega)
      obtain ⟨cx, fx⟩ := cx
      obtain ⟨cy, fy⟩ := cy
      have HFIN := hidden (show ∃ D'', List.Perm D'' D ∧ (∀ k, k < D.length → D''.getD k 0 = swr D a b (t + 1) k) ∧ (∀ q, Row (((wr.drewN q).setCell ⟨g, a + t, none⟩ (.int .i64 (D'.getD (b + t) 0))).setCell ⟨g, b + t, none⟩ (.int .i64 (D'.getD (a + t) 0))) g D'') from
        ⟨swp D' (a + t) (b + t), (swp_perm D' _ _ (by omega) (by omega)).trans m1, swr_next hd hlt (by rw [hl', Hn.out]) (by rw [← Hn.out]; exact ha) (by rw [← Hn.out]; exact hb) m2, fun q => row_swp m3 _ _ (by omega) (by omega) q⟩)
      have HST := hidden m4
      have t1 : (t : Int) < (n : Int) := by omega
      obtain ⟨A, hA⟩ : ∃ A, A = a + t := ⟨_, rfl⟩
      obtain ⟨B, hB⟩ : ∃ B, B = b + t := ⟨_, rfl⟩
      rw [← hA, ← hB] at HFIN
      rw [← hA] at cx fx
      rw [← hB] at cy fy
      have ea : (a : Int) + (t : Int) = (A : Int) := by omega
      have eb : (b : Int) + (t : Int) = (B : Int) := by omega
      have la : (A : Int) < (N : Int) := by omega
      have lb : (B : Int) < (N : Int) := by omega
      have hab : A ≠ B := by omega
      have hab' : B ≠ A := by omega
      simp only at cx cy
      generalize D'.getD A 0 = xa at *
      generalize D'.getD B 0 = xb at *
      clear hrest m1 m2 m3 m4 hl' hA hB
      go_wp2
      go_region
      all_goals
        go_wp2
        go_roundw
        case rel =>
          obtain ⟨D'', p1, p2, p3⟩ := HFIN.out
          exact ⟨t + 1, by go_num, by omega, D'', p1, p2, p3 _, ((HST.out.drewN _).setCell _ _ (.inl rfl)).setCell _ _ (.inl rfl)⟩
        case measure => simp [intOf]; omega
    · have hbad : ¬ (t : Int) < (n : Int) := by omega
      obtain ⟨D', m1, m2, m3, m4⟩ := hrest.out
      have e : t = n := by omega
      subst e
      have HFIN := hidden (show ∃ D', List.Perm D' D ∧ (∀ k, k < D.length → D'.getD k 0 = swr D a b t k) ∧ Row wr g D' ∧ Step (fun k => k = g) w wr from ⟨D', m1, m2, m3, m4⟩)
      clear hrest m1 m2 m3 m4
      go_wp2
      go_end0
      refine ⟨⟨_, rfl⟩, ?_⟩
      obtain ⟨D', m1, m2, m3, m4⟩ := HFIN.out
      exact ⟨D', m1, fun k hk => by simpa [List.getD] using m2 k (by rw [← Hn.out]; exact hk), m3, m4⟩

end Go.Proofs.Ytkglackbbcfhbaa
