/-
  The insertion sort.
-/
import Derived.Test.YtkglackbbcfhbaaHCmp
import Derived.Test.YtkglackbbcfhbaaHSortN
namespace Go.Proofs.Ytkglackbbcfhbaa
open Go.RowKit
set_option maxRecDepth 100000

/-- The row in block g reads as D, and may be written. -/
abbrev Row (w : World) (g : Nat) (D : List Int) : Prop := Af w g D.length (fun k => D.getD k 0)

theorem cmpI_lt (x y : Int) : (cmpI x y < 0) ↔ x < y := by
  unfold cmpI
  by_cases h : x < y
  · simp [h]
  · by_cases h2 : y < x <;> simp [h, h2]

theorem row_swp {w : World} {g : Nat} {D : List Int} (h : Row w g D) (i j : Nat) (hi : i < D.length) (hj : j < D.length) (q : Nat) :
    Row ((((w.drewN q).setCell ⟨g, i, none⟩ (.int .i64 (D.getD j 0))).setCell ⟨g, j, none⟩ (.int .i64 (D.getD i 0)))) g (swp D i j) := by
  unfold Row
  rw [swp_length]
  refine (((h.drewN q).set i _).set j _).congr (fun k _ => ?_)
  rw [swp_getD D i j k hi hj]
  rfl

set_option maxHeartbeats 2000000 in
theorem ins_any (O : List Int) (v : Value) (B g : Nat) (D : List Int) (a b cap : Nat) (w : World) (hE : Env w B g v O) (hD : Row w g D) (hin : InO O D) (hab : a ≤ b) (hb : b ≤ D.length) (hn : D.length ≤ 100000) (hO : O.length ≤ 100000) :
    Calls Try.prog 37 #[.slice (some ⟨g, 0, none⟩) D.length cap, .int .i64 (a : Int), .int .i64 (b : Int), .func (.func 30) #[] #[.pointer (some ⟨B, 0, none⟩)]] w
      fun e w' => (∃ u, e = .returned u) ∧ ∃ D', Srt O D a b D' ∧ Row w' g D' ∧ Step (fun k => k = g) w w' := by
  have HE := hidden hE
  have HD := hidden hD
  have HI := hidden hin
  obtain ⟨n, hnn⟩ : ∃ n, n = D.length := ⟨_, rfl⟩
  have Hn := hidden hnn
  rw [← hnn] at hb hn ⊢
  clear hE hD hin hnn
  go_enter Try.func37, Try.ntmps37
  go_wp2
  go_loopw [8] (fun i wr => ∃ k : Nat, i = .int .i64 (k : Int) ∧ a < k ∧ k ≤ n + 1 ∧ Hid (∃ D', Mix D a b D' ∧ Sr O D' a k ∧ k ≤ max b (a + 1) ∧ Row wr g D' ∧ Step (fun k => k = g) w wr)) (fun i _ => n + 2 - (intOf i).toNat)
  case atStart => exact ⟨a + 1, by go_num, by omega, by omega, D, Mix.refl D a b, (fun p q h1 h2 h3 => by omega), by omega, HD.out, Step.refl _ _⟩
  case round =>
    obtain ⟨k, rfl, hak, hkn, hrest⟩ := hrel
    by_cases hlt : k < b
    · have hlt' : (k : Int) < (b : Int) := by omega
      have HM := hrest
      clear hrest
      go_wp2
      go_loopw [9] (fun jv wr => ∃ j : Nat, jv = .int .i64 (j : Int) ∧ a ≤ j ∧ j ≤ k ∧ Hid (∃ D', Mix D a b D' ∧ Sunk O D' a k j ∧ Row wr g D' ∧ Step (fun k => k = g) w wr)) (fun jv _ => (intOf jv).toNat)
      case atStart =>
        obtain ⟨D', h1, h2, _, h4, h5⟩ := HM.out
        exact ⟨k, rfl, by omega, by omega, D', h1, Sunk.start h2, h4, h5⟩
      case round =>
        obtain ⟨j, rfl, haj, hjk, hrest⟩ := hrel
        obtain ⟨D', m1, m2, m3, m4⟩ := hrest.out
        have hl' : D'.length = n := by rw [m1.perm.length_eq]; exact Hn.out.symm
        have HM1 := hidden m1
        have HM2 := hidden m2
        have HM3 := hidden m3
        have HM4 := hidden m4
        have HL' := hidden hl'
        clear m1 m2 m3 m4 hl' hrest HM
        by_cases hja : a < j
        · have hja' : (a : Int) < (j : Int) := by omega
          have hj1 : (j : Int) < (n : Int) := by omega
          have hE' := HE.out.step HM4.out
          obtain ⟨x, ex, hx⟩ := (HI.out.perm HM1.out.perm).at (k := j) (by have := HL'.out; omega)
          obtain ⟨y, ey, hy⟩ := (HI.out.perm HM1.out.perm).at (k := j - 1) (by have := HL'.out; omega)
          have cx := HM3.out j (by have := HL'.out; omega)
          have cy := HM3.out (j - 1) (by have := HL'.out; omega)
          have HEE := hidden hE'
          have HXY := hidden (And.intro ex ey)
          obtain ⟨cx, fx⟩ := cx
          obtain ⟨cy, fy⟩ := cy
          simp only [ex] at cx
          simp only [ey] at cy
          have HC := hidden (fun q => closure_any x y B g v O (wr.drewN q) (HEE.out.drewN q) hx hy hO)
          have ej : (j : Int) - 1 = ((j - 1 : Nat) : Int) := by omega
          clear ex ey hE' hx hy
          by_cases hlt2 : key O (D'.getD j 0) < key O (D'.getD (j - 1) 0)
          · have hcm : decide (cmpI (O.getD x 0) (O.getD y 0) < 0) = true := by
              rw [decide_eq_true_eq, cmpI_lt]
              have h := hlt2
              rw [HXY.out.1, HXY.out.2] at h
              simpa [key] using h
            have hcm : cmpI (O.getD x 0) (O.getD y 0) < 0 := by simpa using hcm
            generalize cmpI (O.getD x 0) (O.getD y 0) = cv at *
            go_wp2
            go_quiet ((go_at_call 30; exact Calls.quiet_of (HC.out _)))
            go_wp2
            go_region
            all_goals
              go_wp2
              go_roundw
              case rel =>
                refine ⟨j - 1, rfl, by omega, by omega, swp D' j (j - 1), HM1.out.trans (Mix.swp (by have := HL'.out; omega) (by have := HL'.out; omega) (by omega) (by omega)), HM2.out.next hja hjk (by have := HL'.out; omega) hlt2, ?_, ?_⟩
                · have := fun q => row_swp HM3.out j (j - 1) (by have := HL'.out; omega) (by have := HL'.out; omega) q
                  rw [HXY.out.1, HXY.out.2] at this
                  exact this _
                · exact ((HM4.out.drewN _).setCell _ _ (.inl rfl)).setCell _ _ (.inl rfl)
              case measure => simp [intOf]; omega
          · have hcm : 0 ≤ cmpI (O.getD x 0) (O.getD y 0) := by
              have h2 := cmpI_lt (O.getD x 0) (O.getD y 0)
              have h := hlt2
              rw [HXY.out.1, HXY.out.2] at h
              simp [key] at h
              simp only [List.getD] at *
              omega
            generalize cmpI (O.getD x 0) (O.getD y 0) = cv at *
            go_wp2
            go_quiet ((go_at_call 30; exact Calls.quiet_of (HC.out _)))
            go_wp2
            go_roundw
            case rel => exact ⟨k + 1, by go_num, by omega, by omega, D', HM1.out, HM2.out.stop' hja (by omega), by omega, HM3.out, HM4.out.drewN _⟩
            case measure => simp [intOf]; omega
        · have ej : j = a := by omega
          subst ej
          have hd : decide ((j : Int) < (j : Int)) = false := by simp
          go_wp2
          go_quiet (fail)
          go_wp2
          go_roundw
          case rel => exact ⟨k + 1, by go_num, by omega, by omega, D', HM1.out, HM2.out.stop, by omega, HM3.out, HM4.out.drewN _⟩
          case measure => simp [intOf]; omega
    · have hlt' : ¬ (k : Int) < (b : Int) := by omega
      go_wp2
      go_end0
      refine ⟨⟨_, rfl⟩, ?_⟩
      obtain ⟨D', h1, h2, h3, h4, h5⟩ := hrest.out
      refine ⟨D', ⟨h1.perm, h1.out, fun p q e1 e2 e3 => h2 p q e1 e2 (by omega)⟩, h4, h5⟩
end Go.Proofs.Ytkglackbbcfhbaa
