/-
  Two rows of bytes compared.
-/
import Derived.Test.YthomkgajilmphaaDoorRow
namespace Go.Proofs.YthomkgajilmphaaDoor
open Go.RowKit

set_option maxHeartbeats 1000000 in
theorem same_any (va vb : Value) (A B : List Nat) (w : World) (ha : Rd w va A) (hb : Rd w vb B) (hA : A.length ≤ 137438953600) :
    Calls Tryd.prog 20 #[va, vb] w fun e w' => e = .returned (.bool (decide (A = B))) ∧ ∃ n, w' = w.drewN n := by
  obtain ⟨ao, ca, rfl, a1, a2⟩ := ha
  obtain ⟨bo, cb, rfl, b1, b2⟩ := hb
  by_cases hl : A.length = B.length
  · obtain ⟨n, hn⟩ : ∃ n, n = A.length := ⟨_, rfl⟩
    have hn2 : n ≤ 137438953600 := by omega
    rw [← hl, ← hn]
    have Hn := hidden hn
    have Hl := hidden hl
    have a2' := hidden a2
    have b2' := hidden b2
    have a1' := hidden a1
    have b1' := hidden b1
    clear a1 a2 b1 b2 hl hn hA
    go_enter Tryd.func20, Tryd.ntmps20
    go_wp2
    go_loopw [5] (fun i wr => ∃ k : Nat, k ≤ n ∧ i = .int .i64 k ∧ (∃ nq, wr = w.drewN nq) ∧ Hid (∀ j, j < k → A.getD j 0 = B.getD j 0)) (fun i _ => n - (intOf i).toNat)
    case atStart => exact ⟨0, Nat.zero_le _, rfl, ⟨0, rfl⟩, fun j hj => by omega⟩
    case round =>
      obtain ⟨k, hk, rfl, ⟨nq, rfl⟩, hpre⟩ := hrel
      by_cases hlt : k < n
      · have hne : A ≠ [] := by intro e; have := Hn.out; subst e; simp at this; omega
        have hne' : B ≠ [] := by intro e; have := Hn.out; have := Hl.out; subst e; simp_all
        cases ao with
        | none => exact absurd (a1'.out rfl).1 hne
        | some a =>
          cases bo with
          | none => exact absurd (b1'.out rfl).1 hne'
          | some b =>
            obtain ⟨ba, oa, rfl, ka⟩ := a2'.out a rfl hne
            obtain ⟨bb, ob, rfl, kb⟩ := b2'.out b rfl hne'
            have ca' := ka k (by have := Hn.out; omega)
            have cb' := kb k (by have := Hn.out; have := Hl.out; omega)
            clear ka kb
            generalize hx : A.getD k 0 = x at *
            generalize hy : B.getD k 0 = y at *
            have Hx := hidden hx
            have Hy := hidden hy
            have k0 : (0 : Int) ≤ (k : Int) := by omega
            have k1 : (k : Int) < (n : Int) := by omega
            clear hx hy hne hne'
            by_cases hxy : x = y
            · have hd : ((x : Int) != (y : Int)) = false := by simp [hxy]
              go_wp2
              go_quiet (fail)
              go_wp2
              go_roundw
              case rel =>
                refine ⟨k + 1, by omega, by go_num, ⟨_, rfl⟩, fun j hj => ?_⟩
                by_cases e : j = k
                · rw [e, Hx.out, Hy.out, hxy]
                · exact hpre.out j (by omega)
              case measure => simp [intOf]; omega
            · have hd : ((x : Int) != (y : Int)) = true := by rw [bne_iff_ne]; omega
              have hfin := hidden (show decide (A = B) = false by
                rw [decide_eq_false_iff_not]
                intro e
                exact hxy (by rw [← Hx.out, ← Hy.out, e]))
              go_wp2
              go_quiet (fail)
              go_wp2
              go_ret
              exact ⟨by rw [hfin.out]; rfl, _, World.drewN_drewN _ _ _⟩
      · have hfin := hidden (show decide (A = B) = true by
          rw [decide_eq_true_eq]
          exact eq_of_getD Hl.out (fun j hj => hpre.out j (by have := Hn.out; omega)))
        go_wp2
        go_ret
        exact ⟨by rw [hfin.out]; rfl, _, rfl⟩
  · have hfin := hidden (show decide (A = B) = false by
      rw [decide_eq_false_iff_not]
      exact fun e => hl (by rw [e]))
    have hl' : ((A.length : Int) != (B.length : Int)) = true := by rw [bne_iff_ne]; omega
    clear hl
    go_enter Tryd.func20, Tryd.ntmps20
    go_wp2
    go_ret
    exact ⟨by rw [hfin.out]; rfl, 0, rfl⟩

end Go.Proofs.YthomkgajilmphaaDoor
