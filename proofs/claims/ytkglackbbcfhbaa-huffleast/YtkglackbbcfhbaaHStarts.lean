/-
  starts: of each length its first code.
-/
import Derived.Test.YtkglackbbcfhbaaHStartN
namespace Go.Proofs.Ytkglackbbcfhbaa
open Go.RowKit
set_option maxRecDepth 100000

set_option maxHeartbeats 1000000 in
theorem starts_any (f : Nat → Int) (w : World) (h0 : ∀ k, 0 ≤ f k) (h1 : ∀ k, f k ≤ 320) :
    Calls Try.prog 26 #[.agg (A16 f)] w fun e w' => e = .returned (.agg (A16 (stf f))) ∧ Step (fun _ => False) w w' := by
  have H0 := hidden h0
  have H1 := hidden h1
  clear h0 h1
  go_enter Try.func26, Try.ntmps26
  go_wp2_with (refine box16 f rfl ?_)
  intro w1 hs1 hz1 ha1
  go_wp2_with (refine alloc16 ?_)
  intro w2 hs2 hz2 ha2
  go_wp2_with (refine alloc16 ?_)
  intro w3 hs3 hz3 ha3
  have HR := hidden (And.intro ((hs1.made hs2).made hs3) (And.intro ((ha1.made hs2).made hs3) (And.intro (ha2.made hs3) ha3)))
  clear hs1 ha1 hs2 ha2 hs3 ha3
  go_wp2
  go_loopw [4] (fun i wr => ∃ k : Nat, k ≤ 15 ∧ i = .int .i64 (k + 1 : Nat) ∧ Hid (Step (fun _ => False) w wr ∧ Af wr w.heap.size 16 f ∧ Af wr w1.heap.size 16 (fun _ => 0) ∧ Af wr w2.heap.size 16 (fun j => if j ≤ k then stf f j else 0))) (fun i _ => 17 - (intOf i).toNat)
  case atStart => exact ⟨0, by omega, rfl, HR.out.1, HR.out.2.1, HR.out.2.2.1, HR.out.2.2.2.congr (fun j _ => by by_cases e : j ≤ 0; (have : j = 0 := by omega); subst this; rfl; simp [e])⟩
  case round =>
    obtain ⟨k, hk, rfl, hrest⟩ := hrel
    obtain ⟨hst, hA, hA0, hF⟩ := hrest.out
    have HS := hidden hst
    have HA := hidden hA
    have HA0 := hidden hA0
    have HF := hidden hF
    clear hst hA hA0 hF hrest
    by_cases hlt : k < 15
    · have c1 := (HF.out k (by omega)).1
      have c2 := (HA.out k (by omega)).1
      have c3 := HF.out (k + 1) (by omega)
      simp only [Nat.le_refl, if_true] at c1
      obtain ⟨c3, c4⟩ := c3
      have b0 := stf_bd' f H0.out H1.out k (by omega)
      have b1 := H0.out k
      have b2 := H1.out k
      have e1 : ((k + 1 : Nat) : Int) = (k : Int) + 1 := by omega
      have HE := hidden (show (stf f k + f k) * 2 = stf f (k + 1) from rfl)
      rw [e1]
      clear e1
      have k1 : (k : Int) + 1 ≤ 15 := by omega
      have k0 : (0 : Int) ≤ (k : Int) := by omega
      go_wp2
      go_region
      go_wp2
      go_roundw
      case rel =>
        refine ⟨k + 1, by omega, by go_num, ?_⟩
        refine ⟨(HS.out.drewN _).setCell _ _ (.inr (by show w.heap.size ≤ w2.heap.size; omega)), HA.out.far _ _ (by show w2.heap.size ≠ w.heap.size; omega), HA0.out.far _ _ (by show w2.heap.size ≠ w1.heap.size; omega), ?_⟩
        refine Af.congr (HF.out.set (k + 1) _) (fun j _ => ?_)
        unfold upd
        by_cases e : j = k + 1
        · subst e; simp [HE.out]
        · by_cases e2 : j ≤ k
          · simp [e, e2, show j ≤ k + 1 by omega]
          · simp [e, e2, show ¬ j ≤ k + 1 by omega]
      case measure => simp [intOf]; omega
    · have e : k = 15 := by omega
      subst e
      go_wp2_with (first | (refine load16 w2.heap.size (stf f) rfl (HF.out.congr (fun j hj => by simp [show j ≤ 15 by omega])) ?_) | (refine store16 w1.heap.size (stf f) (fun _ => 0) rfl rfl HA0.out ?_))
      intro w4 hs4 ha4
      have HR4 := hidden (And.intro (HS.out.trans hs4 (fun i hi => .inr (by omega))) ha4)
      clear hs4 ha4
      go_wp2
      refine bodyPost_ret (v := .agg (A16 (stf f))) ?_ rfl ⟨rfl, HR4.out.1⟩
      have := HR4.out.2.load
      simp [results, Try.results26, asAddr, Act.put, this]
end Go.Proofs.Ytkglackbbcfhbaa
