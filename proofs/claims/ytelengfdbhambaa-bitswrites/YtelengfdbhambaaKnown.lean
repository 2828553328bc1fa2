/-
  known: three calls on a new Writer, and the one byte that they make.
-/
import Derived.Test.YtelengfdbhambaaSame
namespace Go.Proofs.Ytelengfdbhambaa
open Go.RowKit

/-- A call on an object that was made since w turns nothing of w. -/
theorem Step.own {w w1 w2 : World} {b : Nat} {s s2 : Value} (h : Step (fun _ => False) w w1) (h2 : Step (Of b s) w1 w2) (hb : w.heap.size ≤ b) (hs : ∀ k, s.ownBlock = some k → w.heap.size ≤ k)
    (hw : s2.ownBlock = s.ownBlock ∨ ∃ k, s2.ownBlock = some k ∧ w1.heap.size ≤ k) : Step (fun _ => False) w w2 ∧ ∀ k, s2.ownBlock = some k → w.heap.size ≤ k := by
  refine ⟨h.trans h2 (fun i hi => .inr ?_), fun k hk => ?_⟩
  · rcases hi with e | e
    · omega
    · exact hs i e
  · rcases hw with e | ⟨j, e, hj⟩
    · exact hs k (by rw [← e]; exact hk)
    · rw [e] at hk; have := Option.some.inj hk; have := h.size; omega

theorem Step.made {w w1 w2 : World} (h : Step (fun _ => False) w w1) (h2 : Step (fun _ => False) w1 w2) : Step (fun _ => False) w w2 := h.trans h2 (fun _ hi => hi.elim)

theorem Rd.lit (w : World) (x : Nat) : Rd (w.alloc (.cells #[.int .u8 (x : Int)] 5)) (.slice (some ⟨w.heap.size, 0, none⟩) 1 1) [x] := by
  refine ⟨some ⟨w.heap.size, 0, none⟩, 1, rfl, fun h => (by cases h), fun a ha _ => ⟨w.heap.size, 0, (Option.some.inj ha).symm, fun k hk => ?_⟩⟩
  have : k = 0 := by simp at hk; omega
  subst this
  simp

set_option maxHeartbeats 1000000 in
theorem known_any (w : World) : Calls Try.prog 25 #[] w fun e w' => e = .returned (.bool true) ∧ Step (fun _ => False) w w' := by
  go_enter Try.func25, Try.ntmps25
  go_wp2_with fail
  refine (new_ok _).mono ?_
  rintro e w0 ⟨rfl, W0, S0⟩
  have O0 : ∀ k, (Value.slice none 0 0).ownBlock = some k → w.heap.size ≤ k := fun k hk => by simp [Value.ownBlock] at hk
  have HS0 := hidden (And.intro S0 O0)
  have HW0 := hidden W0
  clear S0 O0 W0
  go_wp2_with fail
  refine (put_ok w.heap.size _ 0 0 1 1 _ HW0.out (by omega) (by omega) (by omega)).mono ?_
  rintro e w1 ⟨rfl, s1, W1, T1, H1⟩
  have HS1 := hidden (HS0.out.1.own T1 (Nat.le_refl _) HS0.out.2 H1)
  have HW1 := hidden W1
  clear W1 T1 H1
  go_wp2_with fail
  refine (put_ok w.heap.size _ _ _ 2 2 _ HW1.out (by omega) (by omega) (by omega)).mono ?_
  rintro e w2 ⟨rfl, s2, W2, T2, H2⟩
  have HS2 := hidden (HS1.out.1.own T2 (Nat.le_refl _) HS1.out.2 H2)
  have HW2 := hidden W2
  clear W2 T2 H2
  go_wp2_with fail
  refine (code_ok w.heap.size _ _ _ 1 3 _ HW2.out (by omega) (by omega) (by omega)).mono ?_
  rintro e w3 ⟨rfl, s3, W3, T3, H3⟩
  have HS3 := hidden (HS2.out.1.own T3 (Nat.le_refl _) HS2.out.2 H3)
  have HW3 := hidden W3
  clear W3 T3 H3
  go_wp2_with fail
  refine (bytes_any w.heap.size _ _ _ _ HW3.out (by omega)).mono ?_
  rintro e w4 ⟨v4, rfl, W4, T4, H4⟩
  have HS4 := hidden (HS3.out.1.made T4)
  have HW4 := hidden W4
  have H4' := hidden H4
  clear W4 T4 H4
  have HR4 := hidden (show Rd w4 v4 [37] from Rd.of_own HW4.out)
  go_wp2_with fail
  refine (same_any _ _ [37] [37] _ (HR4.out.step ((Step.refl (fun _ => False) _).alloc _) (fun _ _ _ _ _ h => h)) (Rd.lit _ 37) (by simp)).mono ?_
  rintro e w5 ⟨rfl, n5, rfl⟩
  go_wp2
  go_ret
  exact ⟨rfl, (HS4.out.alloc _).drewN _⟩

end Go.Proofs.Ytelengfdbhambaa
