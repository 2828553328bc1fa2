/-
  HuffOfNothing's walk.
-/
import Derived.Test.YtoeedfiojnhhdabHNone
namespace Go.Proofs.Ytoeedfiojnhhdab
open Go.RowKit

set_option maxHeartbeats 1000000 in
theorem ofNothing_any (b : Int) (w : World) : Calls Try.prog 3 #[.int .i64 b] w fun e w' => e = .returned (.bool true) ∧ Step (fun _ => False) w w' := by
  have H1 := hidden (new_bad _ [16] _ (Ri.lits w [16] 3) (by simp) (by decide))
  simp only [i64s, List.map_cons, List.map_nil, List.length_cons, List.length_nil, Nat.zero_add] at H1
  go_enter Try.func3, Try.ntmps3
  go_wp2_with fail
  refine H1.out.mono ?_
  rintro e w1 ⟨rfl, hs1⟩
  have S1 := hidden (show Step (fun _ => False) w w1 from ((Step.refl _ w).alloc _).made hs1)
  clear hs1
  go_wp2_with fail
  refine (next_nil b _).mono ?_
  rintro e w2 ⟨rfl, rfl⟩
  go_wp2_with fail
  refine (known_any _).mono ?_
  rintro e w3 ⟨rfl, hs3⟩
  have S3 := hidden (S1.out.made hs3)
  clear hs3
  go_wp2
  go_ret
  exact ⟨rfl, S3.out⟩

end Go.Proofs.Ytoeedfiojnhhdab
