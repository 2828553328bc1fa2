/-
  A decoder that isn't one; lengths that are none.
-/
import Derived.Test.YtoeedfiojnhhdabHKnown
namespace Go.Proofs.Ytoeedfiojnhhdab
open Go.RowKit

theorem next_nil (b : Int) (w : World) : Calls Try.prog 7 #[.pointer none, .int .i64 b] w fun e w' => e = .returned (.int .i64 (-2)) ∧ w' = w := by
  go_enter Try.func7, Try.ntmps7
  go_wp2
  go_ret
  exact ⟨rfl, rfl⟩

set_option maxHeartbeats 1000000 in
theorem new_bad (v : Value) (L : List Int) (w : World) (h : Ri w v L) (hl : L.length ≤ 9223372036854775807) (hok : okB L = false) :
    Calls Try.prog 6 #[v] w fun e w' => e = .returned (.tuple #[.pointer none, .int .i64 1]) ∧ Step (fun _ => False) w w' := by
  have HC := hidden (count_any v L w h hl)
  have E := hidden hok
  obtain ⟨ao, cap, rfl, _, _, _⟩ := h
  clear hok
  go_enter Try.func6, Try.ntmps6
  go_wp2_with (go_at_call 13; refine HC.out.mono ?_)
  rintro e w1 ⟨i, rfl, _, hs1⟩
  rw [E.out]
  go_wp2_with (refine alloc16 ?_)
  intro w2 hs2 hz2 ha2
  go_wp2_with (refine store16 _ _ _ rfl rfl ha2 ?_)
  intro w3 hs3 ha3
  have HS := hidden ((hs1.made hs2).trans hs3 (fun i hi => .inr (by have := hs1.size; omega)))
  clear hs1 hs2 hs3 ha2 ha3
  go_wp2
  go_ret2
  exact ⟨rfl, HS.out⟩

end Go.Proofs.Ytoeedfiojnhhdab
