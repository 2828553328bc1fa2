/-
  The walk of the law on going on from any sum.
-/
import Derived.Test.YtplmmjlhlijjmaaDoorCrcR
namespace Go.Proofs.YtplmmjlhlijjmaaDoor
open Go.RowKit

set_option maxHeartbeats 1000000 in
theorem more_in (r : Nat) (v : Value) (B : List Nat) (w : World) (hr : r < 4294967296) (hB : ∀ x ∈ B, x < 256) (T : Tab w) (h : Rd w v B) (hl : B.length ≤ 4000) :
    Calls Tryd.prog 4 #[.int .u32 r, v] w fun e w' => e = .returned (.bool true) ∧ Step (fun _ => False) w w' := by
  have HM := hidden (more_any r v B w hr hB T h (by omega))
  have HR := hidden (fun n => rmore_any r v B (w.drewN n) hr hB (h.drewN n) (by omega))
  have HN := hidden (fun n => more_any r (.slice none 0 0) [] (w.drewN n) hr (by simp) T (rd_none _) (by simp))
  rw [show crcRun (r ^^^ 4294967295) [] = r ^^^ 4294967295 from rfl, not_not32] at HN
  have HT := hidden T
  obtain ⟨ao, cap, hv, _⟩ := h
  rw [hv] at HM HR ⊢
  generalize B.length = n at *
  generalize (crcRun (r ^^^ 4294967295) B ^^^ 4294967295) = y at *
  clear hB T hv
  go_enter Tryd.func4, Tryd.ntmps4
  go_wp2_with fail
  refine HM.out.mono ?_; rintro e w' ⟨rfl, q1, rfl⟩
  go_wp2_with fail
  refine (HR.out _).mono ?_; rintro e w' ⟨rfl, q2, rfl⟩
  rw [World.drewN_drewN]
  go_wp2_with fail
  refine (HN.out _).mono ?_; rintro e w' ⟨rfl, q3, rfl⟩
  rw [World.drewN_drewN]
  go_wp2_with fail
  refine (known_any _ (HT.out.drewN _)).mono ?_; rintro e w' ⟨rfl, hs⟩
  have HS := hidden hs
  clear hs
  go_wp2
  go_ret
  exact ⟨rfl, ((Step.refl _ _).drewN _).made HS.out⟩

set_option maxHeartbeats 1000000 in
theorem more_out (r : Nat) (ao : Option Addr) (n cap : Nat) (w : World) (hn : 4000 < n) (hm : n ≤ 9223372036854775807) :
    Calls Tryd.prog 4 #[.int .u32 r, .slice ao n cap] w fun e w' => e = .returned (.bool true) ∧ Step (fun _ => False) w w' := by
  go_enter Tryd.func4, Tryd.ntmps4
  go_wp2
  go_ret
  exact ⟨rfl, Step.refl _ _⟩

end Go.Proofs.YtplmmjlhlijjmaaDoor
