/-
  What is spelt at the beginning of a text: the page's way.
-/
import Derived.Test.YtmegfcgnemfjnabDoorEN
import Derived.Test.YtmegfcgnemfjnabDoorECode1
import Derived.Test.YtmegfcgnemfjnabDoorUEnc
import Derived.Lib.AppendStr
namespace Go.Proofs.YtmegfcgnemfjnabDoor
open Go.RowKit Go.Lib

def dgI (c : Nat) : Int := if dv c < 16 then ((dv c : Nat) : Int) else -1

theorem pdigit_any (c : Nat) (hc : c < 256) (w : World) :
    Calls Tryd.prog 16 #[.int .u8 (c : Int)] w fun e w' => e = .returned (.int .i64 (dgI c)) ∧ w' = w := by
  by_cases k0 : 48 ≤ c ∧ c ≤ 57
  · have hv : dgI c = (c : Int) - 48 := by
      have : dv c = c - 48 := by unfold dv; rw [if_pos k0]
      unfold dgI; rw [this, if_pos (by omega)]; omega
    rw [hv]
    have z0 : (48 : Int) ≤ (c : Int) := by omega
    have z1 : (c : Int) ≤ 57 := by omega
    have hw : IntKind.u8.wrap ((c : Int) - 48) = (c : Int) - 48 := by simp [IntKind.wrap, IntKind.bits, IntKind.signed]; omega
    have hw2 : IntKind.i64.wrap ((c : Int) - 48) = (c : Int) - 48 := by simp [IntKind.wrap, IntKind.bits, IntKind.signed]; omega
    clear hv k0
    go_enter Tryd.func16, Tryd.ntmps16
    go_wp2
    go_ret
    exact ⟨rfl, rfl⟩
  have k0' : ¬ ((48 : Int) ≤ (c : Int)) ∨ ((48 : Int) ≤ (c : Int) ∧ ¬ ((c : Int) ≤ 57)) := by omega
  by_cases k1 : 97 ≤ c ∧ c ≤ 102
  · have hv : dgI c = (c : Int) - 87 := by
      have : dv c = c - 87 := by unfold dv; rw [if_neg k0, if_pos k1]
      unfold dgI; rw [this, if_pos (by omega)]; omega
    rw [hv]
    have z0 : (97 : Int) ≤ (c : Int) := by omega
    have z1 : (c : Int) ≤ 102 := by omega
    have z2 : (48 : Int) ≤ (c : Int) := by omega
    have z3 : ¬ ((c : Int) ≤ 57) := by omega
    have hw : IntKind.u8.wrap ((c : Int) - 97) = (c : Int) - 97 := by simp [IntKind.wrap, IntKind.bits, IntKind.signed]; omega
    have hw2 : IntKind.i64.wrap ((c : Int) - 97) = (c : Int) - 97 := by simp [IntKind.wrap, IntKind.bits, IntKind.signed]; omega
    clear hv k0 k1 k0'
    go_enter Tryd.func16, Tryd.ntmps16
    go_wp2
    go_ret
    refine ⟨?_, rfl⟩
    show Ending.returned (Value.int .i64 _) = _
    congr 2
    first | omega | (simp; omega)
  have k1' : ¬ ((97 : Int) ≤ (c : Int)) ∨ ((97 : Int) ≤ (c : Int) ∧ ¬ ((c : Int) ≤ 102)) := by omega
  by_cases k2 : 65 ≤ c ∧ c ≤ 70
  · have hv : dgI c = (c : Int) - 55 := by
      have : dv c = c - 55 := by unfold dv; rw [if_neg k0, if_neg k1, if_pos k2]
      unfold dgI; rw [this, if_pos (by omega)]; omega
    rw [hv]
    have z0 : (65 : Int) ≤ (c : Int) := by omega
    have z1 : (c : Int) ≤ 70 := by omega
    have z2 : (48 : Int) ≤ (c : Int) := by omega
    have z3 : ¬ ((c : Int) ≤ 57) := by omega
    have z4 : ¬ ((97 : Int) ≤ (c : Int)) := by omega
    have hw : IntKind.u8.wrap ((c : Int) - 65) = (c : Int) - 65 := by simp [IntKind.wrap, IntKind.bits, IntKind.signed]; omega
    have hw2 : IntKind.i64.wrap ((c : Int) - 65) = (c : Int) - 65 := by simp [IntKind.wrap, IntKind.bits, IntKind.signed]; omega
    clear hv k0 k1 k0' k1' k2
    go_enter Tryd.func16, Tryd.ntmps16
    go_wp2
    go_ret
    refine ⟨?_, rfl⟩
    show Ending.returned (Value.int .i64 _) = _
    congr 2
    first | omega | (simp; omega)
  have k2' : ¬ ((65 : Int) ≤ (c : Int)) ∨ ((65 : Int) ≤ (c : Int) ∧ ¬ ((c : Int) ≤ 70)) := by omega
  have hv : dgI c = -1 := by
    have : dv c = 99 := by unfold dv; rw [if_neg k0, if_neg k1, if_neg k2]
    unfold dgI; rw [this, if_neg (by omega)]
  rw [hv]
  clear hv k0 k1 k2
  rcases k0' with a0 | ⟨a0, a1⟩ <;> rcases k1' with b0 | ⟨b0, b1⟩ <;> rcases k2' with c0 | ⟨c0, c1⟩
  all_goals first
    | (exfalso; omega)
    | (go_enter Tryd.func16, Tryd.ntmps16
       go_wp2
       go_ret
       exact ⟨rfl, rfl⟩)

end Go.Proofs.YtmegfcgnemfjnabDoor
