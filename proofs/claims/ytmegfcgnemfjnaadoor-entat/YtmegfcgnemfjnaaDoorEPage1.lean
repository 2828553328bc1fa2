/-
  What is spelt at the beginning of a text: the page's way.
-/
import Derived.Test.YtmegfcgnemfjnaaDoorEN
import Derived.Test.YtmegfcgnemfjnaaDoorECode1
import Derived.Test.YtmegfcgnemfjnaaDoorUEnc
import Derived.Lib.AppendStr
namespace Go.Proofs.YtmegfcgnemfjnaaDoor
open Go.RowKit Go.Lib

def dgI (c : Nat) : Int := if dv c < 16 then ((dv c : Nat) : Int) else -1

theorem pdigit_any (c : Nat) (hc : c < 256) (w : World) :
    Calls Tryd.prog 27 #[.int .u8 (c : Int)] w fun e w' => e = .returned (.int .i64 (dgI c)) ∧ w' = w := by
  by_cases k0 : 48 ≤ c ∧ c ≤ 57
  · have hv : dgI c = (c : Int) - 48 := by
      have : dv c = c - 48 := by unfold dv; rw [if_pos k0]
      unfold dgI; rw [this, if_pos (by omega)]; omega
    rw [hv]
    have z0 : (48 : Int) ≤ (c : Int) := by omega
    have z1 : (c : Int) ≤ 57 := by omega
    have hw : IntKind.u8.wrap ((c : Int) - 48) = (c : Int) - 48 := by simp [IntKind.wrap, IntKind.bits, IntKind.signed]; omega
    have hw2 : IntKind.i64.wrap ((c : Int) - 48) = (c : Int) - 48 := by simp [IntKind.wrap, IntKind.bits, IntKind.signed]; omega
    clear hv k0
    go_enter Tryd.func27, Tryd.ntmps27
    go_wp2
    go_ret
    exact ⟨rfl, rfl⟩
  have k0' : ¬ ((48 : Int) ≤ (c : Int)) ∨ ((48 : Int) ≤ (c : Int) ∧ ¬ ((c : Int) ≤ 57)) := by omega
  by_cases k1 : 97 ≤ c ∧ c ≤ 102
  · have hv : dgI c = (c : Int) - 87 := by
      have : dv c = c - 87 := by unfold dv; rw [if_neg k0, if_pos k1]
      unfold dgI; rw [this, if_pos (by omega)]; omega
    rw [hv]
    have z0 : (97 : Int) ≤ (c : Int) := by omega
    have z1 : (c : Int) ≤ 102 := by omega
    have z2 : (48 : Int) ≤ (c : Int) := by omega
    have z3 : ¬ ((c : Int) ≤ 57) := by omega
    have hw : IntKind.u8.wrap ((c : Int) - 97) = (c : Int) - 97 := by simp [IntKind.wrap, IntKind.bits, IntKind.signed]; omega
    have hw2 : IntKind.i64.wrap ((c : Int) - 97) = (c : Int) - 97 := by simp [IntKind.wrap, IntKind.bits, IntKind.signed]; omega
    clear hv k0 k1 k0'
    go_enter Tryd.func27, Tryd.ntmps27
    go_wp2
    go_ret
    refine ⟨?_, rfl⟩
    show Ending.returned (Value.int .i64 _) = _
    congr 2
    first | omega | (simp; omega)
  have k1' : ¬ ((97 : Int) ≤ (c : Int)) ∨ ((97 : Int) ≤ (c : Int) ∧ ¬ ((c : Int) ≤ 102)) := by omega
  by_cases k2 : 65 ≤ c ∧ c ≤ 70
  · have hv : dgI c = (c : Int) - 55 := by
      have : dv c = c - 55 := by unfold dv; rw [if_neg k0, if_neg k1, if_pos k2]
      unfold dgI; rw [this, if_pos (by omega)]; omega
    rw [hv]
    have z0 : (65 : Int) ≤ (c : Int) := by omega
    have z1 : (c : Int) ≤ 70 := by omega
    have z2 : (48 : Int) ≤ (c : Int) := by omega
    have z3 : ¬ ((c : Int) ≤ 57) := by omega
    have z4 : ¬ ((97 : Int) ≤ (c : Int)) := by omega
    have hw : IntKind.u8.wrap ((c : Int) - 65) = (c : Int) - 65 := by simp [IntKind.wrap, IntKind.bits, IntKind.signed]; omega
    have hw2 : IntKind.i64.wrap ((c : Int) - 65) = (c : Int) - 65 := by simp [IntKind.wrap, IntKind.bits, IntKind.signed]; omega
    clear hv k0 k1 k0' k1' k2
    go_enter Tryd.func27, Tryd.ntmps27
    go_wp2
    go_ret
    refine ⟨?_, rfl⟩
    show Ending.returned (Value.int .i64 _) = _
    congr 2
    first | omega | (simp; omega)
  have k2' : ¬ ((65 : Int) ≤ (c : Int)) ∨ ((65 : Int) ≤ (c : Int) ∧ ¬ ((c : Int) ≤ 70)) := by omega
  have hv : dgI c = -1 := by
    have : dv c = 99 := by unfold dv; rw [if_neg k0, if_neg k1, if_neg k2]
    unfold dgI; rw [this, if_neg (by omega)]
  rw [hv]
  clear hv k0 k1 k2
  rcases k0' with a0 | ⟨a0, a1⟩ <;> rcases k1' with b0 | ⟨b0, b1⟩ <;> rcases k2' with c0 | ⟨c0, c1⟩
  all_goals first
    | (exfalso; omega)
    | (go_enter Tryd.func27, Tryd.ntmps27
       go_wp2
       go_ret
       exact ⟨rfl, rfl⟩)

theorem begins_any (s p : ByteArray) (l k : List UInt8) (h : s.data.toList = l) (hk : p.data.toList = k) (hl : l.length ≤ 100000) (hkl : k.length ≤ 100000) (w : World) :
    Calls Tryd.prog 26 #[.string s, .string p] w fun e w' => e = .returned (.bool (begins l k)) ∧ w' = w := by
  have hsz : s.size = l.length := by rw [← h]; rfl
  have hpz : p.size = k.length := by rw [← hk]; rfl
  have hb : s.size ≤ 100000 := by omega
  have hb2 : p.size ≤ 100000 := by omega
  by_cases h0 : p.size ≤ s.size
  · have z0 : (p.size : Int) ≤ (s.size : Int) := by omega
    have he : (s.extract 0 p.size).data.toList = l.take k.length := by
      rw [← h, hpz]; simp
    have hq : ((s.extract 0 p.size).toList == p.toList) = decide (l.take k.length = k) := by
      rw [ByteArray.toList_eq, ByteArray.toList_eq, he, hk, Bool.eq_iff_iff]
      simp
    by_cases hx : l.take k.length = k
    · have hB : begins l k = true := by unfold begins; rw [decide_eq_true]; exact ⟨by omega, hx⟩
      have g := hq.trans (decide_eq_true hx)
      rw [hB]
      clear h hk hsz hpz he hq h0 hl hkl hx hB
      go_enter Tryd.func26, Tryd.ntmps26
      go_wp2
      go_ret
      exact ⟨rfl, rfl⟩
    · have hB : begins l k = false := by unfold begins; rw [decide_eq_false]; exact fun e => hx e.2
      have g := hq.trans (decide_eq_false hx)
      rw [hB]
      clear h hk hsz hpz he hq h0 hl hkl hx hB
      go_enter Tryd.func26, Tryd.ntmps26
      go_wp2
      go_ret
      exact ⟨rfl, rfl⟩
  · have hB : begins l k = false := by unfold begins; rw [decide_eq_false]; exact fun e => h0 (by omega)
    have z0 : ¬ (p.size : Int) ≤ (s.size : Int) := by omega
    rw [hB]
    clear h hk hsz hpz h0 hl hkl hB
    go_enter Tryd.func26, Tryd.ntmps26
    go_wp2
    go_ret
    exact ⟨rfl, rfl⟩

end Go.Proofs.YtmegfcgnemfjnaaDoor
