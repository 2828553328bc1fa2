/-
  The page's rune, whole.
-/
import Derived.Test.YtmegfcgnemfjnaaDoorUPageR
namespace Go.Proofs.YtmegfcgnemfjnaaDoor
open Go.RowKit Go.Lib

set_option maxRecDepth 100000 in
set_option maxHeartbeats 2000000 in
theorem prune_any (s : ByteArray) (l : List UInt8) (hsl : s.data.toList = l) (hl : l.length ≤ 140737488355328) (hp : 0 < l.length) (w : World) :
    Calls Tryd.prog 39 #[.string s] w fun e w' => e = .returned (runeAns (decodeL l) (good l)) ∧ w' = w := by
  by_cases h2 : 194 ≤ bN l 0 ∧ bN l 0 < 224
  · exact rune2 s l hsl h2 hl hp w
  by_cases h3 : 224 ≤ bN l 0 ∧ bN l 0 < 240
  · exact rune3 s l hsl h3 hl hp w
  by_cases h4 : 240 ≤ bN l 0 ∧ bN l 0 < 245
  · exact rune4 s l hsl h4 hl hp w
  have hsz : s.size = l.length := by rw [← hsl]; rfl
  have hp0 : 0 < s.size := by omega
  have c0 : (s[0]'hp0).toNat = bN l 0 := by rw [getD_at s l hsl 0 hp0]; rfl
  have hlt := bN_lt l 0
  have pz : (0 : Int) < (s.size : Int) := by omega
  have Hd1 := hidden (fun h => dec_low l h)
  have Hd2 := hidden (fun h => dec_lead l h)
  have HG1 := hidden (fun v h e => good_low l v h e)
  have HG2 := hidden (fun e => bad_of l e)
  generalize bN l 0 = x0 at *
  have hsb : s.size ≤ 140737488355328 := by omega
  clear hsl hsz hl hp
  by_cases h1 : x0 < 128
  · have z1 : (x0 : Int) < 128 := by omega
    have HA := hidden (Hd1.out h1)
    have HG := hidden (HG1.out x0 h1 HA.out)
    have wz : IntKind.i32.wrap (x0 : Int) = (x0 : Int) := by simp [IntKind.wrap, IntKind.bits, IntKind.signed]; omega
    clear h1 h2 h3 h4
    go_enter Tryd.func39, Tryd.ntmps39
    go_wp2
    go_ret3
    exact ⟨by rw [HA.out, HG.out]; rfl, rfl⟩
  · have z1 : ¬ ((x0 : Int) < 128) := by omega
    have HA := hidden (Hd2.out (by omega))
    have HG := hidden (HG2.out HA.out)
    by_cases h5 : x0 < 194
    · have z2 : ¬ ((194 : Int) ≤ (x0 : Int)) := by omega
      have z3 : ¬ ((224 : Int) ≤ (x0 : Int)) := by omega
      have z4 : ¬ ((240 : Int) ≤ (x0 : Int)) := by omega
      clear h1 h2 h3 h4 h5
      go_enter Tryd.func39, Tryd.ntmps39
      go_wp2
      go_ret3
      exact ⟨by rw [HA.out, HG.out]; rfl, rfl⟩
    · have z2 : (194 : Int) ≤ (x0 : Int) := by omega
      have z2' : ¬ ((x0 : Int) < 224) := by omega
      have z3 : (224 : Int) ≤ (x0 : Int) := by omega
      have z3' : ¬ ((x0 : Int) < 240) := by omega
      have z4 : (240 : Int) ≤ (x0 : Int) := by omega
      have z4' : ¬ ((x0 : Int) < 245) := by omega
      clear h1 h2 h3 h4 h5
      go_enter Tryd.func39, Tryd.ntmps39
      go_wp2
      go_ret3
      exact ⟨by rw [HA.out, HG.out]; rfl, rfl⟩

theorem ext_drop (s : ByteArray) (l : List UInt8) (h : s.data.toList = l) (a : Nat) : (s.extract a s.size).data.toList = l.drop a := by
  have e : s.size = l.length := by rw [← h]; rfl
  have := congrArg (fun x => x.data.toList) (ext_seg s l h a s.size (by omega))
  rw [e, seg_end] at this
  rw [e]
  exact this

end Go.Proofs.YtmegfcgnemfjnaaDoor
