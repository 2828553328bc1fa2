/-
  The page's rune, whole; whether bytes are text, by the page.
-/
import Derived.Test.YthomkgajilmphaaDoorUPageR
namespace Go.Proofs.YthomkgajilmphaaDoor
open Go.RowKit Go.Lib

set_option maxRecDepth 100000 in
set_option maxHeartbeats 2000000 in
theorem prune_any (s : ByteArray) (l : List UInt8) (hsl : s.data.toList = l) (hl : l.length ≤ 140737488355328) (hp : 0 < l.length) (w : World) :
    Calls Tryd.prog 19 #[.string s] w fun e w' => e = .returned (runeAns (decodeL l) (good l)) ∧ w' = w := by
  by_cases h2 : 194 ≤ bN l 0 ∧ bN l 0 < 224
  · exact rune2 s l hsl h2 hl hp w
  by_cases h3 : 224 ≤ bN l 0 ∧ bN l 0 < 240
  · exact rune3 s l hsl h3 hl hp w
  by_cases h4 : 240 ≤ bN l 0 ∧ bN l 0 < 245
  · exact rune4 s l hsl h4 hl hp w
  have hsz : s.size = l.length := by rw [← hsl]; rfl
  have hp0 : 0 < s.size := by omega
  have c0 : (s[0]'hp0).toNat = bN l 0 := by rw [getD_at s l hsl 0 hp0]; rfl
  have hlt := bN_lt l 0
  have pz : (0 : Int) < (s.size : Int) := by omega
  have Hd1 := hidden (fun h => dec_low l h)
  have Hd2 := hidden (fun h => dec_lead l h)
  have HG1 := hidden (fun v h e => good_low l v h e)
  have HG2 := hidden (fun e => bad_of l e)
  generalize bN l 0 = x0 at *
  have hsb : s.size ≤ 140737488355328 := by omega
  clear hsl hsz hl hp
  by_cases h1 : x0 < 128
  · have z1 : (x0 : Int) < 128 := by omega
    have HA := hidden (Hd1.out h1)
    have HG := hidden (HG1.out x0 h1 HA.out)
    have wz : IntKind.i32.wrap (x0 : Int) = (x0 : Int) := by simp [IntKind.wrap, IntKind.bits, IntKind.signed]; omega
    clear h1 h2 h3 h4
    go_enter Tryd.func19, Tryd.ntmps19
    go_wp2
    go_ret3
    exact ⟨by rw [HA.out, HG.out]; rfl, rfl⟩
  · have z1 : ¬ ((x0 : Int) < 128) := by omega
    have HA := hidden (Hd2.out (by omega))
    have HG := hidden (HG2.out HA.out)
    by_cases h5 : x0 < 194
    · have z2 : ¬ ((194 : Int) ≤ (x0 : Int)) := by omega
      have z3 : ¬ ((224 : Int) ≤ (x0 : Int)) := by omega
      have z4 : ¬ ((240 : Int) ≤ (x0 : Int)) := by omega
      clear h1 h2 h3 h4 h5
      go_enter Tryd.func19, Tryd.ntmps19
      go_wp2
      go_ret3
      exact ⟨by rw [HA.out, HG.out]; rfl, rfl⟩
    · have z2 : (194 : Int) ≤ (x0 : Int) := by omega
      have z2' : ¬ ((x0 : Int) < 224) := by omega
      have z3 : (224 : Int) ≤ (x0 : Int) := by omega
      have z3' : ¬ ((x0 : Int) < 240) := by omega
      have z4 : (240 : Int) ≤ (x0 : Int) := by omega
      have z4' : ¬ ((x0 : Int) < 245) := by omega
      clear h1 h2 h3 h4 h5
      go_enter Tryd.func19, Tryd.ntmps19
      go_wp2
      go_ret3
      exact ⟨by rw [HA.out, HG.out]; rfl, rfl⟩

theorem ext_drop (s : ByteArray) (l : List UInt8) (h : s.data.toList = l) (a : Nat) : (s.extract a s.size).data.toList = l.drop a := by
  have e : s.size = l.length := by rw [← h]; rfl
  have := congrArg (fun x => x.data.toList) (ext_seg s l h a s.size (by omega))
  rw [e, seg_end] at this
  rw [e]
  exact this

set_option maxHeartbeats 1000000 in
theorem pvalid_any (s : ByteArray) (l : List UInt8) (hsl : s.data.toList = l) (hl : l.length ≤ 140737488355328) (w : World) :
    Calls Tryd.prog 12 #[.string s] w fun e w' => e = .returned (.bool (validD l)) ∧ w' = w := by
  have hsz : s.size = l.length := by rw [← hsl]; rfl
  have Hsl := hidden hsl
  have Hsz := hidden hsz
  have Hl := hidden hl
  have hsb : s.size ≤ 140737488355328 := by omega
  obtain ⟨V, hV⟩ : ∃ V, validD l = V := ⟨_, rfl⟩
  rw [hV]
  have HV := hidden hV
  clear hsl hsz hl hV
  go_enter Tryd.func12, Tryd.ntmps12
  go_wp2
  go_loopw [3] (fun iv wr => ∃ i : Nat, iv = .int .i64 (i : Int) ∧ i ≤ s.size ∧ wr = w ∧ Hid (validD (l.drop i) = V)) (fun iv _ => s.size - (RowKit.intOf iv).toNat)
  case atStart => exact ⟨0, rfl, Nat.zero_le _, rfl, by rw [List.drop_zero]; exact HV.out⟩
  case round =>
    obtain ⟨i, rfl, his, rfl, HI⟩ := hrel
    by_cases hi : i < s.size
    · have i0 : (0 : Int) ≤ (i : Int) := by omega
      have iz : (i : Int) < (s.size : Int) := by omega
      have iz2 : (i : Int) ≤ (s.size : Int) := by omega
      have hil : i < l.length := by have := Hsz.out; omega
      have hne := drop_ne hil
      have HR := hidden (prune_any (s.extract i s.size) (l.drop i) (ext_drop s l Hsl.out i) (by rw [List.length_drop]; have := Hl.out; omega) (by rw [List.length_drop]; omega) wr)
      have hwd := decodeL_width (l.drop i)
      have hle := decodeL_le (l.drop i) hne
      have hst := validD_step (l.drop i) hne
      have hgd : good (l.drop i) = decide (¬ ((decodeL (l.drop i)).1 = 65533 ∧ (decodeL (l.drop i)).2 = 1)) := rfl
      rw [List.length_drop] at hle
      rw [List.drop_drop] at hst
      unfold runeAns at HR
      by_cases hg : (decodeL (l.drop i)).1 = 65533 ∧ (decodeL (l.drop i)).2 = 1
      · rw [decide_eq_false (fun h => h hg)] at hgd
        rw [if_pos hg] at hst
        rw [hgd] at HR
        have HVf := hidden (show V = false by rw [← HI.out, hst])
        clear hst hgd hg hwd hle hne
        generalize decodeL (l.drop i) = d at *
        go_wp2_with (go_at_call 19; refine HR.out.mono ?_; rintro e w' ⟨rfl, rfl⟩)
        go_ret
        exact ⟨by rw [HVf.out]; rfl, rfl⟩
      · rw [decide_eq_true hg] at hgd
        rw [if_neg hg] at hst
        rw [hgd] at HR
        have HVf := hidden (show validD (l.drop (i + (decodeL (l.drop i)).2)) = V by rw [← HI.out, hst])
        clear hst hgd hg hne
        generalize decodeL (l.drop i) = d at *
        obtain ⟨rr, wd⟩ := d
        dsimp only at HR HVf hwd hle
        have Hw := hidden hwd
        have hle2 : i + wd ≤ s.size := by have := Hsz.out; omega
        clear hwd hle
        go_wp2_with (go_at_call 19; refine HR.out.mono ?_; rintro e w' ⟨rfl, rfl⟩)
        go_roundw
        case rel => exact ⟨i + wd, by go_num, hle2, by trivial, HVf.out⟩
        case measure => simp [RowKit.intOf]; have := Hw.out; omega
    · have HE := hidden (show V = true by
        rw [← HI.out, List.drop_of_length_le (by have := Hsz.out; omega)]; rfl)
      go_wp2
      go_ret
      exact ⟨by rw [HE.out]; rfl, rfl⟩

end Go.Proofs.YthomkgajilmphaaDoor
