/-
  The page's rune, whole; whether bytes are text, by the page.
-/
import Derived.Test.YtmegfcgnemfjnaaDoorUPageU
namespace Go.Proofs.YtmegfcgnemfjnaaDoor
open Go.RowKit Go.Lib

set_option maxHeartbeats 1000000 in
theorem pvalid_any (s : ByteArray) (l : List UInt8) (hsl : s.data.toList = l) (hl : l.length ≤ 140737488355328) (w : World) :
    Calls Tryd.prog 20 #[.string s] w fun e w' => e = .returned (.bool (validD l)) ∧ w' = w := by
  have hsz : s.size = l.length := by rw [← hsl]; rfl
  have Hsl := hidden hsl
  have Hsz := hidden hsz
  have Hl := hidden hl
  have hsb : s.size ≤ 140737488355328 := by omega
  obtain ⟨V, hV⟩ : ∃ V, validD l = V := ⟨_, rfl⟩
  rw [hV]
  have HV := hidden hV
  clear hsl hsz hl hV
  go_enter Tryd.func20, Tryd.ntmps20
  go_wp2
  go_loopw [3] (fun iv wr => ∃ i : Nat, iv = .int .i64 (i : Int) ∧ i ≤ s.size ∧ wr = w ∧ Hid (validD (l.drop i) = V)) (fun iv _ => s.size - (RowKit.intOf iv).toNat)
  case atStart => exact ⟨0, rfl, Nat.zero_le _, rfl, by rw [List.drop_zero]; exact HV.out⟩
  case round =>
    obtain ⟨i, rfl, his, rfl, HI⟩ := hrel
    by_cases hi : i < s.size
    · have i0 : (0 : Int) ≤ (i : Int) := by omega
      have iz : (i : Int) < (s.size : Int) := by omega
      have iz2 : (i : Int) ≤ (s.size : Int) := by omega
      have hil : i < l.length := by have := Hsz.out; omega
      have hne := drop_ne hil
      have HR := hidden (prune_any (s.extract i s.size) (l.drop i) (ext_drop s l Hsl.out i) (by rw [List.length_drop]; have := Hl.out; omega) (by rw [List.length_drop]; omega) wr)
      have hwd := decodeL_width (l.drop i)
      have hle := decodeL_le (l.drop i) hne
      have hst := validD_step (l.drop i) hne
      have hgd : good (l.drop i) = decide (¬ ((decodeL (l.drop i)).1 = 65533 ∧ (decodeL (l.drop i)).2 = 1)) := rfl
      rw [List.length_drop] at hle
      rw [List.drop_drop] at hst
      unfold runeAns at HR
      by_cases hg : (decodeL (l.drop i)).1 = 65533 ∧ (decodeL (l.drop i)).2 = 1
      · rw [decide_eq_false (fun h => h hg)] at hgd
        rw [if_pos hg] at hst
        rw [hgd] at HR
        have HVf := hidden (show V = false by rw [← HI.out, hst])
        clear hst hgd hg hwd hle hne
        generalize decodeL (l.drop i) = d at *
        go_wp2_with (go_at_call 39; refine HR.out.mono ?_; rintro e w' ⟨rfl, rfl⟩)
        go_ret
        exact ⟨by rw [HVf.out]; rfl, rfl⟩
      · rw [decide_eq_true hg] at hgd
        rw [if_neg hg] at hst
        rw [hgd] at HR
        have HVf := hidden (show validD (l.drop (i + (decodeL (l.drop i)).2)) = V by rw [← HI.out, hst])
        clear hst hgd hg hne
        generalize decodeL (l.drop i) = d at *
        obtain ⟨rr, wd⟩ := d
        dsimp only at HR HVf hwd hle
        have Hw := hidden hwd
        have hle2 : i + wd ≤ s.size := by have := Hsz.out; omega
        clear hwd hle
        go_wp2_with (go_at_call 39; refine HR.out.mono ?_; rintro e w' ⟨rfl, rfl⟩)
        go_roundw
        case rel => exact ⟨i + wd, by go_num, hle2, by trivial, HVf.out⟩
        case measure => simp [RowKit.intOf]; have := Hw.out; omega
    · have HE := hidden (show V = true by
        rw [← HI.out, List.drop_of_length_le (by have := Hsz.out; omega)]; rfl)
      go_wp2
      go_ret
      exact ⟨by rw [HE.out]; rfl, rfl⟩

end Go.Proofs.YtmegfcgnemfjnaaDoor
