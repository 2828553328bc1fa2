/-
  The page's own Writer: Align.
-/
import Derived.Test.YtlajfidhkaamnabDoorIWriteA
namespace Go.Proofs.YtlajfidhkaamnabDoor
open Go.RowKit
set_option maxRecDepth 100000
set_option linter.unusedVariables false

set_option maxHeartbeats 1000000 in
theorem xalign_w (b : Nat) (s : Value) (N L : Nat) (w : World) (h : Wx w b s N L) (hL : L ≤ 1000000000) :
    Calls Tryd.prog 11 #[.pointer (some ⟨b, 0, none⟩)] w fun e w' => e = .returned (.tuple #[]) ∧ WroteX w w' b s N (up8 L) := by
  obtain ⟨i0, hi, hz0, hz1, hz2⟩ := info_parts Tryd.info5
  have H := hidden h
  clear h
  go_enter Tryd.func11, Tryd.ntmps11
  go_wp2
  go_loopg [] (up8 L - L) (fun k wr => ∃ d : Nat, d + k = up8 L - L ∧ WroteX w wr b s N (L + d))
  case atStart => exact ⟨0, by omega, s, H.out, Step.refl _ _, .inl rfl⟩
  case round =>
    obtain ⟨d, hd, s', W, St, Wh⟩ := hrel
    have hu : up8 L = (L + 7) / 8 * 8 := rfl
    have c0 := W.out
    have f0 := W.f0
    obtain ⟨ao, cap, hs⟩ := own_slice W.own
    have HW := hidden W
    have HO := hidden W.own
    rw [hs] at c0 HO
    have Hs := hidden hs
    by_cases hlt : (L + d) % 8 = 0
    · have hdu : Hid (L + d = up8 L) := by show _ = _; omega
      have hm : (((L + d : Nat) : Int) % 8 != 0) = false := by simp; omega
      have H2 := hidden (show WroteX w wr b s N (up8 L) by rw [← hdu.out]; exact ⟨s', W, St, Wh⟩)
      generalize L + d = T at *
      clear W St Wh hs hu hd
      go_wp2
      go_end0
      exact ⟨rfl, H2.out⟩
    · have hm : (((L + d : Nat) : Int) % 8 != 0) = true := by rw [bne_iff_ne]; omega
      have hfin : Hid (∀ w', WroteX wr w' b s' (N + 0 * 2 ^ (L + d)) (L + d + 1) → WroteX w w' b s N (L + (d + 1))) := by
        intro w' h
        have R := WroteX.after St Wh h
        simpa [Nat.add_assoc] using R
      have Hd := hidden hd
      have hT : L + d ≤ 1000000010 := by omega
      have Hn := hidden (show d < up8 L - L by omega)
      generalize hTT : L + d = T at *
      clear W St Wh hs hu hTT hd
      go_wp2_with (at_builtin; refine wpList_append_at _ rfl (.tmp 13) (.tmp 14) 22 rfl 5 i0 (.int .u8 0) 1 1 Tryd.underlying22 hi hz0 hz1 hz2 rfl (by decide) _ _ _ rfl (HO.out.alloc _) ⟨wr.heap.size, 0, none⟩ 1 1 [.int .u8 0] rfl rfl ?c1 ?c2 ?c3 ?c4 ?_)
      case c1 => exact cell_one_new _ _ _
      case c2 => intro u hu; simp at hu; subst hu; rfl
      case c3 => unfold maxLen; omega
      case c4 => omega
      intro v' w1 hown' hgrow hnil hv'
      rw [← Hs.out] at hgrow hv'
      obtain ⟨d0, d1, R⟩ := HW.out.push (z := 0) (by omega) hown' hgrow hv'
      obtain ⟨ao', cap', hvv⟩ := own_slice hown'
      have HF := hidden (hfin.out _ R)
      rw [hvv] at HF
      rw [hvv]
      clear hown' hgrow hnil hv' R hvv hfin
      go_wp2
      go_roundg (gk - 1)
      case measure => have := Hd.out; have := Hn.out; omega
      case rel => exact ⟨d + 1, by have := Hd.out; have := Hn.out; omega, HF.out⟩

end Go.Proofs.YtlajfidhkaamnabDoor
