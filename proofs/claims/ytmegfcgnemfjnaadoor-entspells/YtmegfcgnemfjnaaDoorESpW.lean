/-
  Any text spelt, as an address, as HTML.
-/
import Derived.Test.YtmegfcgnemfjnaaDoorEPage5
import Derived.Test.YtmegfcgnemfjnaaDoorEPage6
import Derived.Test.YtmegfcgnemfjnaaDoorEPage7
import Derived.Test.YtmegfcgnemfjnaaDoorECode6
import Derived.Test.YtmegfcgnemfjnaaDoorECode7
import Derived.Test.YtmegfcgnemfjnaaDoorUPageV
namespace Go.Proofs.YtmegfcgnemfjnaaDoor
open Go.RowKit Go.Lib

set_option maxHeartbeats 4000000 in
theorem law_spells (l : List UInt8) (w : World) (T : EW w) :
    Calls Tryd.prog 5 #[str l] w fun e w' => e = .returned (.bool true) ∧ Step (fun _ => False) w w' := by
  obtain ⟨s, hs⟩ : ∃ s : ByteArray, s = ⟨l.toArray⟩ := ⟨_, rfl⟩
  have hsl : s.data.toList = l := by rw [hs]
  have hsz : s.size = l.length := by rw [hs]; exact ba_size l
  unfold str
  rw [← hs]
  have HS := hidden (Step.refl (fun _ => False) w)
  have TT := hidden T
  by_cases hl : l.length ≤ 1500
  · have z0 : ¬ ((1500 : Int) < (s.size : Int)) := by omega
    have H1 := hidden (fun wx => uri_any l wx (by omega))
    have H2 := hidden (fun wx (T : EW wx) => spell_any l wx (by omega) T)
    have H3 := hidden (fun wx => pspell_any l wx (by omega))
    have H4 := hidden (fun wx => puri_any l wx (by omega))
    have H5 := hidden (fun wx => html_any l wx (by omega))
    have H6 := hidden (fun wx => phtml_any l wx (by omega))
    have hul := uri_length l
    have H7 := hidden (fun wx => uri_any (uri l) wx (by omega))
    have HV := hidden (fun wx => pvalid_any s l hsl (by omega) wx)
    have HUS := hidden (fun wx (T : EW wx) => unescape_any (spell l) wx (by have := spell_length l; omega) T)
    have HUSp := hidden (unesc_spell l)
    have HK := hidden (fun wx => eknown_any wx)
    rw [uri_uri] at H7
    unfold str at H1 H2 H3 H4 H5 H6 H7 HUS
    rw [← hs] at H1 H2 H3 H4 H5 H6
    generalize (⟨(uri l).toArray⟩ : ByteArray) = su at *
    generalize (⟨(html l).toArray⟩ : ByteArray) = sh at *
    obtain ⟨sp, hsp⟩ : ∃ sp : ByteArray, sp = ⟨(spell l).toArray⟩ := ⟨_, rfl⟩
    rw [← hsp] at H2 H3 HUS
    have Hs := hidden hs
    have Hsl := hidden hsl
    have Hsz := hidden hsz
    have hsb : s.size ≤ 1500 := by omega
    clear hs hsl hsz hl T hul hsp
    go_enter Tryd.func5, Tryd.ntmps5
    go_wp2_with fail
    refine Calls.mono (H1.out _) ?_
    rintro e w1 ⟨rfl, S1⟩
    have HS1 := hidden S1
    clear S1
    have H22 := hidden (H2.out w1 (TT.out.step HS1.out))
    go_wp2_with fail
    refine Calls.mono (H22.out) ?_
    rintro e w2 ⟨rfl, S2⟩
    have HS2 := hidden (HS1.out.made S2)
    clear S2
    go_wp2_with fail
    refine Calls.mono (H3.out _) ?_
    rintro e w3 ⟨rfl, S3⟩
    have HS3 := hidden (HS2.out.made S3)
    clear S3
    go_wp2_with fail
    refine Calls.mono (H4.out _) ?_
    rintro e w4 ⟨rfl, S4⟩
    have HS4 := hidden (HS3.out.made S4)
    clear S4
    go_wp2_with fail
    refine Calls.mono (H5.out _) ?_
    rintro e w5 ⟨rfl, S5⟩
    have HS5 := hidden (HS4.out.made S5)
    clear S5
    go_wp2_with fail
    refine Calls.mono (H6.out _) ?_
    rintro e w6 ⟨rfl, S6⟩
    have HS6 := hidden (HS5.out.made S6)
    clear S6
    go_wp2_with fail
    refine Calls.mono (H7.out _) ?_
    rintro e w7 ⟨rfl, S7⟩
    have HS7 := hidden (HS6.out.made S7)
    clear S7
    go_wp2
    go_loopw [4] (fun iv wr => ∃ i : Nat, iv = .int .i64 (i : Int) ∧ i ≤ s.size ∧ Hid (Step (fun _ => False) w wr) ∧ Hid (∀ c ∈ l.take i, c.toNat ≠ 0)) (fun iv _ => s.size - (RowKit.intOf iv).toNat)
    case atStart => exact ⟨0, rfl, Nat.zero_le _, HS7.out, hidden (by simp)⟩
    case round =>
      obtain ⟨i, rfl, his, HSt, HZ⟩ := hrel
      by_cases hi : i < s.size
      · have i0 : (0 : Int) ≤ (i : Int) := by omega
        have iz : (i : Int) < (s.size : Int) := by omega
        have hil : i < l.length := by have := Hsz.out; omega
        have ci : (s[i]'hi).toNat = (l[i]'hil).toNat := by
          rw [getD_at s l Hsl.out i hi]; simp [List.getD, hil]
        have HTk := hidden (show l.take (i + 1) = l.take i ++ [l[i]'hil] from List.take_succ_eq_append_getElem hil)
        generalize l[i]'hil = c at *
        by_cases h0 : c.toNat = 0
        · rw [h0] at ci
          have HK2 := hidden (HK.out wr (TT.out.step HSt.out))
          clear h0
          go_wp2_with fail
          refine Calls.mono HK2.out ?_
          rintro e w9 ⟨rfl, S9⟩
          have HS9 := hidden (HSt.out.made S9)
          clear S9
          go_wp2
          go_ret
          exact ⟨rfl, HS9.out⟩
        · have HZ2 := hidden (show ∀ c ∈ l.take (i + 1), c.toNat ≠ 0 by
            rw [HTk.out]
            intro x hx
            rcases List.mem_append.1 hx with hx | hx
            · exact HZ.out x hx
            · rw [List.mem_singleton] at hx; rw [hx]; exact h0)
          obtain ⟨x, hx⟩ : ∃ x, x = c.toNat := ⟨_, rfl⟩
          rw [← hx] at ci h0
          have gx : ((x : Int) == 0) = false := by rw [beq_eq_false_iff_ne]; omega
          clear hx h0 hil
          go_wp2
          go_roundw
          case rel => exact ⟨i + 1, by go_num, by omega, HSt.out, HZ2.out⟩
          case measure => simp [RowKit.intOf]; omega
      · have iz : ¬ ((i : Int) < (s.size : Int)) := by omega
        have HZl := hidden (show ∀ c ∈ l, c.toNat ≠ 0 by
          have h := HZ.out
          rwa [List.take_of_length_le (by have := Hsz.out; omega)] at h)
        cases hv : validD l with
        | false =>
          rw [hv] at HV
          go_wp2_with fail
          refine Calls.mono (HV.out _) ?_
          rintro e w8 ⟨rfl, rfl⟩
          have HK2 := hidden (HK.out _ (TT.out.step HSt.out))
          go_wp2_with fail
          refine Calls.mono HK2.out ?_
          rintro e w9 ⟨rfl, S9⟩
          have HS9 := hidden (HSt.out.made S9)
          clear S9
          go_wp2
          go_ret
          exact ⟨rfl, HS9.out⟩
        | true =>
          rw [hv] at HV
          have HB := hidden (HUSp.out hv HZl.out)
          have HUS2 := hidden (fun wx (T : EW wx) => by have := HUS.out wx T; rw [HB.out, ← Hs.out] at this; exact this)
          clear hv
          go_wp2_with fail
          refine Calls.mono (HV.out _) ?_
          rintro e w8 ⟨rfl, rfl⟩
          have H23 := hidden (H2.out _ (TT.out.step HSt.out))
          go_wp2_with fail
          refine Calls.mono H23.out ?_
          rintro e w9 ⟨rfl, S9⟩
          have HS9 := hidden (HSt.out.made S9)
          clear S9
          have HU3 := hidden (HUS2.out _ (TT.out.step HS9.out))
          go_wp2_with fail
          refine Calls.mono HU3.out ?_
          rintro e w10 ⟨rfl, S10⟩
          have HS10 := hidden (HS9.out.made S10)
          clear S10
          have HK2 := hidden (HK.out _ (TT.out.step HS10.out))
          go_wp2_with fail
          refine Calls.mono HK2.out ?_
          rintro e w11 ⟨rfl, S11⟩
          have HS11 := hidden (HS10.out.made S11)
          clear S11
          go_wp2
          go_ret
          exact ⟨rfl, HS11.out⟩
  · have z0 : (1500 : Int) < (s.size : Int) := by omega
    clear hs hsl hsz hl T
    go_enter Tryd.func5, Tryd.ntmps5
    go_wp2
    go_ret
    exact ⟨rfl, HS.out⟩

end Go.Proofs.YtmegfcgnemfjnaaDoor
