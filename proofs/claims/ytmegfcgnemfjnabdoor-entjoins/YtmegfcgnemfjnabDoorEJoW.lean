/-
  Of two texts side by side what they stand for are those of both: the walk.
-/
import Derived.Test.YtmegfcgnemfjnabDoorECode6
namespace Go.Proofs.YtmegfcgnemfjnabDoor
open Go.RowKit Go.Lib

set_option maxHeartbeats 4000000 in
theorem law_joins (l k : List UInt8) (ml : l.length ≤ 140737488351232) (mk : k.length ≤ 140737488351232) (w : World) (T : EW w) :
    Calls Tryd.prog 4 #[str l, str k] w fun e w' => e = .returned (.bool true) ∧ Step (fun _ => False) w w' := by
  obtain ⟨s, hs⟩ : ∃ s : ByteArray, s = ⟨l.toArray⟩ := ⟨_, rfl⟩
  obtain ⟨t, ht⟩ : ∃ t : ByteArray, t = ⟨k.toArray⟩ := ⟨_, rfl⟩
  have hsl : s.data.toList = l := by rw [hs]
  have hsz : s.size = l.length := by rw [hs]; exact ba_size l
  have htz : t.size = k.length := by rw [ht]; exact ba_size k
  unfold str
  rw [← hs, ← ht]
  have HS := hidden (Step.refl (fun _ => False) w)
  have TT := hidden T
  have iw : IntKind.i64.wrap ((s.size : Int) + (t.size : Int)) = (s.size : Int) + (t.size : Int) := by simp [IntKind.wrap, IntKind.bits, IntKind.signed]; omega
  by_cases hl : l.length + k.length ≤ 1500
  · have z0 : ¬ ((1500 : Int) < (s.size : Int) + (t.size : Int)) := by omega
    have hsb : s.size ≤ 1500 := by omega
    have htb : t.size ≤ 1500 := by omega
    have HK := hidden (fun wx => eknown_any wx)
    have HU1 := hidden (fun wx (T : EW wx) => unescape_any (l ++ k) wx (by rw [List.length_append]; omega) T)
    have HU2 := hidden (fun wx (T : EW wx) => unescape_any k wx (by omega) T)
    have HH1 := hidden (fun wx => html_any (l ++ k) wx (by rw [List.length_append]; omega))
    have HH2 := hidden (fun wx => html_any l wx (by omega))
    have HH3 := hidden (fun wx => html_any k wx (by omega))
    rw [html_append] at HH1
    unfold str at HU1 HU2 HH1 HH2 HH3
    rw [← cat_str, ← hs, ← ht] at HU1 
    rw [← cat_str, ← hs, ← ht, ← cat_str] at HH1
    rw [← ht] at HU2 HH3
    rw [← hs] at HH2
    have hul := unesc_length k
    have h1l := html_le l
    have h2l := html_le k
    obtain ⟨su, hsu⟩ : ∃ su : ByteArray, su = ⟨(unesc k).toArray⟩ := ⟨_, rfl⟩
    obtain ⟨h1, hh1⟩ : ∃ su : ByteArray, su = ⟨(html l).toArray⟩ := ⟨_, rfl⟩
    obtain ⟨h2, hh2⟩ : ∃ su : ByteArray, su = ⟨(html k).toArray⟩ := ⟨_, rfl⟩
    have hz1 : su.size ≤ 6000 := by rw [hsu, ba_size]; omega
    have hz2 : h1.size ≤ 9000 := by rw [hh1, ba_size]; omega
    have hz3 : h2.size ≤ 9000 := by rw [hh2, ba_size]; omega
    rw [← hsu] at HU2
    rw [← hh1, ← hh2] at HH1
    rw [← hh1] at HH2
    rw [← hh2] at HH3
    have HUn := hidden (fun (h : ∀ c ∈ l, c.toNat ≠ 92 ∧ c.toNat ≠ 38) => (show (⟨(unesc (l ++ k)).toArray⟩ : ByteArray) = s ++ su by rw [unesc_plains l k h, hs, hsu, cat_str]))
    have Hsl := hidden hsl
    have Hsz := hidden hsz
    clear hs ht hsl hsz htz hl T hul h1l h2l hsu hh1 hh2 ml mk
    go_enter Tryd.func4, Tryd.ntmps4
    go_wp2
    go_loopw [5] (fun iv wr => wr = w ∧ ∃ i : Nat, iv = .int .i64 (i : Int) ∧ i ≤ s.size ∧ Hid (∀ c ∈ l.take i, c.toNat ≠ 92 ∧ c.toNat ≠ 38)) (fun iv _ => s.size - (RowKit.intOf iv).toNat)
    case atStart => exact ⟨rfl, 0, rfl, Nat.zero_le _, hidden (by simp)⟩
    case round =>
      obtain ⟨rfl, i, rfl, his, HZ⟩ := hrel
      by_cases hi : i < s.size
      · have i0 : (0 : Int) ≤ (i : Int) := by omega
        have iz : (i : Int) < (s.size : Int) := by omega
        have hil : i < l.length := by have := Hsz.out; omega
        have ci : (s[i]'hi).toNat = (l[i]'hil).toNat := by
          rw [getD_at s l Hsl.out i hi]; simp [List.getD, hil]
        have HTk := hidden (show l.take (i + 1) = l.take i ++ [l[i]'hil] from List.take_succ_eq_append_getElem hil)
        generalize l[i]'hil = c at *
        by_cases hm : c.toNat = 38 ∨ c.toNat = 92
        · have HK2 := hidden (HK.out _ TT.out)
          rcases hm with hm | hm <;> (
            rw [hm] at ci
            clear hm
            go_wp2_with fail
            refine Calls.mono HK2.out ?_
            rintro e w9 ⟨rfl, S9⟩
            go_wp2
            go_ret
            exact ⟨rfl, S9⟩)
        · have HZ2 := hidden (show ∀ c ∈ l.take (i + 1), c.toNat ≠ 92 ∧ c.toNat ≠ 38 by
            rw [HTk.out]
            intro x hx
            rcases List.mem_append.1 hx with hx | hx
            · exact HZ.out x hx
            · rw [List.mem_singleton] at hx; rw [hx]; omega)
          obtain ⟨x, hx⟩ : ∃ x, x = c.toNat := ⟨_, rfl⟩
          rw [← hx] at ci hm
          have g1 : ((x : Int) == 38) = false := by rw [beq_eq_false_iff_ne]; omega
          have g2 : ((x : Int) == 92) = false := by rw [beq_eq_false_iff_ne]; omega
          clear hx hm hil
          go_wp2
          go_roundw
          case rel => exact ⟨trivial, i + 1, by go_num, by omega, HZ2.out⟩
          case measure => simp [RowKit.intOf]; omega
      · have iz : ¬ ((i : Int) < (s.size : Int)) := by omega
        have HE := hidden (HUn.out (by
          have h := HZ.out
          rwa [List.take_of_length_le (by have := Hsz.out; omega)] at h))
        have HU3 := hidden (fun wx (T : EW wx) => by have := HU1.out wx T; rw [HE.out] at this; exact this)
        clear hi his
        go_wp2_with fail
        refine Calls.mono (HU3.out _ TT.out) ?_
        rintro e w1 ⟨rfl, S1⟩
        have HS1 := hidden (HS.out.made S1)
        clear S1
        go_wp2_with fail
        refine Calls.mono (HU2.out _ (TT.out.step HS1.out)) ?_
        rintro e w2 ⟨rfl, S2⟩
        have HS2 := hidden (HS1.out.made S2)
        clear S2
        go_wp2_with fail
        refine Calls.mono (HH1.out _) ?_
        rintro e w3 ⟨rfl, S3⟩
        have HS3 := hidden (HS2.out.made S3)
        clear S3
        go_wp2_with fail
        refine Calls.mono (HH2.out _) ?_
        rintro e w4 ⟨rfl, S4⟩
        have HS4 := hidden (HS3.out.made S4)
        clear S4
        go_wp2_with fail
        refine Calls.mono (HH3.out _) ?_
        rintro e w5 ⟨rfl, S5⟩
        have HS5 := hidden (HS4.out.made S5)
        clear S5
        have HK2 := hidden (HK.out _ (TT.out.step HS5.out))
        go_wp2_with fail
        refine Calls.mono HK2.out ?_
        rintro e w9 ⟨rfl, S9⟩
        have HS9 := hidden (HS5.out.made S9)
        clear S9
        go_wp2
        go_ret
        exact ⟨rfl, HS9.out⟩
  · have z0 : (1500 : Int) < (s.size : Int) + (t.size : Int) := by omega
    clear hs ht hsl hsz htz hl T ml mk
    go_enter Tryd.func4, Tryd.ntmps4
    go_wp2
    go_ret
    exact ⟨rfl, HS.out⟩

end Go.Proofs.YtmegfcgnemfjnabDoor
