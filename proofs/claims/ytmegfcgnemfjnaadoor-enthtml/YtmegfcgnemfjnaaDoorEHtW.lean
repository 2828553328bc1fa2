/-
  HTML has no sign that it gives another meaning.
-/
import Derived.Test.YtmegfcgnemfjnaaDoorECode6
namespace Go.Proofs.YtmegfcgnemfjnaaDoor
open Go.RowKit Go.Lib

set_option maxHeartbeats 4000000 in
theorem law_html (l : List UInt8) (w : World) (T : EW w) :
    Calls Tryd.prog 8 #[str l] w fun e w' => e = .returned (.bool true) ∧ Step (fun _ => False) w w' := by
  obtain ⟨s, hs⟩ : ∃ s : ByteArray, s = ⟨l.toArray⟩ := ⟨_, rfl⟩
  have hsl : s.data.toList = l := by rw [hs]
  have hsz : s.size = l.length := by rw [hs]; exact ba_size l
  unfold str
  rw [← hs]
  have HS := hidden (Step.refl (fun _ => False) w)
  have TT := hidden T
  by_cases hl : l.length ≤ 1500
  · have z0 : ¬ ((1500 : Int) < (s.size : Int)) := by omega
    have H1 := hidden (fun wx => html_any l wx (by omega))
    have HK := hidden (fun wx => eknown_any wx)
    have Hn := hidden (html_none l)
    have He := hidden (html_eq l)
    unfold str at H1
    rw [← hs] at H1
    have hhl := html_le l
    obtain ⟨sh, hsh⟩ : ∃ sh : ByteArray, sh = ⟨(html l).toArray⟩ := ⟨_, rfl⟩
    rw [← hsh] at H1
    have hshz : sh.size = (html l).length := by rw [hsh]; exact ba_size _
    have HQ := hidden (show (sh.toList == s.toList) = l.all (fun c => !markS c.toNat) by
      rw [hsh, hs, ByteArray.toList_eq, ByteArray.toList_eq, Bool.eq_iff_iff, ← html_eq l]
      simp)
    have hshb : sh.size ≤ 9000 := by omega
    have Hshl := hidden (show sh.data.toList = html l by rw [hsh])
    have Hshz := hidden hshz
    have Hsl := hidden hsl
    have Hsz := hidden hsz
    have hsb : s.size ≤ 1500 := by omega
    clear hs hsl hsz hl T hhl hsh hshz
    go_enter Tryd.func8, Tryd.ntmps8
    go_wp2_with fail
    refine Calls.mono (H1.out _) ?_
    rintro e w1 ⟨rfl, S1⟩
    have HS1 := hidden S1
    clear S1
    go_wp2
    go_loopw [4, 5] (fun pv iv wr => ∃ (i : Nat) (b : Bool), pv = .bool b ∧ iv = .int .i64 (i : Int) ∧ i ≤ s.size ∧ Hid (Step (fun _ => False) w wr) ∧ Hid (b = (l.take i).all (fun c => !markS c.toNat))) (fun _ iv _ => s.size - (RowKit.intOf iv).toNat)
    case atStart => exact ⟨0, true, rfl, rfl, Nat.zero_le _, HS1.out, hidden (by simp)⟩
    case round =>
      obtain ⟨i, b, rfl, rfl, his, HSt, HZ⟩ := hrel
      by_cases hi : i < s.size
      · have i0 : (0 : Int) ≤ (i : Int) := by omega
        have iz : (i : Int) < (s.size : Int) := by omega
        have hil : i < l.length := by have := Hsz.out; omega
        have ci : (s[i]'hi).toNat = (l[i]'hil).toNat := by
          rw [getD_at s l Hsl.out i hi]; simp [List.getD, hil]
        have HTk := hidden (show l.take (i + 1) = l.take i ++ [l[i]'hil] from List.take_succ_eq_append_getElem hil)
        generalize l[i]'hil = c at *
        have HZ2 := hidden (show (b && !markS c.toNat) = (l.take (i + 1)).all (fun c => !markS c.toNat) by
          rw [HTk.out, List.all_append, ← HZ.out]; simp)
        obtain ⟨x, hx⟩ : ∃ x, x = c.toNat := ⟨_, rfl⟩
        rw [← hx] at ci HZ2
        clear hx hil
        cases b with
        | false =>
          go_wp2
          go_roundw
          case rel => exact ⟨i + 1, false, rfl, by go_num, by omega, HSt.out, HZ2.out⟩
          case measure => simp [RowKit.intOf]; omega
        | true =>
          by_cases hm : x = 38 ∨ x = 60 ∨ x = 62 ∨ x = 34
          · have hmk : markS x = true := by rcases hm with rfl | rfl | rfl | rfl <;> rfl
            rw [hmk] at HZ2
            clear hmk
            rcases hm with rfl | rfl | rfl | rfl <;> (
              go_wp2
              go_roundw
              case rel => exact ⟨i + 1, false, rfl, by go_num, by omega, HSt.out, HZ2.out⟩
              case measure => simp [RowKit.intOf]; omega)
          · have hmk : markS x = false := by
              unfold markS
              simp only [not_or] at hm
              simp [hm.1, hm.2.1, hm.2.2.1, hm.2.2.2]
            rw [hmk] at HZ2
            have g1 : ((x : Int) != 38) = true := by rw [bne_iff_ne]; omega
            have g2 : ((x : Int) != 60) = true := by rw [bne_iff_ne]; omega
            have g3 : ((x : Int) != 62) = true := by rw [bne_iff_ne]; omega
            have g4 : ((x : Int) != 34) = true := by rw [bne_iff_ne]; omega
            clear hmk hm
            go_wp2
            go_roundw
            case rel => exact ⟨i + 1, true, rfl, by go_num, by omega, HSt.out, HZ2.out⟩
            case measure => simp [RowKit.intOf]; omega
      · have iz : ¬ ((i : Int) < (s.size : Int)) := by omega
        have HB := hidden (show (sh.toList == s.toList) = b by
          rw [HQ.out, HZ.out, List.take_of_length_le (by have := Hsz.out; omega)])
        clear hi his
        go_wp2
        go_loopw [6] (fun iv wr => ∃ j : Nat, iv = .int .i64 (j : Int) ∧ j ≤ sh.size ∧ Hid (Step (fun _ => False) w wr)) (fun iv _ => sh.size - (RowKit.intOf iv).toNat)
        case atStart => exact ⟨0, rfl, Nat.zero_le _, HSt.out⟩
        case round =>
          obtain ⟨j, rfl, hjs, HSj⟩ := hrel
          by_cases hj : j < sh.size
          · have j0 : (0 : Int) ≤ (j : Int) := by omega
            have jz : (j : Int) < (sh.size : Int) := by omega
            have hjl : j < (html l).length := by have := Hshz.out; omega
            have cj : (sh[j]'hj).toNat = ((html l)[j]'hjl).toNat := by
              rw [getD_at sh _ Hshl.out j hj]; simp [List.getD, hjl]
            obtain ⟨n1, n2, n3⟩ := Hn.out _ (List.getElem_mem hjl)
            generalize ((html l)[j]'hjl).toNat = y at *
            have g1 : ((y : Int) == 60) = false := by rw [beq_eq_false_iff_ne]; omega
            have g2 : ((y : Int) == 62) = false := by rw [beq_eq_false_iff_ne]; omega
            have g3 : ((y : Int) == 34) = false := by rw [beq_eq_false_iff_ne]; omega
            clear hjl n1 n2 n3
            go_wp2
            go_roundw
            case rel => exact ⟨j + 1, by go_num, by omega, HSj.out⟩
            case measure => simp [RowKit.intOf]; omega
          · have jz : ¬ ((j : Int) < (sh.size : Int)) := by omega
            have hq := HB.out
            have HK2 := hidden (HK.out _ (TT.out.step HSj.out))
            go_wp2_with fail
            refine Calls.mono HK2.out ?_
            rintro e w9 ⟨rfl, S9⟩
            have HS9 := hidden (HSj.out.made S9)
            clear S9
            go_wp2
            go_ret
            exact ⟨rfl, HS9.out⟩
  · have z0 : (1500 : Int) < (s.size : Int) := by omega
    clear hs hsl hsz hl T
    go_enter Tryd.func8, Tryd.ntmps8
    go_wp2
    go_ret
    exact ⟨rfl, HS.out⟩

end Go.Proofs.YtmegfcgnemfjnaaDoor
