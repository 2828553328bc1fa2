/-
  HTML: the page's way.
-/
import Derived.Test.YtmegfcgnemfjnaaDoorEOwn
import Derived.Test.YtmegfcgnemfjnaaDoorEUnN
namespace Go.Proofs.YtmegfcgnemfjnaaDoor
open Go.RowKit Go.Lib

set_option maxHeartbeats 4000000 in
theorem phtml_any (l : List UInt8) (w : World) (hl : l.length ≤ 20000) :
    Calls Tryd.prog 19 #[str l] w fun e w' => e = .returned (str (html l)) ∧ Step (fun _ => False) w w' := by
  obtain ⟨s, hs⟩ : ∃ s : ByteArray, s = ⟨l.toArray⟩ := ⟨_, rfl⟩
  have hsl : s.data.toList = l := by rw [hs]
  have hsz : s.size = l.length := by rw [hs]; exact ba_size l
  unfold str
  rw [← hs]
  have Hsl := hidden hsl
  have Hsz := hidden hsz
  have hsb : s.size ≤ 20000 := by omega
  have HO0 := hidden (OB.nil w)
  clear hs hsl hsz hl
  go_enter Tryd.func19, Tryd.ntmps19
  go_wp2
  go_loopw [3, 4] (fun bv iv wr => ∃ (i : Nat) (acc : List UInt8), iv = .int .i64 (i : Int) ∧ i ≤ s.size ∧ Hid (OB w wr bv acc) ∧ Hid (acc ++ html (l.drop i) = html l ∧ acc.length ≤ 6 * i)) (fun _ iv _ => s.size - (RowKit.intOf iv).toNat)
  case atStart => exact ⟨0, [], rfl, Nat.zero_le _, HO0.out, by simp, by simp⟩
  case round =>
    obtain ⟨i, acc, rfl, his, HO, HF⟩ := hrel
    by_cases hi : i < s.size
    · have i0 : (0 : Int) ≤ (i : Int) := by omega
      have iz : (i : Int) < (s.size : Int) := by omega
      have iz2 : (i : Int) ≤ (s.size : Int) := by omega
      have hil : i < l.length := by have := Hsz.out; omega
      have hdr : l.drop i = l[i]'hil :: l.drop (i + 1) := List.drop_eq_getElem_cons hil
      have ci : (s[i]'hi).toNat = (l[i]'hil).toNat := by
        rw [getD_at s l Hsl.out i hi]; simp [List.getD, hil]
      generalize l[i]'hil = c at *
      have hc := c.toNat_lt
      clear hil
      obtain ⟨x, hx⟩ : ∃ x, x = c.toNat := ⟨_, rfl⟩
      have hst : html (l.drop i) = htmlR c ++ html (l.drop (i + 1)) := by rw [hdr]; simp [html]
      have hln := (htmlR_len c).2.1
      have HN := hidden (show (acc ++ htmlR c) ++ html (l.drop (i + 1)) = html l ∧ (acc ++ htmlR c).length ≤ 6 * (i + 1) by
        refine ⟨by rw [← HF.out.1, hst]; simp, ?_⟩
        rw [List.length_append]; have := HF.out.2; omega)
      rw [← hx] at ci hc
      by_cases h38 : x = 38
      · have hr : htmlR c = [38, 97, 109, 112, 59] := by unfold htmlR; rw [if_pos (by rw [← hx]; exact h38)]
        rw [hr] at HN
        subst h38
        have Hab := hidden (show acc.length + 5 ≤ 1000000 by have := HF.out.2; omega)
        clear hst hln hr hdr hx
        go_wp2_with (at_builtin; refine app_str rfl (.tmp 22) (.const (.string ⟨#[38, 97, 109, 112, 59]⟩)) rfl _ acc rfl HO.out ⟨#[38, 97, 109, 112, 59]⟩ [38, 97, 109, 112, 59] rfl rfl Hab.out ?_)
        intro v3 w3 h3
        have HJ := hidden h3
        clear h3
        go_wp2
        go_roundw
        case rel => exact ⟨i + 1, acc ++ [38, 97, 109, 112, 59], by go_num, by omega, HJ.out, HN.out⟩
        case measure => simp [RowKit.intOf]; omega
      have g38 : ((x : Int) == 38) = false := by rw [beq_eq_false_iff_ne]; omega
      by_cases h60 : x = 60
      · have hr : htmlR c = [38, 108, 116, 59] := by unfold htmlR; rw [if_neg (by rw [← hx]; exact h38), if_pos (by rw [← hx]; exact h60)]
        rw [hr] at HN
        subst h60
        have Hab := hidden (show acc.length + 4 ≤ 1000000 by have := HF.out.2; omega)
        clear hst hln hr hdr hx
        go_wp2_with (at_builtin; refine app_str rfl (.tmp 26) (.const (.string ⟨#[38, 108, 116, 59]⟩)) rfl _ acc rfl HO.out ⟨#[38, 108, 116, 59]⟩ [38, 108, 116, 59] rfl rfl Hab.out ?_)
        intro v3 w3 h3
        have HJ := hidden h3
        clear h3
        go_wp2
        go_roundw
        case rel => exact ⟨i + 1, acc ++ [38, 108, 116, 59], by go_num, by omega, HJ.out, HN.out⟩
        case measure => simp [RowKit.intOf]; omega
      have g60 : ((x : Int) == 60) = false := by rw [beq_eq_false_iff_ne]; omega
      by_cases h62 : x = 62
      · have hr : htmlR c = [38, 103, 116, 59] := by unfold htmlR; rw [if_neg (by rw [← hx]; exact h38), if_neg (by rw [← hx]; exact h60), if_pos (by rw [← hx]; exact h62)]
        rw [hr] at HN
        subst h62
        have Hab := hidden (show acc.length + 4 ≤ 1000000 by have := HF.out.2; omega)
        clear hst hln hr hdr hx
        go_wp2_with (at_builtin; refine app_str rfl (.tmp 30) (.const (.string ⟨#[38, 103, 116, 59]⟩)) rfl _ acc rfl HO.out ⟨#[38, 103, 116, 59]⟩ [38, 103, 116, 59] rfl rfl Hab.out ?_)
        intro v3 w3 h3
        have HJ := hidden h3
        clear h3
        go_wp2
        go_roundw
        case rel => exact ⟨i + 1, acc ++ [38, 103, 116, 59], by go_num, by omega, HJ.out, HN.out⟩
        case measure => simp [RowKit.intOf]; omega
      have g62 : ((x : Int) == 62) = false := by rw [beq_eq_false_iff_ne]; omega
      by_cases h34 : x = 34
      · have hr : htmlR c = [38, 113, 117, 111, 116, 59] := by unfold htmlR; rw [if_neg (by rw [← hx]; exact h38), if_neg (by rw [← hx]; exact h60), if_neg (by rw [← hx]; exact h62), if_pos (by rw [← hx]; exact h34)]
        rw [hr] at HN
        subst h34
        have Hab := hidden (show acc.length + 6 ≤ 1000000 by have := HF.out.2; omega)
        clear hst hln hr hdr hx
        go_wp2_with (at_builtin; refine app_str rfl (.tmp 34) (.const (.string ⟨#[38, 113, 117, 111, 116, 59]⟩)) rfl _ acc rfl HO.out ⟨#[38, 113, 117, 111, 116, 59]⟩ [38, 113, 117, 111, 116, 59] rfl rfl Hab.out ?_)
        intro v3 w3 h3
        have HJ := hidden h3
        clear h3
        go_wp2
        go_roundw
        case rel => exact ⟨i + 1, acc ++ [38, 113, 117, 111, 116, 59], by go_num, by omega, HJ.out, HN.out⟩
        case measure => simp [RowKit.intOf]; omega
      have g34 : ((x : Int) == 34) = false := by rw [beq_eq_false_iff_ne]; omega
      have hr : htmlR c = [c] := by unfold htmlR; rw [if_neg (by rw [← hx]; exact h38), if_neg (by rw [← hx]; exact h60), if_neg (by rw [← hx]; exact h62), if_neg (by rw [← hx]; exact h34)]
      rw [hr] at HN
      clear hst hln hr hdr h38 h60 h62 h34
      have hx8 : (Value.int .u8 (x : Int)) = .int .u8 (c.toNat : Int) := by rw [hx]
      have HX8 := hidden hx8
      have Hab := hidden (show acc.length + [c].length ≤ 1000000 by have := HF.out.2; simp; omega)
      clear hx8 hx
      go_wp2_with (at_builtin; refine app_row rfl (.tmp 14) (.tmp 18) rfl _ acc rfl (HO.out.alloc _) _ [c] rfl (rb_lit _ [c] _ 1 rfl (by rw [HX8.out]; rfl)) Hab.out ?_)
      intro v3 w3 h3
      have HJ := hidden h3
      clear h3
      go_wp2
      go_roundw
      case rel => exact ⟨i + 1, acc ++ [c], by go_num, by omega, HJ.out, HN.out⟩
      case measure => simp [RowKit.intOf]; omega
    · have HE := hidden (show acc = html l by
        have h := HF.out.1
        rw [List.drop_of_length_le (by have := Hsz.out; omega)] at h
        simpa [html] using h)
      have iz : ¬ ((i : Int) < (s.size : Int)) := by omega
      have hcv := conv_any HO.out.own.rb
      go_wp2
      go_ret
      exact ⟨by rw [← HE.out]; rfl, HO.out.st⟩

end Go.Proofs.YtmegfcgnemfjnaaDoor
