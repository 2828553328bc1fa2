/-
  HTML: the code's way.
-/
import Derived.Test.YtmegfcgnemfjnabDoorECode4
namespace Go.Proofs.YtmegfcgnemfjnabDoor
open Go.RowKit Go.Lib

set_option maxHeartbeats 4000000 in
theorem html_any (l : List UInt8) (w : World) (hl : l.length ≤ 20000) :
    Calls Tryd.prog 9 #[str l] w fun e w' => e = .returned (str (html l)) ∧ Step (fun _ => False) w w' := by
  obtain ⟨s, hs⟩ : ∃ s : ByteArray, s = ⟨l.toArray⟩ := ⟨_, rfl⟩
  have hsl : s.data.toList = l := by rw [hs]
  have hsz : s.size = l.length := by rw [hs]; exact ba_size l
  unfold str
  rw [← hs]
  have Hsl := hidden hsl
  have Hsz := hidden hsz
  have hsb : s.size ≤ 20000 := by omega
  clear hs hsl hsz hl
  go_enter Tryd.func9, Tryd.ntmps9
  go_wp2_with fail
  refine Calls.mono (grow_any w.heap.size w.heap.size s.size _ (Nat.le_refl _) (heap_alloc_new w _) (by simp) (by omega)) ?_
  rintro e w1 ⟨rfl, hB1, hb1⟩
  have HB1 := hidden (And.intro (Lib.IsBuilderF.of (.inr hB1)) (((Below.refl w.heap.size w).alloc (Nat.le_refl _) (.cells #[.pointer none, .slice none 0 0] 29 (0, 0))).trans hb1))
  clear hB1 hb1
  go_wp2
  go_loopw [11] (fun iv wr => ∃ (i : Nat) (acc : List UInt8), iv = .int .i64 (i : Int) ∧ i ≤ s.size ∧ Hid (Lib.IsBuilderF 29 5 w.heap.size w.heap.size (Lib.byteCells acc) wr ∧ Below w.heap.size w wr) ∧ Hid (acc ++ html (l.drop i) = html l ∧ acc.length ≤ 6 * i)) (fun iv _ => s.size - (RowKit.intOf iv).toNat)
  case atStart => exact ⟨0, [], rfl, Nat.zero_le _, HB1.out, by simp, by simp⟩
  case round =>
    obtain ⟨i, acc, rfl, his, HB, HF⟩ := hrel
    by_cases hi : i < s.size
    · have i0 : (0 : Int) ≤ (i : Int) := by omega
      have iz : (i : Int) < (s.size : Int) := by omega
      have iz2 : (i : Int) ≤ (s.size : Int) := by omega
      have hil : i < l.length := by have := Hsz.out; omega
      have hdr : l.drop i = l[i]'hil :: l.drop (i + 1) := List.drop_eq_getElem_cons hil
      have ci : (s[i]'hi).toNat = (l[i]'hil).toNat := by
        rw [getD_at s l Hsl.out i hi]; simp [List.getD, hil]
      generalize l[i]'hil = c at *
      have hc := c.toNat_lt
      obtain ⟨x, hx⟩ : ∃ x, x = c.toNat := ⟨_, rfl⟩
      have hst : html (l.drop i) = htmlR c ++ html (l.drop (i + 1)) := by rw [hdr]; simp [html]
      have hln := (htmlR_len c).2.1
      have HN := hidden (show (acc ++ htmlR c) ++ html (l.drop (i + 1)) = html l ∧ (acc ++ htmlR c).length ≤ 6 * (i + 1) by
        refine ⟨by rw [← HF.out.1, hst]; simp, ?_⟩
        rw [List.length_append]; have := HF.out.2; omega)
      rw [← hx] at ci hc
      by_cases h38 : x = 38
      · have hr : htmlR c = [38, 97, 109, 112, 59] := by unfold htmlR; rw [if_pos (by rw [← hx]; exact h38)]
        rw [hr] at HN
        subst h38
        clear hst hln hr hdr
        have HW := hidden (ws_any w.heap.size w.heap.size (Lib.byteCells acc) ⟨#[38, 97, 109, 112, 59]⟩ wr HB.out.1 (by rw [Lib.byteCells_length]; have := HF.out.2; have : (⟨#[38, 97, 109, 112, 59]⟩ : ByteArray).size = 5 := rfl; omega) HB.out.2.size)
        go_wp2_with fail
        refine Calls.mono HW.out ?_
        rintro e w3 ⟨rfl, h1, b1, k1⟩
        have HJ := hidden (And.intro (show Lib.IsBuilderF 29 5 w.heap.size w.heap.size (Lib.byteCells (acc ++ [38, 97, 109, 112, 59])) w3 by
          rw [Lib.byteCells_append]; exact .inr h1) (HB.out.2.trans b1))
        clear h1 b1 k1
        go_wp2
        go_roundw
        case rel => exact ⟨i + 1, acc ++ [38, 97, 109, 112, 59], by go_num, by omega, HJ.out, HN.out⟩
        case measure => simp [RowKit.intOf]; omega
      have g38 : ((x : Int) == 38) = false := by rw [beq_eq_false_iff_ne]; omega
      by_cases h60 : x = 60
      · have hr : htmlR c = [38, 108, 116, 59] := by unfold htmlR; rw [if_neg (by rw [← hx]; exact h38), if_pos (by rw [← hx]; exact h60)]
        rw [hr] at HN
        subst h60
        clear hst hln hr hdr
        have HW := hidden (ws_any w.heap.size w.heap.size (Lib.byteCells acc) ⟨#[38, 108, 116, 59]⟩ wr HB.out.1 (by rw [Lib.byteCells_length]; have := HF.out.2; have : (⟨#[38, 108, 116, 59]⟩ : ByteArray).size = 4 := rfl; omega) HB.out.2.size)
        go_wp2_with fail
        refine Calls.mono HW.out ?_
        rintro e w3 ⟨rfl, h1, b1, k1⟩
        have HJ := hidden (And.intro (show Lib.IsBuilderF 29 5 w.heap.size w.heap.size (Lib.byteCells (acc ++ [38, 108, 116, 59])) w3 by
          rw [Lib.byteCells_append]; exact .inr h1) (HB.out.2.trans b1))
        clear h1 b1 k1
        go_wp2
        go_roundw
        case rel => exact ⟨i + 1, acc ++ [38, 108, 116, 59], by go_num, by omega, HJ.out, HN.out⟩
        case measure => simp [RowKit.intOf]; omega
      have g60 : ((x : Int) == 60) = false := by rw [beq_eq_false_iff_ne]; omega
      by_cases h62 : x = 62
      · have hr : htmlR c = [38, 103, 116, 59] := by unfold htmlR; rw [if_neg (by rw [← hx]; exact h38), if_neg (by rw [← hx]; exact h60), if_pos (by rw [← hx]; exact h62)]
        rw [hr] at HN
        subst h62
        clear hst hln hr hdr
        have HW := hidden (ws_any w.heap.size w.heap.size (Lib.byteCells acc) ⟨#[38, 103, 116, 59]⟩ wr HB.out.1 (by rw [Lib.byteCells_length]; have := HF.out.2; have : (⟨#[38, 103, 116, 59]⟩ : ByteArray).size = 4 := rfl; omega) HB.out.2.size)
        go_wp2_with fail
        refine Calls.mono HW.out ?_
        rintro e w3 ⟨rfl, h1, b1, k1⟩
        have HJ := hidden (And.intro (show Lib.IsBuilderF 29 5 w.heap.size w.heap.size (Lib.byteCells (acc ++ [38, 103, 116, 59])) w3 by
          rw [Lib.byteCells_append]; exact .inr h1) (HB.out.2.trans b1))
        clear h1 b1 k1
        go_wp2
        go_roundw
        case rel => exact ⟨i + 1, acc ++ [38, 103, 116, 59], by go_num, by omega, HJ.out, HN.out⟩
        case measure => simp [RowKit.intOf]; omega
      have g62 : ((x : Int) == 62) = false := by rw [beq_eq_false_iff_ne]; omega
      by_cases h34 : x = 34
      · have hr : htmlR c = [38, 113, 117, 111, 116, 59] := by unfold htmlR; rw [if_neg (by rw [← hx]; exact h38), if_neg (by rw [← hx]; exact h60), if_neg (by rw [← hx]; exact h62), if_pos (by rw [← hx]; exact h34)]
        rw [hr] at HN
        subst h34
        clear hst hln hr hdr
        have HW := hidden (ws_any w.heap.size w.heap.size (Lib.byteCells acc) ⟨#[38, 113, 117, 111, 116, 59]⟩ wr HB.out.1 (by rw [Lib.byteCells_length]; have := HF.out.2; have : (⟨#[38, 113, 117, 111, 116, 59]⟩ : ByteArray).size = 6 := rfl; omega) HB.out.2.size)
        go_wp2_with fail
        refine Calls.mono HW.out ?_
        rintro e w3 ⟨rfl, h1, b1, k1⟩
        have HJ := hidden (And.intro (show Lib.IsBuilderF 29 5 w.heap.size w.heap.size (Lib.byteCells (acc ++ [38, 113, 117, 111, 116, 59])) w3 by
          rw [Lib.byteCells_append]; exact .inr h1) (HB.out.2.trans b1))
        clear h1 b1 k1
        go_wp2
        go_roundw
        case rel => exact ⟨i + 1, acc ++ [38, 113, 117, 111, 116, 59], by go_num, by omega, HJ.out, HN.out⟩
        case measure => simp [RowKit.intOf]; omega
      have g34 : ((x : Int) == 34) = false := by rw [beq_eq_false_iff_ne]; omega
      have hr : htmlR c = [c] := by unfold htmlR; rw [if_neg (by rw [← hx]; exact h38), if_neg (by rw [← hx]; exact h60), if_neg (by rw [← hx]; exact h62), if_neg (by rw [← hx]; exact h34)]
      rw [hr] at HN
      clear hst hln hr hdr
      have hcx : Lib.byteCells [c] = [Value.int .u8 (x : Int)] := by rw [hx]; rfl
      have HCX := hidden hcx
      clear hcx hx h38 h60 h62 h34
      have HW := hidden (wb_any w.heap.size w.heap.size (Lib.byteCells acc) (x : Int) _ HB.out.1 (by rw [Lib.byteCells_length]; have := HF.out.2; omega) HB.out.2.size)
      go_wp2_with fail
      refine Calls.mono HW.out ?_
      rintro e w3 ⟨rfl, h1, b1, k1⟩
      have HJ := hidden (And.intro (show Lib.IsBuilderF 29 5 w.heap.size w.heap.size (Lib.byteCells (acc ++ [c])) w3 by
        rw [Lib.byteCells_append, HCX.out]; exact .inr h1) (HB.out.2.trans b1))
      clear h1 b1 k1
      go_wp2
      go_roundw
      case rel => exact ⟨i + 1, acc ++ [c], by go_num, by omega, HJ.out, HN.out⟩
      case measure => simp [RowKit.intOf]; omega
    · have HE := hidden (show acc = html l by
        have h := HF.out.1
        rw [List.drop_of_length_le (by have := Hsz.out; omega)] at h
        simpa [html] using h)
      have HSt := hidden (string_any w.heap.size w.heap.size acc wr HB.out.1 HB.out.2.size)
      have iz : ¬ ((i : Int) < (s.size : Int)) := by omega
      go_wp2_with fail
      refine Calls.mono HSt.out ?_
      rintro e W1 ⟨rfl, _, b1, _⟩
      have HF2 := hidden (Step.of_below (HB.out.2.trans b1))
      clear b1
      go_wp2
      go_ret
      exact ⟨by rw [← HE.out]; rfl, HF2.out⟩

end Go.Proofs.YtmegfcgnemfjnabDoor
