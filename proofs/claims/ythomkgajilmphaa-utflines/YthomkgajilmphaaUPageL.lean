/-
  Lines of a text: the page's.
-/
import Derived.Test.YthomkgajilmphaaULinesW
namespace Go.Proofs.Ythomkgajilmphaa
open Go.RowKit Go.Lib

theorem one_str (y : List UInt8) : ∀ u ∈ [str y], u.oneCell' = true := by
  intro u hu
  simp at hu
  subst hu
  rfl
theorem seg_one (l : List UInt8) (a i : Nat) (h : a ≤ i) (hi : i < l.length) : seg l a i ++ [l.getD i 0] = seg l a (i + 1) := by
  rw [← seg_more l a i 1 h, drop_one hi]
  rfl
theorem pl_plain (l : List UInt8) (a i : Nat) (h : a ≤ i) (hi : i < l.length) (h0 : l.getD i 0 ≠ 10) (h1 : l.getD i 0 ≠ 13) :
    lnG false (seg l a i) (l.drop i) = lnG false (seg l a (i + 1)) (l.drop (i + 1)) := by
  rw [drop_one hi, lnG_plain _ _ _ _ h0 h1, seg_one l a i h hi]
theorem pl_lf (l : List UInt8) (a i : Nat) (hi : i < l.length) (h0 : l.getD i 0 = 10) :
    lnG false (seg l a i) (l.drop i) = seg l a i :: lnG false (seg l (i + 1) (i + 1)) (l.drop (i + 1)) := by
  rw [drop_one hi, h0, lnG_lf false rfl, seg_same]
theorem pl_cr2 (l : List UInt8) (a i : Nat) (hi : i < l.length) (h0 : l.getD i 0 = 13) (h1 : i + 1 < l.length) (h2 : l.getD (i + 1) 0 = 10) :
    lnG false (seg l a i) (l.drop i) = seg l a i :: lnG false (seg l (i + 2) (i + 2)) (l.drop (i + 2)) := by
  rw [drop_one hi, h0, lnG_cr, drop_one h1, h2, lnG_second, seg_same]
theorem pl_cr (l : List UInt8) (a i : Nat) (hi : i < l.length) (h0 : l.getD i 0 = 13) (h1 : ¬ (i + 1 < l.length ∧ l.getD (i + 1) 0 = 10)) :
    lnG false (seg l a i) (l.drop i) = seg l a i :: lnG false (seg l (i + 1) (i + 1)) (l.drop (i + 1)) := by
  rw [drop_one hi, h0, lnG_cr, seg_same, lnG_flag]
  intro b u hb
  by_cases hlt : i + 1 < l.length
  · rw [drop_one hlt] at hb
    injection hb with e _
    subst e
    exact fun e => h1 ⟨hlt, e⟩
  · rw [List.drop_of_length_le (by omega)] at hb
    cases hb

set_option maxHeartbeats 4000000 in
theorem plines_any (l : List UInt8) (w : World) (hl : l.length ≤ 100000) :
    Calls Try.prog 8 #[str l] w fun e w' => ∃ v, e = .returned v ∧ Own w w' v (linesD l) ∧ Step (fun _ => False) w w' := by
  obtain ⟨s, hs⟩ : ∃ s : ByteArray, s = ⟨l.toArray⟩ := ⟨_, rfl⟩
  have hsl : s.data.toList = l := by rw [hs]
  have hsz : s.size = l.length := by rw [hs]; exact ba_size l
  unfold str
  rw [← hs]
  have Hsl := hidden hsl
  have Hsz := hidden hsz
  have hsb : s.size ≤ 100000 := by omega
  clear hs hsl hsz hl
  go_enter Try.func8, Try.ntmps8
  go_wp2
  go_loopw [3, 4, 5] (fun lv bv iv wr => ∃ (i a n : Nat) (L : List (List UInt8)), bv = .int .i64 (a : Int) ∧ iv = .int .i64 (i : Int) ∧ Hid (Own w wr lv L ∧ Step (fun _ => False) w wr) ∧ Hid (n = L.length) ∧ n ≤ i ∧
      Hid (L ++ lnG false (seg l a i) (l.drop i) = linesD l) ∧ a ≤ i ∧ i ≤ s.size) (fun _ _ iv _ => s.size - (RowKit.intOf iv).toNat)
  case atStart =>
    exact ⟨0, 0, 0, [], rfl, rfl, ⟨Own.nil _ _, Step.refl _ w⟩, rfl, Nat.le_refl _, by rw [seg_same]; rfl, Nat.le_refl _, Nat.zero_le _⟩
  case round =>
    obtain ⟨i, a, n, L, rfl, rfl, HO, Hn, hni, HL, hai, his⟩ := hrel
    by_cases hp : i < s.size
    · have hp2 : i < l.length := by have := Hsz.out; omega
      have c0 : s[i]'hp = l.getD i 0 := getD_at s l Hsl.out i hp
      have HP := hidden (fun h0 h1 => pl_plain l a i hai hp2 h0 h1)
      have HLF := hidden (fun h0 => pl_lf l a i hp2 h0)
      have HCR := hidden (fun h0 h1 => pl_cr l a i hp2 h0 h1)
      have HCR2 := hidden (fun h0 h1 h2 => pl_cr2 l a i hp2 h0 h1 h2)
      obtain ⟨x, hx⟩ : ∃ x, l.getD i 0 = x := ⟨_, rfl⟩
      rw [hx] at c0
      have Hx := hidden hx
      have hxl := x.toNat_lt
      have pz : (i : Int) < (s.size : Int) := by omega
      have i0 : (0 : Int) ≤ (i : Int) := by omega
      clear hx
      by_cases h : x.toNat ≠ 10 ∧ x.toNat ≠ 13
      · have HK := hidden (HP.out (by rw [Hx.out]; intro e; subst e; exact h.1 rfl) (by rw [Hx.out]; intro e; subst e; exact h.2 rfl))
        have g10 : ((x.toNat : Int) != 10) = true := by rw [bne_iff_ne]; omega
        have g13 : ((x.toNat : Int) != 13) = true := by rw [bne_iff_ne]; omega
        clear h
        go_wp2
        go_roundw
        case rel => exact ⟨i + 1, a, n, L, rfl, by go_num, HO.out, Hn, by omega, by rw [← HK.out]; exact HL.out, by omega, by omega⟩
        case measure => simp [RowKit.intOf]; omega
      · have hr2 : x.toNat = 10 ∨ x.toNat = 13 := by omega
        have hex := ext_seg s l Hsl.out a i (by omega)
        have b0 : (0 : Int) ≤ (a : Int) := by omega
        have bp : (a : Int) ≤ (i : Int) := by omega
        have pz2 : (i : Int) ≤ (s.size : Int) := by omega
        clear h
        rcases hr2 with hr | hr
        · have hx10 : x = 10 := u8_eq x 10 (by omega) hr
          have HL2 := hidden (show L ++ [seg l a i] ++ lnG false (seg l (i + 1) (i + 1)) (l.drop (i + 1)) = linesD l by rw [← HL.out, HLF.out (by rw [Hx.out, hx10])]; simp)
          have g10 : ((x.toNat : Int) != 10) = false := by simp [hr]
          have g13 : ((x.toNat : Int) == 13) = false := by simp [hr]
          generalize seg l a i = y at *
          clear hr hx10
          have hm3 : L.length + 1 ≤ maxLen := by have := Hn.out; unfold maxLen; omega
          have hm4 : (L.length + 1) * 16 ≤ 140737488355328 := by have := Hn.out; omega
          obtain ⟨i9, hi, hz0, hz1, hz2⟩ := info_parts Try.info9
          go_wp2_with (at_builtin; refine wpList_append_at _ rfl (.tmp 22) (.tmp 27) 23 rfl 9 i9 (.string ⟨#[]⟩) 1 16 Try.underlying23 hi hz0 hz1 hz2 rfl (by decide) _ L.length (strs L) rfl (HO.out.1.own |> fun h => owns_step h ((Step.refl (fun _ => False) wr).alloc _) (fun _ _ h => h)) ⟨wr.heap.size, 0, none⟩ 1 1 [str y] rfl rfl (cell_one_new _ _ _) (one_str y) hm3 hm4 ?_)
          intro v3 w3 hown3 hgrow3 hnil3 hb3
          have HF := hidden (own_more HO.out.1.new HO.out.2.size hown3 hgrow3 (by simpa using hb3) HO.out.2)
          clear hown3 hgrow3 hnil3 hb3
          go_wp2
          go_roundw
          case rel => exact ⟨i + 1, i + 1, n + 1, L ++ [y], by go_num, by go_num, HF.out.1 |> fun h => ⟨h, HF.out.2⟩, by have := Hn.out; simp; omega, by omega, HL2.out, Nat.le_refl _, by omega⟩
          case measure => simp [RowKit.intOf]; omega
        · have hx13 : x = 13 := u8_eq x 13 (by omega) hr
          have g10 : ((x.toNat : Int) != 10) = true := by rw [bne_iff_ne]; omega
          have g13n : ((x.toNat : Int) != 13) = false := by simp [hr]
          have g13 : ((x.toNat : Int) == 13) = true := by simp [hr]
          by_cases h1 : i + 1 < s.size
          · obtain ⟨z, hz⟩ : ∃ z, l.getD (i + 1) 0 = z := ⟨_, rfl⟩
            have hzl := z.toNat_lt
            obtain ⟨j, hj⟩ : ∃ j, j = i + 1 := ⟨_, rfl⟩
            have h1j : j < s.size := by omega
            have c1 : s[j]'h1j = l.getD j 0 := getD_at s l Hsl.out j h1j
            rw [show l.getD j 0 = z by rw [hj]; exact hz] at c1
            have Hj := hidden hj
            have h1z : (j : Int) < (s.size : Int) := by omega
            by_cases h2 : z.toNat = 10
            · have g2 : ((z.toNat : Int) == 10) = true := by simp [h2]
              have HL2 := hidden (show L ++ [seg l a i] ++ lnG false (seg l (i + 2) (i + 2)) (l.drop (i + 2)) = linesD l by rw [← HL.out, HCR2.out (by rw [Hx.out, hx13]) (by have := Hsz.out; have := Hj.out; omega) (by rw [hz]; exact u8_eq z 10 (by omega) h2)]; simp)
              have e1 : (i : Int) + 1 = (j : Int) := by omega
              generalize seg l a i = y at *
              clear hr hx13 h2 hz hj h1
              have hm3 : L.length + 1 ≤ maxLen := by have := Hn.out; unfold maxLen; omega
              have hm4 : (L.length + 1) * 16 ≤ 140737488355328 := by have := Hn.out; omega
              obtain ⟨i9, hi, hz0, hz1, hz2⟩ := info_parts Try.info9
              go_wp2_with (at_builtin; refine wpList_append_at _ rfl (.tmp 22) (.tmp 27) 23 rfl 9 i9 (.string ⟨#[]⟩) 1 16 Try.underlying23 hi hz0 hz1 hz2 rfl (by decide) _ L.length (strs L) rfl (HO.out.1.own |> fun h => owns_step h ((Step.refl (fun _ => False) wr).alloc _) (fun _ _ h => h)) ⟨wr.heap.size, 0, none⟩ 1 1 [str y] rfl rfl (cell_one_new _ _ _) (one_str y) hm3 hm4 ?_)
              intro v3 w3 hown3 hgrow3 hnil3 hb3
              have HF := hidden (own_more HO.out.1.new HO.out.2.size hown3 hgrow3 (by simpa using hb3) HO.out.2)
              clear hown3 hgrow3 hnil3 hb3
              go_wp2
              go_roundw
              case rel => exact ⟨i + 2, i + 2, n + 1, L ++ [y], by have := Hj.out; go_num, by have := Hj.out; go_num, HF.out.1 |> fun h => ⟨h, HF.out.2⟩, by have := Hn.out; simp; omega, by omega, HL2.out, Nat.le_refl _, by omega⟩
              case measure => simp [RowKit.intOf]; omega
            · have g2 : ((z.toNat : Int) == 10) = false := by simp; omega
              have HL2 := hidden (show L ++ [seg l a i] ++ lnG false (seg l (i + 1) (i + 1)) (l.drop (i + 1)) = linesD l by rw [← HL.out, HCR.out (by rw [Hx.out, hx13]) (by rintro ⟨_, e⟩; rw [hz] at e; subst e; exact h2 rfl)]; simp)
              have e1 : (i : Int) + 1 = (j : Int) := by omega
              generalize seg l a i = y at *
              clear hr hx13 h2 hz hj h1
              have hm3 : L.length + 1 ≤ maxLen := by have := Hn.out; unfold maxLen; omega
              have hm4 : (L.length + 1) * 16 ≤ 140737488355328 := by have := Hn.out; omega
              obtain ⟨i9, hi, hz0, hz1, hz2⟩ := info_parts Try.info9
              go_wp2_with (at_builtin; refine wpList_append_at _ rfl (.tmp 22) (.tmp 27) 23 rfl 9 i9 (.string ⟨#[]⟩) 1 16 Try.underlying23 hi hz0 hz1 hz2 rfl (by decide) _ L.length (strs L) rfl (HO.out.1.own |> fun h => owns_step h ((Step.refl (fun _ => False) wr).alloc _) (fun _ _ h => h)) ⟨wr.heap.size, 0, none⟩ 1 1 [str y] rfl rfl (cell_one_new _ _ _) (one_str y) hm3 hm4 ?_)
              intro v3 w3 hown3 hgrow3 hnil3 hb3
              have HF := hidden (own_more HO.out.1.new HO.out.2.size hown3 hgrow3 (by simpa using hb3) HO.out.2)
              clear hown3 hgrow3 hnil3 hb3
              go_wp2
              go_roundw
              case rel => exact ⟨i + 1, i + 1, n + 1, L ++ [y], by have := Hj.out; go_num, by have := Hj.out; go_num, HF.out.1 |> fun h => ⟨h, HF.out.2⟩, by have := Hn.out; simp; omega, by omega, HL2.out, Nat.le_refl _, by omega⟩
              case measure => simp [RowKit.intOf]; omega
          · have h1z : ¬ (i : Int) + 1 < (s.size : Int) := by omega
            have HL2 := hidden (show L ++ [seg l a i] ++ lnG false (seg l (i + 1) (i + 1)) (l.drop (i + 1)) = linesD l by rw [← HL.out, HCR.out (by rw [Hx.out, hx13]) (by rintro ⟨e, _⟩; have := Hsz.out; omega)]; simp)
            generalize seg l a i = y at *
            clear hr hx13 h1
            have hm3 : L.length + 1 ≤ maxLen := by have := Hn.out; unfold maxLen; omega
            have hm4 : (L.length + 1) * 16 ≤ 140737488355328 := by have := Hn.out; omega
            obtain ⟨i9, hi, hz0, hz1, hz2⟩ := info_parts Try.info9
            go_wp2_with (at_builtin; refine wpList_append_at _ rfl (.tmp 22) (.tmp 27) 23 rfl 9 i9 (.string ⟨#[]⟩) 1 16 Try.underlying23 hi hz0 hz1 hz2 rfl (by decide) _ L.length (strs L) rfl (HO.out.1.own |> fun h => owns_step h ((Step.refl (fun _ => False) wr).alloc _) (fun _ _ h => h)) ⟨wr.heap.size, 0, none⟩ 1 1 [str y] rfl rfl (cell_one_new _ _ _) (one_str y) hm3 hm4 ?_)
            intro v3 w3 hown3 hgrow3 hnil3 hb3
            have HF := hidden (own_more HO.out.1.new HO.out.2.size hown3 hgrow3 (by simpa using hb3) HO.out.2)
            clear hown3 hgrow3 hnil3 hb3
            go_wp2
            go_roundw
            case rel => exact ⟨i + 1, i + 1, n + 1, L ++ [y], by go_num, by go_num, HF.out.1 |> fun h => ⟨h, HF.out.2⟩, by have := Hn.out; simp; omega, by omega, HL2.out, Nat.le_refl _, by omega⟩
            case measure => simp [RowKit.intOf]; omega
    · have hpe : i = l.length := by have := Hsz.out; omega
      have HL2 := hidden (show L ++ (if a < l.length then [l.drop a] else []) = linesD l by
        have h := HL.out
        rw [hpe, ln_fin] at h
        exact h)
      have hse := seg_end l a
      by_cases hb : a < l.length
      · rw [if_pos hb] at HL2
        have hex := ext_seg s l Hsl.out a s.size (by have := Hsz.out; omega)
        rw [Hsz.out, hse, ← Hsz.out] at hex
        have b0 : (0 : Int) ≤ (a : Int) := by omega
        have bz : (a : Int) < (s.size : Int) := by have := Hsz.out; omega
        have bz2 : (a : Int) ≤ (s.size : Int) := by omega
        obtain ⟨y, hy⟩ : ∃ y, l.drop a = y := ⟨_, rfl⟩
        rw [hy] at hex HL2
        clear hy hse hpe hb
        have hm3 : L.length + 1 ≤ maxLen := by have := Hn.out; unfold maxLen; omega
        have hm4 : (L.length + 1) * 16 ≤ 140737488355328 := by have := Hn.out; omega
        obtain ⟨i9, hi, hz0, hz1, hz2⟩ := info_parts Try.info9
        go_wp2_with (at_builtin; refine wpList_append_at _ rfl (.tmp 55) (.tmp 59) 23 rfl 9 i9 (.string ⟨#[]⟩) 1 16 Try.underlying23 hi hz0 hz1 hz2 rfl (by decide) _ L.length (strs L) rfl (HO.out.1.own |> fun h => owns_step h ((Step.refl (fun _ => False) wr).alloc _) (fun _ _ h => h)) ⟨wr.heap.size, 0, none⟩ 1 1 [str y] rfl rfl (cell_one_new _ _ _) (one_str y) hm3 hm4 ?_)
        intro v3 w3 hown3 hgrow3 hnil3 hb3
        have HF := hidden (own_more HO.out.1.new HO.out.2.size hown3 hgrow3 (by simpa using hb3) HO.out.2)
        clear hown3 hgrow3 hnil3 hb3
        go_wp2
        go_ret
        exact ⟨v3, rfl, by rw [← HL2.out]; exact HF.out.1, HF.out.2⟩
      · rw [if_neg hb, List.append_nil] at HL2
        have bz : ¬ (a : Int) < (s.size : Int) := by have := Hsz.out; omega
        clear hse hpe hb
        go_wp2
        go_ret
        exact ⟨_, rfl, by rw [← HL2.out]; exact HO.out.1, HO.out.2⟩

end Go.Proofs.Ythomkgajilmphaa
