/-
  What is spelt at the beginning of a text: the page's way, whole.
-/
import Derived.Test.YtmegfcgnemfjnaaDoorEPage2
namespace Go.Proofs.YtmegfcgnemfjnaaDoor
open Go.RowKit Go.Lib

/-- Where the digits end. -/
theorem scn_end (base most : Nat) (l : List UInt8) (j : Nat) (hj : j ≤ most) (_hl : j ≤ l.length) (ha : (l.take j).all (isD base) = true) (he : j = l.length ∨ j = most ∨ ∃ hk : j < l.length, isD base (l[j]'hk) = false) : scn base most l = l.take j := by
  unfold scn
  have hall : ∀ c ∈ l.take j, isD base c = true := fun c hc => List.all_eq_true.1 ha c hc
  rcases he with he | he | ⟨hk, hd⟩
  · rw [List.take_of_length_le (show l.length ≤ most by omega), he, List.take_of_length_le (Nat.le_refl _)]
    rw [he, List.take_of_length_le (Nat.le_refl _)] at hall
    exact tw_all _ _ hall
  · subst he
    exact tw_all _ _ hall
  · by_cases hm : j = most
    · subst hm
      exact tw_all _ _ hall
    · have e : l.take most = l.take j ++ l[j]'hk :: (l.drop (j + 1)).take (most - j - 1) := by
        conv => lhs; rw [← List.take_append_drop j l]
        rw [List.take_append, List.take_of_length_le (by rw [List.length_take]; omega), List.drop_eq_getElem_cons hk]
        rw [show most - (List.take j l).length = (most - j - 1) + 1 by rw [List.length_take]; omega, List.take_succ_cons]
      rw [e]
      exact tw_stop _ _ _ _ hall hd

theorem numR_none (base most fr : Nat) (l D : List UInt8) (hs : scn base most (l.drop fr) = D) (h : D = [] ∨ l.length ≤ fr + D.length ∨ bN l (fr + D.length) ≠ 59) : numR base most fr l = ([], 0) := by
  unfold numR
  dsimp only
  rw [hs, if_pos h]
theorem numR_ok (base most fr : Nat) (l D : List UInt8) (hs : scn base most (l.drop fr) = D) (h : ¬ (D = [] ∨ l.length ≤ fr + D.length ∨ bN l (fr + D.length) ≠ 59)) : numR base most fr l = (encodeRune (((if numv base D = 0 then 65533 else numv base D : Nat) : Int)), fr + D.length + 1) := by
  unfold numR
  dsimp only
  rw [hs, if_neg h]

theorem begins_true (l : List UInt8) (h : begins l [38, 35] = true) : 2 ≤ l.length := by
  obtain ⟨t, rfl⟩ := (begins_iff _ _).1 h
  simp

set_option maxHeartbeats 16000000 in
theorem pat_any (s : ByteArray) (l : List UInt8) (h : s.data.toList = l) (hl : l.length ≤ 100000) (w : World) :
    Calls Tryd.prog 10 #[.string s] w fun e w' => e = .returned (atT (atR l)) ∧ Step (fun _ => False) w w' := by
  have Hsl := hidden h
  have hsz : s.size = l.length := by rw [← h]; rfl
  have Hsz := hidden hsz
  have hsb : s.size ≤ 100000 := by omega
  have HNm := hidden (pnamed_any s l h hl w)
  have HBg := hidden (fun wx => begins_any s ⟨#[38, 35]⟩ l [38, 35] h rfl hl (by simp) wx)
  have hA : atR l = if 0 < (namedR l).2 ∨ begins l [38, 35] = false then namedR l else if 2 < l.length ∧ (bN l 2 = 120 ∨ bN l 2 = 88) then numR 16 6 3 l else numR 10 7 2 l := rfl
  by_cases hn : 0 < (namedR l).2
  · rw [if_pos (.inl hn)] at hA
    rw [hA]
    unfold atT at HNm ⊢
    generalize namedR l = N at *
    obtain ⟨a, n⟩ := N
    dsimp only at *
    have z0 : (0 : Int) < (n : Int) := by omega
    unfold str at *
    generalize (⟨a.toArray⟩ : ByteArray) = sa at *
    clear h hl hsz hn hA HBg
    go_enter Tryd.func10, Tryd.ntmps10
    go_wp2_with (go_at_call 25; refine HNm.out.mono ?_)
    rintro e w2 ⟨rfl, S⟩
    go_wp2
    go_ret2
    exact ⟨rfl, S⟩
  have hn0 : (namedR l).2 = 0 := by omega
  by_cases hb : begins l [38, 35] = false
  · rw [if_pos (.inr hb)] at hA
    rw [hA]
    rw [hb] at HBg
    unfold atT at HNm ⊢
    rw [hn0] at HNm ⊢
    generalize (namedR l).1 = a at *
    unfold str at *
    generalize (⟨a.toArray⟩ : ByteArray) = sa at *
    clear h hl hsz hn hn0 hA hb
    go_enter Tryd.func10, Tryd.ntmps10
    go_wp2_with (go_at_call 25; refine HNm.out.mono ?_)
    rintro e w2 ⟨rfl, S⟩
    have HSt := hidden S
    clear S
    go_wp2_with (go_at_call 26; refine (HBg.out _).mono ?_; rintro e w' ⟨rfl, rfl⟩)
    go_wp2
    go_ret2
    exact ⟨rfl, HSt.out⟩
  have hb2 : begins l [38, 35] = true := by simpa using hb
  rw [if_neg (by rw [hb2]; simp; omega)] at hA
  have h2 := begins_true l hb2
  rw [hb2] at HBg
  unfold atT at HNm
  rw [hn0] at HNm
  generalize (namedR l).1 = a0 at *
  unfold str at HNm
  generalize (⟨a0.toArray⟩ : ByteArray) = sa at *
  rw [hA]
  by_cases hx : 2 < l.length ∧ (bN l 2 = 120 ∨ bN l 2 = 88)
  · rw [if_pos hx]
    obtain ⟨hx2, hx3⟩ := hx
    have s2 : 2 < s.size := by omega
    have s2z : (2 : Int) < (s.size : Int) := by omega
    have c2 : (s[2]'s2).toNat = bN l 2 := by rw [getD_at s l h 2 s2]; rfl
    rcases hx3 with hx3 | hx3
    · rw [hx3] at c2
      clear h hl hsz hn hn0 hA hb hb2 hx2 hx3 h2
      go_enter Tryd.func10, Tryd.ntmps10
      go_wp2_with (go_at_call 25; refine HNm.out.mono ?_)
      rintro e W ⟨rfl, S⟩
      have HSt := hidden S
      clear S
      go_wp2_with (go_at_call 26; refine (HBg.out _).mono ?_; rintro e w' ⟨rfl, rfl⟩)
      go_wp2
      go_loopw [9, 8] (fun vv tv wr => Hid (Step (fun _ => False) w wr) ∧ ∃ (j t acc : Nat) (a : Int), vv = .int .i64 a ∧ tv = .int .i64 (t : Int) ∧ t = 3 + j ∧ j ≤ 6 ∧ t ≤ s.size ∧ 0 ≤ a ∧ a ≤ 16777215 ∧ Hid (a = (acc : Int)) ∧ Hid (acc = numv 16 ((l.drop 3).take j)) ∧ Hid (((l.drop 3).take j).all (isD 16) = true)) (fun _ tv _ => s.size - (RowKit.intOf tv).toNat)
      case atStart => exact ⟨HSt.out, 0, 3, 0, 0, rfl, rfl, rfl, by omega, by omega, by omega, by omega, rfl, hidden (by simp [numv]), hidden (by simp)⟩
      case round =>
        obtain ⟨HSt, j, t, acc, a, rfl, rfl, ht, hj, hts, ha0, ha1, HAI, HAcc, HAll⟩ := hrel
        have gj : ((t : Int) == 3) = decide (j = 0) := by rw [Bool.eq_iff_iff]; simp; omega
        have t0 : (0 : Int) ≤ (t : Int) := by omega
        have hw1 : IntKind.i64.wrap ((t : Int) - 3) = (j : Int) := by simp [IntKind.wrap, IntKind.bits, IntKind.signed]; omega
        by_cases hl : t < s.size
        · have t1 : (t : Int) < (s.size : Int) := by omega
          have gl : ((t : Int) == (s.size : Int)) = false := by rw [beq_eq_false_iff_ne]; omega
          have cx : (s[t]'hl).toNat = bN l t := by rw [getD_at s l Hsl.out t hl]; rfl
          have hx := bN_lt l t
          have hjl : j < (l.drop 3).length := by rw [List.length_drop]; have := Hsz.out; omega
          obtain ⟨c, HTk, HXc, HEx⟩ : ∃ c : UInt8, Hid ((l.drop 3).take (j + 1) = (l.drop 3).take j ++ [c]) ∧ Hid (c.toNat = bN l t) ∧ Hid (¬ dv (bN l t) < 16 → ∃ hk : j < (l.drop 3).length, isD 16 ((l.drop 3)[j]'hk) = false) := by
            have hcc : ((l.drop 3)[j]'hjl).toNat = bN l t := by rw [bN_at l t (by have := Hsz.out; omega)]; congr 1; rw [List.getElem_drop]; congr 1; omega
            exact ⟨(l.drop 3)[j]'hjl, List.take_succ_eq_append_getElem hjl, hcc, fun h => ⟨hjl, by simp only [isD, hcc]; exact decide_eq_false h⟩⟩
          have HDg := hidden (pdigit_any (bN l t) hx wr)
          obtain ⟨x, hxe⟩ : ∃ x, x = bN l t := ⟨_, rfl⟩
          have HXx := hidden hxe
          have HLen := hidden hjl
          rw [← hxe] at cx hx HDg
          clear hjl
          by_cases hm : j < 6
          · have m1 : (j : Int) < 6 := by omega
            by_cases hd : dv x < 16
            · have hq : dgI x = ((dv x : Nat) : Int) := by unfold dgI; rw [if_pos (by omega)]
              rw [hq] at HDg
              have HJ := hidden (show (acc * 16 + dv x = numv 16 ((l.drop 3).take (j + 1)) ∧ ((l.drop 3).take (j + 1)).all (isD 16) = true) by
                rw [HTk.out, numv_snoc, ← HAcc.out, HXc.out, ← hxe]
                refine ⟨rfl, ?_⟩
                rw [List.all_append, HAll.out]
                simp only [List.all_cons, List.all_nil, Bool.and_true, Bool.true_and]
                rw [isD, HXc.out, ← hxe]; exact decide_eq_true hd)
              have hb : a * 16 + ((dv x : Nat) : Int) ≤ 16777215 := by
                have hlt := numv_lt 16 _ HJ.out.2
                rw [← HJ.out.1] at hlt
                have hp : 16 ^ ((l.drop 3).take (j + 1)).length ≤ 16 ^ 6 := Nat.pow_le_pow_right (by omega) (by rw [List.length_take]; omega)
                have : (16 : Nat) ^ 6 = 16777215 + 1 := by decide
                have := HAI.out
                omega
              have HAI2 := hidden (show a * 16 + ((dv x : Nat) : Int) = ((acc * 16 + dv x : Nat) : Int) by rw [HAI.out]; push_cast; rfl)
              obtain ⟨d, hde⟩ : ∃ d, d = dv x := ⟨_, rfl⟩
              rw [← hde] at HDg HJ hb HAI2 hd
              have hd2 : (d : Int) < 16 := by omega
              have hd0 : (0 : Int) ≤ (d : Int) := by omega
              have Ht := hidden ht
              clear hq hde hxe ht gj gl hd
              go_wp2_with (go_at_call 27; refine HDg.out.mono ?_; rintro e w' ⟨rfl, rfl⟩)
              go_roundw
              case rel => exact ⟨HSt.out, j + 1, t + 1, acc * 16 + d, a * 16 + (d : Int), by go_num, by go_num, by have := Ht.out; omega, by omega, by omega, by omega, hb, HAI2.out, HJ.out.1, HJ.out.2⟩
              case measure => simp [RowKit.intOf]; omega
            · have HSc := hidden (scn_end 16 6 (l.drop 3) j hj (Nat.le_of_lt HLen.out) HAll.out (.inr (.inr (HEx.out (by rw [← hxe]; exact hd)))))
              have HD := hidden (show (scn 16 6 (l.drop 3)) = (l.drop 3).take j from HSc.out)
              have hq : ¬ (0 : Int) ≤ dgI x ∨ ((0 : Int) ≤ dgI x ∧ ¬ dgI x < 16) := by
                unfold dgI
                by_cases h16 : dv x < 16
                · rw [if_pos h16]; omega
                · rw [if_neg h16]; omega
              generalize dgI x = q at *
              clear hd
              rcases hq with q0 | ⟨q0, q1⟩
              · have HTL := hidden (show ((l.drop 3).take j).length = j by rw [List.length_take]; have := HLen.out; omega)
                have ht2 : t = 3 + ((l.drop 3).take j).length := by rw [HTL.out]; exact ht
                by_cases j0 : j = 0
                · have HA := hidden (numR_none 16 6 3 l _ HSc.out (.inl (by rw [j0]; rfl)))
                  rw [decide_eq_true j0] at gj
                  clear ht ht2 hxe hj hts j0
                  go_wp2_with (go_at_call 27; refine HDg.out.mono ?_; rintro e w' ⟨rfl, rfl⟩)
                  go_wp2
                  go_ret2
                  exact ⟨by rw [HA.out]; rfl, HSt.out⟩
                rw [decide_eq_false j0] at gj
                by_cases x59 : x = 59
                · have HA := hidden (numR_ok 16 6 3 l _ HSc.out (by
                    rintro (h | h | h)
                    · have := congrArg List.length h; rw [HTL.out] at this; simp at this; exact j0 this
                    · have := Hsz.out; rw [← ht2] at h; omega
                    · exact h (by rw [← ht2, ← hxe, x59])))
                  rw [← HAcc.out, ← ht2] at HA
                  have iw : IntKind.i64.wrap ((t : Int) + 1) = ((t + 1 : Nat) : Int) := by simp [IntKind.wrap, IntKind.bits, IntKind.signed]; omega
                  obtain ⟨t9, ht9⟩ : ∃ z, z = t + 1 := ⟨_, rfl⟩
                  rw [← ht9] at iw HA
                  by_cases v0 : a = 0
                  · have hacc : acc = 0 := by have := HAI.out; omega
                    have HE := hidden (fun wx => pencode_any 65533 (by omega) (by omega) wx)
                    rw [if_pos hacc] at HA
                    subst v0
                    rw [x59] at cx HDg
                    clear ht ht2 hxe hj hts hacc ht9 j0 x59
                    go_wp2_with (go_at_call 27; refine HDg.out.mono ?_; rintro e w' ⟨rfl, rfl⟩)
                    refine Calls.mono (HE.out _) ?_
                    rintro e w3 ⟨rfl, S3⟩
                    have HS3 := hidden (HSt.out.made S3)
                    clear S3
                    go_wp2
                    go_ret2
                    exact ⟨by rw [HA.out]; rfl, HS3.out⟩
                  · have hacc : ¬ acc = 0 := by have := HAI.out; omega
                    have ga : (a == 0) = false := by rw [beq_eq_false_iff_ne]; exact v0
                    have hw : IntKind.i32.wrap a = a := by simp [IntKind.wrap, IntKind.bits, IntKind.signed]; omega
                    have HE := hidden (fun wx => pencode_any a (by omega) (by omega) wx)
                    rw [if_neg hacc, ← HAI.out] at HA
                    rw [x59] at cx HDg
                    clear ht ht2 hxe hj hts hacc ht9 v0 j0 x59
                    go_wp2_with (go_at_call 27; refine HDg.out.mono ?_; rintro e w' ⟨rfl, rfl⟩)
                    refine Calls.mono (HE.out _) ?_
                    rintro e w3 ⟨rfl, S3⟩
                    have HS3 := hidden (HSt.out.made S3)
                    clear S3
                    go_wp2
                    go_ret2
                    exact ⟨by rw [HA.out]; rfl, HS3.out⟩
                · have HA := hidden (numR_none 16 6 3 l _ HSc.out (.inr (.inr (by rw [← ht2, ← hxe]; exact x59))))
                  have gx : ((x : Int) != 59) = true := by rw [bne_iff_ne]; omega
                  clear ht ht2 hxe hj hts j0 x59
                  go_wp2_with (go_at_call 27; refine HDg.out.mono ?_; rintro e w' ⟨rfl, rfl⟩)
                  go_wp2
                  go_ret2
                  exact ⟨by rw [HA.out]; rfl, HSt.out⟩
              · have HTL := hidden (show ((l.drop 3).take j).length = j by rw [List.length_take]; have := HLen.out; omega)
                have ht2 : t = 3 + ((l.drop 3).take j).length := by rw [HTL.out]; exact ht
                by_cases j0 : j = 0
                · have HA := hidden (numR_none 16 6 3 l _ HSc.out (.inl (by rw [j0]; rfl)))
                  rw [decide_eq_true j0] at gj
                  clear ht ht2 hxe hj hts j0
                  go_wp2_with (go_at_call 27; refine HDg.out.mono ?_; rintro e w' ⟨rfl, rfl⟩)
                  go_wp2
                  go_ret2
                  exact ⟨by rw [HA.out]; rfl, HSt.out⟩
                rw [decide_eq_false j0] at gj
                by_cases x59 : x = 59
                · have HA := hidden (numR_ok 16 6 3 l _ HSc.out (by
                    rintro (h | h | h)
                    · have := congrArg List.length h; rw [HTL.out] at this; simp at this; exact j0 this
                    · have := Hsz.out; rw [← ht2] at h; omega
                    · exact h (by rw [← ht2, ← hxe, x59])))
                  rw [← HAcc.out, ← ht2] at HA
                  have iw : IntKind.i64.wrap ((t : Int) + 1) = ((t + 1 : Nat) : Int) := by simp [IntKind.wrap, IntKind.bits, IntKind.signed]; omega
                  obtain ⟨t9, ht9⟩ : ∃ z, z = t + 1 := ⟨_, rfl⟩
                  rw [← ht9] at iw HA
                  by_cases v0 : a = 0
                  · have hacc : acc = 0 := by have := HAI.out; omega
                    have HE := hidden (fun wx => pencode_any 65533 (by omega) (by omega) wx)
                    rw [if_pos hacc] at HA
                    subst v0
                    rw [x59] at cx HDg
                    clear ht ht2 hxe hj hts hacc ht9 j0 x59
                    go_wp2_with (go_at_call 27; refine HDg.out.mono ?_; rintro e w' ⟨rfl, rfl⟩)
                    refine Calls.mono (HE.out _) ?_
                    rintro e w3 ⟨rfl, S3⟩
                    have HS3 := hidden (HSt.out.made S3)
                    clear S3
                    go_wp2
                    go_ret2
                    exact ⟨by rw [HA.out]; rfl, HS3.out⟩
                  · have hacc : ¬ acc = 0 := by have := HAI.out; omega
                    have ga : (a == 0) = false := by rw [beq_eq_false_iff_ne]; exact v0
                    have hw : IntKind.i32.wrap a = a := by simp [IntKind.wrap, IntKind.bits, IntKind.signed]; omega
                    have HE := hidden (fun wx => pencode_any a (by omega) (by omega) wx)
                    rw [if_neg hacc, ← HAI.out] at HA
                    rw [x59] at cx HDg
                    clear ht ht2 hxe hj hts hacc ht9 v0 j0 x59
                    go_wp2_with (go_at_call 27; refine HDg.out.mono ?_; rintro e w' ⟨rfl, rfl⟩)
                    refine Calls.mono (HE.out _) ?_
                    rintro e w3 ⟨rfl, S3⟩
                    have HS3 := hidden (HSt.out.made S3)
                    clear S3
                    go_wp2
                    go_ret2
                    exact ⟨by rw [HA.out]; rfl, HS3.out⟩
                · have HA := hidden (numR_none 16 6 3 l _ HSc.out (.inr (.inr (by rw [← ht2, ← hxe]; exact x59))))
                  have gx : ((x : Int) != 59) = true := by rw [bne_iff_ne]; omega
                  clear ht ht2 hxe hj hts j0 x59
                  go_wp2_with (go_at_call 27; refine HDg.out.mono ?_; rintro e w' ⟨rfl, rfl⟩)
                  go_wp2
                  go_ret2
                  exact ⟨by rw [HA.out]; rfl, HSt.out⟩
          · have hjm : j = 6 := by omega
            have m1 : ¬ ((j : Int) < 6) := by omega
            have HSc := hidden (scn_end 16 6 (l.drop 3) j hj (Nat.le_of_lt HLen.out) HAll.out (.inr (.inl hjm)))
            have HD := hidden (show (scn 16 6 (l.drop 3)) = (l.drop 3).take j from HSc.out)
            clear hjm
            have HTL := hidden (show ((l.drop 3).take j).length = j by rw [List.length_take]; have := HLen.out; omega)
            have ht2 : t = 3 + ((l.drop 3).take j).length := by rw [HTL.out]; exact ht
            by_cases j0 : j = 0
            · have HA := hidden (numR_none 16 6 3 l _ HSc.out (.inl (by rw [j0]; rfl)))
              rw [decide_eq_true j0] at gj
              clear ht ht2 hxe hj hts j0
              go_wp2_with (go_at_call 27; refine HDg.out.mono ?_; rintro e w' ⟨rfl, rfl⟩)
              go_wp2
              go_ret2
              exact ⟨by rw [HA.out]; rfl, HSt.out⟩
            rw [decide_eq_false j0] at gj
            by_cases x59 : x = 59
            · have HA := hidden (numR_ok 16 6 3 l _ HSc.out (by
                rintro (h | h | h)
                · have := congrArg List.length h; rw [HTL.out] at this; simp at this; exact j0 this
                · have := Hsz.out; rw [← ht2] at h; omega
                · exact h (by rw [← ht2, ← hxe, x59])))
              rw [← HAcc.out, ← ht2] at HA
              have iw : IntKind.i64.wrap ((t : Int) + 1) = ((t + 1 : Nat) : Int) := by simp [IntKind.wrap, IntKind.bits, IntKind.signed]; omega
              obtain ⟨t9, ht9⟩ : ∃ z, z = t + 1 := ⟨_, rfl⟩
              rw [← ht9] at iw HA
              by_cases v0 : a = 0
              · have hacc : acc = 0 := by have := HAI.out; omega
                have HE := hidden (fun wx => pencode_any 65533 (by omega) (by omega) wx)
                rw [if_pos hacc] at HA
                subst v0
                rw [x59] at cx HDg
                clear ht ht2 hxe hj hts hacc ht9 j0 x59
                go_wp2_with (go_at_call 27; refine HDg.out.mono ?_; rintro e w' ⟨rfl, rfl⟩)
                refine Calls.mono (HE.out _) ?_
                rintro e w3 ⟨rfl, S3⟩
                have HS3 := hidden (HSt.out.made S3)
                clear S3
                go_wp2
                go_ret2
                exact ⟨by rw [HA.out]; rfl, HS3.out⟩
              · have hacc : ¬ acc = 0 := by have := HAI.out; omega
                have ga : (a == 0) = false := by rw [beq_eq_false_iff_ne]; exact v0
                have hw : IntKind.i32.wrap a = a := by simp [IntKind.wrap, IntKind.bits, IntKind.signed]; omega
                have HE := hidden (fun wx => pencode_any a (by omega) (by omega) wx)
                rw [if_neg hacc, ← HAI.out] at HA
                rw [x59] at cx HDg
                clear ht ht2 hxe hj hts hacc ht9 v0 j0 x59
                go_wp2_with (go_at_call 27; refine HDg.out.mono ?_; rintro e w' ⟨rfl, rfl⟩)
                refine Calls.mono (HE.out _) ?_
                rintro e w3 ⟨rfl, S3⟩
                have HS3 := hidden (HSt.out.made S3)
                clear S3
                go_wp2
                go_ret2
                exact ⟨by rw [HA.out]; rfl, HS3.out⟩
            · have HA := hidden (numR_none 16 6 3 l _ HSc.out (.inr (.inr (by rw [← ht2, ← hxe]; exact x59))))
              have gx : ((x : Int) != 59) = true := by rw [bne_iff_ne]; omega
              clear ht ht2 hxe hj hts j0 x59
              go_wp2_with (go_at_call 27; refine HDg.out.mono ?_; rintro e w' ⟨rfl, rfl⟩)
              go_wp2
              go_ret2
              exact ⟨by rw [HA.out]; rfl, HSt.out⟩
        · have t1 : ¬ ((t : Int) < (s.size : Int)) := by omega
          have hte : t = s.size := by omega
          have gl : ((t : Int) == (s.size : Int)) = true := by rw [beq_iff_eq]; omega
          have HSc := hidden (scn_end 16 6 (l.drop 3) j hj (by rw [List.length_drop]; have := Hsz.out; omega) HAll.out (.inl (by rw [List.length_drop]; have := Hsz.out; omega)))
          have HL := hidden (show l.length ≤ 3 + ((l.drop 3).take j).length by rw [List.length_take, List.length_drop]; have := Hsz.out; omega)
          have HA := hidden (numR_none 16 6 3 l _ HSc.out (.inr (.inl HL.out)))
          by_cases j0 : j = 0
          · rw [decide_eq_true j0] at gj
            clear ht hj hts hl hte hw1 ha0 ha1 j0
            go_wp2_with (go_at_call 27; refine HDg.out.mono ?_; rintro e w' ⟨rfl, rfl⟩)
            go_wp2
            go_ret2
            exact ⟨by rw [HA.out]; rfl, HSt.out⟩
          · rw [decide_eq_false j0] at gj
            clear ht hj hts hl hte hw1 ha0 ha1 j0
            go_wp2_with (go_at_call 27; refine HDg.out.mono ?_; rintro e w' ⟨rfl, rfl⟩)
            go_wp2
            go_ret2
            exact ⟨by rw [HA.out]; rfl, HSt.out⟩
    · rw [hx3] at c2
      clear h hl hsz hn hn0 hA hb hb2 hx2 hx3 h2
      go_enter Tryd.func10, Tryd.ntmps10
      go_wp2_with (go_at_call 25; refine HNm.out.mono ?_)
      rintro e W ⟨rfl, S⟩
      have HSt := hidden S
      clear S
      go_wp2_with (go_at_call 26; refine (HBg.out _).mono ?_; rintro e w' ⟨rfl, rfl⟩)
      go_wp2
      go_loopw [9, 8] (fun vv tv wr => Hid (Step (fun _ => False) w wr) ∧ ∃ (j t acc : Nat) (a : Int), vv = .int .i64 a ∧ tv = .int .i64 (t : Int) ∧ t = 3 + j ∧ j ≤ 6 ∧ t ≤ s.size ∧ 0 ≤ a ∧ a ≤ 16777215 ∧ Hid (a = (acc : Int)) ∧ Hid (acc = numv 16 ((l.drop 3).take j)) ∧ Hid (((l.drop 3).take j).all (isD 16) = true)) (fun _ tv _ => s.size - (RowKit.intOf tv).toNat)
      case atStart => exact ⟨HSt.out, 0, 3, 0, 0, rfl, rfl, rfl, by omega, by omega, by omega, by omega, rfl, hidden (by simp [numv]), hidden (by simp)⟩
      case round =>
        obtain ⟨HSt, j, t, acc, a, rfl, rfl, ht, hj, hts, ha0, ha1, HAI, HAcc, HAll⟩ := hrel
        have gj : ((t : Int) == 3) = decide (j = 0) := by rw [Bool.eq_iff_iff]; simp; omega
        have t0 : (0 : Int) ≤ (t : Int) := by omega
        have hw1 : IntKind.i64.wrap ((t : Int) - 3) = (j : Int) := by simp [IntKind.wrap, IntKind.bits, IntKind.signed]; omega
        by_cases hl : t < s.size
        · have t1 : (t : Int) < (s.size : Int) := by omega
          have gl : ((t : Int) == (s.size : Int)) = false := by rw [beq_eq_false_iff_ne]; omega
          have cx : (s[t]'hl).toNat = bN l t := by rw [getD_at s l Hsl.out t hl]; rfl
          have hx := bN_lt l t
          have hjl : j < (l.drop 3).length := by rw [List.length_drop]; have := Hsz.out; omega
          obtain ⟨c, HTk, HXc, HEx⟩ : ∃ c : UInt8, Hid ((l.drop 3).take (j + 1) = (l.drop 3).take j ++ [c]) ∧ Hid (c.toNat = bN l t) ∧ Hid (¬ dv (bN l t) < 16 → ∃ hk : j < (l.drop 3).length, isD 16 ((l.drop 3)[j]'hk) = false) := by
            have hcc : ((l.drop 3)[j]'hjl).toNat = bN l t := by rw [bN_at l t (by have := Hsz.out; omega)]; congr 1; rw [List.getElem_drop]; congr 1; omega
            exact ⟨(l.drop 3)[j]'hjl, List.take_succ_eq_append_getElem hjl, hcc, fun h => ⟨hjl, by simp only [isD, hcc]; exact decide_eq_false h⟩⟩
          have HDg := hidden (pdigit_any (bN l t) hx wr)
          obtain ⟨x, hxe⟩ : ∃ x, x = bN l t := ⟨_, rfl⟩
          have HXx := hidden hxe
          have HLen := hidden hjl
          rw [← hxe] at cx hx HDg
          clear hjl
          by_cases hm : j < 6
          · have m1 : (j : Int) < 6 := by omega
            by_cases hd : dv x < 16
            · have hq : dgI x = ((dv x : Nat) : Int) := by unfold dgI; rw [if_pos (by omega)]
              rw [hq] at HDg
              have HJ := hidden (show (acc * 16 + dv x = numv 16 ((l.drop 3).take (j + 1)) ∧ ((l.drop 3).take (j + 1)).all (isD 16) = true) by
                rw [HTk.out, numv_snoc, ← HAcc.out, HXc.out, ← hxe]
                refine ⟨rfl, ?_⟩
                rw [List.all_append, HAll.out]
                simp only [List.all_cons, List.all_nil, Bool.and_true, Bool.true_and]
                rw [isD, HXc.out, ← hxe]; exact decide_eq_true hd)
              have hb : a * 16 + ((dv x : Nat) : Int) ≤ 16777215 := by
                have hlt := numv_lt 16 _ HJ.out.2
                rw [← HJ.out.1] at hlt
                have hp : 16 ^ ((l.drop 3).take (j + 1)).length ≤ 16 ^ 6 := Nat.pow_le_pow_right (by omega) (by rw [List.length_take]; omega)
                have : (16 : Nat) ^ 6 = 16777215 + 1 := by decide
                have := HAI.out
                omega
              have HAI2 := hidden (show a * 16 + ((dv x : Nat) : Int) = ((acc * 16 + dv x : Nat) : Int) by rw [HAI.out]; push_cast; rfl)
              obtain ⟨d, hde⟩ : ∃ d, d = dv x := ⟨_, rfl⟩
              rw [← hde] at HDg HJ hb HAI2 hd
              have hd2 : (d : Int) < 16 := by omega
              have hd0 : (0 : Int) ≤ (d : Int) := by omega
              have Ht := hidden ht
              clear hq hde hxe ht gj gl hd
              go_wp2_with (go_at_call 27; refine HDg.out.mono ?_; rintro e w' ⟨rfl, rfl⟩)
              go_roundw
              case rel => exact ⟨HSt.out, j + 1, t + 1, acc * 16 + d, a * 16 + (d : Int), by go_num, by go_num, by have := Ht.out; omega, by omega, by omega, by omega, hb, HAI2.out, HJ.out.1, HJ.out.2⟩
              case measure => simp [RowKit.intOf]; omega
            · have HSc := hidden (scn_end 16 6 (l.drop 3) j hj (Nat.le_of_lt HLen.out) HAll.out (.inr (.inr (HEx.out (by rw [← hxe]; exact hd)))))
              have HD := hidden (show (scn 16 6 (l.drop 3)) = (l.drop 3).take j from HSc.out)
              have hq : ¬ (0 : Int) ≤ dgI x ∨ ((0 : Int) ≤ dgI x ∧ ¬ dgI x < 16) := by
                unfold dgI
                by_cases h16 : dv x < 16
                · rw [if_pos h16]; omega
                · rw [if_neg h16]; omega
              generalize dgI x = q at *
              clear hd
              rcases hq with q0 | ⟨q0, q1⟩
              · have HTL := hidden (show ((l.drop 3).take j).length = j by rw [List.length_take]; have := HLen.out; omega)
                have ht2 : t = 3 + ((l.drop 3).take j).length := by rw [HTL.out]; exact ht
                by_cases j0 : j = 0
                · have HA := hidden (numR_none 16 6 3 l _ HSc.out (.inl (by rw [j0]; rfl)))
                  rw [decide_eq_true j0] at gj
                  clear ht ht2 hxe hj hts j0
                  go_wp2_with (go_at_call 27; refine HDg.out.mono ?_; rintro e w' ⟨rfl, rfl⟩)
                  go_wp2
                  go_ret2
                  exact ⟨by rw [HA.out]; rfl, HSt.out⟩
                rw [decide_eq_false j0] at gj
                by_cases x59 : x = 59
                · have HA := hidden (numR_ok 16 6 3 l _ HSc.out (by
                    rintro (h | h | h)
                    · have := congrArg List.length h; rw [HTL.out] at this; simp at this; exact j0 this
                    · have := Hsz.out; rw [← ht2] at h; omega
                    · exact h (by rw [← ht2, ← hxe, x59])))
                  rw [← HAcc.out, ← ht2] at HA
                  have iw : IntKind.i64.wrap ((t : Int) + 1) = ((t + 1 : Nat) : Int) := by simp [IntKind.wrap, IntKind.bits, IntKind.signed]; omega
                  obtain ⟨t9, ht9⟩ : ∃ z, z = t + 1 := ⟨_, rfl⟩
                  rw [← ht9] at iw HA
                  by_cases v0 : a = 0
                  · have hacc : acc = 0 := by have := HAI.out; omega
                    have HE := hidden (fun wx => pencode_any 65533 (by omega) (by omega) wx)
                    rw [if_pos hacc] at HA
                    subst v0
                    rw [x59] at cx HDg
                    clear ht ht2 hxe hj hts hacc ht9 j0 x59
                    go_wp2_with (go_at_call 27; refine HDg.out.mono ?_; rintro e w' ⟨rfl, rfl⟩)
                    refine Calls.mono (HE.out _) ?_
                    rintro e w3 ⟨rfl, S3⟩
                    have HS3 := hidden (HSt.out.made S3)
                    clear S3
                    go_wp2
                    go_ret2
                    exact ⟨by rw [HA.out]; rfl, HS3.out⟩
                  · have hacc : ¬ acc = 0 := by have := HAI.out; omega
                    have ga : (a == 0) = false := by rw [beq_eq_false_iff_ne]; exact v0
                    have hw : IntKind.i32.wrap a = a := by simp [IntKind.wrap, IntKind.bits, IntKind.signed]; omega
                    have HE := hidden (fun wx => pencode_any a (by omega) (by omega) wx)
                    rw [if_neg hacc, ← HAI.out] at HA
                    rw [x59] at cx HDg
                    clear ht ht2 hxe hj hts hacc ht9 v0 j0 x59
                    go_wp2_with (go_at_call 27; refine HDg.out.mono ?_; rintro e w' ⟨rfl, rfl⟩)
                    refine Calls.mono (HE.out _) ?_
                    rintro e w3 ⟨rfl, S3⟩
                    have HS3 := hidden (HSt.out.made S3)
                    clear S3
                    go_wp2
                    go_ret2
                    exact ⟨by rw [HA.out]; rfl, HS3.out⟩
                · have HA := hidden (numR_none 16 6 3 l _ HSc.out (.inr (.inr (by rw [← ht2, ← hxe]; exact x59))))
                  have gx : ((x : Int) != 59) = true := by rw [bne_iff_ne]; omega
                  clear ht ht2 hxe hj hts j0 x59
                  go_wp2_with (go_at_call 27; refine HDg.out.mono ?_; rintro e w' ⟨rfl, rfl⟩)
                  go_wp2
                  go_ret2
                  exact ⟨by rw [HA.out]; rfl, HSt.out⟩
              · have HTL := hidden (show ((l.drop 3).take j).length = j by rw [List.length_take]; have := HLen.out; omega)
                have ht2 : t = 3 + ((l.drop 3).take j).length := by rw [HTL.out]; exact ht
                by_cases j0 : j = 0
                · have HA := hidden (numR_none 16 6 3 l _ HSc.out (.inl (by rw [j0]; rfl)))
                  rw [decide_eq_true j0] at gj
                  clear ht ht2 hxe hj hts j0
                  go_wp2_with (go_at_call 27; refine HDg.out.mono ?_; rintro e w' ⟨rfl, rfl⟩)
                  go_wp2
                  go_ret2
                  exact ⟨by rw [HA.out]; rfl, HSt.out⟩
                rw [decide_eq_false j0] at gj
                by_cases x59 : x = 59
                · have HA := hidden (numR_ok 16 6 3 l _ HSc.out (by
                    rintro (h | h | h)
                    · have := congrArg List.length h; rw [HTL.out] at this; simp at this; exact j0 this
                    · have := Hsz.out; rw [← ht2] at h; omega
                    · exact h (by rw [← ht2, ← hxe, x59])))
                  rw [← HAcc.out, ← ht2] at HA
                  have iw : IntKind.i64.wrap ((t : Int) + 1) = ((t + 1 : Nat) : Int) := by simp [IntKind.wrap, IntKind.bits, IntKind.signed]; omega
                  obtain ⟨t9, ht9⟩ : ∃ z, z = t + 1 := ⟨_, rfl⟩
                  rw [← ht9] at iw HA
                  by_cases v0 : a = 0
                  · have hacc : acc = 0 := by have := HAI.out; omega
                    have HE := hidden (fun wx => pencode_any 65533 (by omega) (by omega) wx)
                    rw [if_pos hacc] at HA
                    subst v0
                    rw [x59] at cx HDg
                    clear ht ht2 hxe hj hts hacc ht9 j0 x59
                    go_wp2_with (go_at_call 27; refine HDg.out.mono ?_; rintro e w' ⟨rfl, rfl⟩)
                    refine Calls.mono (HE.out _) ?_
                    rintro e w3 ⟨rfl, S3⟩
                    have HS3 := hidden (HSt.out.made S3)
                    clear S3
                    go_wp2
                    go_ret2
                    exact ⟨by rw [HA.out]; rfl, HS3.out⟩
                  · have hacc : ¬ acc = 0 := by have := HAI.out; omega
                    have ga : (a == 0) = false := by rw [beq_eq_false_iff_ne]; exact v0
                    have hw : IntKind.i32.wrap a = a := by simp [IntKind.wrap, IntKind.bits, IntKind.signed]; omega
                    have HE := hidden (fun wx => pencode_any a (by omega) (by omega) wx)
                    rw [if_neg hacc, ← HAI.out] at HA
                    rw [x59] at cx HDg
                    clear ht ht2 hxe hj hts hacc ht9 v0 j0 x59
                    go_wp2_with (go_at_call 27; refine HDg.out.mono ?_; rintro e w' ⟨rfl, rfl⟩)
                    refine Calls.mono (HE.out _) ?_
                    rintro e w3 ⟨rfl, S3⟩
                    have HS3 := hidden (HSt.out.made S3)
                    clear S3
                    go_wp2
                    go_ret2
                    exact ⟨by rw [HA.out]; rfl, HS3.out⟩
                · have HA := hidden (numR_none 16 6 3 l _ HSc.out (.inr (.inr (by rw [← ht2, ← hxe]; exact x59))))
                  have gx : ((x : Int) != 59) = true := by rw [bne_iff_ne]; omega
                  clear ht ht2 hxe hj hts j0 x59
                  go_wp2_with (go_at_call 27; refine HDg.out.mono ?_; rintro e w' ⟨rfl, rfl⟩)
                  go_wp2
                  go_ret2
                  exact ⟨by rw [HA.out]; rfl, HSt.out⟩
          · have hjm : j = 6 := by omega
            have m1 : ¬ ((j : Int) < 6) := by omega
            have HSc := hidden (scn_end 16 6 (l.drop 3) j hj (Nat.le_of_lt HLen.out) HAll.out (.inr (.inl hjm)))
            have HD := hidden (show (scn 16 6 (l.drop 3)) = (l.drop 3).take j from HSc.out)
            clear hjm
            have HTL := hidden (show ((l.drop 3).take j).length = j by rw [List.length_take]; have := HLen.out; omega)
            have ht2 : t = 3 + ((l.drop 3).take j).length := by rw [HTL.out]; exact ht
            by_cases j0 : j = 0
            · have HA := hidden (numR_none 16 6 3 l _ HSc.out (.inl (by rw [j0]; rfl)))
              rw [decide_eq_true j0] at gj
              clear ht ht2 hxe hj hts j0
              go_wp2_with (go_at_call 27; refine HDg.out.mono ?_; rintro e w' ⟨rfl, rfl⟩)
              go_wp2
              go_ret2
              exact ⟨by rw [HA.out]; rfl, HSt.out⟩
            rw [decide_eq_false j0] at gj
            by_cases x59 : x = 59
            · have HA := hidden (numR_ok 16 6 3 l _ HSc.out (by
                rintro (h | h | h)
                · have := congrArg List.length h; rw [HTL.out] at this; simp at this; exact j0 this
                · have := Hsz.out; rw [← ht2] at h; omega
                · exact h (by rw [← ht2, ← hxe, x59])))
              rw [← HAcc.out, ← ht2] at HA
              have iw : IntKind.i64.wrap ((t : Int) + 1) = ((t + 1 : Nat) : Int) := by simp [IntKind.wrap, IntKind.bits, IntKind.signed]; omega
              obtain ⟨t9, ht9⟩ : ∃ z, z = t + 1 := ⟨_, rfl⟩
              rw [← ht9] at iw HA
              by_cases v0 : a = 0
              · have hacc : acc = 0 := by have := HAI.out; omega
                have HE := hidden (fun wx => pencode_any 65533 (by omega) (by omega) wx)
                rw [if_pos hacc] at HA
                subst v0
                rw [x59] at cx HDg
                clear ht ht2 hxe hj hts hacc ht9 j0 x59
                go_wp2_with (go_at_call 27; refine HDg.out.mono ?_; rintro e w' ⟨rfl, rfl⟩)
                refine Calls.mono (HE.out _) ?_
                rintro e w3 ⟨rfl, S3⟩
                have HS3 := hidden (HSt.out.made S3)
                clear S3
                go_wp2
                go_ret2
                exact ⟨by rw [HA.out]; rfl, HS3.out⟩
              · have hacc : ¬ acc = 0 := by have := HAI.out; omega
                have ga : (a == 0) = false := by rw [beq_eq_false_iff_ne]; exact v0
                have hw : IntKind.i32.wrap a = a := by simp [IntKind.wrap, IntKind.bits, IntKind.signed]; omega
                have HE := hidden (fun wx => pencode_any a (by omega) (by omega) wx)
                rw [if_neg hacc, ← HAI.out] at HA
                rw [x59] at cx HDg
                clear ht ht2 hxe hj hts hacc ht9 v0 j0 x59
                go_wp2_with (go_at_call 27; refine HDg.out.mono ?_; rintro e w' ⟨rfl, rfl⟩)
                refine Calls.mono (HE.out _) ?_
                rintro e w3 ⟨rfl, S3⟩
                have HS3 := hidden (HSt.out.made S3)
                clear S3
                go_wp2
                go_ret2
                exact ⟨by rw [HA.out]; rfl, HS3.out⟩
            · have HA := hidden (numR_none 16 6 3 l _ HSc.out (.inr (.inr (by rw [← ht2, ← hxe]; exact x59))))
              have gx : ((x : Int) != 59) = true := by rw [bne_iff_ne]; omega
              clear ht ht2 hxe hj hts j0 x59
              go_wp2_with (go_at_call 27; refine HDg.out.mono ?_; rintro e w' ⟨rfl, rfl⟩)
              go_wp2
              go_ret2
              exact ⟨by rw [HA.out]; rfl, HSt.out⟩
        · have t1 : ¬ ((t : Int) < (s.size : Int)) := by omega
          have hte : t = s.size := by omega
          have gl : ((t : Int) == (s.size : Int)) = true := by rw [beq_iff_eq]; omega
          have HSc := hidden (scn_end 16 6 (l.drop 3) j hj (by rw [List.length_drop]; have := Hsz.out; omega) HAll.out (.inl (by rw [List.length_drop]; have := Hsz.out; omega)))
          have HL := hidden (show l.length ≤ 3 + ((l.drop 3).take j).length by rw [List.length_take, List.length_drop]; have := Hsz.out; omega)
          have HA := hidden (numR_none 16 6 3 l _ HSc.out (.inr (.inl HL.out)))
          by_cases j0 : j = 0
          · rw [decide_eq_true j0] at gj
            clear ht hj hts hl hte hw1 ha0 ha1 j0
            go_wp2_with (go_at_call 27; refine HDg.out.mono ?_; rintro e w' ⟨rfl, rfl⟩)
            go_wp2
            go_ret2
            exact ⟨by rw [HA.out]; rfl, HSt.out⟩
          · rw [decide_eq_false j0] at gj
            clear ht hj hts hl hte hw1 ha0 ha1 j0
            go_wp2_with (go_at_call 27; refine HDg.out.mono ?_; rintro e w' ⟨rfl, rfl⟩)
            go_wp2
            go_ret2
            exact ⟨by rw [HA.out]; rfl, HSt.out⟩
  · rw [if_neg hx]
    by_cases hx2 : 2 < l.length
    · have s2 : 2 < s.size := by omega
      have s2z : (2 : Int) < (s.size : Int) := by omega
      have c2 : (s[2]'s2).toNat = bN l 2 := by rw [getD_at s l h 2 s2]; rfl
      obtain ⟨y, hy⟩ : ∃ y, y = bN l 2 := ⟨_, rfl⟩
      rw [← hy] at c2
      have g1 : ((y : Int) == 120) = false := by rw [beq_eq_false_iff_ne]; intro e; exact hx ⟨hx2, .inl (by omega)⟩
      have g2 : ((y : Int) == 88) = false := by rw [beq_eq_false_iff_ne]; intro e; exact hx ⟨hx2, .inr (by omega)⟩
      clear h hl hsz hn hn0 hA hb hb2 hx hx2 h2 hy
      go_enter Tryd.func10, Tryd.ntmps10
      go_wp2_with (go_at_call 25; refine HNm.out.mono ?_)
      rintro e W ⟨rfl, S⟩
      have HSt := hidden S
      clear S
      go_wp2_with (go_at_call 26; refine (HBg.out _).mono ?_; rintro e w' ⟨rfl, rfl⟩)
      go_wp2
      go_loopw [9, 8] (fun vv tv wr => Hid (Step (fun _ => False) w wr) ∧ ∃ (j t acc : Nat) (a : Int), vv = .int .i64 a ∧ tv = .int .i64 (t : Int) ∧ t = 2 + j ∧ j ≤ 7 ∧ t ≤ s.size ∧ 0 ≤ a ∧ a ≤ 9999999 ∧ Hid (a = (acc : Int)) ∧ Hid (acc = numv 10 ((l.drop 2).take j)) ∧ Hid (((l.drop 2).take j).all (isD 10) = true)) (fun _ tv _ => s.size - (RowKit.intOf tv).toNat)
      case atStart => exact ⟨HSt.out, 0, 2, 0, 0, rfl, rfl, rfl, by omega, by omega, by omega, by omega, rfl, hidden (by simp [numv]), hidden (by simp)⟩
      case round =>
        obtain ⟨HSt, j, t, acc, a, rfl, rfl, ht, hj, hts, ha0, ha1, HAI, HAcc, HAll⟩ := hrel
        have gj : ((t : Int) == 2) = decide (j = 0) := by rw [Bool.eq_iff_iff]; simp; omega
        have t0 : (0 : Int) ≤ (t : Int) := by omega
        have hw1 : IntKind.i64.wrap ((t : Int) - 2) = (j : Int) := by simp [IntKind.wrap, IntKind.bits, IntKind.signed]; omega
        by_cases hl : t < s.size
        · have t1 : (t : Int) < (s.size : Int) := by omega
          have gl : ((t : Int) == (s.size : Int)) = false := by rw [beq_eq_false_iff_ne]; omega
          have cx : (s[t]'hl).toNat = bN l t := by rw [getD_at s l Hsl.out t hl]; rfl
          have hx := bN_lt l t
          have hjl : j < (l.drop 2).length := by rw [List.length_drop]; have := Hsz.out; omega
          obtain ⟨c, HTk, HXc, HEx⟩ : ∃ c : UInt8, Hid ((l.drop 2).take (j + 1) = (l.drop 2).take j ++ [c]) ∧ Hid (c.toNat = bN l t) ∧ Hid (¬ dv (bN l t) < 10 → ∃ hk : j < (l.drop 2).length, isD 10 ((l.drop 2)[j]'hk) = false) := by
            have hcc : ((l.drop 2)[j]'hjl).toNat = bN l t := by rw [bN_at l t (by have := Hsz.out; omega)]; congr 1; rw [List.getElem_drop]; congr 1; omega
            exact ⟨(l.drop 2)[j]'hjl, List.take_succ_eq_append_getElem hjl, hcc, fun h => ⟨hjl, by simp only [isD, hcc]; exact decide_eq_false h⟩⟩
          have HDg := hidden (pdigit_any (bN l t) hx wr)
          obtain ⟨x, hxe⟩ : ∃ x, x = bN l t := ⟨_, rfl⟩
          have HXx := hidden hxe
          have HLen := hidden hjl
          rw [← hxe] at cx hx HDg
          clear hjl
          by_cases hm : j < 7
          · have m1 : (j : Int) < 7 := by omega
            by_cases hd : dv x < 10
            · have hq : dgI x = ((dv x : Nat) : Int) := by unfold dgI; rw [if_pos (by omega)]
              rw [hq] at HDg
              have HJ := hidden (show (acc * 10 + dv x = numv 10 ((l.drop 2).take (j + 1)) ∧ ((l.drop 2).take (j + 1)).all (isD 10) = true) by
                rw [HTk.out, numv_snoc, ← HAcc.out, HXc.out, ← hxe]
                refine ⟨rfl, ?_⟩
                rw [List.all_append, HAll.out]
                simp only [List.all_cons, List.all_nil, Bool.and_true, Bool.true_and]
                rw [isD, HXc.out, ← hxe]; exact decide_eq_true hd)
              have hb : a * 10 + ((dv x : Nat) : Int) ≤ 9999999 := by
                have hlt := numv_lt 10 _ HJ.out.2
                rw [← HJ.out.1] at hlt
                have hp : 10 ^ ((l.drop 2).take (j + 1)).length ≤ 10 ^ 7 := Nat.pow_le_pow_right (by omega) (by rw [List.length_take]; omega)
                have : (10 : Nat) ^ 7 = 9999999 + 1 := by decide
                have := HAI.out
                omega
              have HAI2 := hidden (show a * 10 + ((dv x : Nat) : Int) = ((acc * 10 + dv x : Nat) : Int) by rw [HAI.out]; push_cast; rfl)
              obtain ⟨d, hde⟩ : ∃ d, d = dv x := ⟨_, rfl⟩
              rw [← hde] at HDg HJ hb HAI2 hd
              have hd2 : (d : Int) < 10 := by omega
              have hd0 : (0 : Int) ≤ (d : Int) := by omega
              have Ht := hidden ht
              clear hq hde hxe ht gj gl hd
              go_wp2_with (go_at_call 27; refine HDg.out.mono ?_; rintro e w' ⟨rfl, rfl⟩)
              go_roundw
              case rel => exact ⟨HSt.out, j + 1, t + 1, acc * 10 + d, a * 10 + (d : Int), by go_num, by go_num, by have := Ht.out; omega, by omega, by omega, by omega, hb, HAI2.out, HJ.out.1, HJ.out.2⟩
              case measure => simp [RowKit.intOf]; omega
            · have HSc := hidden (scn_end 10 7 (l.drop 2) j hj (Nat.le_of_lt HLen.out) HAll.out (.inr (.inr (HEx.out (by rw [← hxe]; exact hd)))))
              have HD := hidden (show (scn 10 7 (l.drop 2)) = (l.drop 2).take j from HSc.out)
              have hq : ¬ (0 : Int) ≤ dgI x ∨ ((0 : Int) ≤ dgI x ∧ ¬ dgI x < 10) := by
                unfold dgI
                by_cases h16 : dv x < 16
                · rw [if_pos h16]; omega
                · rw [if_neg h16]; omega
              generalize dgI x = q at *
              clear hd
              rcases hq with q0 | ⟨q0, q1⟩
              · have HTL := hidden (show ((l.drop 2).take j).length = j by rw [List.length_take]; have := HLen.out; omega)
                have ht2 : t = 2 + ((l.drop 2).take j).length := by rw [HTL.out]; exact ht
                by_cases j0 : j = 0
                · have HA := hidden (numR_none 10 7 2 l _ HSc.out (.inl (by rw [j0]; rfl)))
                  rw [decide_eq_true j0] at gj
                  clear ht ht2 hxe hj hts j0
                  go_wp2_with (go_at_call 27; refine HDg.out.mono ?_; rintro e w' ⟨rfl, rfl⟩)
                  go_wp2
                  go_ret2
                  exact ⟨by rw [HA.out]; rfl, HSt.out⟩
                rw [decide_eq_false j0] at gj
                by_cases x59 : x = 59
                · have HA := hidden (numR_ok 10 7 2 l _ HSc.out (by
                    rintro (h | h | h)
                    · have := congrArg List.length h; rw [HTL.out] at this; simp at this; exact j0 this
                    · have := Hsz.out; rw [← ht2] at h; omega
                    · exact h (by rw [← ht2, ← hxe, x59])))
                  rw [← HAcc.out, ← ht2] at HA
                  have iw : IntKind.i64.wrap ((t : Int) + 1) = ((t + 1 : Nat) : Int) := by simp [IntKind.wrap, IntKind.bits, IntKind.signed]; omega
                  obtain ⟨t9, ht9⟩ : ∃ z, z = t + 1 := ⟨_, rfl⟩
                  rw [← ht9] at iw HA
                  by_cases v0 : a = 0
                  · have hacc : acc = 0 := by have := HAI.out; omega
                    have HE := hidden (fun wx => pencode_any 65533 (by omega) (by omega) wx)
                    rw [if_pos hacc] at HA
                    subst v0
                    rw [x59] at cx HDg
                    clear ht ht2 hxe hj hts hacc ht9 j0 x59
                    go_wp2_with (go_at_call 27; refine HDg.out.mono ?_; rintro e w' ⟨rfl, rfl⟩)
                    refine Calls.mono (HE.out _) ?_
                    rintro e w3 ⟨rfl, S3⟩
                    have HS3 := hidden (HSt.out.made S3)
                    clear S3
                    go_wp2
                    go_ret2
                    exact ⟨by rw [HA.out]; rfl, HS3.out⟩
                  · have hacc : ¬ acc = 0 := by have := HAI.out; omega
                    have ga : (a == 0) = false := by rw [beq_eq_false_iff_ne]; exact v0
                    have hw : IntKind.i32.wrap a = a := by simp [IntKind.wrap, IntKind.bits, IntKind.signed]; omega
                    have HE := hidden (fun wx => pencode_any a (by omega) (by omega) wx)
                    rw [if_neg hacc, ← HAI.out] at HA
                    rw [x59] at cx HDg
                    clear ht ht2 hxe hj hts hacc ht9 v0 j0 x59
                    go_wp2_with (go_at_call 27; refine HDg.out.mono ?_; rintro e w' ⟨rfl, rfl⟩)
                    refine Calls.mono (HE.out _) ?_
                    rintro e w3 ⟨rfl, S3⟩
                    have HS3 := hidden (HSt.out.made S3)
                    clear S3
                    go_wp2
                    go_ret2
                    exact ⟨by rw [HA.out]; rfl, HS3.out⟩
                · have HA := hidden (numR_none 10 7 2 l _ HSc.out (.inr (.inr (by rw [← ht2, ← hxe]; exact x59))))
                  have gx : ((x : Int) != 59) = true := by rw [bne_iff_ne]; omega
                  clear ht ht2 hxe hj hts j0 x59
                  go_wp2_with (go_at_call 27; refine HDg.out.mono ?_; rintro e w' ⟨rfl, rfl⟩)
                  go_wp2
                  go_ret2
                  exact ⟨by rw [HA.out]; rfl, HSt.out⟩
              · have HTL := hidden (show ((l.drop 2).take j).length = j by rw [List.length_take]; have := HLen.out; omega)
                have ht2 : t = 2 + ((l.drop 2).take j).length := by rw [HTL.out]; exact ht
                by_cases j0 : j = 0
                · have HA := hidden (numR_none 10 7 2 l _ HSc.out (.inl (by rw [j0]; rfl)))
                  rw [decide_eq_true j0] at gj
                  clear ht ht2 hxe hj hts j0
                  go_wp2_with (go_at_call 27; refine HDg.out.mono ?_; rintro e w' ⟨rfl, rfl⟩)
                  go_wp2
                  go_ret2
                  exact ⟨by rw [HA.out]; rfl, HSt.out⟩
                rw [decide_eq_false j0] at gj
                by_cases x59 : x = 59
                · have HA := hidden (numR_ok 10 7 2 l _ HSc.out (by
                    rintro (h | h | h)
                    · have := congrArg List.length h; rw [HTL.out] at this; simp at this; exact j0 this
                    · have := Hsz.out; rw [← ht2] at h; omega
                    · exact h (by rw [← ht2, ← hxe, x59])))
                  rw [← HAcc.out, ← ht2] at HA
                  have iw : IntKind.i64.wrap ((t : Int) + 1) = ((t + 1 : Nat) : Int) := by simp [IntKind.wrap, IntKind.bits, IntKind.signed]; omega
                  obtain ⟨t9, ht9⟩ : ∃ z, z = t + 1 := ⟨_, rfl⟩
                  rw [← ht9] at iw HA
                  by_cases v0 : a = 0
                  · have hacc : acc = 0 := by have := HAI.out; omega
                    have HE := hidden (fun wx => pencode_any 65533 (by omega) (by omega) wx)
                    rw [if_pos hacc] at HA
                    subst v0
                    rw [x59] at cx HDg
                    clear ht ht2 hxe hj hts hacc ht9 j0 x59
                    go_wp2_with (go_at_call 27; refine HDg.out.mono ?_; rintro e w' ⟨rfl, rfl⟩)
                    refine Calls.mono (HE.out _) ?_
                    rintro e w3 ⟨rfl, S3⟩
                    have HS3 := hidden (HSt.out.made S3)
                    clear S3
                    go_wp2
                    go_ret2
                    exact ⟨by rw [HA.out]; rfl, HS3.out⟩
                  · have hacc : ¬ acc = 0 := by have := HAI.out; omega
                    have ga : (a == 0) = false := by rw [beq_eq_false_iff_ne]; exact v0
                    have hw : IntKind.i32.wrap a = a := by simp [IntKind.wrap, IntKind.bits, IntKind.signed]; omega
                    have HE := hidden (fun wx => pencode_any a (by omega) (by omega) wx)
                    rw [if_neg hacc, ← HAI.out] at HA
                    rw [x59] at cx HDg
                    clear ht ht2 hxe hj hts hacc ht9 v0 j0 x59
                    go_wp2_with (go_at_call 27; refine HDg.out.mono ?_; rintro e w' ⟨rfl, rfl⟩)
                    refine Calls.mono (HE.out _) ?_
                    rintro e w3 ⟨rfl, S3⟩
                    have HS3 := hidden (HSt.out.made S3)
                    clear S3
                    go_wp2
                    go_ret2
                    exact ⟨by rw [HA.out]; rfl, HS3.out⟩
                · have HA := hidden (numR_none 10 7 2 l _ HSc.out (.inr (.inr (by rw [← ht2, ← hxe]; exact x59))))
                  have gx : ((x : Int) != 59) = true := by rw [bne_iff_ne]; omega
                  clear ht ht2 hxe hj hts j0 x59
                  go_wp2_with (go_at_call 27; refine HDg.out.mono ?_; rintro e w' ⟨rfl, rfl⟩)
                  go_wp2
                  go_ret2
                  exact ⟨by rw [HA.out]; rfl, HSt.out⟩
          · have hjm : j = 7 := by omega
            have m1 : ¬ ((j : Int) < 7) := by omega
            have HSc := hidden (scn_end 10 7 (l.drop 2) j hj (Nat.le_of_lt HLen.out) HAll.out (.inr (.inl hjm)))
            have HD := hidden (show (scn 10 7 (l.drop 2)) = (l.drop 2).take j from HSc.out)
            clear hjm
            have HTL := hidden (show ((l.drop 2).take j).length = j by rw [List.length_take]; have := HLen.out; omega)
            have ht2 : t = 2 + ((l.drop 2).take j).length := by rw [HTL.out]; exact ht
            by_cases j0 : j = 0
            · have HA := hidden (numR_none 10 7 2 l _ HSc.out (.inl (by rw [j0]; rfl)))
              rw [decide_eq_true j0] at gj
              clear ht ht2 hxe hj hts j0
              go_wp2_with (go_at_call 27; refine HDg.out.mono ?_; rintro e w' ⟨rfl, rfl⟩)
              go_wp2
              go_ret2
              exact ⟨by rw [HA.out]; rfl, HSt.out⟩
            rw [decide_eq_false j0] at gj
            by_cases x59 : x = 59
            · have HA := hidden (numR_ok 10 7 2 l _ HSc.out (by
                rintro (h | h | h)
                · have := congrArg List.length h; rw [HTL.out] at this; simp at this; exact j0 this
                · have := Hsz.out; rw [← ht2] at h; omega
                · exact h (by rw [← ht2, ← hxe, x59])))
              rw [← HAcc.out, ← ht2] at HA
              have iw : IntKind.i64.wrap ((t : Int) + 1) = ((t + 1 : Nat) : Int) := by simp [IntKind.wrap, IntKind.bits, IntKind.signed]; omega
              obtain ⟨t9, ht9⟩ : ∃ z, z = t + 1 := ⟨_, rfl⟩
              rw [← ht9] at iw HA
              by_cases v0 : a = 0
              · have hacc : acc = 0 := by have := HAI.out; omega
                have HE := hidden (fun wx => pencode_any 65533 (by omega) (by omega) wx)
                rw [if_pos hacc] at HA
                subst v0
                rw [x59] at cx HDg
                clear ht ht2 hxe hj hts hacc ht9 j0 x59
                go_wp2_with (go_at_call 27; refine HDg.out.mono ?_; rintro e w' ⟨rfl, rfl⟩)
                refine Calls.mono (HE.out _) ?_
                rintro e w3 ⟨rfl, S3⟩
                have HS3 := hidden (HSt.out.made S3)
                clear S3
                go_wp2
                go_ret2
                exact ⟨by rw [HA.out]; rfl, HS3.out⟩
              · have hacc : ¬ acc = 0 := by have := HAI.out; omega
                have ga : (a == 0) = false := by rw [beq_eq_false_iff_ne]; exact v0
                have hw : IntKind.i32.wrap a = a := by simp [IntKind.wrap, IntKind.bits, IntKind.signed]; omega
                have HE := hidden (fun wx => pencode_any a (by omega) (by omega) wx)
                rw [if_neg hacc, ← HAI.out] at HA
                rw [x59] at cx HDg
                clear ht ht2 hxe hj hts hacc ht9 v0 j0 x59
                go_wp2_with (go_at_call 27; refine HDg.out.mono ?_; rintro e w' ⟨rfl, rfl⟩)
                refine Calls.mono (HE.out _) ?_
                rintro e w3 ⟨rfl, S3⟩
                have HS3 := hidden (HSt.out.made S3)
                clear S3
                go_wp2
                go_ret2
                exact ⟨by rw [HA.out]; rfl, HS3.out⟩
            · have HA := hidden (numR_none 10 7 2 l _ HSc.out (.inr (.inr (by rw [← ht2, ← hxe]; exact x59))))
              have gx : ((x : Int) != 59) = true := by rw [bne_iff_ne]; omega
              clear ht ht2 hxe hj hts j0 x59
              go_wp2_with (go_at_call 27; refine HDg.out.mono ?_; rintro e w' ⟨rfl, rfl⟩)
              go_wp2
              go_ret2
              exact ⟨by rw [HA.out]; rfl, HSt.out⟩
        · have t1 : ¬ ((t : Int) < (s.size : Int)) := by omega
          have hte : t = s.size := by omega
          have gl : ((t : Int) == (s.size : Int)) = true := by rw [beq_iff_eq]; omega
          have HSc := hidden (scn_end 10 7 (l.drop 2) j hj (by rw [List.length_drop]; have := Hsz.out; omega) HAll.out (.inl (by rw [List.length_drop]; have := Hsz.out; omega)))
          have HL := hidden (show l.length ≤ 2 + ((l.drop 2).take j).length by rw [List.length_take, List.length_drop]; have := Hsz.out; omega)
          have HA := hidden (numR_none 10 7 2 l _ HSc.out (.inr (.inl HL.out)))
          by_cases j0 : j = 0
          · rw [decide_eq_true j0] at gj
            clear ht hj hts hl hte hw1 ha0 ha1 j0
            go_wp2_with (go_at_call 27; refine HDg.out.mono ?_; rintro e w' ⟨rfl, rfl⟩)
            go_wp2
            go_ret2
            exact ⟨by rw [HA.out]; rfl, HSt.out⟩
          · rw [decide_eq_false j0] at gj
            clear ht hj hts hl hte hw1 ha0 ha1 j0
            go_wp2_with (go_at_call 27; refine HDg.out.mono ?_; rintro e w' ⟨rfl, rfl⟩)
            go_wp2
            go_ret2
            exact ⟨by rw [HA.out]; rfl, HSt.out⟩
    · have s2z : ¬ ((2 : Int) < (s.size : Int)) := by omega
      have hs2 : 2 ≤ s.size := by omega
      clear h hl hsz hn hn0 hA hb hb2 hx hx2 h2
      go_enter Tryd.func10, Tryd.ntmps10
      go_wp2_with (go_at_call 25; refine HNm.out.mono ?_)
      rintro e W rfl S
      have HSt := hidden S
      clear S
      go_wp2_with (go_at_call 26; refine (HBg.out _).mono ?_; rintro e w' ⟨rfl, rfl⟩)
      go_wp2
      go_loopw [9, 8] (fun vv tv wr => Hid (Step (fun _ => False) w wr) ∧ ∃ (j t acc : Nat) (a : Int), vv = .int .i64 a ∧ tv = .int .i64 (t : Int) ∧ t = 2 + j ∧ j ≤ 7 ∧ t ≤ s.size ∧ 0 ≤ a ∧ a ≤ 9999999 ∧ Hid (a = (acc : Int)) ∧ Hid (acc = numv 10 ((l.drop 2).take j)) ∧ Hid (((l.drop 2).take j).all (isD 10) = true)) (fun _ tv _ => s.size - (RowKit.intOf tv).toNat)
      case atStart => exact ⟨HSt.out, 0, 2, 0, 0, rfl, rfl, rfl, by omega, by omega, by omega, by omega, rfl, hidden (by simp [numv]), hidden (by simp)⟩
      case round =>
        obtain ⟨HSt, j, t, acc, a, rfl, rfl, ht, hj, hts, ha0, ha1, HAI, HAcc, HAll⟩ := hrel
        have gj : ((t : Int) == 2) = decide (j = 0) := by rw [Bool.eq_iff_iff]; simp; omega
        have t0 : (0 : Int) ≤ (t : Int) := by omega
        have hw1 : IntKind.i64.wrap ((t : Int) - 2) = (j : Int) := by simp [IntKind.wrap, IntKind.bits, IntKind.signed]; omega
        by_cases hl : t < s.size
        · have t1 : (t : Int) < (s.size : Int) := by omega
          have gl : ((t : Int) == (s.size : Int)) = false := by rw [beq_eq_false_iff_ne]; omega
          have cx : (s[t]'hl).toNat = bN l t := by rw [getD_at s l Hsl.out t hl]; rfl
          have hx := bN_lt l t
          have hjl : j < (l.drop 2).length := by rw [List.length_drop]; have := Hsz.out; omega
          obtain ⟨c, HTk, HXc, HEx⟩ : ∃ c : UInt8, Hid ((l.drop 2).take (j + 1) = (l.drop 2).take j ++ [c]) ∧ Hid (c.toNat = bN l t) ∧ Hid (¬ dv (bN l t) < 10 → ∃ hk : j < (l.drop 2).length, isD 10 ((l.drop 2)[j]'hk) = false) := by
            have hcc : ((l.drop 2)[j]'hjl).toNat = bN l t := by rw [bN_at l t (by have := Hsz.out; omega)]; congr 1; rw [List.getElem_drop]; congr 1; omega
            exact ⟨(l.drop 2)[j]'hjl, List.take_succ_eq_append_getElem hjl, hcc, fun h => ⟨hjl, by simp only [isD, hcc]; exact decide_eq_false h⟩⟩
          have HDg := hidden (pdigit_any (bN l t) hx wr)
          obtain ⟨x, hxe⟩ : ∃ x, x = bN l t := ⟨_, rfl⟩
          have HXx := hidden hxe
          have HLen := hidden hjl
          rw [← hxe] at cx hx HDg
          clear hjl
          by_cases hm : j < 7
          · have m1 : (j : Int) < 7 := by omega
            by_cases hd : dv x < 10
            · have hq : dgI x = ((dv x : Nat) : Int) := by unfold dgI; rw [if_pos (by omega)]
              rw [hq] at HDg
              have HJ := hidden (show (acc * 10 + dv x = numv 10 ((l.drop 2).take (j + 1)) ∧ ((l.drop 2).take (j + 1)).all (isD 10) = true) by
                rw [HTk.out, numv_snoc, ← HAcc.out, HXc.out, ← hxe]
                refine ⟨rfl, ?_⟩
                rw [List.all_append, HAll.out]
                simp only [List.all_cons, List.all_nil, Bool.and_true, Bool.true_and]
                rw [isD, HXc.out, ← hxe]; exact decide_eq_true hd)
              have hb : a * 10 + ((dv x : Nat) : Int) ≤ 9999999 := by
                have hlt := numv_lt 10 _ HJ.out.2
                rw [← HJ.out.1] at hlt
                have hp : 10 ^ ((l.drop 2).take (j + 1)).length ≤ 10 ^ 7 := Nat.pow_le_pow_right (by omega) (by rw [List.length_take]; omega)
                have : (10 : Nat) ^ 7 = 9999999 + 1 := by decide
                have := HAI.out
                omega
              have HAI2 := hidden (show a * 10 + ((dv x : Nat) : Int) = ((acc * 10 + dv x : Nat) : Int) by rw [HAI.out]; push_cast; rfl)
              obtain ⟨d, hde⟩ : ∃ d, d = dv x := ⟨_, rfl⟩
              rw [← hde] at HDg HJ hb HAI2 hd
              have hd2 : (d : Int) < 10 := by omega
              have hd0 : (0 : Int) ≤ (d : Int) := by omega
              have Ht := hidden ht
              clear hq hde hxe ht gj gl hd
              go_wp2_with (go_at_call 27; refine HDg.out.mono ?_; rintro e w' ⟨rfl, rfl⟩)
              go_roundw
              case rel => exact ⟨HSt.out, j + 1, t + 1, acc * 10 + d, a * 10 + (d : Int), by go_num, by go_num, by have := Ht.out; omega, by omega, by omega, by omega, hb, HAI2.out, HJ.out.1, HJ.out.2⟩
              case measure => simp [RowKit.intOf]; omega
            · have HSc := hidden (scn_end 10 7 (l.drop 2) j hj (Nat.le_of_lt HLen.out) HAll.out (.inr (.inr (HEx.out (by rw [← hxe]; exact hd)))))
              have HD := hidden (show (scn 10 7 (l.drop 2)) = (l.drop 2).take j from HSc.out)
              have hq : ¬ (0 : Int) ≤ dgI x ∨ ((0 : Int) ≤ dgI x ∧ ¬ dgI x < 10) := by
                unfold dgI
                by_cases h16 : dv x < 16
                · rw [if_pos h16]; omega
                · rw [if_neg h16]; omega
              generalize dgI x = q at *
              clear hd
              rcases hq with q0 | ⟨q0, q1⟩
              · have HTL := hidden (show ((l.drop 2).take j).length = j by rw [List.length_take]; have := HLen.out; omega)
                have ht2 : t = 2 + ((l.drop 2).take j).length := by rw [HTL.out]; exact ht
                by_cases j0 : j = 0
                · have HA := hidden (numR_none 10 7 2 l _ HSc.out (.inl (by rw [j0]; rfl)))
                  rw [decide_eq_true j0] at gj
                  clear ht ht2 hxe hj hts j0
                  go_wp2_with (go_at_call 27; refine HDg.out.mono ?_; rintro e w' ⟨rfl, rfl⟩)
                  go_wp2
                  go_ret2
                  exact ⟨by rw [HA.out]; rfl, HSt.out⟩
                rw [decide_eq_false j0] at gj
                by_cases x59 : x = 59
                · have HA := hidden (numR_ok 10 7 2 l _ HSc.out (by
                    rintro (h | h | h)
                    · have := congrArg List.length h; rw [HTL.out] at this; simp at this; exact j0 this
                    · have := Hsz.out; rw [← ht2] at h; omega
                    · exact h (by rw [← ht2, ← hxe, x59])))
                  rw [← HAcc.out, ← ht2] at HA
                  have iw : IntKind.i64.wrap ((t : Int) + 1) = ((t + 1 : Nat) : Int) := by simp [IntKind.wrap, IntKind.bits, IntKind.signed]; omega
                  obtain ⟨t9, ht9⟩ : ∃ z, z = t + 1 := ⟨_, rfl⟩
                  rw [← ht9] at iw HA
                  by_cases v0 : a = 0
                  · have hacc : acc = 0 := by have := HAI.out; omega
                    have HE := hidden (fun wx => pencode_any 65533 (by omega) (by omega) wx)
                    rw [if_pos hacc] at HA
                    subst v0
                    rw [x59] at cx HDg
                    clear ht ht2 hxe hj hts hacc ht9 j0 x59
                    go_wp2_with (go_at_call 27; refine HDg.out.mono ?_; rintro e w' ⟨rfl, rfl⟩)
                    refine Calls.mono (HE.out _) ?_
                    rintro e w3 ⟨rfl, S3⟩
                    have HS3 := hidden (HSt.out.made S3)
                    clear S3
                    go_wp2
                    go_ret2
                    exact ⟨by rw [HA.out]; rfl, HS3.out⟩
                  · have hacc : ¬ acc = 0 := by have := HAI.out; omega
                    have ga : (a == 0) = false := by rw [beq_eq_false_iff_ne]; exact v0
                    have hw : IntKind.i32.wrap a = a := by simp [IntKind.wrap, IntKind.bits, IntKind.signed]; omega
                    have HE := hidden (fun wx => pencode_any a (by omega) (by omega) wx)
                    rw [if_neg hacc, ← HAI.out] at HA
                    rw [x59] at cx HDg
                    clear ht ht2 hxe hj hts hacc ht9 v0 j0 x59
                    go_wp2_with (go_at_call 27; refine HDg.out.mono ?_; rintro e w' ⟨rfl, rfl⟩)
                    refine Calls.mono (HE.out _) ?_
                    rintro e w3 ⟨rfl, S3⟩
                    have HS3 := hidden (HSt.out.made S3)
                    clear S3
                    go_wp2
                    go_ret2
                    exact ⟨by rw [HA.out]; rfl, HS3.out⟩
                · have HA := hidden (numR_none 10 7 2 l _ HSc.out (.inr (.inr (by rw [← ht2, ← hxe]; exact x59))))
                  have gx : ((x : Int) != 59) = true := by rw [bne_iff_ne]; omega
                  clear ht ht2 hxe hj hts j0 x59
                  go_wp2_with (go_at_call 27; refine HDg.out.mono ?_; rintro e w' ⟨rfl, rfl⟩)
                  go_wp2
                  go_ret2
                  exact ⟨by rw [HA.out]; rfl, HSt.out⟩
              · have HTL := hidden (show ((l.drop 2).take j).length = j by rw [List.length_take]; have := HLen.out; omega)
                have ht2 : t = 2 + ((l.drop 2).take j).length := by rw [HTL.out]; exact ht
                by_cases j0 : j = 0
                · have HA := hidden (numR_none 10 7 2 l _ HSc.out (.inl (by rw [j0]; rfl)))
                  rw [decide_eq_true j0] at gj
                  clear ht ht2 hxe hj hts j0
                  go_wp2_with (go_at_call 27; refine HDg.out.mono ?_; rintro e w' ⟨rfl, rfl⟩)
                  go_wp2
                  go_ret2
                  exact ⟨by rw [HA.out]; rfl, HSt.out⟩
                rw [decide_eq_false j0] at gj
                by_cases x59 : x = 59
                · have HA := hidden (numR_ok 10 7 2 l _ HSc.out (by
                    rintro (h | h | h)
                    · have := congrArg List.length h; rw [HTL.out] at this; simp at this; exact j0 this
                    · have := Hsz.out; rw [← ht2] at h; omega
                    · exact h (by rw [← ht2, ← hxe, x59])))
                  rw [← HAcc.out, ← ht2] at HA
                  have iw : IntKind.i64.wrap ((t : Int) + 1) = ((t + 1 : Nat) : Int) := by simp [IntKind.wrap, IntKind.bits, IntKind.signed]; omega
                  obtain ⟨t9, ht9⟩ : ∃ z, z = t + 1 := ⟨_, rfl⟩
                  rw [← ht9] at iw HA
                  by_cases v0 : a = 0
                  · have hacc : acc = 0 := by have := HAI.out; omega
                    have HE := hidden (fun wx => pencode_any 65533 (by omega) (by omega) wx)
                    rw [if_pos hacc] at HA
                    subst v0
                    rw [x59] at cx HDg
                    clear ht ht2 hxe hj hts hacc ht9 j0 x59
                    go_wp2_with (go_at_call 27; refine HDg.out.mono ?_; rintro e w' ⟨rfl, rfl⟩)
                    refine Calls.mono (HE.out _) ?_
                    rintro e w3 ⟨rfl, S3⟩
                    have HS3 := hidden (HSt.out.made S3)
                    clear S3
                    go_wp2
                    go_ret2
                    exact ⟨by rw [HA.out]; rfl, HS3.out⟩
                  · have hacc : ¬ acc = 0 := by have := HAI.out; omega
                    have ga : (a == 0) = false := by rw [beq_eq_false_iff_ne]; exact v0
                    have hw : IntKind.i32.wrap a = a := by simp [IntKind.wrap, IntKind.bits, IntKind.signed]; omega
                    have HE := hidden (fun wx => pencode_any a (by omega) (by omega) wx)
                    rw [if_neg hacc, ← HAI.out] at HA
                    rw [x59] at cx HDg
                    clear ht ht2 hxe hj hts hacc ht9 v0 j0 x59
                    go_wp2_with (go_at_call 27; refine HDg.out.mono ?_; rintro e w' ⟨rfl, rfl⟩)
                    refine Calls.mono (HE.out _) ?_
                    rintro e w3 ⟨rfl, S3⟩
                    have HS3 := hidden (HSt.out.made S3)
                    clear S3
                    go_wp2
                    go_ret2
                    exact ⟨by rw [HA.out]; rfl, HS3.out⟩
                · have HA := hidden (numR_none 10 7 2 l _ HSc.out (.inr (.inr (by rw [← ht2, ← hxe]; exact x59))))
                  have gx : ((x : Int) != 59) = true := by rw [bne_iff_ne]; omega
                  clear ht ht2 hxe hj hts j0 x59
                  go_wp2_with (go_at_call 27; refine HDg.out.mono ?_; rintro e w' ⟨rfl, rfl⟩)
                  go_wp2
                  go_ret2
                  exact ⟨by rw [HA.out]; rfl, HSt.out⟩
          · have hjm : j = 7 := by omega
            have m1 : ¬ ((j : Int) < 7) := by omega
            have HSc := hidden (scn_end 10 7 (l.drop 2) j hj (Nat.le_of_lt HLen.out) HAll.out (.inr (.inl hjm)))
            have HD := hidden (show (scn 10 7 (l.drop 2)) = (l.drop 2).take j from HSc.out)
            clear hjm
            have HTL := hidden (show ((l.drop 2).take j).length = j by rw [List.length_take]; have := HLen.out; omega)
            have ht2 : t = 2 + ((l.drop 2).take j).length := by rw [HTL.out]; exact ht
            by_cases j0 : j = 0
            · have HA := hidden (numR_none 10 7 2 l _ HSc.out (.inl (by rw [j0]; rfl)))
              rw [decide_eq_true j0] at gj
              clear ht ht2 hxe hj hts j0
              go_wp2_with (go_at_call 27; refine HDg.out.mono ?_; rintro e w' ⟨rfl, rfl⟩)
              go_wp2
              go_ret2
              exact ⟨by rw [HA.out]; rfl, HSt.out⟩
            rw [decide_eq_false j0] at gj
            by_cases x59 : x = 59
            · have HA := hidden (numR_ok 10 7 2 l _ HSc.out (by
                rintro (h | h | h)
                · have := congrArg List.length h; rw [HTL.out] at this; simp at this; exact j0 this
                · have := Hsz.out; rw [← ht2] at h; omega
                · exact h (by rw [← ht2, ← hxe, x59])))
              rw [← HAcc.out, ← ht2] at HA
              have iw : IntKind.i64.wrap ((t : Int) + 1) = ((t + 1 : Nat) : Int) := by simp [IntKind.wrap, IntKind.bits, IntKind.signed]; omega
              obtain ⟨t9, ht9⟩ : ∃ z, z = t + 1 := ⟨_, rfl⟩
              rw [← ht9] at iw HA
              by_cases v0 : a = 0
              · have hacc : acc = 0 := by have := HAI.out; omega
                have HE := hidden (fun wx => pencode_any 65533 (by omega) (by omega) wx)
                rw [if_pos hacc] at HA
                subst v0
                rw [x59] at cx HDg
                clear ht ht2 hxe hj hts hacc ht9 j0 x59
                go_wp2_with (go_at_call 27; refine HDg.out.mono ?_; rintro e w' ⟨rfl, rfl⟩)
                refine Calls.mono (HE.out _) ?_
                rintro e w3 ⟨rfl, S3⟩
                have HS3 := hidden (HSt.out.made S3)
                clear S3
                go_wp2
                go_ret2
                exact ⟨by rw [HA.out]; rfl, HS3.out⟩
              · have hacc : ¬ acc = 0 := by have := HAI.out; omega
                have ga : (a == 0) = false := by rw [beq_eq_false_iff_ne]; exact v0
                have hw : IntKind.i32.wrap a = a := by simp [IntKind.wrap, IntKind.bits, IntKind.signed]; omega
                have HE := hidden (fun wx => pencode_any a (by omega) (by omega) wx)
                rw [if_neg hacc, ← HAI.out] at HA
                rw [x59] at cx HDg
                clear ht ht2 hxe hj hts hacc ht9 v0 j0 x59
                go_wp2_with (go_at_call 27; refine HDg.out.mono ?_; rintro e w' ⟨rfl, rfl⟩)
                refine Calls.mono (HE.out _) ?_
                rintro e w3 ⟨rfl, S3⟩
                have HS3 := hidden (HSt.out.made S3)
                clear S3
                go_wp2
                go_ret2
                exact ⟨by rw [HA.out]; rfl, HS3.out⟩
            · have HA := hidden (numR_none 10 7 2 l _ HSc.out (.inr (.inr (by rw [← ht2, ← hxe]; exact x59))))
              have gx : ((x : Int) != 59) = true := by rw [bne_iff_ne]; omega
              clear ht ht2 hxe hj hts j0 x59
              go_wp2_with (go_at_call 27; refine HDg.out.mono ?_; rintro e w' ⟨rfl, rfl⟩)
              go_wp2
              go_ret2
              exact ⟨by rw [HA.out]; rfl, HSt.out⟩
        · have t1 : ¬ ((t : Int) < (s.size : Int)) := by omega
          have hte : t = s.size := by omega
          have gl : ((t : Int) == (s.size : Int)) = true := by rw [beq_iff_eq]; omega
          have HSc := hidden (scn_end 10 7 (l.drop 2) j hj (by rw [List.length_drop]; have := Hsz.out; omega) HAll.out (.inl (by rw [List.length_drop]; have := Hsz.out; omega)))
          have HL := hidden (show l.length ≤ 2 + ((l.drop 2).take j).length by rw [List.length_take, List.length_drop]; have := Hsz.out; omega)
          have HA := hidden (numR_none 10 7 2 l _ HSc.out (.inr (.inl HL.out)))
          by_cases j0 : j = 0
          · rw [decide_eq_true j0] at gj
            clear ht hj hts hl hte hw1 ha0 ha1 j0
            go_wp2_with (go_at_call 27; refine HDg.out.mono ?_; rintro e w' ⟨rfl, rfl⟩)
            go_wp2
            go_ret2
            exact ⟨by rw [HA.out]; rfl, HSt.out⟩
          · rw [decide_eq_false j0] at gj
            clear ht hj hts hl hte hw1 ha0 ha1 j0
            go_wp2_with (go_at_call 27; refine HDg.out.mono ?_; rintro e w' ⟨rfl, rfl⟩)
            go_wp2
            go_ret2
            exact ⟨by rw [HA.out]; rfl, HSt.out⟩

end Go.Proofs.YtmegfcgnemfjnaaDoor
