/-
  An address: the page's way.
-/
import Derived.Test.YtmegfcgnemfjnabDoorEOwn
import Derived.Test.YtmegfcgnemfjnabDoorEPage1
import Derived.Test.YtmegfcgnemfjnabDoorEPage2
import Derived.Test.YtmegfcgnemfjnabDoorECode5
import Derived.StillTail
import Derived.Deep.MidRow
namespace Go.Proofs.YtmegfcgnemfjnabDoor
open Go.RowKit Go.Lib

def signsL : List Nat := [59, 47, 63, 58, 64, 38, 61, 43, 36, 44, 45, 95, 46, 33, 126, 42, 39, 40, 41, 35]
theorem sign_at : ∀ k, (h : k < 20) → ((⟨#[59, 47, 63, 58, 64, 38, 61, 43, 36, 44, 45, 95, 46, 33, 126, 42, 39, 40, 41, 35]⟩ : ByteArray)[k]'h).toNat = signsL.getD k 0 := by
  intro k h
  have : k = 0 ∨ k = 1 ∨ k = 2 ∨ k = 3 ∨ k = 4 ∨ k = 5 ∨ k = 6 ∨ k = 7 ∨ k = 8 ∨ k = 9 ∨ k = 10 ∨ k = 11 ∨ k = 12 ∨ k = 13 ∨ k = 14 ∨ k = 15 ∨ k = 16 ∨ k = 17 ∨ k = 18 ∨ k = 19 := by omega
  rcases this with rfl | rfl | rfl | rfl | rfl | rfl | rfl | rfl | rfl | rfl | rfl | rfl | rfl | rfl | rfl | rfl | rfl | rfl | rfl | rfl <;> rfl
theorem contains_at (c k : Nat) (h : k < 20) (e : signsL.getD k 0 = c) : signsL.contains c = true := by
  rw [List.contains_iff_mem, ← e]
  have hl : k < signsL.length := h
  simp [List.getD, hl]
theorem contains_none (c : Nat) (h : ∀ k, k < 20 → signsL.getD k 0 ≠ c) : signsL.contains c = false := by
  rw [Bool.eq_false_iff, Ne, List.contains_iff_mem]
  intro hm
  obtain ⟨k, hk, e⟩ := List.getElem_of_mem hm
  exact h k hk (by simp [List.getD, hk, e])
theorem plain_parts (c : Nat) : plainN c = (decide (48 ≤ c ∧ c ≤ 57) || decide (97 ≤ c ∧ c ≤ 122) || decide (65 ≤ c ∧ c ≤ 90) || signsL.contains c) := rfl

set_option maxHeartbeats 1000000 in
theorem pplain_any (c : Nat) (w : World) :
    Calls Tryd.prog 15 #[.int .u8 (c : Int)] w fun e w' => e = .returned (.bool (plainN c)) ∧ w' = w := by
  by_cases k1 : 97 ≤ c ∧ c ≤ 122
  · rw [show plainN c = true by rw [plain_parts]; simp [k1]]
    have z0 : (97 : Int) ≤ (c : Int) := by omega
    have z1 : (c : Int) ≤ 122 := by omega
    clear k1
    go_enter Tryd.func15, Tryd.ntmps15
    go_wp2
    go_ret
    exact ⟨rfl, rfl⟩
  have k1' : ¬ ((97 : Int) ≤ (c : Int)) ∨ ((97 : Int) ≤ (c : Int) ∧ ¬ ((c : Int) ≤ 122)) := by omega
  by_cases k2 : 65 ≤ c ∧ c ≤ 90
  · rw [show plainN c = true by rw [plain_parts]; simp [k2]]
    have y0 : (65 : Int) ≤ (c : Int) := by omega
    have y1 : (c : Int) ≤ 90 := by omega
    have z0 : ¬ ((97 : Int) ≤ (c : Int)) := by omega
    clear k1 k2 k1'
    go_enter Tryd.func15, Tryd.ntmps15
    go_wp2
    go_ret
    exact ⟨rfl, rfl⟩
  have k2' : ¬ ((65 : Int) ≤ (c : Int)) ∨ ((65 : Int) ≤ (c : Int) ∧ ¬ ((c : Int) ≤ 90)) := by omega
  by_cases k0 : 48 ≤ c ∧ c ≤ 57
  · rw [show plainN c = true by rw [plain_parts]; simp [k0]]
    have y0 : (48 : Int) ≤ (c : Int) := by omega
    have y1 : (c : Int) ≤ 57 := by omega
    have z0 : ¬ ((97 : Int) ≤ (c : Int)) := by omega
    have z1 : ¬ ((65 : Int) ≤ (c : Int)) := by omega
    clear k1 k2 k1' k2' k0
    go_enter Tryd.func15, Tryd.ntmps15
    go_wp2
    go_ret
    exact ⟨rfl, rfl⟩
  have k0' : ¬ ((48 : Int) ≤ (c : Int)) ∨ ((48 : Int) ≤ (c : Int) ∧ ¬ ((c : Int) ≤ 57)) := by omega
  have hp : plainN c = signsL.contains c := by
    rw [plain_parts, decide_eq_false k0, decide_eq_false k1, decide_eq_false k2]; rfl
  rw [hp]
  have HY := hidden (contains_at c)
  have HZ := hidden (contains_none c)
  have HT := hidden sign_at
  generalize signsL.contains c = bb at *
  clear k0 k1 k2 hp
  rcases k1' with a0 | ⟨a0, a1⟩ <;> rcases k2' with b0 | ⟨b0, b1⟩ <;> rcases k0' with c0 | ⟨c0, c1⟩
  all_goals try (exfalso; omega)
  all_goals (
    go_enter Tryd.func15, Tryd.ntmps15
    go_wp2
    go_loopw [4] (fun iv wr => wr = w ∧ ∃ k : Nat, k ≤ 20 ∧ iv = .int .i64 (k : Int) ∧ Hid (∀ j, j < k → signsL.getD j 0 ≠ c)) (fun iv _ => 20 - (RowKit.intOf iv).toNat)
    case atStart => exact ⟨rfl, 0, by omega, rfl, fun j hj => by omega⟩
    case round =>
      obtain ⟨rfl, k, hk, rfl, HK⟩ := hrel
      by_cases hk2 : k < 20
      · have k0 : (0 : Int) ≤ (k : Int) := by omega
        have k1 : (k : Int) < 20 := by omega
        have hch := HT.out k hk2
        by_cases he : signsL.getD k 0 = c
        · have HB := hidden (HY.out k hk2 he)
          rw [he] at hch
          clear he
          go_wp2
          go_ret
          exact ⟨by rw [HB.out]; rfl, rfl⟩
        · have HK2 := hidden (show ∀ j, j < k + 1 → signsL.getD j 0 ≠ c from fun j hj => by
            by_cases e : j = k
            · rw [e]; exact he
            · exact HK.out j (by omega))
          obtain ⟨q, hq⟩ : ∃ q, q = signsL.getD k 0 := ⟨_, rfl⟩
          rw [← hq] at hch he
          have gq : ((q : Int) == (c : Int)) = false := by rw [beq_eq_false_iff_ne]; omega
          clear he hq
          go_wp2
          go_roundw
          case rel => exact ⟨trivial, k + 1, by omega, by go_num, HK2.out⟩
          case measure => simp [RowKit.intOf]; omega
      · have k1 : ¬ ((k : Int) < 20) := by omega
        have HB := hidden (HZ.out (fun j hj => HK.out j (by omega)))
        go_wp2
        go_ret
        exact ⟨by rw [HB.out]; rfl, rfl⟩)

set_option maxHeartbeats 4000000 in
theorem puri_any (l : List UInt8) (w : World) (hl : l.length ≤ 20000) :
    Calls Tryd.prog 6 #[str l] w fun e w' => e = .returned (str (uri l)) ∧ Step (fun _ => False) w w' := by
  obtain ⟨s, hs⟩ : ∃ s : ByteArray, s = ⟨l.toArray⟩ := ⟨_, rfl⟩
  have hsl : s.data.toList = l := by rw [hs]
  have hsz : s.size = l.length := by rw [hs]; exact ba_size l
  unfold str
  rw [← hs]
  have Hsl := hidden hsl
  have Hsz := hidden hsz
  have hsb : s.size ≤ 20000 := by omega
  have HO0 := hidden (OB.nil w)
  clear hs hsl hsz hl
  go_enter Tryd.func6, Tryd.ntmps6
  go_wp2
  go_loopw [3, 4] (fun bv iv wr => ∃ (i : Nat) (acc : List UInt8), iv = .int .i64 (i : Int) ∧ i ≤ s.size ∧ Hid (OB w wr bv acc) ∧ Hid (acc ++ uri (l.drop i) = uri l ∧ acc.length ≤ 6 * i)) (fun _ iv _ => s.size - (RowKit.intOf iv).toNat)
  case atStart => exact ⟨0, [], rfl, Nat.zero_le _, HO0.out, by simp, by simp⟩
  case round =>
    obtain ⟨i, acc, rfl, his, HO, HF⟩ := hrel
    by_cases hi : i < s.size
    · have i0 : (0 : Int) ≤ (i : Int) := by omega
      have iz : (i : Int) < (s.size : Int) := by omega
      have iz2 : (i : Int) ≤ (s.size : Int) := by omega
      have hil : i < l.length := by have := Hsz.out; omega
      have hdr : l.drop i = l[i]'hil :: l.drop (i + 1) := List.drop_eq_getElem_cons hil
      have ci : (s[i]'hi).toNat = (l[i]'hil).toNat := by
        rw [getD_at s l Hsl.out i hi]; simp [List.getD, hil]
      generalize l[i]'hil = c at *
      have hc := c.toNat_lt
      clear hil
      obtain ⟨x, hx⟩ : ∃ x, x = c.toNat := ⟨_, rfl⟩
      have hst : uri (l.drop i) = uriR c (l.drop (i + 1)) ++ uri (l.drop (i + 1)) := by rw [hdr]; rfl
      have hln : (uriR c (l.drop (i + 1))).length ≤ 3 := by unfold uriR; split <;> simp
      have HN := hidden (show (acc ++ uriR c (l.drop (i + 1))) ++ uri (l.drop (i + 1)) = uri l ∧ (acc ++ uriR c (l.drop (i + 1))).length ≤ 6 * (i + 1) by
        refine ⟨by rw [← HF.out.1, hst]; simp, ?_⟩
        rw [List.length_append]; have := HF.out.2; omega)
      clear hln hst hdr
      rw [← hx] at ci hc
      have HP := hidden (fun wx => pplain_any x wx)
      have hkd : keepU c (l.drop (i + 1)) = (plainN x || (decide (x = 37) && hx2 (l.drop (i + 1)))) := by rw [hx]; rfl
      cases hp : plainN x with
      | true =>
        rw [hp] at HP hkd
        have hk : keepU c (l.drop (i + 1)) = true := by rw [hkd]; rfl
        clear hkd hp
        have hr : uriR c (l.drop (i + 1)) = [c] := by unfold uriR; rw [if_pos hk]
        rw [hr] at HN
        have HX8 := hidden (show (Value.int .u8 (x : Int)) = .int .u8 (c.toNat : Int) by rw [hx])
        have Hab := hidden (show acc.length + [c].length ≤ 1000000 by have := HF.out.2; simp; omega)
        clear hk hr hx
        go_wp2_with fail
        refine Calls.mono (HP.out _) ?_
        rintro e w' ⟨rfl, rfl⟩
        go_wp2_with (at_builtin; refine app_row rfl (.tmp 44) (.tmp 46) rfl _ acc rfl (HO.out.alloc _) _ [c] rfl (rb_lit _ [c] _ 1 rfl (by rw [HX8.out]; rfl)) Hab.out ?_)
        intro v3 w3 h3
        have HJ := hidden h3
        clear h3
        go_wp2
        go_roundw
        case rel => exact ⟨i + 1, acc ++ [c], by go_num, by omega, HJ.out, HN.out⟩
        case measure => simp [RowKit.intOf]; omega
      | false =>
        rw [hp] at HP hkd
        by_cases h37 : x = 37
        · have g37 : ((x : Int) == 37) = true := by rw [beq_iff_eq]; omega
          obtain ⟨i1, hi1e⟩ : ∃ z, z = i + 1 := ⟨_, rfl⟩
          obtain ⟨i2, hi2e⟩ : ∃ z, z = i + 2 := ⟨_, rfl⟩
          have Hi1 := hidden hi1e
          have iw2 : IntKind.i64.wrap ((i : Int) + 2) = (i2 : Int) := by simp [IntKind.wrap, IntKind.bits, IntKind.signed]; omega
          have iw1 : IntKind.i64.wrap ((i : Int) + 1) = (i1 : Int) := by simp [IntKind.wrap, IntKind.bits, IntKind.signed]; omega
          by_cases h2 : i2 < s.size
          · have h1 : i1 < s.size := by omega
            have q0 : (0 : Int) ≤ (i1 : Int) := by omega
            have q1 : (i1 : Int) < (s.size : Int) := by omega
            have q2 : (i2 : Int) < (s.size : Int) := by omega
            have q3 : (0 : Int) ≤ (i2 : Int) := by omega
            have c1 : (s[i1]'h1).toNat = bN l (i + 1) := by rw [getD_at s l Hsl.out i1 h1, hi1e]; rfl
            have c2 : (s[i2]'h2).toNat = bN l (i + 2) := by rw [getD_at s l Hsl.out i2 h2, hi2e]; rfl
            have hv : hx2 (l.drop (i + 1)) = (decide (dv (bN l (i + 1)) < 16) && decide (dv (bN l (i + 2)) < 16)) := by
              have e1 : i + 1 < l.length := by have := Hsz.out; omega
              have e2 : i + 2 < l.length := by have := Hsz.out; omega
              rw [List.drop_eq_getElem_cons e1, List.drop_eq_getElem_cons e2, bN_at l _ e1, bN_at l _ e2]
              rfl
            rw [decide_eq_true h37, hv] at hkd
            have hx1 := bN_lt l (i + 1)
            have hx2' := bN_lt l (i + 2)
            generalize bN l (i + 1) = y1 at *
            generalize bN l (i + 2) = y2 at *
            have HD1 := pdigit_any y1 hx1
            have HD2 := pdigit_any y2 hx2'
            clear hi1e hi2e hv hp
            by_cases d1 : dv y1 < 16
            · have e1 : dgI y1 = ((dv y1 : Nat) : Int) := by unfold dgI; rw [if_pos d1]
              rw [e1] at HD1
              rw [decide_eq_true d1] at hkd
              have z1 : (0 : Int) ≤ ((dv y1 : Nat) : Int) := by omega
              generalize dv y1 = u1 at *
              by_cases d2 : dv y2 < 16
              · have e2 : dgI y2 = ((dv y2 : Nat) : Int) := by unfold dgI; rw [if_pos d2]
                rw [e2] at HD2
                rw [decide_eq_true d2] at hkd
                have z2 : (0 : Int) ≤ ((dv y2 : Nat) : Int) := by omega
                generalize dv y2 = u2 at *
                have hk : keepU c (l.drop (i + 1)) = true := by rw [hkd]; rfl
                have HD1' := hidden HD1
                have HD2' := hidden HD2
                clear hkd e1 e2 d1 d2 HD1 HD2 hx1 hx2'
                clear h37
                have hr : uriR c (l.drop (i + 1)) = [c] := by unfold uriR; rw [if_pos hk]
                rw [hr] at HN
                have HX8 := hidden (show (Value.int .u8 (x : Int)) = .int .u8 (c.toNat : Int) by rw [hx])
                have Hab := hidden (show acc.length + [c].length ≤ 1000000 by have := HF.out.2; simp; omega)
                clear hk hr hx
                go_wp2_with fail
                refine Calls.mono (HP.out _) ?_
                rintro e w' ⟨rfl, rfl⟩
                go_wp2_with fail
                refine Calls.mono (HD1'.out _) ?_
                rintro e w' ⟨rfl, rfl⟩
                go_wp2_with fail
                refine Calls.mono (HD2'.out _) ?_
                rintro e w' ⟨rfl, rfl⟩
                go_wp2_with (at_builtin; refine app_row rfl (.tmp 44) (.tmp 46) rfl _ acc rfl (HO.out.alloc _) _ [c] rfl (rb_lit _ [c] _ 1 rfl (by rw [HX8.out]; rfl)) Hab.out ?_)
                intro v3 w3 h3
                have HJ := hidden h3
                clear h3
                go_wp2
                go_roundw
                case rel => exact ⟨i1, acc ++ [c], rfl, by have := Hi1.out; omega, HJ.out, by rw [Hi1.out]; exact HN.out⟩
                case measure => simp [RowKit.intOf]; have := Hi1.out; omega
              · have e2 : dgI y2 = -1 := by unfold dgI; rw [if_neg d2]
                rw [e2] at HD2
                rw [decide_eq_false d2] at hkd
                have hk : keepU c (l.drop (i + 1)) = false := by rw [hkd]; rfl
                have HD1' := hidden HD1
                have HD2' := hidden HD2
                clear hkd e1 e2 d1 d2 HD1 HD2 hx1 hx2'
                clear h37
                have hr : uriR c (l.drop (i + 1)) = [37, UInt8.ofNat (hexD (c.toNat / 16)), UInt8.ofNat (hexD (c.toNat % 16))] := by unfold uriR; rw [if_neg (by rw [hk]; simp)]
                rw [hr, ← hx] at HN
                obtain ⟨d1, hd1⟩ : ∃ z, z = x / 16 := ⟨_, rfl⟩
                obtain ⟨d2, hd2⟩ : ∃ z, z = x % 16 := ⟨_, rfl⟩
                rw [← hd1, ← hd2] at HN
                have n1 : d1 < 16 := by omega
                have n2 : d2 < 16 := by omega
                have hA : (x : Int) / 16 = (d1 : Int) := by omega
                have hB : bits .and .u8 (x : Int) 15 = (d2 : Int) := by rw [hd2]; exact nib_lo x hc
                have hA2 := nib_at d1 n1 n1
                have hB2 := nib_at d2 n2 n2
                obtain ⟨b1, hb1⟩ : ∃ b : UInt8, b = UInt8.ofNat (hexD d1) := ⟨_, rfl⟩
                obtain ⟨b2, hb2⟩ : ∃ b : UInt8, b = UInt8.ofNat (hexD d2) := ⟨_, rfl⟩
                rw [← hb1] at HN hA2
                rw [← hb2] at HN hB2
                have e3 : (0 : Int) ≤ (d1 : Int) := by omega
                have e4 : (0 : Int) ≤ (d2 : Int) := by omega
                have e5 : (d1 : Int) < 16 := by omega
                have e6 : (d2 : Int) < 16 := by omega
                have Hab := hidden (show acc.length + [37, b1, b2].length ≤ 1000000 by have := HF.out.2; simp; omega)
                clear hk hr hx hb1 hb2 hd1 hd2
                go_wp2_with fail
                refine Calls.mono (HP.out _) ?_
                rintro e w' ⟨rfl, rfl⟩
                go_wp2_with fail
                refine Calls.mono (HD1'.out _) ?_
                rintro e w' ⟨rfl, rfl⟩
                go_wp2_with fail
                refine Calls.mono (HD2'.out _) ?_
                rintro e w' ⟨rfl, rfl⟩
                go_wp2
                go_region_law (refine step_app_row rfl (.tmp 48) (.tmp 55) rfl _ acc rfl (by first | exact HO.out.alloc _ | exact (HO.out.keep (step_drew _ 1)).alloc _) _ [37, b1, b2] rfl (rb_lit' _ [37, b1, b2] _ 3 _ (by simp) rfl rfl) Hab.out ?_
                               intro v3 w3 h3
                               have HJ := hidden h3
                               clear h3)
                all_goals
                  go_wp2
                  go_roundw
                  case rel => exact ⟨i1, acc ++ [37, b1, b2], rfl, by have := Hi1.out; omega, (by first | exact HJ.out | exact HJ.out.keep ((Step.refl (fun _ => False) _).drew)), by rw [Hi1.out]; exact HN.out⟩
                  case measure => simp [RowKit.intOf]; have := Hi1.out; omega
            · have e1 : dgI y1 = -1 := by unfold dgI; rw [if_neg d1]
              rw [e1] at HD1
              rw [decide_eq_false d1] at hkd
              have hk : keepU c (l.drop (i + 1)) = false := by rw [hkd]; rfl
              have HD1' := hidden HD1
              clear hkd e1 d1 HD1 HD2 hx1 hx2'
              clear h37
              have hr : uriR c (l.drop (i + 1)) = [37, UInt8.ofNat (hexD (c.toNat / 16)), UInt8.ofNat (hexD (c.toNat % 16))] := by unfold uriR; rw [if_neg (by rw [hk]; simp)]
              rw [hr, ← hx] at HN
              obtain ⟨d1, hd1⟩ : ∃ z, z = x / 16 := ⟨_, rfl⟩
              obtain ⟨d2, hd2⟩ : ∃ z, z = x % 16 := ⟨_, rfl⟩
              rw [← hd1, ← hd2] at HN
              have n1 : d1 < 16 := by omega
              have n2 : d2 < 16 := by omega
              have hA : (x : Int) / 16 = (d1 : Int) := by omega
              have hB : bits .and .u8 (x : Int) 15 = (d2 : Int) := by rw [hd2]; exact nib_lo x hc
              have hA2 := nib_at d1 n1 n1
              have hB2 := nib_at d2 n2 n2
              obtain ⟨b1, hb1⟩ : ∃ b : UInt8, b = UInt8.ofNat (hexD d1) := ⟨_, rfl⟩
              obtain ⟨b2, hb2⟩ : ∃ b : UInt8, b = UInt8.ofNat (hexD d2) := ⟨_, rfl⟩
              rw [← hb1] at HN hA2
              rw [← hb2] at HN hB2
              have e3 : (0 : Int) ≤ (d1 : Int) := by omega
              have e4 : (0 : Int) ≤ (d2 : Int) := by omega
              have e5 : (d1 : Int) < 16 := by omega
              have e6 : (d2 : Int) < 16 := by omega
              have Hab := hidden (show acc.length + [37, b1, b2].length ≤ 1000000 by have := HF.out.2; simp; omega)
              clear hk hr hx hb1 hb2 hd1 hd2
              go_wp2_with fail
              refine Calls.mono (HP.out _) ?_
              rintro e w' ⟨rfl, rfl⟩
              go_wp2_with fail
              refine Calls.mono (HD1'.out _) ?_
              rintro e w' ⟨rfl, rfl⟩
              go_wp2
              go_region_law (refine step_app_row rfl (.tmp 48) (.tmp 55) rfl _ acc rfl (by first | exact HO.out.alloc _ | exact (HO.out.keep (step_drew _ 1)).alloc _) _ [37, b1, b2] rfl (rb_lit' _ [37, b1, b2] _ 3 _ (by simp) rfl rfl) Hab.out ?_
                             intro v3 w3 h3
                             have HJ := hidden h3
                             clear h3)
              all_goals
                go_wp2
                go_roundw
                case rel => exact ⟨i1, acc ++ [37, b1, b2], rfl, by have := Hi1.out; omega, (by first | exact HJ.out | exact HJ.out.keep ((Step.refl (fun _ => False) _).drew)), by rw [Hi1.out]; exact HN.out⟩
                case measure => simp [RowKit.intOf]; have := Hi1.out; omega
          · have hv : hx2 (l.drop (i + 1)) = false := by
              have e : (l.drop (i + 1)).length < 2 := by rw [List.length_drop]; have := Hsz.out; omega
              match l.drop (i + 1), e with
              | [], _ => rfl
              | [_], _ => rfl
              | _ :: _ :: _, hh => exact absurd hh (by simp)
            rw [hv, decide_eq_true h37] at hkd
            have hk : keepU c (l.drop (i + 1)) = false := by rw [hkd]; rfl
            have q2 : ¬ ((i2 : Int) < (s.size : Int)) := by omega
            clear hkd hv hp hi2e hi1e h37
            have hr : uriR c (l.drop (i + 1)) = [37, UInt8.ofNat (hexD (c.toNat / 16)), UInt8.ofNat (hexD (c.toNat % 16))] := by unfold uriR; rw [if_neg (by rw [hk]; simp)]
            rw [hr, ← hx] at HN
            obtain ⟨d1, hd1⟩ : ∃ z, z = x / 16 := ⟨_, rfl⟩
            obtain ⟨d2, hd2⟩ : ∃ z, z = x % 16 := ⟨_, rfl⟩
            rw [← hd1, ← hd2] at HN
            have n1 : d1 < 16 := by omega
            have n2 : d2 < 16 := by omega
            have hA : (x : Int) / 16 = (d1 : Int) := by omega
            have hB : bits .and .u8 (x : Int) 15 = (d2 : Int) := by rw [hd2]; exact nib_lo x hc
            have hA2 := nib_at d1 n1 n1
            have hB2 := nib_at d2 n2 n2
            obtain ⟨b1, hb1⟩ : ∃ b : UInt8, b = UInt8.ofNat (hexD d1) := ⟨_, rfl⟩
            obtain ⟨b2, hb2⟩ : ∃ b : UInt8, b = UInt8.ofNat (hexD d2) := ⟨_, rfl⟩
            rw [← hb1] at HN hA2
            rw [← hb2] at HN hB2
            have e3 : (0 : Int) ≤ (d1 : Int) := by omega
            have e4 : (0 : Int) ≤ (d2 : Int) := by omega
            have e5 : (d1 : Int) < 16 := by omega
            have e6 : (d2 : Int) < 16 := by omega
            have Hab := hidden (show acc.length + [37, b1, b2].length ≤ 1000000 by have := HF.out.2; simp; omega)
            clear hk hr hx hb1 hb2 hd1 hd2
            go_wp2_with fail
            refine Calls.mono (HP.out _) ?_
            rintro e w' ⟨rfl, rfl⟩
            go_wp2
            go_region_law (refine step_app_row rfl (.tmp 48) (.tmp 55) rfl _ acc rfl (by first | exact HO.out.alloc _ | exact (HO.out.keep (step_drew _ 1)).alloc _) _ [37, b1, b2] rfl (rb_lit' _ [37, b1, b2] _ 3 _ (by simp) rfl rfl) Hab.out ?_
                           intro v3 w3 h3
                           have HJ := hidden h3
                           clear h3)
            all_goals
              go_wp2
              go_roundw
              case rel => exact ⟨i1, acc ++ [37, b1, b2], rfl, by have := Hi1.out; omega, (by first | exact HJ.out | exact HJ.out.keep ((Step.refl (fun _ => False) _).drew)), by rw [Hi1.out]; exact HN.out⟩
              case measure => simp [RowKit.intOf]; have := Hi1.out; omega
        · have g37 : ((x : Int) == 37) = false := by rw [beq_eq_false_iff_ne]; omega
          have hk : keepU c (l.drop (i + 1)) = false := by rw [hkd, decide_eq_false h37]; rfl
          clear hkd hp h37
          have hr : uriR c (l.drop (i + 1)) = [37, UInt8.ofNat (hexD (c.toNat / 16)), UInt8.ofNat (hexD (c.toNat % 16))] := by unfold uriR; rw [if_neg (by rw [hk]; simp)]
          rw [hr, ← hx] at HN
          obtain ⟨d1, hd1⟩ : ∃ z, z = x / 16 := ⟨_, rfl⟩
          obtain ⟨d2, hd2⟩ : ∃ z, z = x % 16 := ⟨_, rfl⟩
          rw [← hd1, ← hd2] at HN
          have n1 : d1 < 16 := by omega
          have n2 : d2 < 16 := by omega
          have hA : (x : Int) / 16 = (d1 : Int) := by omega
          have hB : bits .and .u8 (x : Int) 15 = (d2 : Int) := by rw [hd2]; exact nib_lo x hc
          have hA2 := nib_at d1 n1 n1
          have hB2 := nib_at d2 n2 n2
          obtain ⟨b1, hb1⟩ : ∃ b : UInt8, b = UInt8.ofNat (hexD d1) := ⟨_, rfl⟩
          obtain ⟨b2, hb2⟩ : ∃ b : UInt8, b = UInt8.ofNat (hexD d2) := ⟨_, rfl⟩
          rw [← hb1] at HN hA2
          rw [← hb2] at HN hB2
          have e3 : (0 : Int) ≤ (d1 : Int) := by omega
          have e4 : (0 : Int) ≤ (d2 : Int) := by omega
          have e5 : (d1 : Int) < 16 := by omega
          have e6 : (d2 : Int) < 16 := by omega
          have Hab := hidden (show acc.length + [37, b1, b2].length ≤ 1000000 by have := HF.out.2; simp; omega)
          clear hk hr hx hb1 hb2 hd1 hd2
          go_wp2_with fail
          refine Calls.mono (HP.out _) ?_
          rintro e w' ⟨rfl, rfl⟩
          go_wp2
          go_region_law (refine step_app_row rfl (.tmp 48) (.tmp 55) rfl _ acc rfl (by first | exact HO.out.alloc _ | exact (HO.out.keep (step_drew _ 1)).alloc _) _ [37, b1, b2] rfl (rb_lit' _ [37, b1, b2] _ 3 _ (by simp) rfl rfl) Hab.out ?_
                         intro v3 w3 h3
                         have HJ := hidden h3
                         clear h3)
          all_goals
            go_wp2
            go_roundw
            case rel => exact ⟨i + 1, acc ++ [37, b1, b2], by go_num, by omega, (by first | exact HJ.out | exact HJ.out.keep ((Step.refl (fun _ => False) _).drew)), HN.out⟩
            case measure => simp [RowKit.intOf]; omega
    · have HE := hidden (show acc = uri l by
        have h := HF.out.1
        rw [List.drop_of_length_le (by have := Hsz.out; omega)] at h
        simpa [uri] using h)
      have iz : ¬ ((i : Int) < (s.size : Int)) := by omega
      have hcv := conv_any HO.out.own.rb
      go_wp2
      go_ret
      exact ⟨by rw [← HE.out]; rfl, HO.out.st⟩

end Go.Proofs.YtmegfcgnemfjnabDoor
