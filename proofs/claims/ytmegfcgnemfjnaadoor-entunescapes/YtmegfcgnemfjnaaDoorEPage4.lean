/-
  A text without escapes and spelt signs: the page's way.
-/
import Derived.Test.YtmegfcgnemfjnaaDoorEOwn
import Derived.Test.YtmegfcgnemfjnaaDoorEPage3
import Derived.Test.YtmegfcgnemfjnaaDoorECode3
namespace Go.Proofs.YtmegfcgnemfjnaaDoor
open Go.RowKit Go.Lib

set_option maxHeartbeats 4000000 in
theorem punesc_any (l : List UInt8) (w : World) (hl : l.length ≤ 20000) :
    Calls Tryd.prog 13 #[str l] w fun e w' => e = .returned (str (unesc l)) ∧ Step (fun _ => False) w w' := by
  obtain ⟨s, hs⟩ : ∃ s : ByteArray, s = ⟨l.toArray⟩ := ⟨_, rfl⟩
  have hsl : s.data.toList = l := by rw [hs]
  have hsz : s.size = l.length := by rw [hs]; exact ba_size l
  unfold str
  rw [← hs]
  have Hsl := hidden hsl
  have Hsz := hidden hsz
  have hsb : s.size ≤ 20000 := by omega
  have HO0 := hidden (OB.nil w)
  clear hs hsl hsz hl
  go_enter Tryd.func13, Tryd.ntmps13
  go_wp2
  go_loopw [3, 4] (fun bv iv wr => ∃ (i : Nat) (acc : List UInt8), iv = .int .i64 (i : Int) ∧ i ≤ s.size ∧ Hid (OB w wr bv acc) ∧ Hid (acc ++ unesc (l.drop i) = unesc l ∧ acc.length ≤ 4 * i)) (fun _ iv _ => s.size - (RowKit.intOf iv).toNat)
  case atStart => exact ⟨0, [], rfl, Nat.zero_le _, HO0.out, by simp, by simp⟩
  case round =>
    obtain ⟨i, acc, rfl, his, HO, HF⟩ := hrel
    by_cases hi : i < s.size
    · have i0 : (0 : Int) ≤ (i : Int) := by omega
      have iz : (i : Int) < (s.size : Int) := by omega
      have iz2 : (i : Int) ≤ (s.size : Int) := by omega
      have hil : i < l.length := by have := Hsz.out; omega
      have hdr : l.drop i = l[i]'hil :: l.drop (i + 1) := List.drop_eq_getElem_cons hil
      have ci : (s[i]'hi).toNat = (l[i]'hil).toNat := by
        rw [getD_at s l Hsl.out i hi]; simp [List.getD, hil]
      generalize l[i]'hil = c at *
      have hc := c.toNat_lt
      clear hil
      obtain ⟨x, hx⟩ : ∃ x, x = c.toNat := ⟨_, rfl⟩
      rw [← hx] at ci hc
      have hne : l.drop i ≠ [] := by rw [hdr]; simp
      have hst := unesc_step (l.drop i) hne
      have hnl := nextP_le (l.drop i) hne
      have hnp := nextP_pos (l.drop i)
      rw [List.drop_drop] at hst
      rw [List.length_drop] at hnl
      have HN := hidden (fun (a : List UInt8) (n : Nat) (h : nextP (l.drop i) = (a, n)) => (show ((acc ++ a) ++ unesc (l.drop (i + n)) = unesc l ∧ (acc ++ a).length ≤ 4 * (i + n)) ∧ i + n ≤ s.size ∧ 1 ≤ n ∧ a.length ≤ 4 by
        rw [h] at hst hnl hnp
        dsimp only at hst hnl hnp
        refine ⟨⟨by rw [← HF.out.1, hst]; simp, ?_⟩, by have := Hsz.out; omega, hnp, hnl.2⟩
        rw [List.length_append]; have := HF.out.2; omega))
      have HAt := hidden (fun wx => pat_any (s.extract i s.size) (l.drop i) (ext_drop s l Hsl.out i) (by rw [List.length_drop]; have := Hsz.out; omega) wx)
      have hnx : nextP (l.drop i) = if x = 92 ∧ l.drop (i + 1) ≠ [] ∧ signB ((bN (l.drop (i + 1)) 0 : Nat) : Int) = true then ((l.drop (i + 1)).take 1, 2) else if 0 < (atC (l.drop i)).2 then atC (l.drop i) else ([c], 1) := by rw [hdr, nextP_cons, ← hx]
      rw [at_eq] at HAt
      obtain ⟨i1, hi1e⟩ : ∃ z, z = i + 1 := ⟨_, rfl⟩
      have HcX := hidden (show (s.extract i i1).data.toList = [c] by rw [hi1e, ext_one s l Hsl.out, List.drop_take, hdr]; simp)
      have Hi1 := hidden hi1e
      have Hlen := hidden (show l.drop (i + 1) = [] ↔ ¬ (i1 < s.size) by rw [List.drop_eq_nil_iff]; have := Hsz.out; omega)
      have hi1s : i1 ≤ s.size := by omega
      have hi1i : i ≤ i1 := by omega
      clear hne hst hnl hnp
      have iw1 : IntKind.i64.wrap ((i : Int) + 1) = (i1 : Int) := by simp [IntKind.wrap, IntKind.bits, IntKind.signed]; omega
      clear hi1e
      by_cases hb : x = 92
      · by_cases h1 : i1 < s.size
        · have j0 : (0 : Int) ≤ (i1 : Int) := by omega
          have j1 : (i1 : Int) < (s.size : Int) := by omega
          have c1 : (s[i1]'h1).toNat = bN (l.drop (i + 1)) 0 := by
            rw [getD_at s l Hsl.out i1 h1, Hi1.out]; simp [bN, List.getD]
          have hx2 : bN (l.drop (i + 1)) 0 < 256 := bN_lt _ 0
          have HSg := hidden (fun wx => psign_any ((bN (l.drop (i + 1)) 0 : Nat) : Int) (by omega) (by omega) wx)
          have hnil : l.drop (i + 1) ≠ [] := fun e => Hlen.out.1 e h1
          cases hsg : signB ((bN (l.drop (i + 1)) 0 : Nat) : Int) with
          | true =>
            rw [hsg] at HSg
            rw [if_pos ⟨hb, hnil, hsg⟩] at hnx
            have HN2 := hidden (HN.out _ _ hnx)
            have H1c := hidden (show ∃ d : UInt8, (l.drop (i + 1)).take 1 = [d] ∧ bN (l.drop (i + 1)) 0 = d.toNat by
              cases hd : l.drop (i + 1) with
              | nil => exact absurd hd hnil
              | cons d t => exact ⟨d, rfl, rfl⟩)
            obtain ⟨d, hd, hd2⟩ := H1c.out
            rw [hd] at HN2
            generalize bN (l.drop (i + 1)) 0 = y at *
            have HX8 := hidden (show (Value.int .u8 (y : Int)) = .int .u8 (d.toNat : Int) by rw [hd2])
            have Hab := hidden (show acc.length + [d].length ≤ 1000000 by have := HF.out.2; simp; omega)
            have iw2 : IntKind.i64.wrap ((i : Int) + 2) = ((i + 2 : Nat) : Int) := by simp [IntKind.wrap, IntKind.bits, IntKind.signed]; omega
            have hi2 : i + 2 ≤ s.size := HN2.out.2.1
            obtain ⟨i2, hi2e⟩ : ∃ z, z = i + 2 := ⟨_, rfl⟩
            have Hi2 := hidden hi2e
            rw [← hi2e] at iw2 hi2
            subst hb
            clear hsg hd hd2 hnx hnil hdr hx H1c hi2e hx2
            go_wp2_with fail
            refine Calls.mono (HSg.out _) ?_
            rintro e w' ⟨rfl, rfl⟩
            go_wp2_with (at_builtin; refine app_row rfl (.tmp 29) (.tmp 34) rfl _ acc rfl (HO.out.alloc _) _ [d] rfl (rb_lit _ [d] _ 1 rfl (by rw [HX8.out]; rfl)) Hab.out ?_)
            intro v3 w3 h3
            have HJ := hidden h3
            clear h3
            go_wp2
            go_roundw
            case rel => exact ⟨i2, acc ++ [d], rfl, hi2, HJ.out, by rw [Hi2.out]; exact HN2.out.1⟩
            case measure => simp [RowKit.intOf]; have := Hi2.out; omega
          | false =>
            rw [hsg] at HSg
            rw [if_neg (fun hh => by rw [hsg] at hh; exact absurd hh.2.2 (by simp))] at hnx
            generalize bN (l.drop (i + 1)) 0 = y at *
            subst hb
            clear hsg hnil hx hx2
            have k2 : (i1 : Int) ≤ (s.size : Int) := by omega
            have k3 : (i : Int) ≤ (i1 : Int) := by omega
            generalize atC (l.drop i) = A at *
            obtain ⟨a, n⟩ := A
            dsimp only at hnx
            by_cases ha : 0 < n
            · rw [if_pos ha] at hnx
              have HN2 := hidden (HN.out _ _ hnx)
              have gn : ((n : Int) == 0) = false := by rw [beq_eq_false_iff_ne]; omega
              have Hab := hidden (show acc.length + a.length ≤ 1000000 by have := HF.out.2; have := HN2.out.2.2.2; omega)
              have hin : i + n ≤ s.size := HN2.out.2.1
              have iw3 : IntKind.i64.wrap ((i : Int) + (n : Int)) = ((i + n : Nat) : Int) := by simp [IntKind.wrap, IntKind.bits, IntKind.signed]; omega
              obtain ⟨i3, hi3⟩ : ∃ z, z = i + n := ⟨_, rfl⟩
              have Hi3 := hidden hi3
              rw [← hi3] at iw3 hin
              obtain ⟨sa, hsa⟩ : ∃ sa : ByteArray, sa = ⟨a.toArray⟩ := ⟨_, rfl⟩
              have Hsa := hidden (show sa.data.toList = a by rw [hsa])
              have HAt2 := hidden (fun wx => by have := HAt.out wx; unfold atT str at this; dsimp only at this; rw [← hsa] at this; exact this)
              clear hnx hdr hi3 hsa HAt
              go_wp2_with fail
              refine Calls.mono (HSg.out _) ?_
              rintro e w' ⟨rfl, rfl⟩
              go_wp2_with fail
              with_reducible refine Calls.mono (HAt2.out _) ?_
              rintro e w2 ⟨rfl, S⟩
              have HO2 := hidden (HO.out.keep S)
              clear S
              go_wp2_with (at_builtin; refine app_str rfl (.tmp 52) (.tmp 53) rfl _ acc rfl HO2.out sa a Hsa.out rfl Hab.out ?_)
              intro v3 w3 h3
              have HJ := hidden h3
              clear h3
              go_wp2
              go_roundw
              case rel => exact ⟨i3, acc ++ a, rfl, hin, HJ.out, by rw [Hi3.out]; exact HN2.out.1⟩
              case measure => simp [RowKit.intOf]; have := Hi3.out; omega
            · rw [if_neg ha] at hnx
              have hn0 : n = 0 := by omega
              subst hn0
              have HN2 := hidden (HN.out _ _ hnx)
              have Hab := hidden (show acc.length + [c].length ≤ 1000000 by have := HF.out.2; simp; omega)
              have HAt2 := hidden (fun wx => by have := HAt.out wx; unfold atT str at this; dsimp only at this; exact this)
              generalize (⟨a.toArray⟩ : ByteArray) = sa at *
              clear hnx hdr HAt ha
              go_wp2_with fail
              refine Calls.mono (HSg.out _) ?_
              rintro e w' ⟨rfl, rfl⟩
              go_wp2_with fail
              with_reducible refine Calls.mono (HAt2.out _) ?_
              rintro e w2 ⟨rfl, S⟩
              have HO2 := hidden (HO.out.keep S)
              clear S
              go_wp2_with (at_builtin; refine app_str rfl (.tmp 52) (.tmp 53) rfl _ acc rfl HO2.out (s.extract i i1) [c] HcX.out rfl Hab.out ?_)
              intro v3 w3 h3
              have HJ := hidden h3
              clear h3
              go_wp2
              go_roundw
              case rel => exact ⟨i1, acc ++ [c], rfl, hi1s, HJ.out, by rw [Hi1.out]; exact HN2.out.1⟩
              case measure => simp [RowKit.intOf]; have := Hi1.out; omega
        · have j1 : ¬ ((i1 : Int) < (s.size : Int)) := by omega
          rw [if_neg (fun hh => hh.2.1 (Hlen.out.2 h1))] at hnx
          have k2 : (i1 : Int) ≤ (s.size : Int) := by omega
          have k3 : (i : Int) ≤ (i1 : Int) := by omega
          subst hb
          clear hx
          generalize atC (l.drop i) = A at *
          obtain ⟨a, n⟩ := A
          dsimp only at hnx
          by_cases ha : 0 < n
          · rw [if_pos ha] at hnx
            have HN2 := hidden (HN.out _ _ hnx)
            have gn : ((n : Int) == 0) = false := by rw [beq_eq_false_iff_ne]; omega
            have Hab := hidden (show acc.length + a.length ≤ 1000000 by have := HF.out.2; have := HN2.out.2.2.2; omega)
            have hin : i + n ≤ s.size := HN2.out.2.1
            have iw3 : IntKind.i64.wrap ((i : Int) + (n : Int)) = ((i + n : Nat) : Int) := by simp [IntKind.wrap, IntKind.bits, IntKind.signed]; omega
            obtain ⟨i3, hi3⟩ : ∃ z, z = i + n := ⟨_, rfl⟩
            have Hi3 := hidden hi3
            rw [← hi3] at iw3 hin
            obtain ⟨sa, hsa⟩ : ∃ sa : ByteArray, sa = ⟨a.toArray⟩ := ⟨_, rfl⟩
            have Hsa := hidden (show sa.data.toList = a by rw [hsa])
            have HAt2 := hidden (fun wx => by have := HAt.out wx; unfold atT str at this; dsimp only at this; rw [← hsa] at this; exact this)
            clear hnx hdr hi3 hsa HAt
            go_wp2_with fail
            with_reducible refine Calls.mono (HAt2.out _) ?_
            rintro e w2 ⟨rfl, S⟩
            have HO2 := hidden (HO.out.keep S)
            clear S
            go_wp2_with (at_builtin; refine app_str rfl (.tmp 52) (.tmp 53) rfl _ acc rfl HO2.out sa a Hsa.out rfl Hab.out ?_)
            intro v3 w3 h3
            have HJ := hidden h3
            clear h3
            go_wp2
            go_roundw
            case rel => exact ⟨i3, acc ++ a, rfl, hin, HJ.out, by rw [Hi3.out]; exact HN2.out.1⟩
            case measure => simp [RowKit.intOf]; have := Hi3.out; omega
          · rw [if_neg ha] at hnx
            have hn0 : n = 0 := by omega
            subst hn0
            have HN2 := hidden (HN.out _ _ hnx)
            have Hab := hidden (show acc.length + [c].length ≤ 1000000 by have := HF.out.2; simp; omega)
            have HAt2 := hidden (fun wx => by have := HAt.out wx; unfold atT str at this; dsimp only at this; exact this)
            generalize (⟨a.toArray⟩ : ByteArray) = sa at *
            clear hnx hdr HAt ha
            go_wp2_with fail
            with_reducible refine Calls.mono (HAt2.out _) ?_
            rintro e w2 ⟨rfl, S⟩
            have HO2 := hidden (HO.out.keep S)
            clear S
            go_wp2_with (at_builtin; refine app_str rfl (.tmp 52) (.tmp 53) rfl _ acc rfl HO2.out (s.extract i i1) [c] HcX.out rfl Hab.out ?_)
            intro v3 w3 h3
            have HJ := hidden h3
            clear h3
            go_wp2
            go_roundw
            case rel => exact ⟨i1, acc ++ [c], rfl, hi1s, HJ.out, by rw [Hi1.out]; exact HN2.out.1⟩
            case measure => simp [RowKit.intOf]; have := Hi1.out; omega
      · rw [if_neg (fun hh => hb hh.1)] at hnx
        have g0 : ((x : Int) == 92) = false := by rw [beq_eq_false_iff_ne]; omega
        clear hb hx
        have k2 : (i1 : Int) ≤ (s.size : Int) := by omega
        have k3 : (i : Int) ≤ (i1 : Int) := by omega
        generalize atC (l.drop i) = A at *
        obtain ⟨a, n⟩ := A
        dsimp only at hnx
        by_cases ha : 0 < n
        · rw [if_pos ha] at hnx
          have HN2 := hidden (HN.out _ _ hnx)
          have gn : ((n : Int) == 0) = false := by rw [beq_eq_false_iff_ne]; omega
          have Hab := hidden (show acc.length + a.length ≤ 1000000 by have := HF.out.2; have := HN2.out.2.2.2; omega)
          have hin : i + n ≤ s.size := HN2.out.2.1
          have iw3 : IntKind.i64.wrap ((i : Int) + (n : Int)) = ((i + n : Nat) : Int) := by simp [IntKind.wrap, IntKind.bits, IntKind.signed]; omega
          obtain ⟨i3, hi3⟩ : ∃ z, z = i + n := ⟨_, rfl⟩
          have Hi3 := hidden hi3
          rw [← hi3] at iw3 hin
          obtain ⟨sa, hsa⟩ : ∃ sa : ByteArray, sa = ⟨a.toArray⟩ := ⟨_, rfl⟩
          have Hsa := hidden (show sa.data.toList = a by rw [hsa])
          have HAt2 := hidden (fun wx => by have := HAt.out wx; unfold atT str at this; dsimp only at this; rw [← hsa] at this; exact this)
          clear hnx hdr hi3 hsa HAt
          go_wp2_with fail
          with_reducible refine Calls.mono (HAt2.out _) ?_
          rintro e w2 ⟨rfl, S⟩
          have HO2 := hidden (HO.out.keep S)
          clear S
          go_wp2_with (at_builtin; refine app_str rfl (.tmp 52) (.tmp 53) rfl _ acc rfl HO2.out sa a Hsa.out rfl Hab.out ?_)
          intro v3 w3 h3
          have HJ := hidden h3
          clear h3
          go_wp2
          go_roundw
          case rel => exact ⟨i3, acc ++ a, rfl, hin, HJ.out, by rw [Hi3.out]; exact HN2.out.1⟩
          case measure => simp [RowKit.intOf]; have := Hi3.out; omega
        · rw [if_neg ha] at hnx
          have hn0 : n = 0 := by omega
          subst hn0
          have HN2 := hidden (HN.out _ _ hnx)
          have Hab := hidden (show acc.length + [c].length ≤ 1000000 by have := HF.out.2; simp; omega)
          have HAt2 := hidden (fun wx => by have := HAt.out wx; unfold atT str at this; dsimp only at this; exact this)
          generalize (⟨a.toArray⟩ : ByteArray) = sa at *
          clear hnx hdr HAt ha
          go_wp2_with fail
          with_reducible refine Calls.mono (HAt2.out _) ?_
          rintro e w2 ⟨rfl, S⟩
          have HO2 := hidden (HO.out.keep S)
          clear S
          go_wp2_with (at_builtin; refine app_str rfl (.tmp 52) (.tmp 53) rfl _ acc rfl HO2.out (s.extract i i1) [c] HcX.out rfl Hab.out ?_)
          intro v3 w3 h3
          have HJ := hidden h3
          clear h3
          go_wp2
          go_roundw
          case rel => exact ⟨i1, acc ++ [c], rfl, hi1s, HJ.out, by rw [Hi1.out]; exact HN2.out.1⟩
          case measure => simp [RowKit.intOf]; have := Hi1.out; omega
    · have HE := hidden (show acc = unesc l by
        have h := HF.out.1
        rw [List.drop_of_length_le (by have := Hsz.out; omega)] at h
        simpa [unesc_nil] using h)
      have iz : ¬ ((i : Int) < (s.size : Int)) := by omega
      have hcv := conv_any HO.out.own.rb
      go_wp2
      go_ret
      exact ⟨by rw [← HE.out]; rfl, HO.out.st⟩

end Go.Proofs.YtmegfcgnemfjnaaDoor
