/-
  An address: the code's way.
-/
import Derived.Test.YtmegfcgnemfjnabDoorECode4
namespace Go.Proofs.YtmegfcgnemfjnabDoor
open Go.RowKit Go.Lib

set_option maxRecDepth 100000 in
theorem nib_hiF : ∀ X : Fin 256, IntKind.u8.wrap (((X.val : Nat) : Int) / 16) = ((X.val / 16 : Nat) : Int) := by decide +kernel
theorem nib_hi (x : Nat) (_h : x < 256) : (x : Int) / 16 = ((x / 16 : Nat) : Int) := by omega
theorem nib_lo (x : Nat) (h : x < 256) : bits .and .u8 (x : Int) 15 = ((x % 16 : Nat) : Int) := and15 x h
theorem nib_at (d : Nat) (hd : d < 16) : (h : d < 16) → ((⟨#[48, 49, 50, 51, 52, 53, 54, 55, 56, 57, 65, 66, 67, 68, 69, 70]⟩ : ByteArray)[d]'h).toNat = (UInt8.ofNat (hexD d)).toNat := by
  intro h
  have : d = 0 ∨ d = 1 ∨ d = 2 ∨ d = 3 ∨ d = 4 ∨ d = 5 ∨ d = 6 ∨ d = 7 ∨ d = 8 ∨ d = 9 ∨ d = 10 ∨ d = 11 ∨ d = 12 ∨ d = 13 ∨ d = 14 ∨ d = 15 := by omega
  rcases this with rfl | rfl | rfl | rfl | rfl | rfl | rfl | rfl | rfl | rfl | rfl | rfl | rfl | rfl | rfl | rfl <;> rfl

set_option maxHeartbeats 4000000 in
theorem uri_any (l : List UInt8) (w : World) (hl : l.length ≤ 20000) :
    Calls Tryd.prog 5 #[str l] w fun e w' => e = .returned (str (uri l)) ∧ Step (fun _ => False) w w' := by
  obtain ⟨s, hs⟩ : ∃ s : ByteArray, s = ⟨l.toArray⟩ := ⟨_, rfl⟩
  have hsl : s.data.toList = l := by rw [hs]
  have hsz : s.size = l.length := by rw [hs]; exact ba_size l
  unfold str
  rw [← hs]
  have Hsl := hidden hsl
  have Hsz := hidden hsz
  have hsb : s.size ≤ 20000 := by omega
  clear hs hsl hsz hl
  go_enter Tryd.func5, Tryd.ntmps5
  go_wp2_with fail
  refine Calls.mono (grow_any w.heap.size w.heap.size s.size _ (Nat.le_refl _) (heap_alloc_new w _) (by simp) (by omega)) ?_
  rintro e w1 ⟨rfl, hB1, hb1⟩
  have HB1 := hidden (And.intro (Lib.IsBuilderF.of (.inr hB1)) (((Below.refl w.heap.size w).alloc (Nat.le_refl _) (.cells #[.pointer none, .slice none 0 0] 29 (0, 0))).trans hb1))
  clear hB1 hb1
  go_wp2
  go_loopw [11] (fun iv wr => ∃ (i : Nat) (acc : List UInt8), iv = .int .i64 (i : Int) ∧ i ≤ s.size ∧ Hid (Lib.IsBuilderF 29 5 w.heap.size w.heap.size (Lib.byteCells acc) wr ∧ Below w.heap.size w wr) ∧ Hid (acc ++ uri (l.drop i) = uri l ∧ acc.length ≤ 6 * i)) (fun iv _ => s.size - (RowKit.intOf iv).toNat)
  case atStart => exact ⟨0, [], rfl, Nat.zero_le _, HB1.out, by simp, by simp⟩
  case round =>
    obtain ⟨i, acc, rfl, his, HB, HF⟩ := hrel
    by_cases hi : i < s.size
    · have i0 : (0 : Int) ≤ (i : Int) := by omega
      have iz : (i : Int) < (s.size : Int) := by omega
      have iz2 : (i : Int) ≤ (s.size : Int) := by omega
      have hil : i < l.length := by have := Hsz.out; omega
      have hdr : l.drop i = l[i]'hil :: l.drop (i + 1) := List.drop_eq_getElem_cons hil
      have ci : (s[i]'hi).toNat = (l[i]'hil).toNat := by
        rw [getD_at s l Hsl.out i hi]; simp [List.getD, hil]
      generalize l[i]'hil = c at *
      have hc := c.toNat_lt
      obtain ⟨x, hx⟩ : ∃ x, x = c.toNat := ⟨_, rfl⟩
      have hst : uri (l.drop i) = uriR c (l.drop (i + 1)) ++ uri (l.drop (i + 1)) := by rw [hdr]; rfl
      have hln : (uriR c (l.drop (i + 1))).length ≤ 3 := by unfold uriR; split <;> simp
      have HN := hidden (show (acc ++ uriR c (l.drop (i + 1))) ++ uri (l.drop (i + 1)) = uri l ∧ (acc ++ uriR c (l.drop (i + 1))).length ≤ 6 * (i + 1) by
        refine ⟨by rw [← HF.out.1, hst]; simp, ?_⟩
        rw [List.length_append]; have := HF.out.2; omega)
      clear hln
      have hcx : Lib.byteCells [c] = [Value.int .u8 (x : Int)] := by rw [hx]; rfl
      have HCX := hidden hcx
      clear hcx
      rw [← hx] at ci hc
      have HP := hidden (isPlain_any x hc wr)
      have HSp := hidden (isSpelt_any (s.extract i s.size) (l.drop i) (ext_drop s l Hsl.out i) (by rw [List.length_drop]; have := Hsz.out; omega) wr)
      rw [show (l.drop i).drop 1 = l.drop (i + 1) by rw [List.drop_drop]] at HSp
      have hkd : keepU c (l.drop (i + 1)) = (plainN x || (decide (x = 37) && hx2 (l.drop (i + 1)))) := by rw [hx]; rfl
      cases hp : plainN x with
      | true =>
        rw [hp] at HP hkd
        have hk : keepU c (l.drop (i + 1)) = true := by rw [hkd]; rfl
        clear hkd hp HSp
        have hr : uriR c (l.drop (i + 1)) = [c] := by unfold uriR; rw [if_pos hk]
        rw [hr] at HN
        clear hst hr hdr hk hx
        go_wp2_with fail
        refine Calls.mono HP.out ?_
        rintro e w' ⟨rfl, rfl⟩
        have HW := hidden (wb_any w.heap.size w.heap.size (Lib.byteCells acc) (x : Int) _ HB.out.1 (by rw [Lib.byteCells_length]; have := HF.out.2; omega) HB.out.2.size)
        go_wp2_with fail
        refine Calls.mono HW.out ?_
        rintro e w3 ⟨rfl, h1, b1, k1⟩
        have HJ := hidden (And.intro (show Lib.IsBuilderF 29 5 w.heap.size w.heap.size (Lib.byteCells (acc ++ [c])) w3 by
          rw [Lib.byteCells_append, HCX.out]; exact .inr h1) (HB.out.2.trans b1))
        clear h1 b1 k1
        go_wp2
        go_roundw
        case rel => exact ⟨i + 1, acc ++ [c], by go_num, by omega, HJ.out, HN.out⟩
        case measure => simp [RowKit.intOf]; omega
      | false =>
        rw [hp] at HP hkd
        by_cases h37 : x = 37
        · have g37 : ((x : Int) == 37) = true := by rw [beq_iff_eq]; omega
          cases hh : hx2 (l.drop (i + 1)) with
          | true =>
            have hk : keepU c (l.drop (i + 1)) = true := by rw [hkd, decide_eq_true h37, hh]; rfl
            rw [hh] at HSp
            clear hkd hp hh h37
            have hr : uriR c (l.drop (i + 1)) = [c] := by unfold uriR; rw [if_pos hk]
            rw [hr] at HN
            clear hst hr hdr hk hx
            go_wp2_with fail
            refine Calls.mono HP.out ?_
            rintro e w' ⟨rfl, rfl⟩
            go_wp2_with fail
            refine Calls.mono HSp.out ?_
            rintro e w' ⟨rfl, rfl⟩
            have HW := hidden (wb_any w.heap.size w.heap.size (Lib.byteCells acc) (x : Int) _ HB.out.1 (by rw [Lib.byteCells_length]; have := HF.out.2; omega) HB.out.2.size)
            go_wp2_with fail
            refine Calls.mono HW.out ?_
            rintro e w3 ⟨rfl, h1, b1, k1⟩
            have HJ := hidden (And.intro (show Lib.IsBuilderF 29 5 w.heap.size w.heap.size (Lib.byteCells (acc ++ [c])) w3 by
              rw [Lib.byteCells_append, HCX.out]; exact .inr h1) (HB.out.2.trans b1))
            clear h1 b1 k1
            go_wp2
            go_roundw
            case rel => exact ⟨i + 1, acc ++ [c], by go_num, by omega, HJ.out, HN.out⟩
            case measure => simp [RowKit.intOf]; omega
          | false =>
            have hk : keepU c (l.drop (i + 1)) = false := by rw [hkd, decide_eq_true h37, hh]; rfl
            rw [hh] at HSp
            clear hkd hp hh h37
            have hr : uriR c (l.drop (i + 1)) = [37, UInt8.ofNat (hexD (c.toNat / 16)), UInt8.ofNat (hexD (c.toNat % 16))] := by unfold uriR; rw [if_neg (by rw [hk]; simp)]
            rw [hr, ← hx, show ∀ a b : UInt8, (acc ++ [37, a, b] : List UInt8) = ((acc ++ [37]) ++ [a]) ++ [b] from fun a b => by simp] at HN
            obtain ⟨d1, hd1⟩ : ∃ z, z = x / 16 := ⟨_, rfl⟩
            obtain ⟨d2, hd2⟩ : ∃ z, z = x % 16 := ⟨_, rfl⟩
            rw [← hd1, ← hd2] at HN
            have n1 : d1 < 16 := by omega
            have n2 : d2 < 16 := by omega
            have hA : (x : Int) / 16 = (d1 : Int) := by omega
            have hB : bits .and .u8 (x : Int) 15 = (d2 : Int) := by rw [hd2]; exact nib_lo x hc
            have hA2 := nib_at d1 n1 n1
            have hB2 := nib_at d2 n2 n2
            obtain ⟨q1, hb1⟩ : ∃ b : UInt8, b = UInt8.ofNat (hexD d1) := ⟨_, rfl⟩
            obtain ⟨q2, hb2⟩ : ∃ b : UInt8, b = UInt8.ofNat (hexD d2) := ⟨_, rfl⟩
            rw [← hb1] at HN hA2
            rw [← hb2] at HN hB2
            have e3 : (0 : Int) ≤ (d1 : Int) := by omega
            have e4 : (0 : Int) ≤ (d2 : Int) := by omega
            have e5 : (d1 : Int) < 16 := by omega
            have e6 : (d2 : Int) < 16 := by omega
            clear hst hr hdr hk hb1 hb2 hd1 hd2 hx
            go_wp2_with fail
            refine Calls.mono HP.out ?_
            rintro e w' ⟨rfl, rfl⟩
            go_wp2_with fail
            refine Calls.mono HSp.out ?_
            rintro e w' ⟨rfl, rfl⟩
            have J1w := hidden (wb_any w.heap.size w.heap.size (Lib.byteCells acc) 37 _ HB.out.1 (by rw [Lib.byteCells_length]; have := HF.out.2; (try simp only [List.length_append, List.length_cons, List.length_nil]); omega) HB.out.2.size)
            go_wp2_with fail
            with_reducible refine Calls.mono J1w.out ?_
            rintro e w3 ⟨rfl, h1, b1, k1⟩
            have J1 := hidden (And.intro (show Lib.IsBuilderF 29 5 w.heap.size w.heap.size (Lib.byteCells (acc ++ [37])) w3 by
              rw [Lib.byteCells_append]; exact .inr h1) (HB.out.2.trans b1))
            clear h1 b1 k1
            have J2w := hidden (wb_any w.heap.size w.heap.size (Lib.byteCells (acc ++ [37])) (q1.toNat : Int) _ J1.out.1 (by rw [Lib.byteCells_length]; have := HF.out.2; (try simp only [List.length_append, List.length_cons, List.length_nil]); omega) J1.out.2.size)
            go_wp2_with fail
            with_reducible refine Calls.mono J2w.out ?_
            rintro e w4 ⟨rfl, h1, b1, k1⟩
            have J2 := hidden (And.intro (show Lib.IsBuilderF 29 5 w.heap.size w.heap.size (Lib.byteCells ((acc ++ [37]) ++ [q1])) w4 by
              rw [Lib.byteCells_append]; exact .inr h1) (J1.out.2.trans b1))
            clear h1 b1 k1
            have J3w := hidden (wb_any w.heap.size w.heap.size (Lib.byteCells ((acc ++ [37]) ++ [q1])) (q2.toNat : Int) _ J2.out.1 (by rw [Lib.byteCells_length]; have := HF.out.2; (try simp only [List.length_append, List.length_cons, List.length_nil]); omega) J2.out.2.size)
            go_wp2_with fail
            with_reducible refine Calls.mono J3w.out ?_
            rintro e w5 ⟨rfl, h1, b1, k1⟩
            have J3 := hidden (And.intro (show Lib.IsBuilderF 29 5 w.heap.size w.heap.size (Lib.byteCells (((acc ++ [37]) ++ [q1]) ++ [q2])) w5 by
              rw [Lib.byteCells_append]; exact .inr h1) (J2.out.2.trans b1))
            clear h1 b1 k1
            go_wp2
            go_roundw
            case rel => exact ⟨i + 1, ((acc ++ [37]) ++ [q1]) ++ [q2], by go_num, by omega, J3.out, HN.out⟩
            case measure => simp [RowKit.intOf]; omega
        · have g37 : ((x : Int) == 37) = false := by rw [beq_eq_false_iff_ne]; omega
          have hk : keepU c (l.drop (i + 1)) = false := by rw [hkd, decide_eq_false h37]; rfl
          clear hkd hp HSp h37
          have hr : uriR c (l.drop (i + 1)) = [37, UInt8.ofNat (hexD (c.toNat / 16)), UInt8.ofNat (hexD (c.toNat % 16))] := by unfold uriR; rw [if_neg (by rw [hk]; simp)]
          rw [hr, ← hx, show ∀ a b : UInt8, (acc ++ [37, a, b] : List UInt8) = ((acc ++ [37]) ++ [a]) ++ [b] from fun a b => by simp] at HN
          obtain ⟨d1, hd1⟩ : ∃ z, z = x / 16 := ⟨_, rfl⟩
          obtain ⟨d2, hd2⟩ : ∃ z, z = x % 16 := ⟨_, rfl⟩
          rw [← hd1, ← hd2] at HN
          have n1 : d1 < 16 := by omega
          have n2 : d2 < 16 := by omega
          have hA : (x : Int) / 16 = (d1 : Int) := by omega
          have hB : bits .and .u8 (x : Int) 15 = (d2 : Int) := by rw [hd2]; exact nib_lo x hc
          have hA2 := nib_at d1 n1 n1
          have hB2 := nib_at d2 n2 n2
          obtain ⟨q1, hb1⟩ : ∃ b : UInt8, b = UInt8.ofNat (hexD d1) := ⟨_, rfl⟩
          obtain ⟨q2, hb2⟩ : ∃ b : UInt8, b = UInt8.ofNat (hexD d2) := ⟨_, rfl⟩
          rw [← hb1] at HN hA2
          rw [← hb2] at HN hB2
          have e3 : (0 : Int) ≤ (d1 : Int) := by omega
          have e4 : (0 : Int) ≤ (d2 : Int) := by omega
          have e5 : (d1 : Int) < 16 := by omega
          have e6 : (d2 : Int) < 16 := by omega
          clear hst hr hdr hk hb1 hb2 hd1 hd2 hx
          go_wp2_with fail
          refine Calls.mono HP.out ?_
          rintro e w' ⟨rfl, rfl⟩
          have J1w := hidden (wb_any w.heap.size w.heap.size (Lib.byteCells acc) 37 _ HB.out.1 (by rw [Lib.byteCells_length]; have := HF.out.2; (try simp only [List.length_append, List.length_cons, List.length_nil]); omega) HB.out.2.size)
          go_wp2_with fail
          with_reducible refine Calls.mono J1w.out ?_
          rintro e w3 ⟨rfl, h1, b1, k1⟩
          have J1 := hidden (And.intro (show Lib.IsBuilderF 29 5 w.heap.size w.heap.size (Lib.byteCells (acc ++ [37])) w3 by
            rw [Lib.byteCells_append]; exact .inr h1) (HB.out.2.trans b1))
          clear h1 b1 k1
          have J2w := hidden (wb_any w.heap.size w.heap.size (Lib.byteCells (acc ++ [37])) (q1.toNat : Int) _ J1.out.1 (by rw [Lib.byteCells_length]; have := HF.out.2; (try simp only [List.length_append, List.length_cons, List.length_nil]); omega) J1.out.2.size)
          go_wp2_with fail
          with_reducible refine Calls.mono J2w.out ?_
          rintro e w4 ⟨rfl, h1, b1, k1⟩
          have J2 := hidden (And.intro (show Lib.IsBuilderF 29 5 w.heap.size w.heap.size (Lib.byteCells ((acc ++ [37]) ++ [q1])) w4 by
            rw [Lib.byteCells_append]; exact .inr h1) (J1.out.2.trans b1))
          clear h1 b1 k1
          have J3w := hidden (wb_any w.heap.size w.heap.size (Lib.byteCells ((acc ++ [37]) ++ [q1])) (q2.toNat : Int) _ J2.out.1 (by rw [Lib.byteCells_length]; have := HF.out.2; (try simp only [List.length_append, List.length_cons, List.length_nil]); omega) J2.out.2.size)
          go_wp2_with fail
          with_reducible refine Calls.mono J3w.out ?_
          rintro e w5 ⟨rfl, h1, b1, k1⟩
          have J3 := hidden (And.intro (show Lib.IsBuilderF 29 5 w.heap.size w.heap.size (Lib.byteCells (((acc ++ [37]) ++ [q1]) ++ [q2])) w5 by
            rw [Lib.byteCells_append]; exact .inr h1) (J2.out.2.trans b1))
          clear h1 b1 k1
          go_wp2
          go_roundw
          case rel => exact ⟨i + 1, ((acc ++ [37]) ++ [q1]) ++ [q2], by go_num, by omega, J3.out, HN.out⟩
          case measure => simp [RowKit.intOf]; omega
    · have HE := hidden (show acc = uri l by
        have h := HF.out.1
        rw [List.drop_of_length_le (by have := Hsz.out; omega)] at h
        simpa [uri] using h)
      have HSt := hidden (string_any w.heap.size w.heap.size acc wr HB.out.1 HB.out.2.size)
      have iz : ¬ ((i : Int) < (s.size : Int)) := by omega
      go_wp2_with fail
      refine Calls.mono HSt.out ?_
      rintro e W1 ⟨rfl, _, b1, _⟩
      have HF2 := hidden (Step.of_below (HB.out.2.trans b1))
      clear b1
      go_wp2
      go_ret
      exact ⟨by rw [← HE.out]; rfl, HF2.out⟩

end Go.Proofs.YtmegfcgnemfjnabDoor
