/-
  A number, spelt in whatever digits, stands for its rune: the walk.
-/
import Derived.Test.YtmegfcgnemfjnaaDoorENuN
import Derived.Test.YtmegfcgnemfjnaaDoorECode3
import Derived.Test.YtmegfcgnemfjnaaDoorUEnc
namespace Go.Proofs.YtmegfcgnemfjnaaDoor
open Go.RowKit Go.Lib

theorem low_at (d : Nat) (hd : d < 16) : (h : d < 16) → ((⟨#[48, 49, 50, 51, 52, 53, 54, 55, 56, 57, 97, 98, 99, 100, 101, 102]⟩ : ByteArray)[d]'h).toNat = (dc false d).toNat := by
  intro h
  have : d = 0 ∨ d = 1 ∨ d = 2 ∨ d = 3 ∨ d = 4 ∨ d = 5 ∨ d = 6 ∨ d = 7 ∨ d = 8 ∨ d = 9 ∨ d = 10 ∨ d = 11 ∨ d = 12 ∨ d = 13 ∨ d = 14 ∨ d = 15 := by omega
  rcases this with rfl | rfl | rfl | rfl | rfl | rfl | rfl | rfl | rfl | rfl | rfl | rfl | rfl | rfl | rfl | rfl <;> rfl
theorem up_at (d : Nat) (hd : d < 16) : (h : d < 16) → ((⟨#[48, 49, 50, 51, 52, 53, 54, 55, 56, 57, 65, 66, 67, 68, 69, 70]⟩ : ByteArray)[d]'h).toNat = (dc true d).toNat := by
  intro h
  have : d = 0 ∨ d = 1 ∨ d = 2 ∨ d = 3 ∨ d = 4 ∨ d = 5 ∨ d = 6 ∨ d = 7 ∨ d = 8 ∨ d = 9 ∨ d = 10 ∨ d = 11 ∨ d = 12 ∨ d = 13 ∨ d = 14 ∨ d = 15 := by omega
  rcases this with rfl | rfl | rfl | rfl | rfl | rfl | rfl | rfl | rfl | rfl | rfl | rfl | rfl | rfl | rfl | rfl <;> rfl
theorem empty_iff {s : ByteArray} {l : List UInt8} (h : s = ⟨l.toArray⟩) : s.toList.isEmpty = l.isEmpty := by
  rw [ByteArray.toList_eq, h]

def strLen : Value → Nat
  | .string s => s.size
  | _ => 0
theorem num_out (v z : Int) (hex cap : Bool) (w : World) (T : EW w) (ho : v < 0 ∨ (0 ≤ v ∧ 9999999 < v) ∨ (0 ≤ v ∧ v ≤ 9999999 ∧ z < 0) ∨ (0 ≤ v ∧ v ≤ 9999999 ∧ 0 ≤ z ∧ 8 < z)) :
    Calls Tryd.prog 6 #[.int .i64 v, .int .i64 z, .bool hex, .bool cap] w fun e w' => e = .returned (.bool true) ∧ Step (fun _ => False) w w' := by
  have HK := hidden (eknown_any w T)
  clear T
  rcases ho with h0 | ⟨h0, h1⟩ | ⟨h0, h1, h2⟩ | ⟨h0, h1, h2, h3⟩
  all_goals
    go_enter Tryd.func6, Tryd.ntmps6
    go_wp2_with fail
    refine Calls.mono HK.out ?_
    rintro e w1 ⟨rfl, S⟩
    go_wp2
    go_ret
    exact ⟨rfl, S⟩

set_option maxRecDepth 100000 in
set_option maxHeartbeats 4000000 in
theorem num_decL (v z : Nat) (hv : v ≤ 9999999) (hz : z ≤ 8) (w : World) (T : EW w) :
    Calls Tryd.prog 6 #[.int .i64 (v : Int), .int .i64 (z : Int), .bool false, .bool false] w fun e w' => e = .returned (.bool true) ∧ Step (fun _ => False) w w' := by
  have HK := hidden (fun wx => eknown_any wx)
  have TT := hidden T
  have HS := hidden (Step.refl (fun _ => False) w)
  have HTl := hidden (toD_len 10 false (by omega) 6 v (by have h9 : (10 : Nat) ^ (6 + 1) = 10000000 := (by decide); omega))
  have HTne := hidden (toD_facts 10 false (by omega) (by omega) v v (Nat.le_refl _)).1
  have v0 : (0 : Int) ≤ (v : Int) := by omega
  have v1 : (v : Int) ≤ 9999999 := by omega
  have z0 : (0 : Int) ≤ (z : Int) := by omega
  have z8 : (z : Int) ≤ 8 := by omega
  clear T
  go_enter Tryd.func6, Tryd.ntmps6
  go_wp2
  go_loopw [9, 13] (fun sv xv wr => ∃ (u : Nat) (acc : List UInt8) (sa : ByteArray), sv = .string sa ∧ xv = .int .i64 (u : Int) ∧ u ≤ 9999999 ∧ sa.size ≤ 20 ∧ Hid (sa = ⟨acc.toArray⟩) ∧ Hid (if u = 0 ∧ acc ≠ [] then acc = toD 10 false v else toD 10 false u ++ acc = toD 10 false v) ∧ Hid (Step (fun _ => False) w wr)) (fun sv xv _ => 2 * (RowKit.intOf xv).toNat + (if strLen sv = 0 then 1 else 0))
  case atStart => exact ⟨v, [], ⟨#[]⟩, rfl, rfl, hv, by decide, hidden rfl, hidden (by simp), HS.out⟩
  case round =>
    obtain ⟨u, acc, sa, rfl, rfl, hu, hsa, HA, HQ, HSt⟩ := hrel
    by_cases hgo : u = 0 ∧ acc ≠ []
    · -- all digits stand
      have hem : sa.toList.isEmpty = false := by
        rw [empty_iff HA.out]
        cases acc with
        | nil => exact absurd rfl hgo.2
        | cons => rfl
      have HD := hidden (show sa = ⟨(toD 10 false v).toArray⟩ by
        have h := HQ.out
        rw [if_pos hgo] at h
        rw [HA.out, h])
      have hu0 := hgo.1
      subst hu0
      clear hgo HQ HA hu
      go_wp2
      go_loopw [9, 15] (fun sv iv wr => ∃ (i : Nat) (sb : ByteArray), sv = .string sb ∧ iv = .int .i64 (i : Int) ∧ i ≤ z ∧ sb.size ≤ 20 + i ∧ Hid (sb = ⟨(List.replicate i 48 ++ toD 10 false v).toArray⟩) ∧ Hid (Step (fun _ => False) w wr)) (fun _ iv _ => z - (RowKit.intOf iv).toNat)
      case atStart => exact ⟨0, sa, rfl, rfl, Nat.zero_le _, hsa, hidden (by rw [HD.out]; rfl), HSt.out⟩
      case round =>
        obtain ⟨i, sb, rfl, rfl, hiz, hsb, HB, HSt⟩ := hrel
        by_cases hi : i < z
        · have i0 : (i : Int) < (z : Int) := by omega
          have h48 : (⟨#[48]⟩ : ByteArray).size = 1 := rfl
          have HB2 := hidden (show (⟨#[48]⟩ : ByteArray) ++ sb = ⟨(List.replicate (i + 1) 48 ++ toD 10 false v).toArray⟩ by
            rw [HB.out, show (⟨#[48]⟩ : ByteArray) = ⟨([48] : List UInt8).toArray⟩ from rfl, cat_str, List.replicate_succ]; rfl)
          have HBz := hidden (show ((⟨#[48]⟩ : ByteArray) ++ sb).size ≤ 20 + (i + 1) by rw [ByteArray.size_append, h48]; omega)
          go_wp2
          go_roundw
          case rel => exact ⟨i + 1, _, rfl, by go_num, by omega, HBz.out, HB2.out, HSt.out⟩
          case measure => simp [RowKit.intOf]; omega
        · have hie : i = z := by omega
          have i0 : ¬ ((i : Int) < (z : Int)) := by omega
          subst hie
          have hND := numD_facts 10 false i v (by omega) (by omega)
          have HBD := hidden (show sb = ⟨(numD 10 false i v).toArray⟩ from HB.out)
          have hDz : sb.size = (numD 10 false i v).length := by rw [HBD.out]; exact ba_size _
          have hx : (⟨#[38, 35]⟩ : ByteArray) ++ sb ++ ⟨#[59, 120]⟩ = ⟨([38, 35] ++ numD 10 false i v ++ [59] ++ [120]).toArray⟩ := by
            rw [HBD.out, show (⟨#[38, 35]⟩ : ByteArray) = ⟨([38, 35] : List UInt8).toArray⟩ from rfl, show (⟨#[59, 120]⟩ : ByteArray) = ⟨([59, 120] : List UInt8).toArray⟩ from rfl, cat_str, cat_str]
            simp
          have hxl : ((⟨#[38, 35]⟩ : ByteArray) ++ sb ++ ⟨#[59, 120]⟩).data.toList = [38, 35] ++ numD 10 false i v ++ [59] ++ [120] := by rw [hx]
          have hAt := fun wx (T : EW wx) => at_any _ _ hxl (by simp only [List.length_append, List.length_cons, List.length_nil]; omega) wx T
          have hhd : (⟨#[38, 35]⟩ : ByteArray).size = 2 := rfl
          have htl : (⟨#[59, 120]⟩ : ByteArray).size = 2 := rfl
          have hhs : ((⟨#[38, 35]⟩ : ByteArray) ++ sb).size = 2 + sb.size := by rw [ByteArray.size_append, hhd]
          have HT1 := hidden (TT.out.step HSt.out)
          by_cases hlong : 7 < sb.size
          · have hA := at_long10 (numD 10 false i v) [120] hND.2.1 (by omega)
            rw [hA, show atT (([] : List UInt8), 0) = .tuple #[.string ⟨#[]⟩, .int .i64 0] from rfl] at hAt
            have g1 : (7 : Int) < (sb.size : Int) := by omega
            have HAt := hidden hAt
            clear hA hAt hx hxl hDz hND hlong
            go_wp2_with fail
            refine Calls.mono (HAt.out _ HT1.out) ?_
            rintro e w3 ⟨rfl, S3⟩
            have HS3 := hidden (HSt.out.made S3)
            clear S3
            have HK2 := hidden (HK.out _ (TT.out.step HS3.out))
            go_wp2_with fail
            refine Calls.mono HK2.out ?_
            rintro e w9 ⟨rfl, S9⟩
            have HS9 := hidden (HS3.out.made S9)
            clear S9
            go_wp2
            go_ret
            exact ⟨rfl, HS9.out⟩
          · have hA := at_dec (numD 10 false i v) [120] hND.1 hND.2.1 (by omega)
            rw [hA, hND.2.2, ← hDz] at hAt
            have g1 : ¬ (7 : Int) < (sb.size : Int) := by omega
            have hn : ((sb.size + 3 : Nat) : Int) = 2 + (sb.size : Int) + 1 := by omega
            have hAt2 := fun wx (T : EW wx) => by
              have := hAt wx T
              unfold atT str at this
              dsimp only at this
              rw [hn] at this
              exact this
            have hw32 : IntKind.i32.wrap (v : Int) = (v : Int) := by simp [IntKind.wrap, IntKind.bits, IntKind.signed]; omega
            clear hA hAt hx hxl hDz hND hlong hn
            by_cases b1 : v = 0
            · have hf : fixr v = 65533 := by unfold fixr; rw [if_pos (.inl b1)]
              subst b1
              have HA2 := hidden hAt2
              clear hAt2
              have HE := hidden (fun wx => pencode_any 65533 (by omega) (by omega) wx)
              unfold str at HE
              rw [hf] at HA2
              clear hf
              go_wp2_with fail
              refine Calls.mono (HA2.out _ HT1.out) ?_
              rintro e w3 ⟨rfl, S3⟩
              have HS3 := hidden (HSt.out.made S3)
              clear S3
              go_wp2_with fail
              with_reducible refine Calls.mono (HE.out _) ?_
              rintro e w4 ⟨rfl, S4⟩
              have HS4 := hidden (HS3.out.made S4)
              clear S4
              have HK2 := hidden (HK.out _ (TT.out.step HS4.out))
              go_wp2_with fail
              refine Calls.mono HK2.out ?_
              rintro e w9 ⟨rfl, S9⟩
              have HS9 := hidden (HS4.out.made S9)
              clear S9
              go_wp2
              go_ret
              exact ⟨rfl, HS9.out⟩
            have gv : ((v : Int) == 0) = false := by rw [beq_eq_false_iff_ne]; omega
            by_cases b2 : 1114111 < v
            · have hf : fixr v = 65533 := by unfold fixr; rw [if_pos (.inr (.inl b2))]
              have g2 : (1114111 : Int) < (v : Int) := by omega
              have HA2 := hidden hAt2
              clear hAt2
              have HE := hidden (fun wx => pencode_any 65533 (by omega) (by omega) wx)
              unfold str at HE
              rw [hf] at HA2
              clear hf b1 b2
              go_wp2_with fail
              refine Calls.mono (HA2.out _ HT1.out) ?_
              rintro e w3 ⟨rfl, S3⟩
              have HS3 := hidden (HSt.out.made S3)
              clear S3
              go_wp2_with fail
              with_reducible refine Calls.mono (HE.out _) ?_
              rintro e w4 ⟨rfl, S4⟩
              have HS4 := hidden (HS3.out.made S4)
              clear S4
              have HK2 := hidden (HK.out _ (TT.out.step HS4.out))
              go_wp2_with fail
              refine Calls.mono HK2.out ?_
              rintro e w9 ⟨rfl, S9⟩
              have HS9 := hidden (HS4.out.made S9)
              clear S9
              go_wp2
              go_ret
              exact ⟨rfl, HS9.out⟩
            have g2 : ¬ ((1114111 : Int) < (v : Int)) := by omega
            by_cases b3 : 55296 ≤ v ∧ v ≤ 57343
            · have hf : fixr v = 65533 := by unfold fixr; rw [if_pos (.inr (.inr b3))]
              have g3 : (55296 : Int) ≤ (v : Int) := by omega
              have g4 : (v : Int) < 57344 := by omega
              have HA2 := hidden hAt2
              clear hAt2
              have HE := hidden (fun wx => pencode_any 65533 (by omega) (by omega) wx)
              unfold str at HE
              rw [hf] at HA2
              clear hf b1 b2 b3 hv
              generalize (v : Int) = x at *
              go_wp2_with fail
              refine Calls.mono (HA2.out _ HT1.out) ?_
              rintro e w3 ⟨rfl, S3⟩
              have HS3 := hidden (HSt.out.made S3)
              clear S3
              go_wp2_with fail
              with_reducible refine Calls.mono (HE.out _) ?_
              rintro e w4 ⟨rfl, S4⟩
              have HS4 := hidden (HS3.out.made S4)
              clear S4
              have HK2 := hidden (HK.out _ (TT.out.step HS4.out))
              go_wp2_with fail
              refine Calls.mono HK2.out ?_
              rintro e w9 ⟨rfl, S9⟩
              have HS9 := hidden (HS4.out.made S9)
              clear S9
              go_wp2
              go_ret
              exact ⟨rfl, HS9.out⟩
            have hf : fixr v = v := by unfold fixr; rw [if_neg (by omega)]
            have g34 : ¬ ((55296 : Int) ≤ (v : Int)) ∨ ((55296 : Int) ≤ (v : Int) ∧ ¬ ((v : Int) < 57344)) := by omega
            rcases g34 with g3 | ⟨g3, g4⟩
            · skip
              have HA2 := hidden hAt2
              clear hAt2
              have HE := hidden (fun wx => pencode_any (v : Int) (by omega) (by omega) wx)
              unfold str at HE
              rw [hf] at HA2
              have k2 := decide_eq_false g2
              have k3 := decide_eq_false g3
              clear hf b1 b2 b3 g2 g3 v1 hv
              go_wp2_with fail
              refine Calls.mono (HA2.out _ HT1.out) ?_
              rintro e w3 ⟨rfl, S3⟩
              have HS3 := hidden (HSt.out.made S3)
              clear S3
              go_wp2_with fail
              with_reducible refine Calls.mono (HE.out _) ?_
              rintro e w4 ⟨rfl, S4⟩
              have HS4 := hidden (HS3.out.made S4)
              clear S4
              have HK2 := hidden (HK.out _ (TT.out.step HS4.out))
              go_wp2_with fail
              refine Calls.mono HK2.out ?_
              rintro e w9 ⟨rfl, S9⟩
              have HS9 := hidden (HS4.out.made S9)
              clear S9
              go_wp2
              go_ret
              exact ⟨rfl, HS9.out⟩
            · skip
              have HA2 := hidden hAt2
              clear hAt2
              have HE := hidden (fun wx => pencode_any (v : Int) (by omega) (by omega) wx)
              unfold str at HE
              rw [hf] at HA2
              clear hf b1 b2 b3
              go_wp2_with fail
              refine Calls.mono (HA2.out _ HT1.out) ?_
              rintro e w3 ⟨rfl, S3⟩
              have HS3 := hidden (HSt.out.made S3)
              clear S3
              go_wp2_with fail
              with_reducible refine Calls.mono (HE.out _) ?_
              rintro e w4 ⟨rfl, S4⟩
              have HS4 := hidden (HS3.out.made S4)
              clear S4
              have HK2 := hidden (HK.out _ (TT.out.step HS4.out))
              go_wp2_with fail
              refine Calls.mono HK2.out ?_
              rintro e w9 ⟨rfl, S9⟩
              have HS9 := hidden (HS4.out.made S9)
              clear S9
              go_wp2
              go_ret
              exact ⟨rfl, HS9.out⟩
    · have hlen : acc.length + 1 ≤ (toD 10 false v).length := by
        have h := HQ.out
        rw [if_neg hgo] at h
        rw [← h, List.length_append]
        have := (toD_facts 10 false (by omega) (by omega) u u (Nat.le_refl _)).1
        have : 1 ≤ (toD 10 false u).length := by
          cases hh : toD 10 false u with
          | nil => exact absurd hh this
          | cons => simp
        omega
      obtain ⟨d, hd⟩ : ∃ d, d = u % 10 := ⟨_, rfl⟩
      obtain ⟨q, hq⟩ : ∃ q, q = u / 10 := ⟨_, rfl⟩
      have m1 : (u : Int) % 10 = (d : Int) := by omega
      have m1' : (u : Int).tmod 10 = (d : Int) := by rw [Int.tmod_eq_emod_of_nonneg (by omega)]; omega
      have m2 : (u : Int) / 10 = (q : Int) := by omega
      have m2' : (u : Int).tdiv 10 = (q : Int) := by rw [Int.tdiv_eq_ediv_of_nonneg (by omega)]; omega
      have hd16 : d < 16 := by omega
      have d0 : (0 : Int) ≤ (d : Int) := by omega
      have d1 : (d : Int) < 16 := by omega
      have hdat := low_at d hd16 hd16
      obtain ⟨b8, hb8⟩ : ∃ b : UInt8, b = dc false d := ⟨_, rfl⟩
      rw [← hb8] at hdat
      have hcv := conv_lit_n wr [b8] #[.int .u8 (b8.toNat : Int)] 1 ⟨#[b8]⟩ rfl rfl rfl
      have hb1 : (⟨#[b8]⟩ : ByteArray).size = 1 := rfl
      have HA2 := hidden (show ((⟨#[b8]⟩ : ByteArray) ++ sa) = ⟨(b8 :: acc).toArray⟩ by rw [HA.out]; exact cat_str [b8] acc)
      have HAz := hidden (show ((⟨#[b8]⟩ : ByteArray) ++ sa).size ≤ 20 by
        rw [HA2.out, ba_size, List.length_cons]
        have := HTl.out
        omega)
      have HAn := hidden (show ((⟨#[b8]⟩ : ByteArray) ++ sa).size ≠ 0 by rw [HA2.out, ba_size]; simp)
      have HSt2 := hidden (HSt.out.alloc (.cells #[.int .u8 (b8.toNat : Int)] 5))
      have HQ2 := hidden (show (if q = 0 ∧ (b8 :: acc) ≠ [] then (b8 :: acc) = toD 10 false v else toD 10 false q ++ (b8 :: acc) = toD 10 false v) by
        have h := HQ.out
        rw [if_neg hgo] at h
        by_cases hb : u < 10
        · have hq0 : q = 0 := by omega
          rw [if_pos ⟨hq0, by simp⟩, ← h, toD_small false hb, hb8, hd, Nat.mod_eq_of_lt hb]; rfl
        · have hq0 : ¬ (q = 0 ∧ (b8 :: acc) ≠ []) := fun hh => by have := hh.1; omega
          rw [if_neg hq0, ← h, toD_step false hb (by omega), hb8, hd, hq]; simp)
      have Hqu := hidden (show q < u ∨ (u = 0 ∧ q = 0 ∧ sa.size = 0) by
        by_cases h0 : u = 0
        · refine .inr ⟨h0, by omega, ?_⟩
          have : acc = [] := by
            rcases Classical.em (acc = []) with h | h
            · exact h
            · exact absurd ⟨h0, h⟩ hgo
          rw [HA.out, this]; rfl
        · exact .inl (by omega))
      have hqb : q ≤ 9999999 := by omega
      have hgx : (0 : Int) < (u : Int) ∨ (¬ ((0 : Int) < (u : Int)) ∧ sa.toList.isEmpty = true) := by
        by_cases h0 : u = 0
        · refine .inr ⟨by omega, ?_⟩
          rw [empty_iff HA.out]
          rcases Classical.em (acc = []) with h | h
          · rw [h]; rfl
          · exact absurd ⟨h0, h⟩ hgo
        · exact .inl (by omega)
      clear hgo hlen hd hq hb8
      rcases hgx with x0 | ⟨x0, x1⟩
      · go_wp2
        go_roundw
        case rel => exact ⟨q, b8 :: acc, _, rfl, rfl, hqb, HAz.out, HA2.out, HQ2.out, HSt2.out⟩
        case measure =>
          have h1 := HAn.out
          have h2 := Hqu.out
          show 2 * ((q : Int)).toNat + (if _ = 0 then 1 else 0) < 2 * ((u : Int)).toNat + (if _ = 0 then 1 else 0)
          split <;> split <;> omega
      · have hu0 : u = 0 := by omega
        have hd0 : d = 0 := by omega
        have hq0 : q = 0 := by omega
        subst hu0
        subst hd0
        subst hq0
        go_wp2
        go_roundw
        case rel => exact ⟨0, b8 :: acc, _, rfl, rfl, hqb, HAz.out, HA2.out, HQ2.out, HSt2.out⟩
        case measure =>
          have h1 := HAn.out
          have h2 := Hqu.out
          show 2 * ((0 : Nat) : Int).toNat + (if ((⟨#[b8]⟩ : ByteArray) ++ sa).size = 0 then 1 else 0) < 2 * ((0 : Nat) : Int).toNat + (if sa.size = 0 then 1 else 0)
          rw [if_neg h1, if_pos (by omega)]
          omega

set_option maxRecDepth 100000 in
set_option maxHeartbeats 4000000 in
theorem num_decU (v z : Nat) (hv : v ≤ 9999999) (hz : z ≤ 8) (w : World) (T : EW w) :
    Calls Tryd.prog 6 #[.int .i64 (v : Int), .int .i64 (z : Int), .bool false, .bool true] w fun e w' => e = .returned (.bool true) ∧ Step (fun _ => False) w w' := by
  have HK := hidden (fun wx => eknown_any wx)
  have TT := hidden T
  have HS := hidden (Step.refl (fun _ => False) w)
  have HTl := hidden (toD_len 10 true (by omega) 6 v (by have h9 : (10 : Nat) ^ (6 + 1) = 10000000 := (by decide); omega))
  have HTne := hidden (toD_facts 10 true (by omega) (by omega) v v (Nat.le_refl _)).1
  have v0 : (0 : Int) ≤ (v : Int) := by omega
  have v1 : (v : Int) ≤ 9999999 := by omega
  have z0 : (0 : Int) ≤ (z : Int) := by omega
  have z8 : (z : Int) ≤ 8 := by omega
  clear T
  go_enter Tryd.func6, Tryd.ntmps6
  go_wp2
  go_loopw [9, 13] (fun sv xv wr => ∃ (u : Nat) (acc : List UInt8) (sa : ByteArray), sv = .string sa ∧ xv = .int .i64 (u : Int) ∧ u ≤ 9999999 ∧ sa.size ≤ 20 ∧ Hid (sa = ⟨acc.toArray⟩) ∧ Hid (if u = 0 ∧ acc ≠ [] then acc = toD 10 true v else toD 10 true u ++ acc = toD 10 true v) ∧ Hid (Step (fun _ => False) w wr)) (fun sv xv _ => 2 * (RowKit.intOf xv).toNat + (if strLen sv = 0 then 1 else 0))
  case atStart => exact ⟨v, [], ⟨#[]⟩, rfl, rfl, hv, by decide, hidden rfl, hidden (by simp), HS.out⟩
  case round =>
    obtain ⟨u, acc, sa, rfl, rfl, hu, hsa, HA, HQ, HSt⟩ := hrel
    by_cases hgo : u = 0 ∧ acc ≠ []
    · -- all digits stand
      have hem : sa.toList.isEmpty = false := by
        rw [empty_iff HA.out]
        cases acc with
        | nil => exact absurd rfl hgo.2
        | cons => rfl
      have HD := hidden (show sa = ⟨(toD 10 true v).toArray⟩ by
        have h := HQ.out
        rw [if_pos hgo] at h
        rw [HA.out, h])
      have hu0 := hgo.1
      subst hu0
      clear hgo HQ HA hu
      go_wp2
      go_loopw [9, 15] (fun sv iv wr => ∃ (i : Nat) (sb : ByteArray), sv = .string sb ∧ iv = .int .i64 (i : Int) ∧ i ≤ z ∧ sb.size ≤ 20 + i ∧ Hid (sb = ⟨(List.replicate i 48 ++ toD 10 true v).toArray⟩) ∧ Hid (Step (fun _ => False) w wr)) (fun _ iv _ => z - (RowKit.intOf iv).toNat)
      case atStart => exact ⟨0, sa, rfl, rfl, Nat.zero_le _, hsa, hidden (by rw [HD.out]; rfl), HSt.out⟩
      case round =>
        obtain ⟨i, sb, rfl, rfl, hiz, hsb, HB, HSt⟩ := hrel
        by_cases hi : i < z
        · have i0 : (i : Int) < (z : Int) := by omega
          have h48 : (⟨#[48]⟩ : ByteArray).size = 1 := rfl
          have HB2 := hidden (show (⟨#[48]⟩ : ByteArray) ++ sb = ⟨(List.replicate (i + 1) 48 ++ toD 10 true v).toArray⟩ by
            rw [HB.out, show (⟨#[48]⟩ : ByteArray) = ⟨([48] : List UInt8).toArray⟩ from rfl, cat_str, List.replicate_succ]; rfl)
          have HBz := hidden (show ((⟨#[48]⟩ : ByteArray) ++ sb).size ≤ 20 + (i + 1) by rw [ByteArray.size_append, h48]; omega)
          go_wp2
          go_roundw
          case rel => exact ⟨i + 1, _, rfl, by go_num, by omega, HBz.out, HB2.out, HSt.out⟩
          case measure => simp [RowKit.intOf]; omega
        · have hie : i = z := by omega
          have i0 : ¬ ((i : Int) < (z : Int)) := by omega
          subst hie
          have hND := numD_facts 10 true i v (by omega) (by omega)
          have HBD := hidden (show sb = ⟨(numD 10 true i v).toArray⟩ from HB.out)
          have hDz : sb.size = (numD 10 true i v).length := by rw [HBD.out]; exact ba_size _
          have hx : (⟨#[38, 35]⟩ : ByteArray) ++ sb ++ ⟨#[59, 120]⟩ = ⟨([38, 35] ++ numD 10 true i v ++ [59] ++ [120]).toArray⟩ := by
            rw [HBD.out, show (⟨#[38, 35]⟩ : ByteArray) = ⟨([38, 35] : List UInt8).toArray⟩ from rfl, show (⟨#[59, 120]⟩ : ByteArray) = ⟨([59, 120] : List UInt8).toArray⟩ from rfl, cat_str, cat_str]
            simp
          have hxl : ((⟨#[38, 35]⟩ : ByteArray) ++ sb ++ ⟨#[59, 120]⟩).data.toList = [38, 35] ++ numD 10 true i v ++ [59] ++ [120] := by rw [hx]
          have hAt := fun wx (T : EW wx) => at_any _ _ hxl (by simp only [List.length_append, List.length_cons, List.length_nil]; omega) wx T
          have hhd : (⟨#[38, 35]⟩ : ByteArray).size = 2 := rfl
          have htl : (⟨#[59, 120]⟩ : ByteArray).size = 2 := rfl
          have hhs : ((⟨#[38, 35]⟩ : ByteArray) ++ sb).size = 2 + sb.size := by rw [ByteArray.size_append, hhd]
          have HT1 := hidden (TT.out.step HSt.out)
          by_cases hlong : 7 < sb.size
          · have hA := at_long10 (numD 10 true i v) [120] hND.2.1 (by omega)
            rw [hA, show atT (([] : List UInt8), 0) = .tuple #[.string ⟨#[]⟩, .int .i64 0] from rfl] at hAt
            have g1 : (7 : Int) < (sb.size : Int) := by omega
            have HAt := hidden hAt
            clear hA hAt hx hxl hDz hND hlong
            go_wp2_with fail
            refine Calls.mono (HAt.out _ HT1.out) ?_
            rintro e w3 ⟨rfl, S3⟩
            have HS3 := hidden (HSt.out.made S3)
            clear S3
            have HK2 := hidden (HK.out _ (TT.out.step HS3.out))
            go_wp2_with fail
            refine Calls.mono HK2.out ?_
            rintro e w9 ⟨rfl, S9⟩
            have HS9 := hidden (HS3.out.made S9)
            clear S9
            go_wp2
            go_ret
            exact ⟨rfl, HS9.out⟩
          · have hA := at_dec (numD 10 true i v) [120] hND.1 hND.2.1 (by omega)
            rw [hA, hND.2.2, ← hDz] at hAt
            have g1 : ¬ (7 : Int) < (sb.size : Int) := by omega
            have hn : ((sb.size + 3 : Nat) : Int) = 2 + (sb.size : Int) + 1 := by omega
            have hAt2 := fun wx (T : EW wx) => by
              have := hAt wx T
              unfold atT str at this
              dsimp only at this
              rw [hn] at this
              exact this
            have hw32 : IntKind.i32.wrap (v : Int) = (v : Int) := by simp [IntKind.wrap, IntKind.bits, IntKind.signed]; omega
            clear hA hAt hx hxl hDz hND hlong hn
            by_cases b1 : v = 0
            · have hf : fixr v = 65533 := by unfold fixr; rw [if_pos (.inl b1)]
              subst b1
              have HA2 := hidden hAt2
              clear hAt2
              have HE := hidden (fun wx => pencode_any 65533 (by omega) (by omega) wx)
              unfold str at HE
              rw [hf] at HA2
              clear hf
              go_wp2_with fail
              refine Calls.mono (HA2.out _ HT1.out) ?_
              rintro e w3 ⟨rfl, S3⟩
              have HS3 := hidden (HSt.out.made S3)
              clear S3
              go_wp2_with fail
              with_reducible refine Calls.mono (HE.out _) ?_
              rintro e w4 ⟨rfl, S4⟩
              have HS4 := hidden (HS3.out.made S4)
              clear S4
              have HK2 := hidden (HK.out _ (TT.out.step HS4.out))
              go_wp2_with fail
              refine Calls.mono HK2.out ?_
              rintro e w9 ⟨rfl, S9⟩
              have HS9 := hidden (HS4.out.made S9)
              clear S9
              go_wp2
              go_ret
              exact ⟨rfl, HS9.out⟩
            have gv : ((v : Int) == 0) = false := by rw [beq_eq_false_iff_ne]; omega
            by_cases b2 : 1114111 < v
            · have hf : fixr v = 65533 := by unfold fixr; rw [if_pos (.inr (.inl b2))]
              have g2 : (1114111 : Int) < (v : Int) := by omega
              have HA2 := hidden hAt2
              clear hAt2
              have HE := hidden (fun wx => pencode_any 65533 (by omega) (by omega) wx)
              unfold str at HE
              rw [hf] at HA2
              clear hf b1 b2
              go_wp2_with fail
              refine Calls.mono (HA2.out _ HT1.out) ?_
              rintro e w3 ⟨rfl, S3⟩
              have HS3 := hidden (HSt.out.made S3)
              clear S3
              go_wp2_with fail
              with_reducible refine Calls.mono (HE.out _) ?_
              rintro e w4 ⟨rfl, S4⟩
              have HS4 := hidden (HS3.out.made S4)
              clear S4
              have HK2 := hidden (HK.out _ (TT.out.step HS4.out))
              go_wp2_with fail
              refine Calls.mono HK2.out ?_
              rintro e w9 ⟨rfl, S9⟩
              have HS9 := hidden (HS4.out.made S9)
              clear S9
              go_wp2
              go_ret
              exact ⟨rfl, HS9.out⟩
            have g2 : ¬ ((1114111 : Int) < (v : Int)) := by omega
            by_cases b3 : 55296 ≤ v ∧ v ≤ 57343
            · have hf : fixr v = 65533 := by unfold fixr; rw [if_pos (.inr (.inr b3))]
              have g3 : (55296 : Int) ≤ (v : Int) := by omega
              have g4 : (v : Int) < 57344 := by omega
              have HA2 := hidden hAt2
              clear hAt2
              have HE := hidden (fun wx => pencode_any 65533 (by omega) (by omega) wx)
              unfold str at HE
              rw [hf] at HA2
              clear hf b1 b2 b3 hv
              generalize (v : Int) = x at *
              go_wp2_with fail
              refine Calls.mono (HA2.out _ HT1.out) ?_
              rintro e w3 ⟨rfl, S3⟩
              have HS3 := hidden (HSt.out.made S3)
              clear S3
              go_wp2_with fail
              with_reducible refine Calls.mono (HE.out _) ?_
              rintro e w4 ⟨rfl, S4⟩
              have HS4 := hidden (HS3.out.made S4)
              clear S4
              have HK2 := hidden (HK.out _ (TT.out.step HS4.out))
              go_wp2_with fail
              refine Calls.mono HK2.out ?_
              rintro e w9 ⟨rfl, S9⟩
              have HS9 := hidden (HS4.out.made S9)
              clear S9
              go_wp2
              go_ret
              exact ⟨rfl, HS9.out⟩
            have hf : fixr v = v := by unfold fixr; rw [if_neg (by omega)]
            have g34 : ¬ ((55296 : Int) ≤ (v : Int)) ∨ ((55296 : Int) ≤ (v : Int) ∧ ¬ ((v : Int) < 57344)) := by omega
            rcases g34 with g3 | ⟨g3, g4⟩
            · skip
              have HA2 := hidden hAt2
              clear hAt2
              have HE := hidden (fun wx => pencode_any (v : Int) (by omega) (by omega) wx)
              unfold str at HE
              rw [hf] at HA2
              have k2 := decide_eq_false g2
              have k3 := decide_eq_false g3
              clear hf b1 b2 b3 g2 g3 v1 hv
              go_wp2_with fail
              refine Calls.mono (HA2.out _ HT1.out) ?_
              rintro e w3 ⟨rfl, S3⟩
              have HS3 := hidden (HSt.out.made S3)
              clear S3
              go_wp2_with fail
              with_reducible refine Calls.mono (HE.out _) ?_
              rintro e w4 ⟨rfl, S4⟩
              have HS4 := hidden (HS3.out.made S4)
              clear S4
              have HK2 := hidden (HK.out _ (TT.out.step HS4.out))
              go_wp2_with fail
              refine Calls.mono HK2.out ?_
              rintro e w9 ⟨rfl, S9⟩
              have HS9 := hidden (HS4.out.made S9)
              clear S9
              go_wp2
              go_ret
              exact ⟨rfl, HS9.out⟩
            · skip
              have HA2 := hidden hAt2
              clear hAt2
              have HE := hidden (fun wx => pencode_any (v : Int) (by omega) (by omega) wx)
              unfold str at HE
              rw [hf] at HA2
              clear hf b1 b2 b3
              go_wp2_with fail
              refine Calls.mono (HA2.out _ HT1.out) ?_
              rintro e w3 ⟨rfl, S3⟩
              have HS3 := hidden (HSt.out.made S3)
              clear S3
              go_wp2_with fail
              with_reducible refine Calls.mono (HE.out _) ?_
              rintro e w4 ⟨rfl, S4⟩
              have HS4 := hidden (HS3.out.made S4)
              clear S4
              have HK2 := hidden (HK.out _ (TT.out.step HS4.out))
              go_wp2_with fail
              refine Calls.mono HK2.out ?_
              rintro e w9 ⟨rfl, S9⟩
              have HS9 := hidden (HS4.out.made S9)
              clear S9
              go_wp2
              go_ret
              exact ⟨rfl, HS9.out⟩
    · have hlen : acc.length + 1 ≤ (toD 10 true v).length := by
        have h := HQ.out
        rw [if_neg hgo] at h
        rw [← h, List.length_append]
        have := (toD_facts 10 true (by omega) (by omega) u u (Nat.le_refl _)).1
        have : 1 ≤ (toD 10 true u).length := by
          cases hh : toD 10 true u with
          | nil => exact absurd hh this
          | cons => simp
        omega
      obtain ⟨d, hd⟩ : ∃ d, d = u % 10 := ⟨_, rfl⟩
      obtain ⟨q, hq⟩ : ∃ q, q = u / 10 := ⟨_, rfl⟩
      have m1 : (u : Int) % 10 = (d : Int) := by omega
      have m1' : (u : Int).tmod 10 = (d : Int) := by rw [Int.tmod_eq_emod_of_nonneg (by omega)]; omega
      have m2 : (u : Int) / 10 = (q : Int) := by omega
      have m2' : (u : Int).tdiv 10 = (q : Int) := by rw [Int.tdiv_eq_ediv_of_nonneg (by omega)]; omega
      have hd16 : d < 16 := by omega
      have d0 : (0 : Int) ≤ (d : Int) := by omega
      have d1 : (d : Int) < 16 := by omega
      have hdat := up_at d hd16 hd16
      obtain ⟨b8, hb8⟩ : ∃ b : UInt8, b = dc true d := ⟨_, rfl⟩
      rw [← hb8] at hdat
      have hcv := conv_lit_n wr [b8] #[.int .u8 (b8.toNat : Int)] 1 ⟨#[b8]⟩ rfl rfl rfl
      have hb1 : (⟨#[b8]⟩ : ByteArray).size = 1 := rfl
      have HA2 := hidden (show ((⟨#[b8]⟩ : ByteArray) ++ sa) = ⟨(b8 :: acc).toArray⟩ by rw [HA.out]; exact cat_str [b8] acc)
      have HAz := hidden (show ((⟨#[b8]⟩ : ByteArray) ++ sa).size ≤ 20 by
        rw [HA2.out, ba_size, List.length_cons]
        have := HTl.out
        omega)
      have HAn := hidden (show ((⟨#[b8]⟩ : ByteArray) ++ sa).size ≠ 0 by rw [HA2.out, ba_size]; simp)
      have HSt2 := hidden (HSt.out.alloc (.cells #[.int .u8 (b8.toNat : Int)] 5))
      have HQ2 := hidden (show (if q = 0 ∧ (b8 :: acc) ≠ [] then (b8 :: acc) = toD 10 true v else toD 10 true q ++ (b8 :: acc) = toD 10 true v) by
        have h := HQ.out
        rw [if_neg hgo] at h
        by_cases hb : u < 10
        · have hq0 : q = 0 := by omega
          rw [if_pos ⟨hq0, by simp⟩, ← h, toD_small true hb, hb8, hd, Nat.mod_eq_of_lt hb]; rfl
        · have hq0 : ¬ (q = 0 ∧ (b8 :: acc) ≠ []) := fun hh => by have := hh.1; omega
          rw [if_neg hq0, ← h, toD_step true hb (by omega), hb8, hd, hq]; simp)
      have Hqu := hidden (show q < u ∨ (u = 0 ∧ q = 0 ∧ sa.size = 0) by
        by_cases h0 : u = 0
        · refine .inr ⟨h0, by omega, ?_⟩
          have : acc = [] := by
            rcases Classical.em (acc = []) with h | h
            · exact h
            · exact absurd ⟨h0, h⟩ hgo
          rw [HA.out, this]; rfl
        · exact .inl (by omega))
      have hqb : q ≤ 9999999 := by omega
      have hgx : (0 : Int) < (u : Int) ∨ (¬ ((0 : Int) < (u : Int)) ∧ sa.toList.isEmpty = true) := by
        by_cases h0 : u = 0
        · refine .inr ⟨by omega, ?_⟩
          rw [empty_iff HA.out]
          rcases Classical.em (acc = []) with h | h
          · rw [h]; rfl
          · exact absurd ⟨h0, h⟩ hgo
        · exact .inl (by omega)
      clear hgo hlen hd hq hb8
      rcases hgx with x0 | ⟨x0, x1⟩
      · go_wp2
        go_roundw
        case rel => exact ⟨q, b8 :: acc, _, rfl, rfl, hqb, HAz.out, HA2.out, HQ2.out, HSt2.out⟩
        case measure =>
          have h1 := HAn.out
          have h2 := Hqu.out
          show 2 * ((q : Int)).toNat + (if _ = 0 then 1 else 0) < 2 * ((u : Int)).toNat + (if _ = 0 then 1 else 0)
          split <;> split <;> omega
      · have hu0 : u = 0 := by omega
        have hd0 : d = 0 := by omega
        have hq0 : q = 0 := by omega
        subst hu0
        subst hd0
        subst hq0
        go_wp2
        go_roundw
        case rel => exact ⟨0, b8 :: acc, _, rfl, rfl, hqb, HAz.out, HA2.out, HQ2.out, HSt2.out⟩
        case measure =>
          have h1 := HAn.out
          have h2 := Hqu.out
          show 2 * ((0 : Nat) : Int).toNat + (if ((⟨#[b8]⟩ : ByteArray) ++ sa).size = 0 then 1 else 0) < 2 * ((0 : Nat) : Int).toNat + (if sa.size = 0 then 1 else 0)
          rw [if_neg h1, if_pos (by omega)]
          omega

set_option maxRecDepth 100000 in
set_option maxHeartbeats 4000000 in
theorem num_hexL (v z : Nat) (hv : v ≤ 9999999) (hz : z ≤ 8) (w : World) (T : EW w) :
    Calls Tryd.prog 6 #[.int .i64 (v : Int), .int .i64 (z : Int), .bool true, .bool false] w fun e w' => e = .returned (.bool true) ∧ Step (fun _ => False) w w' := by
  have HK := hidden (fun wx => eknown_any wx)
  have TT := hidden T
  have HS := hidden (Step.refl (fun _ => False) w)
  have HTl := hidden (toD_len 16 false (by omega) 5 v (by have h9 : (16 : Nat) ^ (5 + 1) = 16777216 := (by decide); omega))
  have HTne := hidden (toD_facts 16 false (by omega) (by omega) v v (Nat.le_refl _)).1
  have v0 : (0 : Int) ≤ (v : Int) := by omega
  have v1 : (v : Int) ≤ 9999999 := by omega
  have z0 : (0 : Int) ≤ (z : Int) := by omega
  have z8 : (z : Int) ≤ 8 := by omega
  clear T
  go_enter Tryd.func6, Tryd.ntmps6
  go_wp2
  go_loopw [9, 13] (fun sv xv wr => ∃ (u : Nat) (acc : List UInt8) (sa : ByteArray), sv = .string sa ∧ xv = .int .i64 (u : Int) ∧ u ≤ 9999999 ∧ sa.size ≤ 20 ∧ Hid (sa = ⟨acc.toArray⟩) ∧ Hid (if u = 0 ∧ acc ≠ [] then acc = toD 16 false v else toD 16 false u ++ acc = toD 16 false v) ∧ Hid (Step (fun _ => False) w wr)) (fun sv xv _ => 2 * (RowKit.intOf xv).toNat + (if strLen sv = 0 then 1 else 0))
  case atStart => exact ⟨v, [], ⟨#[]⟩, rfl, rfl, hv, by decide, hidden rfl, hidden (by simp), HS.out⟩
  case round =>
    obtain ⟨u, acc, sa, rfl, rfl, hu, hsa, HA, HQ, HSt⟩ := hrel
    by_cases hgo : u = 0 ∧ acc ≠ []
    · -- all digits stand
      have hem : sa.toList.isEmpty = false := by
        rw [empty_iff HA.out]
        cases acc with
        | nil => exact absurd rfl hgo.2
        | cons => rfl
      have HD := hidden (show sa = ⟨(toD 16 false v).toArray⟩ by
        have h := HQ.out
        rw [if_pos hgo] at h
        rw [HA.out, h])
      have hu0 := hgo.1
      subst hu0
      clear hgo HQ HA hu
      go_wp2
      go_loopw [9, 15] (fun sv iv wr => ∃ (i : Nat) (sb : ByteArray), sv = .string sb ∧ iv = .int .i64 (i : Int) ∧ i ≤ z ∧ sb.size ≤ 20 + i ∧ Hid (sb = ⟨(List.replicate i 48 ++ toD 16 false v).toArray⟩) ∧ Hid (Step (fun _ => False) w wr)) (fun _ iv _ => z - (RowKit.intOf iv).toNat)
      case atStart => exact ⟨0, sa, rfl, rfl, Nat.zero_le _, hsa, hidden (by rw [HD.out]; rfl), HSt.out⟩
      case round =>
        obtain ⟨i, sb, rfl, rfl, hiz, hsb, HB, HSt⟩ := hrel
        by_cases hi : i < z
        · have i0 : (i : Int) < (z : Int) := by omega
          have h48 : (⟨#[48]⟩ : ByteArray).size = 1 := rfl
          have HB2 := hidden (show (⟨#[48]⟩ : ByteArray) ++ sb = ⟨(List.replicate (i + 1) 48 ++ toD 16 false v).toArray⟩ by
            rw [HB.out, show (⟨#[48]⟩ : ByteArray) = ⟨([48] : List UInt8).toArray⟩ from rfl, cat_str, List.replicate_succ]; rfl)
          have HBz := hidden (show ((⟨#[48]⟩ : ByteArray) ++ sb).size ≤ 20 + (i + 1) by rw [ByteArray.size_append, h48]; omega)
          go_wp2
          go_roundw
          case rel => exact ⟨i + 1, _, rfl, by go_num, by omega, HBz.out, HB2.out, HSt.out⟩
          case measure => simp [RowKit.intOf]; omega
        · have hie : i = z := by omega
          have i0 : ¬ ((i : Int) < (z : Int)) := by omega
          subst hie
          have hND := numD_facts 16 false i v (by omega) (by omega)
          have HBD := hidden (show sb = ⟨(numD 16 false i v).toArray⟩ from HB.out)
          have hDz : sb.size = (numD 16 false i v).length := by rw [HBD.out]; exact ba_size _
          have hx : (⟨#[38, 35, 120]⟩ : ByteArray) ++ sb ++ ⟨#[59, 120]⟩ = ⟨([38, 35, 120] ++ numD 16 false i v ++ [59] ++ [120]).toArray⟩ := by
            rw [HBD.out, show (⟨#[38, 35, 120]⟩ : ByteArray) = ⟨([38, 35, 120] : List UInt8).toArray⟩ from rfl, show (⟨#[59, 120]⟩ : ByteArray) = ⟨([59, 120] : List UInt8).toArray⟩ from rfl, cat_str, cat_str]
            simp
          have hxl : ((⟨#[38, 35, 120]⟩ : ByteArray) ++ sb ++ ⟨#[59, 120]⟩).data.toList = [38, 35, 120] ++ numD 16 false i v ++ [59] ++ [120] := by rw [hx]
          have hAt := fun wx (T : EW wx) => at_any _ _ hxl (by simp only [List.length_append, List.length_cons, List.length_nil]; omega) wx T
          have hhd : (⟨#[38, 35, 120]⟩ : ByteArray).size = 3 := rfl
          have htl : (⟨#[59, 120]⟩ : ByteArray).size = 2 := rfl
          have hhs : ((⟨#[38, 35, 120]⟩ : ByteArray) ++ sb).size = 3 + sb.size := by rw [ByteArray.size_append, hhd]
          have HT1 := hidden (TT.out.step HSt.out)
          by_cases hlong : 6 < sb.size
          · have hA := at_long16 (numD 16 false i v) [120] hND.2.1 (by omega)
            rw [hA, show atT (([] : List UInt8), 0) = .tuple #[.string ⟨#[]⟩, .int .i64 0] from rfl] at hAt
            have g1 : (6 : Int) < (sb.size : Int) := by omega
            have HAt := hidden hAt
            clear hA hAt hx hxl hDz hND hlong
            go_wp2_with fail
            refine Calls.mono (HAt.out _ HT1.out) ?_
            rintro e w3 ⟨rfl, S3⟩
            have HS3 := hidden (HSt.out.made S3)
            clear S3
            have HK2 := hidden (HK.out _ (TT.out.step HS3.out))
            go_wp2_with fail
            refine Calls.mono HK2.out ?_
            rintro e w9 ⟨rfl, S9⟩
            have HS9 := hidden (HS3.out.made S9)
            clear S9
            go_wp2
            go_ret
            exact ⟨rfl, HS9.out⟩
          · have hA := at_hex (numD 16 false i v) [120] hND.1 hND.2.1 (by omega)
            rw [hA, hND.2.2, ← hDz] at hAt
            have g1 : ¬ (6 : Int) < (sb.size : Int) := by omega
            have hn : ((sb.size + 4 : Nat) : Int) = 3 + (sb.size : Int) + 1 := by omega
            have hAt2 := fun wx (T : EW wx) => by
              have := hAt wx T
              unfold atT str at this
              dsimp only at this
              rw [hn] at this
              exact this
            have hw32 : IntKind.i32.wrap (v : Int) = (v : Int) := by simp [IntKind.wrap, IntKind.bits, IntKind.signed]; omega
            clear hA hAt hx hxl hDz hND hlong hn
            by_cases b1 : v = 0
            · have hf : fixr v = 65533 := by unfold fixr; rw [if_pos (.inl b1)]
              subst b1
              have HA2 := hidden hAt2
              clear hAt2
              have HE := hidden (fun wx => pencode_any 65533 (by omega) (by omega) wx)
              unfold str at HE
              rw [hf] at HA2
              clear hf
              go_wp2_with fail
              refine Calls.mono (HA2.out _ HT1.out) ?_
              rintro e w3 ⟨rfl, S3⟩
              have HS3 := hidden (HSt.out.made S3)
              clear S3
              go_wp2_with fail
              with_reducible refine Calls.mono (HE.out _) ?_
              rintro e w4 ⟨rfl, S4⟩
              have HS4 := hidden (HS3.out.made S4)
              clear S4
              have HK2 := hidden (HK.out _ (TT.out.step HS4.out))
              go_wp2_with fail
              refine Calls.mono HK2.out ?_
              rintro e w9 ⟨rfl, S9⟩
              have HS9 := hidden (HS4.out.made S9)
              clear S9
              go_wp2
              go_ret
              exact ⟨rfl, HS9.out⟩
            have gv : ((v : Int) == 0) = false := by rw [beq_eq_false_iff_ne]; omega
            by_cases b2 : 1114111 < v
            · have hf : fixr v = 65533 := by unfold fixr; rw [if_pos (.inr (.inl b2))]
              have g2 : (1114111 : Int) < (v : Int) := by omega
              have HA2 := hidden hAt2
              clear hAt2
              have HE := hidden (fun wx => pencode_any 65533 (by omega) (by omega) wx)
              unfold str at HE
              rw [hf] at HA2
              clear hf b1 b2
              go_wp2_with fail
              refine Calls.mono (HA2.out _ HT1.out) ?_
              rintro e w3 ⟨rfl, S3⟩
              have HS3 := hidden (HSt.out.made S3)
              clear S3
              go_wp2_with fail
              with_reducible refine Calls.mono (HE.out _) ?_
              rintro e w4 ⟨rfl, S4⟩
              have HS4 := hidden (HS3.out.made S4)
              clear S4
              have HK2 := hidden (HK.out _ (TT.out.step HS4.out))
              go_wp2_with fail
              refine Calls.mono HK2.out ?_
              rintro e w9 ⟨rfl, S9⟩
              have HS9 := hidden (HS4.out.made S9)
              clear S9
              go_wp2
              go_ret
              exact ⟨rfl, HS9.out⟩
            have g2 : ¬ ((1114111 : Int) < (v : Int)) := by omega
            by_cases b3 : 55296 ≤ v ∧ v ≤ 57343
            · have hf : fixr v = 65533 := by unfold fixr; rw [if_pos (.inr (.inr b3))]
              have g3 : (55296 : Int) ≤ (v : Int) := by omega
              have g4 : (v : Int) < 57344 := by omega
              have HA2 := hidden hAt2
              clear hAt2
              have HE := hidden (fun wx => pencode_any 65533 (by omega) (by omega) wx)
              unfold str at HE
              rw [hf] at HA2
              clear hf b1 b2 b3 hv
              generalize (v : Int) = x at *
              go_wp2_with fail
              refine Calls.mono (HA2.out _ HT1.out) ?_
              rintro e w3 ⟨rfl, S3⟩
              have HS3 := hidden (HSt.out.made S3)
              clear S3
              go_wp2_with fail
              with_reducible refine Calls.mono (HE.out _) ?_
              rintro e w4 ⟨rfl, S4⟩
              have HS4 := hidden (HS3.out.made S4)
              clear S4
              have HK2 := hidden (HK.out _ (TT.out.step HS4.out))
              go_wp2_with fail
              refine Calls.mono HK2.out ?_
              rintro e w9 ⟨rfl, S9⟩
              have HS9 := hidden (HS4.out.made S9)
              clear S9
              go_wp2
              go_ret
              exact ⟨rfl, HS9.out⟩
            have hf : fixr v = v := by unfold fixr; rw [if_neg (by omega)]
            have g34 : ¬ ((55296 : Int) ≤ (v : Int)) ∨ ((55296 : Int) ≤ (v : Int) ∧ ¬ ((v : Int) < 57344)) := by omega
            rcases g34 with g3 | ⟨g3, g4⟩
            · skip
              have HA2 := hidden hAt2
              clear hAt2
              have HE := hidden (fun wx => pencode_any (v : Int) (by omega) (by omega) wx)
              unfold str at HE
              rw [hf] at HA2
              have k2 := decide_eq_false g2
              have k3 := decide_eq_false g3
              clear hf b1 b2 b3 g2 g3 v1 hv
              go_wp2_with fail
              refine Calls.mono (HA2.out _ HT1.out) ?_
              rintro e w3 ⟨rfl, S3⟩
              have HS3 := hidden (HSt.out.made S3)
              clear S3
              go_wp2_with fail
              with_reducible refine Calls.mono (HE.out _) ?_
              rintro e w4 ⟨rfl, S4⟩
              have HS4 := hidden (HS3.out.made S4)
              clear S4
              have HK2 := hidden (HK.out _ (TT.out.step HS4.out))
              go_wp2_with fail
              refine Calls.mono HK2.out ?_
              rintro e w9 ⟨rfl, S9⟩
              have HS9 := hidden (HS4.out.made S9)
              clear S9
              go_wp2
              go_ret
              exact ⟨rfl, HS9.out⟩
            · skip
              have HA2 := hidden hAt2
              clear hAt2
              have HE := hidden (fun wx => pencode_any (v : Int) (by omega) (by omega) wx)
              unfold str at HE
              rw [hf] at HA2
              clear hf b1 b2 b3
              go_wp2_with fail
              refine Calls.mono (HA2.out _ HT1.out) ?_
              rintro e w3 ⟨rfl, S3⟩
              have HS3 := hidden (HSt.out.made S3)
              clear S3
              go_wp2_with fail
              with_reducible refine Calls.mono (HE.out _) ?_
              rintro e w4 ⟨rfl, S4⟩
              have HS4 := hidden (HS3.out.made S4)
              clear S4
              have HK2 := hidden (HK.out _ (TT.out.step HS4.out))
              go_wp2_with fail
              refine Calls.mono HK2.out ?_
              rintro e w9 ⟨rfl, S9⟩
              have HS9 := hidden (HS4.out.made S9)
              clear S9
              go_wp2
              go_ret
              exact ⟨rfl, HS9.out⟩
    · have hlen : acc.length + 1 ≤ (toD 16 false v).length := by
        have h := HQ.out
        rw [if_neg hgo] at h
        rw [← h, List.length_append]
        have := (toD_facts 16 false (by omega) (by omega) u u (Nat.le_refl _)).1
        have : 1 ≤ (toD 16 false u).length := by
          cases hh : toD 16 false u with
          | nil => exact absurd hh this
          | cons => simp
        omega
      obtain ⟨d, hd⟩ : ∃ d, d = u % 16 := ⟨_, rfl⟩
      obtain ⟨q, hq⟩ : ∃ q, q = u / 16 := ⟨_, rfl⟩
      have m1 : (u : Int) % 16 = (d : Int) := by omega
      have m1' : (u : Int).tmod 16 = (d : Int) := by rw [Int.tmod_eq_emod_of_nonneg (by omega)]; omega
      have m2 : (u : Int) / 16 = (q : Int) := by omega
      have m2' : (u : Int).tdiv 16 = (q : Int) := by rw [Int.tdiv_eq_ediv_of_nonneg (by omega)]; omega
      have hd16 : d < 16 := by omega
      have d0 : (0 : Int) ≤ (d : Int) := by omega
      have d1 : (d : Int) < 16 := by omega
      have hdat := low_at d hd16 hd16
      obtain ⟨b8, hb8⟩ : ∃ b : UInt8, b = dc false d := ⟨_, rfl⟩
      rw [← hb8] at hdat
      have hcv := conv_lit_n wr [b8] #[.int .u8 (b8.toNat : Int)] 1 ⟨#[b8]⟩ rfl rfl rfl
      have hb1 : (⟨#[b8]⟩ : ByteArray).size = 1 := rfl
      have HA2 := hidden (show ((⟨#[b8]⟩ : ByteArray) ++ sa) = ⟨(b8 :: acc).toArray⟩ by rw [HA.out]; exact cat_str [b8] acc)
      have HAz := hidden (show ((⟨#[b8]⟩ : ByteArray) ++ sa).size ≤ 20 by
        rw [HA2.out, ba_size, List.length_cons]
        have := HTl.out
        omega)
      have HAn := hidden (show ((⟨#[b8]⟩ : ByteArray) ++ sa).size ≠ 0 by rw [HA2.out, ba_size]; simp)
      have HSt2 := hidden (HSt.out.alloc (.cells #[.int .u8 (b8.toNat : Int)] 5))
      have HQ2 := hidden (show (if q = 0 ∧ (b8 :: acc) ≠ [] then (b8 :: acc) = toD 16 false v else toD 16 false q ++ (b8 :: acc) = toD 16 false v) by
        have h := HQ.out
        rw [if_neg hgo] at h
        by_cases hb : u < 16
        · have hq0 : q = 0 := by omega
          rw [if_pos ⟨hq0, by simp⟩, ← h, toD_small false hb, hb8, hd, Nat.mod_eq_of_lt hb]; rfl
        · have hq0 : ¬ (q = 0 ∧ (b8 :: acc) ≠ []) := fun hh => by have := hh.1; omega
          rw [if_neg hq0, ← h, toD_step false hb (by omega), hb8, hd, hq]; simp)
      have Hqu := hidden (show q < u ∨ (u = 0 ∧ q = 0 ∧ sa.size = 0) by
        by_cases h0 : u = 0
        · refine .inr ⟨h0, by omega, ?_⟩
          have : acc = [] := by
            rcases Classical.em (acc = []) with h | h
            · exact h
            · exact absurd ⟨h0, h⟩ hgo
          rw [HA.out, this]; rfl
        · exact .inl (by omega))
      have hqb : q ≤ 9999999 := by omega
      have hgx : (0 : Int) < (u : Int) ∨ (¬ ((0 : Int) < (u : Int)) ∧ sa.toList.isEmpty = true) := by
        by_cases h0 : u = 0
        · refine .inr ⟨by omega, ?_⟩
          rw [empty_iff HA.out]
          rcases Classical.em (acc = []) with h | h
          · rw [h]; rfl
          · exact absurd ⟨h0, h⟩ hgo
        · exact .inl (by omega)
      clear hgo hlen hd hq hb8
      rcases hgx with x0 | ⟨x0, x1⟩
      · go_wp2
        go_roundw
        case rel => exact ⟨q, b8 :: acc, _, rfl, rfl, hqb, HAz.out, HA2.out, HQ2.out, HSt2.out⟩
        case measure =>
          have h1 := HAn.out
          have h2 := Hqu.out
          show 2 * ((q : Int)).toNat + (if _ = 0 then 1 else 0) < 2 * ((u : Int)).toNat + (if _ = 0 then 1 else 0)
          split <;> split <;> omega
      · have hu0 : u = 0 := by omega
        have hd0 : d = 0 := by omega
        have hq0 : q = 0 := by omega
        subst hu0
        subst hd0
        subst hq0
        go_wp2
        go_roundw
        case rel => exact ⟨0, b8 :: acc, _, rfl, rfl, hqb, HAz.out, HA2.out, HQ2.out, HSt2.out⟩
        case measure =>
          have h1 := HAn.out
          have h2 := Hqu.out
          show 2 * ((0 : Nat) : Int).toNat + (if ((⟨#[b8]⟩ : ByteArray) ++ sa).size = 0 then 1 else 0) < 2 * ((0 : Nat) : Int).toNat + (if sa.size = 0 then 1 else 0)
          rw [if_neg h1, if_pos (by omega)]
          omega

set_option maxRecDepth 100000 in
set_option maxHeartbeats 4000000 in
theorem num_hexU (v z : Nat) (hv : v ≤ 9999999) (hz : z ≤ 8) (w : World) (T : EW w) :
    Calls Tryd.prog 6 #[.int .i64 (v : Int), .int .i64 (z : Int), .bool true, .bool true] w fun e w' => e = .returned (.bool true) ∧ Step (fun _ => False) w w' := by
  have HK := hidden (fun wx => eknown_any wx)
  have TT := hidden T
  have HS := hidden (Step.refl (fun _ => False) w)
  have HTl := hidden (toD_len 16 true (by omega) 5 v (by have h9 : (16 : Nat) ^ (5 + 1) = 16777216 := (by decide); omega))
  have HTne := hidden (toD_facts 16 true (by omega) (by omega) v v (Nat.le_refl _)).1
  have v0 : (0 : Int) ≤ (v : Int) := by omega
  have v1 : (v : Int) ≤ 9999999 := by omega
  have z0 : (0 : Int) ≤ (z : Int) := by omega
  have z8 : (z : Int) ≤ 8 := by omega
  clear T
  go_enter Tryd.func6, Tryd.ntmps6
  go_wp2
  go_loopw [9, 13] (fun sv xv wr => ∃ (u : Nat) (acc : List UInt8) (sa : ByteArray), sv = .string sa ∧ xv = .int .i64 (u : Int) ∧ u ≤ 9999999 ∧ sa.size ≤ 20 ∧ Hid (sa = ⟨acc.toArray⟩) ∧ Hid (if u = 0 ∧ acc ≠ [] then acc = toD 16 true v else toD 16 true u ++ acc = toD 16 true v) ∧ Hid (Step (fun _ => False) w wr)) (fun sv xv _ => 2 * (RowKit.intOf xv).toNat + (if strLen sv = 0 then 1 else 0))
  case atStart => exact ⟨v, [], ⟨#[]⟩, rfl, rfl, hv, by decide, hidden rfl, hidden (by simp), HS.out⟩
  case round =>
    obtain ⟨u, acc, sa, rfl, rfl, hu, hsa, HA, HQ, HSt⟩ := hrel
    by_cases hgo : u = 0 ∧ acc ≠ []
    · -- all digits stand
      have hem : sa.toList.isEmpty = false := by
        rw [empty_iff HA.out]
        cases acc with
        | nil => exact absurd rfl hgo.2
        | cons => rfl
      have HD := hidden (show sa = ⟨(toD 16 true v).toArray⟩ by
        have h := HQ.out
        rw [if_pos hgo] at h
        rw [HA.out, h])
      have hu0 := hgo.1
      subst hu0
      clear hgo HQ HA hu
      go_wp2
      go_loopw [9, 15] (fun sv iv wr => ∃ (i : Nat) (sb : ByteArray), sv = .string sb ∧ iv = .int .i64 (i : Int) ∧ i ≤ z ∧ sb.size ≤ 20 + i ∧ Hid (sb = ⟨(List.replicate i 48 ++ toD 16 true v).toArray⟩) ∧ Hid (Step (fun _ => False) w wr)) (fun _ iv _ => z - (RowKit.intOf iv).toNat)
      case atStart => exact ⟨0, sa, rfl, rfl, Nat.zero_le _, hsa, hidden (by rw [HD.out]; rfl), HSt.out⟩
      case round =>
        obtain ⟨i, sb, rfl, rfl, hiz, hsb, HB, HSt⟩ := hrel
        by_cases hi : i < z
        · have i0 : (i : Int) < (z : Int) := by omega
          have h48 : (⟨#[48]⟩ : ByteArray).size = 1 := rfl
          have HB2 := hidden (show (⟨#[48]⟩ : ByteArray) ++ sb = ⟨(List.replicate (i + 1) 48 ++ toD 16 true v).toArray⟩ by
            rw [HB.out, show (⟨#[48]⟩ : ByteArray) = ⟨([48] : List UInt8).toArray⟩ from rfl, cat_str, List.replicate_succ]; rfl)
          have HBz := hidden (show ((⟨#[48]⟩ : ByteArray) ++ sb).size ≤ 20 + (i + 1) by rw [ByteArray.size_append, h48]; omega)
          go_wp2
          go_roundw
          case rel => exact ⟨i + 1, _, rfl, by go_num, by omega, HBz.out, HB2.out, HSt.out⟩
          case measure => simp [RowKit.intOf]; omega
        · have hie : i = z := by omega
          have i0 : ¬ ((i : Int) < (z : Int)) := by omega
          subst hie
          have hND := numD_facts 16 true i v (by omega) (by omega)
          have HBD := hidden (show sb = ⟨(numD 16 true i v).toArray⟩ from HB.out)
          have hDz : sb.size = (numD 16 true i v).length := by rw [HBD.out]; exact ba_size _
          have hx : (⟨#[38, 35, 120]⟩ : ByteArray) ++ sb ++ ⟨#[59, 120]⟩ = ⟨([38, 35, 120] ++ numD 16 true i v ++ [59] ++ [120]).toArray⟩ := by
            rw [HBD.out, show (⟨#[38, 35, 120]⟩ : ByteArray) = ⟨([38, 35, 120] : List UInt8).toArray⟩ from rfl, show (⟨#[59, 120]⟩ : ByteArray) = ⟨([59, 120] : List UInt8).toArray⟩ from rfl, cat_str, cat_str]
            simp
          have hxl : ((⟨#[38, 35, 120]⟩ : ByteArray) ++ sb ++ ⟨#[59, 120]⟩).data.toList = [38, 35, 120] ++ numD 16 true i v ++ [59] ++ [120] := by rw [hx]
          have hAt := fun wx (T : EW wx) => at_any _ _ hxl (by simp only [List.length_append, List.length_cons, List.length_nil]; omega) wx T
          have hhd : (⟨#[38, 35, 120]⟩ : ByteArray).size = 3 := rfl
          have htl : (⟨#[59, 120]⟩ : ByteArray).size = 2 := rfl
          have hhs : ((⟨#[38, 35, 120]⟩ : ByteArray) ++ sb).size = 3 + sb.size := by rw [ByteArray.size_append, hhd]
          have HT1 := hidden (TT.out.step HSt.out)
          by_cases hlong : 6 < sb.size
          · have hA := at_long16 (numD 16 true i v) [120] hND.2.1 (by omega)
            rw [hA, show atT (([] : List UInt8), 0) = .tuple #[.string ⟨#[]⟩, .int .i64 0] from rfl] at hAt
            have g1 : (6 : Int) < (sb.size : Int) := by omega
            have HAt := hidden hAt
            clear hA hAt hx hxl hDz hND hlong
            go_wp2_with fail
            refine Calls.mono (HAt.out _ HT1.out) ?_
            rintro e w3 ⟨rfl, S3⟩
            have HS3 := hidden (HSt.out.made S3)
            clear S3
            have HK2 := hidden (HK.out _ (TT.out.step HS3.out))
            go_wp2_with fail
            refine Calls.mono HK2.out ?_
            rintro e w9 ⟨rfl, S9⟩
            have HS9 := hidden (HS3.out.made S9)
            clear S9
            go_wp2
            go_ret
            exact ⟨rfl, HS9.out⟩
          · have hA := at_hex (numD 16 true i v) [120] hND.1 hND.2.1 (by omega)
            rw [hA, hND.2.2, ← hDz] at hAt
            have g1 : ¬ (6 : Int) < (sb.size : Int) := by omega
            have hn : ((sb.size + 4 : Nat) : Int) = 3 + (sb.size : Int) + 1 := by omega
            have hAt2 := fun wx (T : EW wx) => by
              have := hAt wx T
              unfold atT str at this
              dsimp only at this
              rw [hn] at this
              exact this
            have hw32 : IntKind.i32.wrap (v : Int) = (v : Int) := by simp [IntKind.wrap, IntKind.bits, IntKind.signed]; omega
            clear hA hAt hx hxl hDz hND hlong hn
            by_cases b1 : v = 0
            · have hf : fixr v = 65533 := by unfold fixr; rw [if_pos (.inl b1)]
              subst b1
              have HA2 := hidden hAt2
              clear hAt2
              have HE := hidden (fun wx => pencode_any 65533 (by omega) (by omega) wx)
              unfold str at HE
              rw [hf] at HA2
              clear hf
              go_wp2_with fail
              refine Calls.mono (HA2.out _ HT1.out) ?_
              rintro e w3 ⟨rfl, S3⟩
              have HS3 := hidden (HSt.out.made S3)
              clear S3
              go_wp2_with fail
              with_reducible refine Calls.mono (HE.out _) ?_
              rintro e w4 ⟨rfl, S4⟩
              have HS4 := hidden (HS3.out.made S4)
              clear S4
              have HK2 := hidden (HK.out _ (TT.out.step HS4.out))
              go_wp2_with fail
              refine Calls.mono HK2.out ?_
              rintro e w9 ⟨rfl, S9⟩
              have HS9 := hidden (HS4.out.made S9)
              clear S9
              go_wp2
              go_ret
              exact ⟨rfl, HS9.out⟩
            have gv : ((v : Int) == 0) = false := by rw [beq_eq_false_iff_ne]; omega
            by_cases b2 : 1114111 < v
            · have hf : fixr v = 65533 := by unfold fixr; rw [if_pos (.inr (.inl b2))]
              have g2 : (1114111 : Int) < (v : Int) := by omega
              have HA2 := hidden hAt2
              clear hAt2
              have HE := hidden (fun wx => pencode_any 65533 (by omega) (by omega) wx)
              unfold str at HE
              rw [hf] at HA2
              clear hf b1 b2
              go_wp2_with fail
              refine Calls.mono (HA2.out _ HT1.out) ?_
              rintro e w3 ⟨rfl, S3⟩
              have HS3 := hidden (HSt.out.made S3)
              clear S3
              go_wp2_with fail
              with_reducible refine Calls.mono (HE.out _) ?_
              rintro e w4 ⟨rfl, S4⟩
              have HS4 := hidden (HS3.out.made S4)
              clear S4
              have HK2 := hidden (HK.out _ (TT.out.step HS4.out))
              go_wp2_with fail
              refine Calls.mono HK2.out ?_
              rintro e w9 ⟨rfl, S9⟩
              have HS9 := hidden (HS4.out.made S9)
              clear S9
              go_wp2
              go_ret
              exact ⟨rfl, HS9.out⟩
            have g2 : ¬ ((1114111 : Int) < (v : Int)) := by omega
            by_cases b3 : 55296 ≤ v ∧ v ≤ 57343
            · have hf : fixr v = 65533 := by unfold fixr; rw [if_pos (.inr (.inr b3))]
              have g3 : (55296 : Int) ≤ (v : Int) := by omega
              have g4 : (v : Int) < 57344 := by omega
              have HA2 := hidden hAt2
              clear hAt2
              have HE := hidden (fun wx => pencode_any 65533 (by omega) (by omega) wx)
              unfold str at HE
              rw [hf] at HA2
              clear hf b1 b2 b3 hv
              generalize (v : Int) = x at *
              go_wp2_with fail
              refine Calls.mono (HA2.out _ HT1.out) ?_
              rintro e w3 ⟨rfl, S3⟩
              have HS3 := hidden (HSt.out.made S3)
              clear S3
              go_wp2_with fail
              with_reducible refine Calls.mono (HE.out _) ?_
              rintro e w4 ⟨rfl, S4⟩
              have HS4 := hidden (HS3.out.made S4)
              clear S4
              have HK2 := hidden (HK.out _ (TT.out.step HS4.out))
              go_wp2_with fail
              refine Calls.mono HK2.out ?_
              rintro e w9 ⟨rfl, S9⟩
              have HS9 := hidden (HS4.out.made S9)
              clear S9
              go_wp2
              go_ret
              exact ⟨rfl, HS9.out⟩
            have hf : fixr v = v := by unfold fixr; rw [if_neg (by omega)]
            have g34 : ¬ ((55296 : Int) ≤ (v : Int)) ∨ ((55296 : Int) ≤ (v : Int) ∧ ¬ ((v : Int) < 57344)) := by omega
            rcases g34 with g3 | ⟨g3, g4⟩
            · skip
              have HA2 := hidden hAt2
              clear hAt2
              have HE := hidden (fun wx => pencode_any (v : Int) (by omega) (by omega) wx)
              unfold str at HE
              rw [hf] at HA2
              have k2 := decide_eq_false g2
              have k3 := decide_eq_false g3
              clear hf b1 b2 b3 g2 g3 v1 hv
              go_wp2_with fail
              refine Calls.mono (HA2.out _ HT1.out) ?_
              rintro e w3 ⟨rfl, S3⟩
              have HS3 := hidden (HSt.out.made S3)
              clear S3
              go_wp2_with fail
              with_reducible refine Calls.mono (HE.out _) ?_
              rintro e w4 ⟨rfl, S4⟩
              have HS4 := hidden (HS3.out.made S4)
              clear S4
              have HK2 := hidden (HK.out _ (TT.out.step HS4.out))
              go_wp2_with fail
              refine Calls.mono HK2.out ?_
              rintro e w9 ⟨rfl, S9⟩
              have HS9 := hidden (HS4.out.made S9)
              clear S9
              go_wp2
              go_ret
              exact ⟨rfl, HS9.out⟩
            · skip
              have HA2 := hidden hAt2
              clear hAt2
              have HE := hidden (fun wx => pencode_any (v : Int) (by omega) (by omega) wx)
              unfold str at HE
              rw [hf] at HA2
              clear hf b1 b2 b3
              go_wp2_with fail
              refine Calls.mono (HA2.out _ HT1.out) ?_
              rintro e w3 ⟨rfl, S3⟩
              have HS3 := hidden (HSt.out.made S3)
              clear S3
              go_wp2_with fail
              with_reducible refine Calls.mono (HE.out _) ?_
              rintro e w4 ⟨rfl, S4⟩
              have HS4 := hidden (HS3.out.made S4)
              clear S4
              have HK2 := hidden (HK.out _ (TT.out.step HS4.out))
              go_wp2_with fail
              refine Calls.mono HK2.out ?_
              rintro e w9 ⟨rfl, S9⟩
              have HS9 := hidden (HS4.out.made S9)
              clear S9
              go_wp2
              go_ret
              exact ⟨rfl, HS9.out⟩
    · have hlen : acc.length + 1 ≤ (toD 16 true v).length := by
        have h := HQ.out
        rw [if_neg hgo] at h
        rw [← h, List.length_append]
        have := (toD_facts 16 true (by omega) (by omega) u u (Nat.le_refl _)).1
        have : 1 ≤ (toD 16 true u).length := by
          cases hh : toD 16 true u with
          | nil => exact absurd hh this
          | cons => simp
        omega
      obtain ⟨d, hd⟩ : ∃ d, d = u % 16 := ⟨_, rfl⟩
      obtain ⟨q, hq⟩ : ∃ q, q = u / 16 := ⟨_, rfl⟩
      have m1 : (u : Int) % 16 = (d : Int) := by omega
      have m1' : (u : Int).tmod 16 = (d : Int) := by rw [Int.tmod_eq_emod_of_nonneg (by omega)]; omega
      have m2 : (u : Int) / 16 = (q : Int) := by omega
      have m2' : (u : Int).tdiv 16 = (q : Int) := by rw [Int.tdiv_eq_ediv_of_nonneg (by omega)]; omega
      have hd16 : d < 16 := by omega
      have d0 : (0 : Int) ≤ (d : Int) := by omega
      have d1 : (d : Int) < 16 := by omega
      have hdat := up_at d hd16 hd16
      obtain ⟨b8, hb8⟩ : ∃ b : UInt8, b = dc true d := ⟨_, rfl⟩
      rw [← hb8] at hdat
      have hcv := conv_lit_n wr [b8] #[.int .u8 (b8.toNat : Int)] 1 ⟨#[b8]⟩ rfl rfl rfl
      have hb1 : (⟨#[b8]⟩ : ByteArray).size = 1 := rfl
      have HA2 := hidden (show ((⟨#[b8]⟩ : ByteArray) ++ sa) = ⟨(b8 :: acc).toArray⟩ by rw [HA.out]; exact cat_str [b8] acc)
      have HAz := hidden (show ((⟨#[b8]⟩ : ByteArray) ++ sa).size ≤ 20 by
        rw [HA2.out, ba_size, List.length_cons]
        have := HTl.out
        omega)
      have HAn := hidden (show ((⟨#[b8]⟩ : ByteArray) ++ sa).size ≠ 0 by rw [HA2.out, ba_size]; simp)
      have HSt2 := hidden (HSt.out.alloc (.cells #[.int .u8 (b8.toNat : Int)] 5))
      have HQ2 := hidden (show (if q = 0 ∧ (b8 :: acc) ≠ [] then (b8 :: acc) = toD 16 true v else toD 16 true q ++ (b8 :: acc) = toD 16 true v) by
        have h := HQ.out
        rw [if_neg hgo] at h
        by_cases hb : u < 16
        · have hq0 : q = 0 := by omega
          rw [if_pos ⟨hq0, by simp⟩, ← h, toD_small true hb, hb8, hd, Nat.mod_eq_of_lt hb]; rfl
        · have hq0 : ¬ (q = 0 ∧ (b8 :: acc) ≠ []) := fun hh => by have := hh.1; omega
          rw [if_neg hq0, ← h, toD_step true hb (by omega), hb8, hd, hq]; simp)
      have Hqu := hidden (show q < u ∨ (u = 0 ∧ q = 0 ∧ sa.size = 0) by
        by_cases h0 : u = 0
        · refine .inr ⟨h0, by omega, ?_⟩
          have : acc = [] := by
            rcases Classical.em (acc = []) with h | h
            · exact h
            · exact absurd ⟨h0, h⟩ hgo
          rw [HA.out, this]; rfl
        · exact .inl (by omega))
      have hqb : q ≤ 9999999 := by omega
      have hgx : (0 : Int) < (u : Int) ∨ (¬ ((0 : Int) < (u : Int)) ∧ sa.toList.isEmpty = true) := by
        by_cases h0 : u = 0
        · refine .inr ⟨by omega, ?_⟩
          rw [empty_iff HA.out]
          rcases Classical.em (acc = []) with h | h
          · rw [h]; rfl
          · exact absurd ⟨h0, h⟩ hgo
        · exact .inl (by omega)
      clear hgo hlen hd hq hb8
      rcases hgx with x0 | ⟨x0, x1⟩
      · go_wp2
        go_roundw
        case rel => exact ⟨q, b8 :: acc, _, rfl, rfl, hqb, HAz.out, HA2.out, HQ2.out, HSt2.out⟩
        case measure =>
          have h1 := HAn.out
          have h2 := Hqu.out
          show 2 * ((q : Int)).toNat + (if _ = 0 then 1 else 0) < 2 * ((u : Int)).toNat + (if _ = 0 then 1 else 0)
          split <;> split <;> omega
      · have hu0 : u = 0 := by omega
        have hd0 : d = 0 := by omega
        have hq0 : q = 0 := by omega
        subst hu0
        subst hd0
        subst hq0
        go_wp2
        go_roundw
        case rel => exact ⟨0, b8 :: acc, _, rfl, rfl, hqb, HAz.out, HA2.out, HQ2.out, HSt2.out⟩
        case measure =>
          have h1 := HAn.out
          have h2 := Hqu.out
          show 2 * ((0 : Nat) : Int).toNat + (if ((⟨#[b8]⟩ : ByteArray) ++ sa).size = 0 then 1 else 0) < 2 * ((0 : Nat) : Int).toNat + (if sa.size = 0 then 1 else 0)
          rw [if_neg h1, if_pos (by omega)]
          omega

theorem law_numbers (v z : Int) (hex cap : Bool) (w : World) (T : EW w) :
    Calls Tryd.prog 6 #[.int .i64 v, .int .i64 z, .bool hex, .bool cap] w fun e w' => e = .returned (.bool true) ∧ Step (fun _ => False) w w' := by
  by_cases h : 0 ≤ v ∧ v ≤ 9999999 ∧ 0 ≤ z ∧ z ≤ 8
  · obtain ⟨n, rfl⟩ : ∃ n : Nat, v = (n : Int) := ⟨v.toNat, by omega⟩
    obtain ⟨m, rfl⟩ : ∃ m : Nat, z = (m : Int) := ⟨z.toNat, by omega⟩
    cases hex <;> cases cap
    · exact num_decL n m (by omega) (by omega) w T
    · exact num_decU n m (by omega) (by omega) w T
    · exact num_hexL n m (by omega) (by omega) w T
    · exact num_hexU n m (by omega) (by omega) w T
  · exact num_out v z hex cap w T (by omega)

end Go.Proofs.YtmegfcgnemfjnaaDoor
