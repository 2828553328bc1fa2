/-
  An address has no byte but those of ASCII that may stand in it: the walk.
-/
import Derived.Test.YtmegfcgnemfjnabDoorECode5
import Derived.Test.YtmegfcgnemfjnabDoorEPage6
namespace Go.Proofs.YtmegfcgnemfjnabDoor
open Go.RowKit Go.Lib

def okU (x : Nat) : Prop := 32 < x ∧ x < 127 ∧ x ≠ 34 ∧ x ≠ 60 ∧ x ≠ 62 ∧ x ≠ 92
set_option maxRecDepth 100000 in
theorem plain_okF : ∀ X : Fin 256, plainN X.val = true → (32 < X.val ∧ X.val < 127 ∧ X.val ≠ 34 ∧ X.val ≠ 60 ∧ X.val ≠ 62 ∧ X.val ≠ 92) := by decide +kernel
theorem plain_ok (c : Nat) (h : c < 256) (hp : plainN c = true) : okU c := plain_okF ⟨c, h⟩ hp
theorem uriR_ok (c : UInt8) (t : List UInt8) : ∀ x ∈ uriR c t, okU x.toNat := by
  intro x hx
  have hc := c.toNat_lt
  unfold uriR at hx
  split at hx
  · rename_i hk
    rw [List.mem_singleton] at hx
    subst hx
    unfold keepU at hk
    rw [Bool.or_eq_true] at hk
    rcases hk with hk | hk
    · exact plain_ok _ hc hk
    · rw [Bool.and_eq_true, decide_eq_true_eq] at hk
      rw [hk.1]; unfold okU; omega
  · have a1 := hexD_lt (c.toNat / 16) (by omega)
    have a2 := hexD_lt (c.toNat % 16) (by omega)
    simp only [List.mem_cons, List.not_mem_nil, or_false] at hx
    rcases hx with rfl | rfl | rfl
    · unfold okU; decide
    · exact plain_ok _ (UInt8.toNat_lt _) (by rw [a1.1]; exact a1.2.2)
    · exact plain_ok _ (UInt8.toNat_lt _) (by rw [a2.1]; exact a2.2.2)
theorem uri_ok : ∀ l : List UInt8, ∀ x ∈ uri l, okU x.toNat
  | [], _, h => by cases h
  | c :: t, x, h => by
    rcases List.mem_append.1 (show x ∈ uriR c t ++ uri t from h) with h | h
    · exact uriR_ok c t x h
    · exact uri_ok t x h
theorem uri_z (c : UInt8) (l : List UInt8) : uri (c :: 122 :: l) = uri [c] ++ uri (122 :: l) := by
  show uriR c (122 :: l) ++ uri (122 :: l) = (uriR c [] ++ []) ++ uri (122 :: l)
  rw [List.append_nil]
  congr 1
  have h1 : hx2 (122 :: l) = false := by
    cases l with
    | nil => rfl
    | cons b t =>
      have : decide (dv (122 : UInt8).toNat < 16) = false := by decide
      simp only [hx2, this, Bool.false_and]
  have h2 : hx2 [] = false := rfl
  unfold uriR keepU
  rw [h1, h2]
theorem uri_one (c : UInt8) : (uri [c]).length = 1 ∨ ((uri [c]).length = 3 ∧ (uri [c]).getD 0 0 = 37) := by
  show (uriR c [] ++ []).length = 1 ∨ ((uriR c [] ++ []).length = 3 ∧ (uriR c [] ++ []).getD 0 0 = 37)
  rw [List.append_nil]
  unfold uriR
  split
  · exact .inl rfl
  · exact .inr ⟨rfl, rfl⟩

set_option maxHeartbeats 4000000 in
theorem law_bytes (c : Nat) (hc : c < 256) (l : List UInt8) (w : World) (T : EW w) :
    Calls Tryd.prog 3 #[.int .u8 (c : Int), str l] w fun e w' => e = .returned (.bool true) ∧ Step (fun _ => False) w w' := by
  obtain ⟨s, hs⟩ : ∃ s : ByteArray, s = ⟨l.toArray⟩ := ⟨_, rfl⟩
  have hsz : s.size = l.length := by rw [hs]; exact ba_size l
  unfold str
  rw [← hs]
  have HS := hidden (Step.refl (fun _ => False) w)
  have TT := hidden T
  by_cases hl : l.length ≤ 1500
  · have z0 : ¬ ((1500 : Int) < (s.size : Int)) := by omega
    have hsb : s.size ≤ 1500 := by omega
    obtain ⟨b8, hb8⟩ : ∃ b : UInt8, b = UInt8.ofNat c := ⟨_, rfl⟩
    have hbn : b8.toNat = c := by rw [hb8]; simp; omega
    have HK := hidden (fun wx => eknown_any wx)
    have hcv : ∀ wx : World, (convert 23 9 (.slice (some ⟨wx.heap.size, 0, none⟩) 1 1)).run Tryd.prog (wx.alloc (.cells #[.int .u8 (c : Int)] 5)) = .ok (.string ⟨#[b8]⟩) (wx.alloc (.cells #[.int .u8 (c : Int)] 5)) := fun wx =>
      conv_lit_n wx [b8] #[.int .u8 (c : Int)] 1 ⟨#[b8]⟩ rfl (by rw [← hbn]; rfl) rfl
    have h122 : (⟨#[122]⟩ : ByteArray).size = 1 := rfl
    have hb1 : (⟨#[b8]⟩ : ByteArray).size = 1 := rfl
    have h2z : ((⟨#[b8]⟩ : ByteArray) ++ ⟨#[122]⟩).size = 2 := rfl
    have hx1 : (⟨(b8 :: 122 :: l).toArray⟩ : ByteArray) = ⟨#[b8]⟩ ++ ⟨#[122]⟩ ++ s := by
      rw [hs, show (⟨#[122]⟩ : ByteArray) = ⟨([122] : List UInt8).toArray⟩ from rfl, show (⟨#[b8]⟩ : ByteArray) = ⟨([b8] : List UInt8).toArray⟩ from rfl, cat_str, cat_str]; rfl
    have hx2' : (⟨(122 :: l).toArray⟩ : ByteArray) = ⟨#[122]⟩ ++ s := by
      rw [hs, show (⟨#[122]⟩ : ByteArray) = ⟨([122] : List UInt8).toArray⟩ from rfl, cat_str]; rfl
    have H1 := hidden (fun wx => uri_any (b8 :: 122 :: l) wx (by simp; omega))
    have H2 := hidden (fun wx => uri_any [b8] wx (by simp))
    have H3 := hidden (fun wx => uri_any (122 :: l) wx (by simp; omega))
    have H4 := hidden (fun wx => puri_any [b8] wx (by simp))
    have hone := uri_one b8
    have hok := uri_ok (b8 :: 122 :: l)
    have hul := uri_length (b8 :: 122 :: l)
    rw [uri_z] at H1 hok hul
    unfold str at H1 H2 H3 H4
    rw [hx1, ← cat_str] at H1
    rw [hx2'] at H3
    obtain ⟨so, hso⟩ : ∃ so : ByteArray, so = ⟨(uri [b8]).toArray⟩ := ⟨_, rfl⟩
    obtain ⟨sz, hsz2⟩ : ∃ sz : ByteArray, sz = ⟨(uri (122 :: l)).toArray⟩ := ⟨_, rfl⟩
    rw [← hso, ← hsz2] at H1
    rw [← hso] at H2 H4
    rw [← hsz2] at H3
    have hu : (so ++ sz).data.toList = uri [b8] ++ uri (122 :: l) := by rw [hso, hsz2, cat_str]
    have hus : (so ++ sz).size = (uri [b8] ++ uri (122 :: l)).length := by rw [← hu]; rfl
    have Hu := hidden hu
    have Hok := hidden hok
    have hosz : so.size = (uri [b8]).length := by rw [hso]; exact ba_size _
    have hol : so.data.toList = uri [b8] := by rw [hso]
    have huz : (so ++ sz).size ≤ 6000 := by
      rw [hus]
      simp only [List.length_cons] at hul
      omega
    have hzz : so.size + sz.size ≤ 6000 := by rw [ByteArray.size_append] at huz; exact huz
    have Hus := hidden hus
    have hcase : so.size = 1 ∨ (so.size = 3 ∧ ∀ h : 0 < so.size, (so[0]'h).toNat = 37) := by
      rcases hone with h | ⟨h, h0⟩
      · exact .inl (by omega)
      · refine .inr ⟨by omega, fun hp => ?_⟩
        rw [getD_at so _ hol 0 hp, h0]; rfl
    obtain ⟨su, hsu⟩ : ∃ su, su = so ++ sz := ⟨_, rfl⟩
    rw [← hsu] at H1 Hu Hus huz
    have Hsu := hidden hsu
    have HQ := hidden (show (su.toList == (so ++ sz).toList) = true by rw [hsu]; exact beq_self_eq_true _)
    have hqe := HQ.out
    clear hs hsz hl hb8 hbn hx1 hx2' hone hok hul hso hsz2 hu hus hosz hol hsu T
    go_enter Tryd.func3, Tryd.ntmps3
    go_wp2_with fail
    refine Calls.mono (H1.out _) ?_
    rintro e w1 ⟨rfl, S1⟩
    have HS1 := hidden ((HS.out.alloc (.cells #[.int .u8 (c : Int)] 5)).made S1)
    clear S1
    go_wp2
    go_loopw [6] (fun iv wr => ∃ i : Nat, iv = .int .i64 (i : Int) ∧ i ≤ su.size ∧ Hid (Step (fun _ => False) w wr)) (fun iv _ => su.size - (RowKit.intOf iv).toNat)
    case atStart => exact ⟨0, rfl, Nat.zero_le _, HS1.out⟩
    case round =>
      obtain ⟨i, rfl, his, HSt⟩ := hrel
      by_cases hi : i < su.size
      · have i0 : (0 : Int) ≤ (i : Int) := by omega
        have iz : (i : Int) < (su.size : Int) := by omega
        have hil : i < (uri [b8] ++ uri (122 :: l)).length := by have := Hus.out; omega
        have ci : (su[i]'hi).toNat = ((uri [b8] ++ uri (122 :: l))[i]'hil).toNat := by
          rw [getD_at su _ Hu.out i hi]; simp only [List.getD, List.getElem?_eq_getElem hil, Option.getD_some]
        obtain ⟨o1, o2, o3, o4, o5, o6⟩ := Hok.out _ (List.getElem_mem hil)
        generalize ((uri [b8] ++ uri (122 :: l))[i]'hil).toNat = x at *
        have g1 : ¬ ((x : Int) ≤ 32) := by omega
        have g2 : ¬ ((127 : Int) ≤ (x : Int)) := by omega
        have g3 : ((x : Int) == 34) = false := by rw [beq_eq_false_iff_ne]; omega
        have g4 : ((x : Int) == 60) = false := by rw [beq_eq_false_iff_ne]; omega
        have g5 : ((x : Int) == 62) = false := by rw [beq_eq_false_iff_ne]; omega
        have g6 : ((x : Int) == 92) = false := by rw [beq_eq_false_iff_ne]; omega
        clear hil o1 o2 o3 o4 o5 o6 hcase
        go_wp2
        go_roundw
        case rel => exact ⟨i + 1, by go_num, by omega, HSt.out⟩
        case measure => simp [RowKit.intOf]; omega
      · have iz : ¬ ((i : Int) < (su.size : Int)) := by omega
        have hcv2 := hcv wr
        rcases hcase with h1 | ⟨h3, h37⟩
        · have y1 : (so.size : Int) = 1 := by omega
          clear hi his
          go_wp2_with fail
          refine Calls.mono (H2.out _) ?_
          rintro e w2 ⟨rfl, S2⟩
          have HS2 := hidden ((HSt.out.alloc (.cells #[.int .u8 (c : Int)] 5)).made S2)
          clear S2
          go_wp2_with fail
          refine Calls.mono (H3.out _) ?_
          rintro e w3 ⟨rfl, S3⟩
          have HS3 := hidden (HS2.out.made S3)
          clear S3
          have hcv3 := hcv w3
          go_wp2_with fail
          refine Calls.mono (H4.out _) ?_
          rintro e w4 ⟨rfl, S4⟩
          have HS4 := hidden ((HS3.out.alloc (.cells #[.int .u8 (c : Int)] 5)).made S4)
          clear S4
          have HK2 := hidden (HK.out _ (TT.out.step HS4.out))
          go_wp2_with fail
          refine Calls.mono HK2.out ?_
          rintro e w9 ⟨rfl, S9⟩
          have HS9 := hidden (HS4.out.made S9)
          clear S9
          go_wp2
          go_ret
          exact ⟨rfl, HS9.out⟩
        · have y1 : (so.size : Int) = 3 := by omega
          have hp0 : 0 < so.size := by omega
          have c37 := h37 hp0
          clear hi his h37
          go_wp2_with fail
          refine Calls.mono (H2.out _) ?_
          rintro e w2 ⟨rfl, S2⟩
          have HS2 := hidden ((HSt.out.alloc (.cells #[.int .u8 (c : Int)] 5)).made S2)
          clear S2
          go_wp2_with fail
          refine Calls.mono (H3.out _) ?_
          rintro e w3 ⟨rfl, S3⟩
          have HS3 := hidden (HS2.out.made S3)
          clear S3
          have hcv3 := hcv w3
          go_wp2_with fail
          refine Calls.mono (H4.out _) ?_
          rintro e w4 ⟨rfl, S4⟩
          have HS4 := hidden ((HS3.out.alloc (.cells #[.int .u8 (c : Int)] 5)).made S4)
          clear S4
          have HK2 := hidden (HK.out _ (TT.out.step HS4.out))
          go_wp2_with fail
          refine Calls.mono HK2.out ?_
          rintro e w9 ⟨rfl, S9⟩
          have HS9 := hidden (HS4.out.made S9)
          clear S9
          go_wp2
          go_ret
          exact ⟨rfl, HS9.out⟩
  · have z0 : (1500 : Int) < (s.size : Int) := by omega
    clear hs hsz hl T
    go_enter Tryd.func3, Tryd.ntmps3
    go_wp2
    go_ret
    exact ⟨rfl, HS.out⟩

end Go.Proofs.YtmegfcgnemfjnabDoor
