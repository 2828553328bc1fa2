/-
  Which kind a block is laid in, in plain numbers.
-/
import Derived.Test.YtcgjmkcigmmjjaaGreatDoorBkH
import Derived.BigQuiet
import Derived.Deep.MidRow

namespace Go.Proofs.YtcgjmkcigmmjjaaGreatDoor
open Go.RowKit
set_option maxRecDepth 100000
theorem xor_ones (m : Nat) (h : m ≤ 65535) : m ^^^ 65535 = 65535 - m := by
  apply Nat.eq_of_testBit_eq
  intro i
  rw [Nat.testBit_xor]
  have h1 : Nat.testBit 65535 i = decide (i < 16) := Nat.testBit_two_pow_sub_one 16 i
  have h2 : Nat.testBit (65535 - m) i = (decide (i < 16) && !Nat.testBit m i) := by
    have := Nat.testBit_two_pow_sub_succ (x := m) (n := 16) (by omega) i
    rw [show 2 ^ 16 - (m + 1) = 65535 - m by omega] at this
    exact this
  rw [h1, h2]
  by_cases hi : i < 16
  · simp [hi]
  · have : Nat.testBit m i = false := Nat.testBit_lt_two_pow (Nat.lt_of_lt_of_le (by omega : m < 2 ^ 16) (Nat.pow_le_pow_right (by omega) (by omega)))
    simp [hi, this]

theorem ofInt_sto (a : Nat) (ha : a < 65536) : (BitVec.ofInt 64 (a : Int)).toNat = a := by
  rw [BitVec.ofInt_natCast, BitVec.toNat_ofNat]; exact Nat.mod_eq_of_lt (by omega)

theorem i64_xor (m : Nat) (h : m ≤ 65535) : bits .xor .i64 (m : Int) 65535 = ((65535 - m : Nat) : Int) := by
  show IntKind.i64.wrap ((BitVec.ofInt 64 (m : Int) ^^^ BitVec.ofInt 64 ((65535 : Nat) : Int)).toNat : Int) = _
  rw [BitVec.toNat_xor, ofInt_sto m (by omega), ofInt_sto 65535 (by omega), xor_ones m h]
  exact wrap_i64_id _ (by omega) (by omega)

/-- One block of kind 0, from bit l on: its bytes are the first m of R; the mark. -/
def stK (l : Nat) (mk : Bool) (B : List Nat) : List (Nat × Nat) := [(if mk then 1 else 0, 1), (0, 2), (0, up8 (l + 3) - (l + 3)), (B.length, 16), (65535 - B.length, 16), (numOf B, 8 * B.length)]

/-- The first so many blocks. -/
def stC (ps : List (Nat × Nat)) (P : List Nat) (last : Bool) : Nat → List (Nat × Nat)
  | 0 => ps
  | i + 1 => stC ps P last i ++ stK (pcL (stC ps P last i)) (last && decide ((P.drop (65535 * i)).length ≤ 65535)) ((P.drop (65535 * i)).take 65535)

theorem stK_len (l : Nat) (mk : Bool) (B : List Nat) : pcL (stK l mk B) = up8 (l + 3) - l + 32 + 8 * B.length := by
  have h := up8_ge (l + 3)
  have e : pcL (stK l mk B) = 1 + (2 + ((up8 (l + 3) - (l + 3)) + (16 + (16 + (8 * B.length + 0))))) := rfl
  omega

theorem stC_len (ps : List (Nat × Nat)) (P : List Nat) (last : Bool) : ∀ i, pcL (stC ps P last i) ≤ pcL ps + 1000000 * i
  | 0 => by simp [stC]
  | i + 1 => by
    have ih := stC_len ps P last i
    rw [stC, pcL_append, stK_len]
    have : ((P.drop (65535 * i)).take 65535).length ≤ 65535 := by rw [List.length_take]; omega
    have h2 : up8 (pcL (stC ps P last i) + 3) ≤ pcL (stC ps P last i) + 10 := by unfold up8; omega
    omega

theorem stC_8 (ps : List (Nat × Nat)) (P : List Nat) (last : Bool) (i : Nat) : pcL (stC ps P last (i + 1)) % 8 = 0 := by
  rw [stC, pcL_append, stK_len]
  have h2 := up8_ge (pcL (stC ps P last i) + 3)
  have h3 : up8 (pcL (stC ps P last i) + 3) % 8 = 0 := by unfold up8; omega
  omega

theorem Rd.takeS {w : World} {ao : Option Addr} {cap : Nat} {B : List Nat} (h : Rd w (.slice ao B.length cap) B) (k : Nat) (hk : k ≤ B.length) : Rd w (.slice ao k cap) (B.take k) := by
  obtain ⟨ao', cp, e, h1, h2⟩ := h
  injection e with e1 e2 e3
  subst e1
  subst e3
  have hl : (B.take k).length = k := by rw [List.length_take]; omega
  refine ⟨ao, cap, by rw [hl], fun h => by obtain ⟨a, b⟩ := h1 h; subst a; exact ⟨by simp, b⟩, fun a ha hne => ?_⟩
  have hB : B ≠ [] := by intro e; subst e; simp at hne
  obtain ⟨b, off, e, hc⟩ := h2 a ha hB
  refine ⟨b, off, e, fun j hj => ?_⟩
  rw [hl] at hj
  rw [hc j (by omega), List.getD_eq_getElem?_getD, List.getD_eq_getElem?_getD, List.getElem?_take_of_lt hj]

theorem Rd.dropS {w : World} {b off cap : Nat} {B : List Nat} (h : Rd w (.slice (some ⟨b, off, none⟩) B.length cap) B) (k : Nat) (hk : k ≤ B.length) (c : Nat) : Rd w (.slice (some ⟨b, off + k, none⟩) (B.drop k).length c) (B.drop k) := by
  obtain ⟨ao', cp, e, h1, h2⟩ := h
  injection e with e1 e2 e3
  subst e1
  subst e3
  refine ⟨some ⟨b, off + k, none⟩, c, rfl, fun h => by simp at h, fun a ha hne => ?_⟩
  have hB : B ≠ [] := by intro e; subst e; simp at hne
  obtain ⟨b', off', e, hc⟩ := h2 _ rfl hB
  injection e with x1 x2
  subst x1
  subst x2
  refine ⟨b, off + k, (Option.some.inj ha).symm, fun j hj => ?_⟩
  rw [List.length_drop] at hj
  have := hc (k + j) (by omega)
  rw [show off + k + j = off + (k + j) by omega, this, List.getD_eq_getElem?_getD, List.getD_eq_getElem?_getD, List.getElem?_drop]

theorem Rd.form {w : World} {ao : Option Addr} {n c : Nat} {B : List Nat} (h : Rd w (.slice ao n c) B) (hB : B ≠ []) : ∃ g off, ao = some ⟨g, off, none⟩ := by
  obtain ⟨ao', cp, e, h1, h2⟩ := h
  injection e with e1 e2 e3
  subst e1
  cases ao with
  | none => exact absurd (h1 rfl).1 hB
  | some a =>
    obtain ⟨g, off, e, _⟩ := h2 a rfl hB
    exact ⟨g, off, by rw [e]⟩

set_option maxHeartbeats 8000000 in
theorem store_any (w : World) (b : Nat) (ps : List (Nat × Nat)) (G : Nat → Prop) (h : Wc w b ps G) (hG : ∀ k, G k → k < w.heap.size) (hL : pcL ps ≤ 100000000) (ao : Option Addr) (cap : Nat) (P : List Nat) (hr : Rd w (.slice ao P.length cap) P) (hcap : P.length ≤ cap) (hoff : ∀ a, ao = some a → P ≠ [] → G a.block) (hP : ∀ x ∈ P, x < 256) (hn : P.length ≤ 1000000) (last : Bool) :
    Calls Tryz.prog 25 #[.pointer (some ⟨b, 0, none⟩), .slice ao P.length cap, .bool last] w fun e w' => (∃ u, e = .returned u) ∧ Hid (Wc w' b (stC ps P last (stB P.length)) G ∧ Step (fun k => ¬ G k) w w') := by
  have HW := hidden h
  have HG := hidden hG
  have HL := hidden hL
  have HR := hidden hr
  have HOF := hidden hoff
  have HP := hidden hP
  obtain ⟨n, hnn⟩ : ∃ n, P.length = n := ⟨_, rfl⟩
  have Hn := hidden hnn
  have HSB := hidden (storedBlocks_any n (by omega) w)
  rw [hnn] at HR hcap hn ⊢
  obtain ⟨N, hN⟩ : ∃ N, stB n = N := ⟨_, rfl⟩
  have HN := hidden (show 1 ≤ N ∧ (N = 1 ∨ 65535 * (N - 1) < n) ∧ n ≤ 65535 * N ∧ N ≤ 17 by
    rw [← hN]; unfold stB; omega)
  rw [hN] at HSB ⊢
  have HST := hidden (fun (l : Nat) => stC_len ps P last l)
  clear h hG hL hr hoff hP hnn hN
  go_enter Tryz.func25, Tryz.ntmps25
  go_wp2_with fail
  refine HSB.out.mono ?_
  rintro e w2 ⟨rfl, rfl⟩
  go_wp2_with fail
  go_loopw [1, 10] (fun pv iv wr => ∃ (i m cp : Nat) (ap : Option Addr), iv = .int .i64 (i : Int) ∧ i ≤ N ∧ pv = .slice ap m cp ∧ m ≤ cp ∧ (i < N → Hid ((P.drop (65535 * i)).length = m ∧ Rd wr (.slice ap m cp) (P.drop (65535 * i)) ∧ (∀ a, ap = some a → P.drop (65535 * i) ≠ [] → G a.block))) ∧ Hid (Wc wr b (stC ps P last i) G ∧ Step (fun k => ¬ G k) w2 wr)) (fun _ iv _ => N - (RowKit.intOf iv).toNat)
  case atStart => exact ⟨0, n, cap, ao, rfl, Nat.zero_le _, rfl, hcap, fun _ => hidden ⟨Hn.out, HR.out, HOF.out⟩, hidden ⟨HW.out, Step.refl _ _⟩⟩
  case round =>
    obtain ⟨i, m, cp, ap, rfl, hi, rfl, hmc, HM, HQ⟩ := hrel
    by_cases hin : i < N
    · have i1 : (i : Int) < (N : Int) := by omega
      have i0 : (0 : Int) ≤ (i : Int) := by omega
      have HR2 := HM hin
      have hstl := HST.out i
      have HLQ := hidden (show pcL (stC ps P last i) ≤ 120000000 by have := HN.out; have := HL.out; omega)
      have hm6 : m ≤ 1000000 := by have := HR2.out.1; rw [List.length_drop, Hn.out] at this; omega
      clear HM hstl HW HR
      have HWI := hidden (show wrap64 ((i : Int) + 1) = ((i + 1 : Nat) : Int) ∧ i + 1 ≤ N ∧ N - (RowKit.intOf (.int .i64 ((i + 1 : Nat) : Int))).toNat < N - (RowKit.intOf (.int .i64 (i : Int))).toNat by
        have hi17 := HN.out.2.2.2
        refine ⟨?_, hin, ?_⟩
        · rw [wrap64_id _ (by omega) (by omega)]; omega
        · have e1 : (RowKit.intOf (.int .i64 ((i + 1 : Nat) : Int))).toNat = i + 1 := by simp [RowKit.intOf]
          have e2 : (RowKit.intOf (.int .i64 (i : Int))).toNat = i := by simp [RowKit.intOf]
          rw [e1, e2]; omega)
      have m0 : (0 : Int) ≤ (m : Int) := by omega
      obtain ⟨R, hR⟩ : ∃ R, P.drop (65535 * i) = R := ⟨_, rfl⟩
      have HCS := hidden (show stC ps P last (i + 1) = stC ps P last i ++ stK (pcL (stC ps P last i)) (last && decide (R.length ≤ 65535)) (R.take 65535) by rw [← hR]; rfl)
      have HRP := hidden (show ∀ x ∈ R, x < 256 from fun x hx => HP.out x (by rw [← hR] at hx; exact List.mem_of_mem_drop hx))
      have HRN := hidden (show (65535 < m → i + 1 < N ∧ P.drop (65535 * (i + 1)) = R.drop 65535) ∧ (m ≤ 65535 → i + 1 = N) by
        have h1 := HR2.out.1
        rw [List.length_drop, Hn.out] at h1
        have h2 := HN.out
        refine ⟨fun h => ⟨by omega, by rw [← hR, List.drop_drop]; congr 1⟩, fun h => by omega⟩)
      rw [hR] at HR2
      have HRm := hidden HR2.out.1
      have HRr := hidden HR2.out.2.1
      have HRo := hidden HR2.out.2.2
      obtain ⟨PS, hPS⟩ : ∃ PS, stC ps P last i = PS := ⟨_, rfl⟩
      rw [hPS] at HCS HLQ HQ
      clear hR HR2 hPS
      cases last
      · by_cases hsm0 : m ≤ 65535
        · skip
          have hsm : (m : Int) < 65535 ∨ (m : Int) = 65535 := by omega
          have hmn : (if (65535 : Int) < (m : Int) then (65535 : Int) else (m : Int)) = (m : Int) := by split <;> omega
          have hmn2 : min (m : Int) 65535 = (m : Int) := by omega
          have hdc : ¬ (65535 : Int) < (m : Int) := by omega
          have HBG := hidden (fun wx (hx : Step (fun _ => False) wr wx) => dbegin_any wx b PS G ((HQ.out.1.made hx).less (G := G) (fun k hk => .inl hk)) (fun k hk => by have := HG.out k hk; have := HQ.out.2.size; have := hx.size; omega) (by have := HLQ.out; omega) false 0 (by decide))
          have HK := hidden (show (R.take 65535).length = m by rw [List.length_take, HRm.out]; omega)
          have hK6 : m ≤ 65535 := by omega
          have HX := hidden (i64_xor m hK6)
          have hxo : bits .xor .i64 (m : Int) 65535 = ((65535 - m : Nat) : Int) := HX.out
          obtain ⟨x5, hx5⟩ : ∃ x, 65535 - m = x := ⟨_, rfl⟩
          rw [hx5] at hxo
          obtain ⟨x8, hx8⟩ : ∃ x, up8 (pcL PS + 3) - (pcL PS + 3) = x := ⟨_, rfl⟩
          have hup := up8_ge (pcL PS + 3)
          have hup2 : up8 (pcL PS + 3) % 8 = 0 ∧ up8 (pcL PS + 3) ≤ pcL PS + 10 := by unfold up8; omega
          have q1 : pcL (PS ++ [(0, 1), (0, 2)]) = pcL PS + 3 := by rw [pcL_append]; rfl
          have q2 : pcL (PS ++ [(0, 1), (0, 2)] ++ [(0, x8)]) = up8 (pcL PS + 3) := by rw [pcL_append, q1, ← hx8]; show pcL PS + 3 + (up8 (pcL PS + 3) - (pcL PS + 3) + 0) = _; omega
          have q3 : pcL (PS ++ [(0, 1), (0, 2)] ++ [(0, x8)] ++ [(m, 16)]) = up8 (pcL PS + 3) + 16 := by rw [pcL_append, q2]; rfl
          have q4 : pcL (PS ++ [(0, 1), (0, 2)] ++ [(0, x8)] ++ [(m, 16)] ++ [(x5, 16)]) = up8 (pcL PS + 3) + 32 := by rw [pcL_append, q3]; rfl
          have HAL := hidden (fun wx (hx : Wc wx b (PS ++ [(0, 1), (0, 2)]) G) (hz : ∀ k, G k → k < wx.heap.size) => align_c b _ G wx hx hz)
          rw [q1, hx8] at HAL
          have HP1 := hidden (fun wx (hx : Wc wx b (PS ++ [(0, 1), (0, 2)] ++ [(0, x8)]) G) (hz : ∀ k, G k → k < wx.heap.size) => put_c b _ G m 16 wx hx hz (by omega) (by show m < 65536; omega) (by rw [q2]; have := HLQ.out; omega))
          have HP2 := hidden (fun wx (hx : Wc wx b (PS ++ [(0, 1), (0, 2)] ++ [(0, x8)] ++ [(m, 16)]) G) (hz : ∀ k, G k → k < wx.heap.size) => put_c b _ G x5 16 wx hx hz (by omega) (by show x5 < 65536; omega) (by rw [q3]; have := HLQ.out; omega))
          have HRW := hidden (fun wx q (F : Nat → Prop) (hx : Wc wx b (PS ++ [(0, 1), (0, 2)] ++ [(0, x8)] ++ [(m, 16)] ++ [(x5, 16)]) F) (hz : ∀ k, F k → k < wx.heap.size) (hc : wx.cell? ⟨q, 0, none⟩ = some (.slice ap m cp)) (hq : F q) (hv : Rd wx (.slice ap m cp) (R.take 65535)) (ho : ∀ a n c, Value.slice ap m cp = .slice (some a) n c → R.take 65535 ≠ [] → F a.block) => raw_c b q _ F _ (R.take 65535) wx hx hz (by rw [q4]; omega) hc hq hv ho (fun x hx => HRP.out x (List.mem_of_mem_take hx)) (by rw [q4, HK.out]; have := HLQ.out; omega))
          have HPE := hidden (show stC ps P false (i + 1) = PS ++ [(0, 1), (0, 2)] ++ [(0, x8)] ++ [(m, 16)] ++ [(x5, 16)] ++ [(numOf (R.take 65535), 8 * (R.take 65535).length)] by
            rw [HCS.out, HRm.out, decide_eq_true hsm0]
            unfold stK
            rw [HK.out, hx5, hx8]
            simp)
          clear hup hup2 q1 q2 q3 q4 hx5 hx8 hK6
          go_wp2_with fail
          refine (HBG.out _ (Step.refl _ _)).mono ?_
          rintro e w3 ⟨⟨v3, rfl⟩, W3, S3⟩
          have HW3 := hidden W3
          have HS3 := hidden (HQ.out.2.trans S3 (fun i hi => .inl hi))
          have HR3 := hidden (HRr.out.step S3 (fun a n c e hne => by injection e with e1; exact fun q => q (HRo.out a e1 hne)))
          clear W3 S3 HBG
          go_wp2_with fail
          refine (HAL.out w3 HW3.out (fun k hk => by have := HG.out k hk; have := HS3.out.size; omega)).mono ?_
          rintro e w4 ⟨rfl, R4⟩
          have HS4 := hidden (HS3.out.trans R4.out.2 (fun i hi => .inl hi))
          have HR4 := hidden (HR3.out.step R4.out.2 (fun a n c e hne => by injection e with e1; exact fun q => q (HRo.out a e1 hne)))
          go_wp2_with fail
          refine (HP1.out w4 R4.out.1 (fun k hk => by have := HG.out k hk; have := HS4.out.size; omega)).mono ?_
          rintro e w5 ⟨rfl, R5⟩
          have HS5 := hidden (HS4.out.trans R5.out.2 (fun i hi => .inl hi))
          have HR5 := hidden (HR4.out.step R5.out.2 (fun a n c e hne => by injection e with e1; exact fun q => q (HRo.out a e1 hne)))
          go_wp2_with fail
          refine (HP2.out w5 R5.out.1 (fun k hk => by have := HG.out k hk; have := HS5.out.size; omega)).mono ?_
          rintro e w6 ⟨rfl, R6⟩
          have HS6 := hidden (HS5.out.trans R6.out.2 (fun i hi => .inl hi))
          have HR6 := hidden (HR5.out.step R6.out.2 (fun a n c e hne => by injection e with e1; exact fun q => q (HRo.out a e1 hne)))
          have HW6 := hidden R6.out.1
          clear R4 R5 R6 HR3 HR4 HR5 HS3 HS4 HS5 HP1 HP2 HAL HW3
          go_wp2_with fail
          have S7 : Step (fun _ => False) w6 (w6.alloc (.cells #[.slice ap m cp] 22)) := (Step.refl _ _).alloc _
          have hz7 : (w6.alloc (.cells #[.slice ap m cp] 22)).heap.size = w6.heap.size + 1 := by simp
          refine (HRW.out _ w6.heap.size (fun k => G k ∨ k = w6.heap.size) ((HW6.out.made S7).less (fun k hk => hk.elim .inl (fun e => .inr ⟨by omega, by omega⟩))) (fun k hk => by
            have h1 := HS6.out.size
            rcases hk with hk | hk
            · have := HG.out k hk; omega
            · omega) ((World.cell?_alloc_at _ _ _ _ rfl).trans rfl) (.inr rfl) ?_ ?_).mono ?_
          · rw [List.take_of_length_le (by rw [HRm.out]; omega)]
            exact HR6.out.step S7 (fun _ _ _ _ _ q => q)
          · intro a n c e hne
            injection e with e1
            exact .inl (HRo.out a e1 (fun e => hne (by rw [e]; simp)))
          rintro e w8 ⟨rfl, R8⟩
          have HW8 := hidden (show Wc w8 b (stC ps P false (i + 1)) G by rw [HPE.out]; exact R8.out.1.less (fun k hk => .inl hk))
          have HS8 := hidden ((HS6.out.trans S7 (fun _ q => q.elim)).trans R8.out.2 (fun i hi => .inl (fun q => hi (.inl q))))
          have HR8 := hidden ((HR6.out.step S7 (fun _ _ _ _ _ q => q)).step R8.out.2 (fun a n c e hne => by injection e with e1; exact fun q => q (.inl (HRo.out a e1 hne))))
          clear R8 S7 hz7 HRW HW6 HS6 HR6
          go_wp2_with fail
          have wi := HWI.out.1
          have hle := HWI.out.2.1
          have HFI := hidden (show Wc w8 b (stC ps P false (i + 1)) G ∧ Step (fun k => ¬ G k) w2 w8 from ⟨HW8.out, HS8.out⟩)
          rw [wi]
          have hlt : ¬ (i + 1 < N) := by rw [HRN.out.2 hsm0]; exact Nat.lt_irrefl _
          refine ⟨⟨i + 1, 0, cp - m, (if cp = m then ap else Option.map (fun x => x.add m) ap), rfl, hle, rfl, Nat.zero_le _, fun h => absurd h hlt, HFI⟩, ?_⟩
          exact HWI.out.2.2
        · skip
          have hmn : (if (65535 : Int) < (m : Int) then (65535 : Int) else (m : Int)) = (65535 : Int) := by split <;> omega
          have hmn2 : min (m : Int) 65535 = 65535 := by omega
          have hdc : (65535 : Int) < (m : Int) := by omega
          have hne : ¬ (65535 : Int) = (m : Int) := by omega
          have hne2 : ((65535 : Int) == (m : Int)) = false := by rw [beq_eq_false_iff_ne]; exact hne
          have hne3 : ¬ (65535 : Nat) = m := by omega
          have HBG := hidden (fun wx (hx : Step (fun _ => False) wr wx) => dbegin_any wx b PS G ((HQ.out.1.made hx).less (G := G) (fun k hk => .inl hk)) (fun k hk => by have := HG.out k hk; have := HQ.out.2.size; have := hx.size; omega) (by have := HLQ.out; omega) false 0 (by decide))
          have HK := hidden (show (R.take 65535).length = 65535 by rw [List.length_take, HRm.out]; omega)
          have hK6 : 65535 ≤ 65535 := by omega
          have HX := hidden (i64_xor 65535 hK6)
          have hxo : bits .xor .i64 (65535 : Int) 65535 = ((65535 - 65535 : Nat) : Int) := HX.out
          obtain ⟨x5, hx5⟩ : ∃ x, 65535 - 65535 = x := ⟨_, rfl⟩
          rw [hx5] at hxo
          obtain ⟨x8, hx8⟩ : ∃ x, up8 (pcL PS + 3) - (pcL PS + 3) = x := ⟨_, rfl⟩
          have hup := up8_ge (pcL PS + 3)
          have hup2 : up8 (pcL PS + 3) % 8 = 0 ∧ up8 (pcL PS + 3) ≤ pcL PS + 10 := by unfold up8; omega
          have q1 : pcL (PS ++ [(0, 1), (0, 2)]) = pcL PS + 3 := by rw [pcL_append]; rfl
          have q2 : pcL (PS ++ [(0, 1), (0, 2)] ++ [(0, x8)]) = up8 (pcL PS + 3) := by rw [pcL_append, q1, ← hx8]; show pcL PS + 3 + (up8 (pcL PS + 3) - (pcL PS + 3) + 0) = _; omega
          have q3 : pcL (PS ++ [(0, 1), (0, 2)] ++ [(0, x8)] ++ [(65535, 16)]) = up8 (pcL PS + 3) + 16 := by rw [pcL_append, q2]; rfl
          have q4 : pcL (PS ++ [(0, 1), (0, 2)] ++ [(0, x8)] ++ [(65535, 16)] ++ [(x5, 16)]) = up8 (pcL PS + 3) + 32 := by rw [pcL_append, q3]; rfl
          have HAL := hidden (fun wx (hx : Wc wx b (PS ++ [(0, 1), (0, 2)]) G) (hz : ∀ k, G k → k < wx.heap.size) => align_c b _ G wx hx hz)
          rw [q1, hx8] at HAL
          have HP1 := hidden (fun wx (hx : Wc wx b (PS ++ [(0, 1), (0, 2)] ++ [(0, x8)]) G) (hz : ∀ k, G k → k < wx.heap.size) => put_c b _ G 65535 16 wx hx hz (by omega) (by show 65535 < 65536; omega) (by rw [q2]; have := HLQ.out; omega))
          have HP2 := hidden (fun wx (hx : Wc wx b (PS ++ [(0, 1), (0, 2)] ++ [(0, x8)] ++ [(65535, 16)]) G) (hz : ∀ k, G k → k < wx.heap.size) => put_c b _ G x5 16 wx hx hz (by omega) (by show x5 < 65536; omega) (by rw [q3]; have := HLQ.out; omega))
          have HRW := hidden (fun wx q (F : Nat → Prop) (hx : Wc wx b (PS ++ [(0, 1), (0, 2)] ++ [(0, x8)] ++ [(65535, 16)] ++ [(x5, 16)]) F) (hz : ∀ k, F k → k < wx.heap.size) (hc : wx.cell? ⟨q, 0, none⟩ = some (.slice ap 65535 cp)) (hq : F q) (hv : Rd wx (.slice ap 65535 cp) (R.take 65535)) (ho : ∀ a n c, Value.slice ap 65535 cp = .slice (some a) n c → R.take 65535 ≠ [] → F a.block) => raw_c b q _ F _ (R.take 65535) wx hx hz (by rw [q4]; omega) hc hq hv ho (fun x hx => HRP.out x (List.mem_of_mem_take hx)) (by rw [q4, HK.out]; have := HLQ.out; omega))
          have HPE := hidden (show stC ps P false (i + 1) = PS ++ [(0, 1), (0, 2)] ++ [(0, x8)] ++ [(65535, 16)] ++ [(x5, 16)] ++ [(numOf (R.take 65535), 8 * (R.take 65535).length)] by
            rw [HCS.out, HRm.out, decide_eq_false hsm0]
            unfold stK
            rw [HK.out, hx5, hx8]
            simp)
          clear hup hup2 q1 q2 q3 q4 hx5 hx8 hK6
          go_wp2_with fail
          refine (HBG.out _ (Step.refl _ _)).mono ?_
          rintro e w3 ⟨⟨v3, rfl⟩, W3, S3⟩
          have HW3 := hidden W3
          have HS3 := hidden (HQ.out.2.trans S3 (fun i hi => .inl hi))
          have HR3 := hidden (HRr.out.step S3 (fun a n c e hne => by injection e with e1; exact fun q => q (HRo.out a e1 hne)))
          clear W3 S3 HBG
          go_wp2_with fail
          refine (HAL.out w3 HW3.out (fun k hk => by have := HG.out k hk; have := HS3.out.size; omega)).mono ?_
          rintro e w4 ⟨rfl, R4⟩
          have HS4 := hidden (HS3.out.trans R4.out.2 (fun i hi => .inl hi))
          have HR4 := hidden (HR3.out.step R4.out.2 (fun a n c e hne => by injection e with e1; exact fun q => q (HRo.out a e1 hne)))
          go_wp2_with fail
          refine (HP1.out w4 R4.out.1 (fun k hk => by have := HG.out k hk; have := HS4.out.size; omega)).mono ?_
          rintro e w5 ⟨rfl, R5⟩
          have HS5 := hidden (HS4.out.trans R5.out.2 (fun i hi => .inl hi))
          have HR5 := hidden (HR4.out.step R5.out.2 (fun a n c e hne => by injection e with e1; exact fun q => q (HRo.out a e1 hne)))
          go_wp2_with fail
          refine (HP2.out w5 R5.out.1 (fun k hk => by have := HG.out k hk; have := HS5.out.size; omega)).mono ?_
          rintro e w6 ⟨rfl, R6⟩
          have HS6 := hidden (HS5.out.trans R6.out.2 (fun i hi => .inl hi))
          have HR6 := hidden (HR5.out.step R6.out.2 (fun a n c e hne => by injection e with e1; exact fun q => q (HRo.out a e1 hne)))
          have HW6 := hidden R6.out.1
          clear R4 R5 R6 HR3 HR4 HR5 HS3 HS4 HS5 HP1 HP2 HAL HW3
          go_wp2_with fail
          have S7 : Step (fun _ => False) w6 (w6.alloc (.cells #[.slice ap 65535 cp] 22)) := (Step.refl _ _).alloc _
          have hz7 : (w6.alloc (.cells #[.slice ap 65535 cp] 22)).heap.size = w6.heap.size + 1 := by simp
          refine (HRW.out _ w6.heap.size (fun k => G k ∨ k = w6.heap.size) ((HW6.out.made S7).less (fun k hk => hk.elim .inl (fun e => .inr ⟨by omega, by omega⟩))) (fun k hk => by
            have h1 := HS6.out.size
            rcases hk with hk | hk
            · have := HG.out k hk; omega
            · omega) ((World.cell?_alloc_at _ _ _ _ rfl).trans rfl) (.inr rfl) ?_ ?_).mono ?_
          · have h1 := HR6.out.step S7 (fun _ _ _ _ _ q => q)
            rw [← HRm.out] at h1
            exact h1.takeS 65535 (by rw [HRm.out]; omega)
          · intro a n c e hne
            injection e with e1
            exact .inl (HRo.out a e1 (fun e => hne (by rw [e]; simp)))
          rintro e w8 ⟨rfl, R8⟩
          have HW8 := hidden (show Wc w8 b (stC ps P false (i + 1)) G by rw [HPE.out]; exact R8.out.1.less (fun k hk => .inl hk))
          have HS8 := hidden ((HS6.out.trans S7 (fun _ q => q.elim)).trans R8.out.2 (fun i hi => .inl (fun q => hi (.inl q))))
          have HR8 := hidden ((HR6.out.step S7 (fun _ _ _ _ _ q => q)).step R8.out.2 (fun a n c e hne => by injection e with e1; exact fun q => q (.inl (HRo.out a e1 hne))))
          clear R8 S7 hz7 HRW HW6 HS6 HR6
          obtain ⟨g, off, hap⟩ := HR8.out.form (by intro e; have := HRm.out; rw [e] at this; simp at this; omega)
          subst hap
          go_wp2_with fail
          have wi := HWI.out.1
          have hle := HWI.out.2.1
          have HFI := hidden (show Wc w8 b (stC ps P false (i + 1)) G ∧ Step (fun k => ¬ G k) w2 w8 from ⟨HW8.out, HS8.out⟩)
          rw [wi]
          have HD := hidden (HRN.out.1 (Nat.lt_of_not_le hsm0))
          have hmc2 : m - 65535 ≤ cp - 65535 := Nat.sub_le_sub_right hmc _
          refine ⟨⟨i + 1, m - 65535, cp - 65535, some ⟨g, off + 65535, none⟩, rfl, hle, rfl, hmc2, fun h => hidden ⟨?_, ?_, ?_⟩, HFI⟩, ?_⟩
          · rw [HD.out.2, List.length_drop, HRm.out]
          · have h1 := HR8.out
            rw [← HRm.out] at h1
            have h2 := h1.dropS 65535 (by rw [HRm.out]; omega) (cp - 65535)
            rw [List.length_drop, HRm.out] at h2
            rw [HD.out.2]; exact h2
          · intro a e _
            have h1 := HRo.out _ rfl (by intro e; have := HRm.out; rw [e] at this; simp at this; omega)
            rw [← Option.some.inj e]; exact h1
          exact HWI.out.2.2
      · by_cases hsm0 : m ≤ 65535
        · skip
          have hsm : (m : Int) < 65535 ∨ (m : Int) = 65535 := by omega
          have hmn : (if (65535 : Int) < (m : Int) then (65535 : Int) else (m : Int)) = (m : Int) := by split <;> omega
          have hmn2 : min (m : Int) 65535 = (m : Int) := by omega
          have hdc : ¬ (65535 : Int) < (m : Int) := by omega
          have HBG := hidden (fun wx (hx : Step (fun _ => False) wr wx) => dbegin_any wx b PS G ((HQ.out.1.made hx).less (G := G) (fun k hk => .inl hk)) (fun k hk => by have := HG.out k hk; have := HQ.out.2.size; have := hx.size; omega) (by have := HLQ.out; omega) true 0 (by decide))
          have HK := hidden (show (R.take 65535).length = m by rw [List.length_take, HRm.out]; omega)
          have hK6 : m ≤ 65535 := by omega
          have HX := hidden (i64_xor m hK6)
          have hxo : bits .xor .i64 (m : Int) 65535 = ((65535 - m : Nat) : Int) := HX.out
          obtain ⟨x5, hx5⟩ : ∃ x, 65535 - m = x := ⟨_, rfl⟩
          rw [hx5] at hxo
          obtain ⟨x8, hx8⟩ : ∃ x, up8 (pcL PS + 3) - (pcL PS + 3) = x := ⟨_, rfl⟩
          have hup := up8_ge (pcL PS + 3)
          have hup2 : up8 (pcL PS + 3) % 8 = 0 ∧ up8 (pcL PS + 3) ≤ pcL PS + 10 := by unfold up8; omega
          have q1 : pcL (PS ++ [(1, 1), (0, 2)]) = pcL PS + 3 := by rw [pcL_append]; rfl
          have q2 : pcL (PS ++ [(1, 1), (0, 2)] ++ [(0, x8)]) = up8 (pcL PS + 3) := by rw [pcL_append, q1, ← hx8]; show pcL PS + 3 + (up8 (pcL PS + 3) - (pcL PS + 3) + 0) = _; omega
          have q3 : pcL (PS ++ [(1, 1), (0, 2)] ++ [(0, x8)] ++ [(m, 16)]) = up8 (pcL PS + 3) + 16 := by rw [pcL_append, q2]; rfl
          have q4 : pcL (PS ++ [(1, 1), (0, 2)] ++ [(0, x8)] ++ [(m, 16)] ++ [(x5, 16)]) = up8 (pcL PS + 3) + 32 := by rw [pcL_append, q3]; rfl
          have HAL := hidden (fun wx (hx : Wc wx b (PS ++ [(1, 1), (0, 2)]) G) (hz : ∀ k, G k → k < wx.heap.size) => align_c b _ G wx hx hz)
          rw [q1, hx8] at HAL
          have HP1 := hidden (fun wx (hx : Wc wx b (PS ++ [(1, 1), (0, 2)] ++ [(0, x8)]) G) (hz : ∀ k, G k → k < wx.heap.size) => put_c b _ G m 16 wx hx hz (by omega) (by show m < 65536; omega) (by rw [q2]; have := HLQ.out; omega))
          have HP2 := hidden (fun wx (hx : Wc wx b (PS ++ [(1, 1), (0, 2)] ++ [(0, x8)] ++ [(m, 16)]) G) (hz : ∀ k, G k → k < wx.heap.size) => put_c b _ G x5 16 wx hx hz (by omega) (by show x5 < 65536; omega) (by rw [q3]; have := HLQ.out; omega))
          have HRW := hidden (fun wx q (F : Nat → Prop) (hx : Wc wx b (PS ++ [(1, 1), (0, 2)] ++ [(0, x8)] ++ [(m, 16)] ++ [(x5, 16)]) F) (hz : ∀ k, F k → k < wx.heap.size) (hc : wx.cell? ⟨q, 0, none⟩ = some (.slice ap m cp)) (hq : F q) (hv : Rd wx (.slice ap m cp) (R.take 65535)) (ho : ∀ a n c, Value.slice ap m cp = .slice (some a) n c → R.take 65535 ≠ [] → F a.block) => raw_c b q _ F _ (R.take 65535) wx hx hz (by rw [q4]; omega) hc hq hv ho (fun x hx => HRP.out x (List.mem_of_mem_take hx)) (by rw [q4, HK.out]; have := HLQ.out; omega))
          have HPE := hidden (show stC ps P true (i + 1) = PS ++ [(1, 1), (0, 2)] ++ [(0, x8)] ++ [(m, 16)] ++ [(x5, 16)] ++ [(numOf (R.take 65535), 8 * (R.take 65535).length)] by
            rw [HCS.out, HRm.out, decide_eq_true hsm0]
            unfold stK
            rw [HK.out, hx5, hx8]
            simp)
          clear hup hup2 q1 q2 q3 q4 hx5 hx8 hK6
          go_wp2_with fail
          refine (HBG.out _ (Step.refl _ _)).mono ?_
          rintro e w3 ⟨⟨v3, rfl⟩, W3, S3⟩
          have HW3 := hidden W3
          have HS3 := hidden (HQ.out.2.trans S3 (fun i hi => .inl hi))
          have HR3 := hidden (HRr.out.step S3 (fun a n c e hne => by injection e with e1; exact fun q => q (HRo.out a e1 hne)))
          clear W3 S3 HBG
          go_wp2_with fail
          refine (HAL.out w3 HW3.out (fun k hk => by have := HG.out k hk; have := HS3.out.size; omega)).mono ?_
          rintro e w4 ⟨rfl, R4⟩
          have HS4 := hidden (HS3.out.trans R4.out.2 (fun i hi => .inl hi))
          have HR4 := hidden (HR3.out.step R4.out.2 (fun a n c e hne => by injection e with e1; exact fun q => q (HRo.out a e1 hne)))
          go_wp2_with fail
          refine (HP1.out w4 R4.out.1 (fun k hk => by have := HG.out k hk; have := HS4.out.size; omega)).mono ?_
          rintro e w5 ⟨rfl, R5⟩
          have HS5 := hidden (HS4.out.trans R5.out.2 (fun i hi => .inl hi))
          have HR5 := hidden (HR4.out.step R5.out.2 (fun a n c e hne => by injection e with e1; exact fun q => q (HRo.out a e1 hne)))
          go_wp2_with fail
          refine (HP2.out w5 R5.out.1 (fun k hk => by have := HG.out k hk; have := HS5.out.size; omega)).mono ?_
          rintro e w6 ⟨rfl, R6⟩
          have HS6 := hidden (HS5.out.trans R6.out.2 (fun i hi => .inl hi))
          have HR6 := hidden (HR5.out.step R6.out.2 (fun a n c e hne => by injection e with e1; exact fun q => q (HRo.out a e1 hne)))
          have HW6 := hidden R6.out.1
          clear R4 R5 R6 HR3 HR4 HR5 HS3 HS4 HS5 HP1 HP2 HAL HW3
          go_wp2_with fail
          have S7 : Step (fun _ => False) w6 (w6.alloc (.cells #[.slice ap m cp] 22)) := (Step.refl _ _).alloc _
          have hz7 : (w6.alloc (.cells #[.slice ap m cp] 22)).heap.size = w6.heap.size + 1 := by simp
          refine (HRW.out _ w6.heap.size (fun k => G k ∨ k = w6.heap.size) ((HW6.out.made S7).less (fun k hk => hk.elim .inl (fun e => .inr ⟨by omega, by omega⟩))) (fun k hk => by
            have h1 := HS6.out.size
            rcases hk with hk | hk
            · have := HG.out k hk; omega
            · omega) ((World.cell?_alloc_at _ _ _ _ rfl).trans rfl) (.inr rfl) ?_ ?_).mono ?_
          · rw [List.take_of_length_le (by rw [HRm.out]; omega)]
            exact HR6.out.step S7 (fun _ _ _ _ _ q => q)
          · intro a n c e hne
            injection e with e1
            exact .inl (HRo.out a e1 (fun e => hne (by rw [e]; simp)))
          rintro e w8 ⟨rfl, R8⟩
          have HW8 := hidden (show Wc w8 b (stC ps P true (i + 1)) G by rw [HPE.out]; exact R8.out.1.less (fun k hk => .inl hk))
          have HS8 := hidden ((HS6.out.trans S7 (fun _ q => q.elim)).trans R8.out.2 (fun i hi => .inl (fun q => hi (.inl q))))
          have HR8 := hidden ((HR6.out.step S7 (fun _ _ _ _ _ q => q)).step R8.out.2 (fun a n c e hne => by injection e with e1; exact fun q => q (.inl (HRo.out a e1 hne))))
          clear R8 S7 hz7 HRW HW6 HS6 HR6
          go_wp2_with fail
          have wi := HWI.out.1
          have hle := HWI.out.2.1
          have HFI := hidden (show Wc w8 b (stC ps P true (i + 1)) G ∧ Step (fun k => ¬ G k) w2 w8 from ⟨HW8.out, HS8.out⟩)
          rw [wi]
          have hlt : ¬ (i + 1 < N) := by rw [HRN.out.2 hsm0]; exact Nat.lt_irrefl _
          refine ⟨⟨i + 1, 0, cp - m, (if cp = m then ap else Option.map (fun x => x.add m) ap), rfl, hle, rfl, Nat.zero_le _, fun h => absurd h hlt, HFI⟩, ?_⟩
          exact HWI.out.2.2
        · skip
          have hmn : (if (65535 : Int) < (m : Int) then (65535 : Int) else (m : Int)) = (65535 : Int) := by split <;> omega
          have hmn2 : min (m : Int) 65535 = 65535 := by omega
          have hdc : (65535 : Int) < (m : Int) := by omega
          have hne : ¬ (65535 : Int) = (m : Int) := by omega
          have hne2 : ((65535 : Int) == (m : Int)) = false := by rw [beq_eq_false_iff_ne]; exact hne
          have hne3 : ¬ (65535 : Nat) = m := by omega
          have HBG := hidden (fun wx (hx : Step (fun _ => False) wr wx) => dbegin_any wx b PS G ((HQ.out.1.made hx).less (G := G) (fun k hk => .inl hk)) (fun k hk => by have := HG.out k hk; have := HQ.out.2.size; have := hx.size; omega) (by have := HLQ.out; omega) false 0 (by decide))
          have HK := hidden (show (R.take 65535).length = 65535 by rw [List.length_take, HRm.out]; omega)
          have hK6 : 65535 ≤ 65535 := by omega
          have HX := hidden (i64_xor 65535 hK6)
          have hxo : bits .xor .i64 (65535 : Int) 65535 = ((65535 - 65535 : Nat) : Int) := HX.out
          obtain ⟨x5, hx5⟩ : ∃ x, 65535 - 65535 = x := ⟨_, rfl⟩
          rw [hx5] at hxo
          obtain ⟨x8, hx8⟩ : ∃ x, up8 (pcL PS + 3) - (pcL PS + 3) = x := ⟨_, rfl⟩
          have hup := up8_ge (pcL PS + 3)
          have hup2 : up8 (pcL PS + 3) % 8 = 0 ∧ up8 (pcL PS + 3) ≤ pcL PS + 10 := by unfold up8; omega
          have q1 : pcL (PS ++ [(0, 1), (0, 2)]) = pcL PS + 3 := by rw [pcL_append]; rfl
          have q2 : pcL (PS ++ [(0, 1), (0, 2)] ++ [(0, x8)]) = up8 (pcL PS + 3) := by rw [pcL_append, q1, ← hx8]; show pcL PS + 3 + (up8 (pcL PS + 3) - (pcL PS + 3) + 0) = _; omega
          have q3 : pcL (PS ++ [(0, 1), (0, 2)] ++ [(0, x8)] ++ [(65535, 16)]) = up8 (pcL PS + 3) + 16 := by rw [pcL_append, q2]; rfl
          have q4 : pcL (PS ++ [(0, 1), (0, 2)] ++ [(0, x8)] ++ [(65535, 16)] ++ [(x5, 16)]) = up8 (pcL PS + 3) + 32 := by rw [pcL_append, q3]; rfl
          have HAL := hidden (fun wx (hx : Wc wx b (PS ++ [(0, 1), (0, 2)]) G) (hz : ∀ k, G k → k < wx.heap.size) => align_c b _ G wx hx hz)
          rw [q1, hx8] at HAL
          have HP1 := hidden (fun wx (hx : Wc wx b (PS ++ [(0, 1), (0, 2)] ++ [(0, x8)]) G) (hz : ∀ k, G k → k < wx.heap.size) => put_c b _ G 65535 16 wx hx hz (by omega) (by show 65535 < 65536; omega) (by rw [q2]; have := HLQ.out; omega))
          have HP2 := hidden (fun wx (hx : Wc wx b (PS ++ [(0, 1), (0, 2)] ++ [(0, x8)] ++ [(65535, 16)]) G) (hz : ∀ k, G k → k < wx.heap.size) => put_c b _ G x5 16 wx hx hz (by omega) (by show x5 < 65536; omega) (by rw [q3]; have := HLQ.out; omega))
          have HRW := hidden (fun wx q (F : Nat → Prop) (hx : Wc wx b (PS ++ [(0, 1), (0, 2)] ++ [(0, x8)] ++ [(65535, 16)] ++ [(x5, 16)]) F) (hz : ∀ k, F k → k < wx.heap.size) (hc : wx.cell? ⟨q, 0, none⟩ = some (.slice ap 65535 cp)) (hq : F q) (hv : Rd wx (.slice ap 65535 cp) (R.take 65535)) (ho : ∀ a n c, Value.slice ap 65535 cp = .slice (some a) n c → R.take 65535 ≠ [] → F a.block) => raw_c b q _ F _ (R.take 65535) wx hx hz (by rw [q4]; omega) hc hq hv ho (fun x hx => HRP.out x (List.mem_of_mem_take hx)) (by rw [q4, HK.out]; have := HLQ.out; omega))
          have HPE := hidden (show stC ps P true (i + 1) = PS ++ [(0, 1), (0, 2)] ++ [(0, x8)] ++ [(65535, 16)] ++ [(x5, 16)] ++ [(numOf (R.take 65535), 8 * (R.take 65535).length)] by
            rw [HCS.out, HRm.out, decide_eq_false hsm0]
            unfold stK
            rw [HK.out, hx5, hx8]
            simp)
          clear hup hup2 q1 q2 q3 q4 hx5 hx8 hK6
          go_wp2_with fail
          refine (HBG.out _ (Step.refl _ _)).mono ?_
          rintro e w3 ⟨⟨v3, rfl⟩, W3, S3⟩
          have HW3 := hidden W3
          have HS3 := hidden (HQ.out.2.trans S3 (fun i hi => .inl hi))
          have HR3 := hidden (HRr.out.step S3 (fun a n c e hne => by injection e with e1; exact fun q => q (HRo.out a e1 hne)))
          clear W3 S3 HBG
          go_wp2_with fail
          refine (HAL.out w3 HW3.out (fun k hk => by have := HG.out k hk; have := HS3.out.size; omega)).mono ?_
          rintro e w4 ⟨rfl, R4⟩
          have HS4 := hidden (HS3.out.trans R4.out.2 (fun i hi => .inl hi))
          have HR4 := hidden (HR3.out.step R4.out.2 (fun a n c e hne => by injection e with e1; exact fun q => q (HRo.out a e1 hne)))
          go_wp2_with fail
          refine (HP1.out w4 R4.out.1 (fun k hk => by have := HG.out k hk; have := HS4.out.size; omega)).mono ?_
          rintro e w5 ⟨rfl, R5⟩
          have HS5 := hidden (HS4.out.trans R5.out.2 (fun i hi => .inl hi))
          have HR5 := hidden (HR4.out.step R5.out.2 (fun a n c e hne => by injection e with e1; exact fun q => q (HRo.out a e1 hne)))
          go_wp2_with fail
          refine (HP2.out w5 R5.out.1 (fun k hk => by have := HG.out k hk; have := HS5.out.size; omega)).mono ?_
          rintro e w6 ⟨rfl, R6⟩
          have HS6 := hidden (HS5.out.trans R6.out.2 (fun i hi => .inl hi))
          have HR6 := hidden (HR5.out.step R6.out.2 (fun a n c e hne => by injection e with e1; exact fun q => q (HRo.out a e1 hne)))
          have HW6 := hidden R6.out.1
          clear R4 R5 R6 HR3 HR4 HR5 HS3 HS4 HS5 HP1 HP2 HAL HW3
          go_wp2_with fail
          have S7 : Step (fun _ => False) w6 (w6.alloc (.cells #[.slice ap 65535 cp] 22)) := (Step.refl _ _).alloc _
          have hz7 : (w6.alloc (.cells #[.slice ap 65535 cp] 22)).heap.size = w6.heap.size + 1 := by simp
          refine (HRW.out _ w6.heap.size (fun k => G k ∨ k = w6.heap.size) ((HW6.out.made S7).less (fun k hk => hk.elim .inl (fun e => .inr ⟨by omega, by omega⟩))) (fun k hk => by
            have h1 := HS6.out.size
            rcases hk with hk | hk
            · have := HG.out k hk; omega
            · omega) ((World.cell?_alloc_at _ _ _ _ rfl).trans rfl) (.inr rfl) ?_ ?_).mono ?_
          · have h1 := HR6.out.step S7 (fun _ _ _ _ _ q => q)
            rw [← HRm.out] at h1
            exact h1.takeS 65535 (by rw [HRm.out]; omega)
          · intro a n c e hne
            injection e with e1
            exact .inl (HRo.out a e1 (fun e => hne (by rw [e]; simp)))
          rintro e w8 ⟨rfl, R8⟩
          have HW8 := hidden (show Wc w8 b (stC ps P true (i + 1)) G by rw [HPE.out]; exact R8.out.1.less (fun k hk => .inl hk))
          have HS8 := hidden ((HS6.out.trans S7 (fun _ q => q.elim)).trans R8.out.2 (fun i hi => .inl (fun q => hi (.inl q))))
          have HR8 := hidden ((HR6.out.step S7 (fun _ _ _ _ _ q => q)).step R8.out.2 (fun a n c e hne => by injection e with e1; exact fun q => q (.inl (HRo.out a e1 hne))))
          clear R8 S7 hz7 HRW HW6 HS6 HR6
          obtain ⟨g, off, hap⟩ := HR8.out.form (by intro e; have := HRm.out; rw [e] at this; simp at this; omega)
          subst hap
          go_wp2_with fail
          have wi := HWI.out.1
          have hle := HWI.out.2.1
          have HFI := hidden (show Wc w8 b (stC ps P true (i + 1)) G ∧ Step (fun k => ¬ G k) w2 w8 from ⟨HW8.out, HS8.out⟩)
          rw [wi]
          have HD := hidden (HRN.out.1 (Nat.lt_of_not_le hsm0))
          have hmc2 : m - 65535 ≤ cp - 65535 := Nat.sub_le_sub_right hmc _
          refine ⟨⟨i + 1, m - 65535, cp - 65535, some ⟨g, off + 65535, none⟩, rfl, hle, rfl, hmc2, fun h => hidden ⟨?_, ?_, ?_⟩, HFI⟩, ?_⟩
          · rw [HD.out.2, List.length_drop, HRm.out]
          · have h1 := HR8.out
            rw [← HRm.out] at h1
            have h2 := h1.dropS 65535 (by rw [HRm.out]; omega) (cp - 65535)
            rw [List.length_drop, HRm.out] at h2
            rw [HD.out.2]; exact h2
          · intro a e _
            have h1 := HRo.out _ rfl (by intro e; have := HRm.out; rw [e] at this; simp at this; omega)
            rw [← Option.some.inj e]; exact h1
          exact HWI.out.2.2
    · have hie : i = N := by omega
      have i1 : ¬ ((i : Int) < (N : Int)) := by omega
      subst hie
      clear HM
      go_wp2
      go_end0
      exact ⟨⟨_, rfl⟩, HQ.out⟩

end Go.Proofs.YtcgjmkcigmmjjaaGreatDoor

namespace Go.Proofs.YtcgjmkcigmmjjaaGreatDoor
open Go.RowKit
/-- Two rows, each with something in it, in a new block. -/
theorem Rws.two {w : World} {b1 o1 c1 b2 o2 c2 : Nat} {L1 L2 : List Int}
    (h1 : Ri w (.slice (some ⟨b1, o1, none⟩) L1.length c1) L1) (h2 : Ri w (.slice (some ⟨b2, o2, none⟩) L2.length c2) L2) (t : TypeId) :
    Rws (w.alloc (.cells #[.slice (some ⟨b1, o1, none⟩) L1.length c1, .slice (some ⟨b2, o2, none⟩) L2.length c2] t)) w.heap.size [L1, L2] := by
  have hs : Step (fun _ => False) w (w.alloc (.cells #[.slice (some ⟨b1, o1, none⟩) L1.length c1, .slice (some ⟨b2, o2, none⟩) L2.length c2] t)) := (Step.refl _ w).alloc _
  refine ⟨fun k hk => ?_⟩
  have hk2 : k = 0 ∨ k = 1 := by simp at hk; omega
  rcases hk2 with rfl | rfl
  · exact ⟨b1, o1, _, (World.cell?_alloc_at _ _ _ _ rfl).trans rfl, h1.made hs⟩
  · exact ⟨b2, o2, _, (World.cell?_alloc_at _ _ _ _ rfl).trans rfl, h2.made hs⟩

theorem concat_two {w : World} {b1 o1 c1 b2 o2 c2 : Nat} {L1 L2 : List Int} (h1 : Ri w (.slice (some ⟨b1, o1, none⟩) L1.length c1) L1) (h2 : Ri w (.slice (some ⟨b2, o2, none⟩) L2.length c2) L2) (l1 : 1 ≤ L1.length) (l3 : L1.length + L2.length ≤ 1000) (t : TypeId) :
    Calls Tryz.prog 60 #[.slice (some ⟨w.heap.size, 0, none⟩) 2 2] (w.alloc (.cells #[.slice (some ⟨b1, o1, none⟩) L1.length c1, .slice (some ⟨b2, o2, none⟩) L2.length c2] t)) fun e w' => ∃ va vc, e = .returned (.slice va (L1.length + L2.length) vc) ∧ Ri w' (.slice va (L1.length + L2.length) vc) (L1 ++ L2) ∧ Step (fun _ => False) w w' := by
  have S : Step (fun _ => False) w (w.alloc (.cells #[.slice (some ⟨b1, o1, none⟩) L1.length c1, .slice (some ⟨b2, o2, none⟩) L2.length c2] t)) := (Step.refl _ w).alloc _
  refine (concat_any w.heap.size [L1, L2] 2 (L1.length + L2.length) _ (Rws.two h1 h2 t) rfl (by simp) (by omega) (by omega) (by omega)).mono ?_
  rintro e w' ⟨v', he, ho, hs, _⟩
  rw [show [L1, L2].flatten = L1 ++ L2 by simp] at ho
  obtain ⟨va, vc, hv⟩ := own_slice ho
  subst hv
  exact ⟨va, vc, he, Ri.of_own (L := L1 ++ L2) ho, S.made hs⟩

end Go.Proofs.YtcgjmkcigmmjjaaGreatDoor

namespace Go.Proofs.YtcgjmkcigmmjjaaGreatDoor
open Go.RowKit
set_option maxRecDepth 100000
theorem told_any (al : Option Addr) (n cap : Nat) (L : List Int) (w : World) (h : Ri w (.slice al n cap) L) (hl : L.length ≤ 1000) (least : Nat) (h1 : least ≤ L.length) :
    Calls Tryz.prog 64 #[.slice al n cap, .int .i64 (least : Int)] w fun e w' => (∃ k, e = .returned (.slice al k cap) ∧ least ≤ k ∧ k ≤ L.length ∧ (∀ i, k ≤ i → L.getD i 0 = 0) ∧ (k = least ∨ ¬ L.getD (k - 1) 0 = 0)) ∧ w' = w := by
  obtain ⟨ao, cp, e, hcap, hz, hc⟩ := id h
  injection e with e1 e2 e3
  subst e1
  subst e2
  subst e3
  obtain ⟨ll, hll⟩ : ∃ ll, L.length = ll := ⟨_, rfl⟩
  have Hll := hidden hll
  have HC := hidden (show ∀ k, k < ll → ∃ g off, al = some ⟨g, off, none⟩ ∧ w.cell? ⟨g, off + k, none⟩ = some (.int .i64 (L.getD k 0)) from fun k hk => by
    obtain ⟨g, off, e, _, hcell⟩ := h.at (show k < L.length by omega)
    exact ⟨g, off, e, hcell⟩)
  rw [hll] at hcap hl h1 ⊢
  have hcz : (ll : Int) ≤ (cap : Int) := by omega
  clear h hc hz hll
  go_enter Tryz.func64, Tryz.ntmps64
  go_wp2
  go_loopw [5] (fun kv wr => ∃ k : Nat, kv = .int .i64 (k : Int) ∧ least ≤ k ∧ k ≤ ll ∧ wr = w ∧ Hid (∀ i, k ≤ i → L.getD i 0 = 0)) (fun kv _ => (intOf kv).toNat)
  case atStart =>
    refine ⟨ll, rfl, h1, Nat.le_refl _, rfl, fun i hi => ?_⟩
    rw [List.getD_eq_getElem?_getD, List.getElem?_eq_none (by have := Hll.out; omega)]
    rfl
  case round =>
    obtain ⟨k, rfl, k1, k2, rfl, HK⟩ := hrel
    have k3 : (k : Int) ≤ (cap : Int) := by omega
    have k4 : (0 : Int) ≤ (k : Int) := by omega
    by_cases hk : least < k
    · have hkz : (least : Int) < (k : Int) := by omega
      obtain ⟨j, hj⟩ : ∃ j, k = j + 1 := ⟨k - 1, by omega⟩
      obtain ⟨g, off, rfl, hcell⟩ := HC.out j (by omega)
      have hjk : (k : Int) - 1 = (j : Int) := by omega
      have j1 : (j : Int) < (ll : Int) := by omega
      have j0 : (0 : Int) ≤ (j : Int) := by omega
      by_cases hz : L.getD j 0 = 0
      · have HK2 := hidden (show ∀ i, j ≤ i → L.getD i 0 = 0 from fun i hi => by
          rcases Nat.eq_or_lt_of_le hi with e | e
          · rw [← e]; exact hz
          · exact HK.out i (by omega))
        rw [hz] at hcell
        have Hj := hidden hj
        clear hj hz
        go_wp2
        go_roundw
        case rel => exact ⟨j, rfl, by have := Hj.out; omega, by have := Hj.out; omega, by trivial, HK2.out⟩
        case measure => simp [intOf]; have := Hj.out; omega
      · have HZ := hidden (show ¬ L.getD (k - 1) 0 = 0 by rw [hj, Nat.add_sub_cancel]; exact hz)
        generalize L.getD j 0 = z at *
        have Hj := hidden hj
        clear hj
        go_wp2
        go_ret
        exact ⟨⟨k, rfl, k1, k2, HK.out, .inr HZ.out⟩, rfl⟩
    · have hkz : ¬ (least : Int) < (k : Int) := by omega
      have hkl : k = least := by omega
      have Hkl := hidden hkl
      clear hkl
      go_wp2
      go_ret
      exact ⟨⟨k, rfl, k1, k2, HK.out, .inl Hkl.out⟩, rfl⟩

end Go.Proofs.YtcgjmkcigmmjjaaGreatDoor

namespace Go.Proofs.YtcgjmkcigmmjjaaGreatDoor
open Go.RowKit
set_option maxRecDepth 100000
theorem builtHd (x y : Int) : Tryz.prog.built 103 [(0, .int .i64 x), (1, .int .i64 y)] = some #[.int .i64 x, .int .i64 y, .int .i64 0, .slice none 0 0, .slice none 0 0, .slice none 0 0, .slice none 0 0] := by kernel_rfl

theorem mk_int (N : Nat) (hN : N ≤ 400) : ∀ W : World, Sem.run Tryz.prog (Instr.makeSlice 30 (.int .i64 (N : Int)) (.int .i64 (N : Int))) W = .ok (.slice (some ⟨W.heap.size, 0, none⟩) N N) (W.alloc (.cells (madeCells #[.int .i64 0] N) 3)) := by
  intro W
  obtain ⟨i0, hi, hz0, hz1, hz2⟩ := info_parts Tryz.info3
  have := run_make (P := Tryz.prog) W 30 3 i0 (.int .i64 0) Tryz.underlying30 hi hz0 .i64 .i64 (N : Int) (N : Int) (by omega) (by omega) (by rw [hz2]; omega) (by omega)
  rw [hz1, Nat.mul_one] at this
  exact this

/-- How many of the order a heading in block p tells. -/
def ordOf (p : Nat) (w : World) : Nat := match w.cell? ⟨p, 2, none⟩ with
  | some (.int .i64 k) => k.toNat
  | _ => 0

theorem ordOf_eq {p k : Nat} {w : World} (h : w.cell? ⟨p, 2, none⟩ = some (.int .i64 (k : Int))) : ordOf p w = k := by
  unfold ordOf; rw [h]; simp

set_option maxHeartbeats 8000000 in
theorem newHeading_any (w : World) (q : Nat) (L1 L2 : List Int) (hb : Book w q L1 L2) (T : TabD w) (l1 : L1.length = 286) (l2 : L2.length = 30) (h1 : ∀ i, 0 ≤ L1.getD i 0 ∧ L1.getD i 0 ≤ 15) (h2 : ∀ i, 0 ≤ L2.getD i 0 ∧ L2.getD i 0 ≤ 15) :
    Calls Tryz.prog 33 #[.pointer (some ⟨q, 0, none⟩)] w fun e w' => ∃ p a d k xs D, e = .returned (.pointer (some ⟨p, 0, none⟩)) ∧ Used (rowOf (cS xs) 19) D 7 ∧ Hd w' p a d k xs (rowOf (cS xs) 19) (lensOf (rowOf (cS xs) 19) D 7) ∧ (Sps [] xs (L1.take a ++ L2.take d) ∧ Gps (L1.take a ++ L2.take d) 0 xs) ∧
      (257 ≤ a ∧ a ≤ 286 ∧ (∀ i, a ≤ i → L1.getD i 0 = 0) ∧ (a = 257 ∨ ¬ L1.getD (a - 1) 0 = 0)) ∧ (1 ≤ d ∧ d ≤ 30 ∧ (∀ i, d ≤ i → L2.getD i 0 = 0) ∧ (d = 1 ∨ ¬ L2.getD (d - 1) 0 = 0)) ∧
      (4 ≤ k ∧ k ≤ 19 ∧ (∀ i, k ≤ i → i < 19 → (lensOf (rowOf (cS xs) 19) D 7).getD (ord i) 0 = 0) ∧ (k = 4 ∨ ¬ (lensOf (rowOf (cS xs) 19) D 7).getD (ord (k - 1)) 0 = 0)) ∧ Step (fun _ => False) w w' := by
  obtain ⟨vl, ul, vd, ud, hv, r1, r2, r3, r4⟩ := hb.at'
  have HT := hidden T
  have Hl1 := hidden l1
  have Hl2 := hidden l2
  have H1 := hidden h1
  have H2 := hidden h2
  obtain ⟨al, cl, e1⟩ := Ri.slice r1
  obtain ⟨ad, cd, e3⟩ := Ri.slice r3
  subst e1
  subst e3
  rw [l1] at r1
  rw [l2] at r3
  rw [l1, l2] at hv
  have HT1 := hidden (told_any al 286 cl L1 w r1 (by omega) 257 (by omega))
  have HT2 := hidden (told_any ad 30 cd L2 w r3 (by omega) 1 (by omega))
  have HR1 := hidden r1
  have HR3 := hidden r3
  have c0 := (hv 0 _ rfl).1
  have c2 := (hv 2 _ rfl).1
  clear hb T l1 l2 h1 h2 r1 r2 r3 r4 hv
  go_enter Tryz.func33, Tryz.ntmps33
  go_wp2_with fail
  refine HT1.out.mono ?_
  rintro e w2 ⟨⟨a, rfl, a1, a2, a3, a4⟩, rfl⟩
  have HA := hidden (And.intro a3 a4)
  rw [Hl1.out] at a2
  clear a3 a4 HT1
  go_wp2_with fail
  refine HT2.out.mono ?_
  rintro e w3 ⟨⟨d, rfl, d1, d2, d3, d4⟩, rfl⟩
  have HD := hidden (And.intro d3 d4)
  rw [Hl2.out] at d2
  clear d3 d4 HT2
  go_wp2_with fail
  obtain ⟨p, hp⟩ : ∃ p, w3.heap.size = p := ⟨_, rfl⟩
  obtain ⟨w4, hw4⟩ : ∃ w4, w3.alloc (.cells #[.int .i64 (a : Int), .int .i64 (d : Int), .int .i64 0, .slice none 0 0, .slice none 0 0, .slice none 0 0, .slice none 0 0] 103) = w4 := ⟨_, rfl⟩
  obtain ⟨b1, o1, hal, hx1, hx2⟩ := HR1.out.at (k := 0) (by rw [Hl1.out]; omega)
  obtain ⟨b2, o2, had, hx3, hx4⟩ := HR3.out.at (k := 0) (by rw [Hl2.out]; omega)
  subst hal
  subst had
  have S4 : Step (fun _ => False) w3 w4 := by rw [← hw4]; exact (Step.refl _ _).alloc _
  have HS4 := hidden S4
  have HV4 := hidden (show Sv w4 p [.int .i64 (a : Int), .int .i64 (d : Int), .int .i64 0, .slice none 0 0, .slice none 0 0, .slice none 0 0, .slice none 0 0] by rw [← hw4, ← hp]; exact Sv.new w3 _ _)
  have t1 : (L1.take a).length = a := by rw [List.length_take, Hl1.out]; omega
  have t2 : (L2.take d).length = d := by rw [List.length_take, Hl2.out]; omega
  have Q1 : Ri w4 (.slice (some ⟨b1, o1, none⟩) (L1.take a).length cl) (L1.take a) := by rw [t1]; exact (HR1.out.made S4).takeS a a2
  have Q2 : Ri w4 (.slice (some ⟨b2, o2, none⟩) (L2.take d).length cd) (L2.take d) := by rw [t2]; exact (HR3.out.made S4).takeS d d2
  have HC := hidden (concat_two Q1 Q2 (by omega) (by omega) 30)
  rw [t1, t2] at HC
  have hz4 : w4.heap.size = p + 1 := by rw [← hw4, ← hp]; simp
  rw [hz4] at HC
  rw [hw4, hp]
  have Hp := hidden hp
  clear S4 Q1 Q2 t1 t2 hw4 hz4 c0 c2 hp hx1 hx2 hx3 hx4
  refine HC.out.mono ?_
  rintro e w5 ⟨va, vc, rfl, r5, S5⟩
  have HV5 := hidden (HV4.out.made S5)
  have HS5 := hidden (HS4.out.made S5)
  have tb1 := bd_app (bd_take (a := a) H1.out) (bd_take (a := d) H2.out)
  have HST := hidden (steps_any va (a + d) vc (L1.take a ++ L2.take d) w5 r5 (by rw [List.length_append, List.length_take, List.length_take, Hl1.out, Hl2.out]; omega) (fun i _ => tb1 i))
  clear r5 S5 HC HV4 HS4 tb1
  go_wp2_with fail
  refine HST.out.mono ?_
  rintro e w6 ⟨sv, xs, rfl, o6, x6⟩
  have HV6 := hidden (HV5.out.made o6.st)
  have HS6 := hidden (HS5.out.made o6.st)
  have HO6 := hidden o6
  obtain ⟨aos, cps, hsv⟩ := row3_form spC xs o6.own
  subst hsv
  obtain ⟨nx, hnx⟩ : ∃ n, xs.length = n := ⟨_, rfl⟩
  rw [hnx] at HO6 o6
  have Hnx := hidden hnx
  have HX := hidden x6
  have hz5 : p < w5.heap.size := HV5.out.lt (by simp)
  have c3 := (HV6.out 3 _ rfl)
  obtain ⟨c3, c3z⟩ := c3
  have c4 := (HV6.out 4 _ rfl)
  obtain ⟨c4, c4z⟩ := c4
  have hz6 : p < w6.heap.size := HV6.out.lt (by simp)
  have hm19 : ∀ W : World, Sem.run Tryz.prog (Instr.makeSlice 30 (.int .i64 19) (.int .i64 19)) W = .ok (.slice (some ⟨W.heap.size, 0, none⟩) 19 19) (W.alloc (.cells (madeCells #[.int .i64 0] 19) 3)) := mk_int 19 (by omega)
  rw [hnx]
  clear o6 x6 HST HV5 HS5 hnx
  go_wp2_with fail
  obtain ⟨g, hg⟩ : ∃ g, w6.heap.size = g := ⟨_, rfl⟩
  obtain ⟨w7, hw7⟩ : ∃ w7, (((w6.setCell ⟨p, 3, none⟩ (.slice aos nx cps)).setCell ⟨p, 4, none⟩ (.slice (some ⟨w6.heap.size, 0, none⟩) 19 19)).alloc (.cells (madeCells #[.int .i64 0] 19) 3)) = w7 := ⟨_, rfl⟩
  have S7 : Step (fun k => k = p) w6 w7 := by rw [← hw7]; exact (((Step.refl (fun k => k = p) w6).setCell _ _ (.inl rfl)).setCell _ _ (.inl rfl)).alloc _
  have HH7 := hidden (show Hw p w7 p g a d 0 (.slice aos nx cps) (.slice none 0 0) (.slice none 0 0) xs (cS (xs.take 0)) by
    refine ⟨?_, ?_, ?_, by omega, fun k hk => ?_, by omega⟩
    · rw [← hw7, ← hg]
      exact ((HV6.out.put 3 _).put 4 _).made ((Step.refl _ _).alloc _)
    · rw [Hnx.out]
      exact own3_keep HO6.out.own S7 (fun k hk => by have := HO6.out.new k hk; omega)
    · rw [← hw7, ← hg]
      have := Af.new ((w6.setCell ⟨p, 3, none⟩ (.slice aos nx cps)).setCell ⟨p, 4, none⟩ (.slice (some ⟨w6.heap.size, 0, none⟩) 19 19)) (madeCells #[.int .i64 0] 19) 3 19 (cS (xs.take 0)) (fun k hk => by
        have : cS (xs.take 0) k = 0 := by simp [cS]
        rw [this]
        exact madeCells_get _ _ _ hk)
      simpa using this
    · have h1 := HO6.out.new k hk
      have h2 := own3_lt HO6.out.own k hk
      omega)
  have HS7 := hidden (HS6.out.trans S7 (fun i hi => .inr (by have := Hp.out; omega)))
  rw [hw7, hg]
  have HXI := hidden HX.out.1.in'
  have hxl : nx ≤ 316 := by
    have := HX.out.1.len
    rw [List.length_append, List.length_take, List.length_take, Hl1.out, Hl2.out, List.length_nil, Hnx.out] at this
    omega
  clear S7 hw7 hg HV6 HO6 HS6 c3 c3z c4 c4z hz5 hz6 hm19
  go_loopw [43] (fun iv wr => ∃ i : Nat, iv = .int .i64 (i : Int) ∧ i ≤ nx ∧ Hid (Hw p wr p g a d 0 (.slice aos nx cps) (.slice none 0 0) (.slice none 0 0) xs (cS (xs.take i))) ∧ Hid (Step (fun _ => False) w3 wr)) (fun iv _ => nx - (RowKit.intOf iv).toNat)
  case atStart => exact ⟨0, rfl, Nat.zero_le _, HH7, HS7⟩
  case round =>
    obtain ⟨i, rfl, hi, HH, HS⟩ := hrel
    by_cases hin : i < nx
    · have i1 : (i : Int) < (nx : Int) := by omega
      have i0 : (0 : Int) ≤ (i : Int) := by omega
      obtain ⟨x, hx⟩ : ∃ x, xs[i]? = some x := ⟨xs[i]'(by rw [Hnx.out]; exact hin), List.getElem?_eq_getElem _⟩
      obtain ⟨gs, cap, hg, hr⟩ := row3_at spC spC_len xs HH.out.ow i x hx
      injection hg with hg1 hg2 hg3
      subst hg1
      subst hg3
      have HR := hidden (show wr.rangeAt gs (3 * i) [.int .i64 (x.s : Int), .int .i64 (x.m : Int), .int .i64 (x.b : Int)] from hr)
      obtain ⟨xm, xs19, xb7⟩ := HXI.out x (List.mem_of_getElem? hx)
      have HTK := hidden (show cS (xs.take (i + 1)) = upd (cS (xs.take i)) x.s (cS (xs.take i) x.s + 1) by
        rw [List.take_add_one, hx]; exact cS_snoc _ _)
      obtain ⟨W2, hW2⟩ : ∃ W2, wr.alloc (.cells #[.int .i64 0, .int .i64 0, .int .i64 0] 89) = W2 := ⟨_, rfl⟩
      obtain ⟨B2, hB2⟩ : ∃ B2, wr.heap.size = B2 := ⟨_, rfl⟩
      have HV2 := hidden (show Sv W2 B2 (spL 0 0 0) by rw [← hW2, ← hB2]; exact Sv.new wr _ _)
      have HS2 := hidden (show Step (fun _ => False) wr W2 by rw [← hW2]; exact (Step.refl _ _).alloc _)
      have HB2 := hidden hB2
      have t0 : wr.cell? ⟨gs, i * 3, none⟩ = some (.int .i64 (x.s : Int)) := by rw [Nat.mul_comm]; exact HR.out 0 _ rfl
      have t1 : wr.cell? ⟨gs, i * 3 + 1, none⟩ = some (.int .i64 (x.m : Int)) := by rw [Nat.mul_comm]; exact HR.out 1 _ rfl
      have t2 : wr.cell? ⟨gs, i * 3 + 2, none⟩ = some (.int .i64 (x.b : Int)) := by rw [Nat.mul_comm]; exact HR.out 2 _ rfl
      have hcb := cS_bd (xs.take i) x.s
      have hzt : (xs.take i).length ≤ 316 := by rw [List.length_take, Hnx.out]; omega
      obtain ⟨z, hz⟩ : ∃ z, cS (xs.take i) x.s = z := ⟨_, rfl⟩
      have Hz := hidden hz
      have wz : IntKind.i64.wrap (z + 1) = z + 1 := wrap_i64_id _ (by omega) (by omega)
      have wz2 : wrap64 (z + 1) = z + 1 := wrap64_id _ (by omega) (by omega)
      clear hr hx hcb hz hzt xm xb7 hg2
      go_wp2_with (refine store_sv B2 (spL 0 0 0) (spL x.s x.m x.b) rfl Tryz.infoSp (spL_one _ _ _) rfl rfl HV2.out ?_)
      intro w8 S8 V8
      have HS8 := hidden (HS2.out.trans S8 (fun i hi => .inr (by have := HB2.out; omega)))
      have HH8 := hidden (HH.out.made HS8.out)
      have u0 := (V8 0 _ rfl).1
      have d4 := (HH8.out.s 4 _ rfl).1
      obtain ⟨ce, cz⟩ := HH8.out.of x.s xs19
      rw [Hz.out] at ce
      have x0 : (0 : Int) ≤ (x.s : Int) := by omega
      have x19 : (x.s : Int) < 19 := by omega
      clear S8 V8 HV2 HS2 hW2 hB2 t0 t1 t2 HR
      go_upto_region 9 with fail
      refine wp_region_still_tail 10 Tryz.mixed (by kernel_rfl) ?_
      simp only [List.take_succ_cons, List.take_zero, List.drop_succ_cons, List.drop_zero]
      change wpStill _ _ (World.drew _) _ _ _
      iterate 10 still_step
      refine wpStill_nil ?_
      go_wp2_with fail
      go_roundw
      case rel =>
        refine ⟨i + 1, by go_num, by omega, hidden ?_, hidden ?_⟩
        · rw [HTK.out, Hz.out]
          exact (HH8.out.cnt x.s (z + 1)).made ((Step.refl _ _).drew)
        · exact (((HS.out.trans HS8.out (fun _ q => q.elim)).setCell _ _ (.inr (by have h1 := HH8.out.hi.2; have h2 := Hp.out; exact Nat.le_trans (Nat.le_of_eq h2) h1))).drew)
      case measure => simp [RowKit.intOf]; omega
    · have hie : i = nx := by omega
      have i1 : ¬ ((i : Int) < (nx : Int)) := by omega
      have hti : xs.take i = xs := by rw [hie, ← Hnx.out]; exact List.take_length
      rw [hti] at HH
      have d4 := (HH.out.s 4 _ rfl).1
      have HBC := hidden (fun wx (hx : Step (fun _ => False) wr wx) => bestCodes_any (.slice (some ⟨g, 0, none⟩) 19 19) (rowOf (cS xs) 19) 7 wx ((HH.out.made hx).of.ri (rowOf_len _ _) (Nat.le_refl _) (fun k hk => rowOf_getD _ _ _ hk)) (by rw [rowOf_len]; omega) (ord_may xs (by rw [Hnx.out]; omega)))
      clear hti hie
      go_wp2_with fail
      refine (HBC.out _ (by first | exact Step.refl _ _ | exact (Step.refl _ _).drewN _)).mono ?_
      rintro e w8 ⟨vl, vu, D, rfl, hU, rl, ru, nl, nu, S8⟩
      obtain ⟨C, hC⟩ : ∃ C, lensOf (rowOf (cS xs) 19) D 7 = C := ⟨_, rfl⟩
      rw [hC] at rl ru
      have HCe := hidden hC
      have HU := hidden hU
      have lC : C.length = 19 := by rw [← hC]; simp [lensOf, rowOf_len]
      have luC : (codes C).length = 19 := by simp [codes, lC]
      obtain ⟨avl, cvl, e⟩ := Ri.slice rl
      subst e
      obtain ⟨avu, cvu, e⟩ := Ri.slice ru
      subst e
      rw [lC] at rl nl
      rw [luC] at ru nu
      rw [lC, luC]
      have HN := hidden (And.intro nl nu)
      have HRL := hidden rl
      have HRU := hidden ru
      have HH8 := hidden (HH.out.made S8)
      have HS8 := hidden (HS.out.made S8)
      have HLC := hidden lC
      clear hU rl ru nl nu S8 hC lC luC HS HBC d4
      go_wp2_with (refine store_svo p 5 (hwL a d 0 (.slice aos nx cps) g (.slice none 0 0) (.slice none 0 0)) [.slice avl 19 cvl, .slice avu 19 cvu] (hwL a d 0 (.slice aos nx cps) g (.slice avl 19 cvl) (.slice avu 19 cvu)) (by simp [hwL]) rfl Tryz.infoCd (cdL_one _ _ _ _ _ _) rfl rfl HH8.out.s ?_)
      intro w9 S9 V9
      have HS9 := hidden (HS8.out.trans S9 (fun i hi => .inr (by have := Hp.out; omega)))
      have HH9 := hidden (show Hw p w9 p g a d 0 (.slice aos nx cps) (.slice avl 19 cvl) (.slice avu 19 cvu) xs (cS xs) from
        ⟨V9, own3_keep HH8.out.ow S9 (fun k hk => (HH8.out.off k hk).1), HH8.out.of.step S9 (fun e => HH8.out.ne e.symm), HH8.out.ne, HH8.out.off, HH8.out.hi⟩)
      have hpz := HH.out.s.lt (by simp [hwL])
      have HRL9 := hidden (HRL.out.step S9 (fun a n c e _ => by have := HN.out.1 a n c e; omega))
      have HRU9 := hidden (HRU.out.step S9 (fun a n c e _ => by have := HN.out.2 a n c e; omega))
      have d2' := (V9 2 _ rfl)
      obtain ⟨e2, e2z⟩ := d2'
      have HT9 := hidden (HT.out.made HS9.out)
      have HNE := hidden (show (∀ a n c, Value.slice avl 19 cvl = .slice (some a) n c → a.block ≠ p) ∧ ∀ a n c, Value.slice avu 19 cvu = .slice (some a) n c → a.block ≠ p from ⟨fun a n c e => by have := HN.out.1 a n c e; omega, fun a n c e => by have := HN.out.2 a n c e; omega⟩)
      clear S9 V9 HS8 HH8 HRL HRU HH HN
      go_wp2_with fail
      obtain ⟨w10, hw10⟩ : ∃ w10, w9.setCell ⟨p, 2, none⟩ (.int .i64 19) = w10 := ⟨_, rfl⟩
      have S10 : Step (fun k => k = p) w9 w10 := by rw [← hw10]; exact (Step.refl (fun k => k = p) w9).setCell _ _ (.inl rfl)
      have HH10 := hidden (show Hw p w10 p g a d 19 (.slice aos nx cps) (.slice avl 19 cvl) (.slice avu 19 cvu) xs (cS xs) by rw [← hw10]; exact HH9.out.ord 19)
      have HS10 := hidden (HS9.out.trans S10 (fun i hi => .inr (by have := Hp.out; omega)))
      have HRL10 := hidden (HRL9.out.step S10 (fun a n c e _ => HNE.out.1 a n c e))
      have HRU10 := hidden (HRU9.out.step S10 (fun a n c e _ => HNE.out.2 a n c e))
      rw [hw10]
      clear S10 hw10 HH9 HS9 HRL9 HRU9 e2 e2z HT9
      go_loopw [] (fun wr => ∃ k : Nat, 4 ≤ k ∧ k ≤ 19 ∧ Hid (Hw p wr p g a d k (.slice aos nx cps) (.slice avl 19 cvl) (.slice avu 19 cvu) xs (cS xs) ∧ Ri wr (.slice avl 19 cvl) C ∧ Ri wr (.slice avu 19 cvu) (codes C) ∧ Step (fun _ => False) w3 wr ∧ (∀ i, k ≤ i → i < 19 → C.getD (ord i) 0 = 0))) (fun wr => ordOf p wr)
      case atStart => exact ⟨19, by omega, by omega, hidden ⟨by first | exact HH10.out | exact HH10.out.made ((Step.refl _ _).drew), by first | exact HRL10.out | exact HRL10.out.made ((Step.refl _ _).drew), by first | exact HRU10.out | exact HRU10.out.made ((Step.refl _ _).drew), by first | exact HS10.out | exact HS10.out.drew, fun i h1 h2 => by omega⟩⟩
      case round =>
        obtain ⟨k, k4, k19, HR⟩ := hrel
        clear HH10 HS10 HRL10 HRU10
        obtain ⟨e2, e2z⟩ := HR.out.1.s 2 _ rfl
        have HO := hidden (ordOf_eq e2)
        by_cases hk : 4 < k
        · obtain ⟨j, hj⟩ : ∃ j, k = j + 1 := ⟨k - 1, by omega⟩
          have z1 : (4 : Int) < (k : Int) := by omega
          have z2 : decide (4 < k) = true := by rw [decide_eq_true_iff]; exact hk
          have z3 : (4 < k) = True := by simp; exact hk
          have jw : IntKind.i64.wrap ((k : Int) - 1) = (j : Int) := by simp [IntKind.wrap, IntKind.bits, IntKind.signed]; omega
          have jw2 : wrap64 ((k : Int) - 1) = (j : Int) := by rw [wrap64_id _ (by omega) (by omega)]; omega
          have j0 : (0 : Int) ≤ (j : Int) := by omega
          have j1 : (j : Int) < 19 := by omega
          have jl : j < 19 := by omega
          have e5 := (HR.out.1.s 5 _ rfl).1
          have eo := (HT.out.made HR.out.2.2.2.1) j (by omega)
          have o19 := ord_lt j
          obtain ⟨o, ho⟩ : ∃ o, ord j = o := ⟨_, rfl⟩
          obtain ⟨bv, ov, hav, _, ec⟩ := HR.out.2.1.at (k := o) (by rw [HLC.out, ← ho]; exact o19)
          subst hav
          rw [ho] at eo o19
          have o0 : (0 : Int) ≤ (o : Int) := by omega
          have o1 : (o : Int) < 19 := by omega
          have Hj := hidden hj
          have Ho := hidden ho
          by_cases hz : C.getD o 0 = 0
          · have g1 : (C.getD o 0 == 0) = true := by rw [hz]; rfl
            have Hz := hidden hz
            rw [hz] at ec
            have g2 : ((0 : Int) == 0) = true := rfl
            clear hj ho hz hk
            go_wp2
            go_quiet (fail)
            go_wp2_with fail
            go_roundw
            case rel =>
              have S2 : Step (fun k => k = p) wr ((wr.drewN nq).setCell ⟨p, 2, none⟩ (.int .i64 (j : Int))) := ((Step.refl (fun k => k = p) wr).drewN nq).setCell _ _ (.inl rfl)
              refine ⟨j, by have := Hj.out; omega, by have := Hj.out; omega, hidden ⟨(HR.out.1.made ((Step.refl _ _).drewN nq)).ord j, HR.out.2.1.step S2 (fun a n c e _ => HNE.out.1 a n c e), HR.out.2.2.1.step S2 (fun a n c e _ => HNE.out.2 a n c e), HR.out.2.2.2.1.trans S2 (fun i hi => .inr (by have := Hp.out; omega)), fun i h1 h2 => ?_⟩⟩
              by_cases e : i = j
              · rw [e, Ho.out]; exact Hz.out
              · exact HR.out.2.2.2.2 i (by have := Hj.out; omega) h2
            case measure =>
              have h1 := HO.out
              have h2 := Hj.out
              rw [h1]
              rw [ordOf_eq (k := j) (by exact ((HR.out.1.made ((Step.refl _ _).drewN nq)).ord j).s 2 _ rfl |>.1)]
              omega
          · obtain ⟨z, hze⟩ : ∃ z, z = C.getD o 0 := ⟨_, rfl⟩
            rw [← hze] at ec hz
            have g1 : (z == 0) = false := by rw [beq_eq_false_iff_ne]; exact hz
            have Hz := hidden (And.intro hz hze)
            clear hj ho hze hk hz
            go_wp2
            go_quiet (fail)
            go_wp2_with fail
            go_ret
            refine ⟨p, a, d, k, xs, D, rfl, HU.out, ⟨⟨_, _, _, _, (HR.out.1.made ((Step.refl _ _).drewN _)).s, (HR.out.1.made ((Step.refl _ _).drewN _)).ow, (HR.out.1.made ((Step.refl _ _).drewN _)).of.ri (rowOf_len _ _) (Nat.le_refl _) (fun k hk => rowOf_getD _ _ _ hk), ?_, ?_⟩⟩, HX.out, ⟨a1, a2, HA.out.1, HA.out.2⟩, ⟨d1, d2, HD.out.1, HD.out.2⟩, ⟨by omega, by omega, ?_, ?_⟩, HR.out.2.2.2.1.drewN _⟩
            · rw [HCe.out]; exact HR.out.2.1.drewN _
            · rw [HCe.out]; exact HR.out.2.2.1.drewN _
            · rw [HCe.out]; exact HR.out.2.2.2.2
            · rw [HCe.out]; exact .inr (by rw [Hj.out, Nat.add_sub_cancel, Ho.out, ← Hz.out.2]; exact Hz.out.1)
        · have hk4 : k = 4 := by omega
          subst hk4
          have e4 : wr.cell? ⟨p, 2, none⟩ = some (.int .i64 4) := e2
          clear e2 hk
          go_wp2
          go_quiet (fail)
          go_wp2_with fail
          go_ret
          refine ⟨p, a, d, 4, xs, D, rfl, HU.out, ⟨⟨_, _, _, _, (HR.out.1.made ((Step.refl _ _).drewN _)).s, (HR.out.1.made ((Step.refl _ _).drewN _)).ow, (HR.out.1.made ((Step.refl _ _).drewN _)).of.ri (rowOf_len _ _) (Nat.le_refl _) (fun k hk => rowOf_getD _ _ _ hk), ?_, ?_⟩⟩, HX.out, ⟨a1, a2, HA.out.1, HA.out.2⟩, ⟨d1, d2, HD.out.1, HD.out.2⟩, ⟨by omega, by omega, ?_, ?_⟩, HR.out.2.2.2.1.drewN _⟩
          · rw [HCe.out]; exact HR.out.2.1.drewN _
          · rw [HCe.out]; exact HR.out.2.2.1.drewN _
          · rw [HCe.out]; exact HR.out.2.2.2.2
          · rw [HCe.out]; exact .inl rfl

end Go.Proofs.YtcgjmkcigmmjjaaGreatDoor

namespace Go.Proofs.YtcgjmkcigmmjjaaGreatDoor
open Go.RowKit
set_option maxRecDepth 100000
theorem run_call2c {f : FuncId} {fn : Func} {cd : Code} (hf : Tryz.prog.funcs[f]? = some fn) (hname : (fn.name == "runtime.NumGoroutine") = false) (hb : fn.body = some cd) (v v' : Value) (u : World) (o : Oper) (b : Act) (p : Nat) (t t' : TypeId) (ho : o.op = .call { callee := .value (.func f), args := #[.tmp p, .const v'], argTypes := #[t, t'] }) (hp : b.eval (.tmp p) = v) :
    (execOp b.eval o).run Tryz.prog u = .ok (.enter f #[v, v']) u := by
  simp [execOp, ho]
  simp [go_sem, run_enter hf hname hb]
  simpa [Act.eval] using hp

def isSl (v : Value) : Prop := ∃ a n c, v = .slice a n c

/-- The best codes for counts O, as a value. -/
def BcV (O : List Int) (u : World) (v : Value) : Prop := ∃ vl ul D, v = .agg #[vl, ul] ∧ (isSl vl ∧ isSl ul) ∧ Used O D 15 ∧ Ri u vl (lensOf O D 15) ∧ Ri u ul (codes (lensOf O D 15))

theorem BcV.made {O : List Int} {u u' : World} {v : Value} (h : BcV O u v) (hs : Step (fun _ => False) u u') : BcV O u' v := by
  obtain ⟨vl, ul, D, e, hi, hU, r1, r2⟩ := h
  exact ⟨vl, ul, D, e, hi, hU, r1.made hs, r2.made hs⟩

def BoV (O1 O2 : List Int) (u : World) (v : Value) : Prop := ∃ vl ul vd ud D1 D2, v = .agg #[vl, ul, vd, ud] ∧ ((isSl vl ∧ isSl ul) ∧ isSl vd ∧ isSl ud) ∧ Used O1 D1 15 ∧ Used O2 D2 15 ∧ Ri u vl (lensOf O1 D1 15) ∧ Ri u ul (codes (lensOf O1 D1 15)) ∧ Ri u vd (lensOf O2 D2 15) ∧ Ri u ud (codes (lensOf O2 D2 15))

theorem BoV.made {O1 O2 : List Int} {u u' : World} {v : Value} (h : BoV O1 O2 u v) (hs : Step (fun _ => False) u u') : BoV O1 O2 u' v := by
  obtain ⟨vl, ul, vd, ud, D1, D2, e, hi, h1, h2, r1, r2, r3, r4⟩ := h
  exact ⟨vl, ul, vd, ud, D1, D2, e, hi, h1, h2, r1.made hs, r2.made hs, r3.made hs, r4.made hs⟩

def OwnP (W : Nat) (O1 O2 : List Int) (u : World) (v : Value) : Prop := ∃ k D1 D2, v = .pointer (some ⟨k, 0, none⟩) ∧ W ≤ k ∧ Used O1 D1 15 ∧ Used O2 D2 15 ∧ Book u k (lensOf O1 D1 15) (lensOf O2 D2 15)

/-- What each operation of ownBook's region leaves. -/
def FO (W b g1 g2 : Nat) (O1 O2 : List Int) : Nat → World → Value → Prop
  | 0, _, v => v = .pointer (some ⟨b, 0, none⟩)
  | 1, _, v => v = .pointer (some ⟨b, 0, none⟩)
  | 2, _, v => v = .pointer (some ⟨b, 3, none⟩)
  | 3, _, v => v = .slice (some ⟨g1, 0, none⟩) 286 286
  | 4, u, v => BcV O1 u v
  | 5, _, v => v = .pointer (some ⟨b, 0, none⟩)
  | 6, _, v => v = .pointer (some ⟨b, 0, none⟩)
  | 7, _, v => v = .pointer (some ⟨b, 4, none⟩)
  | 8, _, v => v = .slice (some ⟨g2, 0, none⟩) 30 30
  | 9, u, v => BcV O2 u v
  | 10, u, v => BoV O1 O2 u v
  | _, u, v => OwnP W O1 O2 u v

theorem FO.mono {W b g1 g2 : Nat} {O1 O2 : List Int} : ∀ k u u' v, FO W b g1 g2 O1 O2 k u v → Step (fun _ => False) u u' → FO W b g1 g2 O1 O2 k u' v := by
  intro k u u' v h hs
  match k with
  | 0 | 1 | 2 | 3 | 5 | 6 | 7 | 8 => exact h
  | 4 => exact BcV.made h hs
  | 9 => exact BcV.made h hs
  | 10 => exact BoV.made h hs
  | k + 11 =>
    obtain ⟨k, D1, D2, e, hw, h1, h2, hb⟩ := h
    exact ⟨k, D1, D2, e, hw, h1, h2, hb.made hs⟩

theorem builtBo (a1 a2 a3 a4 : Option Addr) (n1 n2 n3 n4 c1 c2 c3 c4 : Nat) : Tryz.prog.built 99 [(0, .agg #[.slice a1 n1 c1, .slice a2 n2 c2]), (1, .agg #[.slice a3 n3 c3, .slice a4 n4 c4])] = some #[.slice a1 n1 c1, .slice a2 n2 c2, .slice a3 n3 c3, .slice a4 n4 c4] := by kernel_rfl

set_option maxHeartbeats 2000000 in
theorem ownBook_any {B0 : Nat} {b : Nat} {tv rv : Value} {la : Bool} {g1 g2 : Nat} {ts : List Tk} {fl fd : Nat → Int} {m : Nat} (w : World) (h : Bk B0 w b tv rv la g1 g2 ts fl fd m) (O1 O2 : List Int) (h1 : O1.length = 286) (h2 : O2.length = 30) (e1 : ∀ k, k < 286 → O1.getD k 0 = fl k) (e2 : ∀ k, k < 30 → O2.getD k 0 = fd k) (m1 : mayB O1 15 = true) (m2 : mayB O2 15 = true) :
    Calls Tryz.prog 32 #[.pointer (some ⟨b, 0, none⟩)] w fun e w' => ∃ v, e = .returned v ∧ OwnP w.heap.size O1 O2 w' v ∧ Step (fun _ => False) w w' := by
  have H := hidden h
  have R1 := hidden (h.la'.ri h1 (Nat.le_refl _) e1)
  have R2 := hidden (h.da.ri h2 (Nat.le_refl _) e2)
  have O1l := hidden h1
  have O2l := hidden h2
  have M1 := hidden m1
  have M2 := hidden m2
  clear h h1 h2 e1 e2 m1 m2
  go_enter Tryz.func32, Tryz.ntmps32
  go_upto_region 1 with fail
  refine region_inv Tryz.mixed 15 (fun j => if j = 12 then 2 else 3 + j) [(0, .pointer (some ⟨b, 0, none⟩))] (FO w.heap.size b g1 g2 O1 O2) (by kernel_rfl) FO.mono rfl rfl ?rbase ?rops ?rend
  case rbase => intro x hx; simp at hx; subst hx; rfl
  case rops =>
    intro j o ho c u hn hs hb hdeps
    have b0 := hb (0, .pointer (some ⟨b, 0, none⟩)) (by simp)
    have hj : j < 13 := (Array.getElem?_eq_some_iff.1 ho).1
    have hws := hs.size
    have hjc : j = 0 ∨ j = 1 ∨ j = 2 ∨ j = 3 ∨ j = 4 ∨ j = 5 ∨ j = 6 ∨ j = 7 ∨ j = 8 ∨ j = 9 ∨ j = 10 ∨ j = 11 ∨ j = 12 := by omega
    rcases hjc with rfl | rfl | rfl | rfl | rfl | rfl | rfl | rfl | rfl | rfl | rfl | rfl | rfl
    · simp at ho
      subst ho
      exact ⟨rfl, wp_run (v := .pointer (some ⟨b, 0, none⟩)) (w' := u) (by simp [execOp, b0]) ⟨_, rfl, Step.refl _ _, rfl⟩⟩
    · simp at ho
      subst ho
      have d0 : c.eval (.tmp 3) = _ := hdeps ⟨0, .data⟩ (by simp) rfl
      refine ⟨rfl, wp_run (v := .pointer (some ⟨b, 0, none⟩)) (w' := u) ?_ ⟨_, rfl, Step.refl _ _, rfl⟩⟩
      simp [execOp, d0]
      try simp [go_sem]
    · simp at ho
      subst ho
      have d0 : c.eval (.tmp 4) = _ := hdeps ⟨1, .data⟩ (by simp) rfl
      refine ⟨rfl, wp_run (v := .pointer (some ⟨b, 3, none⟩)) (w' := u) ?_ ⟨_, rfl, Step.refl _ _, rfl⟩⟩
      simp [execOp, d0]
      simp [go_sem]
    · simp at ho
      subst ho
      have d0 : c.eval (.tmp 5) = _ := hdeps ⟨2, .data⟩ (by simp) rfl
      refine ⟨rfl, wp_run (v := .slice (some ⟨g1, 0, none⟩) 286 286) (w' := u) ?_ ⟨_, rfl, Step.refl _ _, rfl⟩⟩
      have c1 := (H.out.made hs).c3
      simp [execOp, d0]
      simp [go_sem, c1]
    · simp at ho
      subst ho
      have d0 : c.eval (.tmp 6) = _ := hdeps ⟨3, .data⟩ (by simp) rfl
      have hr := bestCodes_any (.slice (some ⟨g1, 0, none⟩) 286 286) O1 15 u (R1.out.made hs) (by rw [O1l.out]; omega) M1.out
      refine ⟨rfl, wp_enter (run_call2c Tryz.func63 (by kernel_rfl) rfl _ _ u _ c 6 _ _ rfl d0) (hr.mono ?_)⟩
      rintro e w' ⟨vl, ul, D, rfl, hU, r1, r2, _, _, hst⟩
      obtain ⟨a1, n1, e1⟩ := Ri.slice r1
      obtain ⟨a2, n2, e2⟩ := Ri.slice r2
      exact ⟨_, rfl, _, rfl, hst, vl, ul, D, rfl, ⟨⟨_, _, _, e1⟩, ⟨_, _, _, e2⟩⟩, hU, r1, r2⟩
    · simp at ho
      subst ho
      exact ⟨rfl, wp_run (v := .pointer (some ⟨b, 0, none⟩)) (w' := u) (by simp [execOp, b0]) ⟨_, rfl, Step.refl _ _, rfl⟩⟩
    · simp at ho
      subst ho
      have d0 : c.eval (.tmp 8) = _ := hdeps ⟨5, .data⟩ (by simp) rfl
      refine ⟨rfl, wp_run (v := .pointer (some ⟨b, 0, none⟩)) (w' := u) ?_ ⟨_, rfl, Step.refl _ _, rfl⟩⟩
      simp [execOp, d0]
      try simp [go_sem]
    · simp at ho
      subst ho
      have d0 : c.eval (.tmp 9) = _ := hdeps ⟨6, .data⟩ (by simp) rfl
      refine ⟨rfl, wp_run (v := .pointer (some ⟨b, 4, none⟩)) (w' := u) ?_ ⟨_, rfl, Step.refl _ _, rfl⟩⟩
      simp [execOp, d0]
      simp [go_sem]
    · simp at ho
      subst ho
      have d0 : c.eval (.tmp 10) = _ := hdeps ⟨7, .data⟩ (by simp) rfl
      refine ⟨rfl, wp_run (v := .slice (some ⟨g2, 0, none⟩) 30 30) (w' := u) ?_ ⟨_, rfl, Step.refl _ _, rfl⟩⟩
      have c1 := (H.out.made hs).c4
      simp [execOp, d0]
      simp [go_sem, c1]
    · simp at ho
      subst ho
      have d0 : c.eval (.tmp 11) = _ := hdeps ⟨8, .data⟩ (by simp) rfl
      have hr := bestCodes_any (.slice (some ⟨g2, 0, none⟩) 30 30) O2 15 u (R2.out.made hs) (by rw [O2l.out]; omega) M2.out
      refine ⟨rfl, wp_enter (run_call2c Tryz.func63 (by kernel_rfl) rfl _ _ u _ c 11 _ _ rfl d0) (hr.mono ?_)⟩
      rintro e w' ⟨vl, ul, D, rfl, hU, r1, r2, _, _, hst⟩
      obtain ⟨a1, n1, e1⟩ := Ri.slice r1
      obtain ⟨a2, n2, e2⟩ := Ri.slice r2
      exact ⟨_, rfl, _, rfl, hst, vl, ul, D, rfl, ⟨⟨_, _, _, e1⟩, ⟨_, _, _, e2⟩⟩, hU, r1, r2⟩
    · simp at ho
      subst ho
      obtain ⟨vl, ul, D1, d1, ⟨⟨x1, y1, z1, rfl⟩, ⟨x2, y2, z2, rfl⟩⟩, hU1, r1, r2⟩ : BcV O1 u (c.eval (.tmp 7)) := hdeps ⟨4, .data⟩ (by simp) rfl
      obtain ⟨vd, ud, D2, d2, ⟨⟨x3, y3, z3, rfl⟩, ⟨x4, y4, z4, rfl⟩⟩, hU2, r3, r4⟩ : BcV O2 u (c.eval (.tmp 12)) := hdeps ⟨9, .data⟩ (by simp) rfl
      refine ⟨rfl, wp_run (v := .agg #[.slice x1 y1 z1, .slice x2 y2 z2, .slice x3 y3 z3, .slice x4 y4 z4]) (w' := u) ?_ ⟨_, rfl, Step.refl _ _, _, _, _, _, D1, D2, rfl, ⟨⟨⟨_, _, _, rfl⟩, ⟨_, _, _, rfl⟩⟩, ⟨⟨_, _, _, rfl⟩, ⟨_, _, _, rfl⟩⟩⟩, hU1, hU2, r1, r2, r3, r4⟩⟩
      simp [execOp, d1, d2]
      rw [run_build u _ _ _ (builtBo x1 x2 x3 x4 y1 y2 y3 y4 z1 z2 z3 z4)]
      rfl
    · simp at ho
      subst ho
      obtain ⟨vl, ul, vd, ud, D1, D2, d1, _, hU1, hU2, r1, r2, r3, r4⟩ : BoV O1 O2 u (c.eval (.tmp 13)) := hdeps ⟨10, .data⟩ (by simp) rfl
      have hst : Step (fun _ => False) u (u.alloc (.cells #[vl, ul, vd, ud] 99)) := (Step.refl _ _).alloc _
      refine ⟨rfl, wp_run (v := .pointer (some ⟨u.heap.size, 0, none⟩)) (w' := u.alloc (.cells #[vl, ul, vd, ud] 99)) ?_ ⟨_, rfl, hst, u.heap.size, D1, D2, rfl, hws, hU1, hU2, ⟨⟨vl, ul, vd, ud, Sv.new u [vl, ul, vd, ud] _, r1.made hst, r2.made hst, r3.made hst, r4.made hst⟩⟩⟩⟩
      simp only [execOp, d1, Instr.box, newVar, Value.cells]
      simp [go_sem]
    · simp at ho
      subst ho
      obtain ⟨k, D1, D2, d1, q⟩ : OwnP w.heap.size O1 O2 u (c.eval (.tmp 14)) := hdeps ⟨11, .data⟩ (by simp) rfl
      exact ⟨rfl, wp_run (v := .pointer (some ⟨k, 0, none⟩)) (w' := u) (by simp [execOp, d1]) ⟨_, rfl, Step.refl _ _, k, D1, D2, rfl, q⟩⟩
  case rend =>
    intro c u hd hn hs hb hF
    have q : OwnP w.heap.size O1 O2 u (c.eval (.tmp 2)) := hF 12 (by decide)
    have HQ := hidden q
    have HS := hidden hs
    obtain ⟨tmps, defers⟩ := c
    simp only at hd
    subst hd
    clear hF hb hn hs q
    go_wp2
    exact bodyPost_ret (results_tmp rfl _ _ _) rfl ⟨_, rfl, HQ.out, HS.out⟩

end Go.Proofs.YtcgjmkcigmmjjaaGreatDoor

namespace Go.Proofs.YtcgjmkcigmmjjaaGreatDoor
open Go.RowKit
set_option maxRecDepth 100000
set_option linter.unusedVariables false
set_option maxHeartbeats 1000000 in
theorem cost_any (va vb : Value) (A B : List Int) (w : World) (ha : Ri w va A) (hb : Ri w vb B) (hA : A.length ≤ 400) (hB : B.length ≤ 400) (hC : Cb A B) :
    Calls Tryz.prog 66 #[va, vb] w fun e w' => e = .returned (.int .i64 (csum A B (min A.length B.length))) ∧ ∃ n, w' = w.drewN n := by
  obtain ⟨ao, ca, rfl, _, a1, a2⟩ := ha
  obtain ⟨bo, cb, rfl, _, b1, b2⟩ := hb
  have A1 := hidden a1
  have A2 := hidden a2
  have B1 := hidden b1
  have B2 := hidden b2
  have HC := hidden hC
  obtain ⟨n, hn⟩ : ∃ n, n = A.length := ⟨_, rfl⟩
  obtain ⟨m, hm⟩ : ∃ m, m = B.length := ⟨_, rfl⟩
  have Hn := hidden hn
  have Hm := hidden hm
  rw [← hn] at hA ⊢
  rw [← hm] at hB ⊢
  obtain ⟨N, hN⟩ : ∃ N, N = min n m := ⟨_, rfl⟩
  have hN1 : N ≤ n := by omega
  have hN2 : N ≤ m := by omega
  have HN := hidden hN
  have hmin : (if m < n then (m : Int) else (n : Int)) = (N : Int) := by split <;> omega
  have hmin' : (if (m : Int) < (n : Int) then (m : Int) else (n : Int)) = (N : Int) := by split <;> omega
  rw [← hN]
  clear a1 a2 b1 b2 hC hn hm hN
  go_enter Tryz.func66, Tryz.ntmps66
  go_wp2
  go_loopw [5, 6, 12] (fun s _ i wr => ∃ k : Nat, k ≤ N ∧ i = .int .i64 k ∧ s = .int .i64 (csum A B k) ∧ ∃ nq, wr = w.drewN nq) (fun _ _ i _ => N - (intOf i).toNat)
  case atStart => exact ⟨0, Nat.zero_le _, rfl, rfl, ⟨0, rfl⟩⟩
  case round =>
    obtain ⟨k, hk, rfl, rfl, nq, rfl⟩ := hrel
    by_cases hlt : k < N
    · have hkA : k < A.length := by have := Hn.out; omega
      have hkB : k < B.length := by have := Hm.out; omega
      cases ao with
      | none => have := (A1.out rfl).1; subst this; simp at hkA
      | some p =>
        cases bo with
        | none => have := (B1.out rfl).1; subst this; simp at hkB
        | some q =>
          obtain ⟨b1, o1, rfl, d1⟩ := A2.out p rfl (by intro e; subst e; simp at hkA)
          obtain ⟨b2, o2, rfl, d2⟩ := B2.out q rfl (by intro e; subst e; simp at hkB)
          have c1 := d1 k hkA
          have c2 := d2 k hkB
          clear d1 d2
          have x1 := HC.out.1 k hkA
          have x2 := HC.out.2 k hkB
          have p := prod_bd _ _ x1.1 x1.2 x2.1 x2.2
          have sb := csum_bd A B HC.out k (by omega) (by omega)
          have k1 : (k : Int) < (n : Int) := by omega
          have k2 : (k : Int) < (m : Int) := by omega
          have k3 : (k : Int) < (N : Int) := by omega
          have k4 : (k : Int) ≤ 400 := by omega
          have HW : Hid (wrap64 (csum A B k + wrap64 (A.getD k 0 * B.getD k 0)) = csum A B (k + 1)) := by
            unfold Hid
            rw [wrap64_id (A.getD k 0 * B.getD k 0) (by omega) (by omega), wrap64_id _ (by omega) (by omega)]
            rfl
          generalize A.getD k 0 = x at *
          generalize B.getD k 0 = y at *
          generalize csum A B k = s at *
          generalize hs' : csum A B (k + 1) = s' at *
          have HK := hidden hs'
          clear hs'
          clear p sb
          go_wp2
          go_quiet (fail)
          go_wp2
          go_roundw
          case rel => exact ⟨k + 1, by omega, by go_num, by rw [HW.out, HK.out], ⟨_, rfl⟩⟩
          case measure => simp [intOf]; omega
    · have e : k = N := by omega
      subst e
      have hd : ¬ (k : Int) < (k : Int) := by omega
      go_wp2
      go_ret
      exact ⟨rfl, _, rfl⟩

end Go.Proofs.YtcgjmkcigmmjjaaGreatDoor

namespace Go.Proofs.YtcgjmkcigmmjjaaGreatDoor
open Go.RowKit
set_option maxRecDepth 100000
theorem stS_pos (n : Nat) : n + 5 ≤ stS n := by unfold stS stB; omega

theorem stS_le (n : Nat) (h : n ≤ 1000000000) : stS n ≤ 1000200000 := by unfold stS stB; omega

theorem storedCost_any {B0 : Nat} {b : Nat} {tv : Value} {la : Bool} {g1 g2 : Nat} {ts : List Tk} {fl fd : Nat → Int} {m : Nat} (ao : Option Addr) (n cap : Nat) (w : World) (h : Bk B0 w b tv (.slice ao n cap) la g1 g2 ts fl fd m) (hn : n ≤ 1000000000) :
    Calls Tryz.prog 34 #[.pointer (some ⟨b, 0, none⟩)] w fun e w' => e = .returned (.int .i64 (8 * (stS n : Int) - 1)) ∧ w' = w := by
  have c1 := h.c1
  have HS := hidden (storedSize_any n hn w)
  have hp := stS_pos n
  have hq := stS_le n hn
  generalize stS n = s at *
  have w1 : IntKind.i64.wrap (8 * (s : Int)) = 8 * (s : Int) := wrap_i64_id _ (by omega) (by omega)
  have w2 : IntKind.i64.wrap (8 * (s : Int) - 3) = 8 * (s : Int) - 3 := wrap_i64_id _ (by omega) (by omega)
  have w3 : IntKind.i64.wrap (8 * (s : Int) - 3 - 5) = 8 * (s : Int) - 3 - 5 := wrap_i64_id _ (by omega) (by omega)
  have w4 : IntKind.i64.wrap (8 * (s : Int) - 3 - 5 + 7) = 8 * (s : Int) - 3 - 5 + 7 := wrap_i64_id _ (by omega) (by omega)
  have v1 : wrap64 (8 * (s : Int)) = 8 * (s : Int) := wrap64_id _ (by omega) (by omega)
  have v2 : wrap64 (8 * (s : Int) - 3) = 8 * (s : Int) - 3 := wrap64_id _ (by omega) (by omega)
  have v3 : wrap64 (8 * (s : Int) - 3 - 5) = 8 * (s : Int) - 3 - 5 := wrap64_id _ (by omega) (by omega)
  have v4 : wrap64 (8 * (s : Int) - 3 - 5 + 7) = 8 * (s : Int) - 3 - 5 + 7 := wrap64_id _ (by omega) (by omega)
  clear h hp hq hn
  go_enter Tryz.func34, Tryz.ntmps34
  go_wp2_with fail
  refine HS.out.mono ?_
  rintro e w2 ⟨rfl, rfl⟩
  go_wp2
  go_ret
  refine ⟨?_, rfl⟩
  show Ending.returned (.int .i64 (8 * (s : Int) - 3 - 5 + 7)) = _
  rw [show 8 * (s : Int) - 3 - 5 + 7 = 8 * (s : Int) - 1 by omega]

set_option maxHeartbeats 2000000 in
/-- What the symbols of a block cost. -/
theorem blockCost_any {B0 : Nat} {b k : Nat} {tv rv : Value} {la : Bool} {g1 g2 : Nat} {ts : List Tk} {fl fd : Nat → Int} {m : Nat} (w : World) (h : Bk B0 w b tv rv la g1 g2 ts fl fd m) (O1 O2 L D : List Int) (h1 : O1.length = 286) (h2 : O2.length = 30) (e1 : ∀ k, k < 286 → O1.getD k 0 = fl k) (e2 : ∀ k, k < 30 → O2.getD k 0 = fd k)
    (hk : Book w k L D) (lL : L.length ≤ 400) (lD : D.length ≤ 400) (C1 : Cb O1 L) (C2 : Cb O2 D) (s1 : 0 ≤ csum O1 L (min O1.length L.length) ∧ csum O1 L (min O1.length L.length) ≤ 1000000000) (s2 : 0 ≤ csum O2 D (min O2.length D.length) ∧ csum O2 D (min O2.length D.length) ≤ 1000000000) (hm : m ≤ 1000000000) :
    Calls Tryz.prog 35 #[.pointer (some ⟨b, 0, none⟩), .pointer (some ⟨k, 0, none⟩)] w fun e w' => e = .returned (.int .i64 (csum O1 L (min O1.length L.length) + csum O2 D (min O2.length D.length) + (m : Int))) ∧ ∃ q, w' = w.drewN q := by
  obtain ⟨vl, ul, vd, ud, hv, r1, _, r3, _⟩ := hk.at'
  have b0 := (hv 0 _ rfl).1
  have b2 := (hv 2 _ rfl).1
  have c3 := h.c3
  have c4 := h.c4
  have c5 := h.c5
  have HC1 := hidden (fun q => cost_any (.slice (some ⟨g1, 0, none⟩) 286 286) vl O1 L (w.drewN q) ((h.la'.ri h1 (Nat.le_refl _) e1).drewN q) (r1.drewN q) (by omega) lL C1)
  have HC2 := hidden (fun q => cost_any (.slice (some ⟨g2, 0, none⟩) 30 30) vd O2 D (w.drewN q) ((h.da.ri h2 (Nat.le_refl _) e2).drewN q) (r3.drewN q) (by omega) lD C2)
  generalize csum O1 L (min O1.length L.length) = x1 at *
  generalize csum O2 D (min O2.length D.length) = x2 at *
  have w1 : IntKind.i64.wrap (x1 + x2) = x1 + x2 := wrap_i64_id _ (by omega) (by omega)
  have w2 : IntKind.i64.wrap (x1 + x2 + (m : Int)) = x1 + x2 + (m : Int) := wrap_i64_id _ (by omega) (by omega)
  have v1 : wrap64 (x1 + x2) = x1 + x2 := wrap64_id _ (by omega) (by omega)
  have v2 : wrap64 (x1 + x2 + (m : Int)) = x1 + x2 + (m : Int) := wrap64_id _ (by omega) (by omega)
  obtain ⟨al, cl, e⟩ := Ri.slice r1
  subst e
  obtain ⟨ad, cd, e⟩ := Ri.slice r3
  subst e
  generalize L.length = nl at *
  generalize D.length = nd at *
  clear h hv r1 r3 hk s1 s2 hm
  go_enter Tryz.func35, Tryz.ntmps35
  go_upto_region 1 with fail
  go_quiet ((go_at_call 66; with_reducible (first | exact Calls.quiet_of (HC1.out _) | exact Calls.quiet_of (HC2.out _))))
  go_wp2
  go_ret
  exact ⟨rfl, _, rfl⟩

end Go.Proofs.YtcgjmkcigmmjjaaGreatDoor

namespace Go.Proofs.YtcgjmkcigmmjjaaGreatDoor
open Go.RowKit
set_option maxRecDepth 100000
theorem spB_le (xs : List Sp) (h : ∀ x ∈ xs, x.b ≤ 7) : ∀ i, spB (xs.take i) ≤ 7 * i := by
  intro i
  induction i with
  | zero => simp [spB]
  | succ i ih =>
    cases hx : xs[i]? with
    | none =>
      have : xs.take (i + 1) = xs.take i := by rw [List.take_add_one, hx]; simp
      rw [this]; omega
    | some x =>
      rw [spB_take xs i x hx]
      have := h x (List.mem_of_getElem? hx)
      omega

set_option maxHeartbeats 2000000 in
theorem headingCost_any (w : World) (p a d k : Nat) (xs : List Sp) (O C : List Int) (h : Hd w p a d k xs O C) (lO : O.length ≤ 400) (lC : C.length ≤ 400) (CB : Cb O C) (s1 : 0 ≤ csum O C (min O.length C.length) ∧ csum O C (min O.length C.length) ≤ 1000000000) (hk : k ≤ 19) (hn : xs.length ≤ 400) (hb : ∀ x ∈ xs, x.b ≤ 7) :
    Calls Tryz.prog 36 #[.pointer (some ⟨p, 0, none⟩)] w fun e w' => e = .returned (.int .i64 (14 + 3 * (k : Int) + csum O C (min O.length C.length) + (spB xs : Int))) ∧ Step (fun _ => False) w w' := by
  obtain ⟨sv, ov, vl, vu, hv, ho, r1, r2, _⟩ := h.at'
  have c2 := (hv 2 _ rfl).1
  have c3 := (hv 3 _ rfl).1
  have c4 := (hv 4 _ rfl).1
  have c5 := (hv 5 _ rfl).1
  have HC := hidden (fun q => cost_any ov vl O C (w.drewN q) (r1.drewN q) (r2.drewN q) lO lC CB)
  obtain ⟨so, sc, hso⟩ := row3_form spC xs ho
  obtain ⟨oo, oc, e⟩ := Ri.slice r1
  subst e
  obtain ⟨lo, lc, e⟩ := Ri.slice r2
  subst e
  subst hso
  have HO := hidden (fun i x hx => row3_at (T := 89) spC spC_len xs ho i x hx)
  have HB := hidden (spB_le xs hb)
  have HX := hidden hb
  have Hn := hidden hn
  generalize csum O C (min O.length C.length) = x1 at *
  obtain ⟨n, hn2⟩ : ∃ n, xs.length = n := ⟨_, rfl⟩
  have HL := hidden hn2
  rw [hn2] at c3 HO hn
  obtain ⟨z, hz⟩ : ∃ z : Int, 14 + 3 * (k : Int) + x1 = z := ⟨_, rfl⟩
  have z1 : 0 ≤ z ∧ z ≤ 1000000071 := by omega
  have Hz := hidden hz
  have Hz1 := hidden z1
  have w1 : IntKind.i64.wrap (3 * (k : Int)) = 3 * (k : Int) := wrap_i64_id _ (by omega) (by omega)
  have w2 : IntKind.i64.wrap (14 + 3 * (k : Int)) = 14 + 3 * (k : Int) := wrap_i64_id _ (by omega) (by omega)
  have w3 : IntKind.i64.wrap (14 + 3 * (k : Int) + x1) = 14 + 3 * (k : Int) + x1 := wrap_i64_id _ (by omega) (by omega)
  have v1 : wrap64 (3 * (k : Int)) = 3 * (k : Int) := wrap64_id _ (by omega) (by omega)
  have v2 : wrap64 (14 + 3 * (k : Int)) = 14 + 3 * (k : Int) := wrap64_id _ (by omega) (by omega)
  have v3 : wrap64 (14 + 3 * (k : Int) + x1) = 14 + 3 * (k : Int) + x1 := wrap64_id _ (by omega) (by omega)
  generalize O.length = nO at *
  generalize C.length = nC at *
  have HS0 := hidden (Step.refl (fun _ => False) w)
  clear h hv ho r1 r2 hn2 hz z1 s1 hb lO lC CB
  go_enter Tryz.func36, Tryz.ntmps36
  go_upto_region 1 with fail
  go_quiet ((go_at_call 66; with_reducible exact Calls.quiet_of (HC.out _)))
  rw [Hz.out]
  clear w1 w2 w3 v1 v2 v3 HC
  go_wp2
  go_loopw [3, 28] (fun av iv wr => ∃ i : Nat, iv = .int .i64 (i : Int) ∧ i ≤ n ∧ av = .int .i64 (z + (spB (xs.take i) : Int)) ∧ Hid (Step (fun _ => False) w wr)) (fun _ iv _ => n - (RowKit.intOf iv).toNat)
  case atStart => exact ⟨0, rfl, Nat.zero_le _, by simp [spB], by first | exact HS0.out | exact HS0.out.drewN _ | exact hidden (HS0.out.drewN _)⟩
  case round =>
    obtain ⟨i, rfl, hi, rfl, HS⟩ := hrel
    by_cases hin : i < n
    · have i1 : (i : Int) < (n : Int) := by omega
      have i0 : (0 : Int) ≤ (i : Int) := by omega
      obtain ⟨x, hx⟩ : ∃ x, xs[i]? = some x := ⟨xs[i]'(by rw [HL.out]; exact hin), List.getElem?_eq_getElem _⟩
      obtain ⟨g, cap, hg, hr⟩ := HO.out i x hx
      injection hg with hg1 hg2 hg3
      subst hg1
      subst hg3
      have HR := hidden (show wr.rangeAt g (3 * i) [.int .i64 (x.s : Int), .int .i64 (x.m : Int), .int .i64 (x.b : Int)] from fun j v hj => HS.out.cell (hr j v hj) (fun h => h))
      have HTK := hidden (spB_take xs i x hx)
      have hb1 := HB.out i
      have hb2 := HX.out x (List.mem_of_getElem? hx)
      have hz1 := Hz1.out
      have hn400 := Hn.out
      rw [HL.out] at hn400
      obtain ⟨sb, hsb⟩ : ∃ sb, spB (xs.take i) = sb := ⟨_, rfl⟩
      rw [hsb] at hb1 HTK
      have HE3 := hidden (show wrap64 (z + (sb : Int) + (x.b : Int)) = z + ((sb + x.b : Nat) : Int) by
        rw [show z + (sb : Int) + (x.b : Int) = z + ((sb + x.b : Nat) : Int) by omega]
        exact wrap64_id _ (by omega) (by omega))
      rw [hsb]
      obtain ⟨W2, hW2⟩ : ∃ W2, wr.alloc (.cells #[.int .i64 0, .int .i64 0, .int .i64 0] 89) = W2 := ⟨_, rfl⟩
      obtain ⟨B2, hB2⟩ : ∃ B2, wr.heap.size = B2 := ⟨_, rfl⟩
      have HV2 := hidden (show Sv W2 B2 (spL 0 0 0) by rw [← hW2, ← hB2]; exact Sv.new wr _ _)
      have HS2 := hidden (show Step (fun _ => False) w W2 by rw [← hW2]; exact HS.out.alloc _)
      have HB2 := hidden (show w.heap.size ≤ B2 by rw [← hB2]; exact HS.out.size)
      have t0 : wr.cell? ⟨g, i * 3, none⟩ = some (.int .i64 (x.s : Int)) := by rw [Nat.mul_comm]; exact HR.out 0 _ rfl
      have t1 : wr.cell? ⟨g, i * 3 + 1, none⟩ = some (.int .i64 (x.m : Int)) := by rw [Nat.mul_comm]; exact HR.out 1 _ rfl
      have t2 : wr.cell? ⟨g, i * 3 + 2, none⟩ = some (.int .i64 (x.b : Int)) := by rw [Nat.mul_comm]; exact HR.out 2 _ rfl
      clear hr hx hb1 hb2 hz1 hn400 hsb
      go_wp2_with (refine store_sv B2 (spL 0 0 0) (spL x.s x.m x.b) rfl Tryz.infoSp (spL_one _ _ _) rfl rfl HV2.out ?_)
      intro w3 S3 V3
      have u2 := (V3 2 _ rfl).1
      have HS3 := hidden (HS2.out.trans S3 (fun i hi => .inr (by have := HB2.out; omega)))
      clear S3 V3 HV2 HS2 hW2 hB2 t0 t1 t2 HR
      go_wp2
      rw [HE3.out]
      go_roundw
      case rel => exact ⟨i + 1, by go_num, by omega, by rw [HTK.out], HS3.out⟩
      case measure => simp [RowKit.intOf]; omega
    · have hie : i = n := by omega
      have i1 : ¬ ((i : Int) < (n : Int)) := by omega
      subst hie
      go_wp2
      go_ret
      refine ⟨?_, HS.out⟩
      rw [Hz.out, show xs.take i = xs by rw [← HL.out]; exact List.take_length]
      rfl

end Go.Proofs.YtcgjmkcigmmjjaaGreatDoor

namespace Go.Proofs.YtcgjmkcigmmjjaaGreatDoor
open Go.RowKit
set_option maxRecDepth 100000
def LA (ts : List Tk) : List Int := rowOf (lcf ts) 286

def DA (ts : List Tk) : List Int := rowOf (cD ts) 30

def SA (xs : List Sp) : List Int := rowOf (cS xs) 19

theorem LA_len (ts : List Tk) : (LA ts).length = 286 := rowOf_len _ _

theorem DA_len (ts : List Tk) : (DA ts).length = 30 := rowOf_len _ _

theorem SA_len (xs : List Sp) : (SA xs).length = 19 := rowOf_len _ _

theorem lensOf_len (O D : List Int) (m : Nat) : (lensOf O D m).length = O.length := by simp [lensOf]

/-- A block's own codes and their heading. -/
structure Ow (ts : List Tk) (D1 D2 D3 : List Int) (a d k : Nat) (xs : List Sp) : Prop where
  u1 : Used (LA ts) D1 15
  u2 : Used (DA ts) D2 15
  u3 : Used (SA xs) D3 7
  sp : Sps [] xs ((lensOf (LA ts) D1 15).take a ++ (lensOf (DA ts) D2 15).take d)
  gp : Gps ((lensOf (LA ts) D1 15).take a ++ (lensOf (DA ts) D2 15).take d) 0 xs
  ha : 257 ≤ a ∧ a ≤ 286 ∧ (∀ i, a ≤ i → (lensOf (LA ts) D1 15).getD i 0 = 0) ∧ (a = 257 ∨ ¬ (lensOf (LA ts) D1 15).getD (a - 1) 0 = 0)
  hd : 1 ≤ d ∧ d ≤ 30 ∧ (∀ i, d ≤ i → (lensOf (DA ts) D2 15).getD i 0 = 0) ∧ (d = 1 ∨ ¬ (lensOf (DA ts) D2 15).getD (d - 1) 0 = 0)
  hk : 4 ≤ k ∧ k ≤ 19 ∧ (∀ i, k ≤ i → i < 19 → (lensOf (SA xs) D3 7).getD (ord i) 0 = 0) ∧ (k = 4 ∨ ¬ (lensOf (SA xs) D3 7).getD (ord (k - 1)) 0 = 0)

theorem trim_uniq {L : List Int} {a b m : Nat} (ha : m ≤ a ∧ (∀ i, a ≤ i → L.getD i 0 = 0) ∧ (a = m ∨ ¬ L.getD (a - 1) 0 = 0)) (hb : m ≤ b ∧ (∀ i, b ≤ i → L.getD i 0 = 0) ∧ (b = m ∨ ¬ L.getD (b - 1) 0 = 0)) : a = b := by
  rcases Nat.lt_trichotomy a b with h | h | h
  · rcases hb.2.2 with e | e
    · omega
    · exact absurd (ha.2.1 (b - 1) (by omega)) e
  · exact h
  · rcases ha.2.2 with e | e
    · omega
    · exact absurd (hb.2.1 (a - 1) (by omega)) e

/-- There is one such heading alone. -/
theorem Ow.uniq {ts : List Tk} {D1 D2 D3 D1' D2' D3' : List Int} {a d k a' d' k' : Nat} {xs xs' : List Sp} (h : Ow ts D1 D2 D3 a d k xs) (h' : Ow ts D1' D2' D3' a' d' k' xs') : D1 = D1' ∧ D2 = D2' ∧ D3 = D3' ∧ a = a' ∧ d = d' ∧ k = k' ∧ xs = xs' := by
  obtain rfl := h.u1.uniq h'.u1
  obtain rfl := h.u2.uniq h'.u2
  obtain rfl := trim_uniq ⟨h.ha.1, h.ha.2.2⟩ ⟨h'.ha.1, h'.ha.2.2⟩
  obtain rfl := trim_uniq ⟨h.hd.1, h.hd.2.2⟩ ⟨h'.hd.1, h'.hd.2.2⟩
  obtain rfl := h.gp.det h'.gp
  obtain rfl := h.u3.uniq h'.u3
  refine ⟨rfl, rfl, rfl, rfl, rfl, ?_, rfl⟩
  have h1 := h.hk
  have h2 := h'.hk
  rcases Nat.lt_trichotomy k k' with e | e | e
  · rcases h2.2.2.2 with q | q
    · omega
    · exact absurd (h1.2.2.1 (k' - 1) (by omega) (by omega)) q
  · exact e
  · rcases h1.2.2.2 with q | q
    · omega
    · exact absurd (h2.2.2.1 (k - 1) (by omega) (by omega)) q

theorem Used.bd' {O D : List Int} {m : Nat} (h : Used O D m) (i : Nat) : 0 ≤ (lensOf O D m).getD i 0 ∧ (lensOf O D m).getD i 0 ≤ m := by
  by_cases hi : i < O.length
  · have := h.bounds hi
    exact ⟨this.1, this.2.1⟩
  · rw [List.getD_eq_getElem?_getD, List.getElem?_eq_none (by rw [lensOf_len]; omega)]
    simp

theorem Ow.len {ts : List Tk} {D1 D2 D3 : List Int} {a d k : Nat} {xs : List Sp} (h : Ow ts D1 D2 D3 a d k xs) : 1 ≤ xs.length ∧ xs.length ≤ 316 := by
  have h1 := h.sp.len
  have e1 : ((lensOf (LA ts) D1 15).take a ++ (lensOf (DA ts) D2 15).take d).length = a + d := by
    rw [List.length_append, List.length_take, List.length_take, lensOf_len, lensOf_len, LA_len, DA_len]
    have := h.ha; have := h.hd; omega
  rw [e1, List.length_nil] at h1
  have := h.ha; have := h.hd
  refine ⟨?_, by omega⟩
  cases xs with
  | nil =>
    have := h.sp
    generalize hB : (lensOf (LA ts) D1 15).take a ++ (lensOf (DA ts) D2 15).take d = B at *
    cases this
    simp at e1
    omega
  | cons x xs => simp

theorem Ow.steps {ts : List Tk} {D1 D2 D3 : List Int} {a d k : Nat} {xs : List Sp} (h : Ow ts D1 D2 D3 a d k xs) : ∀ x ∈ xs, 0 < (lensOf (SA xs) D3 7).getD x.s 0 := fun x hx => by
  have h1 := (h.sp.in' x hx).2.1
  exact (h.u3.bounds (i := x.s) (by rw [SA_len]; exact h1)).2.2.1 (by unfold SA; rw [rowOf_getD _ _ _ h1]; exact cS_pos hx)

/-- What each kind costs. -/
def kF (ts : List Tk) : Int := csum (LA ts) FL 286 + csum (DA ts) FD0 30 + (mB ts : Int)

def kO (ts : List Tk) (D1 D2 D3 : List Int) (k : Nat) (xs : List Sp) : Int := 14 + 3 * (k : Int) + csum (SA xs) (lensOf (SA xs) D3 7) 19 + (spB xs : Int) + (csum (LA ts) (lensOf (LA ts) D1 15) 286 + csum (DA ts) (lensOf (DA ts) D2 15) 30 + (mB ts : Int))

def kS (n : Nat) : Int := 8 * (stS n : Int) - 1

/-- What is laid of a block, the only one. -/
def layPs (ts : List Tk) (P : List Nat) (D1 D2 D3 : List Int) (a d k : Nat) (xs : List Sp) : List (Nat × Nat) :=
  if kF ts ≤ kS P.length ∧ kF ts ≤ kO ts D1 D2 D3 k xs then fixPs ts
  else if kO ts D1 D2 D3 k xs ≤ kS P.length then ownPs (lensOf (LA ts) D1 15) (lensOf (DA ts) D2 15) (lensOf (SA xs) D3 7) a d k xs ts
  else stC [] P true (stB P.length)

theorem FL_bd (i : Nat) : 0 ≤ FL.getD i 0 ∧ FL.getD i 0 ≤ 15 := by
  have h := ((okB_iff FL).1 (newErr_codes FL FL_ok).2.1).2
  by_cases hi : i < FL.length
  · have := h (FL.getD i 0) (by rw [getD_i FL i hi]; exact List.getElem_mem hi)
    omega
  · rw [List.getD_eq_getElem?_getD, List.getElem?_eq_none (by omega)]
    simp

theorem FD0_bd (i : Nat) : 0 ≤ FD0.getD i 0 ∧ FD0.getD i 0 ≤ 15 := by
  unfold FD0
  rw [List.getD_eq_getElem?_getD, List.getElem?_replicate]
  split <;> simp

theorem rowOf_bd {f : Nat → Int} {n : Nat} {B : Int} (h : ∀ k, 0 ≤ f k ∧ f k ≤ B) (hB : 0 ≤ B) (k : Nat) : 0 ≤ (rowOf f n).getD k 0 ∧ (rowOf f n).getD k 0 ≤ B := by
  by_cases hk : k < n
  · rw [rowOf_getD _ _ _ hk]; exact h k
  · rw [List.getD_eq_getElem?_getD, List.getElem?_eq_none (by rw [rowOf_len]; omega)]
    exact ⟨Int.le_refl 0, hB⟩

theorem LA_bd (ts : List Tk) (k : Nat) : 0 ≤ (LA ts).getD k 0 ∧ (LA ts).getD k 0 ≤ (ts.length : Int) + 1 := rowOf_bd (fun k => lcf_bd ts k) (by omega) k

theorem DA_bd (ts : List Tk) (k : Nat) : 0 ≤ (DA ts).getD k 0 ∧ (DA ts).getD k 0 ≤ (ts.length : Int) := rowOf_bd (fun k => cD_bd ts k) (by omega) k

theorem SA_bd (xs : List Sp) (k : Nat) : 0 ≤ (SA xs).getD k 0 ∧ (SA xs).getD k 0 ≤ (xs.length : Int) := rowOf_bd (fun k => cS_bd xs k) (by omega) k

theorem cost_L {ts : List Tk} (ht : ts.length ≤ 20000) {L : List Int} (hL : ∀ k, 0 ≤ L.getD k 0 ∧ L.getD k 0 ≤ 15) : 0 ≤ csum (LA ts) L 286 ∧ csum (LA ts) L 286 ≤ 100000000 := by
  have := csum_le (LA ts) L _ (LA_bd ts) hL 286
  refine ⟨this.1, Int.le_trans this.2 ?_⟩
  have : ((286 : Nat) : Int) = 286 := rfl
  omega

theorem cost_D {ts : List Tk} (ht : ts.length ≤ 20000) {L : List Int} (hL : ∀ k, 0 ≤ L.getD k 0 ∧ L.getD k 0 ≤ 15) : 0 ≤ csum (DA ts) L 30 ∧ csum (DA ts) L 30 ≤ 100000000 := by
  have := csum_le (DA ts) L _ (DA_bd ts) hL 30
  refine ⟨this.1, Int.le_trans this.2 ?_⟩
  have : ((30 : Nat) : Int) = 30 := rfl
  omega

theorem cost_S {xs : List Sp} (ht : xs.length ≤ 400) {L : List Int} (hL : ∀ k, 0 ≤ L.getD k 0 ∧ L.getD k 0 ≤ 15) : 0 ≤ csum (SA xs) L 19 ∧ csum (SA xs) L 19 ≤ 100000000 := by
  have := csum_le (SA xs) L _ (SA_bd xs) hL 19
  refine ⟨this.1, Int.le_trans this.2 ?_⟩
  have : ((19 : Nat) : Int) = 19 := rfl
  omega

theorem cb_L (ts : List Tk) (ht : ts.length ≤ 20000) {L : List Int} (hL : ∀ k, 0 ≤ L.getD k 0 ∧ L.getD k 0 ≤ 15) : Cb (LA ts) L := cb_row _ _ (ts.length + 1) L (fun k _ => lcf_bd ts k) (by omega) (fun k _ => hL k)

theorem cb_D (ts : List Tk) (ht : ts.length ≤ 20000) {L : List Int} (hL : ∀ k, 0 ≤ L.getD k 0 ∧ L.getD k 0 ≤ 15) : Cb (DA ts) L := cb_row _ _ ts.length L (fun k _ => cD_bd ts k) (by omega) (fun k _ => hL k)

theorem cb_S (xs : List Sp) (ht : xs.length ≤ 400) {L : List Int} (hL : ∀ k, 0 ≤ L.getD k 0 ∧ L.getD k 0 ≤ 15) : Cb (SA xs) L := cb_row _ _ xs.length L (fun k _ => cS_bd xs k) (by omega) (fun k _ => hL k)

theorem tksP_0 {ts : List Tk} (hts : ∀ x ∈ ts, tkIn x) : tksP FL FD0 ts = tksP FL FD ts := by
  induction ts with
  | nil => rfl
  | cons t ts ih =>
    have e : tkP FL FD0 t = tkP FL FD t := by
      unfold tkP
      by_cases hn : t.n = 0
      · rw [if_pos hn, if_pos hn]
      · rw [if_neg hn, if_neg hn]
        have := hts t (by simp)
        unfold tkIn at this
        rw [FD0_cd _ (dsS_lt t.d (by omega) (by omega))]
    have := ih (fun x hx => hts x (by simp [hx]))
    unfold tksP at *
    rw [List.flatMap_cons, List.flatMap_cons, e, this]

end Go.Proofs.YtcgjmkcigmmjjaaGreatDoor
