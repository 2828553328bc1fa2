/-
  The walk of the law on what is laid and read again.
-/
import Derived.Test.YtelengfdbhambaaBackM
namespace Go.Proofs.Ytelengfdbhambaa
open Go.RowKit

/-- The i-th number of bits, and the i-th number. -/
def kOf (z1 : List Int) (i : Nat) : Nat := (bits .and .i64 (z1.getD i 0) ((1023 : Nat) : Int)).toNat % 25
def xOf (z0 z1 : List Int) (i : Nat) : Nat := (bits .and .i64 (z0.getD i 0) ((2 ^ kOf z1 i - 1 : Nat) : Int)).toNat

theorem kOf_le (z1 : List Int) (i : Nat) : kOf z1 i ≤ 24 := by unfold kOf; omega
theorem xOf_lt (z0 z1 : List Int) (i : Nat) : xOf z0 z1 i < 2 ^ kOf z1 i := by
  have h1 := pow_le_24 _ (kOf_le z1 i)
  have h2 := Nat.two_pow_pos (kOf z1 i)
  obtain ⟨x, hx, hl⟩ := and_small (z0.getD i 0) (2 ^ kOf z1 i - 1) (by omega)
  unfold xOf
  rw [hx]
  omega

theorem back_facts (z0 z1 : List Int) (k : Nat) : ∃ y : Nat, bits BinOp.and IntKind.i64 (z1.getD k 0) 1023 = (y : Int) ∧ y ≤ 1023 ∧ (y : Int) % 25 = ((kOf z1 k : Nat) : Int) ∧
    bits BinOp.and IntKind.i64 (z0.getD k 0) (2 ^ kOf z1 k - 1) = ((xOf z0 z1 k : Nat) : Int) ∧ wrap64 (2 ^ kOf z1 k) = 2 ^ kOf z1 k ∧ wrap64 (2 ^ kOf z1 k - 1) = 2 ^ kOf z1 k - 1 := by
  obtain ⟨y, hy, hy2⟩ := and_small (z1.getD k 0) 1023 (by omega)
  have hkk := kOf_le z1 k
  have hp1 := ipow_pos (kOf z1 k)
  have hp2 := ipow_le_24 (kOf z1 k) hkk
  have hq1 := Nat.two_pow_pos (kOf z1 k)
  have hq2 := pow_le_24 (kOf z1 k) hkk
  obtain ⟨x, hx, hx2⟩ := and_small (z0.getD k 0) (2 ^ kOf z1 k - 1) (by omega)
  have hcast : ((2 ^ kOf z1 k - 1 : Nat) : Int) = 2 ^ kOf z1 k - 1 := by rw [Int.natCast_sub (by omega)]; simp
  refine ⟨y, hy, hy2, ?_, ?_, wrap64_id _ (by omega) (by omega), wrap64_id _ (by omega) (by omega)⟩
  · have : kOf z1 k = y % 25 := by unfold kOf; rw [hy]; simp
    rw [this]; simp
  · have : xOf z0 z1 k = x := by unfold xOf; rw [hx]; simp
    rw [this, ← hcast, hx]

set_option maxHeartbeats 400000 in
theorem back_out (a0 a1 : Option Addr) (l0 l1 c0 c1 : Nat) (w : World) (h0 : l0 ≤ 9223372036854775807) (h1 : l1 ≤ 9223372036854775807) (h : ¬ (l0 ≤ 300 ∧ l1 ≤ 300)) :
    Calls Try.prog 5 #[.slice a0 l0 c0, .slice a1 l1 c1] w fun e w' => e = .returned (.bool true) ∧ Below w.heap.size w w' := by
  by_cases g : 300 < l0
  · go_enter Try.func5, Try.ntmps5
    go_wp2
    go_ret
    exact ⟨rfl, Below.refl _ _⟩
  · have g2 : 300 < l1 := by omega
    clear h
    go_enter Try.func5, Try.ntmps5
    go_wp2
    go_ret
    exact ⟨rfl, Below.refl _ _⟩

set_option maxHeartbeats 400000 in
theorem back_in (a0 a1 : Option Addr) (l0 l1 c0 c1 : Nat) (z0 z1 : List Int) (w : World) (h0 : l0 ≤ 300) (h1 : l1 ≤ 300) (r0 : RowI w a0 l0 z0) (r1 : RowI w a1 l1 z1) :
    Calls Try.prog 5 #[.slice a0 l0 c0, .slice a1 l1 c1] w fun e w' => e = .returned (.bool true) ∧ Below w.heap.size w w' := by
  obtain ⟨i0, hi, hz0, hz1, hz2⟩ := info_parts Try.info3
  have R0 := hidden r0
  have R1 := hidden r1
  clear r0 r1
  go_enter Try.func5, Try.ntmps5
  go_wp2_with fail
  refine (new_ok _).mono ?_
  rintro e w0 ⟨rfl, W0, S0⟩
  have HM0 := hidden (show Made w w0 w.heap.size (.slice none 0 0) (.slice none 0 0) (.slice none 0 0) (xOf z0 z1) (kOf z1) 0 0 0 from
    ⟨W0, World.ownsRow_nil _ _ _ _, World.ownsRow_nil _ _ _ _, S0, Nat.le_refl _, fun k hk => (by simp [Value.ownBlock] at hk), fun k hk => (by simp [Value.ownBlock] at hk), fun k hk => (by simp [Value.ownBlock] at hk)⟩)
  clear S0 W0
  go_wp2_with fail
  go_loopw [6, 7, 8] (fun va vc i wr => ∃ k : Nat, k ≤ l0 ∧ k ≤ l1 ∧ i = .int .i64 k ∧ ∃ s, Made w wr w.heap.size s va vc (xOf z0 z1) (kOf z1) k k k) (fun _ _ i _ => 300 - (intOf i).toNat)
  case atStart => exact ⟨0, Nat.zero_le _, Nat.zero_le _, rfl, _, HM0.out⟩
  case round =>
    obtain ⟨k, hk0, hk1, rfl, s, M⟩ := hrel
    have HM := hidden M
    by_cases hlt : k < l0 ∧ k < l1
    · obtain ⟨g0, g1⟩ := hlt
      obtain ⟨b0, o0, rfl, hc0⟩ := (R0.out.step M.st) (by omega)
      obtain ⟨b1, o1, rfl, hc1⟩ := (R1.out.step M.st) (by omega)
      have cx := hc0 k g0
      have cy := hc1 k g1
      obtain ⟨y, hy, hy2, hky, hx, hw1, hw2⟩ := back_facts z0 z1 k
      have hkk := kOf_le z1 k
      have Hxx := hidden (xOf_lt z0 z1 k)
      have HLL := hidden (LL_le (kOf z1) 24 (k + 1) (fun j _ => kOf_le z1 j) k (by omega))
      clear hc0 hc1 M
      generalize z0.getD k 0 = zx at hx cx
      generalize z1.getD k 0 = zy at hy cy
      generalize hxq : xOf z0 z1 k = xq at hx
      generalize hkq : kOf z1 k = kq at hky hx hw1 hw2 hkk
      have Hkq := hidden hkq
      have Hxq := hidden hxq
      clear hkq hxq
      have HLL2 := hidden (show LL (kOf z1) k ≤ 1099511627776 by have := HLL.out; omega)
      have hxk : Hid (xq < 2 ^ kq) := by have := Hxx.out; rw [Hxq.out, Hkq.out] at this; exact this
      have Hnext : Hid (∀ w1, Wrote wr w1 w.heap.size s (NN (xOf z0 z1) (kOf z1) k + xq * 2 ^ LL (kOf z1) k) (LL (kOf z1) k + kq) → ∃ s', Made w w1 w.heap.size s' u6 u7 (xOf z0 z1) (kOf z1) (k + 1) k k) := by
        intro w1 h
        refine HM.out.put ?_
        rw [← Hxq.out, ← Hkq.out] at h
        exact h
      go_wp2_with fail
      refine (put_ok w.heap.size s _ _ xq kq _ HM.out.W (by omega) hxk.out HLL2.out).mono ?_
      rintro e w1 ⟨rfl, hW1⟩
      obtain ⟨s1, M1⟩ := Hnext.out w1 hW1
      have HM1 := hidden M1
      clear M1 hW1 Hnext HM
      go_wp2_with (at_builtin; refine wpList_append_at _ rfl (.tmp 58) (.tmp 60) 57 rfl 3 i0 (.int .i64 0) 1 8 Try.underlying57 hi hz0 hz1 hz2 rfl (by decide) _ _ _ rfl (HM1.out.a.alloc _) ⟨w1.heap.size, 0, none⟩ 1 1 [.int .i64 xq] rfl rfl ?c1 ?c2 ?c3 ?c4 ?_)
      case c1 => exact cell_one_new _ _ _
      case c2 => intro u hu; simp at hu; subst hu; rfl
      case c3 => unfold maxLen; omega
      case c4 => omega
      intro va' w2 hown' hgrow hnil hv'
      have M2 := HM1.out.appA (by rw [Hxq.out]; exact hown') hgrow hv'
      have HM2 := hidden M2
      clear M2 hown' hgrow hnil hv' HM1
      go_wp2_with (at_builtin; refine wpList_append_at _ rfl (.tmp 62) (.tmp 64) 57 rfl 3 i0 (.int .i64 0) 1 8 Try.underlying57 hi hz0 hz1 hz2 rfl (by decide) _ _ _ rfl (HM2.out.c.alloc _) ⟨w2.heap.size, 0, none⟩ 1 1 [.int .i64 kq] rfl rfl ?d1 ?d2 ?d3 ?d4 ?_)
      case d1 => exact cell_one_new _ _ _
      case d2 => intro u hu; simp at hu; subst hu; rfl
      case d3 => unfold maxLen; omega
      case d4 => omega
      intro vc' w3 hown' hgrow hnil hv'
      have M3 := HM2.out.appC (by rw [Hkq.out]; exact hown') hgrow hv'
      have HM3 := hidden M3
      clear M3 hown' hgrow hnil hv' HM2
      go_wp2
      go_roundw
      case rel => exact ⟨k + 1, by omega, by omega, by go_num, s1, HM3.out⟩
      case measure => simp [intOf]; omega
    · obtain ⟨n, hn0⟩ : ∃ n, n = k := ⟨_, rfl⟩
      subst hn0
      clear M
      obtain ⟨wA, rfl⟩ : ∃ wA, wA = wr := ⟨_, rfl⟩
      have hor : ¬ ((n : Int) < (l0 : Int)) ∨ ((n : Int) < (l0 : Int) ∧ ¬ ((n : Int) < (l1 : Int))) := by omega
      have hLL := hidden (LL_le (kOf z1) 24 n (fun j _ => kOf_le z1 j) n (Nat.le_refl _))
      obtain ⟨aoA, capA, hA⟩ := own_slice HM.out.a
      obtain ⟨aoC, capC, hC⟩ := own_slice HM.out.c
      have HA := hidden hA
      have HC := hidden hC
      rw [hA, hC]
      have hXK : Hid (∀ j, j < n → xOf z0 z1 j < 2 ^ kOf z1 j) := fun j _ => xOf_lt z0 z1 j
      clear hA hC hlt
      rcases hor with hq | ⟨hq, hq2⟩
      all_goals
        go_wp2_with fail
        refine (bytes_any w.heap.size s _ _ _ HM.out.W (by have := hLL.out; omega)).mono ?_
        rintro e w1 ⟨v1, rfl, W1, T1, H1⟩
        have HT1 := hidden T1
        have HR1 := hidden (Rd.of_own W1)
        clear W1 T1 H1
        go_wp2_with fail
        refine (of_any _ _ _ _ HR1.out (by have := hLL.out; omega)).mono ?_
        rintro e w2 ⟨b2, s2, rfl, R2, T2, H2, H2'⟩
        have HT2 := hidden (HT1.out.made T2)
        have HR2 := hidden R2
        have Hb2 := hidden (show wA.heap.size ≤ b2 from Nat.le_trans HT1.out.size H2)
        clear R2 T2 H2 H2'
        generalize hm : (LL (kOf z1) n + 7) / 8 = m at *
        have Hm := hidden hm
        have hm3 : m ≤ 137438953600 := by have := hLL.out; omega
        clear hm
        go_wp2_with fail
        go_loopw [12] (fun i wx => ∃ k : Nat, k ≤ n ∧ i = .int .i64 k ∧ Took w2 wx b2 s2 (NN (xOf z0 z1) (kOf z1) n) m (LL (kOf z1) k)) (fun i _ => n - (intOf i).toNat)
        case atStart => exact ⟨0, Nat.zero_le _, rfl, HR2.out, Step.refl _ _⟩
        case round =>
          obtain ⟨k, hk, rfl, R, St⟩ := hrel
          by_cases hkn : k < n
          · obtain ⟨gA, rfl, oA⟩ := own_cell HM.out.a HA.out k hkn
            obtain ⟨gC, rfl, oC⟩ := own_cell HM.out.c HC.out k hkn
            have Sx : Step (fun i => i = b2) wA wr := (HT2.out.mono (fun _ h => h.elim)).trans St (fun i hi => .inl hi)
            have oa := owns_step HM.out.a Sx (fun i hi e => by have := (HM.out.a.lt i hi).2; have := Hb2.out; omega)
            have oc := owns_step HM.out.c Sx (fun i hi e => by have := (HM.out.c.lt i hi).2; have := Hb2.out; omega)
            rw [HA.out] at oa
            rw [HC.out] at oc
            have ca := oa.cellAt k (by omega)
            have cc := oc.cellAt k (by omega)
            rw [i64r_get? _ _ _ hkn] at ca cc
            have hg := NN_get (xOf z0 z1) (kOf z1) n hXK.out k n hkn (Nat.le_refl _)
            have hmo := LL_mono (kOf z1) (k + 1) n (by omega)
            have hkk := kOf_le z1 k
            have HG : Hid (Calls Try.prog 27 #[.pointer (some ⟨b2, 0, none⟩), .int .i64 ((kOf z1 k : Nat) : Int)] wr fun e w' => e = .returned (.tuple #[.int .i64 ((xOf z0 z1 k : Nat) : Int), .int .i64 0]) ∧ Took w2 w' b2 s2 (NN (xOf z0 z1) (kOf z1) n) m (LL (kOf z1) (k + 1)) ∧ w'.cell? ⟨gA, k, none⟩ = some (.int .i64 ((xOf z0 z1 k : Nat) : Int))) := by
              refine (get_ok b2 s2 _ m _ (kOf z1 k) wr R hm3 hkk (by have := Hm.out; simp only [LL] at hmo; omega)).mono ?_
              rintro e w' ⟨rfl, hT⟩
              rw [hg]
              exact ⟨rfl, ⟨hT.1, St.trans hT.2 (fun i hi => .inl hi)⟩, hT.2.cell ca (fun e => by have := (HM.out.a.lt _ oA).2; have := Hb2.out; have : gA = b2 := e; omega)⟩
            clear R St Sx oa oc hg hmo oA oC hkk
            have k1 : (k : Int) < (n : Int) := by omega
            generalize hxq : xOf z0 z1 k = xq at ca HG
            generalize hkq : kOf z1 k = kq at cc HG
            clear hxq hkq
            go_wp2_with (go_at_call 27; refine HG.out.mono ?_; rintro e w' ⟨rfl, hT, hcl⟩; have HT' := hidden hT; clear hT)
            go_roundw
            case rel => exact ⟨k + 1, by omega, by go_num, HT'.out⟩
            case measure => simp [intOf]; omega
          · have hkn2 : k = n := by omega
            subst hkn2
            have HR := hidden R
            have HS := hidden (HM.out.st.made (HT2.out.trans St (fun i hi => .inr (by have := Hb2.out; omega))))
            clear R St
            have h8 : ((8 * m - LL (kOf z1) k : Nat) : Int) < 8 := by have := Hm.out; omega
            go_wp2_with (first | (go_at_call 33; refine (left_any b2 s2 _ m _ _ HR.out hm3).mono ?_; rintro e w' ⟨rfl, q, rfl⟩) | (go_at_call 25; refine (known_any _).mono ?_; rintro e w' ⟨rfl, hs⟩; have HK := hidden hs; clear hs))
            go_ret
            exact ⟨rfl, ((HS.out.drewN _).made HK.out).below _ (Nat.le_refl _) (fun _ h => h.elim)⟩

end Go.Proofs.Ytelengfdbhambaa
