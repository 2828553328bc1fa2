/-
  The page's own Writer: Code, Align, Raw.
-/
import Derived.Test.YtelengfdbhambaaRefW
import Derived.Deep.LoopGhost
namespace Go.Proofs.Ytelengfdbhambaa
open Go.RowKit

set_option maxHeartbeats 400000 in
theorem xcode_no (b : Nat) (v n : Int) (w : World) (h : fitB v n 15 = false) : Calls Try.prog 14 #[.pointer (some ⟨b, 0, none⟩), .int .i64 v, .int .i64 n] w fun e w' => e = .returned (.int .i64 1) ∧ w' = w := by
  rcases fitB_cases (by omega) h with h1 | ⟨h1, h2⟩ | ⟨h1, h2, h3⟩ | ⟨h1, h2, h3, h4, h5⟩
  all_goals
    clear h
    go_enter Try.func14, Try.ntmps14
    go_wp2
    go_ret
    exact ⟨rfl, rfl⟩

set_option maxHeartbeats 1000000 in
theorem xcode_ok (b : Nat) (s : Value) (N L v n : Nat) (w : World) (h : Wx w b s N L) (hn : n ≤ 15) (hv : v < 2 ^ n) (hL : L ≤ 1000000000) :
    Calls Try.prog 14 #[.pointer (some ⟨b, 0, none⟩), .int .i64 v, .int .i64 n] w fun e w' => e = .returned (.int .i64 0) ∧ WroteX w w' b s (N + rv v n n * 2 ^ L) (L + n) := by
  obtain ⟨i0, hi, hz0, hz1, hz2⟩ := info_parts Try.info5
  have hv2 : v < 16777216 := Nat.lt_of_lt_of_le hv (pow_le_24 n (by omega))
  have hw : wrap64 (2 ^ n) = 2 ^ n := wrap64_id _ (by have := ipow_pos n; omega) (by have := ipow_le_24 n (by omega); omega)
  have h1 : (v : Int) < 2 ^ n := by
    have : ((2 ^ n : Nat) : Int) = (2 : Int) ^ n := by simp
    omega
  have hn15 : (n : Int) ≤ 15 := by omega
  have H := hidden h
  clear h hv
  go_enter Try.func14, Try.ntmps14
  go_wp2
  go_loopw [7] (fun i wr => ∃ j : Nat, j ≤ n ∧ i = .int .i64 ((n : Int) - (j : Int) - 1) ∧ WroteX w wr b s (N + rv v n j * 2 ^ L) (L + j)) (fun i _ => (intOf i + 1).toNat)
  case atStart => exact ⟨0, Nat.zero_le _, by simp, s, by simpa [rv] using H.out, Step.refl _ _, .inl rfl⟩
  case round =>
    obtain ⟨j, hj, rfl, s', W, St, Wh⟩ := hrel
    by_cases hlt : j < n
    · have c0 := W.out
      have f0 := W.f0
      obtain ⟨ao, cap, hs⟩ := own_slice W.own
      obtain ⟨m, hm, hm1⟩ : ∃ m : Nat, n - 1 - j = m ∧ (n : Int) - (j : Int) - 1 = (m : Int) := ⟨n - 1 - j, rfl, by omega⟩
      have hbit := bit_form' v m hv2
      have hz : v / 2 ^ m % 2 < 2 := Nat.mod_lt _ (by omega)
      have HW := hidden W
      have hfin : Hid (∀ w', WroteX wr w' b s' (N + rv v n j * 2 ^ L + v / 2 ^ m % 2 * 2 ^ (L + j)) (L + j + 1) → WroteX w w' b s (N + rv v n (j + 1) * 2 ^ L) (L + (j + 1))) := by
        intro w' h
        have R := WroteX.after St Wh h
        have e : N + rv v n j * 2 ^ L + v / 2 ^ m % 2 * 2 ^ (L + j) = N + rv v n (j + 1) * 2 ^ L := by
          simp only [rv, hm]
          rw [Nat.pow_add, Nat.add_mul, Nat.add_assoc]
          congr 2
          ac_rfl
        rw [e] at R
        exact R
      have HO := hidden W.own
      rw [hs] at c0 HO
      rw [hm1]
      have Hm1 := hidden hm1
      have hm15 : m ≤ 14 := by omega
      generalize hzz : v / 2 ^ m % 2 = z at *
      have Hs := hidden hs
      have hz1' : (z : Int) ≤ 1 := by omega
      clear W St Wh hs hzz hm hm1
      go_wp2_with (at_builtin; refine wpList_append_at _ rfl (.tmp 35) (.tmp 42) 27 rfl 5 i0 (.int .u8 0) 1 1 Try.underlying27 hi hz0 hz1 hz2 rfl (by decide) _ _ _ rfl (HO.out.alloc _) ⟨wr.heap.size, 0, none⟩ 1 1 [.int .u8 z] rfl rfl ?c1 ?c2 ?c3 ?c4 ?_)
      case c1 => exact cell_one_new _ _ _
      case c2 => intro u hu; simp at hu; subst hu; rfl
      case c3 => unfold maxLen; omega
      case c4 => omega
      intro v' w1 hown' hgrow hnil hv'
      rw [← Hs.out] at hgrow hv'
      obtain ⟨d0, d1, R⟩ := HW.out.push hz hown' hgrow hv'
      obtain ⟨ao', cap', hvv⟩ := own_slice hown'
      have HF := hidden (hfin.out _ R)
      rw [hvv] at HF
      rw [hvv]
      clear hown' hgrow hnil hv' R hvv hfin
      go_wp2
      go_roundw
      case rel => exact ⟨j + 1, by omega, by have := Hm1.out; congr 1; omega, HF.out⟩
      case measure => simp [intOf]
    · have hdn : j = n := by omega
      subst hdn
      have H2 := hidden (show WroteX w wr b s (N + rv v j j * 2 ^ L) (L + j) from ⟨s', W, St, Wh⟩)
      have hneg : ((j : Int) - (j : Int) - 1) = -1 := by omega
      rw [hneg]
      clear W St Wh hneg
      go_wp2
      go_ret
      exact ⟨rfl, H2.out⟩

set_option maxHeartbeats 1000000 in
theorem xalign_w (b : Nat) (s : Value) (N L : Nat) (w : World) (h : Wx w b s N L) (hL : L ≤ 1000000000) :
    Calls Try.prog 16 #[.pointer (some ⟨b, 0, none⟩)] w fun e w' => e = .returned (.tuple #[]) ∧ WroteX w w' b s N (up8 L) := by
  obtain ⟨i0, hi, hz0, hz1, hz2⟩ := info_parts Try.info5
  have H := hidden h
  clear h
  go_enter Try.func16, Try.ntmps16
  go_wp2
  go_loopg [] (up8 L - L) (fun k wr => ∃ d : Nat, d + k = up8 L - L ∧ WroteX w wr b s N (L + d))
  case atStart => exact ⟨0, by omega, s, H.out, Step.refl _ _, .inl rfl⟩
  case round =>
    obtain ⟨d, hd, s', W, St, Wh⟩ := hrel
    have hu : up8 L = (L + 7) / 8 * 8 := rfl
    have c0 := W.out
    have f0 := W.f0
    obtain ⟨ao, cap, hs⟩ := own_slice W.own
    have HW := hidden W
    have HO := hidden W.own
    rw [hs] at c0 HO
    have Hs := hidden hs
    by_cases hlt : (L + d) % 8 = 0
    · have hdu : Hid (L + d = up8 L) := by show _ = _; omega
      have hm : (((L + d : Nat) : Int) % 8 != 0) = false := by simp; omega
      have H2 := hidden (show WroteX w wr b s N (up8 L) by rw [← hdu.out]; exact ⟨s', W, St, Wh⟩)
      generalize L + d = T at *
      clear W St Wh hs hu hd
      go_wp2
      go_end0
      exact ⟨rfl, H2.out⟩
    · have hm : (((L + d : Nat) : Int) % 8 != 0) = true := by rw [bne_iff_ne]; omega
      have hfin : Hid (∀ w', WroteX wr w' b s' (N + 0 * 2 ^ (L + d)) (L + d + 1) → WroteX w w' b s N (L + (d + 1))) := by
        intro w' h
        have R := WroteX.after St Wh h
        simpa [Nat.add_assoc] using R
      have Hd := hidden hd
      have hT : L + d ≤ 1000000010 := by omega
      have Hn := hidden (show d < up8 L - L by omega)
      generalize hTT : L + d = T at *
      clear W St Wh hs hu hTT hd
      go_wp2_with (at_builtin; refine wpList_append_at _ rfl (.tmp 13) (.tmp 14) 27 rfl 5 i0 (.int .u8 0) 1 1 Try.underlying27 hi hz0 hz1 hz2 rfl (by decide) _ _ _ rfl (HO.out.alloc _) ⟨wr.heap.size, 0, none⟩ 1 1 [.int .u8 0] rfl rfl ?c1 ?c2 ?c3 ?c4 ?_)
      case c1 => exact cell_one_new _ _ _
      case c2 => intro u hu; simp at hu; subst hu; rfl
      case c3 => unfold maxLen; omega
      case c4 => omega
      intro v' w1 hown' hgrow hnil hv'
      rw [← Hs.out] at hgrow hv'
      obtain ⟨d0, d1, R⟩ := HW.out.push (z := 0) (by omega) hown' hgrow hv'
      obtain ⟨ao', cap', hvv⟩ := own_slice hown'
      have HF := hidden (hfin.out _ R)
      rw [hvv] at HF
      rw [hvv]
      clear hown' hgrow hnil hv' R hvv hfin
      go_wp2
      go_roundg (gk - 1)
      case measure => have := Hd.out; have := Hn.out; omega
      case rel => exact ⟨d + 1, by have := Hd.out; have := Hn.out; omega, HF.out⟩

end Go.Proofs.Ytelengfdbhambaa
