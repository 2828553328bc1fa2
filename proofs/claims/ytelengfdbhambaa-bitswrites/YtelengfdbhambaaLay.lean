/-
  lay: so many bits of a number go behind those that are there.
-/
import Derived.Test.YtelengfdbhambaaLayM
import Derived.StillTailTactics
namespace Go.Proofs.Ytelengfdbhambaa
open Go.RowKit

theorem Try.mixed : Try.prog.follows .mixedOrders = true := by kernel_rfl

theorem hidden {p : Prop} (h : p) : Hid p := h

set_option maxHeartbeats 1000000 in
theorem lay_any (b : Nat) (s : Value) (N L v n : Nat) (w : World) (h : Wr w b s N L) (hn : n ≤ 24) (hv : v < 2 ^ n) (hL : L ≤ 1099511627776) :
    Calls Try.prog 36 #[.pointer (some ⟨b, 0, none⟩), .int .i64 v, .int .i64 n] w fun e w' => e = .returned (.tuple #[]) ∧ Wrote w w' b s (N + v * 2 ^ L) (L + n) := by
  obtain ⟨i0, hi, hz0, hz1, hz2⟩ := info_parts Try.info5
  go_enter Try.func36, Try.ntmps36
  go_wp2
  go_loopw [1, 2] (fun x m wr => ∃ d : Nat, d ≤ n ∧ x = .int .i64 ((v / 2 ^ d : Nat) : Int) ∧ m = .int .i64 ((n - d : Nat) : Int) ∧ Wrote w wr b s (N + (v % 2 ^ d) * 2 ^ L) (L + d))
    (fun _ m _ => (intOf m).toNat)
  case atStart => exact ⟨0, Nat.zero_le _, by simp, by simp, s, by simpa [Nat.mod_one] using h, Step.refl _ _, .inl rfl⟩
  case round =>
    obtain ⟨d, hd, rfl, rfl, s', W, St, Wh⟩ := hrel
    by_cases hlt : d < n
    · have hlt' : (0 : Int) < ((n - d : Nat) : Int) := by omega
      obtain ⟨m, hm, hm24, hm1⟩ : ∃ m : Nat, n - d = m ∧ m ≤ 24 ∧ 1 ≤ m := ⟨_, rfl, by omega, by omega⟩
      obtain ⟨x, hx, hx24⟩ : ∃ x : Nat, v / 2 ^ d = x ∧ x < 16777216 := ⟨_, rfl, Nat.lt_of_le_of_lt (Nat.div_le_self _ _) (Nat.lt_of_lt_of_le hv (pow_le_24 n hn))⟩
      obtain ⟨f, hf, hf1, hf8⟩ : ∃ f : Nat, 8 - (L + d) % 8 = f ∧ 1 ≤ f ∧ f ≤ 8 := ⟨_, rfl, by omega, by omega⟩
      obtain ⟨q, hq, hq1, hq2⟩ : ∃ q : Nat, (L + d) / 8 + 1 = q ∧ 1 ≤ q ∧ q ≤ 137438953600 := ⟨_, rfl, by omega, by omega⟩
      obtain ⟨k, hk, hkf, hkm, hk1, hkk⟩ : ∃ k : Nat, (if f < m then (f : Int) else (m : Int)) = (k : Int) ∧ k ≤ f ∧ k ≤ m ∧ 1 ≤ k ∧ (k = f ∨ k = m) := by
        by_cases hmf : f < m
        · exact ⟨f, by simp [hmf], by omega, by omega, by omega, .inl rfl⟩
        · exact ⟨m, by simp [hmf], by omega, by omega, by omega, .inr rfl⟩
      have hq3 : (0 : Int) ≤ (q : Int) - 1 := by omega
      have hq4 : (q : Int) - 1 < (q : Int) := by omega
      have hq8 : (1 : Int) ≤ (q : Int) := by omega
      have hq5 : ((q : Int) - 1).toNat = q - 1 := by omega
      have hq6 : IntKind.i64.wrap ((q : Int) - 1) = (q : Int) - 1 := wrap_i64_id _ (by omega) (by omega)
      have hq7 : IntKind.i64.wrap ((8 : Int) - (f : Int)) = (8 : Int) - (f : Int) := wrap_i64_id _ (by omega) (by omega)
      have hsh : ((8 : Int) - (f : Int)).toNat = 8 - f := by omega
      have hlow := hidden (fun wx => lowest_any x k wx (by omega) (by omega) (by omega) (by omega))
      have hfin : Hid (∀ w2 g cap, Wm w2 b g cap (N + (v % 2 ^ d) * 2 ^ L) (L + d) → Step (Of b s) w w2 → (s.ownBlock = some g ∨ w.heap.size ≤ g) →
          (∃ d', d' ≤ n ∧ Value.int IntKind.i64 ((x : Int) / 2 ^ k) = Value.int IntKind.i64 ((v / 2 ^ d' : Nat) : Int) ∧ Value.int IntKind.i64 ((m : Int) - (k : Int)) = Value.int IntKind.i64 ((n - d' : Nat) : Int) ∧
            Wrote w (((w2.setCell ⟨g, q - 1, none⟩ (.int .u8 (bits BinOp.or IntKind.u8 (((N + (v % 2 ^ d) * 2 ^ L) / 2 ^ (8 * (q - 1)) % 256 : Nat) : Int) (wrap64 ((x : Int) % 2 ^ k * 2 ^ (8 - f)) % 256)))).setCell ⟨b, 1, none⟩ (.int .i64 ((f : Int) - (k : Int)))).drew) b s (N + (v % 2 ^ d') * 2 ^ L) (L + d'))) := by
        intro w2 g cap Wx Sx hgx
        refine ⟨d + k, by omega, ?_, ?_, ?_⟩
        · rw [← hx, Nat.pow_add, ← Nat.div_div_eq_div_mul]; simp
        · congr 1; omega
        · have eq1 : q - 1 = (L + d) / 8 := by omega
          have ef : 8 - f = (L + d) % 8 := by omega
          have R := Wx.wrote Sx hgx (x := x % 2 ^ k) (k := k) (Nat.mod_lt _ (Nat.two_pow_pos _)) hk1 (by omega) _ (or_form _ x k ((L + d) % 8) (Nat.mod_lt _ (by omega)) (by omega) (by omega)) ((f : Int) - (k : Int)) (by omega)
          rw [eq1, ef]
          rw [← hx, num_step, Nat.add_assoc] at R
          rw [← hx]
          exact R
      have Hm := hidden hm
      have Hx := hidden hx
      have Hf := hidden hf
      have Hq := hidden hq
      have Hk := hidden hkk
      rw [hm, hx]
      rw [hm] at hlt'
      by_cases hfr : (L + d) % 8 = 0
      · have c0 := W.out
        have c1 := W.free
        have f0 := W.f0
        have f1 := W.f1
        have e0 : (8 - (L + d) % 8) % 8 = 0 := by omega
        rw [e0] at c1
        have hf8' : f = 8 := by omega
        have Hfr := hidden hfr
        have HW := hidden W
        have HS := hidden St
        have HWh := hidden Wh
        have hlen : (L + d + 7) / 8 + 1 ≤ 137438953600 := by omega
        clear W Wh St hm hx hf hq hkk hfr hd hlt
        subst hf8'
        go_wp2_with (at_builtin; refine wpList_append_at _ rfl (.tmp 18) (.tmp 19) 27 rfl 5 i0 (.int .u8 0) 1 1 Try.underlying27 hi hz0 hz1 hz2 rfl (by decide) _ _ _ rfl (HW.out.own.alloc _) ⟨wr.heap.size, 0, none⟩ 1 1 [.int .u8 0] rfl rfl ?c1 ?c2 ?c3 ?c4 ?_)
        case c1 => exact cell_one_new _ _ _
        case c2 => intro u hu; simp at hu; subst hu; rfl
        case c3 => unfold maxLen; omega
        case c4 => omega
        intro v' w1 hown' hgrow hnil hv'
        obtain ⟨g, cap, hv, hgb, hgg, d0, d1, d2, d3, Wx⟩ := HW.out.opened Hfr.out hown' hgrow hv'
        have hc2 := Wx.cell
        have hf2 := Wx.frozen
        have eq1 : (L + d) / 8 = q - 1 := by have := Hq.out; omega
        rw [eq1] at hc2 hf2
        rw [World.cell?_setCell_other _ _ _ _ (fun e => hgb (congrArg Addr.block e).symm), World.cell?_setCell_other _ _ _ _ (fun e => hgb (congrArg Addr.block e).symm)] at hc2
        have hc3 := hc2
        have hf3 : w1.frozen? ⟨g, q - 1, none⟩ = false := by simpa using hf2
        have hgs : Hid (s.ownBlock = some g ∨ w.heap.size ≤ g) := by
          have hsz := HS.out.size
          rcases HWh.out with h | ⟨k', h, h'⟩
          · rw [← h]; rcases hgg with h2 | h2
            · exact .inl h2
            · exact .inr (by omega)
          · rcases hgg with h2 | h2
            · right; rw [h] at h2; have := Option.some.inj h2; omega
            · exact .inr (by omega)
        have HS2 := hidden (show Step (Of b s) w ((w1.setCell ⟨b, 0, none⟩ v').setCell ⟨b, 1, none⟩ (.int .i64 8)) from
          (((HS.out.alloc _).grown hgrow (fun k hk => by
            rcases HWh.out with h | ⟨k', h, h'⟩
            · exact .inl (.inr (by rw [← h]; exact hk))
            · exact .inr (by rw [h] at hk; have := Option.some.inj hk; omega))).setCell _ _ (.inl (.inl rfl))).setCell _ _ (.inl (.inl rfl)))
        have HWx := hidden Wx
        have hqq : (L + d) / 8 + 1 = q := Hq.out
        rw [hqq] at hv
        rw [hv] at HWx HS2
        rw [hv]
        have hk8 : (if (8 : Int) < (m : Int) then (8 : Int) else (m : Int)) = (k : Int) := by
          rw [← hk]; split <;> split <;> first | rfl | omega
        clear Wx hc2 hf2 hown' hgrow hnil hv' hv hgg eq1 hqq hk hq7 hsh c0 c1 f0 f1
        go_wp2
        generalize ((w1.setCell ⟨b, 0, none⟩ (.slice (some ⟨g, 0, none⟩) q cap)).setCell ⟨b, 1, none⟩ (.int .i64 8)) = w2 at HWx HS2 ⊢
        have c0 := HWx.out.out
        have c1 := HWx.out.free
        have f0 := HWx.out.f0
        have f1 := HWx.out.f1
        have c2 := HWx.out.cell
        have f2 := HWx.out.frozen
        have eq2 : (L + d) / 8 = q - 1 := by have := Hq.out; omega
        have eq3 : 8 - (L + d) % 8 = 8 := by have := Hfr.out; omega
        rw [eq3] at c1
        rw [Hq.out] at c0
        rw [eq2] at c2 f2
        clear d0 d1 d2 d3 hc3 hf3 eq2 eq3 hk8
        have hw0 : IntKind.i64.wrap 0 = 0 := wrap_i64_id 0 (by omega) (by omega)
        refine wp_region_still_tail 23 Try.mixed (by kernel_rfl) ?_
        simp only [List.take_succ_cons, List.take_zero, List.drop_succ_cons, List.drop_zero]
        change wpStill _ _ (World.drew _) _ _ _
        iterate 14 still_step
        still_call (hlow.out _)
        iterate 8 still_step
        refine wpStill_nil ?_
        go_wp2
        go_roundw
        case rel =>
          have R := hfin.out w2 g cap HWx.out HS2.out hgs.out
          have e : ((x : Int) % 2 ^ k * 2 ^ (8 - 8)) = (x : Int) % 2 ^ k := by simp
          rw [e] at R
          exact R
        case measure => simp [intOf]; omega
      · obtain ⟨g, cap, hs, Wx⟩ := W.toWm hfr
        have hgs : Hid (s.ownBlock = some g ∨ w.heap.size ≤ g) := by
          rcases Wh with h | ⟨k', h, h'⟩
          · left; rw [← h, hs]; rfl
          · right; rw [hs] at h; simp only [Value.ownBlock, Option.some.injEq] at h; omega
        have c0 := Wx.out
        have c1 := Wx.free
        have f0 := Wx.f0
        have f1 := Wx.f1
        have c2 := Wx.cell
        have f2 := Wx.frozen
        have hgb := Wx.ne
        have HW := hidden Wx
        have HS := hidden St
        have eq1 : (L + d) / 8 = q - 1 := by omega
        rw [hf] at c1
        rw [hq] at c0
        rw [eq1] at c2 f2
        clear W Wh Wx St hs hm hx hf hq hkk hfr eq1 hd hlt
        go_wp2
        refine wp_region_still_tail 23 Try.mixed (by kernel_rfl) ?_
        simp only [List.take_succ_cons, List.take_zero, List.drop_succ_cons, List.drop_zero]
        change wpStill _ _ (World.drew _) _ _ _
        iterate 14 still_step
        still_call (hlow.out _)
        iterate 8 still_step
        refine wpStill_nil ?_
        go_wp2
        go_roundw
        case rel => exact hfin.out _ _ _ HW.out HS.out hgs.out
        case measure => simp [intOf]; omega
    · have hdn : d = n := by omega
      subst hdn
      have H := hidden (show Wrote w wr b s (N + v * 2 ^ L) (L + d) by
        have e : v % 2 ^ d = v := Nat.mod_eq_of_lt hv
        rw [e] at W; exact ⟨s', W, St, Wh⟩)
      clear W St Wh hlt
      go_wp2
      go_end0
      exact ⟨rfl, H.out⟩

end Go.Proofs.Ytelengfdbhambaa
