/-
  rarestFirst: the symbols that come at all, the rarest first.
-/
import Derived.Test.YtcgjmkcigmmjjaaGreatDoorBkD
import Derived.StillTailTactics
import Derived.BigRegion

namespace Go.Proofs.YtcgjmkcigmmjjaaGreatDoor
open Go.RowKit
set_option maxRecDepth 100000
set_option maxHeartbeats 400000 in
theorem fits_any (v n m : Int) (w : World) (hm : m ≤ 24) :
    Calls Tryz.prog 79 #[.int .i64 v, .int .i64 n, .int .i64 m] w fun e w' => e = .returned (.bool (fitB v n m)) ∧ w' = w := by
  by_cases h1 : 0 ≤ n
  · by_cases h2 : n ≤ m
    · by_cases h3 : 0 ≤ v
      · have hw : wrap64 (2 ^ n.toNat) = 2 ^ n.toNat := wrap64_id _ (by have := ipow_pos n.toNat; omega) (by have := ipow_le_24 n.toNat (by omega); omega)
        rw [fitB_eq h1 h2 h3]
        go_enter Tryz.func79, Tryz.ntmps79
        go_wp2
        go_ret
        exact ⟨rfl, rfl⟩
      · rw [fitB_no (by omega)]
        go_enter Tryz.func79, Tryz.ntmps79
        go_wp2
        go_ret
        exact ⟨rfl, rfl⟩
    · rw [fitB_no (by omega)]
      go_enter Tryz.func79, Tryz.ntmps79
      go_wp2
      go_ret
      exact ⟨rfl, rfl⟩
  · rw [fitB_no (by omega)]
    go_enter Tryz.func79, Tryz.ntmps79
    go_wp2
    go_ret
    exact ⟨rfl, rfl⟩

set_option maxHeartbeats 400000 in
theorem wnew_any (w : World) :
    Calls Tryz.prog 16 #[] w fun e w' => e = .returned (.pointer (some ⟨w.heap.size, 0, none⟩)) ∧ w' = w.alloc (.cells #[.slice none 0 0, .int .i64 0] 54) := by
  go_enter Tryz.func16, Tryz.ntmps16
  go_wp2
  go_ret
  exact ⟨rfl, rfl⟩

/-- The Writer in block b, whose bytes are the slice s, has laid L bits, the number N. -/
structure Wr (w : World) (b : Nat) (s : Value) (N L : Nat) : Prop where
  out : w.cell? ⟨b, 0, none⟩ = some s
  free : w.cell? ⟨b, 1, none⟩ = some (.int .i64 (((8 - L % 8) % 8 : Nat) : Int))
  f0 : w.frozen? ⟨b, 0, none⟩ = false
  f1 : w.frozen? ⟨b, 1, none⟩ = false
  own : w.ownsRow 0 5 1 s ((L + 7) / 8) (u8s (bytesOf N ((L + 7) / 8)))
  ne : s.ownBlock ≠ some b
  lt : N < 2 ^ L

/-- What a call on such a Writer leaves. -/
def Wrote (w w' : World) (b : Nat) (s : Value) (N L : Nat) : Prop :=
  ∃ s', Wr w' b s' N L ∧ Step (Of b s) w w' ∧ (s'.ownBlock = s.ownBlock ∨ ∃ k, s'.ownBlock = some k ∧ w.heap.size ≤ k)

/-- A Writer whose last byte has room. -/
structure Wm (w : World) (b g cap N L : Nat) : Prop where
  out : w.cell? ⟨b, 0, none⟩ = some (.slice (some ⟨g, 0, none⟩) (L / 8 + 1) cap)
  free : w.cell? ⟨b, 1, none⟩ = some (.int .i64 ((8 - L % 8 : Nat) : Int))
  f0 : w.frozen? ⟨b, 0, none⟩ = false
  f1 : w.frozen? ⟨b, 1, none⟩ = false
  own : w.ownsRow 0 5 1 (.slice (some ⟨g, 0, none⟩) (L / 8 + 1) cap) (L / 8 + 1) (u8s (bytesOf N (L / 8 + 1)))
  ne : g ≠ b
  lt : N < 2 ^ L

theorem Wr.slice {w : World} {b : Nat} {s : Value} {N L : Nat} (W : Wr w b s N L) (h : 0 < L) : ∃ g cap, s = .slice (some ⟨g, 0, none⟩) ((L + 7) / 8) cap ∧ g ≠ b := by
  rcases W.own.2 with ⟨_, h0⟩ | ⟨g, cap, cur, hs, _⟩
  · omega
  · refine ⟨g, cap, hs, fun e => ?_⟩
    have := W.ne
    rw [hs] at this
    exact this (by simp [Value.ownBlock, e])

theorem Wr.toWm {w : World} {b : Nat} {s : Value} {N L : Nat} (W : Wr w b s N L) (h : L % 8 ≠ 0) : ∃ g cap, s = .slice (some ⟨g, 0, none⟩) (L / 8 + 1) cap ∧ Wm w b g cap N L := by
  obtain ⟨g, cap, hs, hgb⟩ := W.slice (by omega)
  have e : (L + 7) / 8 = L / 8 + 1 := by omega
  have e2 : (8 - L % 8) % 8 = 8 - L % 8 := by omega
  have o := W.own
  have c0 := W.out
  have c1 := W.free
  rw [hs] at o c0
  rw [e] at o c0 hs
  rw [e2] at c1
  exact ⟨g, cap, hs, c0, c1, W.f0, W.f1, o, hgb, W.lt⟩

theorem Wm.cell {w : World} {b g cap N L : Nat} (W : Wm w b g cap N L) : w.cell? ⟨g, L / 8, none⟩ = some (.int .u8 ((N / 2 ^ (8 * (L / 8)) % 256 : Nat) : Int)) := by
  rw [W.own.cellAt (L / 8) (by omega), u8s_get?, bytesOf_get? _ _ _ (by omega)]
  rfl

theorem Wm.frozen {w : World} {b g cap N L : Nat} (W : Wm w b g cap N L) : w.frozen? ⟨g, L / 8, none⟩ = false := W.own.frozenAt (L / 8)

theorem set_last (bs : List Nat) (n y z : Nat) (h : bs.length = n) : (u8s (bs ++ [y])).set n (.int .u8 (z : Int)) = u8s (bs ++ [z]) := by
  subst h
  simp [u8s]

theorem Wm.store {w : World} {b g cap N L : Nat} (W : Wm w b g cap N L) {x k : Nat} (hx : x < 2 ^ k) (h1 : 1 ≤ k) (h8 : k ≤ 8 - L % 8) (y : Int) (hy : y = ((N / 2 ^ (8 * (L / 8)) % 256 ||| x * 2 ^ (L % 8) % 256 : Nat) : Int)) (z : Int) (hz : z = ((8 - L % 8 : Nat) : Int) - (k : Int)) :
    Wr ((w.setCell ⟨g, L / 8, none⟩ (.int .u8 y)).setCell ⟨b, 1, none⟩ (.int .i64 z)) b (.slice (some ⟨g, 0, none⟩) (L / 8 + 1) cap) (N + x * 2 ^ L) (L + k) := by
  have hL : 8 * (L / 8) + L % 8 = L := by omega
  have hlt := W.lt
  have hmid := byte_mid N x (L / 8) (L % 8) k (by rw [hL]; exact W.lt) hx (by omega)
  rw [hL] at hmid
  have hnb : ¬ b = g := fun e => W.ne e.symm
  have hgb : ¬ g = b := W.ne
  have st := (W.own.stored (L / 8) (.int .u8 y)).1
  have hset : (u8s (bytesOf N (L / 8 + 1))).set (L / 8) (.int .u8 y) = u8s (bytesOf (N + x * 2 ^ L) (L / 8 + 1)) := by
    rw [hy, bytesOf_succ N, bytesOf_succ (N + x * 2 ^ L), bytesOf_low N x L (L / 8) (by omega), hmid]
    exact set_last _ _ _ _ (bytesOf_length _ _)
  rw [hset] at st
  have e7 : (L + k + 7) / 8 = L / 8 + 1 := by omega
  have e8 : (8 - (L + k) % 8) % 8 = 8 - L % 8 - k := by omega
  have hS : Step (fun i => i = b) (w.setCell ⟨g, L / 8, none⟩ (.int .u8 y)) ((w.setCell ⟨g, L / 8, none⟩ (.int .u8 y)).setCell ⟨b, 1, none⟩ (.int .i64 z)) :=
    (Step.refl _ _).setCell _ _ (.inl rfl)
  refine ⟨?_, ?_, ?_, ?_, ?_, ?_, lt_of_pow hlt hx⟩
  · rw [World.cell?_setCell_other _ _ _ _ (by simp), World.cell?_setCell_other _ _ _ _ (fun e => hgb (congrArg Addr.block e))]; exact W.out
  · rw [e8, World.cell?_setCell_same _ _ _ (by rw [World.cell?_setCell_other _ _ _ _ (fun e => hgb (congrArg Addr.block e))]; exact W.free), hz]
    congr 2; omega
  · simp [W.f0]
  · simp [W.f1]
  · rw [e7]
    refine owns_step ?_ hS (fun i hi hb => ?_)
    · exact st
    · simp [Value.ownBlock] at hi; omega
  · simp [Value.ownBlock]; omega

theorem or_form (cur x k r : Nat) (hc : cur < 256) (hk : k ≤ 8) (hr : r ≤ 8) :
    bits BinOp.or IntKind.u8 (cur : Int) (wrap64 ((x : Int) % 2 ^ k * 2 ^ r) % 256) = ((cur ||| (x % 2 ^ k) * 2 ^ r % 256 : Nat) : Int) := by
  have e1 : ((x : Int) % 2 ^ k * 2 ^ r) = (((x % 2 ^ k) * 2 ^ r : Nat) : Int) := by simp
  have hx : x % 2 ^ k < 2 ^ k := Nat.mod_lt _ (Nat.two_pow_pos _)
  have h2 : (x % 2 ^ k) * 2 ^ r ≤ 2 ^ 8 * 2 ^ 8 :=
    Nat.mul_le_mul (Nat.le_trans (Nat.le_of_lt hx) (Nat.pow_le_pow_right (n := 2) (by omega) hk)) (Nat.pow_le_pow_right (n := 2) (by omega) hr)
  rw [e1, wrap64_id _ (by omega) (by omega)]
  have e2 : (((x % 2 ^ k) * 2 ^ r : Nat) : Int) % 256 = (((x % 2 ^ k) * 2 ^ r % 256 : Nat) : Int) := by simp
  rw [e2]
  exact u8_or_nat _ _ hc (Nat.mod_lt _ (by omega))

/-- What the round leaves. -/
theorem Wm.wrote {w w2 : World} {b g cap N L : Nat} {s : Value} (W : Wm w2 b g cap N L) (St : Step (Of b s) w w2) (hg : s.ownBlock = some g ∨ w.heap.size ≤ g)
    {x k : Nat} (hx : x < 2 ^ k) (h1 : 1 ≤ k) (h8 : k ≤ 8 - L % 8) (y : Int) (hy : y = ((N / 2 ^ (8 * (L / 8)) % 256 ||| x * 2 ^ (L % 8) % 256 : Nat) : Int)) (z : Int) (hz : z = ((8 - L % 8 : Nat) : Int) - (k : Int)) :
    Wrote w (((w2.setCell ⟨g, L / 8, none⟩ (.int .u8 y)).setCell ⟨b, 1, none⟩ (.int .i64 z)).drew) b s (N + x * 2 ^ L) (L + k) := by
  have R := W.store hx h1 h8 y hy z hz
  refine ⟨_, ⟨R.out, R.free, R.f0, R.f1, R.own.drew, R.ne, R.lt⟩, ?_, ?_⟩
  · refine ((St.setCell _ _ ?_).setCell _ _ ?_).drew
    · rcases hg with h | h
      · exact .inl (.inr h)
      · exact .inr h
    · exact .inl (.inl rfl)
  · rcases hg with h | h
    · left; rw [h]; rfl
    · right; exact ⟨g, rfl, h⟩

/-- A new byte, of which no bit is laid. -/
theorem Wr.opened {wr w1 : World} {o : Obj} {b : Nat} {s v' : Value} {N L : Nat} (W : Wr wr b s N L) (h0 : L % 8 = 0)
    (hown : w1.ownsRow 0 5 1 v' ((L + 7) / 8 + 1) (u8s (bytesOf N ((L + 7) / 8)) ++ [.int .u8 0])) (hgrow : (wr.alloc o).grownBy w1 s.ownBlock)
    (hv' : v'.ownBlock = s.ownBlock ∨ v'.ownBlock = some (wr.heap.size + 1)) :
    ∃ g cap, v' = .slice (some ⟨g, 0, none⟩) (L / 8 + 1) cap ∧ g ≠ b ∧ (s.ownBlock = some g ∨ wr.heap.size ≤ g) ∧ w1.cell? ⟨b, 0, none⟩ = some s ∧
      w1.cell? ⟨b, 1, none⟩ = some (.int .i64 0) ∧ w1.frozen? ⟨b, 0, none⟩ = false ∧ w1.frozen? ⟨b, 1, none⟩ = false ∧
      Wm ((w1.setCell ⟨b, 0, none⟩ v').setCell ⟨b, 1, none⟩ (.int .i64 8)) b g cap N L := by
  have hbw : b < wr.heap.size := World.block_lt_of_cell? wr _ W.out
  have e7 : (L + 7) / 8 = L / 8 := by omega
  rw [e7] at hown
  have St : Step (fun k => s.ownBlock = some k) wr w1 := ((Step.refl _ wr).alloc o).grown hgrow (fun k hk => .inl hk)
  have hnb : ¬ s.ownBlock = some b := W.ne
  have c0 := St.cell W.out hnb
  have c1 := St.cell W.free hnb
  have f0 := (St.frozen (p := ⟨b, 0, none⟩) hbw hnb).trans W.f0
  have f1 := (St.frozen (p := ⟨b, 1, none⟩) hbw hnb).trans W.f1
  have e8 : (8 - L % 8) % 8 = 0 := by omega
  have e9 : 8 - L % 8 = 8 := by omega
  rw [e8] at c1
  rcases hown.2 with ⟨_, h⟩ | ⟨g, cap, cur, hv, _⟩
  · omega
  · have hgo : v'.ownBlock = some g := by rw [hv]; rfl
    have hgb : g ≠ b := by
      intro e
      subst e
      rcases hv' with h | h
      · exact hnb (by rw [← h, hgo])
      · rw [hgo] at h; have := Option.some.inj h; omega
    have hgg : s.ownBlock = some g ∨ wr.heap.size ≤ g := by
      rcases hv' with h | h
      · left; rw [← h, hgo]
      · right; rw [hgo] at h; have := Option.some.inj h; omega
    have hb0 : u8s (bytesOf N (L / 8)) ++ [.int .u8 0] = u8s (bytesOf N (L / 8 + 1)) := by
      have hlt := W.lt
      have hL : 8 * (L / 8) = L := by omega
      rw [bytesOf_succ, u8s_append, hL, Nat.div_eq_of_lt hlt]
      rfl
    rw [hb0] at hown
    have S2 : Step (fun k => k = b) w1 ((w1.setCell ⟨b, 0, none⟩ v').setCell ⟨b, 1, none⟩ (.int .i64 8)) := ((Step.refl (fun k => k = b) w1).setCell ⟨b, 0, none⟩ v' (.inl rfl)).setCell ⟨b, 1, none⟩ (.int .i64 8) (.inl rfl)
    refine ⟨g, cap, hv, hgb, hgg, c0, c1, f0, f1, ?_, ?_, ?_, ?_, ?_, hgb, W.lt⟩
    · rw [World.cell?_setCell_other _ _ _ _ (by simp), World.cell?_setCell_same _ _ _ c0, hv]
    · rw [World.cell?_setCell_same _ _ _ (by rw [World.cell?_setCell_other _ _ _ _ (by simp)]; exact c1), e9]; rfl
    · simp [f0]
    · simp [f1]
    · rw [← hv]
      exact owns_step hown S2 (fun k hk hb => by rw [hgo] at hk; have := Option.some.inj hk; omega)

set_option maxHeartbeats 1000000 in
theorem lay_any (b : Nat) (s : Value) (N L v n : Nat) (w : World) (h : Wr w b s N L) (hn : n ≤ 24) (hv : v < 2 ^ n) (hL : L ≤ 1099511627776) :
    Calls Tryz.prog 80 #[.pointer (some ⟨b, 0, none⟩), .int .i64 v, .int .i64 n] w fun e w' => e = .returned (.tuple #[]) ∧ Wrote w w' b s (N + v * 2 ^ L) (L + n) := by
  obtain ⟨i0, hi, hz0, hz1, hz2⟩ := info_parts Tryz.info5
  go_enter Tryz.func80, Tryz.ntmps80
  go_wp2
  go_loopw [1, 2] (fun x m wr => ∃ d : Nat, d ≤ n ∧ x = .int .i64 ((v / 2 ^ d : Nat) : Int) ∧ m = .int .i64 ((n - d : Nat) : Int) ∧ Wrote w wr b s (N + (v % 2 ^ d) * 2 ^ L) (L + d))
    (fun _ m _ => (intOf m).toNat)
  case atStart => exact ⟨0, Nat.zero_le _, by simp, by simp, s, by simpa [Nat.mod_one] using h, Step.refl _ _, .inl rfl⟩
  case round =>
    obtain ⟨d, hd, rfl, rfl, s', W, St, Wh⟩ := hrel
    by_cases hlt : d < n
    · have hlt' : (0 : Int) < ((n - d : Nat) : Int) := by omega
      obtain ⟨m, hm, hm24, hm1⟩ : ∃ m : Nat, n - d = m ∧ m ≤ 24 ∧ 1 ≤ m := ⟨_, rfl, by omega, by omega⟩
      obtain ⟨x, hx, hx24⟩ : ∃ x : Nat, v / 2 ^ d = x ∧ x < 16777216 := ⟨_, rfl, Nat.lt_of_le_of_lt (Nat.div_le_self _ _) (Nat.lt_of_lt_of_le hv (pow_le_24 n hn))⟩
      obtain ⟨f, hf, hf1, hf8⟩ : ∃ f : Nat, 8 - (L + d) % 8 = f ∧ 1 ≤ f ∧ f ≤ 8 := ⟨_, rfl, by omega, by omega⟩
      obtain ⟨q, hq, hq1, hq2⟩ : ∃ q : Nat, (L + d) / 8 + 1 = q ∧ 1 ≤ q ∧ q ≤ 137438953600 := ⟨_, rfl, by omega, by omega⟩
      obtain ⟨k, hk, hkf, hkm, hk1, hkk⟩ : ∃ k : Nat, (if f < m then (f : Int) else (m : Int)) = (k : Int) ∧ k ≤ f ∧ k ≤ m ∧ 1 ≤ k ∧ (k = f ∨ k = m) := by
        by_cases hmf : f < m
        · exact ⟨f, by simp [hmf], by omega, by omega, by omega, .inl rfl⟩
        · exact ⟨m, by simp [hmf], by omega, by omega, by omega, .inr rfl⟩
      have hq3 : (0 : Int) ≤ (q : Int) - 1 := by omega
      have hq4 : (q : Int) - 1 < (q : Int) := by omega
      have hq8 : (1 : Int) ≤ (q : Int) := by omega
      have hq5 : ((q : Int) - 1).toNat = q - 1 := by omega
      have hq6 : IntKind.i64.wrap ((q : Int) - 1) = (q : Int) - 1 := wrap_i64_id _ (by omega) (by omega)
      have hq7 : IntKind.i64.wrap ((8 : Int) - (f : Int)) = (8 : Int) - (f : Int) := wrap_i64_id _ (by omega) (by omega)
      have hsh : ((8 : Int) - (f : Int)).toNat = 8 - f := by omega
      have hlow := hidden (fun wx => lowest_any x k wx (by omega) (by omega) (by omega) (by omega))
      have hfin : Hid (∀ w2 g cap, Wm w2 b g cap (N + (v % 2 ^ d) * 2 ^ L) (L + d) → Step (Of b s) w w2 → (s.ownBlock = some g ∨ w.heap.size ≤ g) →
          (∃ d', d' ≤ n ∧ Value.int IntKind.i64 ((x : Int) / 2 ^ k) = Value.int IntKind.i64 ((v / 2 ^ d' : Nat) : Int) ∧ Value.int IntKind.i64 ((m : Int) - (k : Int)) = Value.int IntKind.i64 ((n - d' : Nat) : Int) ∧
            Wrote w (((w2.setCell ⟨g, q - 1, none⟩ (.int .u8 (bits BinOp.or IntKind.u8 (((N + (v % 2 ^ d) * 2 ^ L) / 2 ^ (8 * (q - 1)) % 256 : Nat) : Int) (wrap64 ((x : Int) % 2 ^ k * 2 ^ (8 - f)) % 256)))).setCell ⟨b, 1, none⟩ (.int .i64 ((f : Int) - (k : Int)))).drew) b s (N + (v % 2 ^ d') * 2 ^ L) (L + d'))) := by
        intro w2 g cap Wx Sx hgx
        refine ⟨d + k, by omega, ?_, ?_, ?_⟩
        · rw [← hx, Nat.pow_add, ← Nat.div_div_eq_div_mul]; simp
        · congr 1; omega
        · have eq1 : q - 1 = (L + d) / 8 := by omega
          have ef : 8 - f = (L + d) % 8 := by omega
          have R := Wx.wrote Sx hgx (x := x % 2 ^ k) (k := k) (Nat.mod_lt _ (Nat.two_pow_pos _)) hk1 (by omega) _ (or_form _ x k ((L + d) % 8) (Nat.mod_lt _ (by omega)) (by omega) (by omega)) ((f : Int) - (k : Int)) (by omega)
          rw [eq1, ef]
          rw [← hx, num_step, Nat.add_assoc] at R
          rw [← hx]
          exact R
      have Hm := hidden hm
      have Hx := hidden hx
      have Hf := hidden hf
      have Hq := hidden hq
      have Hk := hidden hkk
      rw [hm, hx]
      rw [hm] at hlt'
      by_cases hfr : (L + d) % 8 = 0
      · have c0 := W.out
        have c1 := W.free
        have f0 := W.f0
        have f1 := W.f1
        have e0 : (8 - (L + d) % 8) % 8 = 0 := by omega
        rw [e0] at c1
        have hf8' : f = 8 := by omega
        have Hfr := hidden hfr
        have HW := hidden W
        have HS := hidden St
        have HWh := hidden Wh
        have hlen : (L + d + 7) / 8 + 1 ≤ 137438953600 := by omega
        clear W Wh St hm hx hf hq hkk hfr hd hlt
        subst hf8'
        go_wp2_with (at_builtin; refine wpList_append_at _ rfl (.tmp 18) (.tmp 19) 22 rfl 5 i0 (.int .u8 0) 1 1 Tryz.underlying22 hi hz0 hz1 hz2 rfl (by decide) _ _ _ rfl (HW.out.own.alloc _) ⟨wr.heap.size, 0, none⟩ 1 1 [.int .u8 0] rfl rfl ?c1 ?c2 ?c3 ?c4 ?_)
        case c1 => exact cell_one_new _ _ _
        case c2 => intro u hu; simp at hu; subst hu; rfl
        case c3 => unfold maxLen; omega
        case c4 => omega
        intro v' w1 hown' hgrow hnil hv'
        obtain ⟨g, cap, hv, hgb, hgg, d0, d1, d2, d3, Wx⟩ := HW.out.opened Hfr.out hown' hgrow hv'
        have hc2 := Wx.cell
        have hf2 := Wx.frozen
        have eq1 : (L + d) / 8 = q - 1 := by have := Hq.out; omega
        rw [eq1] at hc2 hf2
        rw [World.cell?_setCell_other _ _ _ _ (fun e => hgb (congrArg Addr.block e).symm), World.cell?_setCell_other _ _ _ _ (fun e => hgb (congrArg Addr.block e).symm)] at hc2
        have hc3 := hc2
        have hf3 : w1.frozen? ⟨g, q - 1, none⟩ = false := by simpa using hf2
        have hgs : Hid (s.ownBlock = some g ∨ w.heap.size ≤ g) := by
          have hsz := HS.out.size
          rcases HWh.out with h | ⟨k', h, h'⟩
          · rw [← h]; rcases hgg with h2 | h2
            · exact .inl h2
            · exact .inr (by omega)
          · rcases hgg with h2 | h2
            · right; rw [h] at h2; have := Option.some.inj h2; omega
            · exact .inr (by omega)
        have HS2 := hidden (show Step (Of b s) w ((w1.setCell ⟨b, 0, none⟩ v').setCell ⟨b, 1, none⟩ (.int .i64 8)) from
          (((HS.out.alloc _).grown hgrow (fun k hk => by
            rcases HWh.out with h | ⟨k', h, h'⟩
            · exact .inl (.inr (by rw [← h]; exact hk))
            · exact .inr (by rw [h] at hk; have := Option.some.inj hk; omega))).setCell _ _ (.inl (.inl rfl))).setCell _ _ (.inl (.inl rfl)))
        have HWx := hidden Wx
        have hqq : (L + d) / 8 + 1 = q := Hq.out
        rw [hqq] at hv
        rw [hv] at HWx HS2
        rw [hv]
        have hk8 : (if (8 : Int) < (m : Int) then (8 : Int) else (m : Int)) = (k : Int) := by
          rw [← hk]; split <;> split <;> first | rfl | omega
        clear Wx hc2 hf2 hown' hgrow hnil hv' hv hgg eq1 hqq hk hq7 hsh c0 c1 f0 f1
        go_wp2
        generalize ((w1.setCell ⟨b, 0, none⟩ (.slice (some ⟨g, 0, none⟩) q cap)).setCell ⟨b, 1, none⟩ (.int .i64 8)) = w2 at HWx HS2 ⊢
        have c0 := HWx.out.out
        have c1 := HWx.out.free
        have f0 := HWx.out.f0
        have f1 := HWx.out.f1
        have c2 := HWx.out.cell
        have f2 := HWx.out.frozen
        have eq2 : (L + d) / 8 = q - 1 := by have := Hq.out; omega
        have eq3 : 8 - (L + d) % 8 = 8 := by have := Hfr.out; omega
        rw [eq3] at c1
        rw [Hq.out] at c0
        rw [eq2] at c2 f2
        clear d0 d1 d2 d3 hc3 hf3 eq2 eq3 hk8
        have hw0 : IntKind.i64.wrap 0 = 0 := wrap_i64_id 0 (by omega) (by omega)
        refine wp_region_still_tail 23 Tryz.mixed (by kernel_rfl) ?_
        simp only [List.take_succ_cons, List.take_zero, List.drop_succ_cons, List.drop_zero]
        change wpStill _ _ (World.drew _) _ _ _
        iterate 14 still_step
        still_call (hlow.out _)
        iterate 8 still_step
        refine wpStill_nil ?_
        go_wp2
        go_roundw
        case rel =>
          have R := hfin.out w2 g cap HWx.out HS2.out hgs.out
          have e : ((x : Int) % 2 ^ k * 2 ^ (8 - 8)) = (x : Int) % 2 ^ k := by simp
          rw [e] at R
          exact R
        case measure => simp [intOf]; omega
      · obtain ⟨g, cap, hs, Wx⟩ := W.toWm hfr
        have hgs : Hid (s.ownBlock = some g ∨ w.heap.size ≤ g) := by
          rcases Wh with h | ⟨k', h, h'⟩
          · left; rw [← h, hs]; rfl
          · right; rw [hs] at h; simp only [Value.ownBlock, Option.some.injEq] at h; omega
        have c0 := Wx.out
        have c1 := Wx.free
        have f0 := Wx.f0
        have f1 := Wx.f1
        have c2 := Wx.cell
        have f2 := Wx.frozen
        have hgb := Wx.ne
        have HW := hidden Wx
        have HS := hidden St
        have eq1 : (L + d) / 8 = q - 1 := by omega
        rw [hf] at c1
        rw [hq] at c0
        rw [eq1] at c2 f2
        clear W Wh Wx St hs hm hx hf hq hkk hfr eq1 hd hlt
        go_wp2
        refine wp_region_still_tail 23 Tryz.mixed (by kernel_rfl) ?_
        simp only [List.take_succ_cons, List.take_zero, List.drop_succ_cons, List.drop_zero]
        change wpStill _ _ (World.drew _) _ _ _
        iterate 14 still_step
        still_call (hlow.out _)
        iterate 8 still_step
        refine wpStill_nil ?_
        go_wp2
        go_roundw
        case rel => exact hfin.out _ _ _ HW.out HS.out hgs.out
        case measure => simp [intOf]; omega
    · have hdn : d = n := by omega
      subst hdn
      have H := hidden (show Wrote w wr b s (N + v * 2 ^ L) (L + d) by
        have e : v % 2 ^ d = v := Nat.mod_eq_of_lt hv
        rw [e] at W; exact ⟨s', W, St, Wh⟩)
      clear W St Wh hlt
      go_wp2
      go_end0
      exact ⟨rfl, H.out⟩

theorem fitB_nat {v n m : Nat} (hn : n ≤ m) (hv : v < 2 ^ n) : fitB (v : Int) (n : Int) (m : Int) = true := by
  unfold fitB
  have : ((2 ^ n : Nat) : Int) = (2 : Int) ^ n := by simp
  simp only [Int.toNat_natCast, decide_eq_true_eq]
  omega

set_option maxHeartbeats 400000 in
theorem put_ok (b : Nat) (s : Value) (N L v n : Nat) (w : World) (h : Wr w b s N L) (hn : n ≤ 24) (hv : v < 2 ^ n) (hL : L ≤ 1099511627776) :
    Calls Tryz.prog 49 #[.pointer (some ⟨b, 0, none⟩), .int .i64 v, .int .i64 n] w fun e w' => e = .returned (.int .i64 0) ∧ Wrote w w' b s (N + v * 2 ^ L) (L + n) := by
  have hf : fitB (v : Int) (n : Int) 24 = true := fitB_nat (m := 24) hn hv
  have H := hidden h
  clear h
  go_enter Tryz.func49, Tryz.ntmps49
  go_wp2_with (first | (go_at_call 79; refine (fits_any _ _ _ _ (by omega)).mono ?_; rintro e w' ⟨rfl, rfl⟩) | (go_at_call 80; refine (lay_any b s N L v n _ H.out hn hv hL).mono ?_; rintro e w' ⟨rfl, hw⟩; have HW := hidden hw; clear hw))
  go_ret
  exact ⟨rfl, HW.out⟩

/-- A new Writer. -/
theorem new_wr (w : World) : Wr (w.alloc (.cells #[.slice none 0 0, .int .i64 0] 54)) w.heap.size (.slice none 0 0) 0 0 := by
  refine ⟨?_, ?_, ?_, ?_, World.ownsRow_nil _ _ _ _, by simp [Value.ownBlock], by simp⟩
  · simp
  · simp
  · simp
  · simp

theorem new_ok (w : World) : Calls Tryz.prog 16 #[] w fun e w' => e = .returned (.pointer (some ⟨w.heap.size, 0, none⟩)) ∧ Wr w' w.heap.size (.slice none 0 0) 0 0 ∧ Step (fun _ => False) w w' :=
  (wnew_any w).mono fun e w' ⟨h1, h2⟩ => ⟨h1, by rw [h2]; exact new_wr w, by rw [h2]; exact (Step.refl _ _).alloc _⟩

theorem Wr.aligned {w : World} {b : Nat} {s : Value} {N L : Nat} (W : Wr w b s N L) : Wrote w (w.setCell ⟨b, 1, none⟩ (.int .i64 0)) b s N (up8 L) := by
  have hS : Step (fun i => i = b) w (w.setCell ⟨b, 1, none⟩ (.int .i64 0)) := (Step.refl (fun i => i = b) w).setCell ⟨b, 1, none⟩ (.int .i64 0) (.inl rfl)
  have e : (up8 L + 7) / 8 = (L + 7) / 8 := by unfold up8; omega
  have e2 : (8 - up8 L % 8) % 8 = 0 := by unfold up8; omega
  refine ⟨s, ⟨?_, ?_, ?_, ?_, ?_, W.ne, ?_⟩, hS.mono (fun i h => .inl h), .inl rfl⟩
  · rw [World.cell?_setCell_other _ _ _ _ (by simp)]; exact W.out
  · rw [World.cell?_setCell_same _ _ _ W.free, e2]; rfl
  · simp [W.f0]
  · simp [W.f1]
  · rw [e]; exact owns_step W.own hS (fun k hk hb => W.ne (by rw [hk, hb]))
  · exact Nat.lt_of_lt_of_le W.lt (Nat.pow_le_pow_right (n := 2) (by omega) (by unfold up8; omega))

set_option maxHeartbeats 400000 in
theorem align_any (b : Nat) (s : Value) (N L : Nat) (w : World) (h : Wr w b s N L) :
    Calls Tryz.prog 48 #[.pointer (some ⟨b, 0, none⟩)] w fun e w' => e = .returned (.tuple #[]) ∧ Wrote w w' b s N (up8 L) := by
  have H := hidden h.aligned
  have c1 := h.free
  have f1 := h.f1
  clear h
  go_enter Tryz.func48, Tryz.ntmps48
  go_wp2
  go_end0
  exact ⟨rfl, H.out⟩

theorem Wrote.after {w w1 w2 : World} {b : Nat} {s s1 : Value} {N L : Nat} (St : Step (Of b s) w w1) (Wh : s1.ownBlock = s.ownBlock ∨ ∃ k, s1.ownBlock = some k ∧ w.heap.size ≤ k) (h : Wrote w1 w2 b s1 N L) : Wrote w w2 b s N L := by
  obtain ⟨s2, W, S2, H⟩ := h
  refine ⟨s2, W, St.trans S2 (fun i hi => ?_), ?_⟩
  · rcases hi with h | h
    · exact .inl (.inl h)
    · rcases Wh with e | ⟨k, e, hk⟩
      · exact .inl (.inr (e ▸ h))
      · rw [e] at h; have := Option.some.inj h; exact .inr (by omega)
  · rcases H with e | ⟨k, e, hk⟩
    · rw [e]; exact Wh
    · exact .inr ⟨k, e, Nat.le_trans St.size hk⟩

theorem bit_form (v m : Nat) (hv : v < 32768) : bits BinOp.and IntKind.i64 ((v : Int) / 2 ^ m) 1 = ((v / 2 ^ m % 2 : Nat) : Int) := by
  have e : ((v : Int) / 2 ^ m) = ((v / 2 ^ m : Nat) : Int) := by simp
  rw [e]
  have := Nat.div_le_self v (2 ^ m)
  rw [i64_and1 _ (Int.natCast_nonneg _) (by omega)]
  simp

set_option maxHeartbeats 1000000 in
theorem code_ok (b : Nat) (s : Value) (N L v n : Nat) (w : World) (h : Wr w b s N L) (hn : n ≤ 15) (hv : v < 2 ^ n) (hL : L ≤ 1099511627000) :
    Calls Tryz.prog 91 #[.pointer (some ⟨b, 0, none⟩), .int .i64 v, .int .i64 n] w fun e w' => e = .returned (.int .i64 0) ∧ Wrote w w' b s (N + rv v n n * 2 ^ L) (L + n) := by
  have hf : fitB (v : Int) (n : Int) 15 = true := fitB_nat (m := 15) hn hv
  have H := hidden h
  have hv2 : v < 32768 := Nat.lt_of_lt_of_le hv (Nat.pow_le_pow_right (n := 2) (by omega) hn)
  clear h
  go_enter Tryz.func91, Tryz.ntmps91
  go_wp2_with (go_at_call 79; refine (fits_any _ _ _ _ (by omega)).mono ?_; rintro e w' ⟨rfl, hw⟩; rw [hw]; clear hw w')
  go_loopw [2] (fun m wr => ∃ j : Nat, j ≤ n ∧ m = .int .i64 ((n - j : Nat) : Int) ∧ Wrote w wr b s (N + rv v n j * 2 ^ L) (L + j)) (fun m _ => (intOf m).toNat)
  case atStart => exact ⟨0, Nat.zero_le _, rfl, s, by simpa [rv] using H.out, Step.refl _ _, .inl rfl⟩
  case round =>
    obtain ⟨j, hj, rfl, s', W, St, Wh⟩ := hrel
    by_cases hlt : j < n
    · obtain ⟨m, hm, hm1⟩ : ∃ m : Nat, n - j = m + 1 ∧ m ≤ 14 := ⟨n - j - 1, by omega, by omega⟩
      rw [hm]
      have hbit := bit_form v m hv2
      have hb2 : v / 2 ^ m % 2 < 2 := Nat.mod_lt _ (by omega)
      have hfin : Hid (∀ w', Wrote wr w' b s' (N + rv v n j * 2 ^ L + v / 2 ^ m % 2 * 2 ^ (L + j)) (L + j + 1) → Wrote w w' b s (N + rv v n (j + 1) * 2 ^ L) (L + (j + 1))) := by
        intro w' h
        have R := Wrote.after St Wh h
        have em : n - 1 - j = m := by omega
        have e : N + rv v n j * 2 ^ L + v / 2 ^ m % 2 * 2 ^ (L + j) = N + rv v n (j + 1) * 2 ^ L := by
          simp only [rv, em]
          rw [Nat.pow_add, Nat.add_mul, Nat.add_assoc]
          congr 2
          ac_rfl
        rw [e] at R
        exact R
      have HW := hidden W
      have Hm := hidden hm
      have hL' : L + j ≤ 1099511627776 := by omega
      clear W St Wh hm
      generalize hy : v / 2 ^ m % 2 = y at *
      have Hy := hidden hy
      clear hy
      go_wp2_with (go_at_call 80; refine (lay_any b s' _ _ y 1 _ HW.out (by omega) (by omega) hL').mono ?_; rintro e w' ⟨rfl, hw⟩; have HR := hidden hw; clear hw)
      go_roundw
      case rel => exact ⟨j + 1, by omega, by have := Hm.out; first | (congr 1; omega) | go_num, hfin.out _ HR.out⟩
      case measure => simp [intOf]
    · have hdn : j = n := by omega
      subst hdn
      have H2 := hidden (show Wrote w wr b s (N + rv v j j * 2 ^ L) (L + j) from ⟨s', W, St, Wh⟩)
      clear W St Wh hlt
      go_wp2
      go_ret
      exact ⟨rfl, H2.out⟩

set_option maxHeartbeats 400000 in
theorem wbytes_any (b : Nat) (s : Value) (N L : Nat) (w : World) (h : Wr w b s N L) (hL : L ≤ 1099511627776) :
    Calls Tryz.prog 20 #[.pointer (some ⟨b, 0, none⟩)] w fun e w' => ∃ v', e = .returned v' ∧ w'.ownsRow 0 5 1 v' ((L + 7) / 8) (u8s (bytesOf N ((L + 7) / 8))) ∧ Step (fun _ => False) w w' ∧ (v'.ownBlock = none ∨ v'.ownBlock = some w.heap.size) := by
  have c0 := h.out
  have HR := hidden (Rd.of_own h.own)
  have hb := bytesOf_length N ((L + 7) / 8)
  have Hb := hidden hb
  have hle : Hid ((bytesOf N ((L + 7) / 8)).length ≤ 137438953600) := by show _ ≤ _; omega
  clear h hb
  go_enter Tryz.func20, Tryz.ntmps20
  go_wp2_with (go_at_call 40; refine (fresh_any _ _ _ HR.out hle.out).mono ?_; rintro e w' ⟨v', rfl, h1, h2, h3⟩; have H1 := hidden (And.intro h1 (And.intro h2 h3)); clear h1 h2 h3)
  go_ret
  refine ⟨_, rfl, ?_, H1.out.2.1, H1.out.2.2⟩
  have := H1.out.1
  rw [Hb.out] at this
  exact this

theorem Wr.rawed {wr w1 : World} {b : Nat} {s v' : Value} {N L : Nat} {B : List Nat} (W : Wr wr b s N L) (h0 : L % 8 = 0) (hB : ∀ x ∈ B, x < 256)
    (hown : w1.ownsRow 0 5 1 v' ((L + 7) / 8 + B.length) (u8s (bytesOf N ((L + 7) / 8)) ++ u8s B)) (hgrow : wr.grownBy w1 s.ownBlock)
    (hv' : v'.ownBlock = s.ownBlock ∨ v'.ownBlock = some wr.heap.size) :
    w1.cell? ⟨b, 0, none⟩ = some s ∧ w1.frozen? ⟨b, 0, none⟩ = false ∧ Wrote wr (w1.setCell ⟨b, 0, none⟩ v') b s (N + numOf B * 2 ^ L) (L + 8 * B.length) := by
  have hbw : b < wr.heap.size := World.block_lt_of_cell? wr _ W.out
  have e7 : (L + 7) / 8 = L / 8 := by omega
  rw [e7] at hown
  have hL : 8 * (L / 8) = L := by omega
  have St : Step (fun k => s.ownBlock = some k) wr w1 := (Step.refl _ wr).grown hgrow (fun k hk => .inl hk)
  have hnb : ¬ s.ownBlock = some b := W.ne
  have c0 := St.cell W.out hnb
  have c1 := St.cell W.free hnb
  have f0 := (St.frozen (p := ⟨b, 0, none⟩) hbw hnb).trans W.f0
  have f1 := (St.frozen (p := ⟨b, 1, none⟩) hbw hnb).trans W.f1
  have hne : v'.ownBlock ≠ some b := by
    intro e
    rcases hv' with h | h
    · exact hnb (by rw [← h, e])
    · rw [e] at h; have := Option.some.inj h; omega
  have S2 : Step (fun k => k = b) w1 (w1.setCell ⟨b, 0, none⟩ v') := (Step.refl (fun k => k = b) w1).setCell ⟨b, 0, none⟩ v' (.inl rfl)
  have hlt := W.lt
  have e1 : (L + 8 * B.length + 7) / 8 = L / 8 + B.length := by omega
  have e2 : (8 - (L + 8 * B.length) % 8) % 8 = (8 - L % 8) % 8 := by omega
  have e3 : u8s (bytesOf N (L / 8)) ++ u8s B = u8s (bytesOf (N + numOf B * 2 ^ L) (L / 8 + B.length)) := by
    have := bytesOf_add N (numOf B) (L / 8) B.length (by rw [hL]; exact hlt)
    rw [hL] at this
    rw [this, u8s_append, bytesOf_numOf B hB]
  rw [e3] at hown
  refine ⟨c0, f0, v', ⟨?_, ?_, ?_, ?_, ?_, hne, lt_of_pow hlt (numOf_lt B hB)⟩, ?_, ?_⟩
  · rw [World.cell?_setCell_same _ _ _ c0]
  · rw [World.cell?_setCell_other _ _ _ _ (by simp), e2]; exact c1
  · simp [f0]
  · simp [f1]
  · rw [e1]; exact owns_step hown S2 (fun k hk hb => hne (by rw [hk, hb]))
  · refine (St.mono (fun i hi => .inr hi)).trans S2 (fun i hi => .inl (.inl hi))
  · rcases hv' with h | h
    · exact .inl h
    · exact .inr ⟨_, h, Nat.le_refl _⟩

/-- The first k of so many rows, as one. -/
def flat (F : Nat → List Nat) : Nat → List Nat
  | 0 => []
  | k + 1 => flat F k ++ F k

/-- A row that is laid: it reads as B, and is none of the Writer's own. -/
structure Src (w : World) (b : Nat) (s : Value) (v : Value) (B : List Nat) : Prop where
  rd : Rd w v B
  off : ∀ a n c, v = .slice (some a) n c → B ≠ [] → ¬ Of b s a.block
  byte : ∀ x ∈ B, x < 256

theorem flat_byte {F : Nat → List Nat} {c : Nat} (h : ∀ i, i < c → ∀ x ∈ F i, x < 256) : ∀ k, k ≤ c → ∀ x ∈ flat F k, x < 256
  | 0, _ => by simp [flat]
  | k + 1, hk => by
    intro x hx
    rcases List.mem_append.1 hx with h1 | h1
    · exact flat_byte h k (by omega) x h1
    · exact h k (by omega) x h1

theorem flat_mono {F : Nat → List Nat} {c : Nat} : ∀ k, k ≤ c → (flat F k).length ≤ (flat F c).length := by
  induction c with
  | zero => intro k hk; have : k = 0 := by omega
            subst this; exact Nat.le_refl _
  | succ c ih =>
    intro k hk
    by_cases e : k = c + 1
    · subst e; exact Nat.le_refl _
    · have := ih k (by omega)
      simp only [flat, List.length_append]
      omega

set_option maxHeartbeats 1000000 in
theorem raw_ok (b q c : Nat) (s : Value) (N L : Nat) (V : Nat → Value) (F : Nat → List Nat) (w : World) (h : Wr w b s N L) (h8 : L % 8 = 0) (hq : ¬ Of b s q)
    (hcell : ∀ i, i < c → w.cell? ⟨q, i, none⟩ = some (V i)) (hsrc : ∀ i, i < c → Src w b s (V i) (F i)) (hc : c ≤ 1000) (hL : L + 8 * (flat F c).length ≤ 1099511627776) :
    Calls Tryz.prog 50 #[.pointer (some ⟨b, 0, none⟩), .slice (some ⟨q, 0, none⟩) c c] w fun e w' => e = .returned (.int .i64 0) ∧ Wrote w w' b s (N + numOf (flat F c) * 2 ^ L) (L + 8 * (flat F c).length) := by
  obtain ⟨i0, hi, hz0, hz1, hz2⟩ := info_parts Tryz.info5
  have c1 := h.free
  have e0 : (8 - L % 8) % 8 = 0 := by omega
  rw [e0] at c1
  have H := hidden h
  have Hcell := hidden hcell
  have Hsrc := hidden hsrc
  have HL := hidden hL
  have H8 := hidden h8
  have Hq := hidden hq
  clear h hcell hsrc hL h8 hq e0
  go_enter Tryz.func50, Tryz.ntmps50
  go_wp2
  go_loopw [18] (fun i wr => ∃ k : Nat, k ≤ c ∧ i = .int .i64 k ∧ Wrote w wr b s (N + numOf (flat F k) * 2 ^ L) (L + 8 * (flat F k).length)) (fun i _ => c - (intOf i).toNat)
  case atStart => exact ⟨0, Nat.zero_le _, rfl, s, by simpa [flat, numOf] using H.out, Step.refl _ _, .inl rfl⟩
  case round =>
    obtain ⟨k, hk, rfl, s', W, St, Wh⟩ := hrel
    by_cases hlt : k < c
    · have hcl : Hid (∀ i, i < c → wr.cell? ⟨q, i, none⟩ = some (V i)) := fun i hi => St.cell (Hcell.out i hi) Hq.out
      have hck := hcl.out k hlt
      have S0 := Hsrc.out k hlt
      have hrd := S0.rd.step St S0.off
      have hbyte := S0.byte
      have hmono := flat_mono (F := F) (c := c) (k + 1) (by omega)
      obtain ⟨ao, cap, hv, r1, r2⟩ := hrd
      have hL2 := HL.out
      have hlen : (flat F (k + 1)).length = (flat F k).length + (F k).length := by simp [flat]
      have hfin : Hid (∀ w', Wrote wr w' b s' (N + numOf (flat F k) * 2 ^ L + numOf (F k) * 2 ^ (L + 8 * (flat F k).length)) (L + 8 * (flat F k).length + 8 * (F k).length) → Wrote w w' b s (N + numOf (flat F (k + 1)) * 2 ^ L) (L + 8 * (flat F (k + 1)).length)) := by
        intro w' h
        have R := Wrote.after St Wh h
        have e : N + numOf (flat F k) * 2 ^ L + numOf (F k) * 2 ^ (L + 8 * (flat F k).length) = N + numOf (flat F (k + 1)) * 2 ^ L := by
          simp only [flat, numOf_append]
          rw [Nat.pow_add, Nat.add_mul, Nat.add_assoc]
          congr 2
          ac_rfl
        have e2 : L + 8 * (flat F k).length + 8 * (F k).length = L + 8 * (flat F (k + 1)).length := by omega
        rw [e, e2] at R
        exact R
      have hm8 : (L + 8 * (flat F k).length) % 8 = 0 := by have := H8.out; omega
      have hroom : (L + 8 * (flat F k).length + 7) / 8 + (F k).length ≤ 137438953600 := by omega
      have HW := hidden W
      have Hm8 := hidden hm8
      have HR := hidden (And.intro hbyte (And.intro r1 r2))
      have cc0 := W.out
      have ff0 := W.f0
      rw [hv] at hck
      clear S0 hbyte r1 r2 hv W St Wh hmono hL2 hlen hm8
      generalize hT : L + 8 * (flat F k).length = T at *
      generalize hN : N + numOf (flat F k) * 2 ^ L = N1 at *
      generalize hB : F k = B at *
      have hbl : B.length ≤ 137438953600 := by omega
      have hkc : (k : Int) < (c : Int) := by omega
      clear hT hN hB
      cases ao with
      | none =>
        obtain ⟨rfl, rfl⟩ := HR.out.2.1 rfl
        obtain ⟨d0, d1, R⟩ := HW.out.rawed (w1 := wr) (v' := s') (B := []) Hm8.out HR.out.1 (by simpa [u8s] using HW.out.own) (World.grownBy.refl _ _) (.inl rfl)
        have HR2 := hidden (hfin.out _ R)
        obtain ⟨ao', cap', hvv⟩ := own_slice HW.out.own
        have hown' := hidden HW.out.own
        rw [hvv] at HR2 cc0 hown'
        clear R hfin HW d0 hvv
        go_wp2_with (at_builtin; refine wpList_append_own_none rfl (.tmp 26) (.tmp 27) 22 rfl 0 5 i0 1 Tryz.underlying22 hi _ _ _ rfl hown'.out rfl ?_)
        go_roundw
        case rel => exact ⟨k + 1, by omega, by go_num, HR2.out⟩
        case measure => simp [intOf]; omega
      | some a =>
        have hnews : Hid (∀ j u, (u8s B)[j]? = some u → wr.cell? (a.add j) = some u) := by
          intro j u hu
          have hne : B ≠ [] := by intro e; subst e; simp [u8s] at hu
          obtain ⟨b', off, rfl, hc⟩ := HR.out.2.2 a rfl hne
          have hj : j < B.length := by
            have := (List.getElem?_eq_some_iff.1 hu).1
            rwa [u8s_length] at this
          rw [Addr.add_lit, hc j hj, ← hu, u8s_get?]
          simp [List.getD, hj]
        go_wp2_with (at_builtin; refine wpList_append_at _ rfl (.tmp 26) (.tmp 27) 22 rfl 5 i0 (.int .u8 0) 1 1 Tryz.underlying22 hi hz0 hz1 hz2 rfl (by decide) _ _ _ rfl HW.out.own a B.length cap (u8s B) rfl (by simp [u8s_length]) hnews.out (u8s_one _) ?c3 ?c4 ?_)
        case c3 => unfold maxLen; omega
        case c4 => omega
        intro v' w1 hown' hgrow hnil hv'
        obtain ⟨d0, d1, R⟩ := HW.out.rawed Hm8.out HR.out.1 hown' hgrow hv'
        have HR2 := hidden (hfin.out _ R)
        obtain ⟨ao', cap', hvv⟩ := own_slice hown'
        rw [hvv] at HR2
        rw [hvv]
        clear R hown' hgrow hnil hv' hvv hfin HW
        go_wp2
        go_roundw
        case rel => exact ⟨k + 1, by omega, by go_num, HR2.out⟩
        case measure => simp [intOf]; omega
    · have hkc : k = c := by omega
      subst hkc
      have H2 := hidden (show Wrote w wr b s (N + numOf (flat F k) * 2 ^ L) (L + 8 * (flat F k).length) from ⟨s', W, St, Wh⟩)
      clear W St Wh
      go_wp2
      go_ret
      exact ⟨rfl, H2.out⟩

end Go.Proofs.YtcgjmkcigmmjjaaGreatDoor

namespace Go.Proofs.YtcgjmkcigmmjjaaGreatDoor
open Go.RowKit
set_option maxRecDepth 100000
set_option linter.unusedVariables false
theorem Wr.step {S : Nat → Prop} {w w' : World} {b : Nat} {s : Value} {N L : Nat} (R : Wr w b s N L) (hs : Step S w w') (h1 : ¬ S b) (h2 : ∀ k, s.ownBlock = some k → ¬ S k) : Wr w' b s N L := by
  have hb : b < w.heap.size := World.block_lt_of_cell? w _ R.out
  exact ⟨hs.cell R.out h1, hs.cell R.free h1, (hs.frozen (p := ⟨b, 0, none⟩) hb h1).trans R.f0, (hs.frozen (p := ⟨b, 1, none⟩) hb h1).trans R.f1, owns_step R.own hs h2, R.ne, R.lt⟩

/-- The code's Writer in block b, with these numbers; the blocks of G are none of its. -/
def Wc (w : World) (b : Nat) (ps : List (Nat × Nat)) (G : Nat → Prop) : Prop := ∃ s, Wr w b s (pcN ps) (pcL ps) ∧ ¬ G b ∧ ∀ k, s.ownBlock = some k → ¬ G k

theorem Wc.wrote {w w' : World} {b : Nat} {ps : List (Nat × Nat)} {G : Nat → Prop} {s : Value} {x n : Nat} (hG : ∀ k, G k → k < w.heap.size) (h1 : ¬ G b) (h2 : ∀ k, s.ownBlock = some k → ¬ G k) (h : Wrote w w' b s (pcN ps + x * 2 ^ pcL ps) (pcL ps + n)) : Wc w' b (ps ++ [(x, n)]) G ∧ Step (fun k => ¬ G k) w w' := by
  obtain ⟨s', a1, a2, a3⟩ := h
  refine ⟨⟨s', by rw [pcN_snoc, pcL_snoc]; exact a1, h1, fun k hk => ?_⟩, a2.mono (fun i hi => ?_)⟩
  · rcases a3 with e | ⟨j, e, hj⟩
    · exact h2 k (by rw [← e]; exact hk)
    · rw [e] at hk; have := Option.some.inj hk; intro hg; have := hG k hg; omega
  · rcases hi with e | e
    · rw [e]; exact h1
    · exact h2 i e

theorem put_c (b : Nat) (ps : List (Nat × Nat)) (G : Nat → Prop) (v n : Nat) (w : World) (h : Wc w b ps G) (hG : ∀ k, G k → k < w.heap.size) (hn : n ≤ 24) (hv : v < 2 ^ n) (hL : pcL ps ≤ 1000000000) :
    Calls Tryz.prog 49 #[.pointer (some ⟨b, 0, none⟩), .int .i64 v, .int .i64 n] w fun e w' => e = .returned (.int .i64 0) ∧ Hid (Wc w' b (ps ++ [(v, n)]) G ∧ Step (fun k => ¬ G k) w w') := by
  obtain ⟨s, h1, h2, h3⟩ := h
  exact (put_ok b s _ _ v n w h1 hn hv (by omega)).mono fun e w' ⟨he, hw⟩ => ⟨he, Wc.wrote hG h2 h3 hw⟩

theorem code_c (b : Nat) (ps : List (Nat × Nat)) (G : Nat → Prop) (v n : Nat) (w : World) (h : Wc w b ps G) (hG : ∀ k, G k → k < w.heap.size) (hn : n ≤ 15) (hv : v < 2 ^ n) (hL : pcL ps ≤ 1000000000) :
    Calls Tryz.prog 91 #[.pointer (some ⟨b, 0, none⟩), .int .i64 v, .int .i64 n] w fun e w' => e = .returned (.int .i64 0) ∧ Hid (Wc w' b (ps ++ [(rv v n n, n)]) G ∧ Step (fun k => ¬ G k) w w') := by
  obtain ⟨s, h1, h2, h3⟩ := h
  exact (code_ok b s _ _ v n w h1 hn hv (by omega)).mono fun e w' ⟨he, hw⟩ => ⟨he, Wc.wrote hG h2 h3 hw⟩

theorem bytes_c (b : Nat) (ps : List (Nat × Nat)) (G : Nat → Prop) (w : World) (h : Wc w b ps G) (hL : pcL ps ≤ 1000000000) :
    Calls Tryz.prog 20 #[.pointer (some ⟨b, 0, none⟩)] w fun e w' => ∃ ao c, e = .returned (.slice ao ((pcL ps + 7) / 8) c) ∧ Hid (Rd w' (.slice ao ((pcL ps + 7) / 8) c) (bytesOf (pcN ps) ((pcL ps + 7) / 8)) ∧ Step (fun _ => False) w w') := by
  obtain ⟨s, h1, h2, h3⟩ := h
  refine (wbytes_any b s _ _ w h1 (by omega)).mono fun e w' ⟨v', he, a1, a2, a3⟩ => ?_
  obtain ⟨ao, c, hv⟩ := own_slice a1
  subst hv
  exact ⟨ao, c, he, hidden ⟨Rd.of_own a1, a2⟩⟩

/-- New blocks stand, too. -/
theorem Wc.made {w w' : World} {b : Nat} {ps : List (Nat × Nat)} {G : Nat → Prop} (h : Wc w b ps G) (hs : Step (fun _ => False) w w') : Wc w' b ps (fun k => G k ∨ (w.heap.size ≤ k ∧ k < w'.heap.size)) := by
  obtain ⟨s, h1, h2, h3⟩ := h
  have hb : b < w.heap.size := World.block_lt_of_cell? w _ h1.out
  refine ⟨s, h1.step hs (fun q => q) (fun _ _ q => q), fun q => q.elim h2 (fun q => by omega), fun k hk q => q.elim (h3 k hk) (fun q => ?_)⟩
  have := (h1.own.lt _ hk).2
  omega

theorem Wc.less {w : World} {b : Nat} {ps : List (Nat × Nat)} {G H : Nat → Prop} (h : Wc w b ps H) (hG : ∀ k, G k → H k) : Wc w b ps G := by
  obtain ⟨s, h1, h2, h3⟩ := h
  exact ⟨s, h1, fun q => h2 (hG _ q), fun k hk q => h3 k hk (hG _ q)⟩

theorem Wc.new (w : World) : Calls Tryz.prog 16 #[] w fun e w' => e = .returned (.pointer (some ⟨w.heap.size, 0, none⟩)) ∧ Wc w' w.heap.size [] (fun k => k < w.heap.size) ∧ Step (fun _ => False) w w' :=
  (new_ok w).mono fun e w' ⟨he, h1, h2⟩ => ⟨he, ⟨.slice none 0 0, by simpa [pcN, pcL] using h1, by omega, fun k hk => by simp [Value.ownBlock] at hk⟩, h2⟩

theorem Ri.at {w : World} {ao : Option Addr} {n cap : Nat} {L : List Int} (h : Ri w (.slice ao n cap) L) {k : Nat} (hk : k < L.length) : ∃ g off, ao = some ⟨g, off, none⟩ ∧ n = L.length ∧ w.cell? ⟨g, off + k, none⟩ = some (.int .i64 (L.getD k 0)) := by
  obtain ⟨h1, g, off, h2, h3⟩ := Ri.cell h hk
  exact ⟨g, off, h2, by obtain ⟨_, _, e, _⟩ := h; injection e, h3 k hk⟩

set_option maxHeartbeats 2000000 in
theorem clay_any (w : World) (b : Nat) (ps : List (Nat × Nat)) (G : Nat → Prop) (h : Wc w b ps G) (hG : ∀ k, G k → k < w.heap.size) (hL : pcL ps ≤ 900000000)
    (al an : Option Addr) (nl nn cl cn : Nat) (L N : List Int) (rl : Ri w (.slice al nl cl) L) (rn : Ri w (.slice an nn cn) N) (s m k cv nv : Nat) (hs : s < L.length) (hs2 : s < N.length) (hll : L.length ≤ 1000) (hnn : N.length ≤ 1000)
    (e1 : L.getD s 0 = (nv : Int)) (e2 : N.getD s 0 = (cv : Int)) (hnv : nv ≤ 15) (hcv : cv < 2 ^ nv) (hk : k ≤ 24) (hm : m < 2 ^ k) :
    Calls Tryz.prog 67 #[.agg #[.slice al nl cl, .slice an nn cn], .pointer (some ⟨b, 0, none⟩), spV s m k] w fun e w' => (∃ u, e = .returned u) ∧ Wc w' b (ps ++ [(rv cv nv nv, nv), (m, k)]) G ∧ Step (fun k => ¬ G k) w w' := by
  obtain ⟨gl, ol, rfl, hn1, hcl⟩ := rl.at hs
  obtain ⟨gn, on, rfl, hn2, hcn⟩ := rn.at hs2
  rw [e1] at hcl
  rw [e2] at hcn
  subst hn1
  subst hn2
  obtain ⟨W0, hW0⟩ : ∃ W0, w.alloc (.cells #[.slice (some ⟨gl, ol, none⟩) L.length cl, .slice (some ⟨gn, on, none⟩) N.length cn] 96) = W0 := ⟨_, rfl⟩
  obtain ⟨B0, hB0⟩ : ∃ B0, w.heap.size = B0 := ⟨_, rfl⟩
  have S0 : Step (fun _ => False) w W0 := by rw [← hW0]; exact (Step.refl _ _).alloc _
  have V0 : Sv W0 B0 [.slice (some ⟨gl, ol, none⟩) L.length cl, .slice (some ⟨gn, on, none⟩) N.length cn] := by rw [← hW0, ← hB0]; exact Sv.new w _ _
  obtain ⟨W1, hW1⟩ : ∃ W1, W0.alloc (.cells #[.int .i64 (s : Int), .int .i64 (m : Int), .int .i64 (k : Int)] 89) = W1 := ⟨_, rfl⟩
  obtain ⟨B1, hB1⟩ : ∃ B1, W0.heap.size = B1 := ⟨_, rfl⟩
  have S1 : Step (fun _ => False) W0 W1 := by rw [← hW1]; exact (Step.refl _ _).alloc _
  have V1 : Sv W1 B1 (spL s m k) := by rw [← hW1, ← hB1]; exact Sv.new W0 _ _
  have S01 := S0.made S1
  have V01 := V0.made S1
  obtain ⟨G2, hG2⟩ : ∃ G2 : Nat → Prop, (fun k => G k ∨ (w.heap.size ≤ k ∧ k < W1.heap.size)) = G2 := ⟨_, rfl⟩
  have hz0 := S0.size
  have hzB : B1 < W1.heap.size := V1.lt (by simp [spL])
  have HG1 := hidden (show ∀ k, G k → G2 k by rw [← hG2]; exact fun k hk => .inl hk)
  have HGB := hidden (show G2 B1 by rw [← hG2]; exact .inr ⟨by omega, hzB⟩)
  have HGL := hidden (show ∀ k, G2 k → k < W1.heap.size by
    rw [← hG2]
    intro k hk
    have := S01.size
    rcases hk with q | q
    · have := hG k q; omega
    · exact q.2)
  have HW := hidden (show Wc W1 b ps G2 by rw [← hG2]; exact h.made S01)
  have HS := hidden S01
  have HV1 := hidden V1
  have a0 := (V01 0 _ rfl).1
  have a1 := (V01 1 _ rfl).1
  have b0 := (V1 0 _ rfl).1
  have b1 := (V1 1 _ rfl).1
  have b2 := (V1 2 _ rfl).1
  have q1 := S01.cell hcl (fun h => h)
  have q2 := S01.cell hcn (fun h => h)
  have hz01 := S01.size
  have HCD := hidden (fun wx (hx : Step (fun _ => False) W1 wx) => code_c b ps G2 cv nv wx ((HW.out.made hx).less (G := G2) (fun k hk => .inl hk)) (fun k hk => by have := HGL.out k hk; have := hx.size; omega) hnv hcv (by omega))
  have HPT := hidden (fun wx (hx : Wc wx b (ps ++ [(rv cv nv nv, nv)]) G2) (hz : W1.heap.size ≤ wx.heap.size) => put_c b (ps ++ [(rv cv nv nv, nv)]) G2 m k wx hx (fun k hk => by have := HGL.out k hk; omega) hk hm (by rw [pcL_append]; simp [pcL]; omega))
  have hsz : (s : Int) < (L.length : Int) := by omega
  have hsz2 : (s : Int) < (N.length : Int) := by omega
  generalize L.length = ll at *
  generalize N.length = ln at *
  clear rl rn h S0 V0 S1 V1 S01 V01 hcl hcn e1 e2
  go_enter Tryz.func67, Tryz.ntmps67
  go_wp2_with fail
  refine wp_region_still_tail 13 Tryz.mixed (by kernel_rfl) ?_
  simp only [List.take_succ_cons, List.take_zero, List.drop_succ_cons, List.drop_zero]
  change wpStill _ _ (World.drew _) _ _ _
  iterate 13 still_step
  refine wpStill_nil ?_
  go_wp2_with fail
  refine (HCD.out _ ((Step.refl _ _).drew)).mono ?_
  rintro e w2 ⟨rfl, R2⟩
  have T2 : Step (fun k => ¬ G2 k) W1 w2 := ⟨R2.out.2.os, R2.out.2.tape, R2.out.2.output, R2.out.2.size, R2.out.2.block⟩
  have HR2 := hidden R2.out.1
  have HT2 := hidden T2
  have d1 := T2.cell b1 (fun q => q HGB.out)
  have d2 := T2.cell b2 (fun q => q HGB.out)
  have HP2 := hidden (HPT.out w2 R2.out.1 T2.size)
  clear R2 T2 a0 a1 b0 b1 b2 q1 q2 HCD HPT
  go_wp2_with fail
  refine HP2.out.mono ?_
  rintro e w3 ⟨rfl, R3⟩
  have HR3 := hidden (show Wc w3 b (ps ++ [(rv cv nv nv, nv), (m, k)]) G ∧ Step (fun k => ¬ G k) w w3 by
    refine ⟨by have := R3.out.1.less (G := G) (fun k hk => HG1.out k hk); rwa [List.append_assoc] at this, ?_⟩
    exact ((HS.out.mono (fun _ q => q.elim)).trans HT2.out (fun i hi => .inl (fun q => hi (HG1.out i q)))).trans R3.out.2 (fun i hi => .inl (fun q => hi (HG1.out i q))))
  clear R3
  go_wp2
  go_end0
  exact ⟨⟨_, rfl⟩, HR3.out⟩

end Go.Proofs.YtcgjmkcigmmjjaaGreatDoor

namespace Go.Proofs.YtcgjmkcigmmjjaaGreatDoor
open Go.RowKit
/-- What Codes leaves. -/
def CodesP (L : List Int) (w : World) (e : Ending) (w' : World) : Prop :=
  ∃ v, e = .returned (.tuple #[v, .int .i64 (codeErr L)]) ∧ Ri w' v (codesR L) ∧ (∀ a n c, v = .slice (some a) n c → w.heap.size ≤ a.block) ∧ Step (fun _ => False) w w'

theorem codeErr_ok {L : List Int} (h : codeErr L = 0) : okB L = true ∧ fl (cf L) 16 ≤ 32768 ∧ codesR L = codes L := by
  unfold codeErr at h
  unfold codesR
  by_cases h1 : okB L = true
  · rw [if_pos h1] at h
    by_cases h2 : fl (cf L) 16 ≤ 32768
    · exact ⟨h1, h2, by rw [if_pos h1, if_pos h2]⟩
    · rw [if_neg h2] at h; omega
  · rw [if_neg h1] at h; omega

theorem codeErr_not {L : List Int} (h : codeErr L ≠ 0) : codesR L = [] := by
  unfold codeErr at h
  unfold codesR
  by_cases h1 : okB L = true
  · rw [if_pos h1] at h ⊢
    by_cases h2 : fl (cf L) 16 ≤ 32768
    · rw [if_pos h2] at h; exact absurd rfl h
    · rw [if_neg h2]
  · rw [if_neg h1]

theorem Ri.far {w : World} {v : Value} {L : List Int} (h : Ri w v L) (q : Addr) (u : Value) (hq : ∀ p n c, L ≠ [] → v = .slice (some p) n c → p.block ≠ q.block) : Ri (w.setCell q u) v L :=
  h.step (S := fun k => k = q.block) ((Step.refl _ w).setCell q u (.inl rfl)) (fun a n c e ne => hq a n c ne e)

end Go.Proofs.YtcgjmkcigmmjjaaGreatDoor

namespace Go.Proofs.YtcgjmkcigmmjjaaGreatDoor
/-- Is the next thing a single? -/
def sg (A B : List Int) : Bool := B.isEmpty || (!A.isEmpty && decide (A.headD 0 ≤ B.headD 0))

def mrgN : Nat → List Int → List Int → List (Int × Bool)
  | 0, _, _ => []
  | n + 1, A, B => if sg A B then (A.headD 0, true) :: mrgN n A.tail B else (B.headD 0, false) :: mrgN n A B.tail

def mrg (A B : List Int) : List (Int × Bool) := mrgN (A.length + B.length) A B

theorem mrgN_length : ∀ n A B, (mrgN n A B).length = n
  | 0, _, _ => rfl
  | n + 1, A, B => by
    unfold mrgN
    split <;> simp [mrgN_length n]

theorem mrg_length (A B : List Int) : (mrg A B).length = A.length + B.length := mrgN_length _ _ _

def pairs : List Int → List Int
  | a :: b :: t => (a + b) :: pairs t
  | _ => []

theorem pairs_length : ∀ R : List Int, (pairs R).length = R.length / 2
  | [] => rfl
  | [_] => by simp [pairs]
  | a :: b :: t => by
    simp only [pairs, List.length_cons, pairs_length t]
    omega

theorem pairs_getD : ∀ (R : List Int) (i : Nat), i < R.length / 2 → (pairs R).getD i 0 = R.getD (2 * i) 0 + R.getD (2 * i + 1) 0
  | [], i, h => by simp at h
  | [_], i, h => by simp at h
  | a :: b :: t, 0, _ => by simp [pairs]
  | a :: b :: t, i + 1, h => by
    have h2 : i < t.length / 2 := by simp at h; omega
    have := pairs_getD t i h2
    rw [show 2 * (i + 1) = 2 * i + 1 + 1 by omega, show 2 * i + 1 + 1 + 1 = (2 * i + 1) + 1 + 1 by omega]
    simpa [pairs] using this

theorem sg_nil (A : List Int) : sg A [] = true := rfl

theorem sg_right (b : Int) (B : List Int) : sg [] (b :: B) = false := rfl

theorem sg_both (a b : Int) (A B : List Int) : sg (a :: A) (b :: B) = decide (a ≤ b) := by simp [sg]

/-- After i things: what is left of both, and what is to come. -/
def Left (A B : List Int) (i : Nat) (A' B' : List Int) : Prop := (mrg A B).drop i = mrgN (A'.length + B'.length) A' B' ∧ A'.length + B'.length + i = A.length + B.length

theorem Left.start (A B : List Int) : Left A B 0 A B := ⟨by simp [mrg], rfl⟩

theorem getD_of_drop {L : List (Int × Bool)} {i : Nat} {x : Int × Bool} {t : List (Int × Bool)} (h : L.drop i = x :: t) : L.getD i (0, false) = x ∧ L.drop (i + 1) = t := by
  have hl : i < L.length := by
    rcases Nat.lt_or_ge i L.length with h' | h'
    · exact h'
    · rw [List.drop_of_length_le h'] at h; cases h
  rw [List.drop_eq_getElem_cons hl] at h
  injection h with h1 h2
  exact ⟨by simp [List.getD, hl, h1], h2⟩

theorem Left.single {A B A' B' : List Int} {i : Nat} {a : Int} (h : Left A B i (a :: A') B') (hs : sg (a :: A') B' = true) : (mrg A B).getD i (0, false) = (a, true) ∧ Left A B (i + 1) A' B' := by
  obtain ⟨h1, h2⟩ := h
  have e : (a :: A').length + B'.length = (A'.length + B'.length) + 1 := by simp; omega
  rw [e] at h1
  simp only [mrgN, hs, if_true, List.headD_cons, List.tail_cons] at h1
  obtain ⟨h3, h4⟩ := getD_of_drop h1
  exact ⟨h3, h4, by simp at h2; omega⟩

theorem Left.pair {A B A' B' : List Int} {i : Nat} {b : Int} (h : Left A B i A' (b :: B')) (hs : sg A' (b :: B') = false) : (mrg A B).getD i (0, false) = (b, false) ∧ Left A B (i + 1) A' B' := by
  obtain ⟨h1, h2⟩ := h
  have e : A'.length + (b :: B').length = (A'.length + B'.length) + 1 := by simp; omega
  rw [e] at h1
  simp only [mrgN, hs, List.headD_cons, List.tail_cons] at h1
  obtain ⟨h3, h4⟩ := getD_of_drop h1
  exact ⟨h3, h4, by simp at h2; omega⟩

end Go.Proofs.YtcgjmkcigmmjjaaGreatDoor

namespace Go.Proofs.YtcgjmkcigmmjjaaGreatDoor
open Go.RowKit
set_option maxRecDepth 100000
theorem Tryz.infoB : (Tryz.prog.info? 4).map (fun i => (i.zero, i.size, i.bytes)) = some (some (.bool false), 1, 1) := by kernel_rfl

/-- The slice v reads as the bools L. -/
def Rb (w : World) (v : Value) (L : List Bool) : Prop :=
  ∃ b, v = .slice (some ⟨b, 0, none⟩) L.length L.length ∧ ∀ k, k < L.length → w.cell? ⟨b, k, none⟩ = some (.bool (L.getD k false))

theorem Rb.step {S : Nat → Prop} {w w' : World} {v : Value} {L : List Bool} (h : Rb w v L) (hs : Step S w w') (hS : ∀ a n c, v = .slice (some a) n c → L ≠ [] → ¬ S a.block) : Rb w' v L := by
  obtain ⟨b, rfl, hc⟩ := h
  exact ⟨b, rfl, fun k hk => hs.cell (hc k hk) (hS ⟨b, 0, none⟩ _ _ rfl (by intro e; subst e; simp at hk))⟩

theorem Rb.made {w w' : World} {v : Value} {L : List Bool} (h : Rb w v L) (hs : Step (fun _ => False) w w') : Rb w' v L := h.step hs (fun _ _ _ _ _ h => h)

/-- Between two rounds of merge. -/
structure MI (A B A' B' : List Int) (w w1 : World) (N k : Nat) (x y : Value) (wr : World) : Prop where
  left : Left A B k A' B'
  rx : Ri wr x A'
  ry : Ri wr y B'
  af : Af wr w.heap.size N (fun j => if j < k then ((mrg A B).getD j (0, false)).1 else 0)
  vf : Vf wr w1.heap.size N (fun j => .bool (if j < k then ((mrg A B).getD j (0, false)).2 else false))
  st : Step (fun _ => False) w wr
  px : ∀ p n c, A' ≠ [] → x = .slice (some p) n c → p.block < w.heap.size
  py : ∀ p n c, B' ≠ [] → y = .slice (some p) n c → p.block < w.heap.size

theorem MI.drew {A B A' B' : List Int} {w w1 : World} {N k : Nat} {x y : Value} {wr : World} (h : MI A B A' B' w w1 N k x y wr) : MI A B A' B' w w1 N k x y wr.drew :=
  ⟨h.left, h.rx, h.ry, h.af, h.vf, h.st.drew, h.px, h.py⟩

theorem Ri.slot {w : World} {ao : Option Addr} {n cap : Nat} {L : List Int} (h : Ri w (.slice ao n cap) L) : n = L.length := by
  obtain ⟨_, _, h, _⟩ := h
  injection h

theorem Ri.tail {w : World} {b o n c : Nat} {a : Int} {L : List Int} (h : Ri w (.slice (some ⟨b, o, none⟩) n c) (a :: L)) : Ri w (.slice (if c = 1 then some ⟨b, o, none⟩ else some ⟨b, o + 1, none⟩) (n - 1) (c - 1)) L := by
  obtain ⟨ao1, cap1, e, hcap, h1, h2⟩ := h
  injection e with e1 e2 e3
  subst e1
  subst e2
  subst e3
  obtain ⟨b', off, e, hc⟩ := h2 _ rfl (by simp)
  cases e
  simp only [List.length_cons] at hcap ⊢
  refine ⟨_, _, by rw [show L.length + 1 - 1 = L.length by omega], by omega, fun h => (by split at h <;> cases h), fun a ha _ => ?_⟩
  by_cases e : c = 1
  · rw [if_pos e] at ha
    exact ⟨b, o, (Option.some.inj ha).symm, fun k hk => by omega⟩
  · rw [if_neg e] at ha
    refine ⟨b, o + 1, (Option.some.inj ha).symm, fun k hk => ?_⟩
    have := hc (k + 1) (by simp; omega)
    rw [show o + 1 + k = o + (k + 1) by omega, this]
    simp

theorem MI.rows {A B A' B' : List Int} {w w1 : World} {N k : Nat} {x y : Value} {wr : World} (h : MI A B A' B' w w1 N k x y wr) (hz : w.heap.size < w1.heap.size) (z : Int) (t : Bool) (hM : (mrg A B).getD k (0, false) = (z, t)) :
    let W := (wr.setCell ⟨w1.heap.size, k, none⟩ (.bool t)).setCell ⟨w.heap.size, k, none⟩ (.int .i64 z)
    Ri W x A' ∧ Ri W y B' ∧ Af W w.heap.size N (fun j => if j < k + 1 then ((mrg A B).getD j (0, false)).1 else 0) ∧ Vf W w1.heap.size N (fun j => .bool (if j < k + 1 then ((mrg A B).getD j (0, false)).2 else false)) ∧ Step (fun _ => False) w W := by
  intro W
  refine ⟨(h.rx.far _ _ ?_).far _ _ ?_, (h.ry.far _ _ ?_).far _ _ ?_, ?_, ?_, (h.st.setCell _ _ (.inr ?_)).setCell _ _ (.inr ?_)⟩
  · intro p n c ne e
    have := h.px p n c ne e
    show p.block ≠ w1.heap.size
    omega
  · intro p n c ne e
    have := h.px p n c ne e
    show p.block ≠ w.heap.size
    omega
  · intro p n c ne e
    have := h.py p n c ne e
    show p.block ≠ w1.heap.size
    omega
  · intro p n c ne e
    have := h.py p n c ne e
    show p.block ≠ w.heap.size
    omega
  · refine ((h.af.far _ _ (by show w1.heap.size ≠ w.heap.size; omega)).set k z).congr (fun j _ => ?_)
    unfold upd
    by_cases e : j = k
    · subst e; rw [if_pos rfl, if_pos (Nat.lt_succ_self _), hM]
    · by_cases e2 : j < k
      · simp [e, e2, show j < k + 1 by omega]
      · simp [e, e2, show ¬ j < k + 1 by omega]
  · refine ((h.vf.set k (.bool t)).far _ _ (by show w.heap.size ≠ w1.heap.size; omega)).congr (fun j _ => ?_)
    by_cases e : j = k
    · subst e; rw [if_pos rfl, if_pos (Nat.lt_succ_self _), hM]
    · by_cases e2 : j < k
      · simp [e, e2, show j < k + 1 by omega]
      · simp [e, e2, show ¬ j < k + 1 by omega]
  · show w.heap.size ≤ w1.heap.size
    omega
  · exact Nat.le_refl _

theorem MI.single {A B A' B' : List Int} {a : Int} {w w1 : World} {N k b o n c : Nat} {y : Value} {wr : World} (h : MI A B (a :: A') B' w w1 N k (.slice (some ⟨b, o, none⟩) n c) y wr) (hz : w.heap.size < w1.heap.size) (hs : sg (a :: A') B' = true) :
    MI A B A' B' w w1 N (k + 1) (.slice (if c = 1 then some ⟨b, o, none⟩ else some ⟨b, o + 1, none⟩) (n - 1) (c - 1)) y ((wr.setCell ⟨w1.heap.size, k, none⟩ (.bool true)).setCell ⟨w.heap.size, k, none⟩ (.int .i64 a)) := by
  obtain ⟨r1, r2⟩ := h.left.single hs
  obtain ⟨q1, q2, q3, q4, q5⟩ := h.rows hz a true r1
  refine ⟨r2, q1.tail, q2, q3, q4, q5, fun p n' c' ne e => ?_, h.py⟩
  have hb : b < w.heap.size := h.px ⟨b, o, none⟩ _ _ (by simp) rfl
  injection e with e1
  split at e1 <;> (have := Option.some.inj e1; subst this; exact hb)

theorem MI.pair {A B A' B' : List Int} {a : Int} {w w1 : World} {N k b o n c : Nat} {x : Value} {wr : World} (h : MI A B A' (a :: B') w w1 N k x (.slice (some ⟨b, o, none⟩) n c) wr) (hz : w.heap.size < w1.heap.size) (hs : sg A' (a :: B') = false) :
    MI A B A' B' w w1 N (k + 1) x (.slice (if c = 1 then some ⟨b, o, none⟩ else some ⟨b, o + 1, none⟩) (n - 1) (c - 1)) ((wr.setCell ⟨w1.heap.size, k, none⟩ (.bool false)).setCell ⟨w.heap.size, k, none⟩ (.int .i64 a)) := by
  obtain ⟨r1, r2⟩ := h.left.pair hs
  obtain ⟨q1, q2, q3, q4, q5⟩ := h.rows hz a false r1
  refine ⟨r2, q1, q2.tail, q3, q4, q5, h.px, fun p n' c' ne e => ?_⟩
  have hb : b < w.heap.size := h.py ⟨b, o, none⟩ _ _ (by simp) rfl
  injection e with e1
  split at e1 <;> (have := Option.some.inj e1; subst this; exact hb)

theorem Ri.head {w : World} {ao : Option Addr} {n c : Nat} {a : Int} {L : List Int} (h : Ri w (.slice ao n c) (a :: L)) : ∃ b o, ao = some ⟨b, o, none⟩ ∧ w.cell? ⟨b, o, none⟩ = some (.int .i64 a) ∧ 0 < n ∧ n ≤ c := by
  obtain ⟨ao1, cap1, e, hcap, h1, h2⟩ := h
  injection e with e1 e2 e3
  subst e1
  subst e2
  subst e3
  cases ao with
  | none => have := (h1 rfl).1; cases this
  | some p =>
    obtain ⟨b, off, rfl, hc⟩ := h2 p rfl (by simp)
    have := hc 0 (by simp)
    exact ⟨b, off, rfl, by simpa using this, by simp, hcap⟩

set_option maxHeartbeats 2000000 in
theorem merge_any (va vb : Value) (A B : List Int) (w : World) (ha : Ri w va A) (hb : Ri w vb B) (hA : A.length ≤ 100000) (hB : B.length ≤ 100000) :
    Calls Tryz.prog 105 #[va, vb] w fun e w' => ∃ v u, e = .returned (.tuple #[v, u]) ∧ Ri w' v ((mrg A B).map (·.1)) ∧ Rb w' u ((mrg A B).map (·.2)) ∧ (∀ a n c, v = .slice (some a) n c → w.heap.size ≤ a.block) ∧ (∀ a n c, u = .slice (some a) n c → w.heap.size ≤ a.block) ∧ Step (fun _ => False) w w' := by
  have HA := hidden ha
  have HB := hidden hb
  obtain ⟨ao, ca, rfl, _, _, _⟩ := ha
  obtain ⟨bo, cb, rfl, _, _, _⟩ := hb
  obtain ⟨n, hn⟩ : ∃ n, n = A.length := ⟨_, rfl⟩
  obtain ⟨m, hm⟩ : ∃ m, m = B.length := ⟨_, rfl⟩
  have Hn := hidden hn
  have Hm := hidden hm
  rw [← hn] at hA HA ⊢
  rw [← hm] at hB HB ⊢
  clear hn hm
  go_enter Tryz.func105, Tryz.ntmps105
  go_wp2_with (refine makeInts (n + m) _ rfl rfl (by omega) (by omega) ?_)
  intro w1 hs1 hz1 ha1
  go_wp2_with (refine makeRow 4 (.bool false) 1 Tryz.underlying147 Tryz.infoB rfl (n + m) _ rfl rfl (by omega) (by omega) (by omega) ?_)
  intro w2 hs2 hz2 ha2
  have HR := hidden (And.intro (hs1.made hs2) (And.intro (ha1.made hs2) ha2))
  clear hs1 hs2 ha1 ha2
  obtain ⟨N, hN⟩ : ∃ N, N = n + m := ⟨_, rfl⟩
  rw [← hN] at HR ⊢
  have hN2 : N ≤ 200000 := by omega
  have HN := hidden hN
  clear hN
  have HM := hidden (show (mrg A B).length = N by rw [mrg_length, HN.out, Hn.out, Hm.out])
  have HL0 := hidden (Left.start A B)
  go_wp2
  go_loopw [0, 1, 8, 20] (fun x y _ i wr => ∃ k : Nat, k ≤ N ∧ i = .int .i64 k ∧ ∃ xo xn xc yo yn yc, x = .slice xo xn xc ∧ y = .slice yo yn yc ∧ Hid (∃ A' B', MI A B A' B' w w1 N k (.slice xo xn xc) (.slice yo yn yc) wr)) (fun _ _ _ i _ => N - (intOf i).toNat)
  case atStart =>
    refine ⟨0, Nat.zero_le _, rfl, _, _, _, _, _, _, rfl, rfl, A, B, HL0.out, HA.out.made HR.out.1, HB.out.made HR.out.1, HR.out.2.1.congr (fun j _ => by simp), HR.out.2.2.congr (fun j _ => by simp), HR.out.1, ?_, ?_⟩
    · intro p n c ne e
      obtain ⟨ao1, ca1, e2, _, _, h2⟩ := HA.out
      rw [e2] at e
      injection e with e3
      obtain ⟨b, o, rfl, hc⟩ := h2 p e3 ne
      exact World.block_lt_of_cell? w _ (hc 0 (by cases A; exact absurd rfl ne; simp))
    · intro p n c ne e
      obtain ⟨ao1, ca1, e2, _, _, h2⟩ := HB.out
      rw [e2] at e
      injection e with e3
      obtain ⟨b, o, rfl, hc⟩ := h2 p e3 ne
      exact World.block_lt_of_cell? w _ (hc 0 (by cases B; exact absurd rfl ne; simp))
  case round =>
    obtain ⟨k, hk, rfl, xo, xn, xc, yo, yn, yc, rfl, rfl, hrest⟩ := hrel
    obtain ⟨A', B', hq⟩ := hrest.out
    have HQ := hidden hq
    clear hq hrest
    by_cases hlt : k < N
    · have hlt' : (k : Int) < (N : Int) := by omega
      obtain ⟨f1, f2⟩ := HQ.out.af k hlt
      obtain ⟨g1, g2⟩ := HQ.out.vf k hlt
      have hne : w.heap.size ≠ w1.heap.size := by omega
      cases B' with
      | nil =>
        cases A' with
        | nil => have := HQ.out.left.2; simp at this; have := HN.out; have := Hn.out; have := Hm.out; omega
        | cons a A'' =>
            obtain ⟨b1, o1, rfl, c1, hxn, hxc⟩ := HQ.out.rx.head
            have hyn : yn = 0 := HQ.out.ry.slot
            subst hyn
            have HSG := hidden (sg_nil (a :: A''))
            have hbe : ((0 : Int) == 0) = true := rfl
            have hbN : b1 < w.heap.size := HQ.out.px _ _ _ (by simp) rfl
            go_wp2
            go_region
            go_wp2
            go_region
            all_goals go_wp2
            all_goals go_roundw
            all_goals first
              | exact ⟨k + 1, by omega, by go_num, _, _, _, _, _, _, rfl, rfl, _, _, (HQ.out.single hz1 HSG.out).drew.drew⟩
              | (simp [intOf]; omega)
      | cons b B'' =>
        obtain ⟨b2, o2, rfl, c2, hyn, hyc⟩ := HQ.out.ry.head
        have hb2N : b2 < w.heap.size := HQ.out.py _ _ _ (by simp) rfl
        have hbe : ((yn : Int) == 0) = false := by rw [beq_eq_false_iff_ne]; omega
        cases A' with
        | nil =>
            have hxn : xn = 0 := HQ.out.rx.slot
            subst hxn
            have HSG := hidden (sg_right b B'')
            have b1 := b2
            have hd : decide ((0 : Int) < 0) = false := rfl
            have hbN : b2 < w.heap.size := HQ.out.py _ _ _ (by simp) rfl
            go_wp2
            go_region
            go_wp2
            go_region
            all_goals go_wp2
            all_goals go_roundw
            all_goals first
              | exact ⟨k + 1, by omega, by go_num, _, _, _, _, _, _, rfl, rfl, _, _, (HQ.out.pair hz1 HSG.out).drew.drew⟩
              | (simp [intOf]; omega)
        | cons a A'' =>
            obtain ⟨b1, o1, rfl, c1, hxn, hxc⟩ := HQ.out.rx.head
            have hxn' : (0 : Int) < (xn : Int) := by omega
            by_cases hab : a ≤ b
            · have HSG := hidden (show sg (a :: A'') (b :: B'') = true by rw [sg_both]; simpa using hab)
              have hbN : b1 < w.heap.size := HQ.out.px _ _ _ (by simp) rfl
              go_wp2
              go_region
              go_wp2
              go_region
              all_goals go_wp2
              all_goals go_roundw
              all_goals first
                | exact ⟨k + 1, by omega, by go_num, _, _, _, _, _, _, rfl, rfl, _, _, (HQ.out.single hz1 HSG.out).drew.drew⟩
                | (simp [intOf]; omega)
            · have HSG := hidden (show sg (a :: A'') (b :: B'') = false by rw [sg_both]; simpa using hab)
              have hab' : decide (a ≤ b) = false := by simpa using hab
              have hab'' : b < a := by omega
              have hbN : b1 < w.heap.size := HQ.out.px _ _ _ (by simp) rfl
              go_wp2
              go_region
              go_wp2
              go_region
              all_goals go_wp2
              all_goals go_roundw
              all_goals first
                | exact ⟨k + 1, by omega, by go_num, _, _, _, _, _, _, rfl, rfl, _, _, (HQ.out.pair hz1 HSG.out).drew.drew⟩
                | (simp [intOf]; omega)
    · have e : k = N := by omega
      subst e
      go_wp2
      go_ret2
      refine ⟨_, _, rfl, HQ.out.af.ri (by rw [List.length_map, HM.out]) (Nat.le_refl _) (fun j hj => ?_), ⟨w1.heap.size, ?_, fun j hj => ?_⟩, ?_, ?_, HQ.out.st⟩
      · have hj2 : j < (mrg A B).length := by rw [HM.out]; exact hj
        simp [List.getD, hj, hj2]
      · rw [List.length_map, HM.out]; rfl
      · rw [List.length_map] at hj
        rw [(HQ.out.vf j (by rw [← HM.out]; exact hj)).1]
        simp [List.getD, hj]
        intro h
        have := HM.out
        omega
      · intro a n c h
        injection h with h1
        have := Option.some.inj h1
        subst this
        exact Nat.le_refl _
      · intro a n c h
        injection h with h1
        have := Option.some.inj h1
        subst this
        show w.heap.size ≤ w1.heap.size
        omega

end Go.Proofs.YtcgjmkcigmmjjaaGreatDoor

namespace Go.Proofs.YtcgjmkcigmmjjaaGreatDoor
open Go.RowKit
set_option maxRecDepth 100000
theorem hs_cell2 {w w' : World} (h : Step (fun _ => False) w w') {p : Addr} {v : Value} (hc : w.cell? p = some v) : w'.cell? p = some v := h.cell hc (fun h => h)

set_option maxHeartbeats 1000000 in
theorem paired_any (v : Value) (R : List Int) (w : World) (h : Ri w v R) (hl : R.length ≤ 100000) (hb : ∀ x ∈ R, 0 ≤ x ∧ x ≤ 1000000000000) :
    Calls Tryz.prog 106 #[v] w fun e w' => ∃ u, e = .returned u ∧ Ri w' u (pairs R) ∧ (∀ a n c, u = .slice (some a) n c → w.heap.size ≤ a.block) ∧ Step (fun _ => False) w w' := by
  have HR := hidden h
  have HB := hidden hb
  obtain ⟨ao, ca, rfl, hca, r1, r2⟩ := h
  have H1 := hidden r1
  have H2 := hidden r2
  obtain ⟨n, hn⟩ : ∃ n, n = R.length := ⟨_, rfl⟩
  have Hn := hidden hn
  rw [← hn] at hl hca HR ⊢
  clear hn r1 r2 hb
  have hq : Int.tdiv (n : Int) 2 = ((n / 2 : Nat) : Int) := by rw [Int.tdiv_eq_ediv_of_nonneg (by omega)]; omega
  obtain ⟨m, hm⟩ : ∃ m, m = n / 2 := ⟨_, rfl⟩
  have Hm := hidden hm
  rw [← hm] at hq
  have hm2 : 2 * m ≤ n := by omega
  have HP := hidden (show (pairs R).length = m by rw [pairs_length, ← Hn.out, hm])
  have HG := hidden (fun i (hi : i < m) => pairs_getD R i (by rw [← Hn.out, ← hm]; exact hi))
  clear hm
  go_enter Tryz.func106, Tryz.ntmps106
  go_wp2_with (refine makeInts m _ rfl rfl (by omega) (by omega) ?_)
  intro w1 hs1 hz1 ha1
  have HS := hidden hs1
  have HA := hidden ha1
  clear hs1 ha1 hq
  go_wp2
  go_loopw [4, 11] (fun _ i wr => ∃ k : Nat, k ≤ m ∧ i = .int .i64 k ∧ Hid (Af wr w.heap.size m (fun j => if j < k then (pairs R).getD j 0 else 0) ∧ Step (fun _ => False) w wr)) (fun _ i _ => m - (intOf i).toNat)
  case atStart => exact ⟨0, Nat.zero_le _, rfl, HA.out.congr (fun j _ => by simp), HS.out⟩
  case round =>
    obtain ⟨k, hk, rfl, hrest⟩ := hrel
    obtain ⟨q1, q2⟩ := hrest.out
    have HQ := hidden (And.intro q1 q2)
    clear hrest
    by_cases hlt : k < m
    · cases ao with
      | none => have := (H1.out rfl).1; have := Hn.out; subst R; simp at this; omega
      | some p =>
        obtain ⟨b1, o1, rfl, hc⟩ := H2.out p rfl (by intro e; have := Hn.out; subst e; simp at this; omega)
        have c1 := hs_cell2 q2 (hc (2 * k) (by have := Hn.out; omega))
        have c2 := hs_cell2 q2 (hc (2 * k + 1) (by have := Hn.out; omega))
        obtain ⟨f1, f2⟩ := q1 k hlt
        have hp := HG.out k hlt
        have m1 : R.getD (2 * k) 0 ∈ R := by rw [getD_i R _ (by have := Hn.out; omega)]; exact List.getElem_mem _
        have m2 : R.getD (2 * k + 1) 0 ∈ R := by rw [getD_i R _ (by have := Hn.out; omega)]; exact List.getElem_mem _
        have x1 := HB.out _ m1
        have x2 := HB.out _ m2
        have HP1 := hidden hp
        clear hc q1 q2 m1 m2 hp
        generalize R.getD (2 * k) 0 = x at *
        generalize R.getD (2 * k + 1) 0 = y at *
        have k1 : (k : Int) < (m : Int) := by omega
        have k2 : 2 * (k : Int) < (n : Int) := by omega
        have k3 : 2 * (k : Int) + 1 < (n : Int) := by omega
        have t1 : (2 * (k : Int)).toNat = 2 * k := by omega
        have t2 : (2 * (k : Int) + 1).toNat = 2 * k + 1 := by omega
        go_wp2
        go_region
        all_goals go_wp2
        all_goals go_roundw
        case rel =>
          refine ⟨k + 1, by omega, by go_num, ?_, (HQ.out.2.setCell _ _ (.inr (Nat.le_refl _))).drew⟩
          refine Af.congr (HQ.out.1.set k _) (fun j _ => ?_)
          unfold upd
          by_cases e : j = k
          · subst e; rw [if_pos rfl, if_pos (Nat.lt_succ_self _), HP1.out]
          · by_cases e2 : j < k
            · simp [e, e2, show j < k + 1 by omega]
            · simp [e, e2, show ¬ j < k + 1 by omega]
        case measure => simp [intOf]; omega
    · have e : k = m := by omega
      subst e
      go_wp2
      go_ret
      exact ⟨_, rfl, HQ.out.1.ri HP.out (Nat.le_refl _) (fun j hj => by simp [hj]), (fun a n c h => by injection h with h1; have := Option.some.inj h1; subst this; exact Nat.le_refl _), HQ.out.2⟩

/-- The rows of things, the longest codes first. -/
def rowN (W : List Int) : Nat → List (Int × Bool)
  | 0 => mrg W []
  | k + 1 => mrg W (pairs ((rowN W k).map (·.1)))

/-- The pairs that go into row k. -/
def prs (W : List Int) : Nat → List Int
  | 0 => []
  | k + 1 => pairs ((rowN W k).map (·.1))

theorem rowN_prs (W : List Int) (k : Nat) : rowN W k = mrg W (prs W k) := by cases k <;> rfl

theorem prs_length (W : List Int) : ∀ k, (prs W k).length ≤ W.length
  | 0 => by simp [prs]
  | k + 1 => by
    have := prs_length W k
    show (pairs ((rowN W k).map (·.1))).length ≤ W.length
    rw [pairs_length, List.length_map, rowN_prs, mrg_length]
    omega

theorem rowN_length (W : List Int) (k : Nat) : (rowN W k).length ≤ 2 * W.length := by
  have := prs_length W k
  rw [rowN_prs, mrg_length]
  omega

theorem mem_mrgN {P : Int → Prop} : ∀ (n : Nat) (A B : List Int), n ≤ A.length + B.length → (∀ x ∈ A, P x) → (∀ x ∈ B, P x) → ∀ x ∈ mrgN n A B, P x.1
  | 0, _, _, _, _, _, x, hx => by simp [mrgN] at hx
  | n + 1, A, B, hn, hA, hB, x, hx => by
    unfold mrgN at hx
    by_cases hs : sg A B = true
    · rw [if_pos hs] at hx
      cases A with
      | nil =>
        exfalso
        cases B with
        | nil => simp at hn
        | cons b B => simp [sg] at hs
      | cons a A =>
        rcases List.mem_cons.1 hx with rfl | hx
        · exact hA a (by simp)
        · exact mem_mrgN n A B (by simp at hn; omega) (fun y hy => hA y (by simp [hy])) hB x hx
    · rw [if_neg hs] at hx
      cases B with
      | nil => simp [sg] at hs
      | cons b B =>
        rcases List.mem_cons.1 hx with rfl | hx
        · exact hB b (by simp)
        · exact mem_mrgN n A B (by simp at hn; omega) hA (fun y hy => hB y (by simp [hy])) x hx

theorem mem_pairs {m : Int} : ∀ (R : List Int), (∀ x ∈ R, 0 ≤ x ∧ x ≤ m) → ∀ x ∈ pairs R, 0 ≤ x ∧ x ≤ 2 * m
  | [], _, x, hx => by simp [pairs] at hx
  | [_], _, x, hx => by simp [pairs] at hx
  | a :: b :: t, h, x, hx => by
    simp only [pairs] at hx
    rcases List.mem_cons.1 hx with rfl | hx
    · have h1 := h a (by simp)
      have h2 := h b (by simp)
      omega
    · exact mem_pairs t (fun y hy => h y (by simp [hy])) x hx

theorem rowN_mem (W : List Int) (h : ∀ x ∈ W, 0 ≤ x ∧ x ≤ 1048576) : ∀ k, ∀ x ∈ (rowN W k).map (·.1), 0 ≤ x ∧ x ≤ 1048576 * 2 ^ k
  | 0, x, hx => by
    obtain ⟨y, hy, rfl⟩ := List.mem_map.1 hx
    have := mem_mrgN (P := fun x => 0 ≤ x ∧ x ≤ 1048576) _ W [] (Nat.le_refl _) h (by simp) y hy
    simpa using this
  | k + 1, x, hx => by
    obtain ⟨y, hy, rfl⟩ := List.mem_map.1 hx
    have ih := rowN_mem W h k
    have hp := mem_pairs _ ih
    have p1 : (1 : Int) ≤ 2 ^ k := ipow_pos k
    refine mem_mrgN (P := fun x => 0 ≤ x ∧ x ≤ 1048576 * 2 ^ (k + 1)) _ W _ (Nat.le_refl _) (fun z hz => ?_) (fun z hz => ?_) y hy
    · have := h z hz
      rw [Int.pow_succ]
      omega
    · have := hp z hz
      rw [Int.pow_succ]
      omega

theorem rowN_bd (W : List Int) (h : ∀ x ∈ W, 0 ≤ x ∧ x ≤ 1048576) (k : Nat) (hk : k ≤ 15) : ∀ x ∈ (rowN W k).map (·.1), 0 ≤ x ∧ x ≤ 1000000000000 := fun x hx => by
  have h1 := rowN_mem W h k x hx
  have h2 := ipow_le_24 15 (by omega)
  have : (2 ^ k : Nat) ≤ 2 ^ 15 := Nat.pow_le_pow_right (by omega) hk
  have e : ((2 ^ k : Nat) : Int) = (2 : Int) ^ k := by simp
  omega

/-- The rows that lie in block T. -/
def Told (w : World) (T m : Nat) (W : List Int) (base : Nat) : Prop := ∀ j, j < m → ∃ u, w.cell? ⟨T, j, none⟩ = some u ∧ Rb w u ((rowN W j).map (·.2)) ∧ ∀ a n c, u = .slice (some a) n c → base ≤ a.block

theorem Told.made {w w' : World} {T m : Nat} {W : List Int} {base : Nat} (h : Told w T m W base) (hs : Step (fun _ => False) w w') : Told w' T m W base := fun j hj => by
  obtain ⟨u, h1, h2, h3⟩ := h j hj
  exact ⟨u, hs_cell2 hs h1, h2.made hs, h3⟩

theorem Told.set {w : World} {T m : Nat} {W : List Int} {base : Nat} (h : Told w T m W base) (hT : T < base) {u : Value} (hu : Rb w u ((rowN W m).map (·.2))) (hub : ∀ a n c, u = .slice (some a) n c → base ≤ a.block) (hc : (w.cell? ⟨T, m, none⟩).isSome = true) :
    Told (w.setCell ⟨T, m, none⟩ u) T (m + 1) W base := fun j hj => by
  have hst : Step (fun k => k = T) w (w.setCell ⟨T, m, none⟩ u) := (Step.refl _ w).setCell _ _ (.inl rfl)
  by_cases e : j = m
  · subst e
    exact ⟨u, World.cell?_setCell_same' _ _ _ hc, hu.step hst (fun a n c e _ => by have := hub a n c e; omega), hub⟩
  · obtain ⟨x, h1, h2, h3⟩ := h j (by omega)
    refine ⟨x, ?_, h2.step hst (fun a n c e _ => by have := h3 a n c e; omega), h3⟩
    rw [World.cell?_setCell_other (a := ⟨T, m, none⟩) (b := ⟨T, j, none⟩) _ _ (by intro e2; apply e; injection e2 with _ e3; omega)]
    exact h1

theorem Tryz.infoR : (Tryz.prog.info? 147).map (fun i => (i.zero, i.size, i.bytes)) = some (some (.slice none 0 0), 1, 24) := by kernel_rfl

set_option maxHeartbeats 2000000 in
theorem rows_any (v : Value) (W : List Int) (m : Nat) (w : World) (h : Ri w v W) (hl : W.length ≤ 10000) (hm : m ≤ 15) (hb : ∀ x ∈ W, 0 ≤ x ∧ x ≤ 1048576) :
    Calls Tryz.prog 100 #[v, .int .i64 (m : Int)] w fun e w' => ∃ T, e = .returned (.slice (some ⟨T, 0, none⟩) m m) ∧ w.heap.size ≤ T ∧ T < w'.heap.size ∧ Told w' T m W w.heap.size ∧ Step (fun _ => False) w w' := by
  have HR := hidden h
  have HB := hidden hb
  clear h hb
  go_enter Tryz.func100, Tryz.ntmps100
  go_wp2_with (refine makeRow 147 (.slice none 0 0) 24 Tryz.underlying146 Tryz.infoR rfl m _ rfl rfl rfl (by omega) (by omega) ?_)
  intro w1 hs1 hz1 ha1
  have HS := hidden hs1
  have HA := hidden ha1
  clear hs1 ha1
  go_wp2
  go_loopw [6, 7, 8, 9, 14] (fun p _ _ _ i wr => ∃ k : Nat, k ≤ m ∧ i = .int .i64 k ∧ Hid (Ri wr p (prs W k) ∧ Told wr w.heap.size k W (w.heap.size + 1) ∧ (∀ j, j < m → (wr.cell? ⟨w.heap.size, j, none⟩).isSome = true ∧ wr.frozen? ⟨w.heap.size, j, none⟩ = false) ∧ Step (fun _ => False) w wr ∧ w1.heap.size ≤ wr.heap.size)) (fun _ _ _ _ i _ => m - (intOf i).toNat)
  case atStart => exact ⟨0, Nat.zero_le _, rfl, ri_nil _, (fun j hj => by omega), (fun j hj => ⟨by rw [(HA.out j hj).1]; rfl, (HA.out j hj).2⟩), HS.out, Nat.le_refl _⟩
  case round =>
    obtain ⟨k, hk, rfl, hrest⟩ := hrel
    by_cases hlt : k < m
    · have k1 : (k : Int) < (m : Int) := by omega
      obtain ⟨q1, q2, q3, q4, q5⟩ := hrest.out
      have HQ := hidden (And.intro q2 (And.intro q3 (And.intro q4 q5)))
      have HM := hidden (merge_any v _ W (prs W k) wr (HR.out.made q4) q1 (by omega) (by have := prs_length W k; omega))
      have HRW := hidden (rowN_prs W k)
      clear q1 q2 q3 q4 q5 hrest
      go_wp2_with (go_at_call 105; refine HM.out.mono ?_)
      rintro e w2 ⟨v2, u2, rfl, r1, r2, r3, r4, r5⟩
      rw [← HRW.out] at r1 r2
      have hw0 : w.heap.size < wr.heap.size := by have := HQ.out.2.2.2; omega
      have HC := hidden (And.intro r1 (And.intro r2 (And.intro r3 (And.intro r4 r5))))
      have q3 := HQ.out.2.1 k hlt
      obtain ⟨cv, hcv⟩ := Option.isSome_iff_exists.1 q3.1
      have c1 := hs_cell2 r5 hcv
      have c2 : w2.frozen? ⟨w.heap.size, k, none⟩ = false := (r5.frozen (p := ⟨w.heap.size, k, none⟩) hw0 (fun h => h)).trans q3.2
      obtain ⟨bu, hu, _⟩ := r2
      clear q3 hcv r1 r3 r4 r5
      subst hu
      have HPA := hidden (fun (w3 : World) (h : Ri w3 v2 ((rowN W k).map (·.1))) => paired_any v2 ((rowN W k).map (·.1)) w3 h (by have := rowN_length W k; simp; omega) (rowN_bd W HB.out k (by omega)))
      have HC2 : Hid (Ri (w2.setCell ⟨w.heap.size, k, none⟩ (.slice (some ⟨bu, 0, none⟩) ((rowN W k).map (·.2)).length ((rowN W k).map (·.2)).length)) v2 ((rowN W k).map (·.1))) := HC.out.1.far _ _ (fun p n c _ e => by have := HC.out.2.2.1 p n c e; show p.block ≠ w.heap.size; omega)
      have HC3 := hidden (Told.set (T := w.heap.size) (base := w.heap.size + 1) (HQ.out.1.made HC.out.2.2.2.2) (by omega) HC.out.2.1 (fun a n c e => by have := HC.out.2.2.2.1 a n c e; omega) (by rw [c1]; rfl))
      generalize ((rowN W k).map (·.2)).length = len at *
      go_wp2_with (go_at_call 106; refine (HPA.out _ HC2.out).mono ?_)
      rintro e w4 ⟨u4, rfl, p1, p2, p3⟩
      have HP := hidden (And.intro p1 p3)
      clear p1 p2 p3
      go_wp2
      go_roundw
      case rel =>
        have hst : Step (fun k => k = w.heap.size) w2 (w2.setCell ⟨w.heap.size, k, none⟩ (.slice (some ⟨bu, 0, none⟩) len len)) := (Step.refl _ w2).setCell _ _ (.inl rfl)
        refine ⟨k + 1, by omega, by go_num, HP.out.1, HC3.out.made HP.out.2, fun j hj => ?_, ?_, ?_⟩
        · have q := HQ.out.2.1 j hj
          obtain ⟨cv2, hcv2⟩ := Option.isSome_iff_exists.1 q.1
          have c3 := hs_cell2 HC.out.2.2.2.2 hcv2
          have f3 : w2.frozen? ⟨w.heap.size, j, none⟩ = false := (HC.out.2.2.2.2.frozen (p := ⟨w.heap.size, j, none⟩) hw0 (fun h => h)).trans q.2
          have c4 : ((w2.setCell ⟨w.heap.size, k, none⟩ (.slice (some ⟨bu, 0, none⟩) len len)).cell? ⟨w.heap.size, j, none⟩).isSome = true := by
            by_cases e : j = k
            · subst e; rw [World.cell?_setCell_same' _ _ _ (by rw [c1]; rfl)]; rfl
            · rw [World.cell?_setCell_other (a := ⟨w.heap.size, k, none⟩) (b := ⟨w.heap.size, j, none⟩) _ _ (by intro e2; apply e; injection e2 with _ e3; omega), c3]; rfl
          obtain ⟨cv5, hcv5⟩ := Option.isSome_iff_exists.1 c4
          refine ⟨by rw [hs_cell2 HP.out.2 hcv5]; rfl, ?_⟩
          rw [HP.out.2.frozen (p := ⟨w.heap.size, j, none⟩) (World.block_lt_of_cell? _ _ hcv5) (fun h => h), World.frozen?_setCell]
          exact f3
        · exact ((HQ.out.2.2.1.made HC.out.2.2.2.2).setCell _ _ (.inr (Nat.le_refl _))).made HP.out.2
        · have h1 := HQ.out.2.2.2
          have h2 := HC.out.2.2.2.2.size
          have h3 := HP.out.2.size
          have h4 := hst.size
          omega
      case measure => simp [intOf]; omega
    · have e : k = m := by omega
      subst e
      go_wp2
      go_ret
      obtain ⟨q1, q2, q3, q4, q5⟩ := hrest.out
      exact ⟨w.heap.size, rfl, Nat.le_refl _, by omega, fun j hj => by obtain ⟨u, h1, h2, h3⟩ := q2 j hj; exact ⟨u, h1, h2, fun a n c e => by have := h3 a n c e; omega⟩, q4⟩

end Go.Proofs.YtcgjmkcigmmjjaaGreatDoor

namespace Go.Proofs.YtcgjmkcigmmjjaaGreatDoor
/-- Which things of row k are singles. -/
def told (W : List Int) (k : Nat) : List Bool := (rowN W k).map (·.2)

theorem told_length (W : List Int) (k : Nat) : (told W k).length = W.length + (prs W k).length := by
  unfold told
  rw [List.length_map, rowN_prs, mrg_length]

/-- How many of the first t things of row k are singles. -/
def sing (W : List Int) (k t : Nat) : Nat := ((told W k).take t).count true

/-- How many things are taken in each round, of m rows. -/
def tk (W : List Int) (m : Nat) : Nat → Nat
  | 0 => 2 * W.length - 2
  | r + 1 => 2 * (tk W m r - sing W (m - 1 - r) (tk W m r))

/-- What a symbol has got when r rounds are over. -/
def lf (D W : List Int) (m : Nat) : Nat → Nat → Int
  | 0, _ => 0
  | r + 1, i => lf D W m r i + (((D.take (sing W (m - 1 - r) (tk W m r))).count (i : Int) : Nat) : Int)

theorem count_mrgN : ∀ (n : Nat) (A B : List Int), n = A.length + B.length → ((mrgN n A B).map (·.2)).count true = A.length ∧ ((mrgN n A B).map (·.2)).count false = B.length
  | 0, A, B, h => by
    have : A.length = 0 := by omega
    have : B.length = 0 := by omega
    simp [mrgN]
    omega
  | n + 1, A, B, h => by
    unfold mrgN
    by_cases hs : sg A B = true
    · rw [if_pos hs]
      cases A with
      | nil =>
        exfalso
        cases B with
        | nil => simp at h
        | cons b B => simp [sg] at hs
      | cons a A =>
        have ih := count_mrgN n A B (by simp at h; omega)
        simp only [List.map_cons, List.tail_cons, List.count_cons, ih.1, ih.2]
        simp
    · rw [if_neg hs]
      cases B with
      | nil => simp [sg] at hs
      | cons b B =>
        have ih := count_mrgN n A B (by simp at h; omega)
        simp only [List.map_cons, List.tail_cons, List.count_cons, ih.1, ih.2]
        simp

theorem told_true (W : List Int) (k : Nat) : (told W k).count true = W.length := by
  unfold told
  rw [rowN_prs]
  exact (count_mrgN _ W (prs W k) rfl).1

theorem told_false (W : List Int) (k : Nat) : (told W k).count false = (prs W k).length := by
  unfold told
  rw [rowN_prs]
  exact (count_mrgN _ W (prs W k) rfl).2

theorem count_both (T : List Bool) : T.count true + T.count false = T.length := by
  induction T with
  | nil => rfl
  | cons b T ih => cases b <;> simp <;> omega

theorem count_take_le (T : List Bool) (b : Bool) (t : Nat) : (T.take t).count b ≤ T.count b := (List.take_sublist t T).count_le b

theorem sing_le (W : List Int) (k t : Nat) : sing W k t ≤ W.length := by
  have := count_take_le (told W k) true t
  rw [told_true] at this
  exact this

theorem sing_le_t (W : List Int) (k t : Nat) : sing W k t ≤ t := by
  unfold sing
  exact Nat.le_trans List.count_le_length (by simp; omega)

theorem rest_le (W : List Int) (k t : Nat) (h : t ≤ (told W k).length) : t - sing W k t ≤ (prs W k).length := by
  have h1 := count_both ((told W k).take t)
  have h2 := count_take_le (told W k) false t
  rw [told_false] at h2
  rw [List.length_take] at h1
  unfold sing
  omega

theorem prs_succ_length (W : List Int) (k : Nat) : (prs W (k + 1)).length = (told W k).length / 2 := by
  show (pairs ((rowN W k).map (·.1))).length = _
  rw [pairs_length, told]
  simp

/-- The rows are long enough. -/
theorem told_long (W : List Int) (j : Nat) (h : W.length ≤ 2 ^ j) : ∀ k, k < j → 2 * W.length ≤ (told W k).length + 2 ^ (j - k)
  | 0, hk => by
    rw [told_length]
    simp only [Nat.sub_zero]
    omega
  | k + 1, hk => by
    have ih := told_long W j h k (by omega)
    rw [told_length, prs_succ_length]
    have e : 2 ^ (j - k) = 2 * 2 ^ (j - (k + 1)) := by
      rw [show j - k = (j - (k + 1)) + 1 by omega, Nat.pow_succ]; omega
    rw [e] at ih
    omega

theorem tk_le (W : List Int) (m : Nat) (h : W.length ≤ 2 ^ m) : ∀ r, r < m → tk W m r ≤ (told W (m - 1 - r)).length
  | 0, hr => by
    have := told_long W m h (m - 1) (by omega)
    rw [show m - (m - 1) = 1 by omega] at this
    simp only [tk, Nat.sub_zero]
    omega
  | r + 1, hr => by
    have ih := tk_le W m h r (by omega)
    have h1 := rest_le W (m - 1 - r) (tk W m r) ih
    have h2 : (prs W (m - 1 - r)).length = (told W (m - 1 - (r + 1))).length / 2 := by
      rw [show m - 1 - r = (m - 1 - (r + 1)) + 1 by omega, prs_succ_length]
    simp only [tk]
    omega

/-- One more thing of a row. -/
theorem sing_yes (W : List Int) (k p : Nat) (hp : p < (told W k).length) (h : (told W k).getD p false = true) : sing W k (p + 1) = sing W k p + 1 ∧ sing W k p < W.length := by
  have e : (told W k).take (p + 1) = (told W k).take p ++ [true] := by
    rw [List.take_succ_eq_append_getElem hp]
    have : (told W k)[p] = true := by simpa [List.getD, hp] using h
    rw [this]
  have h1 : sing W k (p + 1) = sing W k p + 1 := by
    unfold sing
    rw [e, List.count_append]
    rfl
  have := sing_le W k (p + 1)
  exact ⟨h1, by omega⟩

theorem sing_no (W : List Int) (k p : Nat) (hp : p < (told W k).length) (h : (told W k).getD p false = false) : sing W k (p + 1) = sing W k p := by
  have e : (told W k).take (p + 1) = (told W k).take p ++ [false] := by
    rw [List.take_succ_eq_append_getElem hp]
    have : (told W k)[p] = false := by simpa [List.getD, hp] using h
    rw [this]
  unfold sing
  rw [e, List.count_append]
  rfl

theorem sing_zero (W : List Int) (k : Nat) : sing W k 0 = 0 := rfl

/-- The lengths that are answered. -/
def lensOf (O D : List Int) (m : Nat) : List Int := (List.range O.length).map fun (i : Nat) => if D.length < 2 then ((D.count (i : Int) : Nat) : Int) else lf D (D.map (key O)) m m i

theorem lensOf_length (O D : List Int) (m : Nat) : (lensOf O D m).length = O.length := by simp [lensOf]

theorem lensOf_getD (O D : List Int) (m i : Nat) (h : i < O.length) : (lensOf O D m).getD i 0 = if D.length < 2 then ((D.count (i : Int) : Nat) : Int) else lf D (D.map (key O)) m m i := by
  simp [lensOf, List.getD, h]

theorem take_count_snoc (D : List Int) (c : Nat) (hc : c < D.length) (i : Int) : (D.take (c + 1)).count i = (D.take c).count i + if D.getD c 0 = i then 1 else 0 := by
  rw [List.take_succ_eq_append_getElem hc, List.count_append, List.count_singleton, getD_i D c hc]
  by_cases e : D[c] = i <;> simp [e]

theorem lf_bd (D W : List Int) (m : Nat) (i : Nat) (hD : D.length ≤ 1000) : ∀ r, 0 ≤ lf D W m r i ∧ lf D W m r i ≤ 1000 * r
  | 0 => by simp [lf]
  | r + 1 => by
    have ih := lf_bd D W m i hD r
    have h1 := List.count_le_length (a := (i : Int)) (l := D.take (sing W (m - 1 - r) (tk W m r)))
    have h2 : (D.take (sing W (m - 1 - r) (tk W m r))).length ≤ D.length := by simp; omega
    simp only [lf]
    omega

end Go.Proofs.YtcgjmkcigmmjjaaGreatDoor

namespace Go.Proofs.YtcgjmkcigmmjjaaGreatDoor
open Go.RowKit
set_option maxRecDepth 100000
theorem nan_any (x : Int) (w : World) : Calls Tryz.prog 108 #[.int .i64 x] w fun e w' => e = .returned (.bool false) ∧ w' = w := by
  have h : (x != x) = false := by simp
  go_enter Tryz.func108, Tryz.ntmps108
  go_wp2
  go_ret
  exact ⟨rfl, rfl⟩

def cmpI (x y : Int) : Int := if x < y then -1 else if y < x then 1 else 0

theorem compare_any (x y : Int) (w : World) : Calls Tryz.prog 103 #[.int .i64 x, .int .i64 y] w fun e w' => e = .returned (.int .i64 (cmpI x y)) ∧ w' = w := by
  by_cases h1 : x < y
  · have HE := hidden (show cmpI x y = -1 by simp [cmpI, h1])
    go_enter Tryz.func103, Tryz.ntmps103
    go_wp2_with (go_at_call 108; refine (nan_any _ _).mono ?_; rintro e w' ⟨rfl, rfl⟩)
    go_ret
    exact ⟨by rw [HE.out]; rfl, rfl⟩
  · by_cases h2 : y < x
    · have HE := hidden (show cmpI x y = 1 by simp [cmpI, h1, h2])
      go_enter Tryz.func103, Tryz.ntmps103
      go_wp2_with (go_at_call 108; refine (nan_any _ _).mono ?_; rintro e w' ⟨rfl, rfl⟩)
      go_ret
      exact ⟨by rw [HE.out]; rfl, rfl⟩
    · have HE := hidden (show cmpI x y = 0 by simp [cmpI, h1, h2])
      go_enter Tryz.func103, Tryz.ntmps103
      go_wp2_with (go_at_call 108; refine (nan_any _ _).mono ?_; rintro e w' ⟨rfl, rfl⟩)
      go_ret
      exact ⟨by rw [HE.out]; rfl, rfl⟩

/-- What the sort's comparison reads: a box B with the slice v, which reads as O; neither lies in block g. -/
structure Env (w : World) (B g : Nat) (v : Value) (O : List Int) : Prop where
  box : w.cell? ⟨B, 0, none⟩ = some v
  ri : Ri w v O
  bg : B ≠ g
  vg : ∀ a n c, v = .slice (some a) n c → O ≠ [] → a.block ≠ g

theorem Env.step {w w' : World} {B g : Nat} {v : Value} {O : List Int} (h : Env w B g v O) (hs : Step (fun k => k = g) w w') : Env w' B g v O :=
  ⟨hs.cell h.box h.bg, h.ri.step hs (fun a n c e ne => h.vg a n c e ne), h.bg, h.vg⟩

theorem Env.drewN {w : World} {B g : Nat} {v : Value} {O : List Int} (h : Env w B g v O) (n : Nat) : Env (w.drewN n) B g v O := ⟨h.box, h.ri, h.bg, h.vg⟩

set_option maxHeartbeats 1000000 in
theorem closure_any (a b B g : Nat) (v : Value) (O : List Int) (w : World) (h : Env w B g v O) (ha : a < O.length) (hb : b < O.length) (hl : O.length ≤ 100000) :
    Calls Tryz.prog 102 #[.int .i64 (a : Int), .int .i64 (b : Int), .pointer (some ⟨B, 0, none⟩)] w fun e w' => e = .returned (.int .i64 (cmpI (O.getD a 0) (O.getD b 0))) ∧ ∃ n, w' = w.drewN n := by
  obtain ⟨hbox, hr, _, _⟩ := h
  obtain ⟨ao, cap, rfl, hcap, r1, r2⟩ := hr
  cases ao with
  | none => have := (r1 rfl).1; subst this; simp at ha
  | some ad =>
    obtain ⟨ba, oa, rfl, ka⟩ := r2 ad rfl (by intro e; subst e; simp at ha)
    have c1 := ka a ha
    have c2 := ka b hb
    have ha' : (a : Int) < (O.length : Int) := by omega
    have hb' : (b : Int) < (O.length : Int) := by omega
    generalize O.getD a 0 = x at *
    generalize O.getD b 0 = y at *
    generalize O.length = n at *
    clear ka r1 r2
    go_enter Tryz.func102, Tryz.ntmps102
    go_wp2
    go_quiet ((go_at_call 103; exact Calls.quiet_of_same (compare_any _ _ _)))
    go_wp2
    go_ret
    exact ⟨rfl, _, rfl⟩

end Go.Proofs.YtcgjmkcigmmjjaaGreatDoor

namespace Go.Proofs.YtcgjmkcigmmjjaaGreatDoor
open Go.RowKit
set_option maxRecDepth 100000
/-- The row in block g reads as D, and may be written. -/
abbrev Row (w : World) (g : Nat) (D : List Int) : Prop := Af w g D.length (fun k => D.getD k 0)

theorem cmpI_lt (x y : Int) : (cmpI x y < 0) ↔ x < y := by
  unfold cmpI
  by_cases h : x < y
  · simp [h]
  · by_cases h2 : y < x <;> simp [h, h2]

theorem row_swp {w : World} {g : Nat} {D : List Int} (h : Row w g D) (i j : Nat) (hi : i < D.length) (hj : j < D.length) (q : Nat) :
    Row ((((w.drewN q).setCell ⟨g, i, none⟩ (.int .i64 (D.getD j 0))).setCell ⟨g, j, none⟩ (.int .i64 (D.getD i 0)))) g (swp D i j) := by
  unfold Row
  rw [swp_length]
  refine (((h.drewN q).set i _).set j _).congr (fun k _ => ?_)
  rw [swp_getD D i j k hi hj]
  rfl

set_option maxHeartbeats 2000000 in
theorem ins_any (O : List Int) (v : Value) (B g : Nat) (D : List Int) (a b cap : Nat) (w : World) (hE : Env w B g v O) (hD : Row w g D) (hin : InO O D) (hab : a ≤ b) (hb : b ≤ D.length) (hn : D.length ≤ 100000) (hO : O.length ≤ 100000) :
    Calls Tryz.prog 109 #[.slice (some ⟨g, 0, none⟩) D.length cap, .int .i64 (a : Int), .int .i64 (b : Int), .func (.func 102) #[] #[.pointer (some ⟨B, 0, none⟩)]] w
      fun e w' => (∃ u, e = .returned u) ∧ ∃ D', Srt O D a b D' ∧ Row w' g D' ∧ Step (fun k => k = g) w w' := by
  have HE := hidden hE
  have HD := hidden hD
  have HI := hidden hin
  obtain ⟨n, hnn⟩ : ∃ n, n = D.length := ⟨_, rfl⟩
  have Hn := hidden hnn
  rw [← hnn] at hb hn ⊢
  clear hE hD hin hnn
  go_enter Tryz.func109, Tryz.ntmps109
  go_wp2
  go_loopw [8] (fun i wr => ∃ k : Nat, i = .int .i64 (k : Int) ∧ a < k ∧ k ≤ n + 1 ∧ Hid (∃ D', Mix O D a b D' ∧ Sr O D' a k ∧ k ≤ max b (a + 1) ∧ Row wr g D' ∧ Step (fun k => k = g) w wr)) (fun i _ => n + 2 - (intOf i).toNat)
  case atStart => exact ⟨a + 1, by go_num, by omega, by omega, D, Mix.refl O D a b, (fun p q h1 h2 h3 => by omega), by omega, HD.out, Step.refl _ _⟩
  case round =>
    obtain ⟨k, rfl, hak, hkn, hrest⟩ := hrel
    by_cases hlt : k < b
    · have hlt' : (k : Int) < (b : Int) := by omega
      have HM := hrest
      clear hrest
      go_wp2
      go_loopw [9] (fun jv wr => ∃ j : Nat, jv = .int .i64 (j : Int) ∧ a ≤ j ∧ j ≤ k ∧ Hid (∃ D', Mix O D a b D' ∧ Sunk O D' a k j ∧ Row wr g D' ∧ Step (fun k => k = g) w wr)) (fun jv _ => (intOf jv).toNat)
      case atStart =>
        obtain ⟨D', h1, h2, _, h4, h5⟩ := HM.out
        exact ⟨k, rfl, by omega, by omega, D', h1, Sunk.start h2, h4, h5⟩
      case round =>
        obtain ⟨j, rfl, haj, hjk, hrest⟩ := hrel
        obtain ⟨D', m1, m2, m3, m4⟩ := hrest.out
        have hl' : D'.length = n := by rw [m1.perm.length_eq]; exact Hn.out.symm
        have HM1 := hidden m1
        have HM2 := hidden m2
        have HM3 := hidden m3
        have HM4 := hidden m4
        have HL' := hidden hl'
        clear m1 m2 m3 m4 hl' hrest HM
        by_cases hja : a < j
        · have hja' : (a : Int) < (j : Int) := by omega
          have hj1 : (j : Int) < (n : Int) := by omega
          have hE' := HE.out.step HM4.out
          obtain ⟨x, ex, hx⟩ := (HI.out.perm HM1.out.perm).at (k := j) (by have := HL'.out; omega)
          obtain ⟨y, ey, hy⟩ := (HI.out.perm HM1.out.perm).at (k := j - 1) (by have := HL'.out; omega)
          have cx := HM3.out j (by have := HL'.out; omega)
          have cy := HM3.out (j - 1) (by have := HL'.out; omega)
          have HEE := hidden hE'
          have HXY := hidden (And.intro ex ey)
          obtain ⟨cx, fx⟩ := cx
          obtain ⟨cy, fy⟩ := cy
          simp only [ex] at cx
          simp only [ey] at cy
          have HC := hidden (fun q => closure_any x y B g v O (wr.drewN q) (HEE.out.drewN q) hx hy hO)
          have ej : (j : Int) - 1 = ((j - 1 : Nat) : Int) := by omega
          clear ex ey hE' hx hy
          by_cases hlt2 : key O (D'.getD j 0) < key O (D'.getD (j - 1) 0)
          · have hcm : decide (cmpI (O.getD x 0) (O.getD y 0) < 0) = true := by
              rw [decide_eq_true_eq, cmpI_lt]
              have h := hlt2
              rw [HXY.out.1, HXY.out.2] at h
              simpa [key] using h
            have hcm : cmpI (O.getD x 0) (O.getD y 0) < 0 := by simpa using hcm
            generalize cmpI (O.getD x 0) (O.getD y 0) = cv at *
            go_wp2
            go_quiet ((go_at_call 102; exact Calls.quiet_of (HC.out _)))
            go_wp2
            go_region
            all_goals
              go_wp2
              go_roundw
              case rel =>
                refine ⟨j - 1, rfl, by omega, by omega, swp D' j (j - 1), HM1.out.trans (Mix.swp (by have := HL'.out; omega) (by omega) hlt2), HM2.out.next hja hjk (by have := HL'.out; omega) hlt2, ?_, ?_⟩
                · have := fun q => row_swp HM3.out j (j - 1) (by have := HL'.out; omega) (by have := HL'.out; omega) q
                  rw [HXY.out.1, HXY.out.2] at this
                  exact this _
                · exact ((HM4.out.drewN _).setCell _ _ (.inl rfl)).setCell _ _ (.inl rfl)
              case measure => simp [intOf]; omega
          · have hcm : 0 ≤ cmpI (O.getD x 0) (O.getD y 0) := by
              have h2 := cmpI_lt (O.getD x 0) (O.getD y 0)
              have h := hlt2
              rw [HXY.out.1, HXY.out.2] at h
              simp [key] at h
              simp only [List.getD] at *
              omega
            generalize cmpI (O.getD x 0) (O.getD y 0) = cv at *
            go_wp2
            go_quiet ((go_at_call 102; exact Calls.quiet_of (HC.out _)))
            go_wp2
            go_roundw
            case rel => exact ⟨k + 1, by go_num, by omega, by omega, D', HM1.out, HM2.out.stop' hja (by omega), by omega, HM3.out, HM4.out.drewN _⟩
            case measure => simp [intOf]; omega
        · have ej : j = a := by omega
          subst ej
          have hd : decide ((j : Int) < (j : Int)) = false := by simp
          go_wp2
          go_quiet (fail)
          go_wp2
          go_roundw
          case rel => exact ⟨k + 1, by go_num, by omega, by omega, D', HM1.out, HM2.out.stop, by omega, HM3.out, HM4.out.drewN _⟩
          case measure => simp [intOf]; omega
    · have hlt' : ¬ (k : Int) < (b : Int) := by omega
      go_wp2
      go_end0
      refine ⟨⟨_, rfl⟩, ?_⟩
      obtain ⟨D', h1, h2, h3, h4, h5⟩ := hrest.out
      refine ⟨D', ⟨h1.perm, h1.out, fun p q e1 e2 e3 => h2 p q e1 e2 (by omega), h1.stb⟩, h4, h5⟩

end Go.Proofs.YtcgjmkcigmmjjaaGreatDoor

namespace Go.Proofs.YtcgjmkcigmmjjaaGreatDoor
open Go.RowKit
set_option maxRecDepth 100000
/-- The comparison as the program hands it on. -/
abbrev cmpV (B : Nat) : Value := .func (.func 102) #[] #[.pointer (some ⟨B, 0, none⟩)]

/-- Rows of n symbols are sorted. -/
def SortOk (n : Nat) : Prop := ∀ (O : List Int) (v : Value) (B g : Nat) (D : List Int) (cap : Nat) (w : World), Env w B g v O → Row w g D → InO O D → D.length = n → O.length ≤ 100000 →
  Calls Tryz.prog 101 #[.slice (some ⟨g, 0, none⟩) D.length cap, cmpV B] w fun e w' => (∃ u, e = .returned u) ∧ ∃ D', Srt O D 0 n D' ∧ Row w' g D' ∧ Step (fun k => k = g) w w'

theorem stable_small (O : List Int) (v : Value) (B g : Nat) (D : List Int) (cap : Nat) (w : World) (hE : Env w B g v O) (hD : Row w g D) (hin : InO O D) (hl : D.length < 20) (hO : O.length ≤ 100000) :
    Calls Tryz.prog 107 #[.slice (some ⟨g, 0, none⟩) D.length cap, .int .i64 (D.length : Int), cmpV B] w fun e w' => (∃ u, e = .returned u) ∧ ∃ D', Srt O D 0 D.length D' ∧ Row w' g D' ∧ Step (fun k => k = g) w w' := by
  have HI := hidden (ins_any O v B g D 0 D.length cap w hE hD hin (Nat.zero_le _) (Nat.le_refl _) (by omega) hO)
  generalize D.length = n at *
  clear hE hD hin
  have h1 : ¬ (20 : Int) ≤ (n : Int) := by omega
  have h2 : ¬ (20 : Int) < (n : Int) := by omega
  go_enter Tryz.func107, Tryz.ntmps107
  go_wp2
  go_loopw [7, 8] (fun a b wr => a = .int .i64 0 ∧ b = .int .i64 20 ∧ wr = w) (fun _ _ _ => 0)
  case atStart => exact ⟨rfl, rfl, rfl⟩
  case round =>
    obtain ⟨rfl, rfl, rfl⟩ := hrel
    go_wp2_with (go_at_call 109; refine HI.out.mono ?_)
    rintro e w2 ⟨⟨u, rfl⟩, hrest⟩
    have HR := hidden hrest
    clear hrest
    go_wp2
    go_loopw [6, 7, 8, 9] (fun s _ _ _ wr => s = .int .i64 20 ∧ wr = w2) (fun _ _ _ _ _ => 0)
    case atStart => exact ⟨rfl, rfl⟩
    case round =>
      obtain ⟨rfl, rfl⟩ := hrel
      go_wp2
      go_end0
      exact ⟨⟨_, rfl⟩, HR.out⟩

theorem sort_of_stable (n : Nat) (hs : ∀ (O : List Int) (v : Value) (B g : Nat) (D : List Int) (cap : Nat) (w : World), Env w B g v O → Row w g D → InO O D → D.length = n → O.length ≤ 100000 →
    Calls Tryz.prog 107 #[.slice (some ⟨g, 0, none⟩) D.length cap, .int .i64 (D.length : Int), cmpV B] w fun e w' => (∃ u, e = .returned u) ∧ ∃ D', Srt O D 0 D.length D' ∧ Row w' g D' ∧ Step (fun k => k = g) w w') (hn : n ≤ 100000) : SortOk n := by
  intro O v B g D cap w hE hD hin hl hO
  have HS := hidden (hs O v B g D cap w hE hD hin hl hO)
  clear hE hD hin hs
  rw [hl] at HS ⊢
  have hn' : n ≤ 9223372036854775807 := by omega
  go_enter Tryz.func101, Tryz.ntmps101
  go_wp2_with (go_at_call 107; refine HS.out.mono ?_)
  rintro e w2 ⟨⟨u, rfl⟩, hrest⟩
  have HR := hidden hrest
  clear hrest
  go_wp2
  go_end0
  exact ⟨⟨_, rfl⟩, HR.out⟩

theorem sort_small (n : Nat) (h : n < 20) : SortOk n :=
  sort_of_stable n (fun O v B g D cap w hE hD hin hl hO => stable_small O v B g D cap w hE hD hin (by omega) hO) (by omega)

end Go.Proofs.YtcgjmkcigmmjjaaGreatDoor

namespace Go.Proofs.YtcgjmkcigmmjjaaGreatDoor
open Go.RowKit
set_option maxRecDepth 100000
theorem ins_nil (B : Nat) (w : World) : Calls Tryz.prog 109 #[.slice none 0 0, .int .i64 0, .int .i64 0, cmpV B] w fun e w' => (∃ u, e = .returned u) ∧ w' = w := by
  go_enter Tryz.func109, Tryz.ntmps109
  go_wp2
  go_loopw [8] (fun i wr => i = .int .i64 1 ∧ wr = w) (fun _ _ => 0)
  case atStart => exact ⟨rfl, rfl⟩
  case round =>
    obtain ⟨rfl, rfl⟩ := hrel
    go_wp2
    go_end0
    exact ⟨⟨_, rfl⟩, rfl⟩

theorem stable_nil (B : Nat) (w : World) : Calls Tryz.prog 107 #[.slice none 0 0, .int .i64 0, cmpV B] w fun e w' => (∃ u, e = .returned u) ∧ w' = w := by
  go_enter Tryz.func107, Tryz.ntmps107
  go_wp2
  go_loopw [7, 8] (fun a b wr => a = .int .i64 0 ∧ b = .int .i64 20 ∧ wr = w) (fun _ _ _ => 0)
  case atStart => exact ⟨rfl, rfl, rfl⟩
  case round =>
    obtain ⟨rfl, rfl, rfl⟩ := hrel
    go_wp2_with (go_at_call 109; refine (ins_nil B _).mono ?_)
    rintro e w2 ⟨⟨u, rfl⟩, rfl⟩
    go_wp2
    go_loopw [6, 7, 8, 9] (fun s _ _ _ wr => s = .int .i64 20 ∧ wr = w2) (fun _ _ _ _ _ => 0)
    case atStart => exact ⟨rfl, rfl⟩
    case round =>
      obtain ⟨rfl, rfl⟩ := hrel
      go_wp2
      go_end0
      exact ⟨⟨_, rfl⟩, rfl⟩

theorem sort_nil (B : Nat) (w : World) : Calls Tryz.prog 101 #[.slice none 0 0, cmpV B] w fun e w' => (∃ u, e = .returned u) ∧ w' = w := by
  go_enter Tryz.func101, Tryz.ntmps101
  go_wp2_with (go_at_call 107; refine (stable_nil B _).mono ?_)
  rintro e w2 ⟨⟨u, rfl⟩, rfl⟩
  go_wp2
  go_end0
  exact ⟨⟨_, rfl⟩, rfl⟩

/-- Symbols in their order. -/
theorem posTo_eqA (O : List Int) (k : Nat) : EqA O (posTo O k) := by
  intro p q hpq hq _
  have hs : (posTo O k).Pairwise (· < ·) := by
    unfold posTo
    rw [List.pairwise_map]
    refine List.Pairwise.filter _ (List.Pairwise.imp ?_ List.pairwise_lt_range)
    intro a b h
    omega
  rw [getD_i _ _ (by omega), getD_i _ _ hq]
  exact List.pairwise_iff_getElem.1 hs p q (by omega) hq hpq

/-- What rarestFirst leaves. -/
def RareP (O : List Int) (m : Int) (w : World) (e : Ending) (w' : World) : Prop :=
  (mayB O m = false ∧ e = .returned (.tuple #[.slice none 0 0, .bool false]) ∧ Step (fun _ => False) w w') ∨
  (mayB O m = true ∧ ∃ u D, e = .returned (.tuple #[u, .bool true]) ∧ List.Perm D (posTo O O.length) ∧ (Sr O D 0 D.length ∧ EqA O D) ∧ Ri w' u D ∧ (∀ a n c, u = .slice (some a) n c → w.heap.size ≤ a.block) ∧ Step (fun _ => False) w w')

theorem row_of_own {w : World} {g n cap : Nat} {D : List Int} (h : w.ownsRow 0 3 1 (.slice (some ⟨g, 0, none⟩) n cap) n (i64s D)) : Row w g D ∧ n = D.length := by
  have hl := h.1
  rw [i64s_length, Nat.mul_one] at hl
  refine ⟨fun k hk => ?_, hl.symm⟩
  rcases h.2 with ⟨h', _⟩ | ⟨g', cap', cur, e, _, hg, _⟩
  · cases h'
  · injection e with e1
    have e2 := Option.some.inj e1
    injection e2 with e3
    subst e3
    refine ⟨?_, ?_⟩
    · rw [h.cellAt k (by omega), i64s_get?]
      simp [List.getD, hk]
    · unfold World.frozen?
      rw [hg]
      simp

set_option maxHeartbeats 2000000 in
theorem rare_any (v : Value) (O : List Int) (m : Int) (w : World) (h : Ri w v O) (hl : O.length ≤ 9223372036854775807) (hS : ∀ n, n = (posTo O O.length).length → SortOk n) :
    Calls Tryz.prog 98 #[v, .int .i64 m] w (RareP O m w) := by
  obtain ⟨i0, hi, hz0, hz1, hz2⟩ := info_parts Tryz.info3
  have HR := hidden h
  obtain ⟨ao, cap, rfl, hcap, r1, r2⟩ := h
  have H1 := hidden r1
  have H2 := hidden r2
  have HS := hidden hS
  obtain ⟨n, hn⟩ : ∃ n, n = O.length := ⟨_, rfl⟩
  have Hn := hidden hn
  rw [← hn] at hl hcap HR ⊢
  clear hn r1 r2 hS
  by_cases hin : n ≤ 320 ∧ 1 ≤ m ∧ m ≤ 15
  · obtain ⟨h320, hm1, hm15⟩ := hin
    go_enter Tryz.func98, Tryz.ntmps98
    go_wp2
    go_loopw [6, 7, 8, 22] (fun u _ _ i wr => ∃ k : Nat, k ≤ n ∧ i = .int .i64 k ∧ ∃ uo un uc, u = .slice uo un uc ∧ Hid (wr.ownsRow 0 3 1 (.slice uo un uc) un (i64s (posTo O k)) ∧ un = (posTo O k).length ∧ (∀ j, (Value.slice uo un uc).ownBlock = some j → w.heap.size < j) ∧ wr.cell? ⟨w.heap.size, 0, none⟩ = some (.slice ao n cap) ∧ w.heap.size < wr.heap.size ∧ Step (fun _ => False) w wr ∧ oftTo O k)) (fun _ _ _ i _ => n - (intOf i).toNat)
    case atStart => exact ⟨0, Nat.zero_le _, rfl, none, 0, 0, rfl, World.ownsRow_nil _ _ _ _, rfl, (fun j h => by simp [Value.ownBlock] at h), by simp, by simp, (Step.refl _ _).alloc _, fun j hj => by omega⟩
    case round =>
      obtain ⟨k, hk, rfl, uo, un, uc, rfl, hrest⟩ := hrel
      obtain ⟨q1, q2, q3, q4, q5, q6, q7⟩ := hrest.out
      have HQ1 := hidden q1
      have HQ2 := hidden q2
      have HQ3 := hidden q3
      have HQ6 := hidden q6
      have HQ7 := hidden q7
      clear hrest q1 q2 q3 q6 q7
      by_cases hlt : k < n
      · cases ao with
        | none => have := (H1.out rfl).1; have := Hn.out; subst O; simp at this; omega
        | some a =>
          obtain ⟨ba, oa, rfl, ka⟩ := H2.out a rfl (by intro e; have := Hn.out; subst e; simp at this; omega)
          have hkO : k < O.length := by have := Hn.out; omega
          have ca := HQ6.out.cell (ka k hkO) (fun h => h)
          have k1 : (k : Int) < (n : Int) := by omega
          clear ka
          by_cases hok : 0 ≤ O.getD k 0 ∧ O.getD k 0 ≤ 1048576
          · have HO := hidden (oftTo_succ HQ7.out hok)
            by_cases hpos : 0 < O.getD k 0
            · have HP := hidden (posTo_yes O k hpos)
              have hun : un ≤ 320 := by have := HQ2.out; have := posTo_length O k; omega
              obtain ⟨h0, h20⟩ := hok
              generalize O.getD k 0 = x at *
              go_wp2_with (at_builtin; refine wpList_append_at _ rfl (.tmp 35) (.tmp 37) 30 rfl 3 i0 (.int .i64 0) 1 8 Tryz.underlying30 hi hz0 hz1 hz2 rfl (by decide) _ _ _ rfl (HQ1.out.alloc _) ⟨wr.heap.size, 0, none⟩ 1 1 [.int .i64 (k : Int)] rfl rfl ?d1 ?d2 ?d3 ?d4 ?_)
              case d1 => exact cell_one_new _ _ _
              case d2 => intro u hu; simp at hu; subst hu; rfl
              case d3 => unfold maxLen; omega
              case d4 => omega
              intro v' w' hown' hgrow' _ hb'
              obtain ⟨ao', cap', rfl⟩ := own_slice hown'
              have HOW := hidden hown'
              have HG := hidden hgrow'
              have HB := hidden hb'
              clear hown' hgrow' hb'
              go_wp2
              go_roundw
              case rel =>
                have hst : Step (fun _ => False) w w' := (HQ6.out.alloc _).grown HG.out (fun j hj => .inr (by have := HQ3.out j hj; omega))
                have hsz : wr.heap.size < w'.heap.size := by have := HG.out.size; simp at this; omega
                refine ⟨k + 1, by omega, by go_num, _, _, _, rfl, ?_, ?_, fun j hj => ?_, ?_, by omega, hst, HO.out⟩
                · rw [HP.out, i64s_append]; exact HOW.out
                · rw [HP.out, List.length_append, HQ2.out]; rfl
                · rcases HB.out with e | e
                  · rw [e] at hj; exact HQ3.out j hj
                  · rw [e] at hj; have := Option.some.inj hj; omega
                · rw [World.cell?_of_block (HG.out.block w.heap.size (by simp; omega) (fun e => by have := HQ3.out w.heap.size e.symm; omega))]
                  rw [World.cell?_alloc_past _ _ _ q5]
                  exact q4
              case measure => simp [intOf]; omega
            · have HP := hidden (posTo_no O k hpos)
              have hz : O.getD k 0 = 0 := by omega
              rw [hz] at ca
              clear hok hpos hz
              go_wp2
              go_roundw
              case rel => exact ⟨k + 1, by omega, by go_num, _, _, _, rfl, by rw [HP.out]; exact HQ1.out, by rw [HP.out]; exact HQ2.out, HQ3.out, q4, q5, HQ6.out, HO.out⟩
              case measure => simp [intOf]; omega
          · have HM := hidden (mayB_not (O := O) (m := m) (fun h => oft_bad hkO hok h.2.2.2.1))
            generalize O.getD k 0 = x at *
            by_cases hneg : x < 0
            · go_wp2
              go_ret2
              exact .inl ⟨HM.out, rfl, HQ6.out⟩
            · have hbig : 1048576 < x := by omega
              have hpos : 0 ≤ x := by omega
              go_wp2
              go_ret2
              exact .inl ⟨HM.out, rfl, HQ6.out⟩
      · have e : k = n := by omega
        subst e
        have HO := hidden (show oftB O = true from oftTo_all (by rw [← Hn.out]; exact HQ7.out))
        obtain ⟨M, rfl⟩ := Int.eq_ofNat_of_zero_le (show 0 ≤ m by omega)
        have hp24 := ipow_le_24 M (by omega)
        have hp1 := ipow_pos M
        have hun : un ≤ 320 := by have := HQ2.out; have := posTo_length O k; omega
        by_cases hmany : (2 : Int) ^ M < (un : Int)
        · have HM := hidden (mayB_not (O := O) (m := (M : Int)) (fun h => by
            have h5 := h.2.2.2.2
            rw [← Hn.out, ← HQ2.out] at h5
            have e : ((2 ^ M : Nat) : Int) = (2 : Int) ^ M := by simp
            simp only [Int.toNat_natCast] at h5
            omega))
          go_wp2
          go_ret2
          exact .inl ⟨HM.out, rfl, HQ6.out⟩
        · have HM := hidden (show mayB O (M : Int) = true by
            rw [mayB_iff]
            refine ⟨by have := Hn.out; omega, by omega, by omega, HO.out, ?_⟩
            rw [← Hn.out, ← HQ2.out]
            have e : ((2 ^ M : Nat) : Int) = (2 : Int) ^ M := by simp
            simp only [Int.toNat_natCast]
            omega)
          have hmany' : (un : Int) ≤ (2 : Int) ^ M := by omega
          have hw : wrap64 ((2 : Int) ^ M) = (2 : Int) ^ M := wrap64_id _ (by omega) (by omega)
          cases uo with
          | none =>
            have hz : un = 0 ∧ uc = 0 ∧ posTo O k = [] := by
              rcases HQ1.out.2 with ⟨e, h0⟩ | ⟨g, c, cur, e, _⟩
              · injection e with _ _ e3
                have : (posTo O k).length = 0 := by have := HQ2.out; omega
                exact ⟨h0, e3, List.eq_nil_of_length_eq_zero this⟩
              · injection e with e1; cases e1
            obtain ⟨rfl, rfl, hpe⟩ := hz
            have HPE := hidden hpe
            clear hpe
            go_wp2_with (go_at_call 101; refine (sort_nil _ _).mono ?_; rintro e w2 ⟨⟨u, rfl⟩, rfl⟩)
            go_ret2
            exact .inr ⟨HM.out, .slice none 0 0, [], rfl, by rw [← Hn.out, HPE.out], ⟨fun p q _ _ h => absurd h (by simp), fun p q _ h => absurd h (by simp)⟩, ri_nil _, (fun a n c h => by cases h), HQ6.out⟩
          | some p =>
            have hg : ∃ g, p = ⟨g, 0, none⟩ := by
              rcases HQ1.out.2 with ⟨e, h0⟩ | ⟨g, c, cur, e, _⟩
              · injection e with e1; cases e1
              · injection e with e1; exact ⟨g, Option.some.inj e1⟩
            obtain ⟨g, rfl⟩ := hg
            have hgb : w.heap.size < g := HQ3.out g rfl
            obtain ⟨hrow, hlen⟩ := row_of_own HQ1.out
            have hE : Env wr w.heap.size g (.slice ao k cap) O := ⟨q4, HR.out.made HQ6.out, by omega, fun a n c e ne => by
              obtain ⟨ao2, c2, e2, _, _, h2⟩ := HR.out
              rw [e2] at e
              injection e with e3
              obtain ⟨b, o, rfl, hc⟩ := h2 a e3 ne
              have := World.block_lt_of_cell? w _ (hc 0 (by cases O; exact absurd rfl ne; simp))
              show b ≠ g
              have : b < w.heap.size := this
              omega⟩
            have hso := HS.out (posTo O k).length (by rw [Hn.out]) O _ w.heap.size g (posTo O k) uc wr hE hrow (posTo_in O k (by have := Hn.out; omega)) rfl (by have := Hn.out; omega)
            rw [← hlen] at hso
            have HSO := hidden hso
            have HLN := hidden hlen
            have hcap2 : un ≤ uc := by
              rcases HQ1.out.2 with ⟨e, h0⟩ | ⟨g', c, cur, e, _, _, hc, _⟩
              · omega
              · injection e with _ _ e3; omega
            clear hE hrow hso hlen
            go_wp2_with (go_at_call 101; refine HSO.out.mono ?_; rintro e w2 ⟨⟨u, rfl⟩, hrest⟩; have HF := hidden hrest; clear hrest)
            go_ret2
            obtain ⟨D', f1, f2, f3⟩ := HF.out
            have hl' : D'.length = un := by rw [f1.perm.length_eq, HLN.out]
            have hri : Ri w2 (.slice (some ⟨g, 0, none⟩) un uc) D' := by
              have := f2.ri (cap := uc) rfl (by omega) (fun _ _ => rfl)
              rwa [hl'] at this
            have hfr : ∀ a n c, (Value.slice (some ⟨g, 0, none⟩) un uc) = .slice (some a) n c → w.heap.size ≤ a.block := by
              intro a n c h
              injection h with h1
              have := Option.some.inj h1
              subst this
              show w.heap.size ≤ g
              omega
            exact .inr ⟨HM.out, .slice (some ⟨g, 0, none⟩) un uc, D', rfl, by rw [← Hn.out]; exact f1.perm, ⟨by rw [hl']; exact f1.sr, f1.stb (posTo_eqA O _)⟩, hri, hfr, HQ6.out.trans f3 (fun i hi => .inr (by omega))⟩
  · have HM := hidden (mayB_not (O := O) (m := m) (fun h => hin ⟨by rw [Hn.out]; exact h.1, h.2.1, h.2.2.1⟩))
    by_cases h1 : n ≤ 320
    · by_cases h2 : 1 ≤ m
      · have h3 : 15 < m := by omega
        clear hin
        go_enter Tryz.func98, Tryz.ntmps98
        go_wp2
        go_ret2
        exact .inl ⟨HM.out, rfl, (Step.refl _ _).alloc _⟩
      · have h3 : m < 1 := by omega
        clear hin
        go_enter Tryz.func98, Tryz.ntmps98
        go_wp2
        go_ret2
        exact .inl ⟨HM.out, rfl, (Step.refl _ _).alloc _⟩
    · have h3 : (320 : Int) < (n : Int) := by omega
      clear hin
      go_enter Tryz.func98, Tryz.ntmps98
      go_wp2
      go_ret2
      exact .inl ⟨HM.out, rfl, (Step.refl _ _).alloc _⟩

end Go.Proofs.YtcgjmkcigmmjjaaGreatDoor
