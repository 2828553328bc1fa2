/-
  A byte of the Writer that is not full: more bits go into it.
-/
import Derived.Test.YtelengfdbhambaaBase
namespace Go.Proofs.Ytelengfdbhambaa
open Go.RowKit

/-- A Writer whose last byte has room. -/
structure Wm (w : World) (b g cap N L : Nat) : Prop where
  out : w.cell? ⟨b, 0, none⟩ = some (.slice (some ⟨g, 0, none⟩) (L / 8 + 1) cap)
  free : w.cell? ⟨b, 1, none⟩ = some (.int .i64 ((8 - L % 8 : Nat) : Int))
  f0 : w.frozen? ⟨b, 0, none⟩ = false
  f1 : w.frozen? ⟨b, 1, none⟩ = false
  own : w.ownsRow 0 5 1 (.slice (some ⟨g, 0, none⟩) (L / 8 + 1) cap) (L / 8 + 1) (u8s (bytesOf N (L / 8 + 1)))
  ne : g ≠ b
  lt : N < 2 ^ L

theorem u8s_get? (bs : List Nat) (i : Nat) : (u8s bs)[i]? = bs[i]?.map fun (x : Nat) => Value.int .u8 (x : Int) := by simp [u8s]
theorem u8s_length (bs : List Nat) : (u8s bs).length = bs.length := by simp [u8s]
theorem u8s_append (a b : List Nat) : u8s (a ++ b) = u8s a ++ u8s b := by simp [u8s]
theorem u8s_one (bs : List Nat) : ∀ u ∈ u8s bs, u.oneCell' = true := by
  intro u hu
  obtain ⟨_, _, rfl⟩ := List.mem_map.1 hu
  rfl

theorem Wr.slice {w : World} {b : Nat} {s : Value} {N L : Nat} (W : Wr w b s N L) (h : 0 < L) : ∃ g cap, s = .slice (some ⟨g, 0, none⟩) ((L + 7) / 8) cap ∧ g ≠ b := by
  rcases W.own.2 with ⟨_, h0⟩ | ⟨g, cap, cur, hs, _⟩
  · omega
  · refine ⟨g, cap, hs, fun e => ?_⟩
    have := W.ne
    rw [hs] at this
    exact this (by simp [Value.ownBlock, e])

theorem Wr.toWm {w : World} {b : Nat} {s : Value} {N L : Nat} (W : Wr w b s N L) (h : L % 8 ≠ 0) : ∃ g cap, s = .slice (some ⟨g, 0, none⟩) (L / 8 + 1) cap ∧ Wm w b g cap N L := by
  obtain ⟨g, cap, hs, hgb⟩ := W.slice (by omega)
  have e : (L + 7) / 8 = L / 8 + 1 := by omega
  have e2 : (8 - L % 8) % 8 = 8 - L % 8 := by omega
  have o := W.own
  have c0 := W.out
  have c1 := W.free
  rw [hs] at o c0
  rw [e] at o c0 hs
  rw [e2] at c1
  exact ⟨g, cap, hs, c0, c1, W.f0, W.f1, o, hgb, W.lt⟩

theorem Wm.cell {w : World} {b g cap N L : Nat} (W : Wm w b g cap N L) : w.cell? ⟨g, L / 8, none⟩ = some (.int .u8 ((N / 2 ^ (8 * (L / 8)) % 256 : Nat) : Int)) := by
  rw [W.own.cellAt (L / 8) (by omega), u8s_get?, bytesOf_get? _ _ _ (by omega)]
  rfl
theorem Wm.frozen {w : World} {b g cap N L : Nat} (W : Wm w b g cap N L) : w.frozen? ⟨g, L / 8, none⟩ = false := W.own.frozenAt (L / 8)

theorem set_last (bs : List Nat) (n y z : Nat) (h : bs.length = n) : (u8s (bs ++ [y])).set n (.int .u8 (z : Int)) = u8s (bs ++ [z]) := by
  subst h
  simp [u8s]

theorem Wm.store {w : World} {b g cap N L : Nat} (W : Wm w b g cap N L) {x k : Nat} (hx : x < 2 ^ k) (h1 : 1 ≤ k) (h8 : k ≤ 8 - L % 8) (y : Int) (hy : y = ((N / 2 ^ (8 * (L / 8)) % 256 ||| x * 2 ^ (L % 8) % 256 : Nat) : Int)) (z : Int) (hz : z = ((8 - L % 8 : Nat) : Int) - (k : Int)) :
    Wr ((w.setCell ⟨g, L / 8, none⟩ (.int .u8 y)).setCell ⟨b, 1, none⟩ (.int .i64 z)) b (.slice (some ⟨g, 0, none⟩) (L / 8 + 1) cap) (N + x * 2 ^ L) (L + k) := by
  have hL : 8 * (L / 8) + L % 8 = L := by omega
  have hlt := W.lt
  have hmid := byte_mid N x (L / 8) (L % 8) k (by rw [hL]; exact W.lt) hx (by omega)
  rw [hL] at hmid
  have hnb : ¬ b = g := fun e => W.ne e.symm
  have hgb : ¬ g = b := W.ne
  have st := (W.own.stored (L / 8) (.int .u8 y)).1
  have hset : (u8s (bytesOf N (L / 8 + 1))).set (L / 8) (.int .u8 y) = u8s (bytesOf (N + x * 2 ^ L) (L / 8 + 1)) := by
    rw [hy, bytesOf_succ N, bytesOf_succ (N + x * 2 ^ L), bytesOf_low N x L (L / 8) (by omega), hmid]
    exact set_last _ _ _ _ (bytesOf_length _ _)
  rw [hset] at st
  have e7 : (L + k + 7) / 8 = L / 8 + 1 := by omega
  have e8 : (8 - (L + k) % 8) % 8 = 8 - L % 8 - k := by omega
  have hS : Step (fun i => i = b) (w.setCell ⟨g, L / 8, none⟩ (.int .u8 y)) ((w.setCell ⟨g, L / 8, none⟩ (.int .u8 y)).setCell ⟨b, 1, none⟩ (.int .i64 z)) :=
    (Step.refl _ _).setCell _ _ (.inl rfl)
  refine ⟨?_, ?_, ?_, ?_, ?_, ?_, lt_of_pow hlt hx⟩
  · rw [World.cell?_setCell_other _ _ _ _ (by simp), World.cell?_setCell_other _ _ _ _ (fun e => hgb (congrArg Addr.block e))]; exact W.out
  · rw [e8, World.cell?_setCell_same _ _ _ (by rw [World.cell?_setCell_other _ _ _ _ (fun e => hgb (congrArg Addr.block e))]; exact W.free), hz]
    congr 2; omega
  · simp [W.f0]
  · simp [W.f1]
  · rw [e7]
    refine owns_step ?_ hS (fun i hi hb => ?_)
    · exact st
    · simp [Value.ownBlock] at hi; omega
  · simp [Value.ownBlock]; omega

theorem or_form (cur x k r : Nat) (hc : cur < 256) (hk : k ≤ 8) (hr : r ≤ 8) :
    bits BinOp.or IntKind.u8 (cur : Int) (wrap64 ((x : Int) % 2 ^ k * 2 ^ r) % 256) = ((cur ||| (x % 2 ^ k) * 2 ^ r % 256 : Nat) : Int) := by
  have e1 : ((x : Int) % 2 ^ k * 2 ^ r) = (((x % 2 ^ k) * 2 ^ r : Nat) : Int) := by simp
  have hx : x % 2 ^ k < 2 ^ k := Nat.mod_lt _ (Nat.two_pow_pos _)
  have h2 : (x % 2 ^ k) * 2 ^ r ≤ 2 ^ 8 * 2 ^ 8 :=
    Nat.mul_le_mul (Nat.le_trans (Nat.le_of_lt hx) (Nat.pow_le_pow_right (n := 2) (by omega) hk)) (Nat.pow_le_pow_right (n := 2) (by omega) hr)
  rw [e1, wrap64_id _ (by omega) (by omega)]
  have e2 : (((x % 2 ^ k) * 2 ^ r : Nat) : Int) % 256 = (((x % 2 ^ k) * 2 ^ r % 256 : Nat) : Int) := by simp
  rw [e2]
  exact u8_or_nat _ _ hc (Nat.mod_lt _ (by omega))

theorem num_step (N v d k L : Nat) : N + v % 2 ^ d * 2 ^ L + (v / 2 ^ d % 2 ^ k) * 2 ^ (L + d) = N + v % 2 ^ (d + k) * 2 ^ L := by
  rw [Nat.pow_add 2 d k, Nat.mod_mul, Nat.pow_add, Nat.add_mul, Nat.add_assoc]
  congr 2
  ac_rfl

/-- What the round leaves. -/
theorem Wm.wrote {w w2 : World} {b g cap N L : Nat} {s : Value} (W : Wm w2 b g cap N L) (St : Step (Of b s) w w2) (hg : s.ownBlock = some g ∨ w.heap.size ≤ g)
    {x k : Nat} (hx : x < 2 ^ k) (h1 : 1 ≤ k) (h8 : k ≤ 8 - L % 8) (y : Int) (hy : y = ((N / 2 ^ (8 * (L / 8)) % 256 ||| x * 2 ^ (L % 8) % 256 : Nat) : Int)) (z : Int) (hz : z = ((8 - L % 8 : Nat) : Int) - (k : Int)) :
    Wrote w (((w2.setCell ⟨g, L / 8, none⟩ (.int .u8 y)).setCell ⟨b, 1, none⟩ (.int .i64 z)).drew) b s (N + x * 2 ^ L) (L + k) := by
  have R := W.store hx h1 h8 y hy z hz
  refine ⟨_, ⟨R.out, R.free, R.f0, R.f1, R.own.drew, R.ne, R.lt⟩, ?_, ?_⟩
  · refine ((St.setCell _ _ ?_).setCell _ _ ?_).drew
    · rcases hg with h | h
      · exact .inl (.inr h)
      · exact .inr h
    · exact .inl (.inl rfl)
  · rcases hg with h | h
    · left; rw [h]; rfl
    · right; exact ⟨g, rfl, h⟩

/-- A new byte, of which no bit is laid. -/
theorem Wr.opened {wr w1 : World} {o : Obj} {b : Nat} {s v' : Value} {N L : Nat} (W : Wr wr b s N L) (h0 : L % 8 = 0)
    (hown : w1.ownsRow 0 5 1 v' ((L + 7) / 8 + 1) (u8s (bytesOf N ((L + 7) / 8)) ++ [.int .u8 0])) (hgrow : (wr.alloc o).grownBy w1 s.ownBlock)
    (hv' : v'.ownBlock = s.ownBlock ∨ v'.ownBlock = some (wr.heap.size + 1)) :
    ∃ g cap, v' = .slice (some ⟨g, 0, none⟩) (L / 8 + 1) cap ∧ g ≠ b ∧ (s.ownBlock = some g ∨ wr.heap.size ≤ g) ∧ w1.cell? ⟨b, 0, none⟩ = some s ∧
      w1.cell? ⟨b, 1, none⟩ = some (.int .i64 0) ∧ w1.frozen? ⟨b, 0, none⟩ = false ∧ w1.frozen? ⟨b, 1, none⟩ = false ∧
      Wm ((w1.setCell ⟨b, 0, none⟩ v').setCell ⟨b, 1, none⟩ (.int .i64 8)) b g cap N L := by
  have hbw : b < wr.heap.size := World.block_lt_of_cell? wr _ W.out
  have e7 : (L + 7) / 8 = L / 8 := by omega
  rw [e7] at hown
  have St : Step (fun k => s.ownBlock = some k) wr w1 := ((Step.refl _ wr).alloc o).grown hgrow (fun k hk => .inl hk)
  have hnb : ¬ s.ownBlock = some b := W.ne
  have c0 := St.cell W.out hnb
  have c1 := St.cell W.free hnb
  have f0 := (St.frozen (p := ⟨b, 0, none⟩) hbw hnb).trans W.f0
  have f1 := (St.frozen (p := ⟨b, 1, none⟩) hbw hnb).trans W.f1
  have e8 : (8 - L % 8) % 8 = 0 := by omega
  have e9 : 8 - L % 8 = 8 := by omega
  rw [e8] at c1
  rcases hown.2 with ⟨_, h⟩ | ⟨g, cap, cur, hv, _⟩
  · omega
  · have hgo : v'.ownBlock = some g := by rw [hv]; rfl
    have hgb : g ≠ b := by
      intro e
      subst e
      rcases hv' with h | h
      · exact hnb (by rw [← h, hgo])
      · rw [hgo] at h; have := Option.some.inj h; omega
    have hgg : s.ownBlock = some g ∨ wr.heap.size ≤ g := by
      rcases hv' with h | h
      · left; rw [← h, hgo]
      · right; rw [hgo] at h; have := Option.some.inj h; omega
    have hb0 : u8s (bytesOf N (L / 8)) ++ [.int .u8 0] = u8s (bytesOf N (L / 8 + 1)) := by
      have hlt := W.lt
      have hL : 8 * (L / 8) = L := by omega
      rw [bytesOf_succ, u8s_append, hL, Nat.div_eq_of_lt hlt]
      rfl
    rw [hb0] at hown
    have S2 : Step (fun k => k = b) w1 ((w1.setCell ⟨b, 0, none⟩ v').setCell ⟨b, 1, none⟩ (.int .i64 8)) := ((Step.refl (fun k => k = b) w1).setCell ⟨b, 0, none⟩ v' (.inl rfl)).setCell ⟨b, 1, none⟩ (.int .i64 8) (.inl rfl)
    refine ⟨g, cap, hv, hgb, hgg, c0, c1, f0, f1, ?_, ?_, ?_, ?_, ?_, hgb, W.lt⟩
    · rw [World.cell?_setCell_other _ _ _ _ (by simp), World.cell?_setCell_same _ _ _ c0, hv]
    · rw [World.cell?_setCell_same _ _ _ (by rw [World.cell?_setCell_other _ _ _ _ (by simp)]; exact c1), e9]; rfl
    · simp [f0]
    · simp [f1]
    · rw [← hv]
      exact owns_step hown S2 (fun k hk hb => by rw [hgo] at hk; have := Option.some.inj hk; omega)

end Go.Proofs.Ytelengfdbhambaa
