/-
  Numbers that are laid one behind the other, and read again.
-/
import Derived.Test.YtelengfdbhambaaReader
import Derived.Test.YtelengfdbhambaaGet
namespace Go.Proofs.Ytelengfdbhambaa
open Go.RowKit

/-- How many bits the first j numbers take. -/
def LL (K : Nat → Nat) : Nat → Nat
  | 0 => 0
  | j + 1 => LL K j + K j
/-- The first j numbers as one. -/
def NN (X K : Nat → Nat) : Nat → Nat
  | 0 => 0
  | j + 1 => NN X K j + X j * 2 ^ LL K j

theorem LL_le (K : Nat → Nat) (c n : Nat) (h : ∀ j, j < n → K j ≤ c) : ∀ j, j ≤ n → LL K j ≤ c * j
  | 0, _ => by simp [LL]
  | j + 1, hj => by
    have := LL_le K c n h j (by omega)
    have := h j (by omega)
    simp only [LL]
    rw [Nat.mul_add]
    omega

theorem NN_lt (X K : Nat → Nat) (n : Nat) (h : ∀ j, j < n → X j < 2 ^ K j) : ∀ j, j ≤ n → NN X K j < 2 ^ LL K j
  | 0, _ => by simp [NN, LL]
  | j + 1, hj => by
    simp only [NN, LL]
    exact lt_of_pow (NN_lt X K n h j (by omega)) (h j (by omega))

/-- What is laid behind does not change what is read ahead. -/
theorem NN_get (X K : Nat → Nat) (n : Nat) (h : ∀ j, j < n → X j < 2 ^ K j) (i : Nat) : ∀ j, i < j → j ≤ n → NN X K j / 2 ^ LL K i % 2 ^ K i = X i
  | 0, hi, _ => by omega
  | j + 1, hi, hj => by
    simp only [NN]
    by_cases e : i = j
    · subst e
      rw [Nat.add_mul_div_right _ _ (Nat.two_pow_pos _), Nat.div_eq_of_lt (NN_lt X K n h i (by omega)), Nat.zero_add, Nat.mod_eq_of_lt (h i (by omega))]
    · have ih := NN_get X K n h i j (by omega) (by omega)
      have hle : ∀ d, LL K i + K i ≤ LL K (i + 1 + d) := by
        intro d
        induction d with
        | zero => exact Nat.le_refl _
        | succ d ihd => exact Nat.le_trans ihd (Nat.le_add_right _ _)
      have hj2 := hle (j - i - 1)
      rw [show i + 1 + (j - i - 1) = j by omega] at hj2
      obtain ⟨d, hd⟩ : ∃ d, LL K j = LL K i + (K i + d) := ⟨LL K j - (LL K i + K i), by omega⟩
      have e2 : X j * 2 ^ LL K j = 2 ^ K i * (X j * 2 ^ d) * 2 ^ LL K i := by
        rw [hd, Nat.pow_add, Nat.pow_add]; ac_rfl
      rw [e2, Nat.add_mul_div_right _ _ (Nat.two_pow_pos _), Nat.add_mul_mod_self_left]
      exact ih

/-- A number cut to a mask. -/
theorem and_small (a : Int) (m : Nat) (hm : m < 9223372036854775808) : ∃ x : Nat, bits .and .i64 a (m : Int) = (x : Int) ∧ x ≤ m := by
  refine ⟨(BitVec.ofInt 64 a).toNat &&& m, ?_, Nat.and_le_right⟩
  show IntKind.i64.wrap ((BitVec.ofInt 64 a &&& BitVec.ofInt 64 (m : Int)).toNat : Int) = _
  rw [BitVec.toNat_and, ofInt_i64 m hm]
  exact wrap_i64_nat _ (Nat.lt_of_le_of_lt Nat.and_le_right hm)

/-- Numbers as cells. -/
def i64r (F : Nat → Nat) (n : Nat) : List Value := (List.range n).map fun j => Value.int .i64 ((F j : Nat) : Int)
theorem i64r_succ (F : Nat → Nat) (n : Nat) : i64r F (n + 1) = i64r F n ++ [Value.int .i64 ((F n : Nat) : Int)] := by simp [i64r, List.range_succ]
theorem i64r_get? (F : Nat → Nat) (n j : Nat) (h : j < n) : (i64r F n)[j]? = some (Value.int .i64 ((F j : Nat) : Int)) := by simp [i64r, h]

theorem Try.info3 : (Try.prog.info? 3).map (fun i => (i.zero, i.size, i.bytes)) = some (some (.int .i64 0), 1, 8) := by kernel_rfl

/-- A slice of so many numbers, that came in. -/
def RowI (w : World) (ao : Option Addr) (len : Nat) (zs : List Int) : Prop :=
  0 < len → ∃ b off, ao = some ⟨b, off, none⟩ ∧ ∀ j, j < len → w.cell? ⟨b, off + j, none⟩ = some (.int .i64 (zs.getD j 0))

theorem RowI.step {w w' : World} {ao : Option Addr} {len : Nat} {zs : List Int} (h : RowI w ao len zs) (St : Step (fun _ => False) w w') : RowI w' ao len zs := by
  intro hl
  obtain ⟨b, off, e, hc⟩ := h hl
  exact ⟨b, off, e, fun j hj => St.cell (hc j hj) (fun h => h)⟩

/-- What the first loop has made: the Writer, and two lists of numbers, each of its own. -/
structure Made (w w1 : World) (b : Nat) (s va vc : Value) (X K : Nat → Nat) (i j l : Nat) : Prop where
  W : Wr w1 b s (NN X K i) (LL K i)
  a : w1.ownsRow 0 3 1 va j (i64r X j)
  c : w1.ownsRow 0 3 1 vc l (i64r K l)
  st : Step (fun _ => False) w w1
  hb : w.heap.size ≤ b
  hs : ∀ k, s.ownBlock = some k → w.heap.size ≤ k
  ha : ∀ k, va.ownBlock = some k → w.heap.size ≤ k ∧ k ≠ b ∧ s.ownBlock ≠ some k ∧ vc.ownBlock ≠ some k
  hc : ∀ k, vc.ownBlock = some k → w.heap.size ≤ k ∧ k ≠ b ∧ s.ownBlock ≠ some k

theorem Made.put {w w1 w2 : World} {b : Nat} {s va vc : Value} {X K : Nat → Nat} {i j l i' : Nat} (M : Made w w1 b s va vc X K i j l) (h : Wrote w1 w2 b s (NN X K i') (LL K i')) : ∃ s', Made w w2 b s' va vc X K i' j l := by
  obtain ⟨s', W, St, Wh⟩ := h
  have hbw : b < w1.heap.size := World.block_lt_of_cell? w1 _ M.W.out
  obtain ⟨st, hs⟩ := M.st.own St M.hb M.hs Wh
  refine ⟨s', W, owns_step M.a St (fun k hk ho => ?_), owns_step M.c St (fun k hk ho => ?_), st, M.hb, hs, fun k hk => ?_, fun k hk => ?_⟩
  · have := M.ha k hk
    rcases ho with e | e
    · exact this.2.1 e
    · exact this.2.2.1 e
  · have := M.hc k hk
    rcases ho with e | e
    · exact this.2.1 e
    · exact this.2.2 e
  · have h := M.ha k hk
    have hlt := (M.a.lt k hk).2
    refine ⟨h.1, h.2.1, fun e => ?_, h.2.2.2⟩
    rcases Wh with e2 | ⟨q, e2, hq⟩
    · exact h.2.2.1 (by rw [← e2, e])
    · rw [e2] at e; have := Option.some.inj e; omega
  · have h := M.hc k hk
    have hlt := (M.c.lt k hk).2
    refine ⟨h.1, h.2.1, fun e => ?_⟩
    rcases Wh with e2 | ⟨q, e2, hq⟩
    · exact h.2.2 (by rw [← e2, e])
    · rw [e2] at e; have := Option.some.inj e; omega

theorem Made.appA {w w1 w2 : World} {b : Nat} {s va vc va' : Value} {X K : Nat → Nat} {i j l : Nat} {o : Obj} (M : Made w w1 b s va vc X K i j l)
    (ho : w2.ownsRow 0 3 1 va' (j + 1) (i64r X j ++ [.int .i64 ((X j : Nat) : Int)])) (hg : (w1.alloc o).grownBy w2 va.ownBlock) (hv : va'.ownBlock = va.ownBlock ∨ va'.ownBlock = some (w1.heap.size + 1)) : Made w w2 b s va' vc X K i (j + 1) l := by
  have hbw : b < w1.heap.size := World.block_lt_of_cell? w1 _ M.W.out
  have St : Step (fun k => va.ownBlock = some k) w1 w2 := ((Step.refl _ w1).alloc o).grown hg (fun k hk => .inl hk)
  have st : Step (fun _ => False) w w2 := M.st.trans St (fun k hk => .inr (M.ha k hk).1)
  refine ⟨M.W.step St (fun e => (M.ha b e).2.1 rfl) (fun k hk e => (M.ha k e).2.2.1 hk), by rw [i64r_succ]; exact ho, owns_step M.c St (fun k hk e => (M.ha k e).2.2.2 hk), st, M.hb, M.hs, fun k hk => ?_, M.hc⟩
  rcases hv with e | e
  · exact M.ha k (by rw [← e]; exact hk)
  · rw [e] at hk
    have hk' := Option.some.inj hk
    have hsz := M.st.size
    refine ⟨by omega, by omega, fun e2 => ?_, fun e2 => ?_⟩
    · have := (M.W.own.lt _ e2).2; omega
    · have := (M.c.lt _ e2).2; omega

theorem Made.appC {w w1 w2 : World} {b : Nat} {s va vc vc' : Value} {X K : Nat → Nat} {i j l : Nat} {o : Obj} (M : Made w w1 b s va vc X K i j l)
    (ho : w2.ownsRow 0 3 1 vc' (l + 1) (i64r K l ++ [.int .i64 ((K l : Nat) : Int)])) (hg : (w1.alloc o).grownBy w2 vc.ownBlock) (hv : vc'.ownBlock = vc.ownBlock ∨ vc'.ownBlock = some (w1.heap.size + 1)) : Made w w2 b s va vc' X K i j (l + 1) := by
  have hbw : b < w1.heap.size := World.block_lt_of_cell? w1 _ M.W.out
  have St : Step (fun k => vc.ownBlock = some k) w1 w2 := ((Step.refl _ w1).alloc o).grown hg (fun k hk => .inl hk)
  have st : Step (fun _ => False) w w2 := M.st.trans St (fun k hk => .inr (M.hc k hk).1)
  refine ⟨M.W.step St (fun e => (M.hc b e).2.1 rfl) (fun k hk e => (M.hc k e).2.2 hk), owns_step M.a St (fun k hk e => (M.ha k hk).2.2.2 e), by rw [i64r_succ]; exact ho, st, M.hb, M.hs, fun k hk => ?_, fun k hk => ?_⟩
  · have h := M.ha k hk
    have hlt := (M.a.lt k hk).2
    refine ⟨h.1, h.2.1, h.2.2.1, fun e2 => ?_⟩
    rcases hv with e | e
    · exact h.2.2.2 (by rw [← e, e2])
    · rw [e] at e2; have := Option.some.inj e2; omega
  · rcases hv with e | e
    · exact M.hc k (by rw [← e]; exact hk)
    · rw [e] at hk
      have hk' := Option.some.inj hk
      have hsz := M.st.size
      refine ⟨by omega, by omega, fun e2 => ?_⟩
      have := (M.W.own.lt _ e2).2; omega

theorem LL_mono (K : Nat → Nat) (i j : Nat) (h : i ≤ j) : LL K i ≤ LL K j := by
  obtain ⟨d, rfl⟩ : ∃ d, j = i + d := ⟨j - i, by omega⟩
  clear h
  induction d with
  | zero => exact Nat.le_refl _
  | succ d ih => exact Nat.le_trans ih (Nat.le_add_right _ _)

/-- A list of numbers of the call's own, read. -/
theorem own_cell {w : World} {v : Value} {F : Nat → Nat} {n : Nat} (h : w.ownsRow 0 3 1 v n (i64r F n)) {ao : Option Addr} {cap : Nat} (hv : v = .slice ao n cap) (j : Nat) (hj : j < n) :
    ∃ g, ao = some ⟨g, 0, none⟩ ∧ v.ownBlock = some g := by
  rcases h.2 with ⟨_, e⟩ | ⟨g, c, cur, e, _⟩
  · omega
  · rw [e] at hv
    injection hv with e1
    exact ⟨g, e1.symm, by rw [e]; rfl⟩

end Go.Proofs.Ytelengfdbhambaa
