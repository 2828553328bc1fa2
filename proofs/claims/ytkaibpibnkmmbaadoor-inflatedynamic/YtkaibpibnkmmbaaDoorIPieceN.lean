/-
  Plain numbers: codes and numbers one behind the other, read again; the fixed codes.
-/
import Derived.Test.YtkaibpibnkmmbaaDoorISymsN
import Derived.Test.YtkaibpibnkmmbaaDoorHBackN
import Derived.Test.YtkaibpibnkmmbaaDoorIWriteA
namespace Go.Proofs.YtkaibpibnkmmbaaDoor
set_option linter.unusedVariables false

/-- Numbers of so many bits, one behind the other, as one number; and how many bits. -/
def pcN : List (Nat × Nat) → Nat
  | [] => 0
  | q :: ps => 2 ^ q.2 * pcN ps + q.1
def pcL : List (Nat × Nat) → Nat
  | [] => 0
  | q :: ps => q.2 + pcL ps
def pcOk (ps : List (Nat × Nat)) : Prop := ∀ q ∈ ps, q.1 < 2 ^ q.2

theorem pcL_append (a b : List (Nat × Nat)) : pcL (a ++ b) = pcL a + pcL b := by
  induction a with
  | nil => simp [pcL]
  | cons q a ih => simp only [List.cons_append, pcL, ih]; omega
theorem pcN_append (a b : List (Nat × Nat)) : pcN (a ++ b) = pcN a + pcN b * 2 ^ pcL a := by
  induction a with
  | nil => simp [pcN, pcL]
  | cons q a ih =>
    simp only [List.cons_append, pcN, pcL, ih]
    rw [Nat.pow_add, Nat.mul_add, ← Nat.mul_assoc, Nat.mul_comm (2 ^ q.2) (pcN b), Nat.mul_assoc (pcN b)]
    omega
theorem pcN_lt : ∀ (ps : List (Nat × Nat)), pcOk ps → pcN ps < 2 ^ pcL ps
  | [], _ => by simp [pcN, pcL]
  | q :: ps, h => by
    have ih := pcN_lt ps (fun x hx => h x (List.mem_cons_of_mem _ hx))
    have hq := h q (by simp)
    simp only [pcN, pcL]
    rw [Nat.pow_add]
    calc 2 ^ q.2 * pcN ps + q.1 < 2 ^ q.2 * pcN ps + 2 ^ q.2 := by omega
      _ = 2 ^ q.2 * (pcN ps + 1) := by rw [Nat.mul_add, Nat.mul_one]
      _ ≤ 2 ^ q.2 * 2 ^ pcL ps := Nat.mul_le_mul_left _ ih

/-- From bit t on the number M of 8 m bits has these numbers, as far as it goes. -/
def Bt (M m t : Nat) (ps : List (Nat × Nat)) : Prop := ∀ j, j < pcL ps → t + j < 8 * m → M.testBit (t + j) = (pcN ps).testBit j

theorem Bt.head {M m t : Nat} {q : Nat × Nat} {ps : List (Nat × Nat)} (h : Bt M m t (q :: ps)) (hq : q.1 < 2 ^ q.2) : (∀ j, j < q.2 → t + j < 8 * m → M.testBit (t + j) = q.1.testBit j) ∧ Bt M m (t + q.2) ps := by
  constructor
  · intro j hj ht
    rw [h j (by simp only [pcL]; omega) ht]
    simp only [pcN]
    rw [Nat.testBit_two_pow_mul_add _ hq, if_pos hj]
  · intro j hj ht
    have := h (q.2 + j) (by simp only [pcL]; omega) (by omega)
    rw [Nat.add_assoc, this]
    simp only [pcN]
    rw [Nat.testBit_two_pow_mul_add _ hq, if_neg (by omega), Nat.add_sub_cancel_left]

theorem Bt.of {M m : Nat} {ps : List (Nat × Nat)} (z : Nat) (h : M = pcN ps + z * 2 ^ pcL ps) (hp : pcOk ps) : Bt M m 0 ps := by
  intro j hj ht
  rw [Nat.zero_add, h, Nat.add_comm, Nat.mul_comm, Nat.testBit_two_pow_mul_add _ (pcN_lt ps hp), if_pos hj]

theorem Bt.cut {M m k t : Nat} {ps : List (Nat × Nat)} (h : Bt M m t ps) (hk : k ≤ m) : Bt (M % 2 ^ (8 * k)) k t ps := by
  intro j hj ht
  rw [Nat.testBit_mod_two_pow, decide_eq_true ht, Bool.true_and]
  exact h j hj (by omega)

theorem bit_val (M t : Nat) : M / 2 ^ t % 2 = (M.testBit t).toNat := by
  rw [Nat.testBit_eq_decide_div_mod_eq]
  have : M / 2 ^ t % 2 < 2 := Nat.mod_lt _ (by omega)
  by_cases h : M / 2 ^ t % 2 = 1
  · rw [h]; rfl
  · rw [decide_eq_false h]; simp; omega

theorem bits_val (M m t x n : Nat) (hx : x < 2 ^ n) (h : ∀ j, j < n → t + j < 8 * m → M.testBit (t + j) = x.testBit j) (hm : t + n ≤ 8 * m) : M / 2 ^ t % 2 ^ n = x := by
  apply Nat.eq_of_testBit_eq
  intro j
  rw [Nat.testBit_mod_two_pow, ← Nat.shiftRight_eq_div_pow, Nat.testBit_shiftRight]
  by_cases hj : j < n
  · rw [decide_eq_true hj, Bool.true_and]; exact h j hj (by omega)
  · rw [decide_eq_false hj, Bool.false_and]
    exact (Nat.testBit_lt_two_pow (Nat.lt_of_lt_of_le hx (Nat.pow_le_pow_right (by omega) (by omega)))).symm

theorem rv_bit (v n : Nat) : ∀ k j, j < k → (rv v n k).testBit j = v.testBit (n - 1 - j)
  | 0, j, h => by omega
  | k + 1, j, h => by
    simp only [rv]
    rw [Nat.add_comm, Nat.mul_comm, Nat.testBit_two_pow_mul_add _ (rv_lt v n k)]
    by_cases e : j < k
    · rw [if_pos e]; exact rv_bit v n k j e
    · rw [if_neg e, show j = k by omega, Nat.sub_self, bit_val]
      cases v.testBit (n - 1 - k) <;> rfl

theorem rv_full (v n : Nat) : rv v n n < 2 ^ n := rv_lt v n n

/-- A code's bits are read as its symbol, if they are there. -/
theorem Sym.code {L : List Int} (hL : ∀ x ∈ L, 0 ≤ x ∧ x ≤ 15) {M m i n c t : Nat} (hi : i < L.length) (hn : L.getD i 0 = (n : Int)) (hc : codeOf L i = (c : Int))
    (hb : ∀ j, j < n → t + j < 8 * m → M.testBit (t + j) = c.testBit (n - 1 - j)) : ∀ k j, j + k + 1 = n → Sym L M m (c / 2 ^ (n - j)) j (t + j) (if t + n ≤ 8 * m then .ok (i, t + n) else .error 2) := by
  have h15 := hL (L.getD i 0) (by rw [getD_i L i hi]; exact List.getElem_mem _)
  have key : ∀ j, j < n → t + j < 8 * m → cmore M (t + j) (c / 2 ^ (n - j)) = c / 2 ^ (n - (j + 1)) := by
    intro j hj ht
    unfold cmore
    rw [bit_val, hb j hj ht, show n - j = n - 1 - j + 1 by omega, ← bit_val, half_bit, show n - 1 - j = n - (j + 1) by omega]
  intro k
  induction k with
  | zero =>
    intro j hj
    by_cases hs : t + j + 1 ≤ 8 * m
    · rw [if_pos (by omega), show t + n = t + j + 1 by omega]
      refine Sym.hit hs hi (by rw [hn, show j + 1 = n by omega]) ?_
      rw [key j (by omega) (by omega), show n - (j + 1) = 0 by omega, Nat.pow_zero, Nat.div_one]
      exact hc
    · rw [if_neg (by omega)]
      exact Sym.short (by omega)
  | succ k ih =>
    intro j hj
    by_cases hs : t + j + 1 ≤ 8 * m
    · have hcm := key j (by omega) (by omega)
      have hn0 : 0 < n := by omega
      have hnx : (n : Int) ≤ 15 := by omega
      have hC : ((c / 2 ^ (n - (j + 1)) : Nat) : Int) = codeOf L i / 2 ^ (n - (j + 1)) := by
        rw [hc]; simp
      have hge := code_ge L i n (j + 1) hi hn hn0 (by omega) (by omega)
      refine Sym.more hs ?_ ?_ ?_
      · rw [hcm, hC]
        apply Classical.byContradiction
        intro hlt
        obtain ⟨i', hi', hl', hr'⟩ := rank_hit' L (j + 1) (by omega) (codeOf L i / 2 ^ (n - (j + 1)) - stf (cf L) (j + 1)) (by omega) (by omega)
        have hco := codeOf_eq L i' (j + 1) hl' (by omega)
        have := code_prefix L i' i (j + 1) n hi' hi hl' hn (by omega) (by omega) (by omega)
        omega
      · have := plc_more L hL (j + 2) i n hi hn (by omega) hn0
        omega
      · rw [hcm]
        exact ih (j + 1) (by omega)
    · rw [if_neg (by omega)]
      exact Sym.short (by omega)

theorem symV_code {L : List Int} (hL : newErr L = 0) {M m i n c t : Nat} (hi : i < L.length) (hn : L.getD i 0 = (n : Int)) (h0 : 0 < n) (hc : codeOf L i = (c : Int)) (hc2 : c < 2 ^ n)
    (hb : ∀ j, j < n → t + j < 8 * m → M.testBit (t + j) = (rv c n n).testBit j) : symV L M m t = if t + n ≤ 8 * m then .ok (i, t + n) else .error 2 := by
  have := Sym.code (newErr_ok hL).2 hi hn hc (fun j hj ht => by rw [hb j hj ht, rv_bit c n n j hj]) (n - 1) 0 (by omega)
  rw [Nat.sub_zero, Nat.div_eq_of_lt hc2] at this
  exact this.val

/-- The fixed lengths. -/
def FL : List Int := List.replicate 144 8 ++ List.replicate 112 9 ++ List.replicate 24 7 ++ List.replicate 8 8
def FD : List Int := List.replicate 32 5

theorem FL_ok : newErr FL = 0 := by decide +kernel
theorem FD_ok : newErr FD = 0 := by decide +kernel

/-- The fixed code of a symbol, and how long it is. -/
def fixC (i : Nat) : Nat := if i < 144 then 48 + i else if i < 256 then 256 + i else if i < 280 then i - 256 else i - 88
def fixN (i : Nat) : Nat := if i < 144 then 8 else if i < 256 then 9 else if i < 280 then 7 else 8

theorem FL_len : FL.length = 288 := by decide +kernel
theorem FD_len : FD.length = 32 := by decide +kernel
theorem fix_facts : ∀ i, i < 288 → FL.getD i 0 = (fixN i : Int) ∧ codeOf FL i = (fixC i : Int) ∧ fixC i < 2 ^ fixN i ∧ 0 < fixN i := by
  have h : (List.range 288).all (fun i => decide (FL.getD i 0 = (fixN i : Int)) && decide (codeOf FL i = (fixC i : Int)) && decide (fixC i < 2 ^ fixN i) && decide (0 < fixN i)) = true := by decide +kernel
  intro i hi
  have := List.all_eq_true.1 h i (List.mem_range.2 hi)
  simp only [Bool.and_eq_true, decide_eq_true_eq] at this
  exact ⟨this.1.1.1, this.1.1.2, this.1.2, this.2⟩
theorem fixD_facts : ∀ i, i < 32 → FD.getD i 0 = ((5 : Nat) : Int) ∧ codeOf FD i = (i : Int) := by
  have h : (List.range 32).all (fun i => decide (FD.getD i 0 = ((5 : Nat) : Int)) && decide (codeOf FD i = (i : Int))) = true := by decide +kernel
  intro i hi
  have := List.all_eq_true.1 h i (List.mem_range.2 hi)
  simp only [Bool.and_eq_true, decide_eq_true_eq] at this
  exact this

/-- A symbol's fixed code as it is laid. -/
def fixP (i : Nat) : Nat × Nat := (rv (fixC i) (fixN i) (fixN i), fixN i)
def fixDP (i : Nat) : Nat × Nat := (rv i 5 5, 5)

theorem fixP_ok (i : Nat) : (fixP i).1 < 2 ^ (fixP i).2 := rv_full _ _
theorem fixDP_ok (i : Nat) : (fixDP i).1 < 2 ^ (fixDP i).2 := rv_full _ _

theorem sym_fix {M m i t : Nat} {ps : List (Nat × Nat)} (hi : i < 288) (h : Bt M m t (fixP i :: ps)) : symV FL M m t = (if t + fixN i ≤ 8 * m then .ok (i, t + fixN i) else .error 2) ∧ Bt M m (t + fixN i) ps := by
  obtain ⟨h1, h2, h3, h4⟩ := fix_facts i hi
  obtain ⟨a, b⟩ := h.head (fixP_ok i)
  exact ⟨symV_code FL_ok (by rw [FL_len]; exact hi) h1 h4 h2 h3 a, b⟩
theorem sym_fixD {M m i t : Nat} {ps : List (Nat × Nat)} (hi : i < 32) (h : Bt M m t (fixDP i :: ps)) : symV FD M m t = (if t + 5 ≤ 8 * m then .ok (i, t + 5) else .error 2) ∧ Bt M m (t + 5) ps := by
  obtain ⟨h1, h2⟩ := fixD_facts i hi
  obtain ⟨a, b⟩ := h.head (fixDP_ok i)
  exact ⟨symV_code FD_ok (by rw [FD_len]; exact hi) h1 (by omega) h2 (by omega) a, b⟩

end Go.Proofs.YtkaibpibnkmmbaaDoor
