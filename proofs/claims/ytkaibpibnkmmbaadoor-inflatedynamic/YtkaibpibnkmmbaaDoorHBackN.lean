/-
  Plain numbers: a code, bit by bit; how many symbols have a code.
-/
import Derived.Test.YtkaibpibnkmmbaaDoorHNext
namespace Go.Proofs.YtkaibpibnkmmbaaDoor
set_option linter.unusedVariables false

theorem code_ge (L : List Int) (k x m : Nat) (hk : k < L.length) (hx : L.getD k 0 = (x : Int)) (h0 : 0 < x) (h15 : x ≤ 15) (hm : m ≤ x) : stf (cf L) m ≤ codeOf L k / 2 ^ (x - m) := by
  have s := (share L k x hk hx h0 h15).1
  have f := fl_mono (cf L) (fun k => (cf_bd L k).1) m (x - m)
  rw [show m + (x - m) = x by omega] at f
  have e := stf_fl (cf L) m (by omega)
  have p := ipow_pos (15 - x)
  have pd := ipow_pos (x - m)
  have e2 : (2 : Int) ^ (15 - m) = 2 ^ (x - m) * 2 ^ (15 - x) := by rw [← Int.pow_add, show x - m + (15 - x) = 15 - m by omega]
  rw [← e, e2, ← Int.mul_assoc] at f
  have h : stf (cf L) m * 2 ^ (x - m) ≤ codeOf L k := by
    apply Classical.byContradiction
    intro hc
    have : (codeOf L k + 1) * 2 ^ (15 - x) ≤ stf (cf L) m * 2 ^ (x - m) * 2 ^ (15 - x) := Int.mul_le_mul_of_nonneg_right (by omega) (by omega)
    rw [Int.add_mul] at this
    omega
  exact (Int.le_ediv_iff_mul_le (by omega)).2 h

/-- How many of the first k symbols have a code. -/
def mny (L : List Int) : Nat → Int
  | 0 => 0
  | k + 1 => if 0 < L.getD k 0 then mny L k + 1 else mny L k
/-- The length of the last of them. -/
def onl (L : List Int) : Nat → Int
  | 0 => 0
  | k + 1 => if 0 < L.getD k 0 then L.getD k 0 else onl L k

theorem mny_bd (L : List Int) : ∀ k, 0 ≤ mny L k ∧ mny L k ≤ k
  | 0 => by simp [mny]
  | k + 1 => by have := mny_bd L k; simp only [mny]; split <;> omega

theorem mny_facts (L : List Int) : ∀ k, (mny L k = 0 → flt L k = 0 ∧ onl L k = 0) ∧ (1 ≤ mny L k → 1 ≤ flt L k ∧ 0 < onl L k) ∧ (mny L k = 1 → flt L k = 2 ^ (15 - (onl L k).toNat)) ∧ (2 ≤ mny L k → 2 ^ (15 - (onl L k).toNat) + 1 ≤ flt L k)
  | 0 => by simp [mny, flt, onl]
  | k + 1 => by
    have ih := mny_facts L k
    have hb := mny_bd L k
    have p := ipow_pos (15 - (L.getD k 0).toNat)
    have fb := flt_bd L k
    simp only [mny, flt, onl]
    by_cases h : 0 < L.getD k 0
    · simp only [if_pos h]
      refine ⟨by omega, fun _ => ⟨by omega, h⟩, fun e => ?_, fun e => ?_⟩
      · have := ih.1 (by omega)
        omega
      · have := ih.2.1 (by omega)
        omega
    · simp only [if_neg h, Int.add_zero]
      exact ih

theorem cf1_le (L : List Int) : ∀ k, k ≤ L.length → cf (L.take k) 1 ≤ mny L k ∧ 16384 * cf (L.take k) 1 ≤ flt L k ∧ (mny L k = 1 → onl L k = 1 → cf (L.take k) 1 = 1) ∧ (cf (L.take k) 1 + 1 ≤ mny L k → 16384 * cf (L.take k) 1 + 1 ≤ flt L k) ∧ (mny L k = cf (L.take k) 1 → 1 ≤ mny L k → onl L k = 1)
  | 0, _ => by simp [mny, flt, onl, cf_nil]
  | k + 1, hk => by
    have ih := cf1_le L k (by omega)
    have hb := mny_bd L k
    have p := ipow_pos (15 - (L.getD k 0).toNat)
    have mf := mny_facts L k
    have c0 := cf_bd (L.take k) 1
    simp only [mny, flt, onl]
    by_cases h1 : L.getD k 0 = 1
    · have hc := cf_take_yes L 1 k (by omega) (by omega) (by rw [h1]; rfl)
      rw [hc, h1]
      simp only [show (0 : Int) < 1 by omega, if_true]
      have e : (2 : Int) ^ (15 - (1 : Int).toNat) = 16384 := rfl
      rw [e]
      refine ⟨by omega, by omega, fun a b => by omega, fun a => ?_, fun a b => trivial⟩
      have := ih.2.2.2.1 (by omega)
      omega
    · have hc := cf_take_not L 1 k (by omega) (by rw [show ((1 : Nat) : Int) = 1 from rfl]; exact h1)
      rw [hc]
      by_cases h : 0 < L.getD k 0
      · simp only [if_pos h]
        refine ⟨by omega, by omega, fun a b => absurd b h1, fun a => by omega, fun a b => by omega⟩
      · simp only [if_neg h, Int.add_zero]
        exact ih

theorem few_iff (L : List Int) (h : ∀ x ∈ L, 0 ≤ x ∧ x ≤ 15) : fewB (cf L) = true ↔ (mny L L.length = 0 ∨ (mny L L.length = 1 ∧ onl L L.length = 1)) := by
  have f := mny_facts L L.length
  have c := cf1_le L L.length (Nat.le_refl _)
  have b := mny_bd L L.length
  rw [List.take_of_length_le (Nat.le_refl _)] at c
  rw [flt_all L h] at f c
  unfold fewB
  simp only [Bool.or_eq_true, Bool.and_eq_true, beq_iff_eq]
  constructor
  · rintro (h0 | ⟨h1, h2⟩)
    · left
      apply Classical.byContradiction
      intro hne
      have := f.2.1 (by omega)
      omega
    · right
      have hm : mny L L.length = cf L 1 := by
        apply Classical.byContradiction
        intro hne
        have := c.2.2.2.1 (by omega)
        omega
      exact ⟨by omega, c.2.2.2.2 hm (by omega)⟩
  · rintro (h0 | ⟨h1, h2⟩)
    · left; exact (f.1 h0).1
    · right
      refine ⟨?_, c.2.2.1 h1 h2⟩
      have := f.2.2.1 h1
      rw [h2] at this
      exact this

theorem newErr_codes (L : List Int) (h : newErr L = 0) : codeErr L = 0 ∧ okB L = true ∧ fl (cf L) 16 ≤ 32768 := by
  unfold newErr at h
  unfold codeErr
  by_cases h1 : okB L = true
  · rw [if_pos h1] at h ⊢
    by_cases h2 : fl (cf L) 16 = 32768 ∨ fewB (cf L) = true
    · have : fl (cf L) 16 ≤ 32768 := by
        rcases h2 with h2 | h2
        · omega
        · unfold fewB at h2
          simp only [Bool.or_eq_true, Bool.and_eq_true, beq_iff_eq] at h2
          omega
      exact ⟨by rw [if_pos this], h1, this⟩
    · rw [if_neg h2] at h; omega
  · rw [if_neg h1] at h; omega

/-- Ahead of the last bit a code is none yet; with it it is the symbol's. -/
theorem next_mid {L : List Int} (h : ∀ x ∈ L, 0 ≤ x ∧ x ≤ 15) {k x m C : Nat} (hk : k < L.length) (hx : L.getD k 0 = (x : Int)) (h0 : 0 < x) (hm0 : 0 < m) (hm : m < x) (hC : (C : Int) = codeOf L k / 2 ^ (x - m)) {r : Int} {c l : Nat} (hr : NextR L C m r c l) : r = -1 ∧ c = C ∧ l = m := by
  have h15 := h (L.getD k 0) (by rw [getD_i L k hk]; exact List.getElem_mem _)
  rcases hr with ⟨i, hi, hiL, hic, _⟩ | ⟨_, hp, _⟩ | ⟨_, _, h1, h2, h3⟩
  · exfalso
    have := code_prefix L i k m x hi hk hiL hx hm0 hm (by omega)
    omega
  · exfalso
    have := plc_more L h (m + 1) k x hk hx (by omega) h0
    omega
  · exact ⟨h1, h2, h3⟩

theorem next_end {L : List Int} (h : ∀ x ∈ L, 0 ≤ x ∧ x ≤ 15) {k x C : Nat} (hk : k < L.length) (hx : L.getD k 0 = (x : Int)) (h0 : 0 < x) (hC : (C : Int) = codeOf L k) {r : Int} {c l : Nat} (hr : NextR L C x r c l) : r = (k : Int) ∧ c = 0 ∧ l = 0 := by
  have e := codeOf_eq L k x hx h0
  have rk := cf_take_lt L k x hk hx h0
  rcases hr with ⟨i, hi, hiL, hic, h1, h2, h3⟩ | ⟨hge, _⟩ | ⟨hge, _⟩
  · have : i = k := by
      rcases Nat.lt_trichotomy i k with h' | h' | h'
      · have := code_rank L i k x hi hiL hx h0 h'; omega
      · exact h'
      · have := code_rank L k i x hk hx hiL h0 h'; omega
    subst this
    exact ⟨h1, h2, h3⟩
  · exfalso; omega
  · exfalso; omega

theorem half_bit (c b : Nat) : 2 * (c / 2 ^ (b + 1)) + c / 2 ^ b % 2 = c / 2 ^ b := by
  rw [Nat.pow_succ, ← Nat.div_div_eq_div_mul]
  omega

end Go.Proofs.YtkaibpibnkmmbaaDoor
