/-
  Numbers in whatever digits.
-/
import Derived.Test.YtmegfcgnemfjnaaDoorEUnN
namespace Go.Proofs.YtmegfcgnemfjnaaDoor
open Go Go.Lib

def dcN (cap : Bool) (x : Nat) : Nat := if x < 10 then 48 + x else if cap = true then 55 + x else 87 + x
def dc (cap : Bool) (x : Nat) : UInt8 := UInt8.ofNat (dcN cap x)
theorem dc_nat (cap : Bool) (x : Nat) (h : x < 16) : (dc cap x).toNat = dcN cap x ∧ dv (dcN cap x) = x := by
  have : x = 0 ∨ x = 1 ∨ x = 2 ∨ x = 3 ∨ x = 4 ∨ x = 5 ∨ x = 6 ∨ x = 7 ∨ x = 8 ∨ x = 9 ∨ x = 10 ∨ x = 11 ∨ x = 12 ∨ x = 13 ∨ x = 14 ∨ x = 15 := by omega
  cases cap <;> rcases this with rfl | rfl | rfl | rfl | rfl | rfl | rfl | rfl | rfl | rfl | rfl | rfl | rfl | rfl | rfl | rfl <;> decide
theorem dc_dv (cap : Bool) (x : Nat) (h : x < 16) : dv (dc cap x).toNat = x := by
  have := dc_nat cap x h
  rw [this.1]; exact this.2
def toD (B : Nat) (cap : Bool) (u : Nat) : List UInt8 :=
  if _h : u < B ∨ B < 2 then [dc cap u] else toD B cap (u / B) ++ [dc cap (u % B)]
termination_by u
decreasing_by
  have : 1 < B := by omega
  exact Nat.div_lt_self (by omega) this
theorem toD_small {B : Nat} (cap : Bool) {u : Nat} (h : u < B) : toD B cap u = [dc cap u] := by rw [toD, dif_pos (.inl h)]
theorem toD_step {B : Nat} (cap : Bool) {u : Nat} (h : ¬ u < B) (hB : 2 ≤ B) : toD B cap u = toD B cap (u / B) ++ [dc cap (u % B)] := by rw [toD, dif_neg (by omega)]
theorem toD_facts (B : Nat) (cap : Bool) (hB : 2 ≤ B) (hB2 : B ≤ 16) : ∀ (n u : Nat), u ≤ n → toD B cap u ≠ [] ∧ (toD B cap u).all (isD B) = true ∧ numv B (toD B cap u) = u
  | n, u, h => by
    by_cases h1 : u < B
    · rw [toD_small cap h1]
      have e := dc_dv cap u (by omega)
      refine ⟨by simp, ?_, ?_⟩
      · simp only [List.all_cons, List.all_nil, Bool.and_true, isD, e]
        exact decide_eq_true h1
      · simp only [numv, List.foldl_cons, List.foldl_nil, e]
        omega
    · rw [toD_step cap h1 hB]
      have hlt : u / B < u := Nat.div_lt_self (by omega) hB
      obtain ⟨m, hm⟩ : ∃ m, n = m + 1 := ⟨n - 1, by omega⟩
      obtain ⟨_, a2, a3⟩ := toD_facts B cap hB hB2 m (u / B) (by omega)
      have hmod : u % B < B := Nat.mod_lt _ (by omega)
      have e := dc_dv cap (u % B) (by omega)
      refine ⟨by simp, ?_, ?_⟩
      · rw [List.all_append, a2]
        simp only [List.all_cons, List.all_nil, Bool.and_true, Bool.true_and, isD, e]
        exact decide_eq_true hmod
      · rw [numv_snoc, a3, e]
        have := Nat.div_add_mod u B
        rw [Nat.mul_comm] at this
        exact this
termination_by n => n
theorem toD_len (B : Nat) (cap : Bool) (hB : 2 ≤ B) : ∀ (k u : Nat), u < B ^ (k + 1) → (toD B cap u).length ≤ k + 1
  | 0, u, h => by
    rw [toD_small cap (by simpa using h)]; simp
  | k + 1, u, h => by
    by_cases h1 : u < B
    · rw [toD_small cap h1]; simp
    · rw [toD_step cap h1 hB]
      have hd : u / B < B ^ (k + 1) := by
        rw [Nat.div_lt_iff_lt_mul (by omega)]
        rwa [Nat.pow_succ] at h
      have := toD_len B cap hB k (u / B) hd
      simp only [List.length_append, List.length_cons, List.length_nil]
      omega

theorem numv_zeros (B : Nat) (z : Nat) (d : List UInt8) : numv B (List.replicate z 48 ++ d) = numv B d := by
  induction z with
  | zero => rfl
  | succ z ih =>
    rw [List.replicate_succ, List.cons_append]
    have : ∀ l : List UInt8, numv B (48 :: l) = numv B l := by
      intro l
      show (l.foldl _ (0 * B + dv (48 : UInt8).toNat)) = l.foldl _ 0
      have : 0 * B + dv (48 : UInt8).toNat = 0 := by rw [Nat.zero_mul]; decide
      rw [this]
    rw [this, ih]
/-- All digits: noughts, and the number's own. -/
def numD (B : Nat) (cap : Bool) (z v : Nat) : List UInt8 := List.replicate z 48 ++ toD B cap v
theorem numD_facts (B : Nat) (cap : Bool) (z v : Nat) (hB : 2 ≤ B) (hB2 : B ≤ 16) : numD B cap z v ≠ [] ∧ (numD B cap z v).all (isD B) = true ∧ numv B (numD B cap z v) = v := by
  obtain ⟨a1, a2, a3⟩ := toD_facts B cap hB hB2 v v (Nat.le_refl _)
  unfold numD
  refine ⟨by intro e; exact a1 (List.append_eq_nil_iff.1 e).2, ?_, by rw [numv_zeros, a3]⟩
  rw [List.all_append, a2, Bool.and_true, List.all_eq_true]
  intro c hc
  rw [List.mem_replicate] at hc
  rw [hc.2]
  have : dv (48 : UInt8).toNat = 0 := by decide
  simp only [isD, this, decide_eq_true_eq]
  omega

theorem isD_clean {B : Nat} {d : List UInt8} (hB : B ≤ 16) (h : d.all (isD B) = true) : clean d := by
  intro c hc h59
  have := List.all_eq_true.1 h c hc
  simp only [isD, h59, decide_eq_true_eq] at this
  have : dv 59 = 99 := by decide
  omega
theorem isD_first {d : List UInt8} {c : UInt8} (h : (c :: d).all (isD 10) = true) : ¬ (c.toNat = 120 ∨ c.toNat = 88) := by
  rw [List.all_cons, Bool.and_eq_true] at h
  have h1 : dv c.toNat < 10 := by simpa [isD] using h.1
  have e1 : dv 120 = 99 := by decide
  have e2 : dv 88 = 99 := by decide
  rintro (e | e)
  · rw [e] at h1; omega
  · rw [e] at h1; omega

theorem wordOf_long (w t : List UInt8) (hw : clean w) (hl : 9 ≤ w.length) : wordOf (38 :: (w ++ 59 :: t)) = none := by
  have hs : semi (38 :: (w ++ 59 :: t)) = 10 := by
    unfold semi
    have e : (38 :: (w ++ 59 :: t)).take 10 = (38 :: w).take 10 := by
      rw [show (38 :: (w ++ 59 :: t) : List UInt8) = (38 :: w) ++ 59 :: t by simp, List.take_append_of_le_length (by simp; omega)]
    rw [e, tw_all _ _ (fun c hc => by
      rcases List.mem_cons.1 (List.mem_of_mem_take hc) with rfl | hc
      · decide
      · simpa using hw c hc)]
    rw [List.length_take, List.length_cons]; omega
  unfold wordOf
  rw [hs, if_neg (fun hh => by have := hh.2.2; omega)]

theorem at_dec (D t : List UInt8) (h0 : D ≠ []) (ha : D.all (isD 10) = true) (hl : D.length ≤ 7) : atC ([38, 35] ++ D ++ [59] ++ t) = (encodeRune ((fixr (numv 10 D) : Nat) : Int), D.length + 3) := by
  have e : ([38, 35] ++ D ++ [59] ++ t : List UInt8) = 38 :: ((35 :: D) ++ 59 :: t) := by simp
  unfold atC
  rw [e, wordOf_form (35 :: D) t (fun c hc => by
    rcases List.mem_cons.1 hc with rfl | hc
    · decide
    · exact isD_clean (by omega) ha c hc) (by simp; omega)]
  dsimp only
  have hs : spC (35 :: D) = some (fixr (numv 10 D)) := by
    show numC D = _
    cases D with
    | nil => exact absurd rfl h0
    | cons c d =>
      show (if c.toNat = 120 ∨ c.toNat = 88 then parseC 16 d else parseC 10 (c :: d)) = _
      rw [if_neg (isD_first ha)]
      unfold parseC
      rw [if_pos ⟨h0, ha⟩]
  rw [hs]
  simp [ansC]
theorem at_hex (D t : List UInt8) (h0 : D ≠ []) (ha : D.all (isD 16) = true) (hl : D.length ≤ 6) : atC ([38, 35, 120] ++ D ++ [59] ++ t) = (encodeRune ((fixr (numv 16 D) : Nat) : Int), D.length + 4) := by
  have e : ([38, 35, 120] ++ D ++ [59] ++ t : List UInt8) = 38 :: ((35 :: 120 :: D) ++ 59 :: t) := by simp
  unfold atC
  rw [e, wordOf_form (35 :: 120 :: D) t (fun c hc => by
    rcases List.mem_cons.1 hc with rfl | hc
    · decide
    · rcases List.mem_cons.1 hc with rfl | hc
      · decide
      · exact isD_clean (by omega) ha c hc) (by simp; omega)]
  dsimp only
  have hs : spC (35 :: 120 :: D) = some (fixr (numv 16 D)) := by
    show parseC 16 D = _
    unfold parseC
    rw [if_pos ⟨h0, ha⟩]
  rw [hs]
  simp [ansC]
theorem at_long10 (D t : List UInt8) (ha : D.all (isD 10) = true) (hl : 8 ≤ D.length) : atC ([38, 35] ++ D ++ [59] ++ t) = ([], 0) := by
  have e : ([38, 35] ++ D ++ [59] ++ t : List UInt8) = 38 :: ((35 :: D) ++ 59 :: t) := by simp
  unfold atC
  rw [e, wordOf_long (35 :: D) t (fun c hc => by
    rcases List.mem_cons.1 hc with rfl | hc
    · decide
    · exact isD_clean (by omega) ha c hc) (by simp; omega)]
theorem at_long16 (D t : List UInt8) (ha : D.all (isD 16) = true) (hl : 7 ≤ D.length) : atC ([38, 35, 120] ++ D ++ [59] ++ t) = ([], 0) := by
  have e : ([38, 35, 120] ++ D ++ [59] ++ t : List UInt8) = 38 :: ((35 :: 120 :: D) ++ 59 :: t) := by simp
  unfold atC
  rw [e, wordOf_long (35 :: 120 :: D) t (fun c hc => by
    rcases List.mem_cons.1 hc with rfl | hc
    · decide
    · rcases List.mem_cons.1 hc with rfl | hc
      · decide
      · exact isD_clean (by omega) ha c hc) (by simp; omega)]

end Go.Proofs.YtmegfcgnemfjnaaDoor
