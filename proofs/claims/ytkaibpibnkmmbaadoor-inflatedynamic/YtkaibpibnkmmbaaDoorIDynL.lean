/-
  Plain numbers: lengths of two sorts that are a set of codes.
-/
import Derived.Test.YtkaibpibnkmmbaaDoorHBackN
namespace Go.Proofs.YtkaibpibnkmmbaaDoor
set_option linter.unusedVariables false

/-- How many of the first i come at all. -/
def pn (C : List Int) : Nat → Nat
  | 0 => 0
  | i + 1 => if C.getD i 0 = 0 then pn C i else pn C i + 1
theorem pn_le (C : List Int) : ∀ i, pn C i ≤ i
  | 0 => Nat.le_refl _
  | i + 1 => by have := pn_le C i; simp only [pn]; split <;> omega
theorem pn_up (C : List Int) (i : Nat) : ∀ d, pn C i ≤ pn C (i + d)
  | 0 => Nat.le_refl _
  | d + 1 => by have := pn_up C i d; rw [show i + (d + 1) = i + d + 1 by omega]; simp only [pn]; split <;> omega

/-- The length of each. -/
def lnK (C : List Int) (k S i : Nat) : Nat := if C.getD i 0 = 0 then 0 else if pn C i < S ∧ 1 < k then k - 1 else k
def lnL (C : List Int) (k S : Nat) : List Nat := (List.range C.length).map (lnK C k S)
def lnI (C : List Int) (k S : Nat) : List Int := (lnL C k S).map (fun (x : Nat) => (x : Int))
theorem lnL_length (C : List Int) (k S : Nat) : (lnL C k S).length = C.length := by simp [lnL]
theorem lnI_length (C : List Int) (k S : Nat) : (lnI C k S).length = C.length := by simp [lnI, lnL]
theorem lnI_getD (C : List Int) (k S i : Nat) (h : i < C.length) : (lnI C k S).getD i 0 = (lnK C k S i : Int) := by simp [lnI, lnL, List.getD, h]
theorem lnK_le (C : List Int) (k S i : Nat) : lnK C k S i ≤ k := by unfold lnK; split; omega; split <;> omega
theorem lnL_lt (C : List Int) (k S : Nat) (hk : k ≤ 15) : ∀ x ∈ lnL C k S, x < 16 := by
  intro x hx
  obtain ⟨i, _, rfl⟩ := List.mem_map.1 hx
  have := lnK_le C k S i
  omega
theorem lnI_in (C : List Int) (k S : Nat) (hk : k ≤ 15) : ∀ x ∈ lnI C k S, 0 ≤ x ∧ x ≤ 15 := by
  intro x hx
  obtain ⟨y, hy, rfl⟩ := List.mem_map.1 hx
  have := lnL_lt C k S hk y hy
  omega
theorem lnI_pos (C : List Int) (k S i : Nat) (h : i < C.length) (hk : 1 ≤ k) (hc : ¬ C.getD i 0 = 0) : 0 < (lnI C k S).getD i 0 := by
  rw [lnI_getD C k S i h]
  unfold lnK
  rw [if_neg hc]
  split <;> omega

theorem lnI_flt (C : List Int) (k S : Nat) (hk : 1 < k) (hk2 : k ≤ 15) : ∀ i, i ≤ C.length → flt (lnI C k S) i = ((pn C i + min (pn C i) S : Nat) : Int) * 2 ^ (15 - k)
  | 0, _ => by simp [flt, pn]
  | i + 1, h => by
    have ih := lnI_flt C k S hk hk2 i (by omega)
    simp only [flt, pn]
    rw [ih, lnI_getD C k S i (by omega)]
    by_cases hc : C.getD i 0 = 0
    · have e : lnK C k S i = 0 := by unfold lnK; rw [if_pos hc]
      rw [e, if_pos hc]
      simp
    · rw [if_neg hc]
      by_cases hs : pn C i < S
      · have e : lnK C k S i = k - 1 := by unfold lnK; rw [if_neg hc, if_pos ⟨hs, hk⟩]
        rw [e, if_pos (by omega), Int.toNat_natCast, show 15 - (k - 1) = 15 - k + 1 by omega, Int.pow_succ, show min (pn C i) S = pn C i by omega, show min (pn C i + 1) S = pn C i + 1 by omega, show ((pn C i + 1 + (pn C i + 1) : Nat) : Int) = ((pn C i + pn C i : Nat) : Int) + 2 by omega, Int.add_mul]
        omega
      · have e : lnK C k S i = k := by unfold lnK; rw [if_neg hc, if_neg (fun q => hs q.1)]
        rw [e, if_pos (by omega), Int.toNat_natCast, show min (pn C i) S = S by omega, show min (pn C i + 1) S = S by omega, show ((pn C i + 1 + S : Nat) : Int) = ((pn C i + S : Nat) : Int) + 1 by omega, Int.add_mul]
        omega
theorem lnI_flt1 (C : List Int) (S : Nat) : ∀ i, i ≤ C.length → flt (lnI C 1 S) i = (pn C i : Int) * 16384 ∧ mny (lnI C 1 S) i = pn C i ∧ (0 < pn C i → onl (lnI C 1 S) i = 1)
  | 0, _ => by simp [flt, pn, mny]
  | i + 1, h => by
    obtain ⟨ih1, ih2, ih3⟩ := lnI_flt1 C S i (by omega)
    simp only [flt, pn, mny, onl]
    rw [ih1, ih2, lnI_getD C 1 S i (by omega)]
    by_cases hc : C.getD i 0 = 0
    · have e : lnK C 1 S i = 0 := by unfold lnK; rw [if_pos hc]
      rw [e, if_pos hc]
      simp
      exact ih3
    · have e : lnK C 1 S i = 1 := by unfold lnK; rw [if_neg hc, if_neg (fun q => by have := q.2; omega)]
      rw [e, if_neg hc]
      simp
      omega

/-- They are a set of codes. -/
theorem lnI_new (C : List Int) (k S : Nat) (hl : C.length ≤ 320) (hk : 1 ≤ k) (hk2 : k ≤ 15) (hN : pn C C.length + S = 2 ^ k) (hm : k = 1 ∨ 2 ^ (k - 1) < pn C C.length) (h1 : 1 ≤ pn C C.length) : newErr (lnI C k S) = 0 := by
  have hok : okB (lnI C k S) = true := (okB_iff _).2 ⟨by rw [lnI_length]; exact hl, lnI_in C k S hk2⟩
  have hfl := flt_all _ (lnI_in C k S hk2)
  rw [lnI_length] at hfl
  unfold newErr
  rw [if_pos hok]
  by_cases e : k = 1
  · subst e
    obtain ⟨f1, f2, f3⟩ := lnI_flt1 C S C.length (Nat.le_refl _)
    have h2 : pn C C.length ≤ 2 := by have : (2 : Nat) ^ 1 = 2 := rfl; omega
    by_cases e2 : pn C C.length = 2
    · have hful : fl (cf (lnI C 1 S)) 16 = 32768 := by rw [← hfl, f1, e2]; rfl
      rw [if_pos (.inl hful)]
    · have few : fewB (cf (lnI C 1 S)) = true := (few_iff _ (lnI_in C 1 S (by omega))).2 (.inr ⟨by rw [lnI_length, f2]; omega, by rw [lnI_length]; exact f3 (by omega)⟩)
      rw [if_pos (.inr few)]
  · have hp : (2 : Nat) ^ k = 2 ^ (k - 1) * 2 := by rw [← Nat.pow_succ]; congr 1; omega
    have hmm : 2 ^ (k - 1) < pn C C.length := by omega
    have f := lnI_flt C k S (by omega) hk2 C.length (Nat.le_refl _)
    have hful : fl (cf (lnI C k S)) 16 = 32768 := by
      rw [← hfl, f, show min (pn C C.length) S = S by omega, hN]
      have e3 : ((2 ^ k : Nat) : Int) = (2 : Int) ^ k := by simp
      rw [e3, ← Int.pow_add, show k + (15 - k) = 15 by omega]
      rfl
    rw [if_pos (.inl hful)]

end Go.Proofs.YtkaibpibnkmmbaaDoor
