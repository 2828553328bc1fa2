/-
  Plain lists: in two rows as one a single that is no heavier than a pair stands ahead of it; so the singles that are taken fall from row to row, and all of them are taken in the last row.
-/
import Derived.Test.YtkglackbbcfhbaaHLenN
namespace Go.Proofs.Ytkglackbbcfhbaa

/-- How many of the first t things are singles. -/
def cntN (n : Nat) (A B : List Int) (t : Nat) : Nat := (((mrgN n A B).map (·.2)).take t).count true

theorem cntN_zero (n : Nat) (A B : List Int) : cntN n A B 0 = 0 := rfl
theorem cntN_yes (n : Nat) (a : Int) (A B : List Int) (t : Nat) (h : sg (a :: A) B = true) : cntN (n + 1) (a :: A) B (t + 1) = cntN n A B t + 1 := by
  unfold cntN
  rw [mrgN, if_pos h]
  simp
theorem cntN_no (n : Nat) (A : List Int) (b : Int) (B : List Int) (t : Nat) (h : ¬ sg A (b :: B) = true) : cntN (n + 1) A (b :: B) (t + 1) = cntN n A B t := by
  unfold cntN
  rw [mrgN, if_neg h]
  simp
theorem cntN_le (n : Nat) (A B : List Int) (t : Nat) : cntN n A B t ≤ t := by
  unfold cntN
  exact Nat.le_trans List.count_le_length (by simp; omega)

theorem mrg_ahead : ∀ (n : Nat) (A B : List Int) (t i j : Nat), n = A.length + B.length → A.Pairwise (· ≤ ·) → j < t - cntN n A B t → i < A.length → j < B.length → A.getD i 0 ≤ B.getD j 0 → i < cntN n A B t
  | 0, A, B, t, i, j, hn, hp, hj, hi, hjB, hle => by omega
  | n + 1, A, B, 0, i, j, hn, hp, hj, hi, hjB, hle => by omega
  | n + 1, A, B, t + 1, i, j, hn, hp, hj, hi, hjB, hle => by
    by_cases hs : sg A B = true
    · cases A with
      | nil => simp at hi
      | cons a A =>
        rw [cntN_yes n a A B t hs] at hj ⊢
        cases i with
        | zero => omega
        | succ i =>
          have := mrg_ahead n A B t i j (by simp at hn; omega) (List.pairwise_cons.1 hp).2 (by omega) (by simpa using hi) hjB (by simpa using hle)
          omega
    · cases B with
      | nil => simp at hjB
      | cons b B =>
        rw [cntN_no n A b B t hs] at hj ⊢
        cases j with
        | zero =>
          exfalso
          cases A with
          | nil => simp at hi
          | cons a A =>
            rw [sg_both] at hs
            have h1 : ¬ a ≤ b := by simpa using hs
            have h2 : a ≤ (a :: A).getD i 0 := by
              cases i with
              | zero => simp
              | succ i =>
                have hi' : i < A.length := by simpa using hi
                have : (a :: A).getD (i + 1) 0 = A[i] := by simp [List.getD, hi']
                rw [this]
                exact (List.pairwise_cons.1 hp).1 _ (List.getElem_mem hi')
            have h3 : (b :: B).getD 0 0 = b := rfl
            rw [h3] at hle
            omega
        | succ j =>
          exact mrg_ahead n A B t i j (by simp at hn; omega) hp (by omega) hi (by simpa using hjB) (by simpa using hle)

theorem mrg_has : ∀ (n : Nat) (A B : List Int) (t s : Nat), n = A.length + B.length → s < cntN n A B t → ∃ q, q < t ∧ q < n ∧ ((mrgN n A B).map (·.1)).getD q 0 = A.getD s 0
  | 0, A, B, t, s, hn, hs => by simp [cntN, mrgN] at hs
  | n + 1, A, B, 0, s, hn, hs => by simp [cntN] at hs
  | n + 1, A, B, t + 1, s, hn, hs => by
    by_cases hg : sg A B = true
    · cases A with
      | nil =>
        exfalso
        cases B with
        | nil => simp at hn
        | cons b B => simp [sg] at hg
      | cons a A =>
        rw [cntN_yes n a A B t hg] at hs
        cases s with
        | zero => exact ⟨0, by omega, by omega, by rw [mrgN, if_pos hg]; simp⟩
        | succ s =>
          obtain ⟨q, h1, h2, h3⟩ := mrg_has n A B t s (by simp at hn; omega) (by omega)
          refine ⟨q + 1, by omega, by omega, ?_⟩
          rw [mrgN, if_pos hg]
          simpa using h3
    · cases B with
      | nil => simp [sg] at hg
      | cons b B =>
        rw [cntN_no n A b B t hg] at hs
        obtain ⟨q, h1, h2, h3⟩ := mrg_has n A B t s (by simp at hn; omega) hs
        refine ⟨q + 1, by omega, by omega, ?_⟩
        rw [mrgN, if_neg hg]
        simpa using h3

theorem sing_cnt (W : List Int) (k t : Nat) : sing W k t = cntN (W.length + (prs W k).length) W (prs W k) t := by
  unfold sing told
  rw [rowN_prs]
  rfl

theorem rowN_nonneg (W : List Int) (h : ∀ x ∈ W, 0 ≤ x ∧ x ≤ 1048576) (k q : Nat) : 0 ≤ ((rowN W k).map (·.1)).getD q 0 := by
  by_cases hq : q < ((rowN W k).map (·.1)).length
  · rw [getD_i _ _ hq]
    exact (rowN_mem W h k _ (List.getElem_mem hq)).1
  · simp [List.getD, List.getElem?_eq_none (Nat.le_of_not_lt hq)]

theorem sing_fall (W : List Int) (hp : W.Pairwise (· ≤ ·)) (h : ∀ x ∈ W, 0 ≤ x ∧ x ≤ 1048576) (k t : Nat) (ht : t ≤ (told W (k + 1)).length) :
    sing W k (2 * (t - sing W (k + 1) t)) ≤ sing W (k + 1) t := by
  by_cases hc : sing W k (2 * (t - sing W (k + 1) t)) ≤ sing W (k + 1) t
  · exact hc
  · exfalso
    have hs : sing W (k + 1) t < sing W k (2 * (t - sing W (k + 1) t)) := by omega
    have hsW : sing W (k + 1) t < W.length := Nat.lt_of_lt_of_le hs (sing_le W k _)
    have hb := rest_le W (k + 1) t ht
    rw [sing_cnt W k] at hs
    obtain ⟨q, h1, h2, h3⟩ := mrg_has _ W (prs W k) _ _ rfl hs
    have hr : ((rowN W k).map (·.1)).getD q 0 = W.getD (sing W (k + 1) t) 0 := by rw [rowN_prs]; exact h3
    have hj : q / 2 < (prs W (k + 1)).length := by omega
    have hjl : q / 2 < ((rowN W k).map (·.1)).length / 2 := by
      have : (prs W (k + 1)).length = ((rowN W k).map (·.1)).length / 2 := pairs_length _
      omega
    have hP : (prs W (k + 1)).getD (q / 2) 0 = ((rowN W k).map (·.1)).getD (2 * (q / 2)) 0 + ((rowN W k).map (·.1)).getD (2 * (q / 2) + 1) 0 := pairs_getD _ _ hjl
    have n1 := rowN_nonneg W h k (2 * (q / 2))
    have n2 := rowN_nonneg W h k (2 * (q / 2) + 1)
    have hle : W.getD (sing W (k + 1) t) 0 ≤ (prs W (k + 1)).getD (q / 2) 0 := by
      rw [hP]
      rcases Nat.mod_two_eq_zero_or_one q with e | e
      · rw [show 2 * (q / 2) = q by omega] at *
        omega
      · rw [show 2 * (q / 2) + 1 = q by omega] at *
        omega
    have := mrg_ahead _ W (prs W (k + 1)) t (sing W (k + 1) t) (q / 2) rfl hp (by rw [← sing_cnt]; omega) hsW hj hle
    rw [← sing_cnt] at this
    omega

theorem sing_more (W : List Int) (k : Nat) {t t' : Nat} (h : t ≤ t') : sing W k t ≤ sing W k t' := by
  unfold sing
  have : (told W k).take t = ((told W k).take t').take t := by rw [List.take_take, Nat.min_eq_left h]
  rw [this]
  exact (List.take_sublist t _).count_le true

theorem sing_whole (W : List Int) (k t : Nat) (h : (told W k).length ≤ t) : sing W k t = W.length := by
  unfold sing
  rw [List.take_of_length_le h, told_true]

theorem sing_full (W : List Int) (hp : W.Pairwise (· ≤ ·)) (h : ∀ x ∈ W, 0 ≤ x ∧ x ≤ 1048576) (hn : 2 ≤ W.length) : ∀ k, sing W k (2 * W.length - 2) = W.length
  | 0 => by
    apply sing_whole
    rw [told_length]
    show W.length + 0 ≤ _
    omega
  | k + 1 => by
    by_cases ht : (told W (k + 1)).length ≤ 2 * W.length - 2
    · exact sing_whole W _ _ ht
    · have ih := sing_full W hp h hn k
      have h1 := sing_fall W hp h k (2 * W.length - 2) (by omega)
      have h2 := sing_le W (k + 1) (2 * W.length - 2)
      by_cases hc : sing W (k + 1) (2 * W.length - 2) = W.length
      · exact hc
      · exfalso
        have h3 := sing_more W k (t := 2 * W.length - 2) (t' := 2 * (2 * W.length - 2 - sing W (k + 1) (2 * W.length - 2))) (by omega)
        omega

/-- How many singles are taken in round r. -/
def sr (W : List Int) (m r : Nat) : Nat := sing W (m - 1 - r) (tk W m r)

theorem sr_le (W : List Int) (m r : Nat) : sr W m r ≤ W.length := sing_le W _ _
theorem sr_first (W : List Int) (hp : W.Pairwise (· ≤ ·)) (h : ∀ x ∈ W, 0 ≤ x ∧ x ≤ 1048576) (hn : 2 ≤ W.length) (m : Nat) : sr W m 0 = W.length := sing_full W hp h hn _
theorem sr_fall (W : List Int) (hp : W.Pairwise (· ≤ ·)) (h : ∀ x ∈ W, 0 ≤ x ∧ x ≤ 1048576) (m : Nat) (hm : W.length ≤ 2 ^ m) (r : Nat) (hr : r + 1 < m) : sr W m (r + 1) ≤ sr W m r := by
  have ht := tk_le W m hm r (by omega)
  have e : m - 1 - r = (m - 1 - (r + 1)) + 1 := by omega
  have := sing_fall W hp h (m - 1 - (r + 1)) (tk W m r) (by rw [← e]; exact ht)
  rw [← e] at this
  exact this
theorem tk_succ (W : List Int) (m r : Nat) : tk W m (r + 1) = 2 * (tk W m r - sr W m r) := rfl
theorem sr_le_tk (W : List Int) (m r : Nat) : sr W m r ≤ tk W m r := sing_le_t W _ _

theorem sing_row0 (W : List Int) (t : Nat) (h : t ≤ W.length) : sing W 0 t = t := by
  have h1 := count_both ((told W 0).take t)
  have h2 := count_take_le (told W 0) false t
  rw [told_false] at h2
  have h3 : (prs W 0).length = 0 := rfl
  have h4 := told_length W 0
  rw [List.length_take] at h1
  unfold sing
  omega
theorem tk_end (W : List Int) (m : Nat) (h0 : 1 ≤ m) (hm : W.length ≤ 2 ^ m) : tk W m m = 0 := by
  obtain ⟨k, rfl⟩ : ∃ k, m = k + 1 := ⟨m - 1, by omega⟩
  have ht := tk_le W (k + 1) hm k (by omega)
  rw [show k + 1 - 1 - k = 0 by omega] at ht
  have h3 : (told W 0).length = W.length := by rw [told_length]; rfl
  have := sing_row0 W (tk W (k + 1) k) (by omega)
  rw [tk_succ]
  unfold sr
  rw [show k + 1 - 1 - k = 0 by omega]
  omega

/-- In how many of the first r rounds the single of place p is taken. -/
def ln (W : List Int) (m : Nat) : Nat → Nat → Nat
  | 0, _ => 0
  | r + 1, p => ln W m r p + if p < sr W m r then 1 else 0

theorem ln_le (W : List Int) (m p : Nat) : ∀ r, ln W m r p ≤ r
  | 0 => Nat.le_refl _
  | r + 1 => by
    have := ln_le W m p r
    simp only [ln]
    split <;> omega
theorem ln_up (W : List Int) (m p : Nat) (r : Nat) : ∀ d, ln W m r p ≤ ln W m (r + d) p
  | 0 => Nat.le_refl _
  | d + 1 => by
    have := ln_up W m p r d
    rw [show r + (d + 1) = (r + d) + 1 by omega]
    simp only [ln]
    omega
theorem ln_all (W : List Int) (hp : W.Pairwise (· ≤ ·)) (h : ∀ x ∈ W, 0 ≤ x ∧ x ≤ 1048576) (m : Nat) (hm : W.length ≤ 2 ^ m) (p : Nat) : ∀ r, r < m → p < sr W m r → ln W m r p = r
  | 0, _, _ => rfl
  | r + 1, hr, hlt => by
    have h1 := sr_fall W hp h m hm r hr
    have ih := ln_all W hp h m hm p r (by omega) (by omega)
    simp only [ln]
    rw [ih, if_pos (by omega)]

/-- The sum of the first n. -/
def sm (f : Nat → Int) : Nat → Int
  | 0 => 0
  | n + 1 => sm f n + f n

theorem sm_congr {f g : Nat → Int} : ∀ n, (∀ i, i < n → f i = g i) → sm f n = sm g n
  | 0, _ => rfl
  | n + 1, h => by simp only [sm]; rw [sm_congr n (fun i hi => h i (by omega)), h n (by omega)]
theorem sm_step (f : Nat → Int) (c : Nat) : ∀ n, c ≤ n → sm (fun p => 2 * f p - if p < c then 1 else 0) n = 2 * sm f n - c
  | 0, h => by simp [sm]; omega
  | n + 1, h => by
    simp only [sm]
    by_cases e : c ≤ n
    · rw [sm_step f c n e, if_neg (by omega)]; omega
    · have e2 : c = n + 1 := by omega
      subst e2
      have : sm (fun p => 2 * f p - if p < n + 1 then 1 else 0) n = sm (fun p => 2 * f p - if p < n then 1 else 0) n := sm_congr n (fun i hi => by rw [if_pos (by omega), if_pos hi])
      rw [this, sm_step f n n (Nat.le_refl _), if_pos (by omega)]
      omega
theorem sm_mul (f : Nat → Int) (c : Int) : ∀ n, sm (fun p => c * f p) n = c * sm f n
  | 0 => by simp [sm]
  | n + 1 => by simp only [sm]; rw [sm_mul f c n, Int.mul_add]
theorem sm_one : ∀ n, sm (fun _ => 1) n = n
  | 0 => rfl
  | n + 1 => by simp only [sm]; rw [sm_one n]; omega

theorem kraft_round (W : List Int) (hp : W.Pairwise (· ≤ ·)) (h : ∀ x ∈ W, 0 ≤ x ∧ x ≤ 1048576) (hn : 2 ≤ W.length) (m : Nat) (hm : W.length ≤ 2 ^ m) : ∀ r, r ≤ m → 2 * sm (fun p => (2 : Int) ^ (r - ln W m r p)) W.length = tk W m r + 2 ^ (r + 1)
  | 0, _ => by
    have : sm (fun p => (2 : Int) ^ (0 - ln W m 0 p)) W.length = W.length := by
      rw [← sm_one W.length]
      exact sm_congr _ (fun i _ => by simp [ln])
    rw [this]
    simp only [tk]
    omega
  | r + 1, hr => by
    have ih := kraft_round W hp h hn m hm r (by omega)
    have e : sm (fun p => (2 : Int) ^ (r + 1 - ln W m (r + 1) p)) W.length = sm (fun p => 2 * (2 : Int) ^ (r - ln W m r p) - if p < sr W m r then 1 else 0) W.length := by
      refine sm_congr _ (fun p _ => ?_)
      simp only [ln]
      by_cases hc : p < sr W m r
      · rw [if_pos hc, if_pos hc, ln_all W hp h m hm p r (by omega) hc]
        simp
      · rw [if_neg hc, if_neg hc]
        have := ln_le W m p r
        rw [show r + 1 - (ln W m r p + 0) = (r - ln W m r p) + 1 by omega, Int.pow_succ]
        omega
    rw [e, sm_step _ _ _ (sr_le W m r), tk_succ]
    have h1 := sr_le_tk W m r
    have e2 : (2 : Int) ^ (r + 1 + 1) = 2 ^ (r + 1) * 2 := Int.pow_succ _ _
    rw [e2]
    omega

/-- Just full. -/
theorem kraft (W : List Int) (hp : W.Pairwise (· ≤ ·)) (h : ∀ x ∈ W, 0 ≤ x ∧ x ≤ 1048576) (hn : 2 ≤ W.length) (m : Nat) (h0 : 1 ≤ m) (h15 : m ≤ 15) (hm : W.length ≤ 2 ^ m) : sm (fun p => (2 : Int) ^ (15 - ln W m m p)) W.length = 32768 := by
  have h1 := kraft_round W hp h hn m hm m (Nat.le_refl _)
  rw [tk_end W m h0 hm, Int.pow_succ] at h1
  have e : sm (fun p => (2 : Int) ^ (15 - ln W m m p)) W.length = 2 ^ (15 - m) * sm (fun p => (2 : Int) ^ (m - ln W m m p)) W.length := by
    rw [← sm_mul]
    refine sm_congr _ (fun p _ => ?_)
    have := ln_le W m p m
    rw [← Int.pow_add]
    congr 1
    omega
  have h2 : sm (fun p => (2 : Int) ^ (m - ln W m m p)) W.length = 2 ^ m := by omega
  rw [e, h2, ← Int.pow_add, show 15 - m + m = 15 by omega]
  rfl

end Go.Proofs.Ytkglackbbcfhbaa
