/-
  Plain lists: how many things of each row are taken, and what lengths come of it.
-/
import Derived.Test.YtkglackbbcfhbaaHRows
import Derived.Test.YtkglackbbcfhbaaHRareN
namespace Go.Proofs.Ytkglackbbcfhbaa

/-- Which things of row k are singles. -/
def told (W : List Int) (k : Nat) : List Bool := (rowN W k).map (·.2)

theorem told_length (W : List Int) (k : Nat) : (told W k).length = W.length + (prs W k).length := by
  unfold told
  rw [List.length_map, rowN_prs, mrg_length]

/-- How many of the first t things of row k are singles. -/
def sing (W : List Int) (k t : Nat) : Nat := ((told W k).take t).count true

/-- How many things are taken in each round, of m rows. -/
def tk (W : List Int) (m : Nat) : Nat → Nat
  | 0 => 2 * W.length - 2
  | r + 1 => 2 * (tk W m r - sing W (m - 1 - r) (tk W m r))

/-- What a symbol has got when r rounds are over. -/
def lf (D W : List Int) (m : Nat) : Nat → Nat → Int
  | 0, _ => 0
  | r + 1, i => lf D W m r i + (((D.take (sing W (m - 1 - r) (tk W m r))).count (i : Int) : Nat) : Int)

theorem count_mrgN : ∀ (n : Nat) (A B : List Int), n = A.length + B.length → ((mrgN n A B).map (·.2)).count true = A.length ∧ ((mrgN n A B).map (·.2)).count false = B.length
  | 0, A, B, h => by
    have : A.length = 0 := by omega
    have : B.length = 0 := by omega
    simp [mrgN]
    omega
  | n + 1, A, B, h => by
    unfold mrgN
    by_cases hs : sg A B = true
    · rw [if_pos hs]
      cases A with
      | nil =>
        exfalso
        cases B with
        | nil => simp at h
        | cons b B => simp [sg] at hs
      | cons a A =>
        have ih := count_mrgN n A B (by simp at h; omega)
        simp only [List.map_cons, List.tail_cons, List.count_cons, ih.1, ih.2]
        simp
    · rw [if_neg hs]
      cases B with
      | nil => simp [sg] at hs
      | cons b B =>
        have ih := count_mrgN n A B (by simp at h; omega)
        simp only [List.map_cons, List.tail_cons, List.count_cons, ih.1, ih.2]
        simp

theorem told_true (W : List Int) (k : Nat) : (told W k).count true = W.length := by
  unfold told
  rw [rowN_prs]
  exact (count_mrgN _ W (prs W k) rfl).1
theorem told_false (W : List Int) (k : Nat) : (told W k).count false = (prs W k).length := by
  unfold told
  rw [rowN_prs]
  exact (count_mrgN _ W (prs W k) rfl).2

theorem count_both (T : List Bool) : T.count true + T.count false = T.length := by
  induction T with
  | nil => rfl
  | cons b T ih => cases b <;> simp <;> omega

theorem count_take_le (T : List Bool) (b : Bool) (t : Nat) : (T.take t).count b ≤ T.count b := (List.take_sublist t T).count_le b

theorem sing_le (W : List Int) (k t : Nat) : sing W k t ≤ W.length := by
  have := count_take_le (told W k) true t
  rw [told_true] at this
  exact this
theorem sing_le_t (W : List Int) (k t : Nat) : sing W k t ≤ t := by
  unfold sing
  exact Nat.le_trans List.count_le_length (by simp; omega)
theorem rest_le (W : List Int) (k t : Nat) (h : t ≤ (told W k).length) : t - sing W k t ≤ (prs W k).length := by
  have h1 := count_both ((told W k).take t)
  have h2 := count_take_le (told W k) false t
  rw [told_false] at h2
  rw [List.length_take] at h1
  unfold sing
  omega

theorem prs_succ_length (W : List Int) (k : Nat) : (prs W (k + 1)).length = (told W k).length / 2 := by
  show (pairs ((rowN W k).map (·.1))).length = _
  rw [pairs_length, told]
  simp

/-- The rows are long enough. -/
theorem told_long (W : List Int) (j : Nat) (h : W.length ≤ 2 ^ j) : ∀ k, k < j → 2 * W.length ≤ (told W k).length + 2 ^ (j - k)
  | 0, hk => by
    rw [told_length]
    simp only [Nat.sub_zero]
    omega
  | k + 1, hk => by
    have ih := told_long W j h k (by omega)
    rw [told_length, prs_succ_length]
    have e : 2 ^ (j - k) = 2 * 2 ^ (j - (k + 1)) := by
      rw [show j - k = (j - (k + 1)) + 1 by omega, Nat.pow_succ]; omega
    rw [e] at ih
    omega

theorem tk_le (W : List Int) (m : Nat) (h : W.length ≤ 2 ^ m) : ∀ r, r < m → tk W m r ≤ (told W (m - 1 - r)).length
  | 0, hr => by
    have := told_long W m h (m - 1) (by omega)
    rw [show m - (m - 1) = 1 by omega] at this
    simp only [tk, Nat.sub_zero]
    omega
  | r + 1, hr => by
    have ih := tk_le W m h r (by omega)
    have h1 := rest_le W (m - 1 - r) (tk W m r) ih
    have h2 : (prs W (m - 1 - r)).length = (told W (m - 1 - (r + 1))).length / 2 := by
      rw [show m - 1 - r = (m - 1 - (r + 1)) + 1 by omega, prs_succ_length]
    simp only [tk]
    omega

/-- One more thing of a row. -/
theorem sing_yes (W : List Int) (k p : Nat) (hp : p < (told W k).length) (h : (told W k).getD p false = true) : sing W k (p + 1) = sing W k p + 1 ∧ sing W k p < W.length := by
  have e : (told W k).take (p + 1) = (told W k).take p ++ [true] := by
    rw [List.take_succ_eq_append_getElem hp]
    have : (told W k)[p] = true := by simpa [List.getD, hp] using h
    rw [this]
  have h1 : sing W k (p + 1) = sing W k p + 1 := by
    unfold sing
    rw [e, List.count_append]
    rfl
  have := sing_le W k (p + 1)
  exact ⟨h1, by omega⟩
theorem sing_no (W : List Int) (k p : Nat) (hp : p < (told W k).length) (h : (told W k).getD p false = false) : sing W k (p + 1) = sing W k p := by
  have e : (told W k).take (p + 1) = (told W k).take p ++ [false] := by
    rw [List.take_succ_eq_append_getElem hp]
    have : (told W k)[p] = false := by simpa [List.getD, hp] using h
    rw [this]
  unfold sing
  rw [e, List.count_append]
  rfl
theorem sing_zero (W : List Int) (k : Nat) : sing W k 0 = 0 := rfl

/-- The lengths that are answered. -/
def lensOf (O D : List Int) (m : Nat) : List Int := (List.range O.length).map fun (i : Nat) => if D.length < 2 then ((D.count (i : Int) : Nat) : Int) else lf D (D.map (key O)) m m i

theorem lensOf_length (O D : List Int) (m : Nat) : (lensOf O D m).length = O.length := by simp [lensOf]
theorem lensOf_getD (O D : List Int) (m i : Nat) (h : i < O.length) : (lensOf O D m).getD i 0 = if D.length < 2 then ((D.count (i : Int) : Nat) : Int) else lf D (D.map (key O)) m m i := by
  simp [lensOf, List.getD, h]

theorem take_count_snoc (D : List Int) (c : Nat) (hc : c < D.length) (i : Int) : (D.take (c + 1)).count i = (D.take c).count i + if D.getD c 0 = i then 1 else 0 := by
  rw [List.take_succ_eq_append_getElem hc, List.count_append, List.count_singleton, getD_i D c hc]
  by_cases e : D[c] = i <;> simp [e]

theorem lf_bd (D W : List Int) (m : Nat) (i : Nat) (hD : D.length ≤ 1000) : ∀ r, 0 ≤ lf D W m r i ∧ lf D W m r i ≤ 1000 * r
  | 0 => by simp [lf]
  | r + 1 => by
    have ih := lf_bd D W m i hD r
    have h1 := List.count_le_length (a := (i : Int)) (l := D.take (sing W (m - 1 - r) (tk W m r)))
    have h2 : (D.take (sing W (m - 1 - r) (tk W m r))).length ≤ D.length := by simp; omega
    simp only [lf]
    omega

end Go.Proofs.Ytkglackbbcfhbaa
