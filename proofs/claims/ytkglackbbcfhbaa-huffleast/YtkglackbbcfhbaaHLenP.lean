/-
  Plain lists: what the lengths that are made are: none longer than may be, just full, rarer symbols no shorter.
-/
import Derived.Test.YtkglackbbcfhbaaHKraftN
import Derived.Test.YtkglackbbcfhbaaHBackN
import Derived.Test.YtkglackbbcfhbaaHRefN
import Derived.Test.YtkglackbbcfhbaaHCostN
namespace Go.Proofs.Ytkglackbbcfhbaa

theorem count_take_at : ∀ (D : List Int) (p c : Nat), D.Nodup → p < D.length → (D.take c).count (D.getD p 0) = if p < c then 1 else 0
  | [], p, c, _, h => by simp at h
  | x :: D, 0, 0, _, _ => by simp
  | x :: D, 0, c + 1, hd, _ => by
    have h1 : x ∉ D := (List.nodup_cons.1 hd).1
    have h2 : x ∉ D.take c := fun h => h1 (List.mem_of_mem_take h)
    simp [List.count_eq_zero.2 h2]
  | x :: D, p + 1, 0, _, _ => by simp
  | x :: D, p + 1, c + 1, hd, h => by
    have hp : p < D.length := by simpa using h
    have h1 : x ∉ D := (List.nodup_cons.1 hd).1
    have ih := count_take_at D p c (List.nodup_cons.1 hd).2 hp
    have e : (x :: D).getD (p + 1) 0 = D.getD p 0 := by simp
    have hne : ¬ x = D.getD p 0 := by
      intro h
      apply h1
      rw [h, getD_i D p hp]
      exact List.getElem_mem hp
    rw [e, List.take_succ_cons, List.count_cons, ih]
    have : (x == D.getD p 0) = false := by simpa using hne
    rw [this]
    by_cases hc : p < c
    · simp [hc]
    · simp [hc]

theorem posTo_nodup (O : List Int) (k : Nat) : (posTo O k).Nodup := by
  unfold posTo
  unfold List.Nodup
  rw [List.pairwise_map]
  refine (List.Pairwise.filter _ List.nodup_range).imp ?_
  intro a b h e
  exact h (by omega)

/-- D is the symbols that come at all, the rarest first. -/
structure Used (O D : List Int) (m : Nat) : Prop where
  perm : List.Perm D (posTo O O.length)
  sr : Sr O D 0 D.length
  may : mayB O (m : Int) = true

theorem Used.nodup {O D : List Int} {m : Nat} (h : Used O D m) : D.Nodup := h.perm.nodup_iff.2 (posTo_nodup O O.length)
theorem Used.le {O D : List Int} {m : Nat} (h : Used O D m) : D.length ≤ 2 ^ m := by
  have := ((mayB_iff O m).1 h.may).2.2.2.2
  rw [h.perm.length_eq]
  simpa using this
theorem Used.bd {O D : List Int} {m : Nat} (h : Used O D m) : O.length ≤ 320 ∧ 1 ≤ m ∧ m ≤ 15 := by
  have := (mayB_iff O m).1 h.may
  omega
theorem Used.often {O D : List Int} {m : Nat} (h : Used O D m) (i : Nat) : 0 ≤ O.getD i 0 ∧ O.getD i 0 ≤ 1048576 := by
  by_cases hi : i < O.length
  · rw [getD_i O i hi]
    exact (oftB_iff O).1 ((mayB_iff O m).1 h.may).2.2.2.1 _ (List.getElem_mem hi)
  · simp [List.getD, List.getElem?_eq_none (Nat.le_of_not_lt hi)]
theorem Used.mem {O D : List Int} {m : Nat} (h : Used O D m) (x : Int) : x ∈ D ↔ ∃ i : Nat, x = (i : Int) ∧ i < O.length ∧ 0 < O.getD i 0 := (h.perm.mem_iff).trans (posTo_mem O O.length x)
theorem Used.at {O D : List Int} {m : Nat} (h : Used O D m) {i : Nat} (hi : i < O.length) (hp : 0 < O.getD i 0) : ∃ p, p < D.length ∧ D.getD p 0 = (i : Int) := by
  obtain ⟨p, hp, e⟩ := List.mem_iff_getElem.1 ((h.mem (i : Int)).2 ⟨i, rfl, hi, hp⟩)
  exact ⟨p, hp, by rw [getD_i D p hp, e]⟩
theorem Used.sorted {O D : List Int} {m : Nat} (h : Used O D m) : (D.map (key O)).Pairwise (· ≤ ·) := by
  rw [List.pairwise_iff_getElem]
  intro i j hi hj hij
  have hi' : i < D.length := by simpa using hi
  have hj' : j < D.length := by simpa using hj
  have := h.sr i j (Nat.zero_le _) hij hj'
  rw [getD_i D i hi', getD_i D j hj'] at this
  simpa using this
theorem Used.wt {O D : List Int} {m : Nat} (h : Used O D m) : ∀ x ∈ D.map (key O), 0 ≤ x ∧ x ≤ 1048576 := by
  intro x hx
  obtain ⟨y, hy, rfl⟩ := List.mem_map.1 hx
  exact h.often y.toNat

theorem lf_ln (D W : List Int) (m : Nat) (hd : D.Nodup) (p i : Nat) (hp : p < D.length) (hi : D.getD p 0 = (i : Int)) : ∀ r, lf D W m r i = (ln W m r p : Int)
  | 0 => rfl
  | r + 1 => by
    have ih := lf_ln D W m hd p i hp hi r
    have := count_take_at D p (sing W (m - 1 - r) (tk W m r)) hd hp
    rw [hi] at this
    simp only [lf, ln]
    rw [ih, this, Int.natCast_add]
    rfl
theorem lf_none (D W : List Int) (m i : Nat) (h : (i : Int) ∉ D) : ∀ r, lf D W m r i = 0
  | 0 => rfl
  | r + 1 => by
    have ih := lf_none D W m i h r
    have : (i : Int) ∉ D.take (sing W (m - 1 - r) (tk W m r)) := fun h2 => h (List.mem_of_mem_take h2)
    simp only [lf]
    rw [ih, List.count_eq_zero.2 this]
    rfl

/-- How long the code of the symbol at place p is. -/
def lnA (O D : List Int) (m p : Nat) : Nat := if D.length < 2 then 1 else ln (D.map (key O)) m m p

theorem Used.len {O D : List Int} {m : Nat} (h : Used O D m) {i p : Nat} (hi : i < O.length) (hp : p < D.length) (e : D.getD p 0 = (i : Int)) : (lensOf O D m).getD i 0 = (lnA O D m p : Int) := by
  rw [lensOf_getD O D m i hi]
  unfold lnA
  by_cases h2 : D.length < 2
  · rw [if_pos h2, if_pos h2]
    have := count_take_at D p D.length h.nodup hp
    rw [e, List.take_of_length_le (Nat.le_refl _), if_pos hp] at this
    rw [this]
  · rw [if_neg h2, if_neg h2]
    exact lf_ln D _ m h.nodup p i hp e m
theorem Used.len0 {O D : List Int} {m : Nat} (h : Used O D m) {i : Nat} (hi : i < O.length) (e : O.getD i 0 = 0) : (lensOf O D m).getD i 0 = 0 := by
  have hn : (i : Int) ∉ D := by
    intro hm
    obtain ⟨j, h1, _, h3⟩ := (h.mem _).1 hm
    have : i = j := by omega
    subst this
    omega
  rw [lensOf_getD O D m i hi]
  by_cases h2 : D.length < 2
  · rw [if_pos h2, List.count_eq_zero.2 hn]; rfl
  · rw [if_neg h2]
    exact lf_none D _ m i hn m
theorem Used.lnIn {O D : List Int} {m : Nat} (h : Used O D m) {p : Nat} (hp : p < D.length) : 1 ≤ lnA O D m p ∧ lnA O D m p ≤ m := by
  have hb := h.bd
  unfold Go.Proofs.Ytkglackbbcfhbaa.lnA
  by_cases h2 : D.length < 2
  · rw [if_pos h2]; omega
  · rw [if_neg h2]
    have h1 := ln_le (D.map (key O)) m p m
    have h3 := ln_up (D.map (key O)) m p 1 (m - 1)
    rw [show 1 + (m - 1) = m by omega] at h3
    have h4 := sr_first (D.map (key O)) h.sorted h.wt (by simp; omega) m
    have h5 : ln (D.map (key O)) m 1 p = 1 := by
      simp only [ln]
      rw [h4, if_pos (by simpa using hp)]
    omega

theorem Used.bounds {O D : List Int} {m : Nat} (h : Used O D m) {i : Nat} (hi : i < O.length) : 0 ≤ (lensOf O D m).getD i 0 ∧ (lensOf O D m).getD i 0 ≤ m ∧ (0 < O.getD i 0 → 0 < (lensOf O D m).getD i 0) ∧ (O.getD i 0 = 0 → (lensOf O D m).getD i 0 = 0) := by
  have ho := h.often i
  by_cases e : O.getD i 0 = 0
  · have := h.len0 hi e
    omega
  · obtain ⟨p, hp, ep⟩ := h.at hi (by omega)
    have h1 := h.len hi hp ep
    have h2 := h.lnIn hp
    omega
theorem Used.ok {O D : List Int} {m : Nat} (h : Used O D m) : okB (lensOf O D m) = true := by
  refine okTo_all (fun j hj => ?_) (by rw [lensOf_length]; exact h.bd.1)
  rw [lensOf_length] at hj
  have := h.bounds hj
  have := h.bd
  omega

theorem ln_rare (W : List Int) (m : Nat) {p q : Nat} (h : p ≤ q) : ∀ r, ln W m r q ≤ ln W m r p
  | 0 => Nat.le_refl _
  | r + 1 => by
    have := ln_rare W m h r
    simp only [ln]
    split <;> split <;> omega
/-- What comes more often has no longer code. -/
theorem Used.rare {O D : List Int} {m : Nat} (h : Used O D m) {i k : Nat} (hi : i < O.length) (hk : k < O.length) (h1 : O.getD k 0 < O.getD i 0) (h2 : 0 < O.getD k 0) : (lensOf O D m).getD i 0 ≤ (lensOf O D m).getD k 0 := by
  obtain ⟨p, hp, ep⟩ := h.at hi (by omega)
  obtain ⟨q, hq, eq⟩ := h.at hk h2
  rw [h.len hi hp ep, h.len hk hq eq]
  have hqp : q < p := by
    rcases Nat.lt_trichotomy p q with h3 | h3 | h3
    · have := h.sr p q (Nat.zero_le _) h3 hq
      rw [ep, eq] at this
      unfold key at this
      rw [Int.toNat_natCast, Int.toNat_natCast] at this
      omega
    · subst h3
      rw [ep] at eq
      have : i = k := by omega
      subst this
      omega
    · exact h3
  unfold Go.Proofs.Ytkglackbbcfhbaa.lnA
  split
  · omega
  · have := ln_rare (D.map (key O)) m (Nat.le_of_lt hqp) m
    omega

theorem sum_perm {A B : List Int} (h : A.Perm B) (g : Int → Int) : (A.map g).sum = (B.map g).sum := by
  induction h with
  | nil => rfl
  | cons x _ ih => simp [ih]
  | swap x y l => simp; omega
  | trans _ _ ih1 ih2 => exact ih1.trans ih2
theorem sm_shift (f : Nat → Int) : ∀ n, sm f (n + 1) = f 0 + sm (fun p => f (p + 1)) n
  | 0 => by simp [sm]
  | n + 1 => by
    have := sm_shift f n
    simp only [sm] at this ⊢
    omega
theorem sum_sm (g : Int → Int) : ∀ D : List Int, (D.map g).sum = sm (fun p => g (D.getD p 0)) D.length
  | [] => rfl
  | x :: D => by
    have ih := sum_sm g D
    rw [List.map_cons, List.sum_cons, ih, List.length_cons, sm_shift]
    rfl

theorem Used.flt {O D : List Int} {m : Nat} (h : Used O D m) : ∀ k, k ≤ O.length → flt (lensOf O D m) k = ((posTo O k).map fun x => (2 : Int) ^ (15 - ((lensOf O D m).getD x.toNat 0).toNat)).sum
  | 0, _ => rfl
  | k + 1, hk => by
    have ih := Used.flt h k (by omega)
    have hb := h.bounds (i := k) (by omega)
    have ho := h.often k
    simp only [Go.Proofs.Ytkglackbbcfhbaa.flt]
    by_cases e : 0 < O.getD k 0
    · rw [posTo_yes O k e, List.map_append, List.sum_append, ih, if_pos (hb.2.2.1 e)]
      simp
    · rw [posTo_no O k e, ih, if_neg (by have := hb.2.2.2 (by omega); omega)]
      omega
theorem Used.mny {O D : List Int} {m : Nat} (h : Used O D m) : ∀ k, k ≤ O.length → mny (lensOf O D m) k = (posTo O k).length
  | 0, _ => rfl
  | k + 1, hk => by
    have ih := Used.mny h k (by omega)
    have hb := h.bounds (i := k) (by omega)
    have ho := h.often k
    simp only [Go.Proofs.Ytkglackbbcfhbaa.mny]
    by_cases e : 0 < O.getD k 0
    · rw [posTo_yes O k e, if_pos (hb.2.2.1 e), ih]
      simp
    · rw [posTo_no O k e, if_neg (by have := hb.2.2.2 (by omega); omega), ih]

theorem Used.fill {O D : List Int} {m : Nat} (h : Used O D m) : fl (cf (lensOf O D m)) 16 = sm (fun p => (2 : Int) ^ (15 - lnA O D m p)) D.length := by
  rw [← flt_all _ ((okB_iff _).1 h.ok).2, lensOf_length, h.flt O.length (Nat.le_refl _), ← sum_perm h.perm, sum_sm]
  refine sm_congr _ (fun p hp => ?_)
  obtain ⟨i, e, hi, _⟩ := (h.mem (D.getD p 0)).1 (by rw [getD_i D p hp]; exact List.getElem_mem hp)
  rw [e, Int.toNat_natCast, h.len hi hp e, Int.toNat_natCast]
theorem Used.full {O D : List Int} {m : Nat} (h : Used O D m) (h2 : 2 ≤ D.length) : fl (cf (lensOf O D m)) 16 = 32768 := by
  have hb := h.bd
  have := kraft (D.map (key O)) h.sorted h.wt (by simpa using h2) m hb.2.1 hb.2.2 (by simpa using h.le)
  rw [h.fill, ← this, List.length_map]
  refine sm_congr _ (fun p _ => ?_)
  unfold Go.Proofs.Ytkglackbbcfhbaa.lnA
  rw [if_neg (by omega)]
theorem Used.one {O D : List Int} {m : Nat} (h : Used O D m) (h1 : D.length = 1) : fl (cf (lensOf O D m)) 16 = 16384 := by
  have e : sm (fun p => (2 : Int) ^ (15 - lnA O D m p)) 1 = 0 + (2 : Int) ^ (15 - lnA O D m 0) := by simp only [sm]
  have e1 : lnA O D m 0 = 1 := by unfold lnA; rw [h1]; exact if_pos (by omega)
  rw [h.fill, h1, e, e1]
  decide
theorem Used.none {O D : List Int} {m : Nat} (h : Used O D m) (h1 : D.length = 0) : fl (cf (lensOf O D m)) 16 = 0 := by
  rw [h.fill, h1]
  rfl
theorem Used.many {O D : List Int} {m : Nat} (h : Used O D m) : Go.Proofs.Ytkglackbbcfhbaa.mny (lensOf O D m) O.length = D.length := by
  rw [h.mny O.length (Nat.le_refl _), h.perm.length_eq]

/-- A decoder of them there is. -/
theorem Used.new {O D : List Int} {m : Nat} (h : Used O D m) : newErr (lensOf O D m) = 0 := by
  unfold newErr
  rw [if_pos h.ok]
  by_cases h2 : 2 ≤ D.length
  · rw [if_pos (.inl (h.full h2))]
  · have few : fewB (cf (lensOf O D m)) = true := by
      have f := mny_facts (lensOf O D m) (lensOf O D m).length
      have hm := h.many
      have hlen := lensOf_length O D m
      rw [← hlen] at hm
      have hf := flt_all _ ((okB_iff _).1 h.ok).2
      refine (few_iff _ ((okB_iff _).1 h.ok).2).2 ?_
      by_cases h0 : D.length = 0
      · left; omega
      · right
        have h1 : D.length = 1 := by omega
        refine ⟨by omega, ?_⟩
        have e1 := f.2.2.1 (by omega)
        have e2 := (f.2.1 (by omega)).2
        rw [hf, h.one h1] at e1
        obtain ⟨y, hy⟩ := Int.eq_ofNat_of_zero_le (show 0 ≤ onl (lensOf O D m) (lensOf O D m).length by omega)
        rw [hy] at e1 e2 ⊢
        rw [Int.toNat_natCast] at e1
        have e3 : ((2 ^ (15 - y) : Nat) : Int) = (2 : Int) ^ (15 - y) := by simp
        have e4 : (2 ^ (15 - y) : Nat) = 2 ^ 14 := by omega
        have := (Nat.pow_right_inj (by omega : 1 < 2)).1 e4
        have : y = 1 := by
          have : 15 - y = 14 := this
          omega
        omega
    rw [if_pos (.inr few)]

/-! What they cost. -/
theorem Used.cost {O D : List Int} {m : Nat} (h : Used O D m) : ∀ k, k ≤ O.length → csum O (lensOf O D m) k = ((posTo O k).map fun x => key O x * (lensOf O D m).getD x.toNat 0).sum
  | 0, _ => rfl
  | k + 1, hk => by
    have ih := Used.cost h k (by omega)
    have ho := h.often k
    simp only [csum]
    by_cases e : 0 < O.getD k 0
    · rw [posTo_yes O k e, List.map_append, List.sum_append, ih]
      simp [key]
    · have e0 : O.getD k 0 = 0 := by omega
      rw [posTo_no O k e, ih, e0]
      omega
theorem Used.costs {O D : List Int} {m : Nat} (h : Used O D m) : csum O (lensOf O D m) O.length = sm (fun p => (D.map (key O)).getD p 0 * (lnA O D m p : Int)) D.length := by
  rw [h.cost O.length (Nat.le_refl _), ← sum_perm h.perm, sum_sm]
  refine sm_congr _ (fun p hp => ?_)
  obtain ⟨i, e, hi, _⟩ := (h.mem (D.getD p 0)).1 (by rw [getD_i D p hp]; exact List.getElem_mem hp)
  have e2 : (D.map (key O)).getD p 0 = key O (D.getD p 0) := by simp [List.getD, hp]
  rw [e2, e, Int.toNat_natCast, h.len hi hp e]

theorem sm_add (f g : Nat → Int) : ∀ n, sm (fun p => f p + g p) n = sm f n + sm g n
  | 0 => rfl
  | n + 1 => by simp only [sm]; rw [sm_add f g n]; omega
theorem sm_upto (f : Nat → Int) (c : Nat) : ∀ n, c ≤ n → sm (fun p => if p < c then f p else 0) n = sm f c
  | 0, h => by
    have : c = 0 := by omega
    subst this; rfl
  | n + 1, h => by
    simp only [sm]
    by_cases e : c ≤ n
    · rw [sm_upto f c n e, if_neg (by omega)]; omega
    · have : c = n + 1 := by omega
      subst this
      rw [if_pos (by omega)]
      simp only [sm]
      congr 1
      exact sm_congr n (fun i hi => by rw [if_pos (by omega)])
theorem sm_zero : ∀ n, sm (fun _ => 0) n = 0
  | 0 => rfl
  | n + 1 => by simp only [sm]; rw [sm_zero n]; rfl

/-- The sum of the first t things of a row. -/
def rsum (W : List Int) (k t : Nat) : Int := sm (fun q => ((rowN W k).map (·.1)).getD q 0) t

theorem mrg_sum : ∀ (n : Nat) (A B : List Int) (t : Nat), n = A.length + B.length → t ≤ n → sm (fun q => ((mrgN n A B).map (·.1)).getD q 0) t = sm (fun p => A.getD p 0) (cntN n A B t) + sm (fun p => B.getD p 0) (t - cntN n A B t)
  | 0, A, B, t, hn, ht => by
    have : t = 0 := by omega
    subst this
    rfl
  | n + 1, A, B, 0, hn, ht => by simp [cntN, sm]
  | n + 1, A, B, t + 1, hn, ht => by
    by_cases hg : sg A B = true
    · cases A with
      | nil =>
        exfalso
        cases B with
        | nil => simp at hn
        | cons b B => simp [sg] at hg
      | cons a A =>
        have ih := mrg_sum n A B t (by simp at hn; omega) (by omega)
        rw [cntN_yes n a A B t hg, sm_shift, sm_shift, mrgN, if_pos hg, show t + 1 - (cntN n A B t + 1) = t - cntN n A B t by omega]
        simp only [List.map_cons, List.getD_cons_zero, List.getD_cons_succ, List.headD_cons, List.tail_cons]
        rw [ih]
        omega
    · cases B with
      | nil => simp [sg] at hg
      | cons b B =>
        have ih := mrg_sum n A B t (by simp at hn; omega) (by omega)
        have hc := cntN_le n A B t
        rw [cntN_no n A b B t hg, show t + 1 - cntN n A B t = (t - cntN n A B t) + 1 by omega, sm_shift, sm_shift (fun p => (b :: B).getD p 0), mrgN, if_neg hg]
        simp only [List.map_cons, List.getD_cons_zero, List.getD_cons_succ, List.headD_cons, List.tail_cons]
        rw [ih]
        omega
theorem pairs_sum (R : List Int) : ∀ b, b ≤ R.length / 2 → sm (fun p => (pairs R).getD p 0) b = sm (fun p => R.getD p 0) (2 * b)
  | 0, _ => rfl
  | b + 1, h => by
    have ih := pairs_sum R b (by omega)
    rw [show 2 * (b + 1) = (2 * b + 1) + 1 by omega]
    simp only [sm]
    rw [ih, pairs_getD R b (by omega)]
    omega
theorem rsum_row (W : List Int) (k t : Nat) (h : t ≤ (told W k).length) : rsum W k t = sm (fun p => W.getD p 0) (sing W k t) + sm (fun p => (prs W k).getD p 0) (t - sing W k t) := by
  rw [told_length] at h
  unfold rsum
  rw [sing_cnt, rowN_prs]
  exact mrg_sum _ W (prs W k) t rfl h
theorem rsum_down (W : List Int) (k t : Nat) (h : t ≤ (told W (k + 1)).length) : rsum W (k + 1) t = sm (fun p => W.getD p 0) (sing W (k + 1) t) + rsum W k (2 * (t - sing W (k + 1) t)) := by
  rw [rsum_row W (k + 1) t h]
  congr 1
  have h1 := rest_le W (k + 1) t h
  have h2 : (prs W (k + 1)).length = ((rowN W k).map (·.1)).length / 2 := pairs_length _
  exact pairs_sum _ _ (by omega)

theorem rsum_all (W : List Int) (m : Nat) (hm : W.length ≤ 2 ^ m) : ∀ d r, r + d + 1 = m → rsum W (m - 1 - r) (tk W m r) + sm (fun p => W.getD p 0 * (ln W m r p : Int)) W.length = sm (fun p => W.getD p 0 * (ln W m m p : Int)) W.length
  | 0, r, hr => by
    have e : m - 1 - r = 0 := by omega
    have ht := tk_le W m hm r (by omega)
    have hrow := rsum_row W 0 (tk W m r) (by rw [← e]; exact ht)
    have e3 : sing W 0 (tk W m r) = sr W m r := by unfold sr; rw [e]
    have h0 : (prs W 0) = [] := rfl
    rw [e, hrow, h0, e3]
    have e4 : sm (fun p => ([] : List Int).getD p 0) (tk W m r - sr W m r) = 0 := by
      have := sm_congr (f := fun p => ([] : List Int).getD p 0) (g := fun _ => 0) (tk W m r - sr W m r) (fun i _ => by simp)
      rw [this, sm_zero]
    rw [e4]
    have e5 : m = r + 1 := by omega
    have e6 : sm (fun p => W.getD p 0 * (ln W m m p : Int)) W.length = sm (fun p => (if p < sr W m r then W.getD p 0 else 0) + W.getD p 0 * (ln W m r p : Int)) W.length := by
      refine sm_congr _ (fun p _ => ?_)
      have : ln W m m p = ln W m r p + if p < sr W m r then 1 else 0 := by
        conv => lhs; arg 3; rw [e5]
        rfl
      rw [this]
      split
      · rw [Int.natCast_add, Int.mul_add]; simp; omega
      · simp
    rw [e6, sm_add, sm_upto _ _ _ (sr_le W m r)]
    omega
  | d + 1, r, hr => by
    have ih := rsum_all W m hm d (r + 1) (by omega)
    have ht := tk_le W m hm r (by omega)
    have e : m - 1 - r = (m - 1 - (r + 1)) + 1 := by omega
    have hd := rsum_down W (m - 1 - (r + 1)) (tk W m r) (by rw [← e]; exact ht)
    rw [← e] at hd
    have e3 : sing W (m - 1 - r) (tk W m r) = sr W m r := rfl
    rw [e3, ← tk_succ] at hd
    rw [hd]
    have e6 : sm (fun p => W.getD p 0 * (ln W m (r + 1) p : Int)) W.length = sm (fun p => (if p < sr W m r then W.getD p 0 else 0) + W.getD p 0 * (ln W m r p : Int)) W.length := by
      refine sm_congr _ (fun p _ => ?_)
      simp only [ln]
      split
      · rw [Int.natCast_add, Int.mul_add]; simp; omega
      · simp
    rw [e6, sm_add, sm_upto _ _ _ (sr_le W m r)] at ih
    omega

/-- The cost is the sum of so many things of the last row. -/
theorem Used.least {O D : List Int} {m : Nat} (h : Used O D m) (h2 : 2 ≤ D.length) : csum O (lensOf O D m) O.length = rsum (D.map (key O)) (m - 1) (2 * D.length - 2) := by
  have hb := h.bd
  have h1 := rsum_all (D.map (key O)) m (by simpa using h.le) (m - 1) 0 (by omega)
  rw [h.costs]
  have e1 : sm (fun p => (D.map (key O)).getD p 0 * (ln (D.map (key O)) m 0 p : Int)) (D.map (key O)).length = 0 := by
    have := sm_congr (f := fun p => (D.map (key O)).getD p 0 * (ln (D.map (key O)) m 0 p : Int)) (g := fun _ => 0) (D.map (key O)).length (fun i _ => by simp [ln])
    rw [this, sm_zero]
  rw [e1] at h1
  have e2 : tk (D.map (key O)) m 0 = 2 * D.length - 2 := by simp [tk]
  rw [e2] at h1
  have e3 : sm (fun p => (D.map (key O)).getD p 0 * (lnA O D m p : Int)) D.length = sm (fun p => (D.map (key O)).getD p 0 * (ln (D.map (key O)) m m p : Int)) (D.map (key O)).length := by
    rw [List.length_map]
    refine sm_congr _ (fun p _ => ?_)
    unfold Go.Proofs.Ytkglackbbcfhbaa.lnA
    rw [if_neg (by omega)]
  rw [e3, ← h1]
  simp

end Go.Proofs.Ytkglackbbcfhbaa
