/-
  Plain lists: two sorted stretches become one.
-/
import Derived.Test.YtkglackbbcfhbaaHRotN
namespace Go.Proofs.Ytkglackbbcfhbaa
set_option linter.unusedVariables false

/-- What stood at a has gone up to t, those between one down. -/
def upI (a t k : Nat) : Nat := if a ≤ k ∧ k < t then k + 1 else if k = t then a else k
/-- What stood at m has gone down to t, those between one up. -/
def dnI (m t k : Nat) : Nat := if t < k ∧ k ≤ m then k - 1 else if k = t then m else k

theorem getD_far (D : List Int) (k : Nat) (h : D.length ≤ k) : D.getD k 0 = 0 := by simp [List.getD, List.getElem?_eq_none h]

theorem up_next {D D' : List Int} {a t : Nat} (hat : a ≤ t) (ht : t + 1 < D.length) (hl : D'.length = D.length) (H : ∀ k, k < D.length → D'.getD k 0 = D.getD (upI a t k) 0) :
    ∀ k, k < D.length → (swp D' t (t + 1)).getD k 0 = D.getD (upI a (t + 1) k) 0 := by
  intro k hk
  rw [swp_getD D' _ _ k (by omega) (by omega), H t (by omega), H (t + 1) ht, H k hk]
  unfold upI
  repeat' split
  all_goals first | rfl | (exfalso; omega) | (congr 1; omega)

theorem dn_next {D D' : List Int} {m t : Nat} (hat : t ≤ m) (h0 : 0 < t) (ht : m < D.length) (hl : D'.length = D.length) (H : ∀ k, k < D.length → D'.getD k 0 = D.getD (dnI m t k) 0) :
    ∀ k, k < D.length → (swp D' t (t - 1)).getD k 0 = D.getD (dnI m (t - 1) k) 0 := by
  intro k hk
  rw [swp_getD D' _ _ k (by omega) (by omega), H t (by omega), H (t - 1) (by omega), H k hk]
  unfold dnI
  repeat' split
  all_goals first | rfl | (exfalso; omega) | (congr 1; omega)

/-- One ahead of a sorted stretch, gone up. -/
theorem up_srt {O D D' : List Int} {a b i : Nat} (hb : b ≤ D.length) (hl : D'.length = D.length) (hp : List.Perm D' D) (hi : a + 1 ≤ i) (hib : i ≤ b) (hs : Sr O D (a + 1) b)
    (h1 : a + 1 < i → key O (D.getD (i - 1) 0) < key O (D.getD a 0)) (h2 : i < b → key O (D.getD a 0) ≤ key O (D.getD i 0)) (H : ∀ k, k < D.length → D'.getD k 0 = D.getD (upI a (i - 1) k) 0) : Srt O D a b D' := by
  refine ⟨hp, fun k hk => ?_, fun p q hap hpq hqb => ?_⟩
  · by_cases hkl : k < D.length
    · rw [H k hkl]; unfold upI; rw [if_neg (by omega), if_neg (by omega)]
    · rw [getD_far _ _ (by omega), getD_far _ _ (by omega)]
  · rw [H p (by omega), H q (by omega)]
    have lo : ∀ k, a + 1 ≤ k → k < i → key O (D.getD k 0) ≤ key O (D.getD a 0) := by
      intro k k1 k2
      by_cases e : k = i - 1
      · subst e; have := h1 (by omega); omega
      · have := hs k (i - 1) k1 (by omega) (by omega); have := h1 (by omega); omega
    have hi' : ∀ k, i ≤ k → k < b → key O (D.getD a 0) ≤ key O (D.getD k 0) := by
      intro k k1 k2
      by_cases e : k = i
      · subst e; have := h2 (by omega); omega
      · have := hs i k (by omega) (by omega) (by omega); have := h2 (by omega); omega
    unfold upI
    by_cases c1 : q < i - 1
    · rw [if_pos (by omega), if_pos (by omega)]; exact hs _ _ (by omega) (by omega) (by omega)
    · by_cases c2 : q = i - 1
      · rw [if_pos (by omega), if_neg (by omega), if_pos c2]; exact lo _ (by omega) (by omega)
      · rw [if_neg (show ¬ (a ≤ q ∧ q < i - 1) by omega), if_neg c2]
        by_cases c3 : p < i - 1
        · rw [if_pos (by omega)]; exact hs _ _ (by omega) (by omega) (by omega)
        · rw [if_neg (by omega)]
          by_cases c4 : p = i - 1
          · rw [if_pos c4]; exact hi' _ (by omega) (by omega)
          · rw [if_neg c4]; exact hs _ _ (by omega) (by omega) (by omega)

/-- One behind a sorted stretch, gone down. -/
theorem dn_srt {O D D' : List Int} {a m i : Nat} (hb : m < D.length) (hl : D'.length = D.length) (hp : List.Perm D' D) (hi : a ≤ i) (him : i ≤ m) (hs : Sr O D a m)
    (h1 : a < i → key O (D.getD (i - 1) 0) ≤ key O (D.getD m 0)) (h2 : i < m → key O (D.getD m 0) < key O (D.getD i 0)) (H : ∀ k, k < D.length → D'.getD k 0 = D.getD (dnI m i k) 0) : Srt O D a (m + 1) D' := by
  refine ⟨hp, fun k hk => ?_, fun p q hap hpq hqb => ?_⟩
  · by_cases hkl : k < D.length
    · rw [H k hkl]; unfold dnI; rw [if_neg (by omega)]
      by_cases e : k = i
      · omega
      · rw [if_neg e]
    · rw [getD_far _ _ (by omega), getD_far _ _ (by omega)]
  · rw [H p (by omega), H q (by omega)]
    have lo : ∀ k, a ≤ k → k < i → key O (D.getD k 0) ≤ key O (D.getD m 0) := by
      intro k k1 k2
      by_cases e : k = i - 1
      · subst e; have := h1 (by omega); omega
      · have := hs k (i - 1) k1 (by omega) (by omega); have := h1 (by omega); omega
    have hi' : ∀ k, i ≤ k → k < m → key O (D.getD m 0) ≤ key O (D.getD k 0) := by
      intro k k1 k2
      by_cases e : k = i
      · subst e; have := h2 (by omega); omega
      · have := hs i k (by omega) (by omega) (by omega); have := h2 (by omega); omega
    unfold dnI
    by_cases c1 : i < p
    · rw [if_pos (by omega), if_pos (by omega)]; exact hs _ _ (by omega) (by omega) (by omega)
    · rw [if_neg (show ¬ (i < p ∧ p ≤ m) by omega)]
      by_cases c2 : p = i
      · rw [if_pos c2, if_pos (by omega)]; exact hi' _ (by omega) (by omega)
      · rw [if_neg c2]
        by_cases c3 : i < q
        · rw [if_pos (by omega)]; exact hs _ _ (by omega) (by omega) (by omega)
        · rw [if_neg (by omega)]
          by_cases c4 : q = i
          · rw [if_pos c4]; exact lo _ (by omega) (by omega)
          · rw [if_neg c4]; exact hs _ _ (by omega) (by omega) (by omega)

/-- Within a stretch that was mixed each stood in it before. -/
theorem Mix.from {D D' : List Int} {a b : Nat} (h : Mix D a b D') (hb : b ≤ D.length) (hab : a ≤ b) : ∀ p, a ≤ p → p < b → ∃ q, a ≤ q ∧ q < b ∧ D'.getD p 0 = D.getD q 0 := by
  intro p h1 h2
  have hl : D'.length = D.length := h.perm.length_eq
  have e1 : D'.take a = D.take a := by
    apply List.ext_getElem (by simp [hl])
    intro k k1 k2
    have := h.out k (by simp at k1; omega)
    simp only [List.getElem_take]
    simp at k1 k2
    rw [getD_i _ _ (by omega), getD_i _ _ (by omega)] at this
    exact this
  have e2 : D'.drop b = D.drop b := by
    apply List.ext_getElem (by simp [hl])
    intro k k1 k2
    have := h.out (b + k) (by omega)
    simp only [List.getElem_drop]
    simp at k1 k2
    rw [getD_i _ _ (by omega), getD_i _ _ (by omega)] at this
    exact this
  have s (X : List Int) : X = X.take a ++ ((X.drop a).take (b - a) ++ X.drop b) := by
    conv => lhs; rw [← List.take_append_drop a X]
    congr 1
    conv => lhs; rw [← List.take_append_drop (b - a) (X.drop a)]
    congr 1
    rw [List.drop_drop]
    congr 1
    omega
  have hp := h.perm
  rw [s D', s D, e1, e2] at hp
  have hp2 := (List.perm_append_right_iff _).1 ((List.perm_append_left_iff _).1 hp)
  have hm : D'.getD p 0 ∈ (D'.drop a).take (b - a) := by
    rw [getD_i _ _ (by omega), List.mem_iff_getElem]
    exact ⟨p - a, by simp; omega, by simp; congr 1; omega⟩
  have hm2 := hp2.mem_iff.1 hm
  rw [List.mem_iff_getElem] at hm2
  obtain ⟨k, hk, e⟩ := hm2
  simp at hk
  refine ⟨a + k, by omega, by omega, ?_⟩
  rw [← e, getD_i D _ (by omega)]
  simp

theorem Srt.mix {O D D' : List Int} {a b : Nat} (h : Srt O D a b D') : Mix D a b D' := ⟨h.perm, h.out⟩

/-- Two halves, each sorted by itself, all of the first at most all of the second. -/
theorem Srt.join {O D D1 D2 : List Int} {a m b : Nat} (ham : a ≤ m) (hmb : m ≤ b) (hb : b ≤ D.length) (hc : ∀ p q, a ≤ p → p < m → m ≤ q → q < b → key O (D.getD p 0) ≤ key O (D.getD q 0)) (h1 : Srt O D a m D1) (h2 : Srt O D1 m b D2) : Srt O D a b D2 := by
  have l1 : D1.length = D.length := h1.perm.length_eq
  refine ⟨h2.perm.trans h1.perm, fun k hk => (h2.out k (by omega)).trans (h1.out k (by omega)), fun p q hap hpq hqb => ?_⟩
  by_cases c1 : q < m
  · rw [h2.out p (by omega), h2.out q (by omega)]; exact h1.sr p q hap hpq c1
  · by_cases c2 : m ≤ p
    · exact h2.sr p q c2 hpq hqb
    · rw [h2.out p (by omega)]
      obtain ⟨q', q1, q2, q3⟩ := h2.mix.from (by omega) hmb q (by omega) hqb
      obtain ⟨p', p1, p2, p3⟩ := h1.mix.from (by omega) ham p hap (by omega)
      rw [q3, p3, h1.out q' (by omega)]
      exact hc p' q' p1 p2 q1 q2

/-- Behind the turn. -/
theorem rot_cross {O D D' : List Int} {a m b mid s e : Nat} (ham : a < m) (hmb : m < b) (hb : b ≤ D.length) (has : a ≤ s) (hsm : s ≤ m) (hme : m ≤ e) (heb : e ≤ b) (hmid : mid + m = s + e) (hsd : s ≤ mid) (h1 : Sr O D a m) (h2 : Sr O D m b)
    (hx : a < s → e < b → key O (D.getD (s - 1) 0) ≤ key O (D.getD e 0)) (hy : s < m → m < e → key O (D.getD (e - 1) 0) ≤ key O (D.getD s 0)) (H : ∀ k, k < D.length → D'.getD k 0 = D.getD (rotI s m e k) 0) :
    Sr O D' a s ∧ Sr O D' s mid ∧ Sr O D' mid e ∧ Sr O D' e b ∧ (∀ p q, a ≤ p → p < mid → mid ≤ q → q < b → key O (D'.getD p 0) ≤ key O (D'.getD q 0)) := by
  have le1 : ∀ p q, a ≤ p → p ≤ q → q < m → key O (D.getD p 0) ≤ key O (D.getD q 0) := fun p q x y z => by
    by_cases e : p = q
    · subst e; omega
    · exact h1 p q x (by omega) z
  have le2 : ∀ p q, m ≤ p → p ≤ q → q < b → key O (D.getD p 0) ≤ key O (D.getD q 0) := fun p q x y z => by
    by_cases e : p = q
    · subst e; omega
    · exact h2 p q x (by omega) z
  have r1 : ∀ k, k < s → rotI s m e k = k := fun k hk => by unfold rotI; rw [if_neg (by omega), if_neg (by omega)]
  have r2 : ∀ k, s ≤ k → k < mid → rotI s m e k = k + (m - s) := fun k x y => by unfold rotI; rw [if_pos (by omega)]
  have r3 : ∀ k, mid ≤ k → k < e → rotI s m e k = k - (e - m) := fun k x y => by unfold rotI; rw [if_neg (by omega), if_pos (by omega)]
  have r4 : ∀ k, e ≤ k → mid ≤ k → rotI s m e k = k := fun k x y => by unfold rotI; rw [if_neg (by omega), if_neg (by omega)]
  refine ⟨fun p q x y z => ?_, fun p q x y z => ?_, fun p q x y z => ?_, fun p q x y z => ?_, fun p q x y z t => ?_⟩
  · rw [H p (by omega), H q (by omega), r1 p (by omega), r1 q (by omega)]; exact le1 _ _ (by omega) (by omega) (by omega)
  · rw [H p (by omega), H q (by omega), r2 p (by omega) (by omega), r2 q (by omega) (by omega)]; exact le2 _ _ (by omega) (by omega) (by omega)
  · rw [H p (by omega), H q (by omega), r3 p (by omega) (by omega), r3 q (by omega) (by omega)]; exact le1 _ _ (by omega) (by omega) (by omega)
  · rw [H p (by omega), H q (by omega), r4 p (by omega) (by omega), r4 q (by omega) (by omega)]; exact le2 _ _ (by omega) (by omega) (by omega)
  · rw [H p (by omega), H q (by omega)]
    by_cases c1 : p < s
    · rw [r1 p c1]
      by_cases c2 : q < e
      · rw [r3 q z c2]; exact le1 _ _ (by omega) (by omega) (by omega)
      · rw [r4 q (by omega) z]
        exact Int.le_trans (le1 p (s - 1) (by omega) (by omega) (by omega)) (Int.le_trans (hx (by omega) (by omega)) (le2 e q (by omega) (by omega) (by omega)))
    · rw [r2 p (by omega) y]
      by_cases c2 : q < e
      · rw [r3 q z c2]
        exact Int.le_trans (le2 _ (e - 1) (by omega) (by omega) (by omega)) (Int.le_trans (hy (by omega) (by omega)) (le1 s _ (by omega) (by omega) (by omega)))
      · rw [r4 q (by omega) z]; exact le2 _ _ (by omega) (by omega) (by omega)

theorem Srt.of_sr {O D : List Int} {a b : Nat} (h : Sr O D a b) : Srt O D a b D := ⟨List.Perm.refl _, fun _ _ => rfl, h⟩
theorem Sr.one (O D : List Int) {a b : Nat} (h : b ≤ a + 1) : Sr O D a b := fun p q _ _ _ => by omega
theorem Sr.of_out {O D D' : List Int} {a b c d : Nat} (h : Sr O D c d) (hm : Mix D a b D') (hd : d ≤ a ∨ b ≤ c) : Sr O D' c d := fun p q x y z => by
  rw [hm.out p (by omega), hm.out q (by omega)]; exact h p q x y z

end Go.Proofs.Ytkglackbbcfhbaa
