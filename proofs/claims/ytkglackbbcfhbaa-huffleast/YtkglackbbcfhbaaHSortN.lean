/-
  Plain lists: two places exchanged; rows sorted by how often symbols come.
-/
import Derived.Test.YtkglackbbcfhbaaHInt
namespace Go.Proofs.Ytkglackbbcfhbaa

def swp (D : List Int) (i j : Nat) : List Int := (D.set i (D.getD j 0)).set j (D.getD i 0)

theorem swp_length (D : List Int) (i j : Nat) : (swp D i j).length = D.length := by simp [swp]

theorem getD_set (D : List Int) (i k : Nat) (x : Int) (hi : i < D.length) : (D.set i x).getD k 0 = if k = i then x else D.getD k 0 := by
  by_cases e : k = i
  · subst e; simp [List.getD, hi]
  · simp [List.getD, e, Ne.symm e]

theorem swp_getD (D : List Int) (i j k : Nat) (hi : i < D.length) (hj : j < D.length) : (swp D i j).getD k 0 = if k = j then D.getD i 0 else if k = i then D.getD j 0 else D.getD k 0 := by
  unfold swp
  rw [getD_set _ _ _ _ (by simpa using hj), getD_set _ _ _ _ hi]

theorem swp_perm (D : List Int) (i j : Nat) (hi : i < D.length) (hj : j < D.length) : List.Perm (swp D i j) D := by
  rw [List.perm_iff_count]
  intro a
  unfold swp
  have e1 : D.getD i 0 = D[i] := by simp [List.getD, hi]
  have e2 : D.getD j 0 = D[j] := by simp [List.getD, hj]
  rw [e1, e2, List.count_set (by simpa using hj), List.count_set hi]
  have h1 : D[i] = a → 0 < D.count a := fun e => List.count_pos_iff.2 (by rw [← e]; exact List.getElem_mem hi)
  have h2 : D[j] = a → 0 < D.count a := fun e => List.count_pos_iff.2 (by rw [← e]; exact List.getElem_mem hj)
  by_cases eij : i = j
  · subst eij
    simp only [List.getElem_set_self]
    by_cases p : D[i] = a <;> simp [p]
    have := h1 p
    omega
  · rw [List.getElem_set_ne eij]
    by_cases p : D[i] = a <;> by_cases q : D[j] = a <;> simp [p, q]
    · have := h1 p; omega
    · have := h1 p; omega

/-- How often the symbol x comes. -/
def key (O : List Int) (x : Int) : Int := O.getD x.toNat 0

/-- From place a up to b the symbols come more and more often. -/
def Sr (O D : List Int) (a b : Nat) : Prop := ∀ p q, a ≤ p → p < q → q < b → key O (D.getD p 0) ≤ key O (D.getD q 0)

/-- All are symbols. -/
def InO (O D : List Int) : Prop := ∀ x ∈ D, 0 ≤ x ∧ x.toNat < O.length

theorem InO.at {O D : List Int} (h : InO O D) {k : Nat} (hk : k < D.length) : ∃ n : Nat, D.getD k 0 = (n : Int) ∧ n < O.length := by
  have hm : D.getD k 0 ∈ D := by rw [getD_i D k hk]; exact List.getElem_mem hk
  have := h _ hm
  exact ⟨(D.getD k 0).toNat, by omega, this.2⟩
theorem InO.perm {O D D' : List Int} (h : InO O D) (p : List.Perm D' D) : InO O D' := fun x hx => h x (p.mem_iff.1 hx)

/-- D' is D, from place a up to b sorted anew. -/
structure Srt (O D : List Int) (a b : Nat) (D' : List Int) : Prop where
  perm : List.Perm D' D
  out : ∀ k, k < a ∨ b ≤ k → D'.getD k 0 = D.getD k 0
  sr : Sr O D' a b

/-- D' is D but for places from a up to b. -/
structure Mix (D : List Int) (a b : Nat) (D' : List Int) : Prop where
  perm : List.Perm D' D
  out : ∀ k, k < a ∨ b ≤ k → D'.getD k 0 = D.getD k 0

theorem Mix.refl (D : List Int) (a b : Nat) : Mix D a b D := ⟨List.Perm.refl _, fun _ _ => rfl⟩
theorem Mix.trans {D D' D'' : List Int} {a b : Nat} (h : Mix D a b D') (h2 : Mix D' a b D'') : Mix D a b D'' := ⟨h2.perm.trans h.perm, fun k hk => (h2.out k hk).trans (h.out k hk)⟩
theorem Mix.wide {D D' : List Int} {a b a' b' : Nat} (h : Mix D a b D') (ha : a' ≤ a) (hb : b ≤ b') : Mix D a' b' D' := ⟨h.perm, fun k hk => h.out k (by omega)⟩
theorem Mix.swp {D : List Int} {a b i j : Nat} (hi : i < D.length) (hj : j < D.length) (h1 : a ≤ i ∧ i < b) (h2 : a ≤ j ∧ j < b) : Mix D a b (swp D i j) :=
  ⟨swp_perm D i j hi hj, fun k hk => by rw [swp_getD D i j k hi hj, if_neg (by omega), if_neg (by omega)]⟩

/-- The first of the loop within: all is sorted but for what stands at j. -/
def Sunk (O D : List Int) (a i j : Nat) : Prop := ∀ p q, a ≤ p → p < q → q ≤ i → q ≠ j → key O (D.getD p 0) ≤ key O (D.getD q 0)

theorem Sunk.start {O D : List Int} {a i : Nat} (h : Sr O D a i) : Sunk O D a i i := fun p q h1 h2 h3 h4 => h p q h1 h2 (by omega)
theorem Sunk.stop {O D : List Int} {a i : Nat} (h : Sunk O D a i a) : Sr O D a (i + 1) := fun p q h1 h2 h3 => h p q h1 h2 (by omega) (by omega)
theorem Sunk.stop' {O D : List Int} {a i j : Nat} (h : Sunk O D a i j) (hj : a < j) (hk : key O (D.getD (j - 1) 0) ≤ key O (D.getD j 0)) : Sr O D a (i + 1) := by
  intro p q h1 h2 h3
  by_cases e : q = j
  · subst e
    by_cases e2 : p = q - 1
    · subst e2; exact hk
    · exact Int.le_trans (h p (q - 1) h1 (by omega) (by omega) (by omega)) hk
  · exact h p q h1 h2 (by omega) e
theorem Sunk.next {O D : List Int} {a i j : Nat} (h : Sunk O D a i j) (hj : a < j) (hji : j ≤ i) (hi : i < D.length) (hk : key O (D.getD j 0) < key O (D.getD (j - 1) 0)) : Sunk O (swp D j (j - 1)) a i (j - 1) := by
  intro p q h1 h2 h3 h4
  rw [swp_getD _ _ _ _ (by omega) (by omega), swp_getD _ _ _ _ (by omega) (by omega)]
  rw [if_neg h4]
  by_cases eq : q = j
  · subst eq
    rw [if_pos rfl]
    by_cases ep : p = q - 1
    · rw [if_pos ep]; omega
    · rw [if_neg ep, if_neg (by omega)]
      exact h p (q - 1) h1 (by omega) (by omega) (by omega)
  · rw [if_neg eq]
    by_cases ep : p = j - 1
    · rw [if_pos ep]; exact h j q (by omega) (by omega) h3 eq
    · rw [if_neg ep]
      by_cases ep2 : p = j
      · rw [if_pos ep2]; exact h (j - 1) q (by omega) (by omega) h3 eq
      · rw [if_neg ep2]; exact h p q h1 h2 h3 eq

end Go.Proofs.Ytkglackbbcfhbaa
