/-
  Plain numbers: the lengths that a block of kind 2 begins with.
-/
import Derived.Test.YtkaibpibnkmmbaaDoorISymsN
namespace Go.Proofs.YtkaibpibnkmmbaaDoor
set_option linter.unusedVariables false

/-- The order in which the lengths of lengths' codes come. -/
def ordL : List Nat := [16, 17, 18, 0, 8, 7, 9, 6, 10, 5, 11, 4, 12, 3, 13, 2, 14, 1, 15]
def ord (k : Nat) : Nat := ordL.getD k 0

theorem ord_lt : ∀ k, ord k < 19 := by
  intro k
  by_cases h : k < 19
  · have : ∀ k, k < 19 → ord k < 19 := by decide
    exact this k h
  · unfold ord
    rw [List.getD_eq_getElem?_getD, List.getElem?_eq_none (by simp [ordL]; omega)]
    decide

/-- The lengths of the lengths' codes when k of them were read. -/
def clF (M t : Nat) : Nat → Nat → Int
  | 0, _ => 0
  | k + 1, j => if j = ord k then ((M / 2 ^ (t + 3 * k) % 8 : Nat) : Int) else clF M t k j
def clL (M t k : Nat) : List Int := (List.range 19).map (clF M t k)

theorem clF_bd (M t : Nat) : ∀ k j, 0 ≤ clF M t k j ∧ clF M t k j ≤ 7
  | 0, _ => by simp [clF]
  | k + 1, j => by
    have ih := clF_bd M t k j
    have h8 : M / 2 ^ (t + 3 * k) % 8 < 8 := Nat.mod_lt _ (by omega)
    simp only [clF]
    split
    · exact ⟨by omega, by omega⟩
    · exact ih

theorem clL_length (M t k : Nat) : (clL M t k).length = 19 := by simp [clL]
theorem clL_getD (M t k j : Nat) (h : j < 19) : (clL M t k).getD j 0 = clF M t k j := by simp [clL, List.getD, h]

/-- How many lengths a symbol of lengths tells. -/
def timP (M m x t : Nat) : Except Nat (Nat × Nat) :=
  if x = 16 then numP M m t 3 2 else if x = 17 then numP M m t 3 3 else if x = 18 then numP M m t 11 7 else .ok (1, t)

/-- What holds of it. -/
def TimOk (m t : Nat) : Except Nat (Nat × Nat) → Prop
  | .error x => x = 2
  | .ok (y, u) => 1 ≤ y ∧ y ≤ 138 ∧ t ≤ u ∧ u ≤ 8 * m

theorem timP_ok (M m x t : Nat) (ht : t ≤ 8 * m) : TimOk m t (timP M m x t) := by
  have key : ∀ l n, 1 ≤ l → l + 2 ^ n ≤ 139 → TimOk m t (numP M m t l n) := by
    intro l n h1 h2
    unfold numP
    by_cases g : t + n ≤ 8 * m
    · rw [if_pos g]
      have := Nat.mod_lt (M / 2 ^ t) (Nat.two_pow_pos n)
      exact ⟨by omega, by omega, by omega, g⟩
    · rw [if_neg g]; rfl
  unfold timP
  split
  · exact key 3 2 (by omega) (by decide)
  · split
    · exact key 3 3 (by omega) (by decide)
    · split
      · exact key 11 7 (by omega) (by decide)
      · exact ⟨by omega, by omega, by omega, ht⟩

/-- Which length it tells, behind those that were told. -/
def lenOf (x : Nat) (A : List Int) : Int := if x = 16 then A.getD (A.length - 1) 0 else if 16 < x then 0 else (x : Int)

theorem lenOf_nonneg (x : Nat) (A : List Int) (h : ∀ y ∈ A, 0 ≤ y) : 0 ≤ lenOf x A := by
  unfold lenOf
  split
  · rw [List.getD_eq_getElem?_getD]
    cases hq : A[A.length - 1]? with
    | none => simp
    | some q => exact h q (List.mem_of_getElem? hq)
  · split <;> omega
theorem more_nonneg {x n : Nat} {A : List Int} {l : Int} (h : ∀ y ∈ A, 0 ≤ y) (hl : lenOf x A = l) : ∀ y ∈ A ++ List.replicate n l, 0 ≤ y := by
  intro y hy
  rcases List.mem_append.1 hy with e | e
  · exact h y e
  · rw [List.eq_of_mem_replicate e, ← hl]; exact lenOf_nonneg x A h

/-- What lengths are read, by codes C, until there are so many. -/
inductive Lens (C : List Int) (M m many : Nat) : Nat → List Int → Except Nat (Nat × List Int) → Prop
  | done {t : Nat} {A : List Int} : many ≤ A.length → Lens C M m many t A (.ok (t, A))
  | bad {t e : Nat} {A : List Int} : A.length < many → symV C M m t = .error e → Lens C M m many t A (.error e)
  | first {t u : Nat} {A : List Int} : A.length < many → symV C M m t = .ok (16, u) → A.length = 0 → Lens C M m many t A (.error 3)
  | short {t u x e : Nat} {A : List Int} : A.length < many → symV C M m t = .ok (x, u) → ¬ (x = 16 ∧ A.length = 0) → timP M m x u = .error e → Lens C M m many t A (.error e)
  | over {t u x n u2 : Nat} {A : List Int} : A.length < many → symV C M m t = .ok (x, u) → ¬ (x = 16 ∧ A.length = 0) → timP M m x u = .ok (n, u2) → many - A.length < n → Lens C M m many t A (.error 3)
  | more {t u x n u2 : Nat} {A : List Int} {r : Except Nat (Nat × List Int)} : A.length < many → symV C M m t = .ok (x, u) → ¬ (x = 16 ∧ A.length = 0) → timP M m x u = .ok (n, u2) → n ≤ many - A.length → Lens C M m many u2 (A ++ List.replicate n (lenOf x A)) r → Lens C M m many t A r

theorem Lens.one {C : List Int} {M m many t : Nat} {A : List Int} {r r' : Except Nat (Nat × List Int)} (a : Lens C M m many t A r) (b : Lens C M m many t A r') : r = r' := by
  induction a with
  | done h =>
    cases b with
    | done _ => rfl
    | bad h2 => omega
    | first h2 => omega
    | short h2 => omega
    | over h2 => omega
    | more h2 => omega
  | bad h hs =>
    cases b with
    | done h2 => omega
    | bad _ h2 => rw [hs] at h2; injection h2 with h2; rw [h2]
    | first _ h2 => rw [hs] at h2; cases h2
    | short _ h2 => rw [hs] at h2; cases h2
    | over _ h2 => rw [hs] at h2; cases h2
    | more _ h2 => rw [hs] at h2; cases h2
  | first h hs hz =>
    cases b with
    | done h2 => omega
    | bad _ h2 => rw [hs] at h2; cases h2
    | first _ _ _ => rfl
    | short _ h2 hn => obtain ⟨e1, _⟩ := ok_inj rfl hs h2; exact absurd ⟨e1.symm, hz⟩ hn
    | over _ h2 hn => obtain ⟨e1, _⟩ := ok_inj rfl hs h2; exact absurd ⟨e1.symm, hz⟩ hn
    | more _ h2 hn => obtain ⟨e1, _⟩ := ok_inj rfl hs h2; exact absurd ⟨e1.symm, hz⟩ hn
  | short h hs hn ht =>
    cases b with
    | done h2 => omega
    | bad _ h2 => rw [hs] at h2; cases h2
    | first _ h2 hz => obtain ⟨e1, _⟩ := ok_inj rfl hs h2; exact absurd ⟨e1, hz⟩ hn
    | short _ h2 _ ht2 => obtain ⟨rfl, rfl⟩ := ok_inj rfl hs h2; rw [ht] at ht2; injection ht2 with ht2; rw [ht2]
    | over _ h2 _ ht2 => obtain ⟨rfl, rfl⟩ := ok_inj rfl hs h2; rw [ht] at ht2; cases ht2
    | more _ h2 _ ht2 => obtain ⟨rfl, rfl⟩ := ok_inj rfl hs h2; rw [ht] at ht2; cases ht2
  | over h hs hn ht ho =>
    cases b with
    | done h2 => omega
    | bad _ h2 => rw [hs] at h2; cases h2
    | first _ h2 hz => rfl
    | short _ h2 _ ht2 => obtain ⟨rfl, rfl⟩ := ok_inj rfl hs h2; rw [ht] at ht2; cases ht2
    | over _ _ _ _ _ => rfl
    | more _ h2 _ ht2 ho2 => obtain ⟨rfl, rfl⟩ := ok_inj rfl hs h2; obtain ⟨rfl, _⟩ := ok_inj rfl ht ht2; omega
  | more h hs hn ht ho _ ih =>
    cases b with
    | done h2 => omega
    | bad _ h2 => rw [hs] at h2; cases h2
    | first _ h2 hz => obtain ⟨e1, _⟩ := ok_inj rfl hs h2; exact absurd ⟨e1, hz⟩ hn
    | short _ h2 _ ht2 => obtain ⟨rfl, rfl⟩ := ok_inj rfl hs h2; rw [ht] at ht2; cases ht2
    | over _ h2 _ ht2 ho2 => obtain ⟨rfl, rfl⟩ := ok_inj rfl hs h2; obtain ⟨rfl, _⟩ := ok_inj rfl ht ht2; omega
    | more _ h2 _ ht2 _ hr =>
      obtain ⟨rfl, rfl⟩ := ok_inj rfl hs h2
      obtain ⟨rfl, rfl⟩ := ok_inj rfl ht ht2
      exact ih hr

noncomputable def lensV (C : List Int) (M m many t : Nat) : Except Nat (Nat × List Int) := Classical.epsilon (Lens C M m many t [])
theorem Lens.val {C : List Int} {M m many t : Nat} {r : Except Nat (Nat × List Int)} (h : Lens C M m many t [] r) : lensV C M m many t = r :=
  (Classical.epsilon_spec ⟨r, h⟩ : Lens C M m many t [] (lensV C M m many t)).one h

/-- Lengths, as codes of literals (so many) and of distances. -/
def ownA (lit u : Nat) (A : List Int) : Except Nat (Nat × List Int × List Int) :=
  if A.getD 256 0 = 0 then .error 3
  else if newErr (A.take lit) ≠ 0 then .error (newErr (A.take lit)).toNat
  else if newErr (A.drop lit) ≠ 0 then .error (newErr (A.drop lit)).toNat
  else .ok (u, A.take lit, A.drop lit)
def ownB (lit : Nat) : Except Nat (Nat × List Int) → Except Nat (Nat × List Int × List Int)
  | .error e => .error e
  | .ok (u, A) => ownA lit u A
noncomputable def ownC (M m t h2 h3 h4 : Nat) : Except Nat (Nat × List Int × List Int) :=
  if 286 < h2 + 257 ∨ 30 < h3 + 1 then .error 3
  else if t + 14 + 3 * (h4 + 4) ≤ 8 * m then
    if newErr (clL M (t + 14) (h4 + 4)) = 0 then ownB (h2 + 257) (lensV (clL M (t + 14) (h4 + 4)) M m (h2 + 257 + (h3 + 1)) (t + 14 + 3 * (h4 + 4)))
    else .error (newErr (clL M (t + 14) (h4 + 4))).toNat
  else .error 2
/-- The codes that a block of kind 2 begins with: an error, or the lengths of literals and of distances, and the next bit. -/
noncomputable def ownP (M m t : Nat) : Except Nat (Nat × List Int × List Int) :=
  if t + 14 ≤ 8 * m then ownC M m t (M / 2 ^ t % 16384 % 32) (M / 2 ^ t % 16384 / 32 % 32) (M / 2 ^ t % 16384 / 1024) else .error 2

end Go.Proofs.YtkaibpibnkmmbaaDoor
