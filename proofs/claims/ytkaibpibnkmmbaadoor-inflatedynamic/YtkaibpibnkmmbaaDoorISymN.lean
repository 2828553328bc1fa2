/-
  Plain numbers: the symbol that bits tell.
-/
import Derived.Test.YtkaibpibnkmmbaaDoorHInv
namespace Go.Proofs.YtkaibpibnkmmbaaDoor
set_option linter.unusedVariables false

theorem okB_parts {L : List Int} (h : okB L = true) : L.length ≤ 320 ∧ ∀ x ∈ L, 0 ≤ x ∧ x ≤ 15 := by
  unfold okB at h
  simp only [Bool.and_eq_true, decide_eq_true_eq, List.all_eq_true] at h
  exact ⟨h.1, fun x hx => h.2 x hx⟩

theorem newErr_ok {L : List Int} (h : newErr L = 0) : L.length ≤ 320 ∧ ∀ x ∈ L, 0 ≤ x ∧ x ≤ 15 := by
  refine okB_parts ?_
  unfold newErr at h
  by_cases e : okB L = true
  · exact e
  · rw [if_neg e] at h; omega

/-- The code so far with one bit more. -/
def cmore (M t code : Nat) : Nat := 2 * code + M / 2 ^ t % 2

/-- The symbol by lengths L that the bits of M (8 m of them) from t on tell, behind a code of so many bits: an error, or the symbol and the next bit. -/
inductive Sym (L : List Int) (M m : Nat) : Nat → Nat → Nat → Except Nat (Nat × Nat) → Prop
  | short {code len t : Nat} : 8 * m < t + 1 → Sym L M m code len t (.error 2)
  | hit {code len t i : Nat} : t + 1 ≤ 8 * m → i < L.length → L.getD i 0 = ((len + 1 : Nat) : Int) → codeOf L i = (cmore M t code : Int) → Sym L M m code len t (.ok (i, t + 1))
  | none {code len t : Nat} : t + 1 ≤ 8 * m → stf (cf L) (len + 1) + cf L (len + 1) ≤ (cmore M t code : Int) → plc (cf L) (len + 2) = plc (cf L) 16 → Sym L M m code len t (.error 3)
  | more {code len t : Nat} {r : Except Nat (Nat × Nat)} : t + 1 ≤ 8 * m → stf (cf L) (len + 1) + cf L (len + 1) ≤ (cmore M t code : Int) → plc (cf L) (len + 2) ≠ plc (cf L) 16 → Sym L M m (cmore M t code) (len + 1) (t + 1) r → Sym L M m code len t r

theorem hit_lt (L : List Int) (i N : Nat) (h1 : 1 ≤ N) (hi : i < L.length) (hx : L.getD i 0 = (N : Int)) : codeOf L i < stf (cf L) N + cf L N := by
  rw [codeOf_eq L i N hx (by omega)]
  have := cf_take_lt L i N hi hx (by omega)
  omega

theorem hit_one (L : List Int) (i j N : Nat) (h1 : 1 ≤ N) (hi : i < L.length) (hj : j < L.length) (hx : L.getD i 0 = (N : Int)) (hy : L.getD j 0 = (N : Int)) (e : codeOf L i = codeOf L j) : i = j := by
  rcases Nat.lt_trichotomy i j with h | h | h
  · have := code_rank L i j N hi hx hy (by omega) h; omega
  · exact h
  · have := code_rank L j i N hj hy hx (by omega) h; omega

theorem Sym.one {L : List Int} {M m code len t : Nat} {r r' : Except Nat (Nat × Nat)} (a : Sym L M m code len t r) (b : Sym L M m code len t r') : r = r' := by
  induction a with
  | short h =>
    cases b with
    | short _ => rfl
    | hit h2 => omega
    | none h2 => omega
    | more h2 => omega
  | hit h hi hx hc =>
    cases b with
    | short h2 => omega
    | hit h2 hj hy hd => rw [hit_one L _ _ _ (by omega) hi hj hx hy (by rw [hc, hd])]
    | none h2 hg => have := hit_lt L _ _ (by omega) hi hx; omega
    | more h2 hg => have := hit_lt L _ _ (by omega) hi hx; omega
  | none h hg hp =>
    cases b with
    | short h2 => omega
    | hit h2 hj hy hd => have := hit_lt L _ _ (by omega) hj hy; omega
    | none _ _ _ => rfl
    | more _ _ hq => exact absurd hp hq
  | more h hg hp _ ih =>
    cases b with
    | short h2 => omega
    | hit h2 hj hy hd => have := hit_lt L _ _ (by omega) hj hy; omega
    | none _ _ hq => exact absurd hq hp
    | more _ _ _ hs => exact ih hs

/-- The symbol that the bits from t on tell. -/
noncomputable def symV (L : List Int) (M m t : Nat) : Except Nat (Nat × Nat) := Classical.epsilon (Sym L M m 0 0 t)
theorem Sym.val {L : List Int} {M m t : Nat} {r : Except Nat (Nat × Nat)} (h : Sym L M m 0 0 t r) : symV L M m t = r :=
  (Classical.epsilon_spec ⟨r, h⟩ : Sym L M m 0 0 t (symV L M m t)).one h

theorem Sym.bd {L : List Int} {M m code len t : Nat} {r : Except Nat (Nat × Nat)} (a : Sym L M m code len t r) : ∀ i u, r = .ok (i, u) → i < L.length ∧ t < u ∧ u ≤ 8 * m := by
  induction a with
  | short h => intro i u e; cases e
  | hit h hi _ _ => intro i u e; injection e with e; injection e with e1 e2; subst e1; subst e2; exact ⟨hi, by omega, h⟩
  | none _ _ _ => intro i u e; cases e
  | more h _ _ _ ih => intro i u e; have := ih i u e; exact ⟨this.1, by omega, this.2.2⟩

/-- What holds of what is told. -/
def SymOk (n m t : Nat) : Except Nat (Nat × Nat) → Prop
  | .error x => x = 2 ∨ x = 3
  | .ok (i, u) => i < n ∧ t < u ∧ u ≤ 8 * m

theorem Sym.fine {L : List Int} {M m code len t : Nat} {r : Except Nat (Nat × Nat)} (a : Sym L M m code len t r) : SymOk L.length m t r := by
  induction a with
  | short h => exact .inl rfl
  | hit h hi _ _ => exact ⟨hi, by omega, h⟩
  | none _ _ _ => exact .inr rfl
  | @more code len t r h _ _ _ ih =>
    cases r with
    | error x => exact ih
    | ok z => exact ⟨ih.1, by have := ih.2.1; omega, ih.2.2⟩

theorem bitOf_nat (x : Nat) (h : x < 2) : bitOf (x : Int) = x := by
  unfold bitOf
  by_cases e : x = 0
  · subst e; rfl
  · rw [if_neg (by omega)]; omega

end Go.Proofs.YtkaibpibnkmmbaaDoor
