/-
  Plain numbers: what the symbols of a block tell.
-/
import Derived.Test.YtkaibpibnkmmbaaDoorIMatchW
namespace Go.Proofs.YtkaibpibnkmmbaaDoor
set_option linter.unusedVariables false

theorem Sym.exists {L : List Int} (hL : ∀ x ∈ L, 0 ≤ x ∧ x ≤ 15) {M m : Nat} : ∀ (k code len t : Nat), 8 * m + 1 - t ≤ k → Inv L code len → ∃ r, Sym L M m code len t r
  | 0, code, len, t, hk, hI => ⟨_, Sym.short (by omega)⟩
  | k + 1, code, len, t, hk, hI => by
    by_cases hs : t + 1 ≤ 8 * m
    · have hb : M / 2 ^ t % 2 < 2 := Nat.mod_lt _ (by omega)
      have hbit := hI.bit ((M / 2 ^ t % 2 : Nat) : Int)
      rw [bitOf_nat _ hb] at hbit
      have hcm : 2 * code + M / 2 ^ t % 2 = cmore M t code := rfl
      rw [hcm] at hbit
      by_cases hlt : (cmore M t code : Int) < stf (cf L) (len + 1) + cf L (len + 1)
      · obtain ⟨i, hi, hiN, hir⟩ := rank_hit' L (len + 1) (by omega) ((cmore M t code : Int) - stf (cf L) (len + 1)) (by omega) (by omega)
        exact ⟨_, Sym.hit hs hi hiN (by rw [codeOf_eq L i (len + 1) hiN (by omega), hir]; omega)⟩
      · by_cases hp : plc (cf L) (len + 2) = plc (cf L) 16
        · exact ⟨_, Sym.none hs (by omega) hp⟩
        · have hk' : 8 * m + 1 - (t + 1) ≤ k := by omega
          obtain ⟨r, hr⟩ := Sym.exists hL k (cmore M t code) (len + 1) (t + 1) hk' (Inv.next hL (by have := hI.1; omega) hbit.1 (r := -1) (.inr (.inr ⟨by omega, hp, rfl, rfl, rfl⟩)))
          exact ⟨r, Sym.more hs (by omega) hp hr⟩
    · exact ⟨_, Sym.short (by omega)⟩

theorem symV_spec {L : List Int} (hL : newErr L = 0) (M m t : Nat) : Sym L M m 0 0 t (symV L M m t) :=
  Classical.epsilon_spec (Sym.exists (newErr_ok hL).2 _ 0 0 t (Nat.le_refl _) (Inv.zero L))

theorem lenP_len {M m x t n u : Nat} (h1 : 257 ≤ x) (ht : t ≤ 8 * m) (h : lenP M m x t = .ok (n, u)) : n ≤ 258 ∧ t ≤ u ∧ u ≤ 8 * m := by
  have := lenP_ok M m x t h1 ht
  rw [h] at this
  exact ⟨this.2.1, this.2.2.1, this.2.2.2⟩

theorem matchP_ok {D : List Int} (hD : newErr D = 0) {M m : Nat} {most : Int} {x t u : Nat} {O O2 : List Nat} (h1 : 257 ≤ x) (ht : t ≤ 8 * m) (h : matchP D M m most x t O = .ok (u, O2)) : t < u ∧ u ≤ 8 * m ∧ O2.length ≤ O.length + 258 := by
  unfold matchP at h
  cases hq : lenP M m x t with
  | error e => rw [hq] at h; cases h
  | ok z =>
    obtain ⟨n, t1⟩ := z
    rw [hq] at h
    simp only at h
    have hl := lenP_len h1 ht hq
    have hd := disP_ok D M m t1 ((symV_spec hD M m t1).fine)
    cases hq2 : disP D M m t1 with
    | error e => rw [hq2] at h; cases h
    | ok z =>
      obtain ⟨d, t2⟩ := z
      rw [hq2] at h hd
      simp only at h
      obtain ⟨_, _, hd3, hd4⟩ := hd
      by_cases g1 : O.length < d
      · rw [if_pos g1] at h; cases h
      · rw [if_neg g1] at h
        by_cases g2 : (n : Int) ≤ most - (O.length : Int)
        · rw [if_pos g2] at h
          injection h with h
          injection h with e1 e2
          subst e1
          subst e2
          rw [copyP_length]
          omega
        · rw [if_neg g2] at h; cases h

/-- What the symbols of a block tell, from bit t on. -/
inductive Syms (L D : List Int) (M m : Nat) (most : Int) : Nat → List Nat → Except Nat (Nat × List Nat) → Prop
  | bad {t : Nat} {O : List Nat} {e : Nat} : symV L M m t = .error e → Syms L D M m most t O (.error e)
  | stop {t u : Nat} {O : List Nat} : symV L M m t = .ok (256, u) → Syms L D M m most t O (.ok (u, O))
  | full {t u c : Nat} {O : List Nat} : symV L M m t = .ok (c, u) → c < 256 → ¬ 1 ≤ most - (O.length : Int) → Syms L D M m most t O (.error 5)
  | lit {t u c : Nat} {O : List Nat} {r : Except Nat (Nat × List Nat)} : symV L M m t = .ok (c, u) → c < 256 → 1 ≤ most - (O.length : Int) → Syms L D M m most u (O ++ [c]) r → Syms L D M m most t O r
  | none {t u x e : Nat} {O : List Nat} : symV L M m t = .ok (x, u) → 256 < x → matchP D M m most x u O = .error e → Syms L D M m most t O (.error e)
  | mat {t u x u2 : Nat} {O O2 : List Nat} {r : Except Nat (Nat × List Nat)} : symV L M m t = .ok (x, u) → 256 < x → matchP D M m most x u O = .ok (u2, O2) → Syms L D M m most u2 O2 r → Syms L D M m most t O r

theorem ok_inj {a b c d : Nat} {x y : Except Nat (Nat × Nat)} (h : x = y) (h1 : x = .ok (a, b)) (h2 : y = .ok (c, d)) : a = c ∧ b = d := by
  rw [h1, h2] at h; injection h with h; injection h with h3 h4; exact ⟨h3, h4⟩

theorem Syms.one {L D : List Int} {M m : Nat} {most : Int} {t : Nat} {O : List Nat} {r r' : Except Nat (Nat × List Nat)} (a : Syms L D M m most t O r) (b : Syms L D M m most t O r') : r = r' := by
  induction a with
  | bad h =>
    cases b with
    | bad h2 => rw [h] at h2; injection h2 with h2; rw [h2]
    | stop h2 => rw [h] at h2; cases h2
    | full h2 => rw [h] at h2; cases h2
    | lit h2 => rw [h] at h2; cases h2
    | none h2 => rw [h] at h2; cases h2
    | mat h2 => rw [h] at h2; cases h2
  | stop h =>
    cases b with
    | bad h2 => rw [h] at h2; cases h2
    | stop h2 => obtain ⟨_, rfl⟩ := ok_inj rfl h h2; rfl
    | full h2 hc => obtain ⟨rfl, _⟩ := ok_inj rfl h h2; omega
    | lit h2 hc => obtain ⟨rfl, _⟩ := ok_inj rfl h h2; omega
    | none h2 hc => obtain ⟨rfl, _⟩ := ok_inj rfl h h2; omega
    | mat h2 hc => obtain ⟨rfl, _⟩ := ok_inj rfl h h2; omega
  | full h hc hm =>
    cases b with
    | bad h2 => rw [h] at h2; cases h2
    | stop h2 => obtain ⟨rfl, _⟩ := ok_inj rfl h h2; omega
    | full h2 => rfl
    | lit h2 _ hm2 => exact absurd hm2 hm
    | none h2 hc2 => obtain ⟨rfl, _⟩ := ok_inj rfl h h2; omega
    | mat h2 hc2 => obtain ⟨rfl, _⟩ := ok_inj rfl h h2; omega
  | lit h hc hm _ ih =>
    cases b with
    | bad h2 => rw [h] at h2; cases h2
    | stop h2 => obtain ⟨rfl, _⟩ := ok_inj rfl h h2; omega
    | full h2 _ hm2 => exact absurd hm hm2
    | lit h2 _ hm2 hs => obtain ⟨rfl, rfl⟩ := ok_inj rfl h h2; exact ih hs
    | none h2 hc2 => obtain ⟨rfl, _⟩ := ok_inj rfl h h2; omega
    | mat h2 hc2 => obtain ⟨rfl, _⟩ := ok_inj rfl h h2; omega
  | none h hc hm =>
    cases b with
    | bad h2 => rw [h] at h2; cases h2
    | stop h2 => obtain ⟨rfl, _⟩ := ok_inj rfl h h2; omega
    | full h2 hc2 => obtain ⟨rfl, _⟩ := ok_inj rfl h h2; omega
    | lit h2 hc2 => obtain ⟨rfl, _⟩ := ok_inj rfl h h2; omega
    | none h2 _ hm2 => obtain ⟨rfl, rfl⟩ := ok_inj rfl h h2; rw [hm] at hm2; injection hm2 with hm2; rw [hm2]
    | mat h2 _ hm2 => obtain ⟨rfl, rfl⟩ := ok_inj rfl h h2; rw [hm] at hm2; cases hm2
  | mat h hc hm _ ih =>
    cases b with
    | bad h2 => rw [h] at h2; cases h2
    | stop h2 => obtain ⟨rfl, _⟩ := ok_inj rfl h h2; omega
    | full h2 hc2 => obtain ⟨rfl, _⟩ := ok_inj rfl h h2; omega
    | lit h2 hc2 => obtain ⟨rfl, _⟩ := ok_inj rfl h h2; omega
    | none h2 _ hm2 => obtain ⟨rfl, rfl⟩ := ok_inj rfl h h2; rw [hm] at hm2; cases hm2
    | mat h2 _ hm2 hs =>
      obtain ⟨rfl, rfl⟩ := ok_inj rfl h h2
      rw [hm] at hm2
      injection hm2 with hm2
      injection hm2 with e1 e2
      subst e1
      subst e2
      exact ih hs

noncomputable def symsV (L D : List Int) (M m : Nat) (most : Int) (t : Nat) (O : List Nat) : Except Nat (Nat × List Nat) := Classical.epsilon (Syms L D M m most t O)
theorem Syms.val {L D : List Int} {M m : Nat} {most : Int} {t : Nat} {O : List Nat} {r : Except Nat (Nat × List Nat)} (h : Syms L D M m most t O r) : symsV L D M m most t O = r :=
  (Classical.epsilon_spec ⟨r, h⟩ : Syms L D M m most t O (symsV L D M m most t O)).one h

end Go.Proofs.YtkaibpibnkmmbaaDoor
