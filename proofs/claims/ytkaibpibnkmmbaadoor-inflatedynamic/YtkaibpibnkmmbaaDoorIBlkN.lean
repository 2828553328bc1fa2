/-
  Plain numbers: what blocks of the kinds 0, 1 and 3 tell; the fixed codes laid and read.
-/
import Derived.Test.YtkaibpibnkmmbaaDoorIPieceN
import Derived.Test.YtkaibpibnkmmbaaDoorIStored
namespace Go.Proofs.YtkaibpibnkmmbaaDoor
set_option linter.unusedVariables false

/-- What a block tells (of kind 2: nothing is said). -/
noncomputable def blkP (M m : Nat) (most : Int) (t : Nat) (O : List Nat) : Except Nat (Nat × List Nat) :=
  if t + 3 ≤ 8 * m then
    if M / 2 ^ (t + 1) % 4 = 0 then storedP M m most (t + 3) O
    else if M / 2 ^ (t + 1) % 4 = 1 then symsV FL FD M m most (t + 3) O
    else .error 3
  else .error 2

/-- What blocks tell, up to the last one, with so many blocks ahead of it. -/
inductive Blks (M m : Nat) (most : Int) : Nat → Nat → List Nat → Except Nat (Nat × List Nat) → Prop
  | bad {n t e : Nat} {O : List Nat} : (t + 3 ≤ 8 * m → M / 2 ^ (t + 1) % 4 ≠ 2) → blkP M m most t O = .error e → Blks M m most n t O (.error e)
  | last {n t u : Nat} {O Q : List Nat} : M / 2 ^ (t + 1) % 4 ≠ 2 → M / 2 ^ t % 2 = 1 → blkP M m most t O = .ok (u, Q) → Blks M m most n t O (.ok (u, Q))
  | more {n t u : Nat} {O Q : List Nat} {r : Except Nat (Nat × List Nat)} : M / 2 ^ (t + 1) % 4 ≠ 2 → M / 2 ^ t % 2 = 0 → blkP M m most t O = .ok (u, Q) → Blks M m most n u Q r → Blks M m most (n + 1) t O r

theorem Bt.three {M m t a k : Nat} {ps : List (Nat × Nat)} (h : Bt M m t ((a, 1) :: (k, 2) :: ps)) (ha : a < 2) (hk : k < 4) (hm : t + 3 ≤ 8 * m) : M / 2 ^ t % 2 = a ∧ M / 2 ^ (t + 1) % 4 = k ∧ Bt M m (t + 3) ps := by
  obtain ⟨h1, h2⟩ := h.head ha
  obtain ⟨h3, h4⟩ := h2.head hk
  exact ⟨bits_val M m t a 1 ha h1 (by omega), bits_val M m (t + 1) k 2 hk h3 (by omega), h4⟩

/-- Literals are read. -/
theorem syms_lits {M m : Nat} {most : Int} {r : Except Nat (Nat × List Nat)} : ∀ (p : List Nat) (t : Nat) (O : List Nat) (ps : List (Nat × Nat)), (∀ c ∈ p, c < 256) → Bt M m t (p.map fixP ++ ps) → t + pcL (p.map fixP) ≤ 8 * m → ((O.length + p.length : Nat) : Int) ≤ most →
    (Bt M m (t + pcL (p.map fixP)) ps → Syms FL FD M m most (t + pcL (p.map fixP)) (O ++ p) r) → Syms FL FD M m most t O r
  | [], t, O, ps, _, hb, _, _, h => by simpa [pcL] using h (by simpa [pcL] using hb)
  | c :: p, t, O, ps, hp, hb, hm, ho, h => by
    have hc := hp c (by simp)
    obtain ⟨h1, h2⟩ := sym_fix (i := c) (by omega) (show Bt M m t (fixP c :: (p.map fixP ++ ps)) from hb)
    have hL : pcL ((c :: p).map fixP) = fixN c + pcL (p.map fixP) := rfl
    rw [hL] at hm h
    rw [if_pos (by omega)] at h1
    refine Syms.lit h1 hc (by simp at ho ⊢; omega) ?_
    refine syms_lits p (t + fixN c) (O ++ [c]) ps (fun x hx => hp x (by simp [hx])) h2 (by omega) (by simp at ho ⊢; omega) ?_
    intro hb2
    have := h (by rw [← Nat.add_assoc]; exact hb2)
    rw [← Nat.add_assoc] at this
    simpa using this

/-- More literals than may come out. -/
theorem syms_full {M m : Nat} {most : Int} : ∀ (p : List Nat) (t : Nat) (O : List Nat) (ps : List (Nat × Nat)), (∀ c ∈ p, c < 256) → Bt M m t (p.map fixP ++ ps) → t + pcL (p.map fixP) ≤ 8 * m → most < ((O.length + p.length : Nat) : Int) → (O.length : Int) ≤ most → Syms FL FD M m most t O (.error 5)
  | [], t, O, ps, _, hb, _, h1, h2 => by simp at h1; omega
  | c :: p, t, O, ps, hp, hb, hm, ho, hq => by
    have hc := hp c (by simp)
    obtain ⟨h1, h2⟩ := sym_fix (i := c) (by omega) (show Bt M m t (fixP c :: (p.map fixP ++ ps)) from hb)
    have hL : pcL ((c :: p).map fixP) = fixN c + pcL (p.map fixP) := rfl
    rw [hL] at hm
    rw [if_pos (by omega)] at h1
    by_cases g : 1 ≤ most - (O.length : Int)
    · exact Syms.lit h1 hc g (syms_full p (t + fixN c) (O ++ [c]) ps (fun x hx => hp x (by simp [hx])) h2 (by omega) (by simp at ho ⊢; omega) (by simp; omega))
    · exact Syms.full h1 hc g

/-- Literals and the end, cut off. -/
theorem syms_cut {M m : Nat} {most : Int} : ∀ (p : List Nat) (t : Nat) (O : List Nat), (∀ c ∈ p, c < 256) → Bt M m t (p.map fixP ++ [fixP 256]) → 8 * m < t + pcL (p.map fixP) + 7 → ((O.length + p.length : Nat) : Int) ≤ most → Syms FL FD M m most t O (.error 2)
  | [], t, O, _, hb, hm, _ => by
    obtain ⟨h1, _⟩ := sym_fix (i := 256) (by omega) (show Bt M m t (fixP 256 :: []) from hb)
    rw [if_neg (by simp [pcL] at hm; simp [fixN]; omega)] at h1
    exact Syms.bad h1
  | c :: p, t, O, hp, hb, hm, ho => by
    have hc := hp c (by simp)
    obtain ⟨h1, h2⟩ := sym_fix (i := c) (by omega) (show Bt M m t (fixP c :: (p.map fixP ++ [fixP 256])) from hb)
    have hL : pcL ((c :: p).map fixP) = fixN c + pcL (p.map fixP) := rfl
    rw [hL] at hm
    by_cases g : t + fixN c ≤ 8 * m
    · rw [if_pos g] at h1
      exact Syms.lit h1 hc (by simp at ho; omega) (syms_cut p (t + fixN c) (O ++ [c]) (fun x hx => hp x (by simp [hx])) h2 (by omega) (by simp at ho ⊢; omega))
    · rw [if_neg g] at h1
      exact Syms.bad h1

/-- The end. -/
theorem syms_stop {M m t : Nat} {most : Int} {O : List Nat} {ps : List (Nat × Nat)} (hb : Bt M m t (fixP 256 :: ps)) (hm : t + 7 ≤ 8 * m) : Syms FL FD M m most t O (.ok (t + 7, O)) := by
  obtain ⟨h1, _⟩ := sym_fix (i := 256) (by omega) hb
  rw [if_pos (by simp [fixN]; omega)] at h1
  exact Syms.stop h1

/-- A match of 3 to 10 bytes, from 1 to 4 back. -/
theorem match_fix {M m t long far : Nat} {most : Int} {O : List Nat} {ps : List (Nat × Nat)} (h1 : 3 ≤ long) (h2 : long ≤ 10) (h3 : 1 ≤ far) (h4 : far ≤ 4) (hb : Bt M m t (fixP (long + 254) :: fixDP (far - 1) :: ps)) (hm : t + 12 ≤ 8 * m) :
    symV FL M m t = .ok (long + 254, t + 7) ∧ Bt M m (t + 12) ps ∧ matchP FD M m most (long + 254) (t + 7) O = (if O.length < far then .error 22 else if (long : Int) ≤ most - (O.length : Int) then .ok (t + 12, copyP O far long) else .error 5) := by
  have hN : fixN (long + 254) = 7 := by
    unfold fixN
    rw [if_neg (by omega), if_neg (by omega), if_pos (by omega)]
  obtain ⟨a, b⟩ := sym_fix (i := long + 254) (by omega) hb
  rw [hN, if_pos (by omega)] at a
  rw [hN] at b
  obtain ⟨c, d⟩ := sym_fixD (i := far - 1) (by omega) b
  rw [if_pos (by omega)] at c
  refine ⟨a, by rw [Nat.add_assoc] at d; exact d, ?_⟩
  have e1 : lenP M m (long + 254) (t + 7) = .ok (long, t + 7) := by
    unfold lenP
    rw [if_neg (by omega), if_neg (by omega), if_pos (by omega), Nat.add_sub_cancel]
  have e2 : disP FD M m (t + 7) = .ok (far, t + 12) := by
    unfold disP
    rw [c]
    simp only
    rw [if_neg (by omega), if_pos (by omega), show far - 1 + 1 = far by omega, show t + 7 + 5 = t + 12 by omega]
  unfold matchP
  rw [e1]
  simp only
  rw [e2]

end Go.Proofs.YtkaibpibnkmmbaaDoor
