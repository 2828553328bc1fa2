/-
  The first and the last rune of a text; the last one by the last four bytes.
-/
import Derived.Test.YtjpkeenaofdaaaaUPageN
namespace Go.Proofs.Ytjpkeenaofdaaaa
open Go Go.Lib Go.RowKit

/-- The last one of a row, or else d. -/
def lastOr (d : Nat) (L : List Nat) : Nat := L.getLast?.getD d
theorem lastOr_nil (d : Nat) : lastOr d [] = d := rfl
theorem lastOr_snoc (d : Nat) (L : List Nat) (x : Nat) : lastOr d (L ++ [x]) = x := by simp [lastOr]
theorem lastOr_cons (d x : Nat) (L : List Nat) (h : L ≠ []) : lastOr d (x :: L) = lastOr d L := by
  cases L with
  | nil => exact absurd rfl h
  | cons y t => simp [lastOr, List.getLast?_cons_cons]
theorem runesD_ne {l : List UInt8} (h : l ≠ []) : runesD l ≠ [] := by rw [runesD_step l h]; simp

/-- The first rune and the last one; 10: there is none. -/
def firstD (l : List UInt8) : Nat := if l = [] then 10 else (decodeL l).1
def lastD (l : List UInt8) : Nat := lastOr 10 (runesD l)

theorem dec_cont (l : List UInt8) (k : Nat) (h1 : 1 ≤ k) (h2 : k < (decodeL l).2) : bN l k / 64 = 2 := by
  by_cases c1 : bN l 0 < 128
  · rw [dec_low l c1] at h2; dsimp only at h2; omega
  by_cases c2 : (128 ≤ bN l 0 ∧ bN l 0 < 194) ∨ 245 ≤ bN l 0
  · rw [dec_lead l c2] at h2; dsimp only at h2; omega
  by_cases c3 : 194 ≤ bN l 0 ∧ bN l 0 < 224
  · rw [dec2 l c3] at h2
    split at h2
    · rename_i c; dsimp only at h2; have : k = 1 := by omega
      subst this; exact c.2
    · dsimp only at h2; omega
  by_cases c4 : 224 ≤ bN l 0 ∧ bN l 0 < 240
  · rw [dec3 l c4] at h2
    split at h2
    · rename_i c; dsimp only at h2
      have : k = 1 ∨ k = 2 := by omega
      rcases this with e | e <;> subst e
      · exact c.2.1
      · exact c.2.2.1
    · dsimp only at h2; omega
  have c5 : 240 ≤ bN l 0 ∧ bN l 0 < 245 := by omega
  rw [dec4 l c5] at h2
  split at h2
  · rename_i c; dsimp only at h2
    have : k = 1 ∨ k = 2 ∨ k = 3 := by omega
    rcases this with e | e | e <;> subst e
    · exact c.2.1
    · exact c.2.2.1
    · exact c.2.2.2.1
  · dsimp only at h2; omega

theorem dec_four (l : List UInt8) : (decodeL l).2 ≤ 4 := by
  by_cases c1 : bN l 0 < 128
  · rw [dec_low l c1]; show 1 ≤ 4; omega
  by_cases c2 : (128 ≤ bN l 0 ∧ bN l 0 < 194) ∨ 245 ≤ bN l 0
  · rw [dec_lead l c2]; show 1 ≤ 4; omega
  by_cases c3 : 194 ≤ bN l 0 ∧ bN l 0 < 224
  · rw [dec2 l c3]; split <;> simp
  by_cases c4 : 224 ≤ bN l 0 ∧ bN l 0 < 240
  · rw [dec3 l c4]; split <;> simp
  rw [dec4 l (by omega)]; split <;> simp

/-- Ahead of what goes on a rune, one goes on by one byte at a time, and comes to the same. -/
theorem last_skip : ∀ (k : Nat) (b : List UInt8), k < b.length → (∀ j, j < k → bN b j / 64 = 2) → lastD b = lastD (b.drop k)
  | 0, b, _, _ => by rw [List.drop_zero]
  | k + 1, b, hk, hc => by
    have hne : b ≠ [] := by intro e; subst e; simp at hk
    have h0 := hc 0 (by omega)
    have hd := dec_lead b (.inl ⟨by omega, by omega⟩)
    have hl : 0 < (b.drop 1).length := by rw [List.length_drop]; omega
    have e1 : lastD b = lastD (b.drop 1) := by
      unfold lastD
      rw [runesD_step b hne, hd]
      exact lastOr_cons _ _ _ (runesD_ne (List.length_pos_iff.1 hl))
    rw [e1, last_skip k (b.drop 1) (by rw [List.length_drop]; omega) (fun j hj => ?_), List.drop_drop, Nat.add_comm]
    have := hc (j + 1) (by omega)
    unfold bN at *
    rw [List.getD_eq_getElem?_getD, List.getElem?_drop, Nat.add_comm 1 j, ← List.getD_eq_getElem?_getD]
    exact this

theorem last_behind : ∀ (n : Nat) (a b : List UInt8), a.length ≤ n → 4 ≤ b.length → lastD (a ++ b) = lastD b := by
  intro n
  induction n with
  | zero =>
    intro a b h _
    have : a = [] := List.eq_nil_of_length_eq_zero (by omega)
    subst this; rfl
  | succ n ih =>
    intro a b h hb
    by_cases ha : a = []
    · subst ha; rfl
    have hal : 0 < a.length := List.length_pos_iff.2 ha
    have hne : a ++ b ≠ [] := by simp [ha]
    have hw := decodeL_width (a ++ b)
    have h4 := dec_four (a ++ b)
    have hdl : 0 < ((a ++ b).drop (decodeL (a ++ b)).2).length := by rw [List.length_drop, List.length_append]; omega
    have e1 : lastD (a ++ b) = lastD ((a ++ b).drop (decodeL (a ++ b)).2) := by
      unfold lastD
      rw [runesD_step _ hne]
      exact lastOr_cons _ _ _ (runesD_ne (List.length_pos_iff.1 hdl))
    rw [e1]
    by_cases hc : (decodeL (a ++ b)).2 ≤ a.length
    · rw [List.drop_append_of_le_length hc]
      exact ih _ b (by rw [List.length_drop]; omega) hb
    · obtain ⟨k, hk⟩ : ∃ k, (decodeL (a ++ b)).2 = a.length + k := ⟨(decodeL (a ++ b)).2 - a.length, by omega⟩
      rw [hk, List.drop_append, List.drop_of_length_le (by omega), List.nil_append, show a.length + k - a.length = k by omega]
      refine (last_skip k b (by omega) fun j hj => ?_).symm
      have := dec_cont (a ++ b) (a.length + j) (by omega) (by omega)
      unfold bN at *
      rw [List.getD_eq_getElem?_getD, List.getElem?_append_right (by omega), show a.length + j - a.length = j by omega, ← List.getD_eq_getElem?_getD] at this
      exact this

/-- The last rune stands within the last four bytes. -/
theorem last_four (l : List UInt8) : lastD l = lastD (l.drop (l.length - 4)) := by
  by_cases h : l.length ≤ 4
  · rw [show l.length - 4 = 0 by omega, List.drop_zero]
  · conv => lhs; rw [← List.take_append_drop (l.length - 4) l]
    exact last_behind _ _ _ (Nat.le_refl _) (by rw [List.length_drop]; omega)

end Go.Proofs.Ytjpkeenaofdaaaa
