/-
  Plain lists: two rows as one, and which of the things are singles; two and two together.
-/
import Derived.Test.YtkglackbbcfhbaaHInt
namespace Go.Proofs.Ytkglackbbcfhbaa

/-- Is the next thing a single? -/
def sg (A B : List Int) : Bool := B.isEmpty || (!A.isEmpty && decide (A.headD 0 ≤ B.headD 0))

def mrgN : Nat → List Int → List Int → List (Int × Bool)
  | 0, _, _ => []
  | n + 1, A, B => if sg A B then (A.headD 0, true) :: mrgN n A.tail B else (B.headD 0, false) :: mrgN n A B.tail

def mrg (A B : List Int) : List (Int × Bool) := mrgN (A.length + B.length) A B

theorem mrgN_length : ∀ n A B, (mrgN n A B).length = n
  | 0, _, _ => rfl
  | n + 1, A, B => by
    unfold mrgN
    split <;> simp [mrgN_length n]
theorem mrg_length (A B : List Int) : (mrg A B).length = A.length + B.length := mrgN_length _ _ _

def pairs : List Int → List Int
  | a :: b :: t => (a + b) :: pairs t
  | _ => []

theorem pairs_length : ∀ R : List Int, (pairs R).length = R.length / 2
  | [] => rfl
  | [_] => by simp [pairs]
  | a :: b :: t => by
    simp only [pairs, List.length_cons, pairs_length t]
    omega
theorem pairs_getD : ∀ (R : List Int) (i : Nat), i < R.length / 2 → (pairs R).getD i 0 = R.getD (2 * i) 0 + R.getD (2 * i + 1) 0
  | [], i, h => by simp at h
  | [_], i, h => by simp at h
  | a :: b :: t, 0, _ => by simp [pairs]
  | a :: b :: t, i + 1, h => by
    have h2 : i < t.length / 2 := by simp at h; omega
    have := pairs_getD t i h2
    rw [show 2 * (i + 1) = 2 * i + 1 + 1 by omega, show 2 * i + 1 + 1 + 1 = (2 * i + 1) + 1 + 1 by omega]
    simpa [pairs] using this

theorem sg_nil (A : List Int) : sg A [] = true := rfl
theorem sg_right (b : Int) (B : List Int) : sg [] (b :: B) = false := rfl
theorem sg_both (a b : Int) (A B : List Int) : sg (a :: A) (b :: B) = decide (a ≤ b) := by simp [sg]

/-- After i things: what is left of both, and what is to come. -/
def Left (A B : List Int) (i : Nat) (A' B' : List Int) : Prop := (mrg A B).drop i = mrgN (A'.length + B'.length) A' B' ∧ A'.length + B'.length + i = A.length + B.length

theorem Left.start (A B : List Int) : Left A B 0 A B := ⟨by simp [mrg], rfl⟩

theorem getD_of_drop {L : List (Int × Bool)} {i : Nat} {x : Int × Bool} {t : List (Int × Bool)} (h : L.drop i = x :: t) : L.getD i (0, false) = x ∧ L.drop (i + 1) = t := by
  have hl : i < L.length := by
    rcases Nat.lt_or_ge i L.length with h' | h'
    · exact h'
    · rw [List.drop_of_length_le h'] at h; cases h
  rw [List.drop_eq_getElem_cons hl] at h
  injection h with h1 h2
  exact ⟨by simp [List.getD, hl, h1], h2⟩

theorem Left.single {A B A' B' : List Int} {i : Nat} {a : Int} (h : Left A B i (a :: A') B') (hs : sg (a :: A') B' = true) : (mrg A B).getD i (0, false) = (a, true) ∧ Left A B (i + 1) A' B' := by
  obtain ⟨h1, h2⟩ := h
  have e : (a :: A').length + B'.length = (A'.length + B'.length) + 1 := by simp; omega
  rw [e] at h1
  simp only [mrgN, hs, if_true, List.headD_cons, List.tail_cons] at h1
  obtain ⟨h3, h4⟩ := getD_of_drop h1
  exact ⟨h3, h4, by simp at h2; omega⟩
theorem Left.pair {A B A' B' : List Int} {i : Nat} {b : Int} (h : Left A B i A' (b :: B')) (hs : sg A' (b :: B') = false) : (mrg A B).getD i (0, false) = (b, false) ∧ Left A B (i + 1) A' B' := by
  obtain ⟨h1, h2⟩ := h
  have e : A'.length + (b :: B').length = (A'.length + B'.length) + 1 := by simp; omega
  rw [e] at h1
  simp only [mrgN, hs, List.headD_cons, List.tail_cons] at h1
  obtain ⟨h3, h4⟩ := getD_of_drop h1
  exact ⟨h3, h4, by simp at h2; omega⟩

end Go.Proofs.Ytkglackbbcfhbaa
