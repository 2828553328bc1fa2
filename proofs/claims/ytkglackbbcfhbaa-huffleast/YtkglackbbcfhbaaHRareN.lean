/-
  Plain lists: the symbols that come at all; whether lengths may be asked for.
-/
import Derived.Test.YtkglackbbcfhbaaHSortN
namespace Go.Proofs.Ytkglackbbcfhbaa

def posTo (O : List Int) (k : Nat) : List Int := ((List.range k).filter fun i => decide (0 < O.getD i 0)).map fun (i : Nat) => (i : Int)

theorem posTo_zero (O : List Int) : posTo O 0 = [] := rfl
theorem posTo_yes (O : List Int) (k : Nat) (h : 0 < O.getD k 0) : posTo O (k + 1) = posTo O k ++ [(k : Int)] := by
  unfold posTo
  rw [List.range_succ, List.filter_append, List.map_append]
  simp only [List.filter_cons, List.filter_nil, decide_eq_true h, if_true, List.map_cons, List.map_nil]
theorem posTo_no (O : List Int) (k : Nat) (h : ¬ 0 < O.getD k 0) : posTo O (k + 1) = posTo O k := by
  unfold posTo
  rw [List.range_succ, List.filter_append, List.map_append]
  simp only [List.filter_cons, List.filter_nil, decide_eq_false h, Bool.false_eq_true, if_false, List.map_nil, List.append_nil]
theorem posTo_length (O : List Int) (k : Nat) : (posTo O k).length ≤ k := by
  unfold posTo
  rw [List.length_map]
  exact Nat.le_trans (List.length_filter_le _ _) (by simp)
theorem posTo_mem (O : List Int) (k : Nat) (x : Int) : x ∈ posTo O k ↔ ∃ i : Nat, x = (i : Int) ∧ i < k ∧ 0 < O.getD i 0 := by
  unfold posTo
  simp only [List.mem_map, List.mem_filter, List.mem_range, decide_eq_true_eq]
  constructor
  · rintro ⟨i, ⟨h1, h2⟩, rfl⟩; exact ⟨i, rfl, h1, h2⟩
  · rintro ⟨i, rfl, h1, h2⟩; exact ⟨i, ⟨h1, h2⟩, rfl⟩
theorem posTo_in (O : List Int) (k : Nat) (h : k ≤ O.length) : InO O (posTo O k) := by
  intro x hx
  obtain ⟨i, rfl, h1, _⟩ := (posTo_mem O k x).1 hx
  exact ⟨by omega, by omega⟩

/-- Each is 0 to 2^20. -/
def oftB (O : List Int) : Bool := O.all fun x => decide (0 ≤ x) && decide (x ≤ 1048576)
theorem oftB_iff (O : List Int) : oftB O = true ↔ ∀ x ∈ O, 0 ≤ x ∧ x ≤ 1048576 := by
  unfold oftB
  simp [List.all_eq_true]

/-- May lengths be asked for? -/
def mayB (O : List Int) (m : Int) : Bool := decide (O.length ≤ 320) && decide (1 ≤ m) && decide (m ≤ 15) && oftB O && decide ((posTo O O.length).length ≤ 2 ^ m.toNat)

theorem mayB_iff (O : List Int) (m : Int) : mayB O m = true ↔ O.length ≤ 320 ∧ 1 ≤ m ∧ m ≤ 15 ∧ oftB O = true ∧ (posTo O O.length).length ≤ 2 ^ m.toNat := by
  unfold mayB
  simp [and_assoc]

theorem mayB_not {O : List Int} {m : Int} (h : ¬ (O.length ≤ 320 ∧ 1 ≤ m ∧ m ≤ 15 ∧ oftB O = true ∧ (posTo O O.length).length ≤ 2 ^ m.toNat)) : mayB O m = false := by
  cases e : mayB O m with
  | false => rfl
  | true => exact absurd ((mayB_iff O m).1 e) h

theorem oft_bad {O : List Int} {k : Nat} (hk : k < O.length) (h : ¬ (0 ≤ O.getD k 0 ∧ O.getD k 0 ≤ 1048576)) : ¬ oftB O = true := by
  intro e
  refine h ((oftB_iff O).1 e (O.getD k 0) ?_)
  rw [getD_i O k hk]
  exact List.getElem_mem hk

def oftTo (O : List Int) (k : Nat) : Prop := ∀ j, j < k → 0 ≤ O.getD j 0 ∧ O.getD j 0 ≤ 1048576
theorem oftTo_all {O : List Int} (h : oftTo O O.length) : oftB O = true := by
  rw [oftB_iff]
  intro x hx
  obtain ⟨j, hj, rfl⟩ := List.mem_iff_getElem.1 hx
  have := h j hj
  rwa [getD_i O j hj] at this
theorem oftTo_succ {O : List Int} {k : Nat} (h : oftTo O k) (h2 : 0 ≤ O.getD k 0 ∧ O.getD k 0 ≤ 1048576) : oftTo O (k + 1) := by
  intro j hj
  by_cases e : j = k
  · rw [e]; exact h2
  · exact h j (by omega)

end Go.Proofs.Ytkglackbbcfhbaa
