/-
  Plain numbers: how much lengths fill, one by one.
-/
import Derived.Test.YtkaibpibnkmmbaaDoorHCodeN
namespace Go.Proofs.YtkaibpibnkmmbaaDoor
set_option linter.unusedVariables false

theorem fl_upd (f : Nat → Int) (n : Nat) : ∀ k, fl (upd f n (f n + 1)) k = fl f k + if n < k then 2 ^ (15 - n) else 0
  | 0 => by simp [fl]
  | k + 1 => by
    have ih := fl_upd f n k
    simp only [fl]
    rw [ih]
    unfold upd
    by_cases e : k = n
    · subst e
      rw [if_neg (by omega), if_pos rfl, if_pos (by omega), Int.add_mul]
      omega
    · rw [if_neg e]
      by_cases h : n < k
      · rw [if_pos h, if_pos (by omega)]; omega
      · rw [if_neg h, if_neg (by omega)]; omega

theorem fl_congr {f g : Nat → Int} (h : ∀ k, f k = g k) : ∀ k, fl f k = fl g k
  | 0 => rfl
  | k + 1 => by simp only [fl]; rw [fl_congr h k, h k]

/-- How much the first k fill. -/
def flt (L : List Int) : Nat → Int
  | 0 => 0
  | k + 1 => flt L k + if 0 < L.getD k 0 then 2 ^ (15 - (L.getD k 0).toNat) else 0

theorem flt_fl (L : List Int) (h : ∀ x ∈ L, 0 ≤ x ∧ x ≤ 15) : ∀ k, k ≤ L.length → flt L k = fl (cf (L.take k)) 16
  | 0, _ => by
    rw [show (L.take 0) = [] from rfl, fl_congr (g := fun _ => 0) (fun k => cf_nil k)]
    simp [flt, fl]
  | k + 1, hk => by
    have ih := flt_fl L h k (by omega)
    have hm := h (L.getD k 0) (by rw [getD_i L k (by omega)]; exact List.getElem_mem _)
    obtain ⟨x, hx⟩ := Int.eq_ofNat_of_zero_le hm.1
    simp only [flt]
    rw [ih, hx]
    by_cases e : x = 0
    · subst e
      rw [if_neg (by simp), fl_congr (fun j => cf_take_zero L k (by omega) hx j)]
      omega
    · rw [if_pos (by omega), fl_congr (fun j => cf_take_snoc L k x (by omega) hx (by omega) j), fl_upd, if_pos (by omega), Int.toNat_natCast]

theorem flt_all (L : List Int) (h : ∀ x ∈ L, 0 ≤ x ∧ x ≤ 15) : flt L L.length = fl (cf L) 16 := by
  rw [flt_fl L h L.length (Nat.le_refl _), List.take_of_length_le (Nat.le_refl _)]

theorem flt_bd (L : List Int) : ∀ k, 0 ≤ flt L k ∧ flt L k ≤ 32768 * k
  | 0 => by simp [flt]
  | k + 1 => by
    have ih := flt_bd L k
    have p0 : (1 : Int) ≤ 2 ^ (15 - (L.getD k 0).toNat) := ipow_pos _
    have p1 : (2 : Int) ^ (15 - (L.getD k 0).toNat) ≤ 32768 := by
      have : (2 ^ (15 - (L.getD k 0).toNat) : Nat) ≤ 2 ^ 15 := Nat.pow_le_pow_right (by omega) (by omega)
      have e : ((2 ^ (15 - (L.getD k 0).toNat) : Nat) : Int) = (2 : Int) ^ (15 - (L.getD k 0).toNat) := by simp
      omega
    simp only [flt]
    split <;> omega

theorem stf_succ (f : Nat → Int) (n : Nat) (h : 1 ≤ n) : stf f n = (stf f (n - 1) + f (n - 1)) * 2 := by
  cases n with
  | zero => omega
  | succ n => rfl

/-- What the page has laid when lengths below n are through, and of n the first i symbols. -/
def laid (L : List Int) (n i j : Nat) : Int := if (0 < L.getD j 0 ∧ L.getD j 0 < (n : Int)) ∨ (L.getD j 0 = (n : Int) ∧ j < i) then codeOf L j else 0

theorem laid_start (L : List Int) (h : ∀ x ∈ L, 0 ≤ x ∧ x ≤ 15) (j : Nat) (hj : j < L.length) : laid L 1 0 j = 0 := by
  unfold laid
  rw [if_neg]
  rintro (⟨h1, h2⟩ | ⟨_, h2⟩)
  · omega
  · omega
theorem laid_yes (L : List Int) (n i j : Nat) (hn : 0 < n) (hi : L.getD i 0 = (n : Int)) : laid L n (i + 1) j = upd (laid L n i) i (stf (cf L) n + cf (L.take i) n) j := by
  unfold upd
  by_cases e : j = i
  · subst e
    rw [if_pos rfl]
    unfold laid
    rw [if_pos (.inr ⟨hi, by omega⟩)]
    unfold codeOf
    rw [hi, if_neg (by omega), Int.toNat_natCast]
  · rw [if_neg e]
    unfold laid
    have : (L.getD j 0 = (n : Int) ∧ j < i + 1) ↔ (L.getD j 0 = (n : Int) ∧ j < i) := by
      constructor
      · rintro ⟨h1, h2⟩; exact ⟨h1, by omega⟩
      · rintro ⟨h1, h2⟩; exact ⟨h1, by omega⟩
    simp only [this]
theorem laid_no (L : List Int) (n i j : Nat) (hi : ¬ L.getD i 0 = (n : Int)) : laid L n (i + 1) j = laid L n i j := by
  unfold laid
  have : (L.getD j 0 = (n : Int) ∧ j < i + 1) ↔ (L.getD j 0 = (n : Int) ∧ j < i) := by
    constructor
    · rintro ⟨h1, h2⟩
      refine ⟨h1, ?_⟩
      by_cases e : j = i
      · subst e; exact absurd h1 hi
      · omega
    · rintro ⟨h1, h2⟩; exact ⟨h1, by omega⟩
  simp only [this]
theorem laid_next (L : List Int) (h : ∀ x ∈ L, 0 ≤ x ∧ x ≤ 15) (n j : Nat) (hn : 0 < n) (hj : j < L.length) : laid L (n + 1) 0 j = laid L n L.length j := by
  have hm := h (L.getD j 0) (by rw [getD_i L j hj]; exact List.getElem_mem _)
  unfold laid
  have : ((0 < L.getD j 0 ∧ L.getD j 0 < ((n + 1 : Nat) : Int)) ∨ (L.getD j 0 = ((n + 1 : Nat) : Int) ∧ j < 0)) ↔ ((0 < L.getD j 0 ∧ L.getD j 0 < (n : Int)) ∨ (L.getD j 0 = (n : Int) ∧ j < L.length)) := by
    constructor
    · rintro (⟨h1, h2⟩ | ⟨_, h2⟩)
      · by_cases e : L.getD j 0 = (n : Int)
        · exact .inr ⟨e, hj⟩
        · exact .inl ⟨h1, by omega⟩
      · omega
    · rintro (⟨h1, h2⟩ | ⟨h1, h2⟩)
      · exact .inl ⟨h1, by omega⟩
      · exact .inl ⟨by omega, by omega⟩
  simp only [this]
theorem laid_end (L : List Int) (h : ∀ x ∈ L, 0 ≤ x ∧ x ≤ 15) (j : Nat) (hj : j < L.length) : laid L 16 0 j = codeOf L j := by
  have hm := h (L.getD j 0) (by rw [getD_i L j hj]; exact List.getElem_mem _)
  unfold laid
  by_cases e : L.getD j 0 = 0
  · rw [if_neg (by omega)]
    unfold codeOf
    rw [if_pos e]
  · rw [if_pos (.inl ⟨by omega, by omega⟩)]

theorem cf_take_yes (L : List Int) (n i : Nat) (hn : 0 < n) (hi : i < L.length) (h : L.getD i 0 = (n : Int)) : cf (L.take (i + 1)) n = cf (L.take i) n + 1 := by
  rw [cf_take_snoc L i n hi h hn]
  unfold upd
  rw [if_pos rfl]
theorem cf_take_not (L : List Int) (n i : Nat) (hi : i < L.length) (h : ¬ L.getD i 0 = (n : Int)) : cf (L.take (i + 1)) n = cf (L.take i) n := by
  rw [take_snoc_i L i hi]
  unfold cf
  split
  · rfl
  · rw [List.count_append, List.count_singleton, if_neg (by simpa using h)]
    simp

end Go.Proofs.YtkaibpibnkmmbaaDoor
