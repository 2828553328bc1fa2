/-
  Plain numbers: codes stand in order, and none begins with another one.
-/
import Derived.Test.YtkaibpibnkmmbaaDoorHRefN
namespace Go.Proofs.YtkaibpibnkmmbaaDoor
set_option linter.unusedVariables false

theorem pow15 (n : Nat) (h : n ≤ 14) : (2 : Int) ^ (15 - n) = 2 * 2 ^ (15 - (n + 1)) := by
  rw [show 15 - n = (15 - (n + 1)) + 1 by omega, Int.pow_succ]
  omega

theorem stf_fl (f : Nat → Int) : ∀ n, n ≤ 15 → stf f n * 2 ^ (15 - n) = fl f n
  | 0, _ => by simp [stf, fl]
  | n + 1, h => by
    have ih := stf_fl f n (by omega)
    simp only [stf, fl]
    rw [← ih, pow15 n (by omega), ← Int.add_mul, Int.mul_assoc]

theorem fl_mono (f : Nat → Int) (h0 : ∀ k, 0 ≤ f k) (a : Nat) : ∀ d, fl f a ≤ fl f (a + d)
  | 0 => Int.le_refl _
  | d + 1 => by
    have ih := fl_mono f h0 a d
    have p := ipow_pos (15 - (a + d))
    have q : 0 ≤ f (a + d) * 2 ^ (15 - (a + d)) := Int.mul_nonneg (h0 _) (by omega)
    show fl f a ≤ fl f (a + d) + f (a + d) * 2 ^ (15 - (a + d))
    omega

theorem cf_take_lt (L : List Int) (i x : Nat) (hi : i < L.length) (hx : L.getD i 0 = (x : Int)) (h0 : 0 < x) : cf (L.take i) x + 1 ≤ cf L x := by
  have h1 := cf_take_yes L x i h0 hi hx
  have h2 : cf (L.take (i + 1)) x ≤ cf L x := by
    unfold cf
    rw [if_neg (by omega), if_neg (by omega)]
    have := (List.take_sublist (i + 1) L).count_le (x : Int)
    omega
  omega

theorem cf_take_mono (L : List Int) (i k x : Nat) (hik : i < k) (hi : i < L.length) (hx : L.getD i 0 = (x : Int)) (h0 : 0 < x) : cf (L.take i) x + 1 ≤ cf (L.take k) x := by
  have h1 := cf_take_yes L x i h0 hi hx
  have h2 : cf (L.take (i + 1)) x ≤ cf (L.take k) x := by
    unfold cf
    rw [if_neg (by omega), if_neg (by omega)]
    have e : L.take (i + 1) = (L.take k).take (i + 1) := by rw [List.take_take]; congr 1; omega
    rw [e]
    have := (List.take_sublist (i + 1) (L.take k)).count_le (x : Int)
    omega
  omega

theorem codeOf_eq (L : List Int) (i x : Nat) (hx : L.getD i 0 = (x : Int)) (h0 : 0 < x) : codeOf L i = stf (cf L) x + cf (L.take i) x := by
  unfold codeOf
  rw [hx, if_neg (by omega), Int.toNat_natCast]

theorem codeOf_nonneg (L : List Int) (i : Nat) : 0 ≤ codeOf L i := by
  unfold codeOf
  split
  · omega
  · have := cf_bd (L.take i) (L.getD i 0).toNat
    have h : ∀ n, 0 ≤ stf (cf L) n := by
      intro n
      induction n with
      | zero => simp [stf]
      | succ n ih => have := cf_bd L n; simp only [stf]; omega
    have := h (L.getD i 0).toNat
    omega

/-- Where a code's share begins and ends. -/
theorem share (L : List Int) (i x : Nat) (hi : i < L.length) (hx : L.getD i 0 = (x : Int)) (h0 : 0 < x) (h15 : x ≤ 15) :
    fl (cf L) x ≤ codeOf L i * 2 ^ (15 - x) ∧ (codeOf L i + 1) * 2 ^ (15 - x) ≤ fl (cf L) (x + 1) := by
  have p := ipow_pos (15 - x)
  have h1 := stf_fl (cf L) x h15
  have h2 := cf_take_lt L i x hi hx h0
  have h3 := cf_bd (L.take i) x
  rw [codeOf_eq L i x hx h0]
  constructor
  · rw [← h1]
    exact Int.mul_le_mul_of_nonneg_right (by omega) (by omega)
  · show _ ≤ fl (cf L) x + cf L x * 2 ^ (15 - x)
    rw [← h1, ← Int.add_mul]
    exact Int.mul_le_mul_of_nonneg_right (by omega) (by omega)

theorem code_lt (L : List Int) (i x : Nat) (hi : i < L.length) (hx : L.getD i 0 = (x : Int)) (h0 : 0 < x) (h15 : x ≤ 15) (hf : fl (cf L) 16 ≤ 32768) : codeOf L i * 2 ^ (15 - x) < 32768 ∧ codeOf L i < 2 ^ x := by
  have s := (share L i x hi hx h0 h15).2
  have m := fl_mono (cf L) (fun k => (cf_bd L k).1) (x + 1) (15 - x)
  rw [show x + 1 + (15 - x) = 16 by omega] at m
  have p := ipow_pos (15 - x)
  rw [Int.add_mul] at s
  refine ⟨by omega, ?_⟩
  have e : (2 : Int) ^ x * 2 ^ (15 - x) = 32768 := by
    rw [← Int.pow_add, show x + (15 - x) = 15 by omega]; rfl
  apply Classical.byContradiction
  intro hc
  have : (2 : Int) ^ x * 2 ^ (15 - x) ≤ codeOf L i * 2 ^ (15 - x) := Int.mul_le_mul_of_nonneg_right (by omega) (by omega)
  omega

theorem code_below (L : List Int) (i k x y : Nat) (hi : i < L.length) (hk : k < L.length) (hx : L.getD i 0 = (x : Int)) (hy : L.getD k 0 = (y : Int)) (h0 : 0 < x) (hxy : x < y) (h15 : y ≤ 15) :
    codeOf L i * 2 ^ (15 - x) < codeOf L k * 2 ^ (15 - y) := by
  have s1 := (share L i x hi hx h0 (by omega)).2
  have s2 := (share L k y hk hy (by omega) h15).1
  have m := fl_mono (cf L) (fun k => (cf_bd L k).1) (x + 1) (y - (x + 1))
  rw [show x + 1 + (y - (x + 1)) = y by omega] at m
  have p := ipow_pos (15 - x)
  rw [Int.add_mul] at s1
  omega

theorem code_rank (L : List Int) (i k x : Nat) (hi : i < L.length) (hx : L.getD i 0 = (x : Int)) (hy : L.getD k 0 = (x : Int)) (h0 : 0 < x) (hik : i < k) : codeOf L i < codeOf L k := by
  rw [codeOf_eq L i x hx h0, codeOf_eq L k x hy h0]
  have := cf_take_mono L i k x hik hi hx h0
  omega

/-- A longer code begins behind all codes of a lesser length. -/
theorem code_prefix (L : List Int) (i k x y : Nat) (hi : i < L.length) (hk : k < L.length) (hx : L.getD i 0 = (x : Int)) (hy : L.getD k 0 = (y : Int)) (h0 : 0 < x) (hxy : x < y) (h15 : y ≤ 15) :
    codeOf L i < codeOf L k / 2 ^ (y - x) := by
  have s1 := (share L i x hi hx h0 (by omega)).2
  have s2 := (share L k y hk hy (by omega) h15).1
  have m := fl_mono (cf L) (fun k => (cf_bd L k).1) (x + 1) (y - (x + 1))
  rw [show x + 1 + (y - (x + 1)) = y by omega] at m
  have p := ipow_pos (15 - y)
  have pd := ipow_pos (y - x)
  have e : (2 : Int) ^ (15 - x) = 2 ^ (y - x) * 2 ^ (15 - y) := by
    rw [← Int.pow_add, show y - x + (15 - y) = 15 - x by omega]
  rw [e, ← Int.mul_assoc] at s1
  have h : (codeOf L i + 1) * 2 ^ (y - x) ≤ codeOf L k := by
    apply Classical.byContradiction
    intro hc
    have : (codeOf L k + 1) * 2 ^ (15 - y) ≤ (codeOf L i + 1) * 2 ^ (y - x) * 2 ^ (15 - y) := Int.mul_le_mul_of_nonneg_right (by omega) (by omega)
    rw [Int.add_mul] at this
    omega
  have := (Int.le_ediv_iff_mul_le (c := 2 ^ (y - x)) (by omega)).2 h
  omega

end Go.Proofs.YtkaibpibnkmmbaaDoor
