/-
  Plain numbers: where symbols stand in the order of their codes.
-/
import Derived.Test.YtkaibpibnkmmbaaDoorHOrdN
namespace Go.Proofs.YtkaibpibnkmmbaaDoor
set_option linter.unusedVariables false

/-- How many codes are shorter. -/
def plc (f : Nat → Int) : Nat → Int
  | 0 => 0
  | k + 1 => plc f k + f k

theorem plc_mono (f : Nat → Int) (h0 : ∀ k, 0 ≤ f k) (a : Nat) : ∀ d, plc f a ≤ plc f (a + d)
  | 0 => Int.le_refl _
  | d + 1 => by
    have ih := plc_mono f h0 a d
    have := h0 (a + d)
    show plc f a ≤ plc f (a + d) + f (a + d)
    omega
theorem plc_nonneg (f : Nat → Int) (h0 : ∀ k, 0 ≤ f k) (a : Nat) : 0 ≤ plc f a := by
  have := plc_mono f h0 0 a
  rw [Nat.zero_add] at this
  exact this
theorem plc_le (f : Nat → Int) (h0 : ∀ k, 0 ≤ f k) (a b : Nat) (h : a ≤ b) : plc f a ≤ plc f b := by
  have := plc_mono f h0 a (b - a)
  rwa [show a + (b - a) = b by omega] at this

/-- The place of a symbol. -/
def pos (L : List Int) (i : Nat) : Int := plc (cf L) (L.getD i 0).toNat + cf (L.take i) (L.getD i 0).toNat

theorem pos_eq (L : List Int) (i x : Nat) (hx : L.getD i 0 = (x : Int)) : pos L i = plc (cf L) x + cf (L.take i) x := by
  unfold pos; rw [hx, Int.toNat_natCast]

theorem pos_bd (L : List Int) (i x : Nat) (hi : i < L.length) (hx : L.getD i 0 = (x : Int)) (h0 : 0 < x) : 0 ≤ pos L i ∧ pos L i < plc (cf L) (x + 1) := by
  rw [pos_eq L i x hx]
  have h1 := cf_take_lt L i x hi hx h0
  have h2 := plc_nonneg (cf L) (fun k => (cf_bd L k).1) x
  have h3 := cf_bd (L.take i) x
  show _ ∧ _ < plc (cf L) x + cf L x
  omega

theorem pos_lt (L : List Int) (i x : Nat) (hi : i < L.length) (hx : L.getD i 0 = (x : Int)) (h0 : 0 < x) (h15 : x ≤ 15) : 0 ≤ pos L i ∧ pos L i < plc (cf L) 16 := by
  have h1 := pos_bd L i x hi hx h0
  have h2 := plc_le (cf L) (fun k => (cf_bd L k).1) (x + 1) 16 (by omega)
  omega

theorem pos_ne (L : List Int) (i j x y : Nat) (hi : i < L.length) (hj : j < L.length) (hx : L.getD i 0 = (x : Int)) (hy : L.getD j 0 = (y : Int)) (h0 : 0 < x) (h1 : 0 < y) (hij : i < j) : pos L i ≠ pos L j := by
  have a := pos_bd L i x hi hx h0
  have b := pos_bd L j y hj hy h1
  rcases Nat.lt_trichotomy x y with h | h | h
  · have := plc_le (cf L) (fun k => (cf_bd L k).1) (x + 1) y (by omega)
    have c : plc (cf L) y ≤ pos L j := by rw [pos_eq L j y hy]; have := cf_bd (L.take j) y; omega
    omega
  · subst h
    rw [pos_eq L i x hx, pos_eq L j x hy]
    have := cf_take_mono L i j x hij hi hx h0
    omega
  · have := plc_le (cf L) (fun k => (cf_bd L k).1) (y + 1) x (by omega)
    have c : plc (cf L) x ≤ pos L i := by rw [pos_eq L i x hx]; have := cf_bd (L.take i) x; omega
    omega

/-- Each rank is some symbol's. -/
theorem rank_hit (L : List Int) (x : Nat) (h0 : 0 < x) : ∀ k, k ≤ L.length → ∀ r : Int, 0 ≤ r → r < cf (L.take k) x → ∃ i, i < k ∧ L.getD i 0 = (x : Int) ∧ cf (L.take i) x = r
  | 0, _, r, hr, h => by rw [show L.take 0 = [] from rfl, cf_nil] at h; omega
  | k + 1, hk, r, hr, h => by
    by_cases e : L.getD k 0 = (x : Int)
    · rw [cf_take_yes L x k h0 (by omega) e] at h
      by_cases e2 : r = cf (L.take k) x
      · exact ⟨k, by omega, e, e2.symm⟩
      · obtain ⟨i, h1, h2, h3⟩ := rank_hit L x h0 k (by omega) r hr (by omega)
        exact ⟨i, by omega, h2, h3⟩
    · rw [cf_take_not L x k (by omega) e] at h
      obtain ⟨i, h1, h2, h3⟩ := rank_hit L x h0 k (by omega) r hr h
      exact ⟨i, by omega, h2, h3⟩

theorem rank_hit' (L : List Int) (x : Nat) (h0 : 0 < x) (r : Int) (hr : 0 ≤ r) (h : r < cf L x) : ∃ i, i < L.length ∧ L.getD i 0 = (x : Int) ∧ cf (L.take i) x = r :=
  rank_hit L x h0 L.length (Nat.le_refl _) r hr (by rw [List.take_of_length_le (Nat.le_refl _)]; exact h)

/-- Is there a longer code? -/
theorem plc_more (L : List Int) (h : ∀ x ∈ L, 0 ≤ x ∧ x ≤ 15) (n : Nat) (i x : Nat) (hi : i < L.length) (hx : L.getD i 0 = (x : Int)) (hn : n ≤ x) (h0 : 0 < x) : plc (cf L) n < plc (cf L) 16 := by
  have hm := h (L.getD i 0) (by rw [getD_i L i hi]; exact List.getElem_mem _)
  have a := pos_lt L i x hi hx h0 (by omega)
  have b : plc (cf L) x ≤ pos L i := by rw [pos_eq L i x hx]; have := cf_bd (L.take i) x; omega
  have c := plc_le (cf L) (fun k => (cf_bd L k).1) n x hn
  omega

theorem plc_bd (L : List Int) (h : L.length ≤ 320) (n : Nat) (hn : n ≤ 16) : 0 ≤ plc (cf L) n ∧ plc (cf L) n ≤ 5120 := by
  refine ⟨plc_nonneg _ (fun k => (cf_bd L k).1) n, ?_⟩
  have : ∀ k, plc (cf L) k ≤ 320 * k := by
    intro k
    induction k with
    | zero => simp [plc]
    | succ k ih => have := (cf_get L k h).2; simp only [plc]; omega
  have := this n
  omega

end Go.Proofs.YtkaibpibnkmmbaaDoor
