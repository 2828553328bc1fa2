/-
  Plain numbers: what both decoders answer.
-/
import Derived.Test.YtinncakendfklaaDoorHRefNew
import Derived.Test.YtinncakendfklaaDoorHInv
namespace Go.Proofs.YtinncakendfklaaDoor
set_option linter.unusedVariables false

theorem fl_between (f : Nat → Int) (X : Int) (a : Nat) : ∀ d, fl f a ≤ X → X < fl f (a + d) → ∃ n, a ≤ n ∧ n < a + d ∧ fl f n ≤ X ∧ X < fl f (n + 1)
  | 0, h1, h2 => by simp at h2; omega
  | d + 1, h1, h2 => by
    by_cases h : X < fl f (a + d)
    · obtain ⟨n, h3, h4, h5, h6⟩ := fl_between f X a d h1 h
      exact ⟨n, h3, by omega, h5, h6⟩
    · exact ⟨a + d, by omega, by omega, by omega, h2⟩

theorem longer_exists (L : List Int) (hf : fl (cf L) 16 = 32768) (N C : Nat) (h1 : 1 ≤ N) (h15 : N ≤ 15) (hC : C < 2 ^ N) (hge : stf (cf L) N + cf L N ≤ (C : Int)) :
    ∃ i x, i < L.length ∧ L.getD i 0 = ((x : Nat) : Int) ∧ N < x ∧ codeOf L i / 2 ^ (x - N) = (C : Int) := by
  have p := ipow_pos (15 - N)
  have e1 : fl (cf L) (N + 1) = (stf (cf L) N + cf L N) * 2 ^ (15 - N) := by
    show fl (cf L) N + cf L N * 2 ^ (15 - N) = _
    rw [← stf_fl (cf L) N h15, Int.add_mul]
  have lo : fl (cf L) (N + 1) ≤ (C : Int) * 2 ^ (15 - N) := by rw [e1]; exact Int.mul_le_mul_of_nonneg_right hge (by omega)
  have e16 : (2 : Int) ^ N * 2 ^ (15 - N) = 32768 := by rw [← Int.pow_add, show N + (15 - N) = 15 by omega]; rfl
  have hC' : (C : Int) + 1 ≤ 2 ^ N := by
    have e : ((2 ^ N : Nat) : Int) = (2 : Int) ^ N := by simp
    omega
  have hi : (C : Int) * 2 ^ (15 - N) < fl (cf L) (N + 1 + (15 - N)) := by
    rw [show N + 1 + (15 - N) = 16 by omega, hf, ← e16]
    have : ((C : Int) + 1) * 2 ^ (15 - N) ≤ 2 ^ N * 2 ^ (15 - N) := Int.mul_le_mul_of_nonneg_right hC' (by omega)
    rw [Int.add_mul] at this
    omega
  obtain ⟨n, n1, n2, n3, n4⟩ := fl_between (cf L) _ (N + 1) (15 - N) lo hi
  have pn := ipow_pos (15 - n)
  have en : (2 : Int) ^ (15 - N) = 2 ^ (n - N) * 2 ^ (15 - n) := by rw [← Int.pow_add, show n - N + (15 - n) = 15 - N by omega]
  have sn := stf_fl (cf L) n (by omega)
  have n4' : (C : Int) * 2 ^ (15 - N) < fl (cf L) n + cf L n * 2 ^ (15 - n) := n4
  rw [en, ← Int.mul_assoc] at n3 n4'
  rw [← sn] at n3 n4'
  rw [← Int.add_mul] at n4'
  generalize hY : (C : Int) * 2 ^ (n - N) = Y at *
  have y1 : stf (cf L) n ≤ Y := Int.le_of_mul_le_mul_right n3 (by omega)
  have y2 : Y < stf (cf L) n + cf L n := Int.lt_of_mul_lt_mul_right n4' (by omega)
  obtain ⟨i, hi1, hi2, hi3⟩ := rank_hit' L n (by omega) (Y - stf (cf L) n) (by omega) (by omega)
  refine ⟨i, n, hi1, hi2, by omega, ?_⟩
  rw [codeOf_eq L i n hi2 (by omega), hi3, show stf (cf L) n + (Y - stf (cf L) n) = Y by omega, ← hY]
  have pd := ipow_pos (n - N)
  exact Int.mul_ediv_cancel _ (by omega)

/-- Some longer code among the first k begins so. -/
def lg (L : List Int) (C N : Nat) : Nat → Bool
  | 0 => false
  | k + 1 => lg L C N k || (decide ((N : Int) < L.getD k 0) && decide (codeOf L k / 2 ^ ((L.getD k 0).toNat - N) = (C : Int)))

theorem lg_iff (L : List Int) (C N : Nat) : ∀ k, lg L C N k = true ↔ ∃ i, i < k ∧ (N : Int) < L.getD i 0 ∧ codeOf L i / 2 ^ ((L.getD i 0).toNat - N) = (C : Int)
  | 0 => by simp [lg]
  | k + 1 => by
    have ih := lg_iff L C N k
    simp only [lg, Bool.or_eq_true, Bool.and_eq_true, decide_eq_true_eq, ih]
    constructor
    · rintro (⟨i, h1, h2⟩ | h)
      · exact ⟨i, by omega, h2⟩
      · exact ⟨k, by omega, h⟩
    · rintro ⟨i, h1, h2⟩
      by_cases e : i = k
      · subst e; exact .inr h2
      · exact .inl ⟨i, by omega, h2⟩

/-- No code of the first k is whole by that. -/
def noHit (L : List Int) (C N k : Nat) : Prop := ∀ j, j < k → ¬ (L.getD j 0 = (N : Int) ∧ codeOf L j = (C : Int))

/-- What the page's Next answers, and what it keeps. -/
def RNextR (L : List Int) (C N : Nat) (r : Int) (c l : Nat) : Prop :=
  (∃ i : Nat, i < L.length ∧ L.getD i 0 = (N : Int) ∧ codeOf L i = (C : Int) ∧ r = (i : Int) ∧ c = 0 ∧ l = 0) ∨
  (noHit L C N L.length ∧ lg L C N L.length = true ∧ r = -1 ∧ c = C ∧ l = N) ∨
  (noHit L C N L.length ∧ lg L C N L.length = false ∧ r = -2 ∧ c = 0 ∧ l = 0)

/-- The same answer. -/
theorem agree {L : List Int} (hok : ∀ x ∈ L, 0 ≤ x ∧ x ≤ 15) (hne : newErr L = 0) {C N : Nat} (h1 : 1 ≤ N) (h15 : N ≤ 15) (hC : C < 2 ^ N) {r r' : Int} {c l c' l' : Nat} (a : NextR L C N r c l) (b : RNextR L C N r' c' l') : r = r' ∧ c = c' ∧ l = l' := by
  have hitlt : ∀ i, i < L.length → L.getD i 0 = (N : Int) → codeOf L i < stf (cf L) N + cf L N := fun i hi hx => by
    rw [codeOf_eq L i N hx (by omega)]
    have := cf_take_lt L i N hi hx (by omega)
    omega
  rcases a with ⟨i, hi, hiN, hiC, rfl, rfl, rfl⟩ | ⟨hge, hp, rfl, rfl, rfl⟩ | ⟨hge, hp, rfl, ec, el⟩
  · rcases b with ⟨j, hj, hjN, hjC, rfl, rfl, rfl⟩ | ⟨hn, _⟩ | ⟨hn, _⟩
    · have : i = j := by
        rcases Nat.lt_trichotomy i j with h | h | h
        · have := code_rank L i j N hi hiN hjN (by omega) h; omega
        · exact h
        · have := code_rank L j i N hj hjN hiN (by omega) h; omega
      subst this
      exact ⟨rfl, rfl, rfl⟩
    · exact absurd ⟨hiN, hiC⟩ (hn i hi)
    · exact absurd ⟨hiN, hiC⟩ (hn i hi)
  · rcases b with ⟨j, hj, hjN, hjC, _⟩ | ⟨_, hl, _⟩ | ⟨_, _, rfl, rfl, rfl⟩
    · have := hitlt j hj hjN; omega
    · exfalso
      obtain ⟨i, hi, hN, _⟩ := (lg_iff L C N L.length).1 hl
      have hm := hok (L.getD i 0) (by rw [getD_i L i hi]; exact List.getElem_mem _)
      obtain ⟨x, hx⟩ := Int.eq_ofNat_of_zero_le hm.1
      have := plc_more L hok (N + 1) i x hi hx (by omega) (by omega)
      omega
    · exact ⟨rfl, rfl, rfl⟩
  · rcases b with ⟨j, hj, hjN, hjC, _⟩ | ⟨_, _, rfl, ec', el'⟩ | ⟨_, hl, _⟩
    · have := hitlt j hj hjN; omega
    · exact ⟨rfl, by rw [ec, ec'], by rw [el, el']⟩
    · exfalso
      have hfull : fl (cf L) 16 = 32768 := by
        apply Classical.byContradiction
        intro hnf
        have hok2 := (newErr_codes L hne).2.1
        have hfew : fewB (cf L) = true := by
          unfold newErr at hne
          rw [if_pos hok2] at hne
          by_cases h2 : fl (cf L) 16 = 32768 ∨ fewB (cf L) = true
          · rcases h2 with h2 | h2
            · exact absurd h2 hnf
            · exact h2
          · rw [if_neg h2] at hne; omega
        -- few: no code longer than 1
        have hz : ∀ k, 2 ≤ k → k ≤ 15 → cf L k = 0 := by
          intro k k2 k15
          apply Classical.byContradiction
          intro hk
          have c0 := (cf_bd L k).1
          obtain ⟨i, hi, hiL, _⟩ := rank_hit' L k (by omega) 0 (by omega) (by omega)
          have hm := few_iff L hok
          have hfi := hm.1 hfew
          have mf := mny_facts L L.length
          have sh := share L i k hi hiL (by omega) k15
          have fm := fl_mono (cf L) (fun k => (cf_bd L k).1) (k + 1) (15 - k)
          rw [show k + 1 + (15 - k) = 16 by omega] at fm
          have f1 := flt_all L hok
          rcases hfi with h0 | ⟨hm1, ho1⟩
          · have := (mf.1 h0).1
            have p := ipow_pos (15 - k)
            have c1 := codeOf_nonneg L i
            have q : 0 < (codeOf L i + 1) * 2 ^ (15 - k) := Int.mul_pos (by omega) (by omega)
            omega
          · have hv := mf.2.2.1 hm1
            rw [ho1] at hv
            have e2 : (2 : Int) ^ (15 - (1 : Int).toNat) = 16384 := rfl
            have c1 := cf1_le L L.length (Nat.le_refl _)
            rw [List.take_of_length_le (Nat.le_refl _)] at c1
            have c11 := c1.2.2.1 hm1 ho1
            have s2 : 16384 * cf L 1 ≤ fl (cf L) 2 := by
              show _ ≤ fl (cf L) 1 + cf L 1 * 2 ^ (15 - 1)
              have := fl_mono (cf L) (fun k => (cf_bd L k).1) 0 1
              have z : fl (cf L) 0 = 0 := rfl
              rw [show (0 + 1) = 1 from rfl] at this
              have e3 : (2 : Int) ^ (15 - 1) = 16384 := rfl
              rw [e3]
              omega
            have m2 := fl_mono (cf L) (fun k => (cf_bd L k).1) 2 (k - 2)
            rw [show 2 + (k - 2) = k by omega] at m2
            have p := ipow_pos (15 - k)
            have s3 := sh.2
            have s4 := sh.1
            rw [Int.add_mul] at s3
            omega
        apply hp
        have : ∀ d, N + 1 + d ≤ 16 → plc (cf L) (N + 1 + d) = plc (cf L) (N + 1) := by
          intro d
          induction d with
          | zero => intro _; rfl
          | succ d ih =>
            intro hd
            have h := ih (by omega)
            show plc (cf L) (N + 1 + d) + cf L (N + 1 + d) = _
            rw [hz (N + 1 + d) (by omega) (by omega), h]
            omega
        have h16 := this (15 - N) (by omega)
        rw [show N + 1 + (15 - N) = 16 by omega] at h16
        exact h16.symm
      obtain ⟨i, x, hi, hx, hN, hc⟩ := longer_exists L hfull N C h1 h15 hC hge
      have : lg L C N L.length = true := (lg_iff L C N L.length).2 ⟨i, hi, by rw [hx]; omega, by rw [hx, Int.toNat_natCast]; exact hc⟩
      rw [this] at hl
      cases hl

end Go.Proofs.YtinncakendfklaaDoor
