/-
  Plain numbers: streams of the fixed codes as the laws lay them.
-/
import Derived.Test.YtkaibpibnkmmbaaDoorIBlkN
namespace Go.Proofs.YtkaibpibnkmmbaaDoor
set_option linter.unusedVariables false

theorem pcN_snoc (ps : List (Nat × Nat)) (x n : Nat) : pcN (ps ++ [(x, n)]) = pcN ps + x * 2 ^ pcL ps := by
  rw [pcN_append]; simp [pcN]
theorem pcL_snoc (ps : List (Nat × Nat)) (x n : Nat) : pcL (ps ++ [(x, n)]) = pcL ps + n := by
  rw [pcL_append]; simp [pcL]

/-- The numbers that laid lays. -/
def laidT (long far : Nat) : List (Nat × Nat) := if long = 0 then [fixP 256] else [fixP (long + 254), fixDP (far - 1), fixP 256]
def laidP (P : List Nat) (long far : Nat) : List (Nat × Nat) := (1, 1) :: (1, 2) :: (P.map fixP ++ laidT long far)

theorem laidP_ok (P : List Nat) (long far : Nat) : pcOk (laidP P long far) := by
  intro q hq
  unfold laidP laidT at hq
  simp only [List.mem_cons, List.mem_append, List.mem_map] at hq
  rcases hq with rfl | rfl | ⟨c, _, rfl⟩ | hq
  · decide
  · decide
  · exact fixP_ok c
  · split at hq
    · simp only [List.mem_singleton] at hq; rw [hq]; exact fixP_ok _
    · simp only [List.mem_cons, List.not_mem_nil, or_false] at hq
      rcases hq with rfl | rfl | rfl
      · exact fixP_ok _
      · exact fixDP_ok _
      · exact fixP_ok _

theorem fixN_le (i : Nat) : fixN i ≤ 9 := by unfold fixN; split <;> (try split) <;> (try split) <;> omega
theorem lits_len (P : List Nat) : pcL (P.map fixP) ≤ 9 * P.length := by
  induction P with
  | nil => simp [pcL]
  | cons c P ih =>
    have := fixN_le c
    show fixN c + pcL (P.map fixP) ≤ _
    simp only [List.length_cons]
    omega
theorem laidP_len (P : List Nat) (long far : Nat) : pcL (laidP P long far) = 3 + pcL (P.map fixP) + pcL (laidT long far) := by
  show 1 + (2 + pcL (P.map fixP ++ laidT long far)) = _
  rw [pcL_append]; omega
theorem laidT_len (long far : Nat) (h : long = 0 ∨ (3 ≤ long ∧ long ≤ 10)) : pcL (laidT long far) = if long = 0 then 7 else 19 := by
  unfold laidT
  by_cases e : long = 0
  · rw [if_pos e, if_pos e]; rfl
  · rw [if_neg e, if_neg e]
    have hN : fixN (long + 254) = 7 := by
      unfold fixN
      rw [if_neg (by omega), if_neg (by omega), if_pos (by omega)]
    show fixN (long + 254) + (5 + (fixN 256 + 0)) = 19
    rw [hN]; rfl

/-- What such a stream tells, behind O. -/
def laidR (Q : List Nat) (long far : Nat) (most : Int) (u : Nat) : Except Nat (Nat × List Nat) :=
  if most < (Q.length : Int) then .error 5 else if long = 0 then .ok (u, Q) else if Q.length < far then .error 22 else if (long : Int) ≤ most - (Q.length : Int) then .ok (u, copyP Q far long) else .error 5

theorem blk_laid {M m : Nat} {most : Int} (P : List Nat) (long far t : Nat) (O : List Nat) (hP : ∀ c ∈ P, c < 256) (hl : long = 0 ∨ (3 ≤ long ∧ long ≤ 10)) (hf1 : 1 ≤ far) (hf2 : far ≤ 4)
    (hb : Bt M m t (laidP P long far)) (hm : t + pcL (laidP P long far) ≤ 8 * m) (hO : (O.length : Int) ≤ most) (n : Nat) :
    Blks M m most n t O (laidR (O ++ P) long far most (t + pcL (laidP P long far))) := by
  have hlen := laidP_len P long far
  have hT := laidT_len long far hl
  have hT7 : 7 ≤ pcL (laidT long far) := by rw [hT]; split <;> omega
  obtain ⟨k1, k2, k3⟩ := hb.three (by omega) (by omega) (by omega)
  have hblk : ∀ r, Syms FL FD M m most (t + 3) O r → blkP M m most t O = r := fun r hr => by
    unfold blkP
    rw [if_pos (by omega), if_neg (by omega), if_pos k2, hr.val]
  have hfin : ∀ r, Syms FL FD M m most (t + 3) O r → Blks M m most n t O r := fun r hr => by
    cases r with
    | error e => exact Blks.bad (fun _ => by omega) (hblk _ hr)
    | ok z => exact Blks.last (by omega) k1 (hblk _ hr)
  apply hfin
  unfold laidR
  by_cases g1 : most < ((O ++ P).length : Int)
  · rw [if_pos g1]
    rw [List.length_append] at g1
    exact syms_full P (t + 3) O (laidT long far) hP k3 (by omega) g1 hO
  · rw [if_neg g1]
    have g1' := g1
    rw [List.length_append] at g1
    by_cases g2 : long = 0
    · rw [if_pos g2]
      rw [if_pos g2] at hT
      refine syms_lits P (t + 3) O (laidT long far) hP k3 (by omega) (by omega) (fun hb2 => ?_)
      have := syms_stop (most := most) (O := O ++ P) (ps := []) (by unfold laidT at hb2; rw [if_pos g2] at hb2; exact hb2) (by omega)
      rw [show t + pcL (laidP P long far) = t + 3 + pcL (P.map fixP) + 7 by omega]
      exact this
    · rw [if_neg g2]
      rw [if_neg g2] at hT
      refine syms_lits P (t + 3) O (laidT long far) hP k3 (by omega) (by omega) (fun hb2 => ?_)
      unfold laidT at hb2
      rw [if_neg g2] at hb2
      obtain ⟨a1, a2, a3⟩ := match_fix (most := most) (O := O ++ P) (by omega) (by omega) hf1 hf2 hb2 (by omega)
      by_cases g3 : (O ++ P).length < far
      · rw [if_pos g3] at a3 ⊢
        exact Syms.none a1 (by omega) a3
      · rw [if_neg g3] at a3 ⊢
        by_cases g4 : (long : Int) ≤ most - ((O ++ P).length : Int)
        · rw [if_pos g4] at a3 ⊢
          refine Syms.mat a1 (by omega) a3 ?_
          rw [show t + pcL (laidP P long far) = t + 3 + pcL (P.map fixP) + 12 + 7 by omega]
          exact syms_stop a2 (by omega)
        · rw [if_neg g4] at a3 ⊢
          exact Syms.none a1 (by omega) a3

/-- Cut off. -/
theorem blk_cut {M m : Nat} {most : Int} (P : List Nat) (hP : ∀ c ∈ P, c < 256) (hb : Bt M m 0 (laidP P 0 1)) (hm : 8 * m < pcL (laidP P 0 1)) (hO : (P.length : Int) ≤ most) (n : Nat) : Blks M m most n 0 [] (.error 2) := by
  have hlen := laidP_len P 0 1
  have hT := laidT_len 0 1 (.inl rfl)
  rw [if_pos rfl] at hT
  by_cases g : 0 + 3 ≤ 8 * m
  · obtain ⟨k1, k2, k3⟩ := hb.three (by omega) (by omega) g
    refine Blks.bad (fun _ => by omega) ?_
    unfold blkP
    rw [if_pos g, if_neg (by omega), if_pos k2]
    exact (syms_cut P (0 + 3) [] hP k3 (by omega) (by simp; exact hO)).val
  · refine Blks.bad (fun h => absurd h g) ?_
    unfold blkP
    rw [if_neg g]

/-- Bytes behind others, as numbers. -/
theorem bytes_behind (N a : Nat) (R : List Nat) (h : N < 2 ^ (8 * a)) (hR : ∀ y ∈ R, y < 256) : bytesOf N a ++ R = bytesOf (N + numOf R * 2 ^ (8 * a)) (a + R.length) := by
  rw [bytesOf_add N (numOf R) a R.length h, bytesOf_numOf R hR]

theorem Bt.behind {m : Nat} {ps : List (Nat × Nat)} (hp : pcOk ps) (a z : Nat) (h : pcL ps ≤ 8 * a) : Bt (pcN ps + z * 2 ^ (8 * a)) m 0 ps :=
  Bt.of (z * 2 ^ (8 * a - pcL ps)) (by rw [Nat.mul_assoc, ← Nat.pow_add, show 8 * a - pcL ps + pcL ps = 8 * a by omega]) hp

theorem pcN_lt8 {ps : List (Nat × Nat)} (hp : pcOk ps) : pcN ps < 2 ^ (8 * ((pcL ps + 7) / 8)) :=
  Nat.lt_of_lt_of_le (pcN_lt ps hp) (Nat.pow_le_pow_right (by omega) (by omega))

end Go.Proofs.YtkaibpibnkmmbaaDoor
