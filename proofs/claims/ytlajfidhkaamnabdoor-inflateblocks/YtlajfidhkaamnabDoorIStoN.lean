/-
  Plain numbers: a block of bytes as they are, read.
-/
import Derived.Test.YtlajfidhkaamnabDoorILawN
import Derived.Test.YtlajfidhkaamnabDoorILit
namespace Go.Proofs.YtlajfidhkaamnabDoor
set_option linter.unusedVariables false

theorem numOf_cons (x : Nat) (B : List Nat) : numOf (x :: B) = x + 256 * numOf B := rfl

theorem sto_nums {M h a b c d : Nat} {R : List Nat} (hM : M = numOf (h :: a :: b :: c :: d :: R)) (h1 : h < 2) (ha : a < 256) (hb : b < 256) (hc : c < 256) (hd : d < 256) :
    M / 2 ^ 0 % 2 = h ∧ M / 2 ^ (0 + 1) % 4 = 0 ∧ M / 2 ^ 8 % 65536 = a + 256 * b ∧ M / 2 ^ (8 + 16) % 65536 = c + 256 * d ∧ M / 2 ^ (8 + 32) = numOf R := by
  simp only [numOf_cons] at hM
  generalize numOf R = N at *
  have e0 : (2 : Nat) ^ 0 = 1 := rfl
  have e1 : (2 : Nat) ^ (0 + 1) = 2 := rfl
  have e2 : (2 : Nat) ^ 8 = 256 := rfl
  have e3 : (2 : Nat) ^ (8 + 16) = 16777216 := rfl
  have e4 : (2 : Nat) ^ (8 + 32) = 1099511627776 := rfl
  rw [e0, e1, e2, e3, e4]
  refine ⟨by omega, by omega, by omega, by omega, by omega⟩

/-- What such a block tells. -/
def stoR (n1 n2 : Nat) (R : List Nat) (most : Int) : Except Nat (Nat × List Nat) :=
  if n1 + n2 = 65535 then
    if (n1 : Int) ≤ most then
      if n1 ≤ R.length then .ok (40 + 8 * n1, R.take n1) else .error 2
    else .error 5
  else .error 3

theorem sto_blk {M m h a b c d : Nat} {most : Int} {R : List Nat} (hM : M = numOf (h :: a :: b :: c :: d :: R)) (hm : m = R.length + 5) (h1 : h < 2) (ha : a < 256) (hb : b < 256) (hc : c < 256) (hd : d < 256) (hR : ∀ y ∈ R, y < 256) :
    M / 2 ^ (0 + 1) % 4 = 0 ∧ M / 2 ^ 0 % 2 = h ∧ blkP M m most 0 [] = stoR (a + 256 * b) (c + 256 * d) R most := by
  obtain ⟨q1, q2, q3, q4, q5⟩ := sto_nums hM h1 ha hb hc hd
  refine ⟨q2, q1, ?_⟩
  unfold blkP
  rw [if_pos (by omega), if_pos q2]
  unfold storedP stoR
  have e : (0 + 3 + 7) / 8 * 8 = 8 := rfl
  simp only [e]
  rw [q3, q4, q5, if_pos (by omega)]
  have hz : most - (([] : List Nat).length : Int) = most := by simp
  rw [hz]
  by_cases g1 : a + 256 * b + (c + 256 * d) = 65535
  · rw [if_pos g1, if_pos g1]
    by_cases g2 : ((a + 256 * b : Nat) : Int) ≤ most
    · rw [if_pos g2, if_pos g2]
      by_cases g3 : a + 256 * b ≤ R.length
      · rw [if_pos (by omega), if_pos g3, List.nil_append]
        have hr : bytesOf (numOf R) (a + 256 * b) = R.take (a + 256 * b) := by
          have := bytesOf_numOf R hR
          rw [← this, show bytesOf (numOf (bytesOf (numOf R) R.length)) (a + 256 * b) = bytesOf (numOf R) (a + 256 * b) by rw [this]]
          unfold bytesOf
          rw [← List.map_take, List.take_range, Nat.min_eq_left g3]
        rw [hr, show 8 + 32 + 8 * (a + 256 * b) = 40 + 8 * (a + 256 * b) by omega]
      · rw [if_neg (by omega), if_neg g3]
    · rw [if_neg g2, if_neg g2]
  · rw [if_neg g1, if_neg g1]

theorem sto_blks {M m a b c d : Nat} {most : Int} {R : List Nat} (hM : M = numOf (1 :: a :: b :: c :: d :: R)) (hm : m = R.length + 5) (ha : a < 256) (hb : b < 256) (hc : c < 256) (hd : d < 256) (hR : ∀ y ∈ R, y < 256) (n : Nat) :
    Blks M m most n 0 [] (stoR (a + 256 * b) (c + 256 * d) R most) := by
  obtain ⟨q1, q2, q3⟩ := sto_blk (most := most) hM hm (by omega) ha hb hc hd hR
  cases hr : stoR (a + 256 * b) (c + 256 * d) R most with
  | error e => exact Blks.bad (fun _ => by omega) (by rw [q3, hr])
  | ok z => exact Blks.last (by omega) q2 (by rw [q3, hr])

theorem two_bytes (v : Nat) (hv : v ≤ 65535) : bytesOf v 2 = [v % 256, v / 256] := by
  show [v / 2 ^ (8 * 0) % 256, v / 2 ^ (8 * 1) % 256] = _
  have e0 : (2 : Nat) ^ (8 * 0) = 1 := rfl
  have e1 : (2 : Nat) ^ (8 * 1) = 256 := rfl
  rw [e0, e1, Nat.div_one, Nat.mod_eq_of_lt (a := v / 256) (by omega)]

theorem storedB_eq (P : List Nat) (h : P.length ≤ 60000) : storedB P = 1 :: (P.length % 256) :: (P.length / 256) :: ((65535 - P.length) % 256) :: ((65535 - P.length) / 256) :: P := by
  unfold storedB
  rw [two_bytes _ (by omega), two_bytes _ (by omega)]
  rfl

theorem storedB_by (P : List Nat) (h : P.length ≤ 60000) (hP : ∀ y ∈ P, y < 256) : ∀ y ∈ storedB P, y < 256 := by
  rw [storedB_eq P h]
  intro y hy
  simp only [List.mem_cons] at hy
  rcases hy with rfl | rfl | rfl | rfl | rfl | hy
  · omega
  · omega
  · omega
  · omega
  · omega
  · exact hP y hy

/-- One of the four numbers' bytes is another one: they don't fit any more. -/
theorem turned_blks {M m q x : Nat} {most : Int} (P : List Nat) (h : P.length ≤ 60000) (hP : ∀ y ∈ P, y < 256) (hq : q < 4) (hx : x < 256) (hne : x ≠ (storedB P).getD (1 + q) 0) (hM : M = numOf ((storedB P).set (1 + q) x)) (hm : m = P.length + 5) : Blks M m most 0 0 [] (.error 3) := by
  rw [storedB_eq P h] at hM hne
  generalize hn : P.length = n at *
  have h4 : q = 0 ∨ q = 1 ∨ q = 2 ∨ q = 3 := by omega
  rcases h4 with rfl | rfl | rfl | rfl
  · have := sto_blks (most := most) hM (show m = P.length + 5 by rw [hn]; exact hm) hx (by omega) (by omega) (by omega) hP 0
    simp at hne
    unfold stoR at this
    rw [if_neg (by omega)] at this
    exact this
  · have := sto_blks (most := most) hM (show m = P.length + 5 by rw [hn]; exact hm) (by omega) hx (by omega) (by omega) hP 0
    simp at hne
    unfold stoR at this
    rw [if_neg (by omega)] at this
    exact this
  · have := sto_blks (most := most) hM (show m = P.length + 5 by rw [hn]; exact hm) (by omega) (by omega) hx (by omega) hP 0
    simp at hne
    unfold stoR at this
    rw [if_neg (by omega)] at this
    exact this
  · have := sto_blks (most := most) hM (show m = P.length + 5 by rw [hn]; exact hm) (by omega) (by omega) (by omega) hx hP 0
    simp at hne
    unfold stoR at this
    rw [if_neg (by omega)] at this
    exact this

theorem stored_blks {m : Nat} {most : Int} (P : List Nat) (h : P.length ≤ 60000) (hP : ∀ y ∈ P, y < 256) (hm : m = P.length + 5) : Blks (numOf (storedB P)) m most 0 0 [] (if (P.length : Int) ≤ most then .ok (40 + 8 * P.length, P) else .error 5) := by
  have := sto_blks (M := numOf (storedB P)) (a := P.length % 256) (b := P.length / 256) (c := (65535 - P.length) % 256) (d := (65535 - P.length) / 256) (most := most) (R := P) (by rw [storedB_eq P h]) hm (by omega) (by omega) (by omega) (by omega) hP 0
  unfold stoR at this
  rw [if_pos (by omega), show P.length % 256 + 256 * (P.length / 256) = P.length by omega, if_pos (Nat.le_refl _), List.take_of_length_le (Nat.le_refl _)] at this
  exact this

end Go.Proofs.YtlajfidhkaamnabDoor
