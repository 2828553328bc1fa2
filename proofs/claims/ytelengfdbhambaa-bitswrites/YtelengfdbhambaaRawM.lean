/-
  Whole bytes behind the bits of a Writer: numbers and memory.
-/
import Derived.Test.YtelengfdbhambaaKnown
namespace Go.Proofs.Ytelengfdbhambaa
open Go.RowKit

/-- Bytes as a number, the first the lowest. -/
def numOf : List Nat → Nat
  | [] => 0
  | x :: xs => x + 256 * numOf xs

theorem numOf_lt (B : List Nat) (h : ∀ x ∈ B, x < 256) : numOf B < 2 ^ (8 * B.length) := by
  induction B with
  | nil => simp [numOf]
  | cons x xs ih =>
    have h1 := h x (by simp)
    have h2 := ih (fun y hy => h y (by simp [hy]))
    have e : 2 ^ (8 * (x :: xs).length) = 256 * 2 ^ (8 * xs.length) := by
      rw [List.length_cons, Nat.mul_add, Nat.pow_add]; simp; exact Nat.mul_comm _ _
    rw [e]
    simp only [numOf]
    omega

theorem numOf_append (A B : List Nat) : numOf (A ++ B) = numOf A + numOf B * 2 ^ (8 * A.length) := by
  induction A with
  | nil => simp [numOf]
  | cons x xs ih =>
    have e : 2 ^ (8 * (x :: xs).length) = 256 * 2 ^ (8 * xs.length) := by
      rw [List.length_cons, Nat.mul_add, Nat.pow_add]; simp; exact Nat.mul_comm _ _
    simp only [List.cons_append, numOf, ih, e]
    have : numOf B * (256 * 2 ^ (8 * xs.length)) = 256 * (numOf B * 2 ^ (8 * xs.length)) := by ac_rfl
    omega

theorem bytesOf_cons (x M m : Nat) (h : x < 256) : bytesOf (x + 256 * M) (m + 1) = x :: bytesOf M m := by
  simp only [bytesOf, List.range_succ_eq_map, List.map_cons, List.map_map]
  congr 1
  · simp; omega
  · refine List.map_congr_left fun i _ => ?_
    simp only [Function.comp]
    have e : 2 ^ (8 * i.succ) = 256 * 2 ^ (8 * i) := by
      rw [Nat.succ_eq_add_one, Nat.mul_add, Nat.pow_add]; simp; exact Nat.mul_comm _ _
    rw [e, ← Nat.div_div_eq_div_mul, show (x + 256 * M) / 256 = M by omega]

theorem bytesOf_numOf (B : List Nat) (h : ∀ x ∈ B, x < 256) : bytesOf (numOf B) B.length = B := by
  induction B with
  | nil => rfl
  | cons x xs ih =>
    rw [List.length_cons, numOf, bytesOf_cons _ _ _ (h x (by simp)), ih (fun y hy => h y (by simp [hy]))]

theorem bytesOf_add (N M a c : Nat) (h : N < 2 ^ (8 * a)) : bytesOf (N + M * 2 ^ (8 * a)) (a + c) = bytesOf N a ++ bytesOf M c := by
  rw [← bytesOf_low N M (8 * a) a (Nat.le_refl _)]
  simp only [bytesOf, List.range_add, List.map_append, List.map_map]
  congr 1
  refine List.map_congr_left fun i _ => ?_
  simp only [Function.comp]
  rw [Nat.mul_add, Nat.pow_add, ← Nat.div_div_eq_div_mul, Nat.add_mul_div_right _ _ (Nat.two_pow_pos _), Nat.div_eq_of_lt h, Nat.zero_add]

theorem Wr.rawed {wr w1 : World} {b : Nat} {s v' : Value} {N L : Nat} {B : List Nat} (W : Wr wr b s N L) (h0 : L % 8 = 0) (hB : ∀ x ∈ B, x < 256)
    (hown : w1.ownsRow 0 5 1 v' ((L + 7) / 8 + B.length) (u8s (bytesOf N ((L + 7) / 8)) ++ u8s B)) (hgrow : wr.grownBy w1 s.ownBlock)
    (hv' : v'.ownBlock = s.ownBlock ∨ v'.ownBlock = some wr.heap.size) :
    w1.cell? ⟨b, 0, none⟩ = some s ∧ w1.frozen? ⟨b, 0, none⟩ = false ∧ Wrote wr (w1.setCell ⟨b, 0, none⟩ v') b s (N + numOf B * 2 ^ L) (L + 8 * B.length) := by
  have hbw : b < wr.heap.size := World.block_lt_of_cell? wr _ W.out
  have e7 : (L + 7) / 8 = L / 8 := by omega
  rw [e7] at hown
  have hL : 8 * (L / 8) = L := by omega
  have St : Step (fun k => s.ownBlock = some k) wr w1 := (Step.refl _ wr).grown hgrow (fun k hk => .inl hk)
  have hnb : ¬ s.ownBlock = some b := W.ne
  have c0 := St.cell W.out hnb
  have c1 := St.cell W.free hnb
  have f0 := (St.frozen (p := ⟨b, 0, none⟩) hbw hnb).trans W.f0
  have f1 := (St.frozen (p := ⟨b, 1, none⟩) hbw hnb).trans W.f1
  have hne : v'.ownBlock ≠ some b := by
    intro e
    rcases hv' with h | h
    · exact hnb (by rw [← h, e])
    · rw [e] at h; have := Option.some.inj h; omega
  have S2 : Step (fun k => k = b) w1 (w1.setCell ⟨b, 0, none⟩ v') := (Step.refl (fun k => k = b) w1).setCell ⟨b, 0, none⟩ v' (.inl rfl)
  have hlt := W.lt
  have e1 : (L + 8 * B.length + 7) / 8 = L / 8 + B.length := by omega
  have e2 : (8 - (L + 8 * B.length) % 8) % 8 = (8 - L % 8) % 8 := by omega
  have e3 : u8s (bytesOf N (L / 8)) ++ u8s B = u8s (bytesOf (N + numOf B * 2 ^ L) (L / 8 + B.length)) := by
    have := bytesOf_add N (numOf B) (L / 8) B.length (by rw [hL]; exact hlt)
    rw [hL] at this
    rw [this, u8s_append, bytesOf_numOf B hB]
  rw [e3] at hown
  refine ⟨c0, f0, v', ⟨?_, ?_, ?_, ?_, ?_, hne, lt_of_pow hlt (numOf_lt B hB)⟩, ?_, ?_⟩
  · rw [World.cell?_setCell_same _ _ _ c0]
  · rw [World.cell?_setCell_other _ _ _ _ (by simp), e2]; exact c1
  · simp [f0]
  · simp [f1]
  · rw [e1]; exact owns_step hown S2 (fun k hk hb => hne (by rw [hk, hb]))
  · refine (St.mono (fun i hi => .inr hi)).trans S2 (fun i hi => .inl (.inl hi))
  · rcases hv' with h | h
    · exact .inl h
    · exact .inr ⟨_, h, Nat.le_refl _⟩

end Go.Proofs.Ytelengfdbhambaa
