/-
  A Reader's bits: Of, Left, Get.
-/
import Derived.Test.YtelengfdbhambaaKnown
namespace Go.Proofs.Ytelengfdbhambaa
open Go.RowKit

/-- The Reader in block b reads the first m bytes of the number M, in the row s; so many bits are taken. -/
structure Rr (w : World) (b : Nat) (s : Value) (M m t : Nat) : Prop where
  ins : w.cell? ⟨b, 0, none⟩ = some s
  at_ : w.cell? ⟨b, 1, none⟩ = some (.int .i64 (t : Int))
  f1 : w.frozen? ⟨b, 1, none⟩ = false
  own : w.ownsRow 0 5 1 s m (u8s (bytesOf M m))
  ne : s.ownBlock ≠ some b
  le : t ≤ 8 * m

theorem Rr.step {S : Nat → Prop} {w w' : World} {b : Nat} {s : Value} {M m t : Nat} (R : Rr w b s M m t) (hs : Step S w w') (h1 : ¬ S b) (h2 : ∀ k, s.ownBlock = some k → ¬ S k) : Rr w' b s M m t := by
  have hb : b < w.heap.size := World.block_lt_of_cell? w _ R.ins
  exact ⟨hs.cell R.ins h1, hs.cell R.at_ h1, (hs.frozen (p := ⟨b, 1, none⟩) hb h1).trans R.f1, owns_step R.own hs h2, R.ne, R.le⟩

theorem Wr.step {S : Nat → Prop} {w w' : World} {b : Nat} {s : Value} {N L : Nat} (R : Wr w b s N L) (hs : Step S w w') (h1 : ¬ S b) (h2 : ∀ k, s.ownBlock = some k → ¬ S k) : Wr w' b s N L := by
  have hb : b < w.heap.size := World.block_lt_of_cell? w _ R.out
  exact ⟨hs.cell R.out h1, hs.cell R.free h1, (hs.frozen (p := ⟨b, 0, none⟩) hb h1).trans R.f0, (hs.frozen (p := ⟨b, 1, none⟩) hb h1).trans R.f1, owns_step R.own hs h2, R.ne, R.lt⟩

theorem fresh_n (v : Value) (M m : Nat) (w : World) (h : Rd w v (bytesOf M m)) (hm : m ≤ 137438953600) :
    Calls Try.prog 37 #[v] w fun e w' => ∃ v', e = .returned v' ∧ w'.ownsRow 0 5 1 v' m (u8s (bytesOf M m)) ∧ Step (fun _ => False) w w' ∧ (v'.ownBlock = none ∨ v'.ownBlock = some w.heap.size) := by
  have H := fresh_any v (bytesOf M m) w h (by rw [bytesOf_length]; exact hm)
  rw [bytesOf_length] at H
  exact H

set_option maxHeartbeats 400000 in
theorem of_any (v : Value) (M m : Nat) (w : World) (h : Rd w v (bytesOf M m)) (hm : m ≤ 137438953600) :
    Calls Try.prog 26 #[v] w fun e w' => ∃ b s, e = .returned (.pointer (some ⟨b, 0, none⟩)) ∧ Rr w' b s M m 0 ∧ Step (fun _ => False) w w' ∧ w.heap.size ≤ b ∧ (∀ k, s.ownBlock = some k → w.heap.size ≤ k) := by
  have H := hidden h
  clear h
  go_enter Try.func26, Try.ntmps26
  go_wp2_with (go_at_call 37; refine (fresh_n _ M m _ H.out hm).mono ?_; rintro e w' ⟨v', rfl, h1, h2, h3⟩; obtain ⟨ao, cap, rfl⟩ := own_slice h1; have H1 := hidden (And.intro h1 (And.intro h2 h3)); clear h1 h2 h3)
  go_ret
  obtain ⟨hown, hst, hob⟩ := H1.out
  refine ⟨_, _, rfl, ⟨?_, ?_, ?_, hown.alloc _, ?_, Nat.zero_le _⟩, hst.alloc _, hst.size, ?_⟩
  · simp
  · simp
  · simp
  · intro e
    have := (hown.lt _ e).2
    omega
  · intro k hk
    rcases hob with h | h
    · rw [h] at hk; cases hk
    · rw [h] at hk; have := Option.some.inj hk; omega

set_option maxHeartbeats 400000 in
theorem left_any (b : Nat) (s : Value) (M m t : Nat) (w : World) (h : Rr w b s M m t) (hm : m ≤ 137438953600) :
    Calls Try.prog 33 #[.pointer (some ⟨b, 0, none⟩)] w fun e w' => e = .returned (.int .i64 ((8 * m - t : Nat) : Int)) ∧ ∃ n, w' = w.drewN n := by
  obtain ⟨ao, cap, hs⟩ := own_slice h.own
  have c0 := h.ins
  have c1 := h.at_
  have hle := h.le
  rw [hs] at c0
  clear h
  go_enter Try.func33, Try.ntmps33
  go_wp2
  go_quiet (fail)
  go_wp2
  go_ret
  refine ⟨?_, _, rfl⟩
  show Ending.returned (.int .i64 _) = Ending.returned (.int .i64 _)
  congr 2
  omega

end Go.Proofs.Ytelengfdbhambaa
