/-
  The same call on two Readers of the same bytes: the same answer.
-/
import Derived.Test.YtelengfdbhambaaReadsM
namespace Go.Proofs.Ytelengfdbhambaa
open Go.RowKit

section
variable {w w1 : World} {b1 : Nat} {s1 : Value} {b2 : Nat} {vb : Value} {g cap : Nat} {B : List Nat} {M m t : Nat}

theorem Pair.drewN {t1 t2 : Nat} (P : Pair w w1 b1 s1 b2 vb g cap B M m t1 t2) (q : Nat) : Pair w (w1.drewN q) b1 s1 b2 vb g cap B M m t1 t2 := P.made ((Step.refl _ _).drewN q)

theorem get_both (P : Pair w w1 b1 s1 b2 vb g cap B M m t t) (hm : m ≤ 2000) (n : Int) : ∃ (r e : Int) (t' : Nat),
    (Calls Try.prog 27 #[.pointer (some ⟨b1, 0, none⟩), .int .i64 n] w1 fun en w' => en = .returned (.tuple #[.int .i64 r, .int .i64 e]) ∧ Pair w w' b1 s1 b2 vb g cap B M m t' t ∧ Step (fun k => k = b1) w1 w') ∧
    ∀ w2, Pair w w2 b1 s1 b2 vb g cap B M m t' t → Calls Try.prog 28 #[.pointer (some ⟨b2, 0, none⟩), .int .i64 n] w2 fun en w' => en = .returned (.tuple #[.int .i64 r, .int .i64 e]) ∧ Pair w w' b1 s1 b2 vb g cap B M m t' t' := by
  by_cases h : 0 ≤ n ∧ n ≤ 24
  · obtain ⟨k, rfl⟩ := Int.eq_ofNat_of_zero_le h.1
    by_cases hk : k ≤ 8 * m - t
    · refine ⟨((M / 2 ^ t % 2 ^ k : Nat) : Int), 0, t + k, ((get_ok b1 s1 M m t k w1 P.R (by omega) (by omega) hk).mono ?_), fun w2 P2 => (xget_ok b2 vb M m t k w2 P2.X (by omega) (by omega) hk).mono ?_⟩
      · rintro en w' ⟨rfl, hT⟩; exact ⟨rfl, P.onR hT, hT.2⟩
      · rintro en w' ⟨rfl, hT⟩; exact ⟨rfl, P2.onX hT⟩
    · refine ⟨0, 2, t, ((get_short b1 s1 M m t k w1 P.R (by omega) (by omega) (by omega)).mono ?_), fun w2 P2 => (xget_short b2 vb M m t k w2 P2.X (by omega) (by omega) (by omega)).mono ?_⟩
      · rintro en w' ⟨rfl, q, rfl⟩; exact ⟨rfl, P.drewN q, (Step.refl _ _).drewN q⟩
      · rintro en w' ⟨rfl, q, rfl⟩; exact ⟨rfl, P2.drewN q⟩
  · refine ⟨0, 1, t, ((get_no b1 n w1 h).mono ?_), fun w2 P2 => (xget_no b2 n w2 h).mono ?_⟩
    · rintro en w' ⟨rfl, rfl⟩; exact ⟨rfl, P, Step.refl _ _⟩
    · rintro en w' ⟨rfl, rfl⟩; exact ⟨rfl, P2⟩

theorem align_both (P : Pair w w1 b1 s1 b2 vb g cap B M m t t) (hm : m ≤ 2000) : ∃ (r : Int) (t' : Nat),
    (Calls Try.prog 29 #[.pointer (some ⟨b1, 0, none⟩)] w1 fun en w' => en = .returned (.int .i64 r) ∧ Pair w w' b1 s1 b2 vb g cap B M m t' t) ∧
    ∀ w2, Pair w w2 b1 s1 b2 vb g cap B M m t' t → Calls Try.prog 30 #[.pointer (some ⟨b2, 0, none⟩)] w2 fun en w' => en = .returned (.int .i64 r) ∧ Pair w w' b1 s1 b2 vb g cap B M m t' t' := by
  refine ⟨(((t + 7) / 8 : Nat) : Int), (t + 7) / 8 * 8, ((ralign_any b1 s1 M m t w1 P.R (by omega)).mono ?_), fun w2 P2 => (xalign_any b2 vb M m t w2 P2.X (by omega)).mono ?_⟩
  · rintro en w' ⟨rfl, hT⟩; exact ⟨rfl, P.onR hT⟩
  · rintro en w' ⟨rfl, hT⟩; exact ⟨rfl, P2.onX hT⟩

theorem left_both (P : Pair w w1 b1 s1 b2 vb g cap B M m t t) (hm : m ≤ 2000) : ∃ (r : Int),
    (Calls Try.prog 33 #[.pointer (some ⟨b1, 0, none⟩)] w1 fun en w' => en = .returned (.int .i64 r) ∧ Pair w w' b1 s1 b2 vb g cap B M m t t) ∧
    ∀ w2, Pair w w2 b1 s1 b2 vb g cap B M m t t → Calls Try.prog 34 #[.pointer (some ⟨b2, 0, none⟩)] w2 fun en w' => en = .returned (.int .i64 r) ∧ Pair w w' b1 s1 b2 vb g cap B M m t t := by
  refine ⟨((8 * m - t : Nat) : Int), ((left_any b1 s1 M m t w1 P.R (by omega)).mono ?_), fun w2 P2 => (xleft_any b2 vb M m t w2 P2.X (by omega)).mono ?_⟩
  · rintro en w' ⟨rfl, q, rfl⟩; exact ⟨rfl, P.drewN q⟩
  · rintro en w' ⟨rfl, q, rfl⟩; exact ⟨rfl, P2.drewN q⟩

/-- A row that a call has made, of the bytes C. -/
def Got (w1 w' : World) (v : Value) (C : List Nat) : Prop := (∃ n, n ≤ 2000 ∧ w'.ownsRow 0 5 1 v n (u8s C)) ∧ ∀ k, v.ownBlock = some k → w1.heap.size ≤ k

theorem Got.nil (w1 w' : World) : Got w1 w' (.slice none 0 0) [] := ⟨⟨0, by omega, World.ownsRow_nil _ _ _ _⟩, fun k hk => by simp [Value.ownBlock] at hk⟩

theorem raw_both (P : Pair w w1 b1 s1 b2 vb g cap B M m t t) (hm : m ≤ 2000) (n : Int) : ∃ (e : Int) (t' : Nat) (C : List Nat),
    (Calls Try.prog 31 #[.pointer (some ⟨b1, 0, none⟩), .int .i64 n] w1 fun en w' => ∃ v, en = .returned (.tuple #[v, .int .i64 e]) ∧ Got w1 w' v C ∧ Pair w w' b1 s1 b2 vb g cap B M m t' t ∧ Step (fun k => k = b1) w1 w') ∧
    ∀ w2, Pair w w2 b1 s1 b2 vb g cap B M m t' t → Calls Try.prog 32 #[.pointer (some ⟨b2, 0, none⟩), .int .i64 n] w2 fun en w' => ∃ v, en = .returned (.tuple #[v, .int .i64 e]) ∧ Got w2 w' v C ∧ Pair w w' b1 s1 b2 vb g cap B M m t' t' ∧ Step (fun k => k = b2) w2 w' := by
  by_cases h : n < 0 ∨ t % 8 ≠ 0
  · refine ⟨1, t, [], ((rraw_no b1 s1 M m t n w1 P.R h).mono ?_), fun w2 P2 => (xraw_no b2 vb M m t n w2 P2.X h).mono ?_⟩
    · rintro en w' ⟨rfl, rfl⟩; exact ⟨_, rfl, Got.nil _ _, P, Step.refl _ _⟩
    · rintro en w' ⟨rfl, rfl⟩; exact ⟨_, rfl, Got.nil _ _, P2, Step.refl _ _⟩
  · have h0 : 0 ≤ n := by omega
    have h8 : t % 8 = 0 := by omega
    obtain ⟨k, rfl⟩ := Int.eq_ofNat_of_zero_le h0
    by_cases hk : k ≤ m - t / 8
    · refine ⟨0, t + 8 * k, bytesOf (M / 2 ^ t) k, ((rraw_ok b1 s1 M m t k w1 P.R (by omega) h8 hk).mono ?_), fun w2 P2 => (xraw_ok b2 vb M m t k w2 P2.X (by omega) h8 hk).mono ?_⟩
      · rintro en w' ⟨v, rfl, ho, hf, hT⟩; exact ⟨v, rfl, ⟨⟨k, by omega, ho⟩, hf⟩, P.onR hT, hT.2⟩
      · rintro en w' ⟨v, rfl, ho, hf, hT⟩; exact ⟨v, rfl, ⟨⟨k, by omega, ho⟩, hf⟩, P2.onX hT, hT.2⟩
    · refine ⟨2, t, [], ((rraw_short b1 s1 M m t k w1 P.R (by omega) h0 h8 (by omega)).mono ?_), fun w2 P2 => (xraw_short b2 vb M m t k w2 P2.X (by omega) h0 h8 (by omega)).mono ?_⟩
      · rintro en w' ⟨rfl, q, rfl⟩; exact ⟨_, rfl, Got.nil _ _, P.drewN q, (Step.refl _ _).drewN q⟩
      · rintro en w' ⟨rfl, rfl⟩; exact ⟨_, rfl, Got.nil _ _, P2, Step.refl _ _⟩

end

end Go.Proofs.Ytelengfdbhambaa
