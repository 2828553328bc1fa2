/-
  Two Writers of the same bits, side by side: the same call, the same answer.
-/
import Derived.Test.YtelengfdbhambaaRefB
import Derived.Test.YtelengfdbhambaaRoom
namespace Go.Proofs.Ytelengfdbhambaa
open Go.RowKit

/-- The program's Writer and the page's, made since w, apart from one another. -/
structure Both (w w1 : World) (a b : Nat) (sa sb : Value) (N L N' L' : Nat) : Prop where
  A : Wr w1 a sa N L
  B : Wx w1 b sb N' L'
  st : Step (fun _ => False) w w1
  ha : w.heap.size ≤ a
  hb : w.heap.size ≤ b
  hsa : ∀ k, sa.ownBlock = some k → w.heap.size ≤ k
  hsb : ∀ k, sb.ownBlock = some k → w.heap.size ≤ k
  ne : a ≠ b
  n1 : sa.ownBlock ≠ some b
  n2 : sb.ownBlock ≠ some a
  n3 : ∀ k, sa.ownBlock = some k → sb.ownBlock ≠ some k

/-- All blocks of both. -/
def Own2 (a b : Nat) (sa sb : Value) (k : Nat) : Prop := Of a sa k ∨ Of b sb k

section
variable {w w1 w2 : World} {a b : Nat} {sa sb : Value} {N L N' L' N2 L2 : Nat}

theorem Both.onA' (T : Both w w1 a b sa sb N L N' L') {s : Value} (W : Wr w2 a s N2 L2) (St : Step (Of a sa) w1 w2) (Wh : s.ownBlock = sa.ownBlock ∨ ∃ k, s.ownBlock = some k ∧ w1.heap.size ≤ k) : Both w w2 a b s sb N2 L2 N' L' := by
  have hbw : b < w1.heap.size := World.block_lt_of_cell? w1 _ T.B.out
  obtain ⟨st, hs⟩ := T.st.own St T.ha T.hsa Wh
  have nb : ¬ Of a sa b := by
    rintro (e | e)
    · exact T.ne e.symm
    · exact T.n1 e
  have nk : ∀ k, sb.ownBlock = some k → ¬ Of a sa k := by
    rintro k hk (e | e)
    · exact T.n2 (by rw [hk, e])
    · exact T.n3 k e hk
  refine ⟨W, T.B.step St nb nk, st, T.ha, T.hb, hs, T.hsb, T.ne, ?_, T.n2, ?_⟩
  · rcases Wh with e | ⟨k, e, hk⟩
    · rw [e]; exact T.n1
    · rw [e]; intro h; have := Option.some.inj h; omega
  · intro k hk h2
    have hlt := (T.B.own.lt k h2).2
    rcases Wh with e | ⟨q, e, hq⟩
    · exact T.n3 k (by rw [← e]; exact hk) h2
    · rw [e] at hk; have := Option.some.inj hk; omega

theorem Both.onA (T : Both w w1 a b sa sb N L N' L') (h : Wrote w1 w2 a sa N2 L2) : ∃ s, Both w w2 a b s sb N2 L2 N' L' := by
  obtain ⟨s, W, St, Wh⟩ := h
  exact ⟨s, T.onA' W St Wh⟩

theorem wr_step {S : Nat → Prop} {w w' : World} {b : Nat} {s : Value} {N L : Nat} (R : Wr w b s N L) (hs : Step S w w') (h1 : ¬ S b) (h2 : ∀ k, s.ownBlock = some k → ¬ S k) : Wr w' b s N L := by
  have hb : b < w.heap.size := World.block_lt_of_cell? w _ R.out
  exact ⟨hs.cell R.out h1, hs.cell R.free h1, (hs.frozen (p := ⟨b, 0, none⟩) hb h1).trans R.f0, (hs.frozen (p := ⟨b, 1, none⟩) hb h1).trans R.f1, owns_step R.own hs h2, R.ne, R.lt⟩

theorem Both.onB' (T : Both w w1 a b sa sb N L N' L') {s : Value} (W : Wx w2 b s N2 L2) (St : Step (Of b sb) w1 w2) (Wh : s.ownBlock = sb.ownBlock ∨ ∃ k, s.ownBlock = some k ∧ w1.heap.size ≤ k) : Both w w2 a b sa s N L N2 L2 := by
  have haw : a < w1.heap.size := World.block_lt_of_cell? w1 _ T.A.out
  obtain ⟨st, hs⟩ := T.st.own St T.hb T.hsb Wh
  have nb : ¬ Of b sb a := by
    rintro (e | e)
    · exact T.ne e
    · exact T.n2 e
  have nk : ∀ k, sa.ownBlock = some k → ¬ Of b sb k := by
    rintro k hk (e | e)
    · exact T.n1 (by rw [hk, e])
    · exact T.n3 k hk e
  refine ⟨wr_step T.A St nb nk, W, st, T.ha, T.hb, T.hsa, hs, T.ne, T.n1, ?_, ?_⟩
  · rcases Wh with e | ⟨k, e, hk⟩
    · rw [e]; exact T.n2
    · rw [e]; intro h; have := Option.some.inj h; omega
  · intro k hk h2
    have hlt := (T.A.own.lt k hk).2
    rcases Wh with e | ⟨q, e, hq⟩
    · exact T.n3 k hk (by rw [← e]; exact h2)
    · rw [e] at h2; have := Option.some.inj h2; omega

theorem Both.onB (T : Both w w1 a b sa sb N L N' L') (h : WroteX w1 w2 b sb N2 L2) : ∃ s, Both w w2 a b sa s N L N2 L2 := by
  obtain ⟨s, W, St, Wh⟩ := h
  exact ⟨s, T.onB' W St Wh⟩

theorem Both.off {S : Nat → Prop} (T : Both w w1 a b sa sb N L N' L') (h : Step S w1 w2) (hS : ∀ k, S k → ¬ Own2 a b sa sb k ∧ w.heap.size ≤ k) : Both w w2 a b sa sb N L N' L' :=
  ⟨wr_step T.A h (fun e => (hS _ e).1 (.inl (.inl rfl))) (fun _ hk e => (hS _ e).1 (.inl (.inr hk))), T.B.step h (fun e => (hS _ e).1 (.inr (.inl rfl))) (fun _ hk e => (hS _ e).1 (.inr (.inr hk))),
    T.st.trans h (fun i hi => .inr (hS i hi).2), T.ha, T.hb, T.hsa, T.hsb, T.ne, T.n1, T.n2, T.n3⟩

theorem Both.made (T : Both w w1 a b sa sb N L N' L') (h : Step (fun _ => False) w1 w2) : Both w w2 a b sa sb N L N' L' := T.off h (fun _ h => h.elim)
theorem Both.drewN (T : Both w w1 a b sa sb N L N' L') (q : Nat) : Both w (w1.drewN q) a b sa sb N L N' L' := T.made ((Step.refl _ _).drewN q)
theorem Both.drew (T : Both w w1 a b sa sb N L N' L') : Both w w1.drew a b sa sb N L N' L' := T.made ((Step.refl _ _).drew)
theorem Both.alloc (T : Both w w1 a b sa sb N L N' L') (o : Obj) : Both w (w1.alloc o) a b sa sb N L N' L' := T.made ((Step.refl _ _).alloc o)

theorem Both.lt (T : Both w w1 a b sa sb N L N' L') : ∀ k, Own2 a b sa sb k → w.heap.size ≤ k ∧ k < w1.heap.size := by
  rintro k ((e | e) | (e | e))
  · subst e; exact ⟨T.ha, World.block_lt_of_cell? w1 _ T.A.out⟩
  · exact ⟨T.hsa k e, (T.A.own.lt k e).2⟩
  · subst e; exact ⟨T.hb, World.block_lt_of_cell? w1 _ T.B.out⟩
  · exact ⟨T.hsb k e, (T.B.own.lt k e).2⟩

end

theorem put_two (w : World) (a b : Nat) (sa sb : Value) (N L : Nat) (hL : L ≤ 100000000) (v n : Int) : ∃ (r : Int) (N' L' : Nat), L' ≤ L + 24 ∧
    (∀ w2, Both w w2 a b sa sb N L N L → Calls Try.prog 11 #[.pointer (some ⟨a, 0, none⟩), .int .i64 v, .int .i64 n] w2 fun e w' => e = .returned (.int .i64 r) ∧ ∃ s, Both w w' a b s sb N' L' N L ∧ Step (Of a sa) w2 w') ∧
    ∀ w2 s, Both w w2 a b s sb N' L' N L → Calls Try.prog 12 #[.pointer (some ⟨b, 0, none⟩), .int .i64 v, .int .i64 n] w2 fun e w' => e = .returned (.int .i64 r) ∧ ∃ s', Both w w' a b s s' N' L' N' L' ∧ Step (Of b sb) w2 w' := by
  cases hf : fitB v n 24 with
  | true =>
    obtain ⟨v', n', rfl, rfl, hn, hv⟩ := fitB_inv (m := 24) hf
    refine ⟨0, N + v' * 2 ^ L, L + n', by omega, fun w2 P => (put_ok a sa N L v' n' w2 P.A hn hv (by omega)).mono ?_, fun w2 s P => (xput_ok b sb N L v' n' w2 P.B hn hv (by omega)).mono ?_⟩
    · rintro e w' ⟨rfl, h⟩
      have hS : Step (Of a sa) w2 w' := by obtain ⟨_, _, h2, _⟩ := h; exact h2
      obtain ⟨s, B'⟩ := P.onA h
      exact ⟨rfl, s, B', hS⟩
    · rintro e w' ⟨rfl, h⟩
      have hS : Step (Of b sb) w2 w' := by obtain ⟨_, _, h2, _⟩ := h; exact h2
      obtain ⟨s', B'⟩ := P.onB h
      exact ⟨rfl, s', B', hS⟩
  | false =>
    refine ⟨1, N, L, by omega, fun w2 P => (put_no a v n w2 hf).mono ?_, fun w2 s P => (xput_no b v n w2 hf).mono ?_⟩
    · rintro e w' ⟨rfl, rfl⟩; exact ⟨rfl, sa, P, Step.refl _ _⟩
    · rintro e w' ⟨rfl, rfl⟩; exact ⟨rfl, sb, P, Step.refl _ _⟩

theorem code_two (w : World) (a b : Nat) (sa sb : Value) (N L : Nat) (hL : L ≤ 100000000) (v n : Int) : ∃ (r : Int) (N' L' : Nat), L' ≤ L + 24 ∧
    (∀ w2, Both w w2 a b sa sb N L N L → Calls Try.prog 13 #[.pointer (some ⟨a, 0, none⟩), .int .i64 v, .int .i64 n] w2 fun e w' => e = .returned (.int .i64 r) ∧ ∃ s, Both w w' a b s sb N' L' N L ∧ Step (Of a sa) w2 w') ∧
    ∀ w2 s, Both w w2 a b s sb N' L' N L → Calls Try.prog 14 #[.pointer (some ⟨b, 0, none⟩), .int .i64 v, .int .i64 n] w2 fun e w' => e = .returned (.int .i64 r) ∧ ∃ s', Both w w' a b s s' N' L' N' L' ∧ Step (Of b sb) w2 w' := by
  cases hf : fitB v n 15 with
  | true =>
    obtain ⟨v', n', rfl, rfl, hn, hv⟩ := fitB_inv (m := 15) hf
    refine ⟨0, N + rv v' n' n' * 2 ^ L, L + n', by omega, fun w2 P => (code_ok a sa N L v' n' w2 P.A hn hv (by omega)).mono ?_, fun w2 s P => (xcode_ok b sb N L v' n' w2 P.B hn hv (by omega)).mono ?_⟩
    · rintro e w' ⟨rfl, h⟩
      have hS : Step (Of a sa) w2 w' := by obtain ⟨_, _, h2, _⟩ := h; exact h2
      obtain ⟨s, B'⟩ := P.onA h
      exact ⟨rfl, s, B', hS⟩
    · rintro e w' ⟨rfl, h⟩
      have hS : Step (Of b sb) w2 w' := by obtain ⟨_, _, h2, _⟩ := h; exact h2
      obtain ⟨s', B'⟩ := P.onB h
      exact ⟨rfl, s', B', hS⟩
  | false =>
    refine ⟨1, N, L, by omega, fun w2 P => (code_no a v n w2 hf).mono ?_, fun w2 s P => (xcode_no b v n w2 hf).mono ?_⟩
    · rintro e w' ⟨rfl, rfl⟩; exact ⟨rfl, sa, P, Step.refl _ _⟩
    · rintro e w' ⟨rfl, rfl⟩; exact ⟨rfl, sb, P, Step.refl _ _⟩

theorem flat_two (B C : List Nat) : flat (fun i => if i = 0 then B else C) 2 = B ++ C := by simp [flat]

theorem raw_two (w : World) (a b : Nat) (sa sb : Value) (N L : Nat) (hL : L ≤ 100000000) (B C : List Nat) (lB : B.length ≤ 2000) (lC : C.length ≤ 2000) : ∃ (r : Int) (N' L' : Nat), L' ≤ L + 32000 ∧
    (∀ w2 q v0 v1, Both w w2 a b sa sb N L N L → w2.cell? ⟨q, 0, none⟩ = some v0 → w2.cell? ⟨q, 1, none⟩ = some v1 → ¬ Of a sa q → Src w2 a sa v0 B → Src w2 a sa v1 C →
      Calls Try.prog 18 #[.pointer (some ⟨a, 0, none⟩), .slice (some ⟨q, 0, none⟩) 2 2] w2 fun e w' => e = .returned (.int .i64 r) ∧ ∃ s, Both w w' a b s sb N' L' N L ∧ Step (Of a sa) w2 w' ∧ (s.ownBlock = sa.ownBlock ∨ ∃ k, s.ownBlock = some k ∧ w2.heap.size ≤ k)) ∧
    ∀ w2 s q v0 v1, Both w w2 a b s sb N' L' N L → w2.cell? ⟨q, 0, none⟩ = some v0 → w2.cell? ⟨q, 1, none⟩ = some v1 → ¬ Of b sb q → Src w2 b sb v0 B → Src w2 b sb v1 C →
      Calls Try.prog 19 #[.pointer (some ⟨b, 0, none⟩), .slice (some ⟨q, 0, none⟩) 2 2] w2 fun e w' => e = .returned (.int .i64 r) ∧ ∃ s', Both w w' a b s s' N' L' N' L' ∧ Step (Of b sb) w2 w' ∧ (s'.ownBlock = sb.ownBlock ∨ ∃ k, s'.ownBlock = some k ∧ w2.heap.size ≤ k) := by
  have hfl := flat_two B C
  have hlen : (B ++ C).length = B.length + C.length := by simp
  by_cases h8 : L % 8 = 0
  · refine ⟨0, N + numOf (B ++ C) * 2 ^ L, L + 8 * (B ++ C).length, by omega, fun w2 q v0 v1 P c0 c1 hq s0 s1 => ?_, fun w2 s q v0 v1 P c0 c1 hq s0 s1 => ?_⟩
    · have H := raw_ok a q 2 sa N L (fun i => if i = 0 then v0 else v1) (fun i => if i = 0 then B else C) w2 P.A h8 hq (fun i hi => by
        match i, hi with
        | 0, _ => simpa using c0
        | 1, _ => simpa using c1) (fun i hi => by
        match i, hi with
        | 0, _ => simpa using s0
        | 1, _ => simpa using s1) (by omega) (by rw [hfl]; omega)
      rw [hfl] at H
      refine H.mono ?_
      rintro e w' ⟨rfl, h⟩
      obtain ⟨s, W, St, Wh⟩ := h
      exact ⟨rfl, s, P.onA' W St Wh, St, Wh⟩
    · have H := xrawW_ok b q 2 sb N L (fun i => if i = 0 then v0 else v1) (fun i => if i = 0 then B else C) w2 P.B h8 hq (fun i hi => by
        match i, hi with
        | 0, _ => simpa using c0
        | 1, _ => simpa using c1) (fun i hi => by
        match i, hi with
        | 0, _ => simpa using s0
        | 1, _ => simpa using s1) (by omega) (by rw [hfl]; omega)
      rw [hfl] at H
      refine H.mono ?_
      rintro e w' ⟨rfl, h⟩
      obtain ⟨s', W, St, Wh⟩ := h
      exact ⟨rfl, s', P.onB' W St Wh, St, Wh⟩
  · refine ⟨1, N, L, by omega, fun w2 q v0 v1 P c0 c1 hq s0 s1 => (raw_no a sa N L _ w2 P.A h8).mono ?_, fun w2 s q v0 v1 P c0 c1 hq s0 s1 => (xrawW_no b sb N L _ w2 P.B (by omega) h8).mono ?_⟩
    · rintro e w' ⟨rfl, rfl⟩; exact ⟨rfl, sa, P, Step.refl _ _, .inl rfl⟩
    · rintro e w' ⟨rfl, rfl⟩; exact ⟨rfl, sb, P, Step.refl _ _, .inl rfl⟩

end Go.Proofs.Ytelengfdbhambaa
