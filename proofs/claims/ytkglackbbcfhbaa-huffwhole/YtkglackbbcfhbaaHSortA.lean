/-
  The stable sort: rows of whatever length.
-/
import Derived.Test.YtkglackbbcfhbaaHSymD
namespace Go.Proofs.Ytkglackbbcfhbaa
open Go.RowKit
set_option maxRecDepth 100000
set_option linter.unusedVariables false

/-- Stretches of z symbols, from place z * t on, are sorted, as far as c. -/
def Blk (O D : List Int) (z c : Nat) : Prop := ∀ t p q, z * t ≤ p → p < q → q < z * t + z → q < c → key O (D.getD p 0) ≤ key O (D.getD q 0)
/-- Those from place a on. -/
def BlkF (O D : List Int) (z a c : Nat) : Prop := ∀ t p q, a ≤ z * t → z * t ≤ p → p < q → q < z * t + z → q < c → key O (D.getD p 0) ≤ key O (D.getD q 0)

theorem Blk.more {O D D' : List Int} {z c b : Nat} (h : Blk O D z (z * c)) (hs : Srt O D (z * c) b D') : Blk O D' z b := by
  intro t p q h1 h2 h3 h4
  by_cases e : t < c
  · have hm : z * (t + 1) ≤ z * c := Nat.mul_le_mul_left z e
    rw [Nat.mul_succ] at hm
    rw [hs.out p (by omega), hs.out q (by omega)]
    exact h t p q h1 h2 h3 (by omega)
  · have hm : z * c ≤ z * t := Nat.mul_le_mul_left z (by omega)
    exact hs.sr p q (by omega) h2 h4

theorem BlkF.more {O D D' : List Int} {z a b b' n : Nat} (h : BlkF O D z a n) (hab : a ≤ b) (hs : Srt O D a b D') : BlkF O D' z b n := by
  intro t p q h0 h1 h2 h3 h4
  rw [hs.out p (by omega), hs.out q (by omega)]
  exact h t p q (by omega) h1 h2 h3 h4

theorem Blk.twice {O D : List Int} {z c n : Nat} (h : Blk O D (2 * z) (2 * z * c)) (hf : BlkF O D z (2 * z * c) n) (hc : n ≤ 2 * z * c + z) : Blk O D (2 * z) n := by
  intro t p q h1 h2 h3 h4
  by_cases e : t < c
  · have hm : 2 * z * (t + 1) ≤ 2 * z * c := Nat.mul_le_mul_left (2 * z) e
    rw [Nat.mul_succ] at hm
    exact h t p q h1 h2 h3 (by omega)
  · have hm : 2 * z * c ≤ 2 * z * t := Nat.mul_le_mul_left (2 * z) (by omega)
    have e1 : z * (2 * c) = 2 * z * c := by rw [Nat.mul_comm 2 z, Nat.mul_assoc]
    exact hf (2 * c) p q (by omega) (by omega) h2 (by omega) h4

theorem BlkF.parts {O D : List Int} {z c n m : Nat} (hf : BlkF O D z (2 * z * c) n) (hm : m = 2 * z * c + z) (b : Nat) (hb : b ≤ n) (hb2 : b ≤ m + z) : Sr O D (2 * z * c) (min m b) ∧ Sr O D m b := by
  have e1 : z * (2 * c) = 2 * z * c := by rw [Nat.mul_comm 2 z, Nat.mul_assoc]
  have e2 : z * (2 * c + 1) = 2 * z * c + z := by rw [Nat.mul_succ, e1]
  refine ⟨fun p q h1 h2 h3 => hf (2 * c) p q (by omega) (by omega) h2 (by omega) (by omega), fun p q h1 h2 h3 => hf (2 * c + 1) p q (by omega) (by omega) h2 (by omega) (by omega)⟩

theorem Blk.all {O D : List Int} {z n : Nat} (h : Blk O D z n) (hz : n ≤ z) : Sr O D 0 n := fun p q h1 h2 h3 => h 0 p q (by simp) h2 (by omega) h3
theorem Blk.from0 {O D : List Int} {z n : Nat} (h : Blk O D z n) : BlkF O D z 0 n := fun t p q _ h1 h2 h3 h4 => h t p q h1 h2 h3 h4
theorem Blk.none (O D : List Int) (z : Nat) : Blk O D z 0 := fun t p q _ _ _ h => by omega

/-- While blocks are sorted. -/
def S1 (O D : List Int) (g a n : Nat) (w w' : World) : Prop := ∃ D', Mix D 0 n D' ∧ Blk O D' 20 a ∧ Row w' g D' ∧ Step (fun k => k = g) w w'
/-- While blocks are merged. -/
def S2 (O D : List Int) (g z a n : Nat) (w w' : World) : Prop := ∃ D', Mix D 0 n D' ∧ Blk O D' (2 * z) a ∧ BlkF O D' z a n ∧ Row w' g D' ∧ Step (fun k => k = g) w w'
/-- Behind a pass. -/
def S3 (O D : List Int) (g z n : Nat) (w w' : World) : Prop := ∃ D', Mix D 0 n D' ∧ Blk O D' z n ∧ Row w' g D' ∧ Step (fun k => k = g) w w'

theorem ins_call {O : List Int} {v : Value} {B g : Nat} {D : List Int} {a b n : Nat} (cap : Nat) {w w2 : World} (hE : Env w B g v O) (hin : InO O D) (hn : n = D.length) (c : Nat) (hc : a = 20 * c) (h : S1 O D g a n w w2) (hab : a ≤ b) (hb : b ≤ n) (hl : n ≤ 100000) (hO : O.length ≤ 100000) :
    Calls Try.prog 37 #[.slice (some ⟨g, 0, none⟩) n cap, .int .i64 (a : Int), .int .i64 (b : Int), cmpV B] w2 fun e w' => (∃ u, e = .returned u) ∧ S1 O D g b n w w' := by
  obtain ⟨D', m1, m2, m3, m4⟩ := h
  have e : n = D'.length := by rw [m1.perm.length_eq]; exact hn
  have k := ins_any O v B g D' a b cap w2 (hE.step m4) m3 (hin.perm m1.perm) hab (by omega) (by omega) hO
  rw [← e] at k
  refine k.mono ?_
  rintro x w3 ⟨hu, D2, p1, p2, p3⟩
  subst hc
  exact ⟨hu, D2, m1.trans (p1.mix.wide (Nat.zero_le _) hb), m2.more p1, p2, m4.trans p3 (fun i hi => .inl hi)⟩

theorem sym_call {O : List Int} {v : Value} {B g : Nat} {D : List Int} {z a m b n : Nat} (cap : Nat) {w w2 : World} (hE : Env w B g v O) (hin : InO O D) (hn : n = D.length) (c : Nat) (hc : a = 2 * z * c) (h : S2 O D g z a n w w2) (hz : 0 < z) (hm : m = a + z) (hmb : m < b) (hb2 : b ≤ m + z) (hb : b ≤ n) (hl : n ≤ 100000) (hO : O.length ≤ 100000) :
    Calls Try.prog 38 #[.slice (some ⟨g, 0, none⟩) n cap, .int .i64 (a : Int), .int .i64 (m : Int), .int .i64 (b : Int), cmpV B] w2 fun e w' => (∃ u, e = .returned u) ∧ S2 O D g z b n w w' := by
  obtain ⟨D', m1, m2, m3, m4, m5⟩ := h
  have e : n = D'.length := by rw [m1.perm.length_eq]; exact hn
  subst hc
  obtain ⟨q1, q2⟩ := m3.parts hm b hb hb2
  rw [Nat.min_eq_left (by omega)] at q1
  have k := sym_all _ O v B g D' (2 * z * c) m b cap w2 (hE.step m5) m4 (hin.perm m1.perm) (by omega) hmb (by omega) q1 q2 (by omega) hO rfl
  rw [← e] at k
  refine k.mono ?_
  rintro x w3 ⟨hu, D2, p1, p2, p3⟩
  exact ⟨hu, D2, m1.trans (p1.mix.wide (Nat.zero_le _) hb), m2.more p1, m3.more (b' := b) (by omega) p1, p2, m5.trans p3 (fun i hi => .inl hi)⟩

theorem S2.start {O D : List Int} {g z n : Nat} {w w' : World} (h : S3 O D g z n w w') : S2 O D g z 0 n w w' := by
  obtain ⟨D', m1, m2, m3, m4⟩ := h
  exact ⟨D', m1, Blk.none _ _ _, m2.from0, m3, m4⟩
theorem S2.stop {O D : List Int} {g z n : Nat} {w w' : World} (h : S2 O D g z n n w w') : S3 O D g (2 * z) n w w' := by
  obtain ⟨D', m1, m2, _, m3, m4⟩ := h
  exact ⟨D', m1, m2, m3, m4⟩
theorem S2.short {O D : List Int} {g z a n : Nat} {w w' : World} (c : Nat) (hc : a = 2 * z * c) (h : S2 O D g z a n w w') (hn : n ≤ a + z) : S3 O D g (2 * z) n w w' := by
  obtain ⟨D', m1, m2, m5, m3, m4⟩ := h
  subst hc
  exact ⟨D', m1, Blk.twice m2 m5 hn, m3, m4⟩

end Go.Proofs.Ytkglackbbcfhbaa
