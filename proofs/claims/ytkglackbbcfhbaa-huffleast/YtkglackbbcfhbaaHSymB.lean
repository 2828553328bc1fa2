/-
  Two sorted stretches become one: the search for the turn.
-/
import Derived.Test.YtkglackbbcfhbaaHSymA
import Derived.Test.YtkglackbbcfhbaaHRot
namespace Go.Proofs.Ytkglackbbcfhbaa
open Go.RowKit
set_option maxRecDepth 100000
set_option linter.unusedVariables false

/-- Stretches of k symbols are merged. -/
def SymOk (k : Nat) : Prop := ∀ (O : List Int) (v : Value) (B g : Nat) (D : List Int) (a m b cap : Nat) (w : World), Env w B g v O → Row w g D → InO O D → a < m → m < b → b ≤ D.length → Sr O D a m → Sr O D m b → D.length ≤ 100000 → O.length ≤ 100000 → b - a = k →
  Calls Try.prog 38 #[.slice (some ⟨g, 0, none⟩) D.length cap, .int .i64 (a : Int), .int .i64 (m : Int), .int .i64 (b : Int), cmpV B] w
      fun e w' => (∃ u, e = .returned u) ∧ SymP O D g a b w w'

/-- Behind the turn: the row, both halves ready to be merged. -/
structure Turned (O D : List Int) (g a s mid e b : Nat) (w w' : World) (D2 : List Int) : Prop where
  perm : List.Perm D2 D
  out : ∀ k, k < a ∨ b ≤ k → D2.getD k 0 = D.getD k 0
  s1 : Sr O D2 a s
  s2 : Sr O D2 s mid
  s3 : Sr O D2 mid e
  s4 : Sr O D2 e b
  cross : ∀ p q, a ≤ p → p < mid → mid ≤ q → q < b → key O (D2.getD p 0) ≤ key O (D2.getD q 0)
  row : Row w' g D2
  st : Step (fun k => k = g) w w'

theorem turned_of {O D D2 : List Int} {g a m b mid s e : Nat} {w w' : World} (ham : a < m) (hmb : m < b) (hb : b ≤ D.length) (has : a ≤ s) (hsm : s ≤ m) (hme : m ≤ e) (heb : e ≤ b) (hmid : mid + m = s + e) (hsd : s ≤ mid) (h1 : Sr O D a m) (h2 : Sr O D m b)
    (hx : a < s → e < b → key O (D.getD (s - 1) 0) ≤ key O (D.getD e 0)) (hy : s < m → m < e → key O (D.getD (e - 1) 0) ≤ key O (D.getD s 0)) (hp : List.Perm D2 D) (H : ∀ k, k < D.length → D2.getD k 0 = D.getD (rotI s m e k) 0) (hr : Row w' g D2) (hs : Step (fun k => k = g) w w') : Turned O D g a s mid e b w w' D2 := by
  obtain ⟨r1, r2, r3, r4, r5⟩ := rot_cross ham hmb hb has hsm hme heb hmid hsd h1 h2 hx hy H
  refine ⟨hp, fun k hk => ?_, r1, r2, r3, r4, r5, hr, hs⟩
  by_cases hkl : k < D.length
  · rw [H k hkl]; unfold rotI; rw [if_neg (by omega), if_neg (by omega)]
  · have := hp.length_eq
    rw [getD_far _ _ (by omega), getD_far _ _ (by omega)]

/-- One half merged, or nothing to be done. -/
def Half (O D : List Int) (g a b : Nat) (w w' : World) : Prop := ∃ D', Srt O D a b D' ∧ Row w' g D' ∧ Step (fun k => k = g) w w'

theorem rotI_none {s m e k : Nat} (h : ¬ (s < m ∧ m < e)) (h1 : s ≤ m) (h2 : m ≤ e) : rotI s m e k = k := by
  unfold rotI
  repeat' split
  all_goals omega

/-- A half as it is. -/
theorem Half.asis {O D : List Int} {g a s mid : Nat} {w : World} (h : ¬ (a < s ∧ s < mid)) (has : a ≤ s) (hsd : s ≤ mid) (h1 : Sr O D a s) (h2 : Sr O D s mid) (hr : Row w g D) : Half O D g a mid w w := by
  refine ⟨D, Srt.of_sr ?_, hr, Step.refl _ _⟩
  by_cases e1 : a = s
  · subst e1; exact h2
  · have e2 : s = mid := by omega
    subst e2; exact h1

theorem halves {O D D2 D3 : List Int} {g a s mid e b : Nat} {w w2 w3 w4 : World} (T : Turned O D g a s mid e b w w2 D2) (hb : b ≤ D.length) (h1 : a ≤ mid) (h2 : mid ≤ b) (x : Srt O D2 a mid D3) (y : Step (fun k => k = g) w2 w3) (z : Half O D3 g mid b w3 w4) : SymP O D g a b w w4 := by
  obtain ⟨D4, p1, p2, p3⟩ := z
  have l := T.perm.length_eq
  have j := Srt.join h1 h2 (by omega) T.cross x p1
  exact ⟨D4, ⟨j.perm.trans T.perm, fun k hk => (j.out k hk).trans (T.out k hk), j.sr⟩, p2, (T.st.trans y (fun i hi => .inl hi)).trans p3 (fun i hi => .inl hi)⟩

end Go.Proofs.Ytkglackbbcfhbaa
