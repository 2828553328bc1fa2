/-
  A list of steps that came in, opened.
-/
import Derived.Test.YtelengfdbhambaaArgs
import Derived.Test.YtelengfdbhambaaRows
import Derived.WalkKit
import Derived.ProofKit
import Derived.Deep.Slices
import Derived.ChangeArms
namespace Go.Proofs.Ytelengfdbhambaa
open Go.RowKit Go.ChangeShapes Go.WideShapes Go.Deep

/-- One step: its kind, its two numbers, its two rows. -/
structure Act1 (w : World) (b o : Nat) (k x n : Int) (vB vC : Value) (B C : List Nat) : Prop where
  c0 : w.cell? ⟨b, o, none⟩ = some (.int .i64 k)
  c1 : w.cell? ⟨b, o + 1, none⟩ = some (.int .i64 x)
  c2 : w.cell? ⟨b, o + 2, none⟩ = some (.int .i64 n)
  c3 : w.cell? ⟨b, o + 3, none⟩ = some vB
  c4 : w.cell? ⟨b, o + 4, none⟩ = some vC
  wk : (Lit.int .i64 k).wf = true
  wx : (Lit.int .i64 x).wf = true
  wn : (Lit.int .i64 n).wf = true
  rB : Rd w vB B
  rC : Rd w vC C
  bB : ∀ y ∈ B, y < 256
  bC : ∀ y ∈ C, y < 256
  lB : B.length ≤ 9223372036854775807
  lC : C.length ≤ 9223372036854775807

def ActsS (w : World) (ao : Option Addr) (len : Nat) : Prop :=
  0 < len → ∃ b off, ao = some ⟨b, off, none⟩ ∧ ∀ i, i < len → ∃ (k x n : Int) (vB vC : Value) (B C : List Nat), Act1 w b (off + i * 5) k x n vB vC B C

theorem row_of {H : Type} {enc : TypeId × Value → H} {W : World} {fuel : Nat} {v : Value} {y : DataW H × List MemPlace} (h : DataW.trod enc Try.prog W 0 (fun _ => true) true fuel 27 [v] = some y) :
    ∃ B : List Nat, Rd W v B ∧ (∀ z ∈ B, z < 256) ∧ B.length ≤ 9223372036854775807 := by
  rcases open_ints Try.underlying27 Try.underlying5 (by kernel_rfl) h with ⟨hcs, _⟩ | ⟨x, l, c, zs, hcs, _, hl, hm, hz, _, hcell, hwz⟩
  · simp at hcs
    subst hcs
    exact ⟨[], rd_none W, by simp, by simp⟩
  · simp at hcs
    subst hcs
    obtain ⟨B, h1, h2, h3, _⟩ := rd_of_ints hl (by simpa using hz) hcell hwz
    refine ⟨B, by rw [← h1]; exact h2, h3, ?_⟩
    unfold maxLen at hm
    omega

theorem int_of {H : Type} {enc : TypeId × Value → H} {W : World} {fuel : Nat} {v : Value} {y : DataW H × List MemPlace} (h : DataW.trod enc Try.prog W 0 (fun _ => true) true fuel 3 [v] = some y) :
    ∃ n : Int, v = .int .i64 n ∧ (Lit.int .i64 n).wf = true := by
  obtain ⟨n, e, _, wn⟩ := DataW.trod_int Try.underlying3 h
  simp at e
  exact ⟨n, e, wn⟩

theorem acts_of {H : Type} {enc : TypeId × Value → H} {W : World} {fuel : Nat} {ao : Option Addr} {len cap : Nat} {y : DataW H × List MemPlace}
    (h : DataW.trod enc Try.prog W 0 (fun _ => true) true fuel 22 [.slice ao len cap] = some y) : ActsS W ao len ∧ len ≤ 9223372036854775807 := by
  have ce : Try.prog.cellsOf 31 = 5 := by kernel_rfl
  have cT : Try.prog.cellsOf 3 = 1 := by kernel_rfl
  have cS : Try.prog.cellsOf 27 = 1 := by kernel_rfl
  rcases open_slice Try.underlying22 h with ⟨hcs, _⟩ | ⟨a, l, c, m, n, D, Pl, hcs, _, hl, hm, hmm, _, hel⟩
  · simp at hcs
    obtain ⟨rfl, rfl, rfl⟩ := hcs
    exact ⟨fun h => absurd h (by omega), by omega⟩
  · simp at hcs
    obtain ⟨rfl, rfl, rfl⟩ := hcs
    simp only [if_true] at hmm
    subst hmm
    refine ⟨fun hlen => ?_, by unfold maxLen at hm; omega⟩
    have each : ∀ i, i < len → ∃ (k x n : Int) (vB vC : Value) (B C : List Nat), W.cell? (a.add (i * 5)) = some (.int .i64 k) ∧ W.cell? (a.add (i * 5 + 1)) = some (.int .i64 x) ∧ W.cell? (a.add (i * 5 + 2)) = some (.int .i64 n) ∧
        W.cell? (a.add (i * 5 + 3)) = some vB ∧ W.cell? (a.add (i * 5 + 4)) = some vC ∧ (Lit.int .i64 k).wf = true ∧ (Lit.int .i64 x).wf = true ∧ (Lit.int .i64 n).wf = true ∧
        Rd W vB B ∧ Rd W vC C ∧ (∀ y ∈ B, y < 256) ∧ (∀ y ∈ C, y < 256) ∧ B.length ≤ 9223372036854775807 ∧ C.length ≤ 9223372036854775807 := by
      intro i hi
      obtain ⟨cs', h1, h2⟩ := hel i (by omega)
      rw [ce] at h1
      obtain ⟨_, hlen', hcell⟩ := World.cells?_some h1
      obtain ⟨xs, q, hq, _, _, hxl, hf⟩ := DataW.trod_struct Try.underlying31 h2
      match xs, hxl, cs', hlen' with
      | [y0, y1, y2, y3, y4], _, [v0, v1, v2, v3, v4], _ =>
        have g0 := hf 0 _ rfl
        have g1 := hf 1 _ rfl
        have g2 := hf 2 _ rfl
        have g3 := hf 3 _ rfl
        have g4 := hf 4 _ rfl
        simp [cT, cS] at g0 g1 g2 g3 g4
        have e0 := hcell 0 (by omega)
        have e1 := hcell 1 (by omega)
        have e2 := hcell 2 (by omega)
        have e3 := hcell 3 (by omega)
        have e4 := hcell 4 (by omega)
        rw [add_add] at e0 e1 e2 e3 e4
        obtain ⟨k, rfl, wk⟩ := int_of g0
        obtain ⟨x, rfl, wx⟩ := int_of g1
        obtain ⟨n', rfl, wn⟩ := int_of g2
        obtain ⟨B, rB, bB, lB⟩ := row_of g3
        obtain ⟨C, rC, bC, lC⟩ := row_of g4
        exact ⟨k, x, n', v3, v4, B, C, by simpa using e0, by simpa using e1, by simpa using e2, by simpa using e3, by simpa using e4, wk, wx, wn, rB, rC, bB, bC, lB, lC⟩
    obtain ⟨b, off, spot⟩ := a
    have hspot : spot = none := by
      obtain ⟨k, x, n, vB, vC, B, C, c0, _⟩ := each 0 hlen
      simpa [Addr.add] using World.cell?_spot c0
    subst hspot
    refine ⟨b, off, rfl, fun i hi => ?_⟩
    obtain ⟨k, x, n, vB, vC, B, C, c0, c1, c2, c3, c4, wk, wx, wn, rB, rC, bB, bC, lB, lC⟩ := each i hi
    rw [Addr.add_lit] at c0 c1 c2 c3 c4
    exact ⟨k, x, n, vB, vC, B, C, c0, by rw [Nat.add_assoc]; exact c1, by rw [Nat.add_assoc]; exact c2, by rw [Nat.add_assoc]; exact c3, by rw [Nat.add_assoc]; exact c4, wk, wx, wn, rB, rC, bB, bC, lB, lC⟩

end Go.Proofs.Ytelengfdbhambaa
