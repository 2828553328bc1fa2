/-
  Two Readers of the same bytes, side by side.
-/
import Derived.Test.YtelengfdbhambaaRoomM
namespace Go.Proofs.Ytelengfdbhambaa
open Go.RowKit

/-- The program's Reader, the page's, and the row that was handed over: each apart from the others, all made since w; the page's reads what came in. -/
structure Pair (w w1 : World) (b1 : Nat) (s1 : Value) (b2 : Nat) (vb : Value) (g cap : Nat) (B : List Nat) (M m t1 t2 : Nat) : Prop where
  R : Rr w1 b1 s1 M m t1
  X : Rx w1 b2 vb M m t2
  Y : Roomy w1 g cap B
  st : Step (fun _ => False) w w1
  h1 : w.heap.size ≤ b1
  h2 : w.heap.size ≤ b2
  h3 : w.heap.size ≤ g
  hv : ∀ a n c, vb = .slice (some a) n c → bytesOf M m ≠ [] → a.block < w.heap.size
  n1 : b1 ≠ b2
  n2 : b1 ≠ g
  n3 : b2 ≠ g
  n4 : s1.ownBlock ≠ some b2
  n5 : s1.ownBlock ≠ some g
  hs : ∀ k, s1.ownBlock = some k → w.heap.size ≤ k

theorem Pair.gsize {w w1 : World} {b1 : Nat} {s1 : Value} {b2 : Nat} {vb : Value} {g cap : Nat} {B : List Nat} {M m t1 t2 : Nat} (P : Pair w w1 b1 s1 b2 vb g cap B M m t1 t2) :
    b1 < w1.heap.size ∧ b2 < w1.heap.size ∧ g < w1.heap.size :=
  ⟨World.block_lt_of_cell? w1 _ P.R.ins, World.block_lt_of_cell? w1 _ P.X.ins, (P.Y.own.lt g rfl).2⟩

theorem Pair.onR {w w1 w2 : World} {b1 : Nat} {s1 : Value} {b2 : Nat} {vb : Value} {g cap : Nat} {B : List Nat} {M m t1 t2 t' : Nat} (P : Pair w w1 b1 s1 b2 vb g cap B M m t1 t2) (h : Took w1 w2 b1 s1 M m t') :
    Pair w w2 b1 s1 b2 vb g cap B M m t' t2 := by
  have hh := P.h1
  exact ⟨h.1, P.X.step h.2 (fun e => P.n1 e.symm) (fun a n c hv hne e => by have := P.hv a n c hv hne; omega), P.Y.step h.2 (fun e => P.n2 e.symm), P.st.trans h.2 (fun i hi => .inr (by omega)),
    P.h1, P.h2, P.h3, P.hv, P.n1, P.n2, P.n3, P.n4, P.n5, P.hs⟩

theorem Pair.onX {w w1 w2 : World} {b1 : Nat} {s1 : Value} {b2 : Nat} {vb : Value} {g cap : Nat} {B : List Nat} {M m t1 t2 t' : Nat} (P : Pair w w1 b1 s1 b2 vb g cap B M m t1 t2) (h : TookX w1 w2 b2 vb M m t') :
    Pair w w2 b1 s1 b2 vb g cap B M m t1 t' := by
  have hh := P.h2
  exact ⟨P.R.step h.2 (fun e => P.n1 e) (fun k hk e => P.n4 (by rw [hk, e])), h.1, P.Y.step h.2 (fun e => P.n3 e.symm), P.st.trans h.2 (fun i hi => .inr (by omega)),
    P.h1, P.h2, P.h3, P.hv, P.n1, P.n2, P.n3, P.n4, P.n5, P.hs⟩

theorem Pair.off {S : Nat → Prop} {w w1 w2 : World} {b1 : Nat} {s1 : Value} {b2 : Nat} {vb : Value} {g cap : Nat} {B : List Nat} {M m t1 t2 : Nat} (P : Pair w w1 b1 s1 b2 vb g cap B M m t1 t2) (h : Step S w1 w2) (z : Nat)
    (hz : b1 < z ∧ b2 < z ∧ g < z ∧ w.heap.size ≤ z ∧ ∀ k, s1.ownBlock = some k → k < z) (hS : ∀ k, S k → z ≤ k) : Pair w w2 b1 s1 b2 vb g cap B M m t1 t2 := by
  obtain ⟨z1, z2, z3, z4, z5⟩ := hz
  exact ⟨P.R.step h (fun e => by have := hS _ e; omega) (fun k hk e => by have := hS _ e; have := z5 k hk; omega),
    P.X.step h (fun e => by have := hS _ e; omega) (fun a n c hv hne e => by have := P.hv a n c hv hne; have := hS _ e; omega), P.Y.step h (fun e => by have := hS _ e; omega),
    P.st.trans h (fun i hi => .inr (by have := hS _ hi; omega)), P.h1, P.h2, P.h3, P.hv, P.n1, P.n2, P.n3, P.n4, P.n5, P.hs⟩

theorem Pair.top {w w1 : World} {b1 : Nat} {s1 : Value} {b2 : Nat} {vb : Value} {g cap : Nat} {B : List Nat} {M m t1 t2 : Nat} (P : Pair w w1 b1 s1 b2 vb g cap B M m t1 t2) :
    b1 < w1.heap.size ∧ b2 < w1.heap.size ∧ g < w1.heap.size ∧ w.heap.size ≤ w1.heap.size ∧ ∀ k, s1.ownBlock = some k → k < w1.heap.size :=
  ⟨P.gsize.1, P.gsize.2.1, P.gsize.2.2, P.st.size, fun k hk => (P.R.own.lt k hk).2⟩

theorem Pair.made {w w1 w2 : World} {b1 : Nat} {s1 : Value} {b2 : Nat} {vb : Value} {g cap : Nat} {B : List Nat} {M m t1 t2 : Nat} (P : Pair w w1 b1 s1 b2 vb g cap B M m t1 t2) (h : Step (fun _ => False) w1 w2) : Pair w w2 b1 s1 b2 vb g cap B M m t1 t2 :=
  P.off h w1.heap.size P.top (fun _ h => h.elim)

theorem Rd.lt' {w : World} {v : Value} {B : List Nat} (h : Rd w v B) : ∀ a n c, v = .slice (some a) n c → B ≠ [] → a.block < w.heap.size := by
  obtain ⟨ao, cap, rfl, h1, h2⟩ := h
  intro a n c hv hne
  injection hv with e1
  obtain ⟨b, off, rfl, hc⟩ := h2 a e1 hne
  exact World.block_lt_of_cell? w _ (hc 0 (List.length_pos_iff.2 hne))

/-- So many steps of a script, that came in. -/
def Acts (w : World) (ao : Option Addr) (len : Nat) : Prop :=
  0 < len → ∃ b off, ao = some ⟨b, off, none⟩ ∧ ∀ i, i < len → ∃ (k x n : Int) (aB aC : Option Addr) (lB cB lC cC : Nat),
    w.cell? ⟨b, off + i * 5, none⟩ = some (.int .i64 k) ∧ w.cell? ⟨b, off + i * 5 + 1, none⟩ = some (.int .i64 x) ∧ w.cell? ⟨b, off + i * 5 + 2, none⟩ = some (.int .i64 n) ∧
    w.cell? ⟨b, off + i * 5 + 3, none⟩ = some (.slice aB lB cB) ∧ w.cell? ⟨b, off + i * 5 + 4, none⟩ = some (.slice aC lC cC)

theorem Acts.step {w w' : World} {ao : Option Addr} {len : Nat} (h : Acts w ao len) (St : Step (fun _ => False) w w') : Acts w' ao len := by
  intro hl
  obtain ⟨b, off, e, hc⟩ := h hl
  refine ⟨b, off, e, fun i hi => ?_⟩
  obtain ⟨k, x, n, aB, aC, lB, cB, lC, cC, h1, h2, h3, h4, h5⟩ := hc i hi
  exact ⟨k, x, n, aB, aC, lB, cB, lC, cC, St.cell h1 (fun h => h), St.cell h2 (fun h => h), St.cell h3 (fun h => h), St.cell h4 (fun h => h), St.cell h5 (fun h => h)⟩

end Go.Proofs.Ytelengfdbhambaa
