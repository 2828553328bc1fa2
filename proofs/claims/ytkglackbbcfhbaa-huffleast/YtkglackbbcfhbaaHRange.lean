/-
  A range over a function, told by its rounds: each round has a number, and what it is handed.
-/
import Derived.Test.YtkglackbbcfhbaaHMerge
import Derived.RangeFuncNested
import Derived.RangeFuncBound
import Derived.RangeFuncCalls
import Derived.RangeFuncLeaves
import Derived.Shelf.Abstract
import Derived.Shelf.RegionOpen
import Derived.WalkKit
import Derived.OwnWalkIn
import Derived.TacticsInMore
import Derived.LoopNIn
import Derived.LoopIn
namespace Go.Proofs.Ytkglackbbcfhbaa
open Go.RowKit Go.Shelf

/-- What is known between two rounds: book-keeping does away with none of it. -/
structure Abides (B : Nat) (J : Nat → World → Prop) : Prop where
  put : ∀ k W l o o', J k W → B ≤ l → W.heap[l]? = some o → o.isCells = false → J k (W.putObj l o')
  more : ∀ k W o, J k W → J k (W.alloc o)

theorem range_rounds {F : Fence} {n : Nat} {P : Program} {g : Operand} {ps : Array Tmp} {assign body : Code} {Q : Exit → Act → World → Prop} {a : Act} {w : World}
    (hro : F.round = none) (h1 : 1 ≤ n) {gf : Nat} {lb : Array Value} (hg : a.eval g = .func (.func gf) #[] lb) (hF : F.fn gf) (eg : Enters P gf)
    (J : Nat → World → Prop) (m : Nat) (arg : Nat → Array Value) (hps : ∀ k, (arg k).size = ps.size) (hJ : Abides w.heap.size J) (h0 : J 0 w)
    (hiter : ∀ (l : Nat) (K : Nat → World → Prop), (∀ k W, K k W → J k W) → (∀ k W, K k W → k < m → YieldAt F (n - 1 - 1) P l (arg k) W fun e W' => e = .returned (.bool true) ∧ K (k + 1) W') →
      ∀ W, K 0 W → CallsIn F (n - 1) P gf (#[.func (.yield l) #[] #[]] ++ lb) W fun e W' => (∃ v, e = .returned v) ∧ K m W')
    (hround : ∀ (l k : Nat) (W : World), k < m → J k W → ∃ a₁ : Act,
      (∀ (W : World) (K : Act → World → Prop), K a₁ W → assign.wpIn (F.inRound l) (n - 1 - 1) P (Exit.then K (fun _ _ _ => False)) { tmps := (ps.zip (arg k)).foldl (fun t (p, v) => t.setIfInBounds p v) a.tmps, defers := [] } W) ∧
      ∀ W, J k W → body.wpIn (F.inRound l) (n - 1 - 1) P (fun e _ W' => e = .normal ∧ KeepsOthers W W' ∧ J (k + 1) W') a₁ W)
    (hdone : ∀ (D : Nat) (W : World), w.heap.size ≤ D → J m W → W.heap[D]? = some (.deferred (some [])) → Q .normal { a with defers := { target := .collected D, args := #[] } :: a.defers } W) :
    (Code.rangeFunc g ps assign body).wpIn F n P Q a w := by
  refine wpIn_rangeFunc fun fn hfn => ?_
  let rec0 : LoopState → Loop := fun st => { state := st, pending := none, fn, tmps := a.tmps, params := ps, assign, body, defers := w.heap.size }
  let W1 : World := (w.alloc (.deferred (some []))).alloc (.loop (rec0 .ready))
  let l := w.heap.size + 1
  have b1 : W1.heap[l]? = some (.loop (rec0 .ready)) := by
    have := World.alloc_heap_new (w.alloc (.deferred (some []))) (.loop (rec0 .ready))
    rwa [World.size_alloc] at this
  have b2 : W1.heap[w.heap.size]? = some (.deferred (some [])) := (Below.heap_alloc _ _ _ (by simp)).trans (World.alloc_heap_new w _)
  let K : Nat → World → Prop := fun k W => J k W ∧ W.heap[l]? = some (.loop (rec0 .ready)) ∧ W.heap[w.heap.size]? = some (.deferred (some []))
  have k0 : K 0 W1 := ⟨hJ.more _ _ _ (hJ.more _ _ _ h0), b1, b2⟩
  refine ⟨l, [{ target := .collected w.heap.size, args := #[] }], W1, { target := .fn (.func gf) lb, args := #[.func (.yield l) #[] #[]] }, W1, gf, #[.func (.yield l) #[] #[]] ++ lb, W1, ?_, ?_, ?_, ?_, fun _ => h1, ?_⟩
  · rw [hro]; exact run_enterLoop_outer _ _ _ _ _
  · simp only [resolve, hg]
    simp [go_sem]
  · intro f' hf'
    simp [Target.leads] at hf'
    subst hf'
    exact hF
  · simp [invoke, go_sem]
    exact eg _ _
  · refine (hiter l K (fun _ _ h => h.1) (fun k W hK hk => ?_) W1 k0).mono ?_
    · obtain ⟨hj, hl, hd⟩ := hK
      obtain ⟨a₁, ha, hb⟩ := hround l k W hk hj
      have hlt : l < W.heap.size := (Array.getElem?_eq_some_iff.1 hl).1
      have hbl : w.heap.size ≤ l := Nat.le_succ _
      have hne : l ≠ w.heap.size := by show w.heap.size + 1 ≠ w.heap.size; omega
      refine ⟨fn, _, assign, body, run_yield (P := P) (args := arg k) hl (hps k), roundIn_of_wpIn hfn (ha W _ ⟨_, run_beginRound hl rfl, ?_⟩)⟩
      have hl2 : (W.putObj l (.loop (rec0 .busy))).heap[l]? = some (.loop (rec0 .busy)) := World.putObj_heap_same hlt
      have hd2 : (W.putObj l (.loop (rec0 .busy))).heap[w.heap.size]? = some (.deferred (some [])) := (World.putObj_heap_other hne.symm).trans hd
      refine wpIn_mono (hb _ (hJ.put k W l _ _ hj hbl hl rfl)) ?_
      rintro e a3 W3 ⟨rfl, hk3, hj3⟩
      have hl3 := hk3.same _ _ hl2 rfl
      have hd3 := hk3.same _ _ hd2 rfl
      exact ⟨_, _, run_endRound (P := P) none hl3, rfl, hJ.put (k + 1) W3 l _ _ hj3 hbl hl3 rfl, World.putObj_heap_same (Array.getElem?_eq_some_iff.1 hl3).1, (World.putObj_heap_other hne.symm).trans hd3⟩
    · rintro e W2 ⟨⟨v, rfl⟩, hj, hl, hd⟩
      have hne : l ≠ w.heap.size := by show w.heap.size + 1 ≠ w.heap.size; omega
      exact ⟨none, _, run_endLoop (P := P) hl (fun h => by cases h), hdone w.heap.size _ (Nat.le_refl _) (hJ.put m W2 l _ _ hj (Nat.le_succ _) hl rfl) ((World.putObj_heap_other hne.symm).trans hd)⟩

end Go.Proofs.Ytkglackbbcfhbaa
