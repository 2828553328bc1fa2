/-
  Rows of numbers in memory: read, written.
-/
import Derived.Test.YtkaibpibnkmmbaaDoorRow
import Derived.Outline
import Derived.StillTailTactics
import Derived.BigQuiet
import Derived.Deep.QuietTactic
import Derived.Deep.WholeRow
import Derived.OpenShut
namespace Go.Proofs.YtkaibpibnkmmbaaDoor
open Go.RowKit
set_option maxRecDepth 100000

theorem Tryd.info3 : (Tryd.prog.info? 3).map (fun i => (i.zero, i.size, i.bytes)) = some (some (.int .i64 0), 1, 8) := by kernel_rfl

/-- Numbers as cells. -/
def i64s (L : List Int) : List Value := L.map fun x => Value.int .i64 x
theorem i64s_get? (L : List Int) (i : Nat) : (i64s L)[i]? = L[i]?.map fun x => Value.int .i64 x := by simp [i64s]
theorem i64s_length (L : List Int) : (i64s L).length = L.length := by simp [i64s]
theorem i64s_append (a b : List Int) : i64s (a ++ b) = i64s a ++ i64s b := by simp [i64s]
theorem i64s_one (L : List Int) : ∀ u ∈ i64s L, u.oneCell' = true := by
  intro u hu
  obtain ⟨_, _, rfl⟩ := List.mem_map.1 hu
  rfl

theorem getD_i (L : List Int) (k : Nat) (h : k < L.length) : L.getD k 0 = L[k] := by simp [List.getD, h]

/-- The slice v reads as the numbers L. -/
def Ri (w : World) (v : Value) (L : List Int) : Prop :=
  ∃ ao cap, v = .slice ao L.length cap ∧ L.length ≤ cap ∧ (ao = none → L = [] ∧ cap = 0) ∧
    ∀ a, ao = some a → L ≠ [] → ∃ b off, a = ⟨b, off, none⟩ ∧ ∀ k, k < L.length → w.cell? ⟨b, off + k, none⟩ = some (.int .i64 (L.getD k 0))

theorem Ri.step {S : Nat → Prop} {w w' : World} {v : Value} {L : List Int} (h : Ri w v L) (hs : Step S w w') (hS : ∀ a n c, v = .slice (some a) n c → L ≠ [] → ¬ S a.block) : Ri w' v L := by
  obtain ⟨ao, cap, rfl, hc, h1, h2⟩ := h
  refine ⟨ao, cap, rfl, hc, h1, fun a ha hne => ?_⟩
  obtain ⟨b, off, rfl, hc⟩ := h2 a ha hne
  subst ha
  exact ⟨b, off, rfl, fun k hk => hs.cell (hc k hk) (hS ⟨b, off, none⟩ _ _ rfl hne)⟩
theorem Ri.made {w w' : World} {v : Value} {L : List Int} (h : Ri w v L) (hs : Step (fun _ => False) w w') : Ri w' v L := h.step hs (fun _ _ _ _ _ h => h)
theorem Ri.drewN {w : World} {v : Value} {L : List Int} (h : Ri w v L) (n : Nat) : Ri (w.drewN n) v L := h
theorem ri_none (w : World) : Ri w (.slice none ([] : List Int).length 0) [] := ⟨none, 0, rfl, by simp, fun _ => ⟨rfl, rfl⟩, fun a h _ => (by cases h)⟩
theorem ri_nil (w : World) : Ri w (.slice none 0 0) [] := ri_none w

theorem Ri.news {w : World} {a : Addr} {n cap : Nat} {B : List Int} (h : Ri w (.slice (some a) n cap) B) : ∀ j u, (i64s B)[j]? = some u → w.cell? (a.add j) = some u := by
  obtain ⟨ao, c, e, _, h1, h2⟩ := h
  injection e with e1
  intro j u hu
  have hne : B ≠ [] := by intro e; subst e; simp [i64s] at hu
  obtain ⟨b, off, rfl, hc⟩ := h2 a e1.symm hne
  have hj : j < B.length := by
    have := (List.getElem?_eq_some_iff.1 hu).1
    rwa [i64s_length] at this
  rw [Addr.add_lit, hc j hj, ← hu, i64s_get?]
  simp [List.getD, hj]

theorem Ri.of_own {w : World} {v : Value} {n : Nat} {L : List Int} (h : w.ownsRow 0 3 1 v n (i64s L)) : Ri w v L := by
  have hl := h.1
  rw [i64s_length, Nat.mul_one] at hl
  rcases h.2 with ⟨rfl, rfl⟩ | ⟨g, cap, cur, rfl, _, hg, hnc, _⟩
  · refine ⟨none, 0, by rw [hl], by omega, fun _ => ⟨List.eq_nil_of_length_eq_zero hl, rfl⟩, fun a h _ => by cases h⟩
  · refine ⟨some ⟨g, 0, none⟩, cap, by rw [hl], by omega, (fun h => by cases h), fun a ha _ => ⟨g, 0, (Option.some.inj ha).symm, fun k hk => ?_⟩⟩
    rw [Nat.zero_add, h.cellAt k (by omega), i64s_get?]
    simp [List.getD, hk]

/-- Cells of a block that may be written. -/
def Af (w : World) (b n : Nat) (f : Nat → Int) : Prop := ∀ k, k < n → w.cell? ⟨b, k, none⟩ = some (.int .i64 (f k)) ∧ w.frozen? ⟨b, k, none⟩ = false

def upd (f : Nat → Int) (j : Nat) (x : Int) : Nat → Int := fun k => if k = j then x else f k

theorem Af.drewN {w : World} {b n : Nat} {f : Nat → Int} (h : Af w b n f) (q : Nat) : Af (w.drewN q) b n f := h
theorem Af.congr {w : World} {b n : Nat} {f g : Nat → Int} (h : Af w b n f) (e : ∀ k, k < n → f k = g k) : Af w b n g := fun k hk => by rw [← e k hk]; exact h k hk
theorem Af.lt {w : World} {b n : Nat} {f : Nat → Int} (h : Af w b n f) (h0 : 0 < n) : b < w.heap.size := World.block_lt_of_cell? w _ (h 0 h0).1
theorem Af.step {S : Nat → Prop} {w w' : World} {b n : Nat} {f : Nat → Int} (h : Af w b n f) (hs : Step S w w') (hS : ¬ S b) : Af w' b n f := fun k hk =>
  ⟨hs.cell (h k hk).1 hS, (hs.frozen (p := ⟨b, k, none⟩) (World.block_lt_of_cell? w _ (h k hk).1) hS).trans (h k hk).2⟩
theorem Af.made {w w' : World} {b n : Nat} {f : Nat → Int} (h : Af w b n f) (hs : Step (fun _ => False) w w') : Af w' b n f := h.step hs (fun h => h)
theorem Af.far {w : World} {b n : Nat} {f : Nat → Int} (h : Af w b n f) (p : Addr) (v : Value) (hp : p.block ≠ b) : Af (w.setCell p v) b n f := fun k hk =>
  ⟨by rw [World.cell?_setCell_other (a := p) (b := ⟨b, k, none⟩) _ _ (by intro e; apply hp; rw [e])]; exact (h k hk).1, by rw [World.frozen?_setCell]; exact (h k hk).2⟩
theorem Af.set {w : World} {b n : Nat} {f : Nat → Int} (h : Af w b n f) (j : Nat) (x : Int) : Af (w.setCell ⟨b, j, none⟩ (.int .i64 x)) b n (upd f j x) := by
  intro k hk
  refine ⟨?_, by rw [World.frozen?_setCell]; exact (h k hk).2⟩
  unfold upd
  by_cases e : k = j
  · subst e
    rw [World.cell?_setCell_same' _ _ _ (by rw [(h k hk).1]; rfl)]
    simp
  · rw [World.cell?_setCell_other (a := ⟨b, j, none⟩) (b := ⟨b, k, none⟩) _ _ (by intro e2; apply e; injection e2 with _ e3; omega)]
    rw [(h k hk).1]
    simp [e]
theorem Af.new (w : World) (C : Array Value) (t : TypeId) (n : Nat) (f : Nat → Int) (hC : ∀ k, k < n → C[k]? = some (.int .i64 (f k))) : Af (w.alloc (.cells C t)) w.heap.size n f := fun k hk =>
  ⟨by rw [World.cell?_alloc_at _ _ _ _ rfl]; exact hC k hk, World.frozen?_alloc_at _ _ _ _ rfl⟩
theorem Af.ri {w : World} {b n : Nat} {f : Nat → Int} {L : List Int} {cap : Nat} (h : Af w b n f) (hn : L.length = n) (hc : n ≤ cap) (hL : ∀ k, k < n → L.getD k 0 = f k) : Ri w (.slice (some ⟨b, 0, none⟩) n cap) L :=
  ⟨some ⟨b, 0, none⟩, cap, by rw [hn], by omega, (fun h => by cases h), fun a ha _ => ⟨b, 0, (Option.some.inj ha).symm, fun k hk => by rw [Nat.zero_add, hL k (by omega)]; exact (h k (by omega)).1⟩⟩

end Go.Proofs.YtkaibpibnkmmbaaDoor
