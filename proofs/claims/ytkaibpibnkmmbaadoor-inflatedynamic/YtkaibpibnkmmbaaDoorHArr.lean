/-
  Sixteen counts as a value: read, stored, boxed whole.
-/
import Derived.Test.YtkaibpibnkmmbaaDoorHInt
import Derived.Deep.MidRow
import Derived.Deep.OwnRows
namespace Go.Proofs.YtkaibpibnkmmbaaDoor
open Go.RowKit
set_option maxRecDepth 100000

/-- Sixteen numbers as a value. -/
def A16 (f : Nat → Int) : Array Value := #[.int .i64 (f 0), .int .i64 (f 1), .int .i64 (f 2), .int .i64 (f 3), .int .i64 (f 4), .int .i64 (f 5), .int .i64 (f 6), .int .i64 (f 7), .int .i64 (f 8), .int .i64 (f 9), .int .i64 (f 10), .int .i64 (f 11), .int .i64 (f 12), .int .i64 (f 13), .int .i64 (f 14), .int .i64 (f 15)]

theorem A16_get (f : Nat → Int) (k : Nat) (h : k < 16) : (A16 f)[k]? = some (.int .i64 (f k)) := by
  have : k = 0 ∨ k = 1 ∨ k = 2 ∨ k = 3 ∨ k = 4 ∨ k = 5 ∨ k = 6 ∨ k = 7 ∨ k = 8 ∨ k = 9 ∨ k = 10 ∨ k = 11 ∨ k = 12 ∨ k = 13 ∨ k = 14 ∨ k = 15 := by omega
  rcases this with rfl | rfl | rfl | rfl | rfl | rfl | rfl | rfl | rfl | rfl | rfl | rfl | rfl | rfl | rfl | rfl <;> rfl

theorem run_index16 (f : Nat → Int) (k : Nat) (h : k < 16) (w : World) : (Instr.index 89 (.agg (A16 f)) (.int .i64 (k : Int))).run Tryd.prog w = .ok (.int .i64 (f k)) w := by
  have : k = 0 ∨ k = 1 ∨ k = 2 ∨ k = 3 ∨ k = 4 ∨ k = 5 ∨ k = 6 ∨ k = 7 ∨ k = 8 ∨ k = 9 ∨ k = 10 ∨ k = 11 ∨ k = 12 ∨ k = 13 ∨ k = 14 ∨ k = 15 := by omega
  rcases this with rfl | rfl | rfl | rfl | rfl | rfl | rfl | rfl | rfl | rfl | rfl | rfl | rfl | rfl | rfl | rfl <;> rfl

theorem A16_size (f : Nat → Int) : (A16 f).size = 16 := rfl
theorem A16_one (f : Nat → Int) : (A16 f).all (·.oneCell') = true := by unfold A16; simp [Value.oneCell']
theorem Tryd.info16 : (Tryd.prog.info? 89).map (·.size) = some 16 := by kernel_rfl

theorem A16_congr {f g : Nat → Int} (h : ∀ k, k < 16 → f k = g k) : A16 f = A16 g := by
  unfold A16
  rw [h 0 (by omega), h 1 (by omega), h 2 (by omega), h 3 (by omega), h 4 (by omega), h 5 (by omega), h 6 (by omega), h 7 (by omega), h 8 (by omega), h 9 (by omega), h 10 (by omega), h 11 (by omega), h 12 (by omega), h 13 (by omega), h 14 (by omega), h 15 (by omega)]

theorem Af.range {w : World} {b : Nat} {f : Nat → Int} (h : Af w b 16 f) : w.rangeAt b 0 (A16 f).toList := by
  intro j v hv
  have hj : j < 16 := (List.getElem?_eq_some_iff.1 hv).1
  rw [Nat.zero_add, (h j hj).1, ← hv]
  have := A16_get f j hj
  simpa using this.symm

theorem Af.there {w : World} {b : Nat} {f : Nat → Int} (h : Af w b 16 f) : w.there b 0 16 := fun j hj => by
  rw [Nat.zero_add, (h j hj).1]
  exact ⟨rfl, (h j hj).2⟩

theorem setCells_step (b : Nat) : ∀ (vs : List Value) (o : Nat) (w : World), Step (fun k => k = b) w (w.setCells b o vs)
  | [], _, w => Step.refl _ w
  | v :: r, o, w => by
    rw [World.setCells]
    exact ((Step.refl (fun k => k = b) w).setCell ⟨b, o, none⟩ v (.inl rfl)).trans (setCells_step b r (o + 1) _) (fun i h => .inl h)

theorem setCells_af {w : World} {b : Nat} {f g : Nat → Int} (h : Af w b 16 g) : Af (w.setCells b 0 (A16 f).toList) b 16 f := by
  intro k hk
  refine ⟨?_, by rw [World.frozen?_setCells]; exact (h k hk).2⟩
  have hk2 : k < (A16 f).toList.length := by simpa [A16_size] using hk
  have h1 := World.cell?_setCells_in b (A16 f).toList 0 w (fun j hj => (h.there j (by simpa [A16_size] using hj)).1) k hk2
  rw [Nat.zero_add] at h1
  rw [h1]
  have := A16_get f k hk
  have hk' : k < (A16 f).size := by simpa [A16_size] using hk
  simp [Array.getElem?_eq_getElem hk'] at this
  rw [Array.getElem_toList, this]

theorem load16 {ops : Array Oper} {rest : List Oper} {a : Act} {w : World} {Q : Exit → Act → World → Prop} {dst : Option Tmp} {p : Operand} {ty : TypeId} {pos : String} {aft : Array Edge}
    (b : Nat) (f : Nat → Int) (hp : a.eval p = .pointer (some ⟨b, 0, none⟩)) (hA : Af w b 16 f) (h : wpList Tryd.prog ops Q rest (a.put dst (.agg (A16 f))) w) :
    wpList Tryd.prog ops Q (⟨dst, .load 89 p, ty, pos, aft, none⟩ :: rest) a w :=
  wpList_load_mid rfl 89 p rfl b 0 hp (A16 f).toList _ hA.range Tryd.underlying89 rfl Tryd.info16 h

theorem store16 {ops : Array Oper} {rest : List Oper} {a : Act} {w : World} {Q : Exit → Act → World → Prop} {p x : Operand} {ty : TypeId} {pos : String} {aft : Array Edge}
    (b : Nat) (f g : Nat → Int) (hp : a.eval p = .pointer (some ⟨b, 0, none⟩)) (hx : a.eval x = .agg (A16 f)) (hA : Af w b 16 g)
    (h : ∀ w', Step (fun k => k = b) w w' → Af w' b 16 f → wpList Tryd.prog ops Q rest a w') :
    wpList Tryd.prog ops Q (⟨none, .store 89 p x, ty, pos, aft, none⟩ :: rest) a w := by
  refine wpList_store_mid rfl 89 p x rfl b 0 (A16 f) hp hx hA.there Tryd.info16 (A16_one f) ?_
  exact h _ (setCells_step b _ _ _) (setCells_af hA)

theorem box16 {ops : Array Oper} {rest : List Oper} {a : Act} {w : World} {Q : Exit → Act → World → Prop} {dst : Option Tmp} {x : Operand} {ty : TypeId} {pos : String} {aft : Array Edge}
    (f : Nat → Int) (hx : a.eval x = .agg (A16 f))
    (h : ∀ w', Step (fun _ => False) w w' → w.heap.size < w'.heap.size → Af w' w.heap.size 16 f → wpList Tryd.prog ops Q rest (a.put dst (.pointer (some ⟨w.heap.size, 0, none⟩))) w') :
    wpList Tryd.prog ops Q (⟨dst, .box 89 x, ty, pos, aft, none⟩ :: rest) a w := by
  refine wpList_plain rfl fun K hK => ?_
  unfold Oper.wp
  simp only [execOp, hx, Instr.box, newVar, Value.cells]
  simp
  exact hK _ _ (h _ ((Step.refl _ w).alloc _) (by simp) (Af.new w (A16 f) _ 16 f (fun k hk => A16_get f k hk)))

theorem alloc16 {ops : Array Oper} {rest : List Oper} {a : Act} {w : World} {Q : Exit → Act → World → Prop} {dst : Option Tmp} {ty : TypeId} {pos : String} {aft : Array Edge}
    (h : ∀ w', Step (fun _ => False) w w' → w.heap.size < w'.heap.size → Af w' w.heap.size 16 (fun _ => 0) → wpList Tryd.prog ops Q rest (a.put dst (.pointer (some ⟨w.heap.size, 0, none⟩))) w') :
    wpList Tryd.prog ops Q (⟨dst, .alloc 89, ty, pos, aft, none⟩ :: rest) a w := by
  refine wpList_plain rfl fun K hK => ?_
  unfold Oper.wp
  simp [execOp, go_sem]
  exact hK _ _ (h _ ((Step.refl _ w).alloc _) (by simp) (Af.new w (A16 fun _ => 0) _ 16 (fun _ => 0) (fun k hk => A16_get (fun _ => 0) k hk)))

theorem Af.load {w : World} {b : Nat} {f : Nat → Int} (h : Af w b 16 f) : (loadVar 89 ⟨b, 0, none⟩).run Tryd.prog w = .ok (.agg (A16 f)) w :=
  run_loadVar_mid w b 0 89 (A16 f).toList _ h.range Tryd.underlying89 rfl Tryd.info16

/-- Cells of whatever kind. -/
def Vf (w : World) (b n : Nat) (g : Nat → Value) : Prop := ∀ k, k < n → w.cell? ⟨b, k, none⟩ = some (g k) ∧ w.frozen? ⟨b, k, none⟩ = false

theorem Vf.congr {w : World} {b n : Nat} {f g : Nat → Value} (h : Vf w b n f) (e : ∀ k, k < n → f k = g k) : Vf w b n g := fun k hk => by rw [← e k hk]; exact h k hk
theorem Vf.step {S : Nat → Prop} {w w' : World} {b n : Nat} {g : Nat → Value} (h : Vf w b n g) (hs : Step S w w') (hS : ¬ S b) : Vf w' b n g := fun k hk =>
  ⟨hs.cell (h k hk).1 hS, (hs.frozen (p := ⟨b, k, none⟩) (World.block_lt_of_cell? w _ (h k hk).1) hS).trans (h k hk).2⟩
theorem Vf.made {w w' : World} {b n : Nat} {g : Nat → Value} (h : Vf w b n g) (hs : Step (fun _ => False) w w') : Vf w' b n g := h.step hs (fun h => h)
theorem Vf.far {w : World} {b n : Nat} {g : Nat → Value} (h : Vf w b n g) (p : Addr) (v : Value) (hp : p.block ≠ b) : Vf (w.setCell p v) b n g := fun k hk =>
  ⟨by rw [World.cell?_setCell_other (a := p) (b := ⟨b, k, none⟩) _ _ (by intro e; apply hp; rw [e])]; exact (h k hk).1, by rw [World.frozen?_setCell]; exact (h k hk).2⟩
theorem Vf.set {w : World} {b n : Nat} {g : Nat → Value} (h : Vf w b n g) (j : Nat) (x : Value) : Vf (w.setCell ⟨b, j, none⟩ x) b n (fun k => if k = j then x else g k) := by
  intro k hk
  refine ⟨?_, by rw [World.frozen?_setCell]; exact (h k hk).2⟩
  by_cases e : k = j
  · subst e
    rw [World.cell?_setCell_same' _ _ _ (by rw [(h k hk).1]; rfl)]
    simp
  · rw [World.cell?_setCell_other (a := ⟨b, j, none⟩) (b := ⟨b, k, none⟩) _ _ (by intro e2; apply e; injection e2 with _ e3; omega)]
    rw [(h k hk).1]
    simp [e]
theorem Vf.af {w : World} {b n : Nat} {g : Nat → Value} {f : Nat → Int} (h : Vf w b n g) (e : ∀ k, k < n → g k = .int .i64 (f k)) : Af w b n f := fun k hk => by rw [← e k hk]; exact h k hk
theorem Vf.new (w : World) (C : Array Value) (t : TypeId) (n : Nat) (g : Nat → Value) (hC : ∀ k, k < n → C[k]? = some (g k)) : Vf (w.alloc (.cells C t)) w.heap.size n g := fun k hk =>
  ⟨by rw [World.cell?_alloc_at _ _ _ _ rfl]; exact hC k hk, World.frozen?_alloc_at _ _ _ _ rfl⟩

theorem madeCells_get (z : Value) (n k : Nat) (h : k < n) : (madeCells #[z] n)[k]? = some z := by
  simp [madeCells, h, Nat.mod_one]

theorem makeRow {ops : Array Oper} {rest : List Oper} {a : Act} {w : World} {Q : Exit → Act → World → Prop} {dst : Option Tmp} {l c : Operand} {t ty : TypeId} {pos : String} {aft : Array Edge}
    (e : TypeId) (z : Value) (bytes : Nat) (ht : Tryd.prog.underlying t = some (.slice e)) (hi : (Tryd.prog.info? e).map (fun i => (i.zero, i.size, i.bytes)) = some (some z, 1, bytes)) (hz : z.cells = #[z])
    (n : Nat) (x : Int) (hl : a.eval l = .int .i64 x) (hc : a.eval c = .int .i64 x) (hx : x = (n : Int)) (hb : bytes * n ≤ 281474976710656) (hn : n ≤ 9223372036854775807)
    (h : ∀ w', Step (fun _ => False) w w' → w.heap.size < w'.heap.size → Vf w' w.heap.size n (fun _ => z) → wpList Tryd.prog ops Q rest (a.put dst (.slice (some ⟨w.heap.size, 0, none⟩) n n)) w') :
    wpList Tryd.prog ops Q (⟨dst, .makeSlice t l c, ty, pos, aft, none⟩ :: rest) a w := by
  subst hx
  obtain ⟨i0, h1, h2, h3, h4⟩ := info_parts hi
  refine wpList_make_row w rfl l c t rfl e i0 z ht h1 h2 h3 hz .i64 .i64 n hl hc (by rw [h4]; exact hb) hn ?_
  exact h _ ((Step.refl _ w).alloc _) (by simp) (Vf.new w _ e n (fun _ => z) (fun k hk => madeCells_get z n k hk))

theorem makeInts {ops : Array Oper} {rest : List Oper} {a : Act} {w : World} {Q : Exit → Act → World → Prop} {dst : Option Tmp} {l c : Operand} {ty : TypeId} {pos : String} {aft : Array Edge}
    (n : Nat) (x : Int) (hl : a.eval l = .int .i64 x) (hc : a.eval c = .int .i64 x) (hx : x = (n : Int)) (hn : n ≤ 1000000)
    (h : ∀ w', Step (fun _ => False) w w' → w.heap.size < w'.heap.size → Af w' w.heap.size n (fun _ => 0) → wpList Tryd.prog ops Q rest (a.put dst (.slice (some ⟨w.heap.size, 0, none⟩) n n)) w') :
    wpList Tryd.prog ops Q (⟨dst, .makeSlice 22 l c, ty, pos, aft, none⟩ :: rest) a w :=
  makeRow 3 (.int .i64 0) 8 Tryd.underlying22 Tryd.info3 rfl n x hl hc hx (by omega) (by omega) (fun w' h1 h2 h3 => h w' h1 h2 (h3.af (fun _ _ => rfl)))

end Go.Proofs.YtkaibpibnkmmbaaDoor
