/-
  A row of numbers, nil or not, goes behind a row of one's own.
-/
import Derived.Test.YtkaibpibnkmmbaaDoorHInt
import Derived.Laws.AppendOwnNone
import Derived.RegionTactic
namespace Go.Proofs.YtkaibpibnkmmbaaDoor
open Go.RowKit

theorem run_append_ri {w : World} (ty : TypeId) (v x : Value) (n : Nat) (C L : List Int) (hown : w.ownsRow 0 3 1 v n (i64s C)) (hr : Ri w x L) (h63 : n + L.length ≤ 1000000) :
    ∃ v' w', (Builtin.append_ #[22, 22] ty #[v, x]).run Tryd.prog w = .ok v' w' ∧ w'.ownsRow 0 3 1 v' (n + L.length) (i64s (C ++ L)) ∧ w.grownBy w' v.ownBlock ∧ (v'.ownBlock = v.ownBlock ∨ v'.ownBlock = some w.heap.size) := by
  obtain ⟨i0, hi, hz0, hz1, hz2⟩ := info_parts Tryd.info3
  have hr' := hr
  obtain ⟨ao, cap, rfl, hc, h1, h2⟩ := hr
  cases ao with
  | none =>
    obtain ⟨rfl, rfl⟩ := h1 rfl
    exact ⟨v, w, run_append_owned_none (P := Tryd.prog) (w := w) 0 22 ty 3 i0 1 Tryd.underlying22 hi v n (i64s C) hown, by simpa using hown, World.grownBy.refl _ _, .inl rfl⟩
  | some ad =>
    obtain ⟨v', w', hr, h2, h3, _, h5⟩ := append_own (P := Tryd.prog) w 22 ty 3 i0 (.int .i64 0) 1 8 Tryd.underlying22 hi hz0 hz1 hz2 rfl (by decide) v n (i64s C) hown ad L.length cap (i64s L) (by rw [i64s_length]; omega) hr'.news (i64s_one _) (by unfold maxLen; omega) (by omega)
    exact ⟨v', w', hr, by rw [i64s_append]; exact h2, h3, h5⟩

theorem wpList_append_ri {w : World} {ops : Array Oper} {rest : List Oper} {o : Oper} {a : Act} {Q : Exit → Act → World → Prop} (hgd : o.guard = none) (s x : Operand)
    (ho : o.op = .call { callee := .builtin .append, args := #[s, x], argTypes := #[22, 22] })
    (v : Value) (n : Nat) (C : List Int) (hs : a.eval s = v) (hown : w.ownsRow 0 3 1 v n (i64s C)) (xv : Value) (L : List Int) (hx : a.eval x = xv) (hr : Ri w xv L) (h63 : n + L.length ≤ 1000000)
    (h : ∀ v' w', w'.ownsRow 0 3 1 v' (n + L.length) (i64s (C ++ L)) → w.grownBy w' v.ownBlock → (v'.ownBlock = v.ownBlock ∨ v'.ownBlock = some w.heap.size) → wpList Tryd.prog ops Q rest (a.put o.dst v') w') : wpList Tryd.prog ops Q (o :: rest) a w := by
  refine wpList_plain hgd fun K hK' => ?_
  obtain ⟨v', w', hr, h2, h3, h5⟩ := run_append_ri (w := w) o.type v xv n C L hown hr h63
  unfold Oper.wp
  simp [execOp, ho, resolve, invoke, builtin, hs, hx, hr, Result.andThen]
  exact hK' _ _ (h v' w' h2 h3 h5)

theorem step_append_ri {w : World} {ops : Array Oper} {o : Oper} {a : Act} {K : Act → World → Prop} {Q : Exit → Act → World → Prop} {E : Prop} (hgd : o.guard = none) (s x : Operand)
    (ho : o.op = .call { callee := .builtin .append, args := #[s, x], argTypes := #[22, 22] })
    (v : Value) (n : Nat) (C : List Int) (hs : a.eval s = v) (hown : w.ownsRow 0 3 1 v n (i64s C)) (xv : Value) (L : List Int) (hx : a.eval x = xv) (hr : Ri w xv L) (h63 : n + L.length ≤ 1000000)
    (h : ∀ v' w', w'.ownsRow 0 3 1 v' (n + L.length) (i64s (C ++ L)) → w.grownBy w' v.ownBlock → (v'.ownBlock = v.ownBlock ∨ v'.ownBlock = some w.heap.size) → K (a.put o.dst v') w') :
    if Region.wanted o (yielded ops a.tmps) = true then Oper.wp Tryd.prog o a w K Q else E := by
  have hw : Region.wanted o (yielded ops a.tmps) = true := by simp [Region.wanted, hgd]
  rw [if_pos hw]
  obtain ⟨v', w', hr, h2, h3, h5⟩ := run_append_ri (w := w) o.type v xv n C L hown hr h63
  unfold Oper.wp
  simp [execOp, ho, resolve, invoke, builtin, hs, hx, hr, Result.andThen]
  exact h v' w' h2 h3 h5

theorem Ri.takeS {w : World} {ao : Option Addr} {n cap : Nat} {L : List Int} (h : Ri w (.slice ao n cap) L) (k : Nat) (hk : k ≤ n) : Ri w (.slice ao k cap) (L.take k) := by
  obtain ⟨ao', cap', e, hc, h1, h2⟩ := h
  injection e with e1 e2 e3
  subst e1; subst e2; subst e3
  have hl : (L.take k).length = k := by simp; omega
  refine ⟨ao, cap, by rw [hl], by omega, fun h => ?_, fun a ha hne => ?_⟩
  · obtain ⟨rfl, rfl⟩ := h1 h
    exact ⟨by simp, rfl⟩
  · have hne' : L ≠ [] := by intro e; subst e; simp at hne
    obtain ⟨b, off, e, hc⟩ := h2 a ha hne'
    refine ⟨b, off, e, fun j hj => ?_⟩
    rw [hl] at hj
    rw [hc j (by omega)]
    simp [List.getD, hj]
theorem Ri.dropS {w : World} {b off n cap : Nat} {L : List Int} (h : Ri w (.slice (some ⟨b, off, none⟩) n cap) L) (k : Nat) (hk : k ≤ n) : Ri w (.slice (some ⟨b, off + k, none⟩) (n - k) (cap - k)) (L.drop k) := by
  obtain ⟨ao', cap', e, hc, h1, h2⟩ := h
  injection e with e1 e2 e3
  subst e1; subst e2; subst e3
  have hl : (L.drop k).length = L.length - k := by simp
  refine ⟨_, _, by rw [hl], by omega, fun h => (by cases h), fun a ha hne => ?_⟩
  have hne' : L ≠ [] := by intro e; subst e; simp at hne
  obtain ⟨b', off', e, hc⟩ := h2 _ rfl hne'
  injection e with e1 e2
  subst e1; subst e2
  refine ⟨b, off + k, (Option.some.inj ha).symm, fun j hj => ?_⟩
  rw [hl] at hj
  rw [Nat.add_assoc, hc (k + j) (by omega)]
  simp [List.getD]

theorem Ri.cell {w : World} {ao : Option Addr} {n cap : Nat} {L : List Int} (h : Ri w (.slice ao n cap) L) {k : Nat} (hk : k < L.length) : n = L.length ∧ ∃ b off, ao = some ⟨b, off, none⟩ ∧ ∀ k, k < L.length → w.cell? ⟨b, off + k, none⟩ = some (.int .i64 (L.getD k 0)) := by
  obtain ⟨ao', c', e, _, h1, h2⟩ := h
  injection e with e1 e2 e3
  subst e1
  refine ⟨e2, ?_⟩
  cases ao with
  | none => have := (h1 rfl).1; subst this; simp at hk
  | some a =>
    obtain ⟨b, off, rfl, hc⟩ := h2 a rfl (by intro e; subst e; simp at hk)
    exact ⟨b, off, rfl, hc⟩

theorem own_empty (w : World) : (w.alloc (.cells #[] 3)).ownsRow 0 3 1 (.slice (some ⟨w.heap.size, 0, none⟩) 0 0) 0 (i64s []) := by
  have := World.ownsRow_lit (base := 0) (e := 3) (size := 1) w #[] 0 (Nat.zero_le _) (Nat.zero_le _) rfl
  simpa [i64s] using this
theorem ri_one (w : World) (x : Int) : Ri (w.alloc (.cells #[.int .i64 x] 3)) (.slice (some ⟨w.heap.size, 0, none⟩) 1 1) [x] :=
  ⟨some ⟨w.heap.size, 0, none⟩, 1, rfl, Nat.le_refl _, fun h => (by cases h), fun a ha _ => ⟨w.heap.size, 0, (Option.some.inj ha).symm, fun k hk => by
    have : k = 0 := by simp at hk; omega
    subst this
    rw [World.cell?_alloc_at _ _ _ _ rfl]; rfl⟩⟩

theorem own_empty' (w : World) (g : Nat) (hg : w.heap.size = g) : (w.alloc (.cells #[] 3)).ownsRow 0 3 1 (.slice (some ⟨g, 0, none⟩) 0 0) 0 (i64s []) := by subst hg; exact own_empty w
theorem ri_one' (w : World) (x : Int) (g : Nat) (hg : w.heap.size = g) : Ri (w.alloc (.cells #[.int .i64 x] 3)) (.slice (some ⟨g, 0, none⟩) 1 1) [x] := by subst hg; exact ri_one w x
theorem ri_grown {W0 w1 : World} {G g : Nat} {v : Value} {L : List Int} {n c : Nat} (h : Ri W0 (.slice (some ⟨g, 0, none⟩) n c) L) (hg : W0.grownBy w1 v.ownBlock) (hv : v.ownBlock = some G) (hne : g ≠ G) : Ri w1 (.slice (some ⟨g, 0, none⟩) n c) L := by
  rw [hv] at hg
  refine h.step ((Step.refl (fun k => k = G) W0).grown hg (fun k hk => .inl (Option.some.inj hk).symm)) ?_
  intro a n c e _
  injection e with e1
  have := Option.some.inj e1
  subst this
  exact hne
theorem ri_empty (w : World) (a : Addr) (c : Nat) : Ri w (.slice (some a) 0 c) [] := ⟨some a, c, rfl, Nat.zero_le _, fun h => (by cases h), fun _ _ h => absurd rfl h⟩

theorem ri_empty' (w : World) (a : Addr) (n c : Nat) (hn : n = 0) : Ri w (.slice (some a) n c) [] := by subst hn; exact ri_empty w a c

/-- What an append leaves of a row that is younger than the world w. -/
structure Grew (w : World) (v : Value) (n : Nat) (L : List Int) (w' : World) : Prop where
  own : w'.ownsRow 0 3 1 v n (i64s L)
  blk : ∀ j, v.ownBlock = some j → w.heap.size ≤ j
  st : Step (fun _ => False) w w'

theorem Grew.alloc {w w' : World} {v : Value} {n : Nat} {L : List Int} (h : Grew w v n L w') (o : Obj) : Grew w v n L (w'.alloc o) := ⟨h.own.alloc o, h.blk, h.st.alloc o⟩
theorem Grew.drew {w w' : World} {v : Value} {n : Nat} {L : List Int} (h : Grew w v n L w') : Grew w v n L w'.drew := ⟨h.own, h.blk, h.st.drew⟩
theorem Grew.more {w w0 w1 : World} {v v' : Value} {n m : Nat} {L M : List Int} (h : Grew w v n L w0) (h1 : w1.ownsRow 0 3 1 v' m (i64s M)) (h2 : w0.grownBy w1 v.ownBlock) (h3 : v'.ownBlock = v.ownBlock ∨ v'.ownBlock = some w0.heap.size) : Grew w v' m M w1 :=
  ⟨h1, fun j hj => by
    rcases h3 with e | e
    · exact h.blk j (by rw [← e]; exact hj)
    · rw [e] at hj; have := Option.some.inj hj; have := h.st.size; omega, h.st.grown h2 (fun k hk => .inr (h.blk k hk))⟩
theorem Grew.empty {w W : World} (g : Nat) (hg : W.heap.size = g) (hs : Step (fun _ => False) w W) : Grew w (.slice (some ⟨g, 0, none⟩) 0 0) 0 [] (W.alloc (.cells #[] 3)) :=
  ⟨own_empty' W g hg, fun j hj => by simp [Value.ownBlock] at hj; have := hs.size; omega, hs.alloc _⟩

end Go.Proofs.YtkaibpibnkmmbaaDoor
