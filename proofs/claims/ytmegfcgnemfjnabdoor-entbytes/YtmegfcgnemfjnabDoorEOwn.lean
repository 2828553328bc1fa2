/-
  Rows of bytes of the call's own that grow.
-/
import Derived.Test.YtmegfcgnemfjnabDoorUPageP
import Derived.Test.YtmegfcgnemfjnabDoorAppRd
namespace Go.Proofs.YtmegfcgnemfjnabDoor
open Go.RowKit Go.Lib

/-- A row of bytes of the call's own, and nothing else has turned. -/
structure OB (w0 w : World) (v : Value) (l : List UInt8) : Prop where
  own : OwnB w0 w v l
  st : Step (fun _ => False) w0 w
theorem OB.nil (w : World) : OB w w (.slice none 0 0) [] := ⟨OwnB.nil _ _, Step.refl _ w⟩
theorem OB.keep {w0 w w' : World} {v : Value} {l : List UInt8} (h : OB w0 w v l) (hs : Step (fun _ => False) w w') : OB w0 w' v l := ⟨h.own.keep hs, h.st.made hs⟩
theorem OB.alloc {w0 w : World} {v : Value} {l : List UInt8} (h : OB w0 w v l) (o : Obj) : OB w0 (w.alloc o) v l := h.keep ((Step.refl (fun _ => False) w).alloc o)
theorem OwnB.of_zero {w0 w : World} {v : Value} {l : List UInt8} (h : w.ownsRow 0 5 1 v l.length (u8s (l.map UInt8.toNat))) (hn : ∀ k, v.ownBlock = some k → w0.heap.size ≤ k) : OwnB w0 w v l := by
  refine ⟨h.1, ?_⟩
  rcases h.2 with h2 | ⟨g, cap, cur, e, _, rest⟩
  · exact .inl h2
  · exact .inr ⟨g, cap, cur, e, hn g (by rw [e]; rfl), rest⟩

theorem app_row {w0 w : World} {ops : Array Oper} {rest : List Oper} {o : Oper} {a : Act} {Q : Exit → Act → World → Prop} (hgd : o.guard = none) (s x : Operand)
    (ho : o.op = .call { callee := .builtin .append, args := #[s, x], argTypes := #[23, 23] })
    (v : Value) (l : List UInt8) (hs : a.eval s = v) (hown : OB w0 w v l) (xv : Value) (B : List UInt8) (hx : a.eval x = xv) (hr : Rb w xv B) (hb : l.length + B.length ≤ 1000000)
    (h : ∀ v' w', OB w0 w' v' (l ++ B) → wpList Tryd.prog ops Q rest (a.put o.dst v') w') : wpList Tryd.prog ops Q (o :: rest) a w := by
  refine append_bytes hgd s x ho v l.length (l.map UInt8.toNat) hs hown.own.base xv (B.map UInt8.toNat) hx hr (by rw [List.length_map]; omega) ?_
  intro v' w' k1 k2 k3
  refine h v' w' ⟨OwnB.of_zero (by rw [List.length_append, List.map_append]; rw [List.length_map] at k1; exact k1) ?_, hown.st.grown k2 (fun k hk => .inr (hown.own.new k hk))⟩
  intro k hk
  rcases k3 with e | e
  · rw [e] at hk; exact hown.own.new k hk
  · rw [e] at hk
    have := Option.some.inj hk
    have := hown.st.size
    omega
theorem app_str {w0 w : World} {ops : Array Oper} {rest : List Oper} {o : Oper} {a : Act} {Q : Exit → Act → World → Prop} (hgd : o.guard = none) (sl x : Operand)
    (ho : o.op = .call { callee := .builtin .append, args := #[sl, x], argTypes := #[23, 9] })
    (v : Value) (l : List UInt8) (hs : a.eval sl = v) (hown : OB w0 w v l) (s : ByteArray) (B : List UInt8) (hsB : s.data.toList = B) (hx : a.eval x = .string s) (hb : l.length + B.length ≤ 1000000)
    (h : ∀ v' w', OB w0 w' v' (l ++ B) → wpList Tryd.prog ops Q rest (a.put o.dst v') w') : wpList Tryd.prog ops Q (o :: rest) a w := by
  obtain ⟨i9, hi9, hz0, hz1, hz2⟩ := info_parts Tryd.info5
  have hsz : s.size = B.length := by rw [← hsB]; rfl
  refine Lib.wpList_append_own_string _ hgd sl x 23 9 ho w0.heap.size 5 i9 Tryd.underlying23 Tryd.underlying9 hi9 hz0 hz1 hz2 v l.length _ hs hown.own.own s hx (by unfold maxLen; omega) (by omega) hown.st.size ?_
  intro v' w' h1 h2 _
  refine h v' w' ⟨⟨?_⟩, hown.st.grown h2 (fun k hk => .inr (hown.own.new k hk))⟩
  have hs : s = ⟨B.toArray⟩ := by cases s; subst hsB; rfl
  rw [List.length_append, ← hsz, List.map_append, u8s_append, ← strCells_u8s B, ← hs]
  exact h1

theorem step_app_row {w0 w : World} {ops : Array Oper} {o : Oper} {a : Act} {K : Act → World → Prop} {Q : Exit → Act → World → Prop} {X : Prop} (hgd : o.guard = none) (s x : Operand)
    (ho : o.op = .call { callee := .builtin .append, args := #[s, x], argTypes := #[23, 23] })
    (v : Value) (l : List UInt8) (hs : a.eval s = v) (hown : OB w0 w v l) (xv : Value) (B : List UInt8) (hx : a.eval x = xv) (hr : Rb w xv B) (hb : l.length + B.length ≤ 1000000)
    (h : ∀ v' w', OB w0 w' v' (l ++ B) → K (a.put o.dst v') w') : if Region.wanted o (yielded ops a.tmps) = true then Oper.wp Tryd.prog o a w K Q else X := by
  have hw : Region.wanted o (yielded ops a.tmps) = true := by simp [Region.wanted, hgd]
  rw [if_pos hw]
  obtain ⟨i0, hi, hz0, hz1, hz2⟩ := info_parts Tryd.info5
  have key : ∃ v' w', (Builtin.append_ #[23, 23] o.type #[v, xv]).run Tryd.prog w = .ok v' w' ∧ OB w0 w' v' (l ++ B) := by
    have h0 := hown.own.base
    have hr' := hr
    obtain ⟨ao, cap, e, h1, _⟩ := id hr
    subst e
    cases ao with
    | none =>
      have hB : B = [] := by simpa using (h1 rfl).1
      subst hB
      have hc := (h1 rfl).2
      subst hc
      exact ⟨v, w, run_append_owned_none (P := Tryd.prog) (w := w) 0 23 o.type 5 i0 1 Tryd.underlying23 hi v l.length _ h0, by rw [List.append_nil]; exact hown⟩
    | some ad =>
      obtain ⟨v', w', hr2, k1, k2, _, k4⟩ := append_own (P := Tryd.prog) w 23 o.type 5 i0 (.int .u8 0) 1 1 Tryd.underlying23 hi hz0 hz1 hz2 rfl (by decide) v l.length _ h0 ad (B.map UInt8.toNat).length cap (u8s (B.map UInt8.toNat)) (by rw [u8s_length]; omega) hr'.news (u8s_one _) (by unfold maxLen; simp; omega) (by simp; omega)
      refine ⟨v', w', hr2, ⟨OwnB.of_zero ?_ ?_, hown.st.grown k2 (fun k hk => .inr (hown.own.new k hk))⟩⟩
      · rw [← u8s_append, ← List.map_append, List.length_map, ← List.length_append] at k1
        exact k1
      · intro k hk
        rcases k4 with e | e
        · rw [e] at hk; exact hown.own.new k hk
        · rw [e] at hk
          have := Option.some.inj hk
          have := hown.st.size
          omega
  obtain ⟨v', w', hr2, hk⟩ := key
  unfold Oper.wp
  simp [execOp, ho, resolve, invoke, builtin, hs, hx, hr2, Result.andThen]
  exact h v' w' hk

theorem rb_lit (w : World) (l : List UInt8) (C : Array Value) (n : Nat) (hn : C.size = n) (hC : C = (l.map fun b => Value.int .u8 (b.toNat : Int)).toArray) : Rb (w.alloc (.cells C 5)) (.slice (some ⟨w.heap.size, 0, none⟩) n n) l := by
  subst hn
  have hs : C.size = l.length := by rw [hC]; simp
  refine ⟨some ⟨w.heap.size, 0, none⟩, C.size, by rw [hs]; simp, fun h => (by cases h), fun a ha _ => ⟨w.heap.size, 0, (Option.some.inj ha).symm, fun k hk => ?_⟩⟩
  have hk2 : k < l.length := by simpa using hk
  rw [Nat.zero_add, World.cell?_alloc_mark, hC]
  simp [List.getD, hk2]
theorem rb_lit' (w : World) (l : List UInt8) (C : Array Value) (n g : Nat) (hg : w.heap.size = g) (hn : C.size = n) (hC : C = (l.map fun b => Value.int .u8 (b.toNat : Int)).toArray) : Rb (w.alloc (.cells C 5)) (.slice (some ⟨g, 0, none⟩) n n) l := by
  subst hg
  exact rb_lit w l C n hn hC

end Go.Proofs.YtmegfcgnemfjnabDoor
