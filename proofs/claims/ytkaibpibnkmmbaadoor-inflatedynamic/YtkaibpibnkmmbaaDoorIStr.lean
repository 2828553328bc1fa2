/-
  A stream: what is read, what came out; bytes that stand as they are.
-/
import Derived.Test.YtkaibpibnkmmbaaDoorIBuf
namespace Go.Proofs.YtkaibpibnkmmbaaDoor
open Go.RowKit
set_option linter.unusedVariables false

/-- A stream in block p: its Reader in block b, over the row s; what came out, the row v. -/
structure Str (w : World) (p b : Nat) (s v : Value) (M m t : Nat) (O : List Nat) (most : Int) : Prop where
  ci : w.cell? ⟨p, 0, none⟩ = some (.pointer (some ⟨b, 0, none⟩))
  rr : Rr w b s M m t
  ou : Out w p v O most
  pb : p ≠ b
  sp : s.ownBlock ≠ some p
  vb : v.ownBlock ≠ some b
  vs : ∀ k, v.ownBlock = some k → s.ownBlock ≠ some k

/-- The blocks of a stream that are written. -/
def Sb (p b : Nat) (v : Value) (k : Nat) : Prop := k = p ∨ k = b ∨ v.ownBlock = some k

theorem Str.step {S : Nat → Prop} {w w' : World} {p b : Nat} {s v : Value} {M m t : Nat} {O : List Nat} {most : Int} (h : Str w p b s v M m t O most) (hs : Step S w w') (h1 : ¬ S p) (h2 : ¬ S b) (h3 : ∀ k, v.ownBlock = some k → ¬ S k) (h4 : ∀ k, s.ownBlock = some k → ¬ S k) : Str w' p b s v M m t O most :=
  ⟨hs.cell h.ci h1, h.rr.step hs h2 h4, h.ou.step hs h1 h3, h.pb, h.sp, h.vb, h.vs⟩
theorem Str.made {w w' : World} {p b : Nat} {s v : Value} {M m t : Nat} {O : List Nat} {most : Int} (h : Str w p b s v M m t O most) (hs : Step (fun _ => False) w w') : Str w' p b s v M m t O most :=
  h.step hs (fun h => h) (fun h => h) (fun _ _ h => h) (fun _ _ h => h)
theorem Str.drewN {w : World} {p b : Nat} {s v : Value} {M m t : Nat} {O : List Nat} {most : Int} (h : Str w p b s v M m t O most) (n : Nat) : Str (w.drewN n) p b s v M m t O most := h.made ((Step.refl _ w).drewN n)

/-- The place of the fixed codes stays. -/
def Keep (p : Nat) (w w' : World) : Prop := (∀ u, w.cell? ⟨p, 3, none⟩ = some u → w'.cell? ⟨p, 3, none⟩ = some u) ∧ w'.frozen? ⟨p, 3, none⟩ = w.frozen? ⟨p, 3, none⟩
theorem Keep.refl (p : Nat) (w : World) : Keep p w w := ⟨fun _ h => h, rfl⟩
theorem Keep.trans {p : Nat} {a b c : World} (h : Keep p a b) (k : Keep p b c) : Keep p a c := ⟨fun u hu => k.1 u (h.1 u hu), k.2.trans h.2⟩
theorem Keep.step {S : Nat → Prop} {p : Nat} {w w' : World} (hs : Step S w w') (hp : p < w.heap.size) (h : ¬ S p) : Keep p w w' := ⟨fun u hu => hs.cell hu h, hs.frozen (p := ⟨p, 3, none⟩) hp h⟩
theorem Keep.drewN {p : Nat} {a b : World} (h : Keep p a b) (n : Nat) : Keep p a (b.drewN n) := h

/-- What a call on such a stream leaves. -/
def After (w w' : World) (p b : Nat) (s v : Value) (M m t : Nat) (O : List Nat) (most : Int) : Prop :=
  ∃ v', Str w' p b s v' M m t O most ∧ Step (Sb p b v) w w' ∧ (v'.ownBlock = v.ownBlock ∨ ∃ k, v'.ownBlock = some k ∧ w.heap.size ≤ k) ∧ Keep p w w'

theorem Sb.lt {w : World} {p b : Nat} {s v : Value} {M m t : Nat} {O : List Nat} {most : Int} (h : Str w p b s v M m t O most) {k : Nat} (hk : Sb p b v k) : k < w.heap.size := by
  rcases hk with e | e | e
  · subst e; exact World.block_lt_of_cell? w _ h.ci
  · subst e; exact World.block_lt_of_cell? w _ h.rr.ins
  · exact (h.ou.ow.lt _ e).2

theorem Sb.trans {w w1 w2 : World} {p b : Nat} {v v1 : Value} (S1 : Step (Sb p b v) w w1) (hv : v1.ownBlock = v.ownBlock ∨ ∃ k, v1.ownBlock = some k ∧ w.heap.size ≤ k) (S2 : Step (Sb p b v1) w1 w2) : Step (Sb p b v) w w2 := by
  refine S1.trans S2 (fun i hi => ?_)
  rcases hi with e | e | e
  · exact .inl (.inl e)
  · exact .inl (.inr (.inl e))
  · rcases hv with h | ⟨k, h, hk⟩
    · exact .inl (.inr (.inr (by rw [← h]; exact e)))
    · rw [h] at e; have := Option.some.inj e; exact .inr (by omega)

theorem After.trans {w w1 w2 : World} {p b : Nat} {s v v1 : Value} {M m t : Nat} {O : List Nat} {most : Int} (S1 : Step (Sb p b v) w w1) (hv : v1.ownBlock = v.ownBlock ∨ ∃ k, v1.ownBlock = some k ∧ w.heap.size ≤ k) (hk : Keep p w w1) (h : After w1 w2 p b s v1 M m t O most) : After w w2 p b s v M m t O most := by
  obtain ⟨v2, a, S2, h2, h3⟩ := h
  refine ⟨v2, a, Sb.trans S1 hv S2, ?_, hk.trans h3⟩
  rcases h2 with e | ⟨k, e, hk⟩
  · rw [e]; exact hv
  · exact .inr ⟨k, e, Nat.le_trans S1.size hk⟩

theorem Str.took {w w' : World} {p b : Nat} {s v : Value} {M m t t' : Nat} {O : List Nat} {most : Int} (h : Str w p b s v M m t O most) (T : Took w w' b s M m t') : Str w' p b s v M m t' O most ∧ Step (Sb p b v) w w' ∧ Keep p w w' :=
  ⟨⟨T.2.cell h.ci h.pb, T.1, h.ou.step T.2 h.pb (fun k hk e => h.vb (by rw [hk, e])), h.pb, h.sp, h.vb, h.vs⟩, T.2.mono (fun i hi => .inr (.inl hi)), Keep.step T.2 (World.block_lt_of_cell? w _ h.ci) h.pb⟩

theorem Str.roomed {w w' : World} {p b : Nat} {s v : Value} {M m t n : Nat} {O : List Nat} {most : Int} (h : Str w p b s v M m t O most) (R : Roomed w w' p v O most n) :
    ∃ v', Str w' p b s v' M m t O most ∧ O.length + n ≤ capOf v' ∧ Step (Sb p b v) w w' ∧ (v'.ownBlock = v.ownBlock ∨ ∃ k, v'.ownBlock = some k ∧ w.heap.size ≤ k) ∧ Keep p w w' := by
  obtain ⟨v', ho, hc, hs, hv, hcell, hfz⟩ := R
  have hb : b < w.heap.size := World.block_lt_of_cell? w _ h.rr.ins
  refine ⟨v', ⟨?_, h.rr.step hs (fun e => h.pb e.symm) (fun k hk e => h.sp (by rw [hk, e])), ho, h.pb, h.sp, ?_, ?_⟩, hc, hs.mono (fun i hi => .inl hi), hv, fun u hu => hcell 3 u (by omega) hu, hfz 3⟩
  · exact hcell 0 _ (by omega) h.ci
  · rcases hv with e | ⟨k, e, hk⟩
    · rw [e]; exact h.vb
    · rw [e]; intro e2; have := Option.some.inj e2; omega
  · intro k hk e2
    rcases hv with e | ⟨j, e, hj⟩
    · exact h.vs k (by rw [← e]; exact hk) e2
    · rw [e] at hk; have := Option.some.inj hk
      have := (h.rr.own.lt _ e2).2
      omega

/-- Bytes went behind those that came out. -/
theorem Str.appended {w w1 : World} {p b : Nat} {s v v1 : Value} {M m t : Nat} {O B : List Nat} {most : Int} (h : Str w p b s v M m t O most)
    (hown : w1.ownsRow 0 5 1 v1 (O.length + B.length) (u8s (O ++ B))) (hg : w.grownBy w1 v.ownBlock) (hv : v1.ownBlock = v.ownBlock) (hc : capOf v1 = capOf v) (hB : ∀ y ∈ B, y < 256) :
    w1.cell? ⟨p, 1, none⟩ = some v ∧ w1.frozen? ⟨p, 1, none⟩ = false ∧ Str (w1.setCell ⟨p, 1, none⟩ v1) p b s v1 M m t (O ++ B) most ∧ Step (Sb p b v) w (w1.setCell ⟨p, 1, none⟩ v1) ∧ Keep p w (w1.setCell ⟨p, 1, none⟩ v1) := by
  have St : Step (fun k => v.ownBlock = some k) w w1 := (Step.refl _ w).grown hg (fun k hk => .inl hk)
  have hpw : p < w.heap.size := World.block_lt_of_cell? w _ h.ci
  have hnp : ¬ v.ownBlock = some p := h.ou.ne
  have c1 := St.cell h.ou.co hnp
  have c2 := St.cell h.ou.cm hnp
  have c0 := St.cell h.ci hnp
  have f1 := (St.frozen (p := ⟨p, 1, none⟩) hpw hnp).trans h.ou.f1
  have S2 : Step (fun k => k = p) w1 (w1.setCell ⟨p, 1, none⟩ v1) := (Step.refl (fun k => k = p) w1).setCell ⟨p, 1, none⟩ v1 (.inl rfl)
  refine ⟨c1, f1, ⟨?_, ?_, ⟨?_, ?_, ?_, ?_, ?_, ?_, ?_⟩, h.pb, h.sp, ?_, ?_⟩, ?_, ?_, ?_⟩
  · rw [World.cell?_setCell_other _ _ _ _ (by simp)]; exact c0
  · refine (h.rr.step St (fun e => h.vb e) (fun k hk e => h.vs k e hk)).step S2 (fun e => h.pb e.symm) (fun k hk e => h.sp (by rw [hk, e]))
  · rw [World.cell?_setCell_same _ _ _ c1]
  · rw [World.cell?_setCell_other _ _ _ _ (by simp)]; exact c2
  · rw [World.frozen?_setCell]; exact f1
  · rw [List.length_append]
    exact owns_step hown S2 (fun k hk e => hnp (by rw [← hv, hk, e]))
  · rw [hv]; exact hnp
  · rw [hc]; exact h.ou.ca
  · intro y hy
    rcases List.mem_append.1 hy with e | e
    · exact h.ou.by_ y e
    · exact hB y e
  · rw [hv]; exact h.vb
  · intro k hk; exact h.vs k (by rw [← hv]; exact hk)
  · exact (St.mono (fun i hi => .inr (.inr hi))).trans S2 (fun i hi => .inl (.inl hi))
  · intro u hu
    rw [World.cell?_setCell_other _ _ _ _ (by simp)]
    exact St.cell hu hnp
  · rw [World.frozen?_setCell]
    exact St.frozen (p := ⟨p, 3, none⟩) hpw hnp

theorem bytesOf_lt (N m : Nat) : ∀ y ∈ bytesOf N m, y < 256 := by
  intro y hy
  obtain ⟨i, _, rfl⟩ := List.mem_map.1 hy
  exact Nat.mod_lt _ (by omega)

end Go.Proofs.YtkaibpibnkmmbaaDoor
