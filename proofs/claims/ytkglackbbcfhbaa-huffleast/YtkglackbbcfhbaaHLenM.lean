/-
  Lengths where two symbols or more come: what is known between two rounds.
-/
import Derived.Test.YtkglackbbcfhbaaHLen
import Derived.Test.YtkglackbbcfhbaaHBack
namespace Go.Proofs.Ytkglackbbcfhbaa
open Go.RowKit Go.Shelf

/-- Where all lies. -/
structure At where
  (m n ul uc b6 bu ou bl b8 bt B T : Nat)
  g : Nat → Value

/-- In this order. -/
structure At.Ok (x : At) : Prop where
  h1 : x.bu < x.b6
  h2 : x.b6 < x.bl
  h3 : x.bl < x.b8
  h4 : x.b8 < x.bt
  h5 : x.bt < x.T
  h6 : x.bt < x.B

/-- What is known while rounds go: the lengths so far are f, and t things are to be taken. -/
structure LB (x : At) (D Wt : List Int) (w : World) (f : Nat → Int) (t : Nat) (W : World) : Prop where
  c6 : W.cell? ⟨x.b6, 0, none⟩ = some (.slice (some ⟨x.bu, x.ou, none⟩) x.ul x.uc)
  cu : ∀ s, s < x.ul → W.cell? ⟨x.bu, x.ou + s, none⟩ = some (.int .i64 (D.getD s 0))
  c8 : W.cell? ⟨x.b8, 0, none⟩ = some (.slice (some ⟨x.bl, 0, none⟩) x.n x.n)
  al : Af W x.bl x.n f
  ct : W.cell? ⟨x.bt, 0, none⟩ = some (.int .i64 (t : Int))
  ft : W.frozen? ⟨x.bt, 0, none⟩ = false
  cB : W.cell? ⟨x.B, 0, none⟩ = some (.slice (some ⟨x.T, 0, none⟩) x.m x.m)
  ro : ∀ j, j < x.m → W.cell? ⟨x.T, j, none⟩ = some (x.g j) ∧ ∃ b, x.bt < b ∧ x.g j = .slice (some ⟨b, 0, none⟩) (told Wt j).length (told Wt j).length ∧ ∀ k, k < (told Wt j).length → W.cell? ⟨b, k, none⟩ = some (.bool ((told Wt j).getD k false))
  st : Step (fun _ => False) w W

theorem LB.keep {x : At} {D Wt : List Int} {w : World} {f : Nat → Int} {t : Nat} {W W' : World} (h : LB x D Wt w f t W)
    (hc : ∀ p v, W.cell? p = some v → W'.cell? p = some v ∧ W'.frozen? p = W.frozen? p) (hs : Step (fun _ => False) w W') : LB x D Wt w f t W' :=
  ⟨(hc _ _ h.c6).1, fun s hs => (hc _ _ (h.cu s hs)).1, (hc _ _ h.c8).1, fun i hi => ⟨(hc _ _ (h.al i hi).1).1, (hc _ _ (h.al i hi).1).2.trans (h.al i hi).2⟩, (hc _ _ h.ct).1, (hc _ _ h.ct).2.trans h.ft, (hc _ _ h.cB).1,
    fun j hj => ⟨(hc _ _ (h.ro j hj).1).1, by obtain ⟨b, e0, e, hb⟩ := (h.ro j hj).2; exact ⟨b, e0, e, fun k hk => (hc _ _ (hb k hk)).1⟩⟩, hs⟩

theorem LB.congr {x : At} {D Wt : List Int} {w : World} {f f' : Nat → Int} {t t' : Nat} {W : World} (h : LB x D Wt w f t W) (hf : ∀ i, i < x.n → f i = f' i) (ht : t = t') : LB x D Wt w f' t' W := by
  subst ht
  exact ⟨h.c6, h.cu, h.c8, h.al.congr hf, h.ct, h.ft, h.cB, h.ro, h.st⟩
theorem LB.drew {x : At} {D Wt : List Int} {w : World} {f : Nat → Int} {t : Nat} {W : World} (h : LB x D Wt w f t W) : LB x D Wt w f t W.drew := ⟨h.c6, h.cu, h.c8, h.al, h.ct, h.ft, h.cB, h.ro, h.st.drew⟩

theorem far_cell {W : World} {q : Addr} {u v : Value} {b o : Nat} (h : W.cell? ⟨b, o, none⟩ = some v) (hq : q.block ≠ b) : (W.setCell q u).cell? ⟨b, o, none⟩ = some v := by
  rw [World.cell?_setCell_other (a := q) (b := ⟨b, o, none⟩) _ _ (by intro e; apply hq; rw [e])]
  exact h

theorem LB.set {x : At} {D Wt : List Int} {w : World} {f : Nat → Int} {t : Nat} {W : World} (h : LB x D Wt w f t W) (ok : x.Ok) (hw : w.heap.size ≤ x.bl) (i : Nat) (v : Int) : LB x D Wt w (upd f i v) t (W.setCell ⟨x.bl, i, none⟩ (.int .i64 v)) := by
  obtain ⟨h1, h2, h3, h4, h5, h6⟩ := ok
  refine ⟨far_cell h.c6 ?_, fun s hs => far_cell (h.cu s hs) ?_, far_cell h.c8 ?_, h.al.set i v, far_cell h.ct ?_, by rw [World.frozen?_setCell]; exact h.ft, far_cell h.cB ?_, fun j hj => ⟨far_cell (h.ro j hj).1 ?_, ?_⟩, h.st.setCell _ _ (.inr hw)⟩
  · show x.bl ≠ x.b6; omega
  · show x.bl ≠ x.bu; omega
  · show x.bl ≠ x.b8; omega
  · show x.bl ≠ x.bt; omega
  · show x.bl ≠ x.B; omega
  · show x.bl ≠ x.T; omega
  · obtain ⟨b, e0, e, hb⟩ := (h.ro j hj).2
    exact ⟨b, e0, e, fun k hk => far_cell (hb k hk) (by show x.bl ≠ b; omega)⟩

theorem LB.put {x : At} {D Wt : List Int} {w : World} {f : Nat → Int} {t : Nat} {W : World} (h : LB x D Wt w f t W) (ok : x.Ok) (hw : w.heap.size ≤ x.bl) (t' : Nat) : LB x D Wt w f t' (W.setCell ⟨x.bt, 0, none⟩ (.int .i64 (t' : Int))) := by
  obtain ⟨h1, h2, h3, h4, h5, h6⟩ := ok
  refine ⟨far_cell h.c6 ?_, fun s hs => far_cell (h.cu s hs) ?_, far_cell h.c8 ?_, h.al.far _ _ ?_, World.cell?_setCell_same' _ _ _ (by rw [h.ct]; rfl), by rw [World.frozen?_setCell]; exact h.ft, far_cell h.cB ?_, fun j hj => ⟨far_cell (h.ro j hj).1 ?_, ?_⟩, h.st.setCell _ _ (.inr (by show w.heap.size ≤ x.bt; omega))⟩
  · show x.bt ≠ x.b6; omega
  · show x.bt ≠ x.bu; omega
  · show x.bt ≠ x.b8; omega
  · show x.bt ≠ x.bl; omega
  · show x.bt ≠ x.B; omega
  · show x.bt ≠ x.T; omega
  · obtain ⟨b, e0, e, hb⟩ := (h.ro j hj).2
    exact ⟨b, e0, e, fun k hk => far_cell (hb k hk) (by show x.bt ≠ b; omega)⟩

/-- Between two rounds. -/
def LI (x : At) (D Wt : List Int) (w : World) (k : Nat) (W : World) : Prop := LB x D Wt w (fun i => lf D Wt x.m k i) (tk Wt x.m k) W

theorem LI.abides (x : At) (D Wt : List Int) (w : World) (X : Nat) (hX : w.heap.size ≤ X) : Abides X (LI x D Wt w) where
  put k W l o o' h hl ho hc := by
    have hr : ∀ r, some l = some r → ∃ o : Obj, W.heap[r]? = some o ∧ o.isCells = false := fun r e => by cases e; exact ⟨o, ho, hc⟩
    refine LB.keep h (fun p v hp => ⟨cell_kept hp (grownBy_putObj' W l o') hr, frozen_kept hp (grownBy_putObj' W l o') hr⟩) ?_
    exact h.st.grown (grownBy_putObj' W l o') (fun r e => by cases e; exact .inr (by omega))
  more k W o h := by
    have hr : ∀ r, (none : Option Nat) = some r → ∃ o : Obj, W.heap[r]? = some o ∧ o.isCells = false := fun r e => by cases e
    exact LB.keep h (fun p v hp => ⟨cell_kept hp (World.grownBy_alloc W o none) hr, frozen_kept hp (World.grownBy_alloc W o none) hr⟩) (h.st.alloc o)

end Go.Proofs.Ytkglackbbcfhbaa
