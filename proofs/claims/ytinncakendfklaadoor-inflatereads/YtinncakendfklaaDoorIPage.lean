/-
  The page's own stream: get, lay.
-/
import Derived.Test.YtinncakendfklaaDoorIRefR
import Derived.Test.YtinncakendfklaaDoorAppRd
namespace Go.Proofs.YtinncakendfklaaDoor
open Go.RowKit
set_option maxRecDepth 100000
set_option linter.unusedVariables false

/-- The page's stream in block p: its Reader in block b, over the row r; what came out, the row v; its error. -/
structure Sx (w : World) (p b : Nat) (r v : Value) (M m t : Nat) (O : List Nat) (most : Int) (e : Nat) : Prop where
  ci : w.cell? ⟨p, 0, none⟩ = some (.pointer (some ⟨b, 0, none⟩))
  rx : Rx w b r M m t
  co : w.cell? ⟨p, 1, none⟩ = some v
  cm : w.cell? ⟨p, 2, none⟩ = some (.int .i64 most)
  ce : w.cell? ⟨p, 3, none⟩ = some (.int .i64 (e : Int))
  f1 : w.frozen? ⟨p, 1, none⟩ = false
  f3 : w.frozen? ⟨p, 3, none⟩ = false
  ow : w.ownsRow 0 5 1 v O.length (u8s O)
  pb : p ≠ b
  vp : v.ownBlock ≠ some p
  vb : v.ownBlock ≠ some b
  rp : ∀ a n c, r = .slice (some a) n c → bytesOf M m ≠ [] → a.block ≠ p ∧ v.ownBlock ≠ some a.block
  by_ : ∀ y ∈ O, y < 256

theorem Sx.drewN {w : World} {p b : Nat} {r v : Value} {M m t : Nat} {O : List Nat} {most : Int} {e : Nat} (h : Sx w p b r v M m t O most e) (q : Nat) : Sx (w.drewN q) p b r v M m t O most e :=
  ⟨h.ci, h.rx.drewN q, h.co, h.cm, h.ce, h.f1, h.f3, h.ow, h.pb, h.vp, h.vb, h.rp, h.by_⟩

theorem Sx.step {S : Nat → Prop} {w w' : World} {p b : Nat} {r v : Value} {M m t : Nat} {O : List Nat} {most : Int} {e : Nat} (h : Sx w p b r v M m t O most e) (hs : Step S w w') (h1 : ¬ S p) (h2 : ¬ S b) (h3 : ∀ k, v.ownBlock = some k → ¬ S k) (h4 : ∀ a n c, r = .slice (some a) n c → bytesOf M m ≠ [] → ¬ S a.block) : Sx w' p b r v M m t O most e := by
  have hp : p < w.heap.size := World.block_lt_of_cell? w _ h.ci
  exact ⟨hs.cell h.ci h1, h.rx.step hs h2 h4, hs.cell h.co h1, hs.cell h.cm h1, hs.cell h.ce h1, (hs.frozen (p := ⟨p, 1, none⟩) hp h1).trans h.f1, (hs.frozen (p := ⟨p, 3, none⟩) hp h1).trans h.f3, owns_step h.ow hs h3, h.pb, h.vp, h.vb, h.rp, h.by_⟩

theorem Sx.took {w w' : World} {p b : Nat} {r v : Value} {M m t t' : Nat} {O : List Nat} {most : Int} {e : Nat} (h : Sx w p b r v M m t O most e) (T : TookX w w' b r M m t') : Sx w' p b r v M m t' O most e := by
  have hp : p < w.heap.size := World.block_lt_of_cell? w _ h.ci
  exact ⟨T.2.cell h.ci h.pb, T.1, T.2.cell h.co h.pb, T.2.cell h.cm h.pb, T.2.cell h.ce h.pb, (T.2.frozen (p := ⟨p, 1, none⟩) hp h.pb).trans h.f1, (T.2.frozen (p := ⟨p, 3, none⟩) hp h.pb).trans h.f3, owns_step h.ow T.2 (fun k hk e => h.vb (by rw [hk, e])), h.pb, h.vp, h.vb, h.rp, h.by_⟩

/-- Its error is set. -/
theorem Sx.err {w : World} {p b : Nat} {r v : Value} {M m t : Nat} {O : List Nat} {most : Int} {e : Nat} (h : Sx w p b r v M m t O most e) (e' : Nat) : Sx (w.setCell ⟨p, 3, none⟩ (.int .i64 (e' : Int))) p b r v M m t O most e' := by
  have S : Step (fun k => k = p) w (w.setCell ⟨p, 3, none⟩ (.int .i64 (e' : Int))) := (Step.refl (fun k => k = p) w).setCell ⟨p, 3, none⟩ _ (.inl rfl)
  have hne : ∀ j u', j ≠ 3 → w.cell? ⟨p, j, none⟩ = some u' → (w.setCell ⟨p, 3, none⟩ (.int .i64 (e' : Int))).cell? ⟨p, j, none⟩ = some u' := fun j u' hj hu => by
    rw [World.cell?_setCell_other (a := ⟨p, 3, none⟩) (b := ⟨p, j, none⟩) _ _ (by intro e; injection e with _ e2; exact hj e2.symm)]; exact hu
  refine ⟨hne 0 _ (by omega) h.ci, h.rx.step S (fun e => h.pb e.symm) (fun a n c hr hne e => (h.rp a n c hr hne).1 e), hne 1 _ (by omega) h.co, hne 2 _ (by omega) h.cm, World.cell?_setCell_same _ _ _ h.ce, ?_, ?_, owns_step h.ow S (fun k hk e => h.vp (by rw [hk, e])), h.pb, h.vp, h.vb, h.rp, h.by_⟩
  · rw [World.frozen?_setCell]; exact h.f1
  · rw [World.frozen?_setCell]; exact h.f3

/-- The blocks that a stream's steps write. -/
def Px (p b k : Nat) : Prop := k = p ∨ k = b

set_option maxHeartbeats 1000000 in
theorem pget_ok (p b : Nat) (r v : Value) (M m t : Nat) (O : List Nat) (most : Int) (n : Nat) (w : World) (h : Sx w p b r v M m t O most 0) (hm : m ≤ 137438953600) (hn : n ≤ 24) (hs : t + n ≤ 8 * m) :
    Calls Tryd.prog 32 #[.pointer (some ⟨p, 0, none⟩), .int .i64 n] w fun e w' => e = .returned (.int .i64 ((M / 2 ^ t % 2 ^ n : Nat) : Int)) ∧ Hid (Sx w' p b r v M m (t + n) O most 0 ∧ Step (Px p b) w w') := by
  obtain ⟨x, hx⟩ : ∃ x, x = M / 2 ^ t % 2 ^ n := ⟨_, rfl⟩
  have c0 := h.ci
  have c3 := h.ce
  have HG : Hid (Calls Tryd.prog 49 #[.pointer (some ⟨b, 0, none⟩), .int .i64 n] w fun e w' => e = .returned (.tuple #[.int .i64 (x : Int), .int .i64 0]) ∧ (w'.cell? ⟨p, 3, none⟩ = some (.int .i64 0) ∧ w'.frozen? ⟨p, 3, none⟩ = false) ∧ Hid (Sx w' p b r v M m (t + n) O most 0 ∧ Step (Px p b) w w')) :=
    hidden ((xget_ok b r M m t n w h.rx hm hn (by omega)).mono fun e w' ⟨he, T⟩ => by
      rw [← hx] at he
      have h2 := h.took T
      exact ⟨he, ⟨h2.ce, h2.f3⟩, hidden ⟨h2, T.2.mono (fun i hi => .inr hi)⟩⟩)
  rw [← hx]
  clear h hx
  go_enter Tryd.func32, Tryd.ntmps32
  go_wp2_with fail
  refine HG.out.mono ?_
  rintro e w1 ⟨rfl, ⟨c1, f1⟩, R1⟩
  go_wp2
  go_ret
  exact ⟨rfl, hidden ⟨R1.out.1.err 0, R1.out.2.setCell _ _ (.inl (.inl rfl))⟩⟩

set_option maxHeartbeats 1000000 in
theorem pget_short (p b : Nat) (r v : Value) (M m t : Nat) (O : List Nat) (most : Int) (n : Nat) (w : World) (h : Sx w p b r v M m t O most 0) (hm : m ≤ 137438953600) (hn : n ≤ 24) (hs : 8 * m < t + n) :
    Calls Tryd.prog 32 #[.pointer (some ⟨p, 0, none⟩), .int .i64 n] w fun e w' => e = .returned (.int .i64 0) ∧ Hid (Sx w' p b r v M m t O most 2 ∧ Step (Px p b) w w') := by
  have c0 := h.ci
  have c3 := h.ce
  have HG : Hid (Calls Tryd.prog 49 #[.pointer (some ⟨b, 0, none⟩), .int .i64 n] w fun e w' => e = .returned (.tuple #[.int .i64 0, .int .i64 2]) ∧ (w'.cell? ⟨p, 3, none⟩ = some (.int .i64 0) ∧ w'.frozen? ⟨p, 3, none⟩ = false) ∧ Hid (Sx w' p b r v M m t O most 0 ∧ Step (Px p b) w w')) :=
    hidden ((xget_short b r M m t n w h.rx hm hn (by have := h.rx.le; omega)).mono fun e w' ⟨he, q, hq⟩ => by
      subst hq
      exact ⟨he, ⟨h.ce, h.f3⟩, hidden ⟨h.drewN q, (Step.refl _ w).drewN q⟩⟩)
  clear h
  go_enter Tryd.func32, Tryd.ntmps32
  go_wp2_with fail
  refine HG.out.mono ?_
  rintro e w1 ⟨rfl, ⟨c1, f1⟩, R1⟩
  go_wp2
  go_ret
  exact ⟨rfl, hidden ⟨R1.out.1.err 2, R1.out.2.setCell _ _ (.inl (.inl rfl))⟩⟩

set_option maxHeartbeats 1000000 in
/-- Behind an error nothing is read. -/
theorem pget_err (p b : Nat) (r v : Value) (M m t : Nat) (O : List Nat) (most : Int) (n : Int) (e : Nat) (w : World) (h : Sx w p b r v M m t O most e) (he : 0 < e) :
    Calls Tryd.prog 32 #[.pointer (some ⟨p, 0, none⟩), .int .i64 n] w fun x w' => x = .returned (.int .i64 0) ∧ w' = w := by
  have c3 := h.ce
  have hb : ((e : Int) != 0) = true := by rw [bne_iff_ne]; omega
  clear h
  go_enter Tryd.func32, Tryd.ntmps32
  go_wp2
  go_ret
  exact ⟨rfl, rfl⟩

end Go.Proofs.YtinncakendfklaaDoor
