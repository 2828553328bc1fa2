/-
  Rows with marked room behind them: made, held against what they were, spoilt.
-/
import Derived.Test.YthomkgajilmphaaDoorLSame
namespace Go.Proofs.YthomkgajilmphaaDoor
open Go.RowKit

/-- The slice p has the bytes B and one mark; one more stands behind it. -/
structure Roomy (w : World) (g cap : Nat) (B : List Nat) : Prop where
  own : w.ownsRow 0 5 1 (.slice (some ⟨g, 0, none⟩) (B.length + 2) cap) (B.length + 2) (u8s (B ++ [171, 171]))
  room : B.length + 2 ≤ cap

theorem Roomy.step {S : Nat → Prop} {w w' : World} {g cap : Nat} {B : List Nat} (h : Roomy w g cap B) (hs : Step S w w') (hg : ¬ S g) : Roomy w' g cap B :=
  ⟨owns_step h.own hs (fun k hk => by simp [Value.ownBlock] at hk; subst hk; exact hg), h.room⟩

theorem Roomy.rd {w : World} {g cap : Nat} {B : List Nat} (h : Roomy w g cap B) : Rd w (.slice (some ⟨g, 0, none⟩) B.length cap) B := by
  refine ⟨some ⟨g, 0, none⟩, cap, rfl, fun h => (by cases h), fun a ha _ => ⟨g, 0, (Option.some.inj ha).symm, fun k hk => ?_⟩⟩
  rw [Nat.zero_add, h.own.cellAt k (by omega), u8s_get?, List.getElem?_append_left hk]
  simp [List.getD, hk]

theorem Roomy.mark {w : World} {g cap : Nat} {B : List Nat} (h : Roomy w g cap B) : w.cell? ⟨g, B.length, none⟩ = some (.int .u8 171) := by
  rw [h.own.cellAt B.length (by omega), u8s_get?]
  simp

set_option maxHeartbeats 400000 in
theorem stands_any (g cap : Nat) (vb : Value) (B : List Nat) (w : World) (h : Roomy w g cap B) (hb : Rd w vb B) (hl : B.length ≤ 10000) :
    Calls Tryd.prog 9 #[.slice (some ⟨g, 0, none⟩) (B.length + 1) cap, vb] w fun e w' => e = .returned (.bool true) ∧ ∃ n, w' = w.drewN n := by
  have hm := h.mark
  have HR := hidden h.rd
  have hroom := h.room
  have Hb := hidden hb
  obtain ⟨ao, cb, hvb, _⟩ := hb
  have Hvb := hidden hvb
  rw [hvb] at Hb ⊢
  have HS := hidden (same_any _ _ B B w HR.out Hb.out (by omega))
  rw [decide_eq_true rfl] at HS
  generalize B.length = n at *
  clear h hvb
  go_enter Tryd.func9, Tryd.ntmps9
  go_wp2_with (go_at_call 20; refine HS.out.mono ?_; rintro e w' ⟨rfl, q, rfl⟩)
  go_ret
  exact ⟨rfl, _, rfl⟩

end Go.Proofs.YthomkgajilmphaaDoor
