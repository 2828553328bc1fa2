/-
  Rows with marked room behind them: made, held against what they were, spoilt.
-/
import Derived.Test.YtelengfdbhambaaRefR
namespace Go.Proofs.Ytelengfdbhambaa
open Go.RowKit

/-- The slice p has the bytes B and one mark; one more stands behind it. -/
structure Roomy (w : World) (g cap : Nat) (B : List Nat) : Prop where
  own : w.ownsRow 0 5 1 (.slice (some ⟨g, 0, none⟩) (B.length + 2) cap) (B.length + 2) (u8s (B ++ [171, 171]))
  room : B.length + 2 ≤ cap

theorem Roomy.step {S : Nat → Prop} {w w' : World} {g cap : Nat} {B : List Nat} (h : Roomy w g cap B) (hs : Step S w w') (hg : ¬ S g) : Roomy w' g cap B :=
  ⟨owns_step h.own hs (fun k hk => by simp [Value.ownBlock] at hk; subst hk; exact hg), h.room⟩

theorem Roomy.rd {w : World} {g cap : Nat} {B : List Nat} (h : Roomy w g cap B) : Rd w (.slice (some ⟨g, 0, none⟩) B.length cap) B := by
  refine ⟨some ⟨g, 0, none⟩, cap, rfl, fun h => (by cases h), fun a ha _ => ⟨g, 0, (Option.some.inj ha).symm, fun k hk => ?_⟩⟩
  rw [Nat.zero_add, h.own.cellAt k (by omega), u8s_get?, List.getElem?_append_left hk]
  simp [List.getD, hk]

theorem Roomy.mark {w : World} {g cap : Nat} {B : List Nat} (h : Roomy w g cap B) : w.cell? ⟨g, B.length, none⟩ = some (.int .u8 171) := by
  rw [h.own.cellAt B.length (by omega), u8s_get?]
  simp

set_option maxHeartbeats 400000 in
theorem stands_any (g cap : Nat) (vb : Value) (B : List Nat) (w : World) (h : Roomy w g cap B) (hb : Rd w vb B) (hl : B.length ≤ 2000) :
    Calls Try.prog 20 #[.slice (some ⟨g, 0, none⟩) (B.length + 1) cap, vb] w fun e w' => e = .returned (.bool true) ∧ ∃ n, w' = w.drewN n := by
  have hm := h.mark
  have HR := hidden h.rd
  have hroom := h.room
  have Hb := hidden hb
  obtain ⟨ao, cb, hvb, _⟩ := hb
  have Hvb := hidden hvb
  rw [hvb] at Hb ⊢
  have HS := hidden (same_any _ _ B B w HR.out Hb.out (by omega))
  rw [decide_eq_true rfl] at HS
  generalize B.length = n at *
  clear h hvb
  go_enter Try.func20, Try.ntmps20
  go_wp2_with (go_at_call 22; refine HS.out.mono ?_; rintro e w' ⟨rfl, q, rfl⟩)
  go_ret
  exact ⟨rfl, _, rfl⟩

set_option maxHeartbeats 1000000 in
theorem spoil_any (v : Value) (n : Nat) (xs : List Value) (w : World) (h : w.ownsRow 0 5 1 v n xs) (hn : n ≤ 1000000) :
    Calls Try.prog 21 #[v] w fun e w' => e = .returned (.tuple #[]) ∧ Step (fun k => v.ownBlock = some k) w w' := by
  obtain ⟨i0, hi, hz0, hz1, hz2⟩ := info_parts Try.info5
  have H := hidden h
  clear h
  go_enter Try.func21, Try.ntmps21
  go_wp2_with (at_builtin; refine wpList_append_at _ rfl (.tmp 4) (.tmp 5) 27 rfl 5 i0 (.int .u8 0) 1 1 Try.underlying27 hi hz0 hz1 hz2 rfl (by decide) _ _ _ rfl (H.out.alloc _) ⟨w.heap.size, 0, none⟩ 1 1 [.int .u8 99] rfl rfl ?c1 ?c2 ?c3 ?c4 ?_)
  case c1 => exact cell_one_new _ _ _
  case c2 => intro u hu; simp at hu; subst hu; rfl
  case c3 => unfold maxLen; omega
  case c4 => omega
  intro v' w1 hown' hgrow hnil hv'
  have hex : ∃ g cap, v' = .slice (some ⟨g, 0, none⟩) (n + 1) cap ∧ (v.ownBlock = some g ∨ w.heap.size ≤ g) := by
    rcases hown'.2 with ⟨_, e⟩ | ⟨g, cap, cur, e, _⟩
    · omega
    · refine ⟨g, cap, e, ?_⟩
      rcases hv' with e2 | e2
      · left; rw [← e2, e]; rfl
      · right; rw [e] at e2; simp [Value.ownBlock] at e2; omega
  obtain ⟨g, cap, hvv, hgg⟩ := hex
  rw [hvv] at hown'
  have HO := hidden (show ∃ ys, w1.ownsRow 0 5 1 (.slice (some ⟨g, 0, none⟩) (n + 1) cap) (n + 1) ys from ⟨_, hown'⟩)
  have HS := hidden (show Step (fun k => v.ownBlock = some k) w w1 from ((Step.refl _ _).alloc _).grown hgrow (fun k hk => .inl hk))
  have Hgg := hidden hgg
  rw [hvv]
  clear hown' hgrow hnil hv' hvv hgg
  go_wp2
  go_loopw [3] (fun i wr => ∃ k : Nat, k ≤ n + 1 ∧ i = .int .i64 k ∧ (∃ ys, wr.ownsRow 0 5 1 (.slice (some ⟨g, 0, none⟩) (n + 1) cap) (n + 1) ys) ∧ Step (fun k => v.ownBlock = some k) w wr) (fun i _ => n + 1 - (intOf i).toNat)
  case atStart => exact ⟨0, Nat.zero_le _, rfl, HO.out, HS.out⟩
  case round =>
    obtain ⟨k, hk, rfl, ⟨ys, O⟩, St⟩ := hrel
    by_cases hlt : k < n + 1
    · have hc := O.cellAt k (by omega)
      have hf := O.frozenAt k
      have hyl : k < ys.length := by rw [O.1]; omega
      rw [List.getElem?_eq_getElem hyl] at hc
      have HF := hidden (And.intro (O.stored k (.int .u8 98)).1 (St.setCell ⟨g, k, none⟩ (.int .u8 98) (by rcases Hgg.out with h | h; exact .inl h; exact .inr h)))
      have k1 : (k : Int) < ((n + 1 : Nat) : Int) := by omega
      generalize ys[k] = yk at hc
      clear O St
      go_wp2
      go_roundw
      case rel => exact ⟨k + 1, by omega, by go_num, ⟨_, HF.out.1⟩, HF.out.2⟩
      case measure => simp [intOf]; omega
    · have H2 := hidden St
      clear O St
      go_wp2
      go_end0
      exact ⟨rfl, H2.out⟩

end Go.Proofs.Ytelengfdbhambaa
