/-
  What is laid by the page's Writer, number by number.
-/
import Derived.Test.YtkaibpibnkmmbaaDoorILawN
import Derived.Test.YtkaibpibnkmmbaaDoorIWriteB
namespace Go.Proofs.YtkaibpibnkmmbaaDoor
open Go.RowKit
set_option maxRecDepth 100000
set_option linter.unusedVariables false

/-- The page's Writer in block b, made since w0, with these numbers. -/
def Wp (w0 w : World) (b : Nat) (ps : List (Nat × Nat)) : Prop := ∃ s, Wx w b s (pcN ps) (pcL ps) ∧ w0.heap.size ≤ b ∧ (∀ k, s.ownBlock = some k → w0.heap.size ≤ k) ∧ Step (fun _ => False) w0 w

theorem Wp.wrote {w0 w w' : World} {b : Nat} {ps : List (Nat × Nat)} {s : Value} {x n : Nat} (hb : w0.heap.size ≤ b) (hv : ∀ k, s.ownBlock = some k → w0.heap.size ≤ k) (hs : Step (fun _ => False) w0 w) (h : WroteX w w' b s (pcN ps + x * 2 ^ pcL ps) (pcL ps + n)) : Wp w0 w' b (ps ++ [(x, n)]) := by
  obtain ⟨s', h1, h2, h3⟩ := h
  refine ⟨s', by rw [pcN_snoc, pcL_snoc]; exact h1, hb, fun k hk => ?_, hs.trans h2 (fun i hi => .inr ?_)⟩
  · rcases h3 with e | ⟨j, e, hj⟩
    · exact hv k (by rw [← e]; exact hk)
    · rw [e] at hk; have := Option.some.inj hk; have := hs.size; omega
  · rcases hi with e | e
    · rw [e]; exact hb
    · exact hv i e

theorem put_p (w0 : World) (b : Nat) (ps : List (Nat × Nat)) (v n : Nat) (w : World) (h : Wp w0 w b ps) (hn : n ≤ 24) (hv : v < 2 ^ n) (hL : pcL ps ≤ 1000000000) :
    Calls Tryd.prog 5 #[.pointer (some ⟨b, 0, none⟩), .int .i64 v, .int .i64 n] w fun e w' => e = .returned (.int .i64 0) ∧ Hid (Wp w0 w' b (ps ++ [(v, n)])) := by
  obtain ⟨s, h1, h2, h3, h4⟩ := h
  exact (xput_ok b s _ _ v n w h1 hn hv hL).mono fun e w' ⟨he, hw⟩ => ⟨he, Wp.wrote h2 h3 h4 hw⟩
theorem code_p (w0 : World) (b : Nat) (ps : List (Nat × Nat)) (v n : Nat) (w : World) (h : Wp w0 w b ps) (hn : n ≤ 15) (hv : v < 2 ^ n) (hL : pcL ps ≤ 1000000000) :
    Calls Tryd.prog 8 #[.pointer (some ⟨b, 0, none⟩), .int .i64 v, .int .i64 n] w fun e w' => e = .returned (.int .i64 0) ∧ Hid (Wp w0 w' b (ps ++ [(rv v n n, n)])) := by
  obtain ⟨s, h1, h2, h3, h4⟩ := h
  exact (xcode_ok b s _ _ v n w h1 hn hv hL).mono fun e w' ⟨he, hw⟩ => ⟨he, Wp.wrote h2 h3 h4 hw⟩
theorem bytes_p (w0 : World) (b : Nat) (ps : List (Nat × Nat)) (w : World) (h : Wp w0 w b ps) (hL : pcL ps ≤ 1000000000) :
    Calls Tryd.prog 9 #[.pointer (some ⟨b, 0, none⟩)] w fun e w' => ∃ ao c, e = .returned (.slice ao ((pcL ps + 7) / 8) c) ∧ Hid (w'.ownsRow 0 5 1 (.slice ao ((pcL ps + 7) / 8) c) ((pcL ps + 7) / 8) (u8s (bytesOf (pcN ps) ((pcL ps + 7) / 8))) ∧ Step (fun _ => False) w0 w' ∧ (∀ k, (Value.slice ao ((pcL ps + 7) / 8) c).ownBlock = some k → w0.heap.size ≤ k)) := by
  obtain ⟨s, h1, h2, h3, h4⟩ := h
  refine (xbytes_any b s _ _ w h1 hL).mono fun e w' ⟨v', he, a1, a2, a3⟩ => ?_
  obtain ⟨ao, c, hv⟩ := own_slice a1
  subst hv
  exact ⟨ao, c, he, a1, h4.made a2, fun k hk => Nat.le_trans h4.size (a3 k hk)⟩

theorem Wp.new (w : World) (t : TypeId) : Wp w (w.alloc (.cells #[.slice none 0 0] t)) w.heap.size [] :=
  ⟨.slice none 0 0, ⟨by rw [World.cell?_alloc_at _ _ _ _ rfl]; rfl, World.frozen?_alloc_at _ _ _ _ rfl, World.ownsRow_nil _ _ _ _, by simp [Value.ownBlock], by simp [pcN, pcL]⟩, Nat.le_refl _, fun k hk => by simp [Value.ownBlock] at hk, (Step.refl _ w).alloc _⟩

end Go.Proofs.YtkaibpibnkmmbaaDoor
