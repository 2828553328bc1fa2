/-
  The page's Writer: Align and Raw, by the numbers that were laid.
-/
import Derived.Test.YtlajfidhkaamnabDoorILaw
import Derived.Test.YtlajfidhkaamnabDoorIWriteC
namespace Go.Proofs.YtlajfidhkaamnabDoor
open Go.RowKit
set_option maxRecDepth 100000
set_option linter.unusedVariables false

theorem align_p (w0 : World) (b : Nat) (ps : List (Nat × Nat)) (w : World) (h : Wp w0 w b ps) (hL : pcL ps ≤ 1000000000) :
    Calls Tryd.prog 11 #[.pointer (some ⟨b, 0, none⟩)] w fun e w' => e = .returned (.tuple #[]) ∧ Hid (Wp w0 w' b (ps ++ [(0, up8 (pcL ps) - pcL ps)])) := by
  obtain ⟨s, h1, h2, h3, h4⟩ := h
  refine (xalign_w b s _ _ w h1 hL).mono fun e w' ⟨he, hw⟩ => ⟨he, Wp.wrote h2 h3 h4 ?_⟩
  rw [Nat.zero_mul, Nat.add_zero, show pcL ps + (up8 (pcL ps) - pcL ps) = up8 (pcL ps) by unfold up8; omega]
  exact hw

/-- A Writer of the page beside a block that it doesn't write. -/
def Wq (w0 w : World) (b q : Nat) (ps : List (Nat × Nat)) : Prop := b ≠ q ∧ q < w.heap.size ∧ ∃ s, s.ownBlock ≠ some q ∧ Wx w b s (pcN ps) (pcL ps) ∧ w0.heap.size ≤ b ∧ (∀ k, s.ownBlock = some k → w0.heap.size ≤ k) ∧ Step (fun _ => False) w0 w

theorem put_q (w0 : World) (b q : Nat) (ps : List (Nat × Nat)) (v n : Nat) (w : World) (h : Wq w0 w b q ps) (hn : n ≤ 24) (hv : v < 2 ^ n) (hL : pcL ps ≤ 1000000000) :
    Calls Tryd.prog 10 #[.pointer (some ⟨b, 0, none⟩), .int .i64 v, .int .i64 n] w fun e w' => e = .returned (.int .i64 0) ∧ Hid (Wq w0 w' b q (ps ++ [(v, n)]) ∧ ∀ u, w.cell? ⟨q, 0, none⟩ = some u → w'.cell? ⟨q, 0, none⟩ = some u) := by
  obtain ⟨hbq, hq, s, hsq, h1, h2, h3, h4⟩ := h
  refine (xput_ok b s _ _ v n w h1 hn hv hL).mono fun e w' ⟨he, hw⟩ => ⟨he, ?_⟩
  obtain ⟨s', k1, k2, k3⟩ := id hw
  have hnq : ¬ Of b s q := by rintro (e | e); exact hbq e.symm; exact hsq e
  have hz := k2.size
  refine hidden ⟨⟨hbq, by omega, s', ?_, by rw [pcN_snoc, pcL_snoc]; exact k1, h2, ?_, h4.trans k2 (fun i hi => .inr ?_)⟩, fun u hu => k2.cell hu hnq⟩
  · rcases k3 with e | ⟨j, e, hj⟩
    · rw [e]; exact hsq
    · rw [e]; intro e2; have := Option.some.inj e2; omega
  · intro k hk
    rcases k3 with e | ⟨j, e, hj⟩
    · exact h3 k (by rw [← e]; exact hk)
    · rw [e] at hk; have := Option.some.inj hk; have := h4.size; omega
  · rcases hi with e | e
    · rw [e]; exact h2
    · exact h3 i e

def by8 (x : Nat) : Nat × Nat := (x, 8)
theorem by8_len (R : List Nat) : pcL (R.map by8) = 8 * R.length := by
  induction R with
  | nil => rfl
  | cons x R ih => show 8 + pcL (R.map by8) = _; rw [ih, List.length_cons]; omega

set_option maxHeartbeats 4000000 in
theorem raw_p (w0 : World) (b q : Nat) (ps : List (Nat × Nat)) (aa : Option Addr) (ca : Nat) (R : List Nat) (w : World) (h : Wq w0 w b q ps) (hc : w.cell? ⟨q, 0, none⟩ = some (.slice aa R.length ca)) (hr : Rd w0 (.slice aa R.length ca) R) (hR : ∀ y ∈ R, y < 256) (hl : R.length ≤ 3000) (hL : pcL ps ≤ 1000000) (h8 : pcL ps % 8 = 0) :
    Calls Tryd.prog 12 #[.pointer (some ⟨b, 0, none⟩), .slice (some ⟨q, 0, none⟩) 1 1] w fun e w' => e = .returned (.int .i64 0) ∧ Hid (Wp w0 w' b (ps ++ R.map by8)) := by
  have H := hidden h
  have HR := hidden hr
  have HB := hidden hR
  obtain ⟨m, hm⟩ : ∃ m, R.length = m := ⟨_, rfl⟩
  rw [hm] at hc HR hl
  have Hm := hidden hm
  obtain ⟨_, _, s, _, hx, _⟩ := h
  have c0 := hx.out
  obtain ⟨sa, sc, hs⟩ := own_slice hx.own
  rw [hs] at c0
  have hmod : ((pcL ps : Int) % 8 != 0) = false := by rw [bne_eq_false_iff_eq]; omega
  have HPUT := hidden (fun v w1 qs h1 h3 h4 => put_q w0 b q qs v 8 w1 h1 (by omega) h3 h4)
  generalize hG : pcL ps = G at *
  have HG := hidden hG
  clear hr hR hm hx hs hG
  go_enter Tryd.func12, Tryd.ntmps12
  go_wp2
  go_loopw [5, 6] (fun i _ wr => (i = .int .i64 0 ∧ wr = w) ∨ (i = .int .i64 1 ∧ Hid (Wp w0 wr b (ps ++ R.map by8)))) (fun i _ _ => 1 - (intOf i).toNat)
  case atStart => exact .inl ⟨rfl, rfl⟩
  case round =>
    rcases hrel with ⟨rfl, rfl⟩ | ⟨rfl, HW⟩
    · go_wp2
      go_loopw [6] (fun j wq => ∃ k : Nat, j = .int .i64 (k : Int) ∧ k ≤ m ∧ wq.cell? ⟨q, 0, none⟩ = some (.slice aa m ca) ∧ Hid (Wq w0 wq b q (ps ++ (R.take k).map by8))) (fun j _ => m - (intOf j).toNat)
      case atStart => exact ⟨0, rfl, Nat.zero_le _, hc, hidden (by simpa using H.out)⟩
      case round =>
        obtain ⟨k, rfl, hk, ck, HW⟩ := hrel
        by_cases hlt : k < m
        · obtain ⟨_, _, s1, _, _, _, _, hz4⟩ := id HW.out
          have hRk := HR.out.step hz4 (fun _ _ _ _ _ h => h)
          have hne : R ≠ [] := by intro e; have := Hm.out; subst e; simp at this; omega
          obtain ⟨ao1, ca1, e1, e2, e3⟩ := hRk
          injection e1 with x1 x2 x3
          subst x1
          cases aa with
          | none => exact absurd (e2 rfl).1 hne
          | some a =>
            obtain ⟨ba, oa, rfl, hcell⟩ := e3 a rfl hne
            have cx := hcell k (by rw [Hm.out]; exact hlt)
            have hkR : k < R.length := by rw [Hm.out]; exact hlt
            have hc256 : R.getD k 0 < 256 := HB.out _ (by simp [List.getD, hkR])
            have hnext : Hid (ps ++ (R.take (k + 1)).map by8 = ps ++ (R.take k).map by8 ++ [(R.getD k 0, 8)]) := hidden (by
              rw [List.take_succ_eq_append_getElem hkR, List.map_append, List.append_assoc]
              simp [List.getD, hkR, by8])
            have hlen : Hid (pcL (ps ++ (R.take k).map by8) ≤ 1000000000) := hidden (by
              rw [pcL_append, by8_len, HG.out]
              have : (R.take k).length ≤ k := by simp; omega
              omega)
            generalize R.getD k 0 = c at *
            have HC := hidden (HPUT.out c _ _ HW.out hc256 hlen.out)
            clear hz4 hne e2 e3 hcell x2 x3 hkR
            go_wp2_with fail
            refine HC.out.mono ?_
            rintro e w3 ⟨rfl, W3⟩
            have ck3 := W3.out.2 _ ck
            clear ck
            go_wp2
            go_roundw
            case rel => exact ⟨k + 1, by go_num, by omega, ck3, hidden (by rw [hnext.out]; exact W3.out.1)⟩
            case measure => simp [intOf]; omega
        · have hkk : k = m := by omega
          subst hkk
          have hbad : ¬ (k : Int) < (k : Int) := by omega
          have hfull : Hid (R.take k = R) := hidden (List.take_of_length_le (by rw [Hm.out]; exact Nat.le_refl _))
          go_wp2
          go_roundw
          case rel =>
            refine .inr ⟨rfl, hidden ?_⟩
            obtain ⟨h1, h2, s1, h3, h4, h5, h6, h7⟩ := HW.out
            rw [hfull.out] at h4
            exact ⟨s1, h4, h5, h6, h7⟩
          case measure => simp [intOf]
    · go_wp2
      go_ret
      exact ⟨rfl, HW⟩

end Go.Proofs.YtlajfidhkaamnabDoor
