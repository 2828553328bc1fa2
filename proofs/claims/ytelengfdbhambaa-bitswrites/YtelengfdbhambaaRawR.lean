/-
  Align and Raw of a Reader.
-/
import Derived.Test.YtelengfdbhambaaGet
import Derived.Test.YtelengfdbhambaaRawM
namespace Go.Proofs.Ytelengfdbhambaa
open Go.RowKit

set_option maxHeartbeats 400000 in
theorem ralign_any (b : Nat) (s : Value) (M m t : Nat) (w : World) (h : Rr w b s M m t) (hm : m ≤ 137438953600) :
    Calls Try.prog 29 #[.pointer (some ⟨b, 0, none⟩)] w fun e w' => e = .returned (.int .i64 (((t + 7) / 8 : Nat) : Int)) ∧ Took w w' b s M m ((t + 7) / 8 * 8) := by
  have H := hidden h
  have c1 := h.at_
  have f1 := h.f1
  have hle := h.le
  clear h
  go_enter Try.func29, Try.ntmps29
  go_wp2
  go_ret
  refine ⟨?_, H.out.took (Step.refl _ _) (by omega) _ (by omega)⟩
  show Ending.returned (.int .i64 _) = Ending.returned (.int .i64 _)
  congr 2
  omega

set_option maxHeartbeats 400000 in
theorem rraw_no (b : Nat) (s : Value) (M m t : Nat) (n : Int) (w : World) (h : Rr w b s M m t) (hn : n < 0 ∨ t % 8 ≠ 0) :
    Calls Try.prog 31 #[.pointer (some ⟨b, 0, none⟩), .int .i64 n] w fun e w' => e = .returned (.tuple #[.slice none 0 0, .int .i64 1]) ∧ w' = w := by
  have c1 := h.at_
  have hle := h.le
  clear h
  by_cases h0 : n < 0
  · go_enter Try.func31, Try.ntmps31
    go_wp2
    go_ret2
    exact ⟨rfl, rfl⟩
  · have h8 : t % 8 ≠ 0 := by omega
    have h8' : ((t : Int) % 8 != 0) = true := by rw [bne_iff_ne]; omega
    clear hn
    go_enter Try.func31, Try.ntmps31
    go_wp2
    go_ret2
    exact ⟨rfl, rfl⟩

set_option maxHeartbeats 400000 in
theorem rraw_short (b : Nat) (s : Value) (M m t : Nat) (n : Int) (w : World) (h : Rr w b s M m t) (hm : m ≤ 137438953600) (hn : 0 ≤ n) (h8 : t % 8 = 0) (hs : ((m - t / 8 : Nat) : Int) < n) :
    Calls Try.prog 31 #[.pointer (some ⟨b, 0, none⟩), .int .i64 n] w fun e w' => e = .returned (.tuple #[.slice none 0 0, .int .i64 2]) ∧ ∃ q, w' = w.drewN q := by
  have c1 := h.at_
  have hle := h.le
  have H := hidden h
  have h8' : ((t : Int) % 8 != 0) = false := by simp; omega
  have hs' : ((8 * m - t : Nat) : Int) / 8 < n := by omega
  clear h hs
  go_enter Try.func31, Try.ntmps31
  go_wp2_with (go_at_call 33; refine (left_any b s M m t _ H.out hm).mono ?_; rintro e w' ⟨rfl, q, rfl⟩)
  go_ret2
  exact ⟨rfl, _, rfl⟩

theorem Rd.sub {w : World} {s : Value} {M m cap : Nat} {ao : Option Addr} (hs : s = .slice ao m cap) (ho : w.ownsRow 0 5 1 s m (u8s (bytesOf M m))) {j n : Nat} (hj : j + n ≤ m) (ao' : Option Addr) (cap' : Nat) (h1 : ao = none → ao' = none ∧ cap' = 0) (h2 : ∀ g, ao = some ⟨g, 0, none⟩ → n ≠ 0 → ao' = some ⟨g, j, none⟩) (h3 : ao ≠ none → ao' ≠ none) :
    Rd w (.slice ao' n cap') (bytesOf (M / 2 ^ (8 * j)) n) := by
  have hl := bytesOf_length (M / 2 ^ (8 * j)) n
  refine ⟨ao', cap', by rw [hl], ?_, ?_⟩
  · intro e
    rcases ho.2 with ⟨e1, e2⟩ | ⟨g, c, cur, e1, _⟩
    · subst hs
      injection e1 with e3 e4 e5
      subst e4
      have : n = 0 := by omega
      subst this
      exact ⟨rfl, (h1 e3).2⟩
    · subst hs
      injection e1 with e3 e4 e5
      exact absurd e (h3 (by rw [e3]; simp))
  · intro a ha hne
    have hn : n ≠ 0 := by intro e; subst e; exact hne rfl
    rcases ho.2 with ⟨e1, e2⟩ | ⟨g, c, cur, e1, _⟩
    · omega
    · subst hs
      injection e1 with e3 e4 e5
      subst e3
      rw [h2 g rfl hn] at ha
      refine ⟨g, j, (Option.some.inj ha).symm, fun k hk => ?_⟩
      rw [hl] at hk
      rw [ho.cellAt (j + k) (by omega), u8s_get?, bytesOf_get? _ _ _ (by omega), bytesOf_getD _ _ _ hk, Nat.div_div_eq_div_mul, ← Nat.pow_add, ← Nat.mul_add]
      rfl

set_option maxHeartbeats 1000000 in
theorem rraw_ok (b : Nat) (s : Value) (M m t n : Nat) (w : World) (h : Rr w b s M m t) (hm : m ≤ 137438953600) (h8 : t % 8 = 0) (hn : n ≤ m - t / 8) :
    Calls Try.prog 31 #[.pointer (some ⟨b, 0, none⟩), .int .i64 n] w fun e w' => ∃ v', e = .returned (.tuple #[v', .int .i64 0]) ∧ w'.ownsRow 0 5 1 v' n (u8s (bytesOf (M / 2 ^ t) n)) ∧ (∀ k, v'.ownBlock = some k → w.heap.size ≤ k) ∧ Took w w' b s M m (t + 8 * n) := by
  have c0 := h.ins
  have c1 := h.at_
  have f1 := h.f1
  have hle := h.le
  have H := hidden h
  have h8' : ((t : Int) % 8 != 0) = false := by simp; omega
  have hs' : (n : Int) ≤ ((8 * m - t : Nat) : Int) / 8 := by omega
  obtain ⟨ao, cap, hs⟩ := own_slice h.own
  have hcap : m ≤ cap ∧ (ao = none → cap = 0) := by
    rcases h.own.2 with ⟨e1, e2⟩ | ⟨g, c, cur, e1, _, _, e2, _⟩
    · rw [hs] at e1; injection e1 with x1 x2 x3; omega
    · rw [hs] at e1; injection e1 with x1 x2 x3; exact ⟨by omega, by rw [x1]; simp⟩
  obtain ⟨hcap1, hcap2⟩ := hcap
  have Hcap2 := hidden hcap2
  have Hs := hidden hs
  rw [hs] at c0
  have ht : 8 * (t / 8) = t := by omega
  have hgo : Hid (∀ w1 v, Took w w1 b s M m (t + 8 * n) → Rd w1 v (bytesOf (M / 2 ^ t) n) → Calls Try.prog 37 #[v] w1 fun e w' => ∃ v', e = .returned v' ∧ (w'.ownsRow 0 5 1 v' n (u8s (bytesOf (M / 2 ^ t) n)) ∧ (∀ k, v'.ownBlock = some k → w.heap.size ≤ k) ∧ Took w w' b s M m (t + 8 * n))) := by
    intro w1 v hT hR
    refine (fresh_n v _ n w1 hR (by omega)).mono ?_
    rintro e w' ⟨v', rfl, h1, h2, h3⟩
    refine ⟨v', rfl, h1, fun k hk => ?_, hT.1.step h2 (fun h => h) (fun _ _ h => h), hT.2.trans h2 (fun _ h => h.elim)⟩
    have := hT.2.size
    rcases h3 with e | e
    · rw [e] at hk; cases hk
    · rw [e] at hk; have := Option.some.inj hk; omega
  clear h hcap2 hs
  go_enter Try.func31, Try.ntmps31
  go_wp2_with (go_at_call 33; refine (left_any b s M m t _ H.out hm).mono ?_; rintro e w' ⟨rfl, q, rfl⟩)
  · have hT := (H.out.drewN q).took (t' := t + 8 * n) ((Step.refl _ w).drewN q) (by omega) ((t : Int) + (n : Int) * 8) (by omega)
    have hc : cap = t / 8 := by assumption
    have hR := Rd.sub Hs.out hT.1.own (j := t / 8) (n := n) (by omega) ao 0 (fun h => ⟨h, rfl⟩) (fun g _ h => absurd (show n = 0 by omega) h) (fun h => h)
    rw [ht] at hR
    refine (hgo.out _ _ hT hR).mono ?_
    rintro e w' ⟨v', rfl, HF⟩
    have HF' := hidden HF
    clear HF hT hR
    go_wp2
    go_ret2
    exact ⟨v', rfl, HF'.out⟩
  · have hT := (H.out.drewN q).took (t' := t + 8 * n) ((Step.refl _ w).drewN q) (by omega) ((t : Int) + (n : Int) * 8) (by omega)
    have hR := Rd.sub Hs.out hT.1.own (j := t / 8) (n := n) (by omega) (Option.map (fun x => x.add (t / 8)) ao) (cap - t / 8) (fun h => ⟨by rw [h]; rfl, by rw [Hcap2.out h]; omega⟩)
      (fun g h _ => by rw [h]; show some (Addr.add _ _) = _; rw [Addr.add_lit, Nat.zero_add]) (fun h h2 => h (by cases ao with | none => rfl | some x => cases h2))
    rw [ht] at hR
    refine (hgo.out _ _ hT hR).mono ?_
    rintro e w' ⟨v', rfl, HF⟩
    have HF' := hidden HF
    clear HF hT hR
    go_wp2
    go_ret2
    exact ⟨v', rfl, HF'.out⟩

end Go.Proofs.Ytelengfdbhambaa
