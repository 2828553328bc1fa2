/-
  Raw of a Writer: whole bytes, on an edge.
-/
import Derived.Test.YtelengfdbhambaaRawM
namespace Go.Proofs.Ytelengfdbhambaa
open Go.RowKit

/-- The first k of so many rows, as one. -/
def flat (F : Nat → List Nat) : Nat → List Nat
  | 0 => []
  | k + 1 => flat F k ++ F k

/-- A row that is laid: it reads as B, and is none of the Writer's own. -/
structure Src (w : World) (b : Nat) (s : Value) (v : Value) (B : List Nat) : Prop where
  rd : Rd w v B
  off : ∀ a n c, v = .slice (some a) n c → B ≠ [] → ¬ Of b s a.block
  byte : ∀ x ∈ B, x < 256

theorem flat_byte {F : Nat → List Nat} {c : Nat} (h : ∀ i, i < c → ∀ x ∈ F i, x < 256) : ∀ k, k ≤ c → ∀ x ∈ flat F k, x < 256
  | 0, _ => by simp [flat]
  | k + 1, hk => by
    intro x hx
    rcases List.mem_append.1 hx with h1 | h1
    · exact flat_byte h k (by omega) x h1
    · exact h k (by omega) x h1

theorem flat_mono {F : Nat → List Nat} {c : Nat} : ∀ k, k ≤ c → (flat F k).length ≤ (flat F c).length := by
  induction c with
  | zero => intro k hk; have : k = 0 := by omega
            subst this; exact Nat.le_refl _
  | succ c ih =>
    intro k hk
    by_cases e : k = c + 1
    · subst e; exact Nat.le_refl _
    · have := ih k (by omega)
      simp only [flat, List.length_append]
      omega

set_option maxHeartbeats 400000 in
theorem raw_no (b : Nat) (s : Value) (N L : Nat) (p : Value) (w : World) (h : Wr w b s N L) (h8 : L % 8 ≠ 0) :
    Calls Try.prog 18 #[.pointer (some ⟨b, 0, none⟩), p] w fun e w' => e = .returned (.int .i64 1) ∧ w' = w := by
  have c1 := h.free
  obtain ⟨f, hf, hf1⟩ : ∃ f : Nat, (8 - L % 8) % 8 = f ∧ 0 < f := ⟨_, rfl, by omega⟩
  rw [hf] at c1
  have hf2 : (0 : Int) < (f : Int) := by omega
  clear h hf
  go_enter Try.func18, Try.ntmps18
  go_wp2
  go_ret
  exact ⟨rfl, rfl⟩

set_option maxHeartbeats 1000000 in
theorem raw_ok (b q c : Nat) (s : Value) (N L : Nat) (V : Nat → Value) (F : Nat → List Nat) (w : World) (h : Wr w b s N L) (h8 : L % 8 = 0) (hq : ¬ Of b s q)
    (hcell : ∀ i, i < c → w.cell? ⟨q, i, none⟩ = some (V i)) (hsrc : ∀ i, i < c → Src w b s (V i) (F i)) (hc : c ≤ 1000) (hL : L + 8 * (flat F c).length ≤ 1099511627776) :
    Calls Try.prog 18 #[.pointer (some ⟨b, 0, none⟩), .slice (some ⟨q, 0, none⟩) c c] w fun e w' => e = .returned (.int .i64 0) ∧ Wrote w w' b s (N + numOf (flat F c) * 2 ^ L) (L + 8 * (flat F c).length) := by
  obtain ⟨i0, hi, hz0, hz1, hz2⟩ := info_parts Try.info5
  have c1 := h.free
  have e0 : (8 - L % 8) % 8 = 0 := by omega
  rw [e0] at c1
  have H := hidden h
  have Hcell := hidden hcell
  have Hsrc := hidden hsrc
  have HL := hidden hL
  have H8 := hidden h8
  have Hq := hidden hq
  clear h hcell hsrc hL h8 hq e0
  go_enter Try.func18, Try.ntmps18
  go_wp2
  go_loopw [18] (fun i wr => ∃ k : Nat, k ≤ c ∧ i = .int .i64 k ∧ Wrote w wr b s (N + numOf (flat F k) * 2 ^ L) (L + 8 * (flat F k).length)) (fun i _ => c - (intOf i).toNat)
  case atStart => exact ⟨0, Nat.zero_le _, rfl, s, by simpa [flat, numOf] using H.out, Step.refl _ _, .inl rfl⟩
  case round =>
    obtain ⟨k, hk, rfl, s', W, St, Wh⟩ := hrel
    by_cases hlt : k < c
    · have hcl : Hid (∀ i, i < c → wr.cell? ⟨q, i, none⟩ = some (V i)) := fun i hi => St.cell (Hcell.out i hi) Hq.out
      have hck := hcl.out k hlt
      have S0 := Hsrc.out k hlt
      have hrd := S0.rd.step St S0.off
      have hbyte := S0.byte
      have hmono := flat_mono (F := F) (c := c) (k + 1) (by omega)
      obtain ⟨ao, cap, hv, r1, r2⟩ := hrd
      have hL2 := HL.out
      have hlen : (flat F (k + 1)).length = (flat F k).length + (F k).length := by simp [flat]
      have hfin : Hid (∀ w', Wrote wr w' b s' (N + numOf (flat F k) * 2 ^ L + numOf (F k) * 2 ^ (L + 8 * (flat F k).length)) (L + 8 * (flat F k).length + 8 * (F k).length) → Wrote w w' b s (N + numOf (flat F (k + 1)) * 2 ^ L) (L + 8 * (flat F (k + 1)).length)) := by
        intro w' h
        have R := Wrote.after St Wh h
        have e : N + numOf (flat F k) * 2 ^ L + numOf (F k) * 2 ^ (L + 8 * (flat F k).length) = N + numOf (flat F (k + 1)) * 2 ^ L := by
          simp only [flat, numOf_append]
          rw [Nat.pow_add, Nat.add_mul, Nat.add_assoc]
          congr 2
          ac_rfl
        have e2 : L + 8 * (flat F k).length + 8 * (F k).length = L + 8 * (flat F (k + 1)).length := by omega
        rw [e, e2] at R
        exact R
      have hm8 : (L + 8 * (flat F k).length) % 8 = 0 := by have := H8.out; omega
      have hroom : (L + 8 * (flat F k).length + 7) / 8 + (F k).length ≤ 137438953600 := by omega
      have HW := hidden W
      have Hm8 := hidden hm8
      have HR := hidden (And.intro hbyte (And.intro r1 r2))
      have cc0 := W.out
      have ff0 := W.f0
      rw [hv] at hck
      clear S0 hbyte r1 r2 hv W St Wh hmono hL2 hlen hm8
      generalize hT : L + 8 * (flat F k).length = T at *
      generalize hN : N + numOf (flat F k) * 2 ^ L = N1 at *
      generalize hB : F k = B at *
      have hbl : B.length ≤ 137438953600 := by omega
      have hkc : (k : Int) < (c : Int) := by omega
      clear hT hN hB
      cases ao with
      | none =>
        obtain ⟨rfl, rfl⟩ := HR.out.2.1 rfl
        obtain ⟨d0, d1, R⟩ := HW.out.rawed (w1 := wr) (v' := s') (B := []) Hm8.out HR.out.1 (by simpa [u8s] using HW.out.own) (World.grownBy.refl _ _) (.inl rfl)
        have HR2 := hidden (hfin.out _ R)
        obtain ⟨ao', cap', hvv⟩ := own_slice HW.out.own
        have hown' := hidden HW.out.own
        rw [hvv] at HR2 cc0 hown'
        clear R hfin HW d0 hvv
        go_wp2_with (at_builtin; refine wpList_append_own_none rfl (.tmp 26) (.tmp 27) 27 rfl 0 5 i0 1 Try.underlying27 hi _ _ _ rfl hown'.out rfl ?_)
        go_roundw
        case rel => exact ⟨k + 1, by omega, by go_num, HR2.out⟩
        case measure => simp [intOf]; omega
      | some a =>
        have hnews : Hid (∀ j u, (u8s B)[j]? = some u → wr.cell? (a.add j) = some u) := by
          intro j u hu
          have hne : B ≠ [] := by intro e; subst e; simp [u8s] at hu
          obtain ⟨b', off, rfl, hc⟩ := HR.out.2.2 a rfl hne
          have hj : j < B.length := by
            have := (List.getElem?_eq_some_iff.1 hu).1
            rwa [u8s_length] at this
          rw [Addr.add_lit, hc j hj, ← hu, u8s_get?]
          simp [List.getD, hj]
        go_wp2_with (at_builtin; refine wpList_append_at _ rfl (.tmp 26) (.tmp 27) 27 rfl 5 i0 (.int .u8 0) 1 1 Try.underlying27 hi hz0 hz1 hz2 rfl (by decide) _ _ _ rfl HW.out.own a B.length cap (u8s B) rfl (by simp [u8s_length]) hnews.out (u8s_one _) ?c3 ?c4 ?_)
        case c3 => unfold maxLen; omega
        case c4 => omega
        intro v' w1 hown' hgrow hnil hv'
        obtain ⟨d0, d1, R⟩ := HW.out.rawed Hm8.out HR.out.1 hown' hgrow hv'
        have HR2 := hidden (hfin.out _ R)
        obtain ⟨ao', cap', hvv⟩ := own_slice hown'
        rw [hvv] at HR2
        rw [hvv]
        clear R hown' hgrow hnil hv' hvv hfin HW
        go_wp2
        go_roundw
        case rel => exact ⟨k + 1, by omega, by go_num, HR2.out⟩
        case measure => simp [intOf]; omega
    · have hkc : k = c := by omega
      subst hkc
      have H2 := hidden (show Wrote w wr b s (N + numOf (flat F k) * 2 ^ L) (L + 8 * (flat F k).length) from ⟨s', W, St, Wh⟩)
      clear W St Wh
      go_wp2
      go_ret
      exact ⟨rfl, H2.out⟩

end Go.Proofs.Ytelengfdbhambaa
