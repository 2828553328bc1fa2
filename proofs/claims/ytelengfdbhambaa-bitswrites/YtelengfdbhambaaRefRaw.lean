/-
  The page's own Writer: Raw.
-/
import Derived.Test.YtelengfdbhambaaRefC
namespace Go.Proofs.Ytelengfdbhambaa
open Go.RowKit

set_option maxHeartbeats 400000 in
theorem xrawW_no (b : Nat) (s : Value) (N L : Nat) (p : Value) (w : World) (h : Wx w b s N L) (hL : L ≤ 1000000000) (h8 : L % 8 ≠ 0) :
    Calls Try.prog 19 #[.pointer (some ⟨b, 0, none⟩), p] w fun e w' => e = .returned (.int .i64 1) ∧ w' = w := by
  have c0 := h.out
  obtain ⟨ao, cap, hs⟩ := own_slice h.own
  rw [hs] at c0
  have hm : ((L : Int) % 8 != 0) = true := by rw [bne_iff_ne]; omega
  clear h hs
  go_enter Try.func19, Try.ntmps19
  go_wp2
  go_ret
  exact ⟨rfl, rfl⟩

theorem take_push (B : List Nat) (k : Nat) (h : k < B.length) : B.take (k + 1) = B.take k ++ [B.getD k 0] := by
  rw [List.take_succ_eq_append_getElem h]
  simp [List.getD, h]

set_option maxHeartbeats 2000000 in
theorem xrawW_ok (b q c : Nat) (s : Value) (N L : Nat) (V : Nat → Value) (F : Nat → List Nat) (w : World) (h : Wx w b s N L) (h8 : L % 8 = 0) (hq : ¬ Of b s q)
    (hcell : ∀ i, i < c → w.cell? ⟨q, i, none⟩ = some (V i)) (hsrc : ∀ i, i < c → Src w b s (V i) (F i)) (hc : c ≤ 1000) (hL : L + 8 * (flat F c).length ≤ 1000000000) :
    Calls Try.prog 19 #[.pointer (some ⟨b, 0, none⟩), .slice (some ⟨q, 0, none⟩) c c] w fun e w' => e = .returned (.int .i64 0) ∧ WroteX w w' b s (N + numOf (flat F c) * 2 ^ L) (L + 8 * (flat F c).length) := by
  have c0 := h.out
  obtain ⟨ao, cap, hs⟩ := own_slice h.own
  rw [hs] at c0
  have hm : ((L : Int) % 8 != 0) = false := by simp; omega
  have H := hidden h
  have Hcell := hidden hcell
  have Hsrc := hidden hsrc
  have HL := hidden hL
  have Hq := hidden hq
  have hL1 : L ≤ 1000000000 := by omega
  clear h hcell hsrc hL hq hs
  go_enter Try.func19, Try.ntmps19
  go_wp2
  go_loopw [5] (fun i wr => ∃ k : Nat, k ≤ c ∧ i = .int .i64 k ∧ WroteX w wr b s (N + numOf (flat F k) * 2 ^ L) (L + 8 * (flat F k).length)) (fun i _ => c - (intOf i).toNat)
  case atStart => exact ⟨0, Nat.zero_le _, rfl, s, by simpa [flat, numOf] using H.out, Step.refl _ _, .inl rfl⟩
  case round =>
    obtain ⟨i, hi, rfl, HWr⟩ := hrel
    have HO := hidden HWr
    clear HWr
    obtain ⟨wA, rfl⟩ : ∃ wA, wA = wr := ⟨_, rfl⟩
    by_cases hlt : i < c
    · have hmono := flat_mono (F := F) (c := c) (i + 1) (by omega)
      have hlen : (flat F (i + 1)).length = (flat F i).length + (F i).length := by simp [flat]
      have hL2 := HL.out
      have hFl : Hid ((F i).length ≤ 1000000000 ∧ L + 8 * ((flat F i).length + (F i).length) ≤ 1000000000) := ⟨by omega, by omega⟩
      have S0 := Hsrc.out i hlt
      obtain ⟨ai, ci, hv, r1, r2⟩ := S0.rd
      have hck := Hcell.out i hlt
      rw [hv] at hck
      have HS0 := hidden S0
      have Hr1 := hidden r1
      have Hr2 := hidden r2
      have Hck := hidden hck
      have Hv := hidden hv
      have hic : (i : Int) < (c : Int) := by omega
      clear hmono hlen hL2 S0 r1 r2 hck hv
      generalize hn : (F i).length = n at *
      have Hn := hidden hn
      have hn9 : n ≤ 1000000000 := hFl.out.1
      clear hn
      have HcA : wA.cell? ⟨q, i, none⟩ = some (.slice ai n ci) := by
        obtain ⟨s', W, St, Wh⟩ := HO.out
        exact St.cell Hck.out Hq.out
      go_wp2
      go_loopw [6] (fun k wr => ∃ j : Nat, j ≤ n ∧ k = .int .i64 j ∧ WroteX w wr b s (N + numOf (flat F i ++ (F i).take j) * 2 ^ L) (L + 8 * ((flat F i).length + j))) (fun k _ => n - (intOf k).toNat)
      case atStart => exact ⟨0, Nat.zero_le _, rfl, by simpa using HO.out⟩
      case round =>
        obtain ⟨j, hj, rfl, s', W, St, Wh⟩ := hrel
        have hcq : wr.cell? ⟨q, i, none⟩ = some (.slice ai n ci) := St.cell Hck.out Hq.out
        by_cases hjn : j < n
        · have hne : F i ≠ [] := by intro e; have := Hn.out; rw [e] at this; simp at this; omega
          cases ai with
          | none => exact absurd (Hr1.out rfl).1 hne
          | some a =>
            obtain ⟨bq, oq, rfl, hcl⟩ := Hr2.out a rfl hne
            have hy0 := hcl j (by have := Hn.out; omega)
            have hy := St.cell hy0 (HS0.out.off ⟨bq, oq, none⟩ _ _ Hv.out hne)
            have hb : (F i).getD j 0 < 256 := by
              have hjl : j < (F i).length := by have := Hn.out; omega
              have := HS0.out.byte (F i)[j] (List.getElem_mem hjl)
              simpa [List.getD, hjl] using this
            have hfin : Hid (∀ w', WroteX wr w' b s' (N + numOf (flat F i ++ (F i).take j) * 2 ^ L + (F i).getD j 0 * 2 ^ (L + 8 * ((flat F i).length + j))) (L + 8 * ((flat F i).length + j) + 8) →
                WroteX w w' b s (N + numOf (flat F i ++ (F i).take (j + 1)) * 2 ^ L) (L + 8 * ((flat F i).length + (j + 1)))) := by
              intro w' h
              have R := WroteX.after St Wh h
              have hjl : j < (F i).length := by have := Hn.out; omega
              have e : N + numOf (flat F i ++ (F i).take j) * 2 ^ L + (F i).getD j 0 * 2 ^ (L + 8 * ((flat F i).length + j)) = N + numOf (flat F i ++ (F i).take (j + 1)) * 2 ^ L := by
                rw [take_push _ _ hjl, ← List.append_assoc, numOf_append (flat F i ++ (F i).take j), Nat.add_mul, Nat.add_assoc]
                congr 2
                have el : (flat F i ++ (F i).take j).length = (flat F i).length + j := by simp; omega
                rw [el, Nat.pow_add]
                simp only [numOf, Nat.mul_zero, Nat.add_zero]
                ac_rfl
              have e2 : L + 8 * ((flat F i).length + j) + 8 = L + 8 * ((flat F i).length + (j + 1)) := by omega
              rw [e, e2] at R
              exact R
            have HW := hidden W
            have hLj : Hid (L + 8 * ((flat F i).length + j) ≤ 1000000000) := by have := hFl.out.2; show _ ≤ _; omega
            generalize (F i).getD j 0 = y at hy hb hfin
            have j1 : (j : Int) < (n : Int) := by omega
            clear W St Wh hcl hy0 hne
            go_wp2_with (go_at_call 12; refine (xput_ok b s' _ _ y 8 _ HW.out (by omega) (by omega) hLj.out).mono ?_; rintro e w' ⟨rfl, hw⟩; have HF := hidden (hfin.out _ hw); clear hw)
            go_roundw
            case rel => exact ⟨j + 1, by omega, by go_num, HF.out⟩
            case measure => simp [intOf]; omega
        · have hjn2 : j = n := by omega
          subst hjn2
          have HF := hidden (show WroteX w wr b s (N + numOf (flat F (i + 1)) * 2 ^ L) (L + 8 * (flat F (i + 1)).length) by
            have e : flat F i ++ (F i).take j = flat F (i + 1) := by
              rw [← Hn.out, List.take_length]; rfl
            have e2 : (flat F (i + 1)).length = (flat F i).length + j := by rw [← Hn.out]; simp [flat]
            rw [e2, ← e]
            exact ⟨s', W, St, Wh⟩)
          clear W St Wh
          go_wp2
          go_roundw
          case rel => exact ⟨i + 1, by omega, by go_num, HF.out⟩
          case measure => simp [intOf]; omega
    · have hkc : i = c := by omega
      subst hkc
      go_wp2
      go_ret
      exact ⟨rfl, HO.out⟩

end Go.Proofs.Ytelengfdbhambaa
