/-
  The walk of the law on readers.
-/
import Derived.Test.YtelengfdbhambaaReadsC
namespace Go.Proofs.Ytelengfdbhambaa
open Go.RowKit

set_option maxHeartbeats 400000 in
theorem reads_out (ao al : Option Addr) (len cap ll cl : Nat) (w : World) (hlen : len ≤ 9223372036854775807) (h : 2000 < len) :
    Calls Try.prog 4 #[.slice ao len cap, .slice al ll cl] w fun e w' => e = .returned (.bool true) ∧ Below w.heap.size w w' := by
  go_enter Try.func4, Try.ntmps4
  go_wp2
  go_ret
  exact ⟨rfl, Below.refl _ _⟩

set_option maxRecDepth 100000 in
set_option maxHeartbeats 2000000 in
theorem reads_in (ao al : Option Addr) (cap ll cl : Nat) (B : List Nat) (w : World) (hR : Rd w (.slice ao B.length cap) B) (hB : ∀ x ∈ B, x < 256) (hc : B.length ≤ cap) (hl : B.length ≤ 2000) (hA : Acts w al ll) (hll : ll ≤ 9223372036854775807) :
    Calls Try.prog 4 #[.slice ao B.length cap, .slice al ll cl] w fun e w' => e = .returned (.bool true) ∧ Below w.heap.size w w' := by
  have HR := hidden hR
  have HA := hidden hA
  have HM := hidden (bytesOf_numOf B hB)
  have Hc := hidden hc
  generalize hlen : B.length = len at *
  have Hlen := hidden hlen
  generalize hM : numOf B = M at *
  clear hR hA hB hlen hM hc
  go_enter Try.func4, Try.ntmps4
  go_wp2_with fail
  refine (roomy_any _ B _ HR.out (by have := Hlen.out; omega)).mono ?_
  rintro e w1 ⟨g, cp, he, Y1, hg1, S1⟩
  rw [Hlen.out] at he
  subst he
  have HY1 := hidden Y1
  have HS1 := hidden S1
  have Hg1 := hidden hg1
  have hroom := Y1.room
  rw [Hlen.out] at hroom
  have HR1 := hidden (show Rd w1 (.slice (some ⟨g, 0, none⟩) len cp) (bytesOf M len) by
    have := Y1.rd
    rw [Hlen.out] at this
    rw [HM.out]
    exact this)
  clear Y1 S1 hg1
  go_wp2_with fail
  refine (of_any _ M len _ HR1.out (by omega)).mono ?_
  rintro e w2 ⟨b1, s1, rfl, R2, T2, H2, H2'⟩
  have HS2 := hidden (HS1.out.made T2)
  have HP : Hid (Pair w (w2.alloc (.cells #[.slice ao len cap, .int .i64 0] 46)) b1 s1 w2.heap.size (.slice ao len cap) g cp B M len 0 0) := by
    have hgw : g < w1.heap.size := (HY1.out.own.lt g rfl).2
    have hb1 : b1 < w2.heap.size := World.block_lt_of_cell? w2 _ R2.ins
    have SA : Step (fun _ => False) w2 (w2.alloc (.cells #[.slice ao len cap, .int .i64 0] 46)) := (Step.refl _ _).alloc _
    have hrd : Rd w (.slice ao len cap) (bytesOf M len) := by rw [HM.out]; exact HR.out
    have hsz := HS1.out.size
    have hsz2 := HS2.out.size
    have hsz3 := T2.size
    have Hg := Hg1.out
    refine ⟨R2.step SA (fun h => h) (fun _ _ h => h), ⟨by simp, by simp, by simp, hrd.step (HS2.out.made SA) (fun _ _ _ _ _ h => h), fun a n c hv hne => ?_, fun ao' n c hv => ?_, Nat.zero_le _⟩,
      (HY1.out.step T2 (fun h => h)).step SA (fun h => h), HS2.out.made SA, by omega, by omega, Hg, fun a n c hv hne => hrd.lt' a n c hv hne, by omega, by omega, by omega, ?_, ?_, fun k hk => by have := H2' k hk; omega⟩
    · have := hrd.lt' a n c hv hne; omega
    · injection hv with e1 e2 e3; have := Hc.out; omega
    · intro e; have := (R2.own.lt _ e).2; omega
    · intro e; have := H2' g e; omega
  clear R2 T2 H2 H2' HR1 HS2
  go_wp2_with fail
  generalize (w2.alloc (.cells #[.slice ao len cap, .int .i64 0] 46)) = w3 at HP ⊢
  generalize w2.heap.size = b2 at HP ⊢
  have hB2 := Hlen.out
  clear HY1 HS1 Hg1
  go_loopw [8] (fun i wr => ∃ k t : Nat, k ≤ ll ∧ k ≤ 200 ∧ i = .int .i64 k ∧ Pair w wr b1 s1 b2 (.slice ao len cap) g cp B M len t t) (fun i _ => 200 - (intOf i).toNat)
  case atStart => exact ⟨0, 0, Nat.zero_le _, Nat.zero_le _, rfl, HP.out⟩
  case round =>
    obtain ⟨k, t, hk, hk2, rfl, P⟩ := hrel
    have HP := hidden P
    by_cases hlt : k < ll ∧ k < 200
    · obtain ⟨g1, g2⟩ := hlt
      obtain ⟨bl, ol, rfl, hcl⟩ := (HA.out.step P.st) (by omega)
      obtain ⟨kd, x, n, aB, aC, lB, cB, lC, cC, c1, c2, c3, c4, c5⟩ := hcl k g1
      have hblw := World.block_lt_of_cell? wr _ c1
      have HPa := hidden (P.made ((Step.refl (fun _ => False) wr).alloc (.cells #[.int .i64 kd, .int .i64 x, .int .i64 n, .slice aB lB cB, .slice aC lC cC] 31)))
      clear hcl P
      have k1 : (k : Int) < (ll : Int) := by omega
      have k2 : (k : Int) < 200 := by omega
      have hb1w : Hid (b1 < wr.heap.size ∧ b2 < wr.heap.size ∧ g < wr.heap.size) := HP.out.gsize
      have hcn : Hid (∀ w' : World, Step (fun k => k = b1) (wr.alloc (.cells #[.int .i64 kd, .int .i64 x, .int .i64 n, .slice aB lB cB, .slice aC lC cC] 31)) w' → w'.cell? ⟨wr.heap.size, 2, none⟩ = some (.int .i64 n)) := by
        intro w' h
        exact h.cell (by simp) (fun e => by have := hb1w.out.1; have e' : wr.heap.size = b1 := e; omega)
      have htail : Hid (∀ (w5 : World) (t' : Nat), Pair w w5 b1 s1 b2 (.slice ao len cap) g cp B M len t' t' → ∃ k' t'' : Nat, k' ≤ ll ∧ k' ≤ 200 ∧ Value.int IntKind.i64 ((k : Int) + 1) = .int .i64 (k' : Int) ∧ Pair w w5 b1 s1 b2 (.slice ao len cap) g cp B M len t'' t'') :=
        fun w5 t' P5 => ⟨k + 1, t', by omega, by omega, by go_num, P5⟩
      by_cases hk1 : kd = 1
      · subst hk1
        obtain ⟨r, e, t', G1, G2⟩ := get_both HPa.out hl n
        have HG1 := hidden G1
        have HG2 := hidden G2
        clear G1 G2
        go_wp2_with fail
        refine HG1.out.mono ?_
        rintro en w4 ⟨rfl, P4, S4⟩
        have hc4 := hcn.out w4 S4
        have HP4 := hidden P4
        clear P4 S4 HG1
        go_wp2_with fail
        refine (HG2.out _ HP4.out).mono ?_
        rintro en w5 ⟨rfl, P5⟩
        obtain ⟨q, L1, L2⟩ := left_both P5 hl
        have HL1 := hidden L1
        have HL2 := hidden L2
        clear P5 L1 L2 HG2 HP4
        go_wp2_with fail
        refine HL1.out.mono ?_
        rintro en w6 ⟨rfl, P6⟩
        have HP6 := hidden P6
        clear P6 HL1
        go_wp2_with fail
        refine (HL2.out _ HP6.out).mono ?_
        rintro en w7 ⟨rfl, P7⟩
        have HP7 := hidden P7
        clear P7 HL2 HP6
        go_wp2
        go_roundw
        case rel => exact htail.out _ _ HP7.out
        case measure => simp [intOf]; omega
      · by_cases hk2 : kd = 2
        · subst hk2
          obtain ⟨r, t', G1, G2⟩ := align_both HPa.out hl
          have HG1 := hidden G1
          have HG2 := hidden G2
          clear G1 G2
          go_wp2_with fail
          refine HG1.out.mono ?_
          rintro en w4 ⟨rfl, P4⟩
          have HP4 := hidden P4
          clear P4 HG1
          go_wp2_with fail
          refine (HG2.out _ HP4.out).mono ?_
          rintro en w5 ⟨rfl, P5⟩
          obtain ⟨q, L1, L2⟩ := left_both P5 hl
          have HL1 := hidden L1
          have HL2 := hidden L2
          clear P5 L1 L2 HG2 HP4
          go_wp2_with fail
          refine HL1.out.mono ?_
          rintro en w6 ⟨rfl, P6⟩
          have HP6 := hidden P6
          clear P6 HL1
          go_wp2_with fail
          refine (HL2.out _ HP6.out).mono ?_
          rintro en w7 ⟨rfl, P7⟩
          have HP7 := hidden P7
          clear P7 HL2 HP6
          go_wp2
          go_roundw
          case rel => exact htail.out _ _ HP7.out
          case measure => simp [intOf]; omega
        · by_cases hk3 : kd = 3
          · subst hk3
            obtain ⟨e, t', C, G1, G2⟩ := raw_both HPa.out hl n
            have HG1 := hidden G1
            have HG2 := hidden G2
            clear G1 G2
            go_wp2_with fail
            refine HG1.out.mono ?_
            rintro en w4 ⟨v4, rfl, Q4, P4, S4⟩
            have hc4 := hcn.out w4 S4
            have HP4 := hidden P4
            have HQ4 := hidden Q4
            clear P4 S4 HG1 Q4
            go_wp2_with fail
            refine (HG2.out _ HP4.out).mono ?_
            rintro en w5 ⟨v5, rfl, Q5, P5, S5⟩
            have HP5 := hidden P5
            have HQ5 := hidden Q5
            have HQ4' : Hid (∃ m4, m4 ≤ 2000 ∧ w5.ownsRow 0 5 1 v4 m4 (u8s C)) := by
              obtain ⟨⟨m4, hm4, ho4⟩, hf4⟩ := HQ4.out
              refine ⟨m4, hm4, owns_step ho4 S5 (fun i hi e => ?_)⟩
              have h1 := hf4 i hi
              have h2 := hb1w.out
              simp at h1
              omega
            clear P5 Q5 S5 HG2 HP4
            go_wp2_with fail
            obtain ⟨m4, hm4, ho4⟩ := HQ4'.out
            obtain ⟨m5, hm5, ho5⟩ := HQ5.out.1
            have hCl : C.length ≤ 2000 := by have := ho4.1; rw [u8s_length] at this; omega
            refine (same_any _ _ C C _ (Rd.of_own ho4) (Rd.of_own ho5) (by omega)).mono ?_
            rintro en w6 ⟨he, q6, hw6⟩
            rw [decide_eq_true rfl] at he
            subst he
            have HP6 := hidden (HP5.out.drewN q6)
            have HO6 := hidden (show w6.ownsRow 0 5 1 v4 m4 (u8s C) by rw [hw6]; exact ho4)
            rw [← hw6] at HP6
            clear ho4 ho5 hw6 HP5
            go_wp2_with fail
            refine (spoil_any v4 m4 _ _ HO6.out (by omega)).mono ?_
            rintro en w7 ⟨rfl, S7⟩
            have P7 : Pair w w7 b1 s1 b2 (.slice ao len cap) g cp B M len t' t' := by
              refine HP6.out.off S7 (wr.heap.size + 1) ?_ (fun i hi => ?_)
              · have h1 := hb1w.out
                have h2 := HP.out.st.size
                refine ⟨by omega, by omega, by omega, by omega, fun i hi => ?_⟩
                have := (HP.out.R.own.lt i hi).2
                omega
              · have h1 := HQ4.out.2 i hi
                simpa using h1
            obtain ⟨q, L1, L2⟩ := left_both P7 hl
            have HL1 := hidden L1
            have HL2 := hidden L2
            clear P7 L1 L2 S7 HP6 HO6 HQ4 HQ5 HQ4'
            go_wp2_with fail
            refine HL1.out.mono ?_
            rintro en w8 ⟨rfl, P8⟩
            have HP8 := hidden P8
            clear P8 HL1
            go_wp2_with fail
            refine (HL2.out _ HP8.out).mono ?_
            rintro en w9 ⟨rfl, P9⟩
            have HP9 := hidden P9
            clear P9 HL2 HP8
            go_wp2
            go_roundw
            case rel => exact htail.out _ _ HP9.out
            case measure => simp [intOf]; omega
          · obtain ⟨q, L1, L2⟩ := left_both HPa.out hl
            have HL1 := hidden L1
            have HL2 := hidden L2
            have d1 : (kd == 1) = false := by simp [hk1]
            have d2 : (kd == 2) = false := by simp [hk2]
            have d3 : (kd == 3) = false := by simp [hk3]
            clear L1 L2 hk1 hk2 hk3
            go_wp2_with fail
            refine HL1.out.mono ?_
            rintro en w8 ⟨rfl, P8⟩
            have HP8 := hidden P8
            clear P8 HL1
            go_wp2_with fail
            refine (HL2.out _ HP8.out).mono ?_
            rintro en w9 ⟨rfl, P9⟩
            have HP9 := hidden P9
            clear P9 HL2 HP8
            go_wp2
            go_roundw
            case rel => exact htail.out _ _ HP9.out
            case measure => simp [intOf]; omega
    · clear P
      have hor : ¬ ((k : Int) < (ll : Int)) ∨ ((k : Int) < (ll : Int) ∧ ¬ ((k : Int) < 200)) := by omega
      have HST := hidden (stands_any g cp _ B wr HP.out.Y (HR.out.step HP.out.st (fun _ _ _ _ _ h => h)) (by omega))
      rw [hB2] at HST
      clear hlt
      rcases hor with hq | ⟨hq, hq2⟩
      all_goals
        go_wp2_with fail
        refine HST.out.mono ?_
        rintro en w4 ⟨rfl, q, rfl⟩
        go_wp2_with (go_at_call 25; refine (known_any _).mono ?_; rintro e w' ⟨rfl, hs⟩; have HK := hidden hs; clear hs)
        go_ret
        exact ⟨rfl, ((HP.out.st.drewN _).made HK.out).below _ (Nat.le_refl _) (fun _ h => h.elim)⟩

end Go.Proofs.Ytelengfdbhambaa
