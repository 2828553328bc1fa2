/-
  Plain numbers: every stream tells something.
-/
import Derived.Test.YtcgjmkcigmmjjaaGreatDoorBkJ
import Derived.Deep.LoopGhost
import Derived.BigRegion

namespace Go.Proofs.YtcgjmkcigmmjjaaGreatDoor
open Go.RowKit
set_option maxRecDepth 100000
set_option linter.unusedVariables false
theorem PS.took {w w' : World} {Z : Nat → Prop} {p b : Nat} {r : Value} {M m t t' : Nat} {O : List Nat} {most : Int} {e : Nat} (h : PS w Z p b r M m t O most e) (T : TookX w w' b r M m t') : Pn w w' Z p b r M m t' O most e := by
  obtain ⟨v, h1, h2, h3, h4, h5⟩ := h
  exact ⟨⟨v, h1.took T, h2, h3, h4, h5⟩, T.2.mono (fun i hi => by rw [hi]; exact h3)⟩

theorem PS.drewN {w : World} {Z : Nat → Prop} {p b : Nat} {r : Value} {M m t : Nat} {O : List Nat} {most : Int} {e : Nat} (h : PS w Z p b r M m t O most e) (q : Nat) : PS (w.drewN q) Z p b r M m t O most e := by
  obtain ⟨v, h1, h2⟩ := h
  exact ⟨v, h1.drewN q, h2⟩

theorem PS.err {w : World} {Z : Nat → Prop} {p b : Nat} {r : Value} {M m t : Nat} {O : List Nat} {most : Int} {e : Nat} (h : PS w Z p b r M m t O most e) (e' : Nat) : Pn w (w.setCell ⟨p, 3, none⟩ (.int .i64 (e' : Int))) Z p b r M m t O most e' := by
  obtain ⟨v, h1, h2, h3, h4, h5⟩ := h
  exact ⟨⟨v, h1.err e', h2, h3, h4, h5⟩, (Step.refl _ w).setCell _ _ (.inl h2)⟩

theorem Pn.after {w w1 w2 : World} {Z : Nat → Prop} {p b : Nat} {r : Value} {M m t : Nat} {O : List Nat} {most : Int} {e : Nat} (S : Step Z w w1) (h : Pn w1 w2 Z p b r M m t O most e) : Pn w w2 Z p b r M m t O most e := ⟨h.1, S.trans h.2 (fun i hi => .inl hi)⟩

/-- Cells of it. -/
theorem PS.cells {w : World} {Z : Nat → Prop} {p b : Nat} {r : Value} {M m t : Nat} {O : List Nat} {most : Int} {e : Nat} (h : PS w Z p b r M m t O most e) : w.cell? ⟨p, 0, none⟩ = some (.pointer (some ⟨b, 0, none⟩)) ∧ w.cell? ⟨p, 2, none⟩ = some (.int .i64 most) ∧ w.cell? ⟨p, 3, none⟩ = some (.int .i64 (e : Int)) ∧ w.frozen? ⟨p, 3, none⟩ = false ∧ ∃ ao c, w.cell? ⟨p, 1, none⟩ = some (.slice ao O.length c) := by
  obtain ⟨v, h1, _⟩ := h
  obtain ⟨ao, c, hv⟩ := own_slice h1.ow
  exact ⟨h1.ci, h1.cm, h1.ce, h1.f3, ao, c, by rw [← hv]; exact h1.co⟩

/-- What a step of the page's stream leaves, by what is told. -/
def PTold (w w' : World) (Z : Nat → Prop) (p b : Nat) (r : Value) (M m : Nat) (most : Int) (x : Except Nat (Nat × List Nat)) : Prop :=
  match x with
  | .error e => 0 < e ∧ ∃ t O, Pn w w' Z p b r M m t O most e
  | .ok (u, Q) => Pn w w' Z p b r M m u Q most 0

set_option maxHeartbeats 4000000 in
theorem stored_p (Z : Nat → Prop) (p b : Nat) (r : Value) (M m t : Nat) (O : List Nat) (most : Int) (w : World) (h : PS w Z p b r M m t O most 0) (hm : m ≤ 1000000) (hB : ∀ k, w.heap.size ≤ k → Z k) (hO : O.length ≤ 10000000000) (h0 : 0 ≤ most) (h1 : most ≤ 9223372036854775807) :
    Calls Tryz.prog 43 #[.pointer (some ⟨p, 0, none⟩)] w fun e w' => e = .returned (.tuple #[]) ∧ Hid (PTold w w' Z p b r M m most (storedP M m most t O)) := by
  obtain ⟨c0, _, _, _, _⟩ := h.cells
  have H := hidden h
  obtain ⟨u, hu⟩ : ∃ u, u = (t + 7) / 8 * 8 := ⟨_, rfl⟩
  have HU := hidden hu
  have hle : t ≤ 8 * m := by obtain ⟨v, hx, _⟩ := h; exact hx.rx.le
  have hu8 : u % 8 = 0 := by omega
  have hum : u ≤ 8 * m := by omega
  have HA : Hid (Calls Tryz.prog 23 #[.pointer (some ⟨b, 0, none⟩)] w fun e w' => (∃ z, e = .returned (.int .i64 z)) ∧ Hid (Pn w w' Z p b r M m u O most 0)) := by
    obtain ⟨v, hx, _⟩ := id h
    exact hidden ((xalign_any b r M m t w hx.rx (by omega)).mono fun e w' ⟨he, T⟩ => by
      rw [← hu] at T
      exact ⟨⟨_, he⟩, hidden (h.took T)⟩)
  clear h hu
  by_cases g1 : u + 16 ≤ 8 * m
  · by_cases g2 : u + 32 ≤ 8 * m
    · obtain ⟨n, hn, hn2⟩ : ∃ n, n = M / 2 ^ u % 2 ^ 16 ∧ n < 65536 := ⟨_, rfl, Nat.mod_lt _ (by omega)⟩
      obtain ⟨k, hk, hk2⟩ : ∃ k, k = M / 2 ^ (u + 16) % 2 ^ 16 ∧ k < 65536 := ⟨_, rfl, Nat.mod_lt _ (by omega)⟩
      have HN : Hid (M / 2 ^ u % 65536 = n ∧ M / 2 ^ (u + 16) % 65536 = k) := hidden ⟨hn.symm, hk.symm⟩
      obtain ⟨L, hL⟩ : ∃ L, L = O.length := ⟨_, rfl⟩
      have HL := hidden hL
      rw [← hL] at hO
      have hG1 : Hid (∀ w1, PS w1 Z p b r M m u O most 0 → Calls Tryz.prog 42 #[.pointer (some ⟨p, 0, none⟩), .int .i64 (16 : Nat)] w1 fun e w' => e = .returned (.int .i64 (n : Int)) ∧ Hid (Pn w1 w' Z p b r M m (u + 16) O most 0)) := hidden (fun w1 S1 => by rw [hn]; exact pg_ok Z p b r M m u O most 16 w1 S1 hm (by omega) (by omega))
      have hG2 : Hid (∀ w1, PS w1 Z p b r M m (u + 16) O most 0 → Calls Tryz.prog 42 #[.pointer (some ⟨p, 0, none⟩), .int .i64 (16 : Nat)] w1 fun e w' => e = .returned (.int .i64 (k : Int)) ∧ Hid (Pn w1 w' Z p b r M m (u + 32) O most 0)) := hidden (fun w1 S1 => by rw [hk]; exact pg_ok Z p b r M m (u + 16) O most 16 w1 S1 hm (by omega) (by omega))
      clear hn hk hL
      by_cases g3 : n + k = 65535
      · have g3' : ((n : Int) + (k : Int) != 65535) = false := by rw [bne_eq_false_iff_eq]; omega
        by_cases g4 : (n : Int) ≤ most - (L : Int)
        · have g4' : ¬ most - (L : Int) < (n : Int) := by omega
          by_cases g5 : u + 32 + 8 * n ≤ 8 * m
          · have HR : Hid (storedP M m most t O = .ok (u + 32 + 8 * n, O ++ bytesOf (M / 2 ^ (u + 32)) n)) := hidden (by
              simp only [storedP, ← HU.out, HN.out.1, HN.out.2]
              rw [if_pos g2, if_pos g3, if_pos (by rw [← HL.out]; omega), if_pos g5])
            have HRW : Hid (∀ W v, Sx W p b r v M m (u + 32) O most 0 → Calls Tryz.prog 69 #[.pointer (some ⟨b, 0, none⟩), .int .i64 (n : Int)] W fun e w' => ∃ a c, e = .returned (.tuple #[.slice a n c, .int .i64 0]) ∧ (w'.cell? ⟨p, 3, none⟩ = some (.int .i64 0) ∧ w'.frozen? ⟨p, 3, none⟩ = false) ∧ Hid (Rd (w'.setCell ⟨p, 3, none⟩ (.int .i64 0)) (.slice a n c) (bytesOf (M / 2 ^ (u + 32)) n) ∧ Sx w' p b r v M m (u + 32 + 8 * n) O most 0 ∧ Step (fun q => q = b) W w')) := hidden (fun W v hx => (xraw_ok b r M m (u + 32) n W hx.rx (by omega) (by omega) (by omega)).mono fun e w' ⟨rv, he, k1, kb, T⟩ => by
              obtain ⟨a, c, hrv⟩ := own_slice k1
              subst hrv
              have hx2 := hx.took T
              have hpw : p < W.heap.size := World.block_lt_of_cell? W _ hx.ci
              have ho := owns_step k1 ((Step.refl (fun q => q = p) w').setCell ⟨p, 3, none⟩ (.int .i64 0) (.inl rfl)) (fun q hq e => by have := kb q hq; omega)
              exact ⟨a, c, he, ⟨hx2.ce, hx2.f3⟩, hidden ⟨Rd.of_own ho, hx2, T.2⟩⟩)
            clear g4
            go_enter Tryz.func43, Tryz.ntmps43
            go_wp2_with fail
            refine HA.out.mono ?_
            rintro e w1 ⟨⟨z, rfl⟩, R1⟩
            go_wp2_with fail
            refine (hG1.out _ R1.out.1).mono ?_
            rintro e w2 ⟨rfl, R2⟩
            go_wp2_with fail
            refine (hG2.out _ R2.out.1).mono ?_
            rintro e w3 ⟨rfl, R3⟩
            have HS3 := hidden ((R1.out.2.trans R2.out.2 (fun i hi => .inl hi)).trans R3.out.2 (fun i hi => .inl hi))
            obtain ⟨v, hx, h2, h3, h4, h5⟩ := R3.out.1
            obtain ⟨ao, cc, hv⟩ := own_slice hx.ow
            rw [← HL.out] at hv
            subst hv
            have c0' := hx.ci
            have cm := hx.cm
            have ce := hx.ce
            have co := hx.co
            have HX3 := hidden hx
            clear hx
            go_wp2
            go_quiet (fail)
            go_wp2_with fail
            refine (HRW.out _ (.slice ao L cc) (HX3.out.drewN _)).mono ?_
            rintro e w4 ⟨a4, c4, rfl, ⟨ce4, f4⟩, R4⟩
            have HE : Hid (Sx (w4.setCell ⟨p, 3, none⟩ (.int .i64 0)) p b r (.slice ao L cc) M m (u + 32 + 8 * n) O most 0) := hidden (R4.out.2.1.err 0)
            have HOW : Hid ((w4.setCell ⟨p, 3, none⟩ (.int .i64 0)).ownsRow 0 5 1 (.slice ao L cc) L (u8s O)) := hidden (by have := HE.out.ow; rw [← HL.out] at this; exact this)
            have co5 := HE.out.co
            have HRD := hidden R4.out.1
            go_wp2_with (at_builtin; refine append_bytes rfl (.tmp 59) (.tmp 60) rfl _ _ _ rfl HOW.out _ (bytesOf (M / 2 ^ (u + 32)) n) rfl HRD.out ?d1 ?_)
            case d1 => rw [bytesOf_length]; omega
            intro v6 w6 ho6 hg6 hb6
            have St : Step (fun q => (Value.slice ao L cc).ownBlock = some q) (w4.setCell ⟨p, 3, none⟩ (.int .i64 0)) w6 := (Step.refl _ _).grown hg6 (fun q hq => .inl hq)
            have hv6 : v6.ownBlock = (Value.slice ao L cc).ownBlock ∨ ∃ q, v6.ownBlock = some q ∧ (w4.setCell ⟨p, 3, none⟩ (.int .i64 0)).heap.size ≤ q := hb6.imp id (fun e => ⟨_, e, by simp⟩)
            have hcby : ∀ y ∈ (bytesOf (M / 2 ^ (u + 32)) n), y < 256 := bytesOf_lt _ _
            have HA6 := hidden (HE.out.appended (C := (bytesOf (M / 2 ^ (u + 32)) n)) (by rw [← HL.out]; exact ho6) St hv6 hcby)
            have HST := hidden (And.intro St hv6)
            obtain ⟨a6, c6, hvv⟩ := own_slice ho6
            subst hvv
            have c7 := HA6.out.1
            have f7 := HA6.out.2.1
            have HS4 : Hid (Step Z w (w4.setCell ⟨p, 3, none⟩ (.int .i64 0))) := hidden (((HS3.out.drewN _).trans R4.out.2.2 (fun i hi => .inl (by rw [hi]; exact h3))).setCell _ _ (.inl h2))
            clear ho6 hg6 hb6 St hv6 hcby
            go_wp2
            go_end0
            refine ⟨rfl, hidden ?_⟩
            rw [HR.out]
            have hfin : Pn w (w6.setCell ⟨p, 1, none⟩ (.slice a6 (L + (bytesOf (M / 2 ^ (u + 32)) n).length) c6)) Z p b r M m (u + 32 + 8 * n) (O ++ (bytesOf (M / 2 ^ (u + 32)) n)) most 0 := by
              refine ⟨⟨_, HA6.out.2.2, h2, h3, fun q hq => ?_, h5⟩, (HS4.out.trans HST.out.1 (fun i hi => .inl (h4 i hi))).setCell _ _ (.inl h2)⟩
              rcases HST.out.2 with e | ⟨j, e, hj⟩
              · exact h4 q (by rw [← e]; exact hq)
              · rw [e] at hq; have := Option.some.inj hq; have := HS4.out.size; exact hB q (by omega)
            exact hfin
          · have HR : Hid (storedP M m most t O = .error 2) := hidden (by
              simp only [storedP, ← HU.out, HN.out.1, HN.out.2]
              rw [if_pos g2, if_pos g3, if_pos (by rw [← HL.out]; omega), if_neg g5])
            have HRW : Hid (∀ W v, Sx W p b r v M m (u + 32) O most 0 → Calls Tryz.prog 69 #[.pointer (some ⟨b, 0, none⟩), .int .i64 (n : Int)] W fun e w' => e = .returned (.tuple #[.slice none 0 0, .int .i64 2]) ∧ (w'.cell? ⟨p, 3, none⟩ = some (.int .i64 0) ∧ w'.frozen? ⟨p, 3, none⟩ = false) ∧ Hid (Rd (w'.setCell ⟨p, 3, none⟩ (.int .i64 2)) (.slice none 0 0) [] ∧ Sx w' p b r v M m (u + 32) O most 0 ∧ Step (fun q => q = b) W w')) := hidden (fun W v hx => (xraw_short b r M m (u + 32) n W hx.rx (by omega) (by omega) (by omega) (by omega)).mono fun e w' ⟨he, hw⟩ => by
              subst hw
              exact ⟨he, ⟨hx.ce, hx.f3⟩, hidden ⟨rd_none _, hx, Step.refl _ _⟩⟩)
            clear g4
            go_enter Tryz.func43, Tryz.ntmps43
            go_wp2_with fail
            refine HA.out.mono ?_
            rintro e w1 ⟨⟨z, rfl⟩, R1⟩
            go_wp2_with fail
            refine (hG1.out _ R1.out.1).mono ?_
            rintro e w2 ⟨rfl, R2⟩
            go_wp2_with fail
            refine (hG2.out _ R2.out.1).mono ?_
            rintro e w3 ⟨rfl, R3⟩
            have HS3 := hidden ((R1.out.2.trans R2.out.2 (fun i hi => .inl hi)).trans R3.out.2 (fun i hi => .inl hi))
            obtain ⟨v, hx, h2, h3, h4, h5⟩ := R3.out.1
            obtain ⟨ao, cc, hv⟩ := own_slice hx.ow
            rw [← HL.out] at hv
            subst hv
            have c0' := hx.ci
            have cm := hx.cm
            have ce := hx.ce
            have co := hx.co
            have HX3 := hidden hx
            clear hx
            go_wp2
            go_quiet (fail)
            go_wp2_with fail
            refine (HRW.out _ (.slice ao L cc) (HX3.out.drewN _)).mono ?_
            rintro e w4 ⟨rfl, ⟨ce4, f4⟩, R4⟩
            have HE : Hid (Sx (w4.setCell ⟨p, 3, none⟩ (.int .i64 2)) p b r (.slice ao L cc) M m (u + 32) O most 2) := hidden (R4.out.2.1.err 2)
            have HOW : Hid ((w4.setCell ⟨p, 3, none⟩ (.int .i64 2)).ownsRow 0 5 1 (.slice ao L cc) L (u8s O)) := hidden (by have := HE.out.ow; rw [← HL.out] at this; exact this)
            have co5 := HE.out.co
            have HRD := hidden R4.out.1
            go_wp2_with (at_builtin; refine append_bytes rfl (.tmp 59) (.tmp 60) rfl _ _ _ rfl HOW.out _ ([] : List Nat) rfl HRD.out ?d1 ?_)
            case d1 => simp; omega
            intro v6 w6 ho6 hg6 hb6
            have St : Step (fun q => (Value.slice ao L cc).ownBlock = some q) (w4.setCell ⟨p, 3, none⟩ (.int .i64 2)) w6 := (Step.refl _ _).grown hg6 (fun q hq => .inl hq)
            have hv6 : v6.ownBlock = (Value.slice ao L cc).ownBlock ∨ ∃ q, v6.ownBlock = some q ∧ (w4.setCell ⟨p, 3, none⟩ (.int .i64 2)).heap.size ≤ q := hb6.imp id (fun e => ⟨_, e, by simp⟩)
            have hcby : ∀ y ∈ ([] : List Nat), y < 256 := (fun _ h => by cases h)
            have HA6 := hidden (HE.out.appended (C := ([] : List Nat)) (by rw [← HL.out]; simpa using ho6) St hv6 hcby)
            have HST := hidden (And.intro St hv6)
            obtain ⟨a6, c6, hvv⟩ := own_slice ho6
            subst hvv
            have c7 := HA6.out.1
            have f7 := HA6.out.2.1
            have HS4 : Hid (Step Z w (w4.setCell ⟨p, 3, none⟩ (.int .i64 2))) := hidden (((HS3.out.drewN _).trans R4.out.2.2 (fun i hi => .inl (by rw [hi]; exact h3))).setCell _ _ (.inl h2))
            clear ho6 hg6 hb6 St hv6 hcby
            go_wp2
            go_end0
            refine ⟨rfl, hidden ?_⟩
            rw [HR.out]
            have hfin : Pn w (w6.setCell ⟨p, 1, none⟩ (.slice a6 L c6)) Z p b r M m (u + 32) (O ++ ([] : List Nat)) most 2 := by
              refine ⟨⟨_, HA6.out.2.2, h2, h3, fun q hq => ?_, h5⟩, (HS4.out.trans HST.out.1 (fun i hi => .inl (h4 i hi))).setCell _ _ (.inl h2)⟩
              rcases HST.out.2 with e | ⟨j, e, hj⟩
              · exact h4 q (by rw [← e]; exact hq)
              · rw [e] at hq; have := Option.some.inj hq; have := HS4.out.size; exact hB q (by omega)
            exact ⟨by omega, u + 32, _, hfin⟩
        · have g4' : most - (L : Int) < (n : Int) := by omega
          have HR : Hid (storedP M m most t O = .error 5) := hidden (by
            simp only [storedP, ← HU.out, HN.out.1, HN.out.2]
            rw [if_pos g2, if_pos g3, if_neg (by rw [← HL.out]; omega)])
          clear g4
          go_enter Tryz.func43, Tryz.ntmps43
          go_wp2_with fail
          refine HA.out.mono ?_
          rintro e w1 ⟨⟨z, rfl⟩, R1⟩
          go_wp2_with fail
          refine (hG1.out _ R1.out.1).mono ?_
          rintro e w2 ⟨rfl, R2⟩
          go_wp2_with fail
          refine (hG2.out _ R2.out.1).mono ?_
          rintro e w3 ⟨rfl, R3⟩
          have HS3 := hidden ((R1.out.2.trans R2.out.2 (fun i hi => .inl hi)).trans R3.out.2 (fun i hi => .inl hi))
          obtain ⟨c0', cm, ce, f3, ao, cc, co⟩ := R3.out.1.cells
          rw [← HL.out] at co
          go_wp2
          go_quiet (fail)
          go_wp2
          refine bodyPost_ret (results_none rfl _ _ _) rfl ?_
          refine ⟨rfl, hidden ?_⟩
          rw [HR.out]
          exact ⟨by omega, u + 32, O, Pn.after (HS3.out.drewN _) ((R3.out.1.drewN _).err 5)⟩
      · have g3' : ((n : Int) + (k : Int) != 65535) = true := by rw [bne_iff_ne]; omega
        have HR : Hid (storedP M m most t O = .error 3) := hidden (by
          simp only [storedP, ← HU.out, HN.out.1, HN.out.2]
          rw [if_pos g2, if_neg g3])
        clear g3
        go_enter Tryz.func43, Tryz.ntmps43
        go_wp2_with fail
        refine HA.out.mono ?_
        rintro e w1 ⟨⟨z, rfl⟩, R1⟩
        go_wp2_with fail
        refine (hG1.out _ R1.out.1).mono ?_
        rintro e w2 ⟨rfl, R2⟩
        go_wp2_with fail
        refine (hG2.out _ R2.out.1).mono ?_
        rintro e w3 ⟨rfl, R3⟩
        have HS3 := hidden ((R1.out.2.trans R2.out.2 (fun i hi => .inl hi)).trans R3.out.2 (fun i hi => .inl hi))
        obtain ⟨c0', cm, ce, f3, ao, cc, co⟩ := R3.out.1.cells
        rw [← HL.out] at co
        go_wp2
        refine bodyPost_ret (results_none rfl _ _ _) rfl ?_
        refine ⟨rfl, hidden ?_⟩
        rw [HR.out]
        exact ⟨by omega, u + 32, O, Pn.after HS3.out (R3.out.1.err 3)⟩
    · have HR : Hid (storedP M m most t O = .error 2) := hidden (by
        simp only [storedP, ← HU.out]
        rw [if_neg g2])
      obtain ⟨n, hn⟩ : ∃ n, n = M / 2 ^ u % 2 ^ 16 := ⟨_, rfl⟩
      have hG1 : Hid (∀ w1, PS w1 Z p b r M m u O most 0 → Calls Tryz.prog 42 #[.pointer (some ⟨p, 0, none⟩), .int .i64 (16 : Nat)] w1 fun e w' => e = .returned (.int .i64 (n : Int)) ∧ Hid (Pn w1 w' Z p b r M m (u + 16) O most 0)) := hidden (fun w1 S1 => by rw [hn]; exact pg_ok Z p b r M m u O most 16 w1 S1 hm (by omega) (by omega))
      have hG2 : Hid (∀ w1, PS w1 Z p b r M m (u + 16) O most 0 → Calls Tryz.prog 42 #[.pointer (some ⟨p, 0, none⟩), .int .i64 (16 : Nat)] w1 fun e w' => e = .returned (.int .i64 0) ∧ Hid (Pn w1 w' Z p b r M m (u + 16) O most 2)) := hidden (fun w1 S1 => pg_short Z p b r M m (u + 16) O most 16 w1 S1 hm (by omega) (by omega))
      clear hn
      go_enter Tryz.func43, Tryz.ntmps43
      go_wp2_with fail
      refine HA.out.mono ?_
      rintro e w1 ⟨⟨z, rfl⟩, R1⟩
      go_wp2_with fail
      refine (hG1.out _ R1.out.1).mono ?_
      rintro e w2 ⟨rfl, R2⟩
      go_wp2_with fail
      refine (hG2.out _ R2.out.1).mono ?_
      rintro e w3 ⟨rfl, R3⟩
      obtain ⟨_, _, ce, _, _⟩ := R3.out.1.cells
      go_wp2
      refine bodyPost_ret (results_none rfl _ _ _) rfl ?_
      refine ⟨rfl, hidden ?_⟩
      rw [HR.out]
      exact ⟨by omega, u + 16, O, Pn.after (R1.out.2.trans R2.out.2 (fun i hi => .inl hi)) R3.out⟩
  · have HR : Hid (storedP M m most t O = .error 2) := hidden (by
      simp only [storedP, ← HU.out]
      rw [if_neg (by omega)])
    have hG1 : Hid (∀ w1, PS w1 Z p b r M m u O most 0 → Calls Tryz.prog 42 #[.pointer (some ⟨p, 0, none⟩), .int .i64 (16 : Nat)] w1 fun e w' => e = .returned (.int .i64 0) ∧ Hid (Pn w1 w' Z p b r M m u O most 2)) := hidden (fun w1 S1 => pg_short Z p b r M m u O most 16 w1 S1 hm (by omega) (by omega))
    have hG2 : Hid (∀ w1, PS w1 Z p b r M m u O most 2 → Calls Tryz.prog 42 #[.pointer (some ⟨p, 0, none⟩), .int .i64 16] w1 fun e w' => e = .returned (.int .i64 0) ∧ w' = w1) := hidden (fun w1 S1 => by
      obtain ⟨v, hx, _⟩ := S1
      exact pget_err p b r v M m u O most 16 2 w1 hx (by omega))
    go_enter Tryz.func43, Tryz.ntmps43
    go_wp2_with fail
    refine HA.out.mono ?_
    rintro e w1 ⟨⟨z, rfl⟩, R1⟩
    go_wp2_with fail
    refine (hG1.out _ R1.out.1).mono ?_
    rintro e w2 ⟨rfl, R2⟩
    go_wp2_with fail
    refine (hG2.out _ R2.out.1).mono ?_
    rintro e w3 ⟨rfl, rfl⟩
    obtain ⟨_, _, ce, _, _⟩ := R2.out.1.cells
    go_wp2
    refine bodyPost_ret (results_none rfl _ _ _) rfl ?_
    refine ⟨rfl, hidden ?_⟩
    rw [HR.out]
    exact ⟨by omega, u, O, Pn.after R1.out.2 R2.out⟩

end Go.Proofs.YtcgjmkcigmmjjaaGreatDoor

namespace Go.Proofs.YtcgjmkcigmmjjaaGreatDoor
open Go.RowKit
set_option maxRecDepth 100000
set_option linter.unusedVariables false
set_option maxHeartbeats 1000000 in
theorem refFill_any (v : Value) (L : List Int) (w : World) (h : Ri w v L) (hl : L.length ≤ 400) (hok : ∀ x ∈ L, 0 ≤ x ∧ x ≤ 15) :
    Calls Tryz.prog 73 #[v] w fun e w' => e = .returned (.int .i64 (fl (cf L) 16)) ∧ w' = w := by
  have HE := hidden (flt_all L hok)
  have HO := hidden hok
  obtain ⟨ao, cap, rfl, hcap, h1, h2⟩ := h
  have H1 := hidden h1
  have H2 := hidden h2
  obtain ⟨n, hn⟩ : ∃ n, n = L.length := ⟨_, rfl⟩
  have Hn := hidden hn
  rw [← hn] at hl hcap HE ⊢
  clear h1 h2 hn hok
  go_enter Tryz.func73, Tryz.ntmps73
  go_wp2
  go_loopw [3, 4] (fun s i wr => ∃ k : Nat, k ≤ n ∧ i = .int .i64 k ∧ s = .int .i64 (flt L k) ∧ wr = w) (fun _ i _ => n - (intOf i).toNat)
  case atStart => exact ⟨0, Nat.zero_le _, rfl, rfl, rfl⟩
  case round =>
    obtain ⟨k, hk, rfl, rfl, rfl⟩ := hrel
    by_cases hlt : k < n
    · have hkL : k < L.length := by have := Hn.out; omega
      cases ao with
      | none => have := (H1.out rfl).1; subst this; simp at hkL
      | some a =>
        obtain ⟨ba, oa, rfl, ka⟩ := H2.out a rfl (by intro e; subst e; simp at hkL)
        have ca := ka k hkL
        have k1 : (k : Int) < (n : Int) := by omega
        have hin := HO.out (L.getD k 0) (by rw [getD_i L k hkL]; exact List.getElem_mem hkL)
        have fb := flt_bd L k
        have fb2 := flt_bd L (k + 1)
        have HF := hidden (show flt L (k + 1) = flt L k + if 0 < L.getD k 0 then 2 ^ (15 - (L.getD k 0).toNat) else 0 from rfl)
        clear ka hkL
        obtain ⟨x, hx⟩ := Int.eq_ofNat_of_zero_le hin.1
        have hx15 := hin.2
        rw [hx] at ca hx15 HF
        clear hin hx
        rw [Int.toNat_natCast] at HF
        by_cases hz : x = 0
        · subst hz
          have HF' := hidden (show flt L (k + 1) = flt L k by rw [HF.out, if_neg (by simp)]; omega)
          go_wp2
          go_roundw
          case rel => exact ⟨k + 1, by omega, by go_num, by rw [HF'.out], by trivial⟩
          case measure => simp [intOf]; omega
        · have hx0 : (0 : Int) < (x : Int) := by omega
          have hp := ipow_pos (15 - x)
          have HF' := hidden (show flt L k + 2 ^ (15 - x) = flt L (k + 1) by rw [HF.out, if_pos hx0])
          have e15 : ((15 : Int) - (x : Int)).toNat = 15 - x := by omega
          have hlim : (2 : Int) ^ (15 - x) ≤ 32768 := by
            have : (2 ^ (15 - x) : Nat) ≤ 2 ^ 15 := Nat.pow_le_pow_right (by omega) (by omega)
            have e : ((2 ^ (15 - x) : Nat) : Int) = (2 : Int) ^ (15 - x) := by simp
            omega
          have k400 : (k : Int) ≤ 400 := by omega
          go_wp2
          go_roundw
          case rel => exact ⟨k + 1, by omega, by go_num, by rw [HF'.out], by trivial⟩
          case measure => simp [intOf]; omega
    · have e : k = n := by omega
      subst e
      go_wp2
      go_ret
      exact ⟨by rw [← HE.out]; rfl, rfl⟩

end Go.Proofs.YtcgjmkcigmmjjaaGreatDoor

namespace Go.Proofs.YtcgjmkcigmmjjaaGreatDoor
open Go.RowKit
set_option maxRecDepth 100000
set_option linter.unusedVariables false
set_option maxHeartbeats 1000000 in
theorem is_any (v : Value) (L : List Int) (w : World) (h : Ri w v L) (hl : L.length ≤ 9223372036854775807) :
    Calls Tryz.prog 72 #[v] w fun e w' => e = .returned (.bool (okB L)) ∧ w' = w := by
  obtain ⟨ao, cap, rfl, hcap, h1, h2⟩ := h
  have H1 := hidden h1
  have H2 := hidden h2
  obtain ⟨n, hn⟩ : ∃ n, n = L.length := ⟨_, rfl⟩
  have Hn := hidden hn
  rw [← hn] at hl hcap ⊢
  clear h1 h2 hn
  by_cases h320 : n ≤ 320
  · go_enter Tryz.func72, Tryz.ntmps72
    go_wp2
    go_loopw [3] (fun i wr => ∃ k : Nat, k ≤ n ∧ i = .int .i64 k ∧ wr = w ∧ Hid (okTo L k)) (fun i _ => n - (intOf i).toNat)
    case atStart => exact ⟨0, Nat.zero_le _, rfl, rfl, fun j hj => by omega⟩
    case round =>
      obtain ⟨k, hk, rfl, rfl, hok⟩ := hrel
      by_cases hlt : k < n
      · have hkL : k < L.length := by have := Hn.out; omega
        cases ao with
        | none => have := (H1.out rfl).1; subst this; simp at hkL
        | some a =>
          obtain ⟨ba, oa, rfl, ka⟩ := H2.out a rfl (by intro e; subst e; simp at hkL)
          have ca := ka k hkL
          have k1 : (k : Int) < (n : Int) := by omega
          have HKL := hidden hkL
          clear ka hkL
          by_cases hin : 0 ≤ L.getD k 0 ∧ L.getD k 0 ≤ 15
          · have HO := hidden (okTo_succ hok.out hin)
            obtain ⟨x0, x1⟩ := hin
            generalize L.getD k 0 = x at *
            go_wp2
            go_roundw
            case rel => exact ⟨k + 1, by omega, by go_num, by trivial, HO.out⟩
            case measure => simp [intOf]; omega
          · have HB := hidden (okB_bad HKL.out hin)
            generalize L.getD k 0 = x at *
            by_cases hneg : x < 0
            · go_wp2
              go_ret
              exact ⟨by rw [HB.out]; rfl, rfl⟩
            · have hpos : 0 ≤ x := by omega
              have hbig : 15 < x := by omega
              go_wp2
              go_ret
              exact ⟨by rw [HB.out]; rfl, rfl⟩
      · have ek : k = L.length := by have := Hn.out; omega
        have HB := hidden (okTo_all (L := L) (ek ▸ hok.out) (by have := Hn.out; omega))
        clear ek
        go_wp2
        go_ret
        exact ⟨by rw [HB.out]; rfl, rfl⟩
  · have HB := hidden (show okB L = false by
      cases e : okB L with
      | false => rfl
      | true => exact absurd ((okB_iff L).1 e).1 (by have := Hn.out; omega))
    have h3 : (320 : Int) < (n : Int) := by omega
    go_enter Tryz.func72, Tryz.ntmps72
    go_wp2
    go_ret
    exact ⟨by rw [HB.out]; rfl, rfl⟩

set_option maxHeartbeats 2000000 in
theorem refCodes_any (v : Value) (L : List Int) (w : World) (h : Ri w v L) (hl : L.length ≤ 9223372036854775807) :
    Calls Tryz.prog 74 #[v] w (CodesP L w) := by
  have HI := hidden (is_any v L w h hl)
  have HFi := hidden (fun (h1 : L.length ≤ 400) (h2 : ∀ x ∈ L, 0 ≤ x ∧ x ≤ 15) => refFill_any v L w h h1 h2)
  have HR := hidden h
  obtain ⟨ao, cap, rfl, hcap, r1, r2⟩ := h
  have H1 := hidden r1
  have H2 := hidden r2
  obtain ⟨n, hn⟩ : ∃ n, n = L.length := ⟨_, rfl⟩
  have Hn := hidden hn
  rw [← hn] at hl hcap HI HFi HR ⊢
  clear hn r1 r2
  cases hok : okB L with
  | false =>
    have E := hidden hok
    rw [hok] at HI
    clear hok
    go_enter Tryz.func74, Tryz.ntmps74
    go_wp2_with (go_at_call 72; refine HI.out.mono ?_; rintro e w1 ⟨rfl, hw⟩; rw [hw]; clear hw w1)
    go_ret2
    exact ⟨.slice none 0 0, by rw [show codeErr L = 1 by simp [codeErr, E.out]]; rfl, by rw [show codesR L = [] by simp [codesR, E.out]]; exact ri_nil _, (fun a n c h => by cases h), Step.refl _ _⟩
  | true =>
    have E := hidden hok
    have hL := (okB_iff L).1 hok
    have HL := hidden hL
    have h320 : n ≤ 320 := by rw [Hn.out]; exact hL.1
    have HF := hidden (HFi.out (by omega) hL.2)
    have hb := fun k => cf_get L k hL.1
    have HB := hidden hb
    rw [hok] at HI
    clear hok hL hb
    by_cases hfull : fl (cf L) 16 ≤ 32768
    · have X1 := hidden (show codeErr L = 0 by simp [codeErr, E.out, hfull])
      have X2 := hidden (show codesR L = codes L by simp [codesR, E.out, hfull])
      have hf2 : ¬ 32768 < fl (cf L) 16 := by omega
      clear hfull
      generalize fl (cf L) 16 = F at *
      go_enter Tryz.func74, Tryz.ntmps74
      go_wp2_with (first | (go_at_call 72; refine HI.out.mono ?_; rintro e w1 ⟨rfl, hw⟩; rw [hw]; clear hw w1) | (go_at_call 73; refine HF.out.mono ?_; rintro e w1 ⟨rfl, hw⟩; rw [hw]; clear hw w1) | (refine makeInts n _ rfl rfl rfl (by omega) ?_))
      intro w2 hs2 hz2 ha2
      have HS2 := hidden hs2
      have HA2 := hidden ha2
      clear hs2 ha2
      go_wp2
      go_loopw [5, 6, 7] (fun x nv _ wr => ∃ N : Nat, 1 ≤ N ∧ N ≤ 16 ∧ nv = .int .i64 (N : Int) ∧ x = .int .i64 (stf (cf L) (N - 1) + cf L (N - 1)) ∧ Hid (Step (fun _ => False) w wr ∧ Af wr w.heap.size n (laid L N 0))) (fun _ nv _ _ => 17 - (intOf nv).toNat)
      case atStart => exact ⟨1, by omega, by omega, rfl, by simp [stf, cf], HS2.out, HA2.out.congr (fun j hj => (laid_start L HL.out.2 j (by have := Hn.out; omega)).symm)⟩
      case round =>
        obtain ⟨N, hN1, hN16, rfl, rfl, hrest⟩ := hrel
        by_cases hlt : N ≤ 15
        · have sb := stf_bd' (cf L) (fun k => (HB.out k).1) (fun k => (HB.out k).2) (N - 1) (by omega)
          have cb := HB.out (N - 1)
          have HST := hidden (stf_succ (cf L) N hN1)
          have hN15 : (N : Int) ≤ 15 := by omega
          generalize stf (cf L) (N - 1) = s1 at *
          generalize cf L (N - 1) = c1 at *
          go_wp2
          go_loopw [5, 7] (fun x iv wr => ∃ i : Nat, i ≤ n ∧ iv = .int .i64 (i : Int) ∧ x = .int .i64 (stf (cf L) N + cf (L.take i) N) ∧ Hid (Step (fun _ => False) w wr ∧ Af wr w.heap.size n (laid L N i))) (fun _ iv _ => n - (intOf iv).toNat)
          case atStart => exact ⟨0, Nat.zero_le _, rfl, by rw [HST.out]; simp [cf_nil], hrest.out⟩
          case round =>
            obtain ⟨i, hi, rfl, rfl, hrest2⟩ := hrel
            by_cases hin : i < n
            · have hkL : i < L.length := by have := Hn.out; omega
              cases ao with
              | none => have := (H1.out rfl).1; subst this; simp at hkL
              | some a =>
                obtain ⟨ba, oa, rfl, ka⟩ := H2.out a rfl (by intro e; subst e; simp at hkL)
                have ca := hs_cell hrest2.out.1 (ka i hkL)
                have k1 : (i : Int) < (n : Int) := by omega
                obtain ⟨g1, g2⟩ := hrest2.out.2 i hin
                have sb2 := stf_bd' (cf L) (fun k => (HB.out k).1) (fun k => (HB.out k).2) N (by omega)
                have cb2 := cf_bd (L.take i) N
                have cb3 : (L.take i).length ≤ 320 := by simp; omega
                have HKL := hidden hkL
                clear ka hkL
                by_cases heq : L.getD i 0 = (N : Int)
                · have HY := hidden (fun j => laid_yes L N i j (by omega) heq)
                  have HCY := hidden (cf_take_yes L N i (by omega) HKL.out heq)
                  rw [heq] at ca
                  have hbe : ((N : Int) == (N : Int)) = true := by simp
                  have hv0 : 0 ≤ stf (cf L) N + cf (L.take i) N := by omega
                  have hv1 : stf (cf L) N + cf (L.take i) N ≤ 50000000 := by omega
                  generalize hv : stf (cf L) N + cf (L.take i) N = x at *
                  have HV := hidden hv
                  clear sb2 cb2 heq hv
                  go_wp2
                  go_roundw
                  case rel =>
                    refine ⟨i + 1, by omega, by go_num, by rw [HCY.out, ← Int.add_assoc, HV.out], hrest2.out.1.setCell _ _ (.inr (Nat.le_refl _)), ?_⟩
                    refine Af.congr (hrest2.out.2.set i x) (fun j _ => ?_)
                    rw [HY.out]
                  case measure => simp [intOf]; omega
                · have HY := hidden (fun j => laid_no L N i j heq)
                  have HCY := hidden (cf_take_not L N i HKL.out heq)
                  have hbe : (L.getD i 0 == (N : Int)) = false := by rw [beq_eq_false_iff_ne]; exact heq
                  generalize L.getD i 0 = y at *
                  generalize hv : stf (cf L) N + cf (L.take i) N = x at *
                  have HV := hidden hv
                  clear sb2 cb2 heq hv
                  go_wp2
                  go_roundw
                  case rel => exact ⟨i + 1, by omega, by go_num, by rw [HCY.out, HV.out], hrest2.out.1, hrest2.out.2.congr (fun j _ => (HY.out j).symm)⟩
                  case measure => simp [intOf]; omega
            · have ei : i = L.length := by have := Hn.out; omega
              have HTK := hidden (show L.take i = L from List.take_of_length_le (by omega))
              have HEI := hidden ei
              clear ei
              go_wp2
              go_roundw
              case rel =>
                refine ⟨N + 1, by omega, by omega, by go_num, by rw [HTK.out, Nat.add_sub_cancel], hrest2.out.1, hrest2.out.2.congr (fun j hj => ?_)⟩
                rw [laid_next L HL.out.2 N j (by omega) (by have := Hn.out; omega), HEI.out]
              case measure => simp [intOf]; omega
        · have e : N = 16 := by omega
          subst e
          go_wp2
          go_ret2
          refine ⟨.slice (some ⟨w.heap.size, 0, none⟩) n n, by rw [X1.out]; rfl, ?_, ?_, hrest.out.1⟩
          · rw [X2.out]
            exact hrest.out.2.ri (by rw [codes_length, Hn.out]) (Nat.le_refl _) (fun j hj => by rw [codes_getD L j (by have := Hn.out; omega), laid_end L HL.out.2 j (by have := Hn.out; omega)])
          · intro a n c h
            injection h with h1
            have := Option.some.inj h1
            subst this
            exact Nat.le_refl _
    · have X1 := hidden (show codeErr L = 21 by simp [codeErr, E.out, hfull])
      have X2 := hidden (show codesR L = [] by simp [codesR, hfull])
      have hf2 : 32768 < fl (cf L) 16 := by omega
      clear hfull
      generalize fl (cf L) 16 = F at *
      go_enter Tryz.func74, Tryz.ntmps74
      go_wp2_with (first | (go_at_call 72; refine HI.out.mono ?_; rintro e w1 ⟨rfl, hw⟩; rw [hw]; clear hw w1) | (go_at_call 73; refine HF.out.mono ?_; rintro e w1 ⟨rfl, hw⟩; rw [hw]; clear hw w1))
      go_ret2
      exact ⟨.slice none 0 0, by rw [X1.out]; rfl, by rw [X2.out]; exact ri_nil _, (fun a n c h => by cases h), Step.refl _ _⟩

end Go.Proofs.YtcgjmkcigmmjjaaGreatDoor

namespace Go.Proofs.YtcgjmkcigmmjjaaGreatDoor
open Go.RowKit
set_option maxRecDepth 100000
set_option linter.unusedVariables false
/-- The page's decoder in block d. -/
structure RDec (w : World) (d : Nat) (L : List Int) (vc vl : Value) (code n : Nat) : Prop where
  c0 : w.cell? ⟨d, 0, none⟩ = some vc
  c1 : w.cell? ⟨d, 1, none⟩ = some vl
  c2 : w.cell? ⟨d, 2, none⟩ = some (.int .i64 (code : Int))
  c3 : w.cell? ⟨d, 3, none⟩ = some (.int .i64 (n : Int))
  rc : Ri w vc (codes L)
  rl : Ri w vl L
  f2 : w.frozen? ⟨d, 2, none⟩ = false
  f3 : w.frozen? ⟨d, 3, none⟩ = false
  nc : ∀ a n c, vc = .slice (some a) n c → codes L ≠ [] → a.block < d
  nl : ∀ a n c, vl = .slice (some a) n c → L ≠ [] → a.block < d

/-- What the page's New leaves. -/
def RNewP (L : List Int) (w : World) (e : Ending) (w' : World) : Prop :=
  (newErr L ≠ 0 ∧ e = .returned (.tuple #[.pointer none, .int .i64 (newErr L)]) ∧ Step (fun _ => False) w w') ∨
  (newErr L = 0 ∧ ∃ d vc vl, e = .returned (.tuple #[.pointer (some ⟨d, 0, none⟩), .int .i64 0]) ∧ w.heap.size ≤ d ∧ RDec w' d L vc vl 0 0 ∧ (∀ a n c, vc = .slice (some a) n c → w.heap.size ≤ a.block) ∧ (∀ a n c, vl = .slice (some a) n c → w.heap.size ≤ a.block) ∧ Step (fun _ => False) w w')

theorem ri_block {w : World} {a : Addr} {n c : Nat} {L : List Int} (h : Ri w (.slice (some a) n c) L) (hne : L ≠ []) : a.block < w.heap.size := by
  obtain ⟨ao, c', e, _, _, h2⟩ := h
  injection e with e1
  obtain ⟨b, o, rfl, hc⟩ := h2 a e1.symm hne
  exact World.block_lt_of_cell? w _ (hc 0 (by cases L; exact absurd rfl hne; simp))

theorem rdec_new {w : World} {L : List Int} {a1 a2 : Option Addr} {n1 n2 k1 k2 : Nat} (r1 : Ri w (.slice a1 n1 k1) (codes L)) (r2 : Ri w (.slice a2 n2 k2) L) (t : TypeId) :
    RDec (w.alloc (.cells #[.slice a1 n1 k1, .slice a2 n2 k2, .int .i64 0, .int .i64 0] t)) w.heap.size L (.slice a1 n1 k1) (.slice a2 n2 k2) 0 0 := by
  have hc : ∀ k v, (#[Value.slice a1 n1 k1, .slice a2 n2 k2, .int .i64 0, .int .i64 0])[k]? = some v → (w.alloc (.cells #[.slice a1 n1 k1, .slice a2 n2 k2, .int .i64 0, .int .i64 0] t)).cell? ⟨w.heap.size, k, none⟩ = some v := fun k v h => by rw [World.cell?_alloc_at _ _ _ _ rfl]; exact h
  exact ⟨hc 0 _ rfl, hc 1 _ rfl, hc 2 _ rfl, hc 3 _ rfl, r1.made ((Step.refl _ w).alloc _), r2.made ((Step.refl _ w).alloc _), World.frozen?_alloc_at _ _ _ _ rfl, World.frozen?_alloc_at _ _ _ _ rfl,
    fun a n c e ne => by injection e with e1; subst e1; exact ri_block r1 ne, fun a n c e ne => by injection e with e1; subst e1; exact ri_block r2 ne⟩

set_option maxHeartbeats 4000000 in
theorem refNew_any (v : Value) (L : List Int) (w : World) (h : Ri w v L) (hl : L.length ≤ 9223372036854775807) :
    Calls Tryz.prog 46 #[v] w (RNewP L w) := by
  obtain ⟨i0, hi, hz0, hz1, hz2⟩ := info_parts Tryz.info3
  have HI := hidden (is_any v L w h hl)
  have HFi := hidden (fun (h1 : L.length ≤ 400) (h2 : ∀ x ∈ L, 0 ≤ x ∧ x ≤ 15) => refFill_any v L w h h1 h2)
  have HCO := hidden (refCodes_any v L w h hl)
  have HR := hidden h
  obtain ⟨ao, cap, rfl, hcap, r1, r2⟩ := h
  have H1 := hidden r1
  have H2 := hidden r2
  obtain ⟨n, hn⟩ : ∃ n, n = L.length := ⟨_, rfl⟩
  have Hn := hidden hn
  rw [← hn] at hl hcap HI HFi HCO HR ⊢
  clear hn r1 r2
  cases hok : okB L with
  | false =>
    have X := hidden (show newErr L = 1 by simp [newErr, hok])
    rw [hok] at HI
    clear hok
    go_enter Tryz.func46, Tryz.ntmps46
    go_wp2_with (go_at_call 72; refine HI.out.mono ?_; rintro e w1 ⟨rfl, hw⟩; rw [hw]; clear hw w1)
    go_ret2
    exact .inl ⟨by rw [X.out]; omega, by rw [X.out]; rfl, Step.refl _ _⟩
  | true =>
    have E := hidden hok
    have HL := hidden ((okB_iff L).1 hok)
    have h320 : n ≤ 320 := by rw [Hn.out]; exact HL.out.1
    have HF := hidden (HFi.out (by omega) HL.out.2)
    rw [hok] at HI
    clear hok
    go_enter Tryz.func46, Tryz.ntmps46
    go_wp2_with (go_at_call 72; refine HI.out.mono ?_; rintro e w1 ⟨rfl, hw⟩; rw [hw]; clear hw w1)
    go_loopw [4, 5, 6] (fun m o i wr => ∃ k : Nat, k ≤ n ∧ i = .int .i64 (k : Int) ∧ m = .int .i64 (mny L k) ∧ o = .int .i64 (onl L k) ∧ wr = w) (fun _ _ i _ => n - (intOf i).toNat)
    case atStart => exact ⟨0, Nat.zero_le _, rfl, rfl, rfl, rfl⟩
    case round =>
      obtain ⟨k, hk, rfl, rfl, rfl, hww⟩ := hrel
      subst hww
      by_cases hlt : k < n
      · have hkL : k < L.length := by have := Hn.out; omega
        cases ao with
        | none => have := (H1.out rfl).1; subst this; simp at hkL
        | some a =>
          obtain ⟨ba, oa, rfl, ka⟩ := H2.out a rfl (by intro e; subst e; simp at hkL)
          have ca := ka k hkL
          have k1 : (k : Int) < (n : Int) := by omega
          have mb := mny_bd L k
          have HM := hidden (show mny L (k + 1) = if 0 < L.getD k 0 then mny L k + 1 else mny L k from rfl)
          have HN := hidden (show onl L (k + 1) = if 0 < L.getD k 0 then L.getD k 0 else onl L k from rfl)
          clear ka hkL
          generalize L.getD k 0 = x at *
          generalize mny L k = mk at *
          generalize onl L k = ok at *
          by_cases hx : 0 < x
          · rw [if_pos hx] at HM HN
            go_wp2
            go_roundw
            case rel => exact ⟨k + 1, by omega, by go_num, by rw [HM.out], by rw [HN.out], by trivial⟩
            case measure => simp [intOf]; omega
          · rw [if_neg hx] at HM HN
            go_wp2
            go_roundw
            case rel => exact ⟨k + 1, by omega, by go_num, by rw [HM.out], by rw [HN.out], by trivial⟩
            case measure => simp [intOf]; omega
      · have e : k = n := by omega
        subst e
        have HFW := hidden (few_iff L HL.out.2)
        rw [← Hn.out] at HFW
        generalize hM : mny L k = M at *
        generalize hO : onl L k = O at *
        clear hM hO
        by_cases hbad : ¬ fl (cf L) 16 = 32768 ∧ ¬ M = 0 ∧ (¬ M = 1 ∨ ¬ O = 1)
        · have X := hidden (show newErr L = 21 by
            unfold newErr
            rw [if_pos E.out, if_neg]
            rintro (h | h)
            · exact hbad.1 h
            · have := HFW.out.1 h; omega)
          obtain ⟨q1, q2, q3⟩ := hbad
          have b1 : (fl (cf L) 16 != 32768) = true := by rw [bne_iff_ne]; exact q1
          have b2 : (M != 0) = true := by rw [bne_iff_ne]; exact q2
          generalize fl (cf L) 16 = F at *
          clear q1 q2
          by_cases h1 : M = 1
          · have h2 : ¬ O = 1 := by omega
            have b3 : (M != 1) = false := by simp [h1]
            have b4 : (O != 1) = true := by rw [bne_iff_ne]; exact h2
            clear q3 h1 h2
            go_wp2_with (go_at_call 73; refine HF.out.mono ?_; rintro e w1 ⟨rfl, hw⟩; rw [hw]; clear hw w1)
            go_ret2
            exact .inl ⟨by rw [X.out]; omega, by rw [X.out]; rfl, Step.refl _ _⟩
          · have b3 : (M != 1) = true := by rw [bne_iff_ne]; exact h1
            clear q3 h1
            go_wp2_with (go_at_call 73; refine HF.out.mono ?_; rintro e w1 ⟨rfl, hw⟩; rw [hw]; clear hw w1)
            go_ret2
            exact .inl ⟨by rw [X.out]; omega, by rw [X.out]; rfl, Step.refl _ _⟩
        · have X := hidden (show newErr L = 0 by
            unfold newErr
            rw [if_pos E.out, if_pos]
            by_cases h : fl (cf L) 16 = 32768
            · exact .inl h
            · exact .inr (HFW.out.2 (by omega)))
          have HCE := hidden (And.intro (newErr_codes L X.out).1 (codeErr_ok (newErr_codes L X.out).1).2.2)
          by_cases hF : fl (cf L) 16 = 32768
          · have b1 : (fl (cf L) 16 != 32768) = false := by simp [hF]
            generalize fl (cf L) 16 = F at *
            clear hF hbad
            go_wp2_with (first | (go_at_call 73; refine HF.out.mono ?_; rintro e w1 ⟨rfl, hw⟩; rw [hw]; clear hw w1) | fail)
            refine HCO.out.mono ?_
            rintro e w2 ⟨v2, rfl, rr, fr, hs2⟩
            rw [HCE.out.1]
            rw [HCE.out.2] at rr
            have RR := hidden rr
            have FR := hidden fr
            have S2 := hidden hs2
            obtain ⟨a2, k2, rfl, _⟩ := rr
            clear fr hs2
            have hown := hidden (show (w2.alloc (.cells #[] 3)).ownsRow 0 3 1 (.slice (some ⟨w2.heap.size, 0, none⟩) 0 0) 0 [] by
              have := World.ownsRow_lit (base := 0) (e := 3) (size := 1) w2 #[] 0 (Nat.zero_le _) (Nat.zero_le _) rfl
              simpa using this)
            have hrd := (HR.out.made S2.out).made ((Step.refl (fun _ => False) w2).alloc (.cells #[] 3))
            generalize (codes L).length = cl at *
            cases ao with
            | none =>
              obtain ⟨hLe, hce⟩ := H1.out rfl
              have hk0 : k = 0 := by have := Hn.out; rw [hLe] at this; simpa using this
              subst hk0
              subst hce
              clear hrd
              have HLE := hidden hLe
              clear hLe
              go_wp2_with (at_builtin; refine wpList_append_stop rfl (.tmp 50) (.tmp 51) 30 rfl 3 i0 1 Tryz.underlying30 hi _ _ _ rfl hown.out rfl ?_)
              unfold Hid
              go_wp2
              go_ret2
              have r0 : Ri (w2.alloc (.cells #[] 3)) (.slice (some ⟨w2.heap.size, 0, none⟩) 0 0) L := by
                rw [HLE.out]; exact ⟨_, 0, rfl, by simp, (fun h => by cases h), fun a ha hne => absurd rfl hne⟩
              have rd := rdec_new (RR.out.made ((Step.refl _ w2).alloc (.cells #[] 3))) r0 117
              rw [World.size_alloc] at rd
              exact .inr ⟨X.out, w2.heap.size + 1, _, .slice (some ⟨w2.heap.size, 0, none⟩) 0 0, rfl, by have := S2.out.size; omega, rd, FR.out, (fun a n c h => by injection h with h1; have := Option.some.inj h1; subst this; exact S2.out.size), (S2.out.alloc _).alloc _⟩
            | some a =>
              have hnews := hidden hrd.news
              have HLL : Hid ((i64s L).length = k * 1) := by unfold Hid; rw [i64s_length, ← Hn.out]; omega
              clear hrd
              go_wp2_with (at_builtin; refine wpList_append_at _ rfl (.tmp 50) (.tmp 51) 30 rfl 3 i0 (.int .i64 0) 1 8 Tryz.underlying30 hi hz0 hz1 hz2 rfl (by decide) _ 0 [] rfl hown.out a k cap (i64s L) rfl HLL.out hnews.out (i64s_one _) ?c3 ?c4 ?_)
              case c3 => unfold maxLen; omega
              case c4 => omega
              intro v3 w3 hown3 hgrow3 hnil3 hb3
              have HO3 := hidden (show w3.ownsRow 0 3 1 v3 k (i64s L) by simpa using hown3)
              have HS3 := hidden (show Step (fun _ => False) w2 w3 from ((Step.refl _ _).alloc _).grown hgrow3 (fun k hk => .inr (by simp [Value.ownBlock] at hk; omega)))
              have HB3 := hidden (show ∀ k, v3.ownBlock = some k → w2.heap.size ≤ k by
                intro k hk
                rcases hb3 with e | e
                · rw [e] at hk; simp [Value.ownBlock] at hk; omega
                · rw [e] at hk; have := Option.some.inj hk; omega)
              obtain ⟨a3, k3, rfl⟩ := own_slice HO3.out
              clear hown3 hgrow3 hnil3 hb3
              go_wp2
              go_ret2
              refine .inr ⟨X.out, _, _, _, rfl, by have := S2.out.size; have := HS3.out.size; omega, rdec_new (RR.out.made HS3.out) (Ri.of_own HO3.out) _, FR.out, (fun a n c h => ?_), (S2.out.made HS3.out).alloc _⟩
              injection h with h1
              subst h1
              rcases HO3.out.2 with ⟨e, _⟩ | ⟨g, c, cur, e, _⟩
              · injection e with e1; cases e1
              · injection e with e1
                have e2 := Option.some.inj e1
                subst e2
                have := HB3.out g rfl
                have := S2.out.size
                show wr.heap.size ≤ g
                omega
          · have b1 : (fl (cf L) 16 != 32768) = true := by rw [bne_iff_ne]; exact hF
            generalize fl (cf L) 16 = F at *
            by_cases hM0 : M = 0
            · have b2 : (M != 0) = false := by simp [hM0]
              clear hF hbad hM0
              go_wp2_with (first | (go_at_call 73; refine HF.out.mono ?_; rintro e w1 ⟨rfl, hw⟩; rw [hw]; clear hw w1) | fail)
              refine HCO.out.mono ?_
              rintro e w2 ⟨v2, rfl, rr, fr, hs2⟩
              rw [HCE.out.1]
              rw [HCE.out.2] at rr
              have RR := hidden rr
              have FR := hidden fr
              have S2 := hidden hs2
              obtain ⟨a2, k2, rfl, _⟩ := rr
              clear fr hs2
              have hown := hidden (show (w2.alloc (.cells #[] 3)).ownsRow 0 3 1 (.slice (some ⟨w2.heap.size, 0, none⟩) 0 0) 0 [] by
                have := World.ownsRow_lit (base := 0) (e := 3) (size := 1) w2 #[] 0 (Nat.zero_le _) (Nat.zero_le _) rfl
                simpa using this)
              have hrd := (HR.out.made S2.out).made ((Step.refl (fun _ => False) w2).alloc (.cells #[] 3))
              generalize (codes L).length = cl at *
              cases ao with
              | none =>
                obtain ⟨hLe, hce⟩ := H1.out rfl
                have hk0 : k = 0 := by have := Hn.out; rw [hLe] at this; simpa using this
                subst hk0
                subst hce
                clear hrd
                have HLE := hidden hLe
                clear hLe
                go_wp2_with (at_builtin; refine wpList_append_stop rfl (.tmp 50) (.tmp 51) 30 rfl 3 i0 1 Tryz.underlying30 hi _ _ _ rfl hown.out rfl ?_)
                unfold Hid
                go_wp2
                go_ret2
                have r0 : Ri (w2.alloc (.cells #[] 3)) (.slice (some ⟨w2.heap.size, 0, none⟩) 0 0) L := by
                  rw [HLE.out]; exact ⟨_, 0, rfl, by simp, (fun h => by cases h), fun a ha hne => absurd rfl hne⟩
                have rd := rdec_new (RR.out.made ((Step.refl _ w2).alloc (.cells #[] 3))) r0 117
                rw [World.size_alloc] at rd
                exact .inr ⟨X.out, w2.heap.size + 1, _, .slice (some ⟨w2.heap.size, 0, none⟩) 0 0, rfl, by have := S2.out.size; omega, rd, FR.out, (fun a n c h => by injection h with h1; have := Option.some.inj h1; subst this; exact S2.out.size), (S2.out.alloc _).alloc _⟩
              | some a =>
                have hnews := hidden hrd.news
                have HLL : Hid ((i64s L).length = k * 1) := by unfold Hid; rw [i64s_length, ← Hn.out]; omega
                clear hrd
                go_wp2_with (at_builtin; refine wpList_append_at _ rfl (.tmp 50) (.tmp 51) 30 rfl 3 i0 (.int .i64 0) 1 8 Tryz.underlying30 hi hz0 hz1 hz2 rfl (by decide) _ 0 [] rfl hown.out a k cap (i64s L) rfl HLL.out hnews.out (i64s_one _) ?c3 ?c4 ?_)
                case c3 => unfold maxLen; omega
                case c4 => omega
                intro v3 w3 hown3 hgrow3 hnil3 hb3
                have HO3 := hidden (show w3.ownsRow 0 3 1 v3 k (i64s L) by simpa using hown3)
                have HS3 := hidden (show Step (fun _ => False) w2 w3 from ((Step.refl _ _).alloc _).grown hgrow3 (fun k hk => .inr (by simp [Value.ownBlock] at hk; omega)))
                have HB3 := hidden (show ∀ k, v3.ownBlock = some k → w2.heap.size ≤ k by
                  intro k hk
                  rcases hb3 with e | e
                  · rw [e] at hk; simp [Value.ownBlock] at hk; omega
                  · rw [e] at hk; have := Option.some.inj hk; omega)
                obtain ⟨a3, k3, rfl⟩ := own_slice HO3.out
                clear hown3 hgrow3 hnil3 hb3
                go_wp2
                go_ret2
                refine .inr ⟨X.out, _, _, _, rfl, by have := S2.out.size; have := HS3.out.size; omega, rdec_new (RR.out.made HS3.out) (Ri.of_own HO3.out) _, FR.out, (fun a n c h => ?_), (S2.out.made HS3.out).alloc _⟩
                injection h with h1
                subst h1
                rcases HO3.out.2 with ⟨e, _⟩ | ⟨g, c, cur, e, _⟩
                · injection e with e1; cases e1
                · injection e with e1
                  have e2 := Option.some.inj e1
                  subst e2
                  have := HB3.out g rfl
                  have := S2.out.size
                  show wr.heap.size ≤ g
                  omega
            · have hM1 : M = 1 := by omega
              have hO1 : O = 1 := by omega
              have b2 : (M != 0) = true := by rw [bne_iff_ne]; exact hM0
              have b3 : (M != 1) = false := by simp [hM1]
              have b4 : (O != 1) = false := by simp [hO1]
              clear hF hbad hM0 hM1 hO1
              go_wp2_with (first | (go_at_call 73; refine HF.out.mono ?_; rintro e w1 ⟨rfl, hw⟩; rw [hw]; clear hw w1) | fail)
              refine HCO.out.mono ?_
              rintro e w2 ⟨v2, rfl, rr, fr, hs2⟩
              rw [HCE.out.1]
              rw [HCE.out.2] at rr
              have RR := hidden rr
              have FR := hidden fr
              have S2 := hidden hs2
              obtain ⟨a2, k2, rfl, _⟩ := rr
              clear fr hs2
              have hown := hidden (show (w2.alloc (.cells #[] 3)).ownsRow 0 3 1 (.slice (some ⟨w2.heap.size, 0, none⟩) 0 0) 0 [] by
                have := World.ownsRow_lit (base := 0) (e := 3) (size := 1) w2 #[] 0 (Nat.zero_le _) (Nat.zero_le _) rfl
                simpa using this)
              have hrd := (HR.out.made S2.out).made ((Step.refl (fun _ => False) w2).alloc (.cells #[] 3))
              generalize (codes L).length = cl at *
              cases ao with
              | none =>
                obtain ⟨hLe, hce⟩ := H1.out rfl
                have hk0 : k = 0 := by have := Hn.out; rw [hLe] at this; simpa using this
                subst hk0
                subst hce
                clear hrd
                have HLE := hidden hLe
                clear hLe
                go_wp2_with (at_builtin; refine wpList_append_stop rfl (.tmp 50) (.tmp 51) 30 rfl 3 i0 1 Tryz.underlying30 hi _ _ _ rfl hown.out rfl ?_)
                unfold Hid
                go_wp2
                go_ret2
                have r0 : Ri (w2.alloc (.cells #[] 3)) (.slice (some ⟨w2.heap.size, 0, none⟩) 0 0) L := by
                  rw [HLE.out]; exact ⟨_, 0, rfl, by simp, (fun h => by cases h), fun a ha hne => absurd rfl hne⟩
                have rd := rdec_new (RR.out.made ((Step.refl _ w2).alloc (.cells #[] 3))) r0 117
                rw [World.size_alloc] at rd
                exact .inr ⟨X.out, w2.heap.size + 1, _, .slice (some ⟨w2.heap.size, 0, none⟩) 0 0, rfl, by have := S2.out.size; omega, rd, FR.out, (fun a n c h => by injection h with h1; have := Option.some.inj h1; subst this; exact S2.out.size), (S2.out.alloc _).alloc _⟩
              | some a =>
                have hnews := hidden hrd.news
                have HLL : Hid ((i64s L).length = k * 1) := by unfold Hid; rw [i64s_length, ← Hn.out]; omega
                clear hrd
                go_wp2_with (at_builtin; refine wpList_append_at _ rfl (.tmp 50) (.tmp 51) 30 rfl 3 i0 (.int .i64 0) 1 8 Tryz.underlying30 hi hz0 hz1 hz2 rfl (by decide) _ 0 [] rfl hown.out a k cap (i64s L) rfl HLL.out hnews.out (i64s_one _) ?c3 ?c4 ?_)
                case c3 => unfold maxLen; omega
                case c4 => omega
                intro v3 w3 hown3 hgrow3 hnil3 hb3
                have HO3 := hidden (show w3.ownsRow 0 3 1 v3 k (i64s L) by simpa using hown3)
                have HS3 := hidden (show Step (fun _ => False) w2 w3 from ((Step.refl _ _).alloc _).grown hgrow3 (fun k hk => .inr (by simp [Value.ownBlock] at hk; omega)))
                have HB3 := hidden (show ∀ k, v3.ownBlock = some k → w2.heap.size ≤ k by
                  intro k hk
                  rcases hb3 with e | e
                  · rw [e] at hk; simp [Value.ownBlock] at hk; omega
                  · rw [e] at hk; have := Option.some.inj hk; omega)
                obtain ⟨a3, k3, rfl⟩ := own_slice HO3.out
                clear hown3 hgrow3 hnil3 hb3
                go_wp2
                go_ret2
                refine .inr ⟨X.out, _, _, _, rfl, by have := S2.out.size; have := HS3.out.size; omega, rdec_new (RR.out.made HS3.out) (Ri.of_own HO3.out) _, FR.out, (fun a n c h => ?_), (S2.out.made HS3.out).alloc _⟩
                injection h with h1
                subst h1
                rcases HO3.out.2 with ⟨e, _⟩ | ⟨g, c, cur, e, _⟩
                · injection e with e1; cases e1
                · injection e with e1
                  have e2 := Option.some.inj e1
                  subst e2
                  have := HB3.out g rfl
                  have := S2.out.size
                  show wr.heap.size ≤ g
                  omega

end Go.Proofs.YtcgjmkcigmmjjaaGreatDoor

namespace Go.Proofs.YtcgjmkcigmmjjaaGreatDoor
set_option linter.unusedVariables false
theorem fl_between (f : Nat → Int) (X : Int) (a : Nat) : ∀ d, fl f a ≤ X → X < fl f (a + d) → ∃ n, a ≤ n ∧ n < a + d ∧ fl f n ≤ X ∧ X < fl f (n + 1)
  | 0, h1, h2 => by simp at h2; omega
  | d + 1, h1, h2 => by
    by_cases h : X < fl f (a + d)
    · obtain ⟨n, h3, h4, h5, h6⟩ := fl_between f X a d h1 h
      exact ⟨n, h3, by omega, h5, h6⟩
    · exact ⟨a + d, by omega, by omega, by omega, h2⟩

theorem longer_exists (L : List Int) (hf : fl (cf L) 16 = 32768) (N C : Nat) (h1 : 1 ≤ N) (h15 : N ≤ 15) (hC : C < 2 ^ N) (hge : stf (cf L) N + cf L N ≤ (C : Int)) :
    ∃ i x, i < L.length ∧ L.getD i 0 = ((x : Nat) : Int) ∧ N < x ∧ codeOf L i / 2 ^ (x - N) = (C : Int) := by
  have p := ipow_pos (15 - N)
  have e1 : fl (cf L) (N + 1) = (stf (cf L) N + cf L N) * 2 ^ (15 - N) := by
    show fl (cf L) N + cf L N * 2 ^ (15 - N) = _
    rw [← stf_fl (cf L) N h15, Int.add_mul]
  have lo : fl (cf L) (N + 1) ≤ (C : Int) * 2 ^ (15 - N) := by rw [e1]; exact Int.mul_le_mul_of_nonneg_right hge (by omega)
  have e16 : (2 : Int) ^ N * 2 ^ (15 - N) = 32768 := by rw [← Int.pow_add, show N + (15 - N) = 15 by omega]; rfl
  have hC' : (C : Int) + 1 ≤ 2 ^ N := by
    have e : ((2 ^ N : Nat) : Int) = (2 : Int) ^ N := by simp
    omega
  have hi : (C : Int) * 2 ^ (15 - N) < fl (cf L) (N + 1 + (15 - N)) := by
    rw [show N + 1 + (15 - N) = 16 by omega, hf, ← e16]
    have : ((C : Int) + 1) * 2 ^ (15 - N) ≤ 2 ^ N * 2 ^ (15 - N) := Int.mul_le_mul_of_nonneg_right hC' (by omega)
    rw [Int.add_mul] at this
    omega
  obtain ⟨n, n1, n2, n3, n4⟩ := fl_between (cf L) _ (N + 1) (15 - N) lo hi
  have pn := ipow_pos (15 - n)
  have en : (2 : Int) ^ (15 - N) = 2 ^ (n - N) * 2 ^ (15 - n) := by rw [← Int.pow_add, show n - N + (15 - n) = 15 - N by omega]
  have sn := stf_fl (cf L) n (by omega)
  have n4' : (C : Int) * 2 ^ (15 - N) < fl (cf L) n + cf L n * 2 ^ (15 - n) := n4
  rw [en, ← Int.mul_assoc] at n3 n4'
  rw [← sn] at n3 n4'
  rw [← Int.add_mul] at n4'
  generalize hY : (C : Int) * 2 ^ (n - N) = Y at *
  have y1 : stf (cf L) n ≤ Y := Int.le_of_mul_le_mul_right n3 (by omega)
  have y2 : Y < stf (cf L) n + cf L n := Int.lt_of_mul_lt_mul_right n4' (by omega)
  obtain ⟨i, hi1, hi2, hi3⟩ := rank_hit' L n (by omega) (Y - stf (cf L) n) (by omega) (by omega)
  refine ⟨i, n, hi1, hi2, by omega, ?_⟩
  rw [codeOf_eq L i n hi2 (by omega), hi3, show stf (cf L) n + (Y - stf (cf L) n) = Y by omega, ← hY]
  have pd := ipow_pos (n - N)
  exact Int.mul_ediv_cancel _ (by omega)

/-- Some longer code among the first k begins so. -/
def lg (L : List Int) (C N : Nat) : Nat → Bool
  | 0 => false
  | k + 1 => lg L C N k || (decide ((N : Int) < L.getD k 0) && decide (codeOf L k / 2 ^ ((L.getD k 0).toNat - N) = (C : Int)))

theorem lg_iff (L : List Int) (C N : Nat) : ∀ k, lg L C N k = true ↔ ∃ i, i < k ∧ (N : Int) < L.getD i 0 ∧ codeOf L i / 2 ^ ((L.getD i 0).toNat - N) = (C : Int)
  | 0 => by simp [lg]
  | k + 1 => by
    have ih := lg_iff L C N k
    simp only [lg, Bool.or_eq_true, Bool.and_eq_true, decide_eq_true_eq, ih]
    constructor
    · rintro (⟨i, h1, h2⟩ | h)
      · exact ⟨i, by omega, h2⟩
      · exact ⟨k, by omega, h⟩
    · rintro ⟨i, h1, h2⟩
      by_cases e : i = k
      · subst e; exact .inr h2
      · exact .inl ⟨i, by omega, h2⟩

/-- No code of the first k is whole by that. -/
def noHit (L : List Int) (C N k : Nat) : Prop := ∀ j, j < k → ¬ (L.getD j 0 = (N : Int) ∧ codeOf L j = (C : Int))

/-- What the page's Next answers, and what it keeps. -/
def RNextR (L : List Int) (C N : Nat) (r : Int) (c l : Nat) : Prop :=
  (∃ i : Nat, i < L.length ∧ L.getD i 0 = (N : Int) ∧ codeOf L i = (C : Int) ∧ r = (i : Int) ∧ c = 0 ∧ l = 0) ∨
  (noHit L C N L.length ∧ lg L C N L.length = true ∧ r = -1 ∧ c = C ∧ l = N) ∨
  (noHit L C N L.length ∧ lg L C N L.length = false ∧ r = -2 ∧ c = 0 ∧ l = 0)

/-- The same answer. -/
theorem agree {L : List Int} (hok : ∀ x ∈ L, 0 ≤ x ∧ x ≤ 15) (hne : newErr L = 0) {C N : Nat} (h1 : 1 ≤ N) (h15 : N ≤ 15) (hC : C < 2 ^ N) {r r' : Int} {c l c' l' : Nat} (a : NextR L C N r c l) (b : RNextR L C N r' c' l') : r = r' ∧ c = c' ∧ l = l' := by
  have hitlt : ∀ i, i < L.length → L.getD i 0 = (N : Int) → codeOf L i < stf (cf L) N + cf L N := fun i hi hx => by
    rw [codeOf_eq L i N hx (by omega)]
    have := cf_take_lt L i N hi hx (by omega)
    omega
  rcases a with ⟨i, hi, hiN, hiC, rfl, rfl, rfl⟩ | ⟨hge, hp, rfl, rfl, rfl⟩ | ⟨hge, hp, rfl, ec, el⟩
  · rcases b with ⟨j, hj, hjN, hjC, rfl, rfl, rfl⟩ | ⟨hn, _⟩ | ⟨hn, _⟩
    · have : i = j := by
        rcases Nat.lt_trichotomy i j with h | h | h
        · have := code_rank L i j N hi hiN hjN (by omega) h; omega
        · exact h
        · have := code_rank L j i N hj hjN hiN (by omega) h; omega
      subst this
      exact ⟨rfl, rfl, rfl⟩
    · exact absurd ⟨hiN, hiC⟩ (hn i hi)
    · exact absurd ⟨hiN, hiC⟩ (hn i hi)
  · rcases b with ⟨j, hj, hjN, hjC, _⟩ | ⟨_, hl, _⟩ | ⟨_, _, rfl, rfl, rfl⟩
    · have := hitlt j hj hjN; omega
    · exfalso
      obtain ⟨i, hi, hN, _⟩ := (lg_iff L C N L.length).1 hl
      have hm := hok (L.getD i 0) (by rw [getD_i L i hi]; exact List.getElem_mem _)
      obtain ⟨x, hx⟩ := Int.eq_ofNat_of_zero_le hm.1
      have := plc_more L hok (N + 1) i x hi hx (by omega) (by omega)
      omega
    · exact ⟨rfl, rfl, rfl⟩
  · rcases b with ⟨j, hj, hjN, hjC, _⟩ | ⟨_, _, rfl, ec', el'⟩ | ⟨_, hl, _⟩
    · have := hitlt j hj hjN; omega
    · exact ⟨rfl, by rw [ec, ec'], by rw [el, el']⟩
    · exfalso
      have hfull : fl (cf L) 16 = 32768 := by
        apply Classical.byContradiction
        intro hnf
        have hok2 := (newErr_codes L hne).2.1
        have hfew : fewB (cf L) = true := by
          unfold newErr at hne
          rw [if_pos hok2] at hne
          by_cases h2 : fl (cf L) 16 = 32768 ∨ fewB (cf L) = true
          · rcases h2 with h2 | h2
            · exact absurd h2 hnf
            · exact h2
          · rw [if_neg h2] at hne; omega
        -- few: no code longer than 1
        have hz : ∀ k, 2 ≤ k → k ≤ 15 → cf L k = 0 := by
          intro k k2 k15
          apply Classical.byContradiction
          intro hk
          have c0 := (cf_bd L k).1
          obtain ⟨i, hi, hiL, _⟩ := rank_hit' L k (by omega) 0 (by omega) (by omega)
          have hm := few_iff L hok
          have hfi := hm.1 hfew
          have mf := mny_facts L L.length
          have sh := share L i k hi hiL (by omega) k15
          have fm := fl_mono (cf L) (fun k => (cf_bd L k).1) (k + 1) (15 - k)
          rw [show k + 1 + (15 - k) = 16 by omega] at fm
          have f1 := flt_all L hok
          rcases hfi with h0 | ⟨hm1, ho1⟩
          · have := (mf.1 h0).1
            have p := ipow_pos (15 - k)
            have c1 := codeOf_nonneg L i
            have q : 0 < (codeOf L i + 1) * 2 ^ (15 - k) := Int.mul_pos (by omega) (by omega)
            omega
          · have hv := mf.2.2.1 hm1
            rw [ho1] at hv
            have e2 : (2 : Int) ^ (15 - (1 : Int).toNat) = 16384 := rfl
            have c1 := cf1_le L L.length (Nat.le_refl _)
            rw [List.take_of_length_le (Nat.le_refl _)] at c1
            have c11 := c1.2.2.1 hm1 ho1
            have s2 : 16384 * cf L 1 ≤ fl (cf L) 2 := by
              show _ ≤ fl (cf L) 1 + cf L 1 * 2 ^ (15 - 1)
              have := fl_mono (cf L) (fun k => (cf_bd L k).1) 0 1
              have z : fl (cf L) 0 = 0 := rfl
              rw [show (0 + 1) = 1 from rfl] at this
              have e3 : (2 : Int) ^ (15 - 1) = 16384 := rfl
              rw [e3]
              omega
            have m2 := fl_mono (cf L) (fun k => (cf_bd L k).1) 2 (k - 2)
            rw [show 2 + (k - 2) = k by omega] at m2
            have p := ipow_pos (15 - k)
            have s3 := sh.2
            have s4 := sh.1
            rw [Int.add_mul] at s3
            omega
        apply hp
        have : ∀ d, N + 1 + d ≤ 16 → plc (cf L) (N + 1 + d) = plc (cf L) (N + 1) := by
          intro d
          induction d with
          | zero => intro _; rfl
          | succ d ih =>
            intro hd
            have h := ih (by omega)
            show plc (cf L) (N + 1 + d) + cf L (N + 1 + d) = _
            rw [hz (N + 1 + d) (by omega) (by omega), h]
            omega
        have h16 := this (15 - N) (by omega)
        rw [show N + 1 + (15 - N) = 16 by omega] at h16
        exact h16.symm
      obtain ⟨i, x, hi, hx, hN, hc⟩ := longer_exists L hfull N C h1 h15 hC hge
      have : lg L C N L.length = true := (lg_iff L C N L.length).2 ⟨i, hi, by rw [hx]; omega, by rw [hx, Int.toNat_natCast]; exact hc⟩
      rw [this] at hl
      cases hl

end Go.Proofs.YtcgjmkcigmmjjaaGreatDoor

namespace Go.Proofs.YtcgjmkcigmmjjaaGreatDoor
open Go.RowKit
set_option maxRecDepth 100000
set_option linter.unusedVariables false
theorem RDec.s2 {w : World} {d : Nat} {L : List Int} {vc vl : Value} {code n : Nat} (h : RDec w d L vc vl code n) (x : Int) (code' : Nat) (hx : x = (code' : Int)) : RDec (w.setCell ⟨d, 2, none⟩ (.int .i64 x)) d L vc vl code' n := by
  subst hx
  exact ⟨oth h.c0 (by omega), oth h.c1 (by omega), sam h.c2, oth h.c3 (by omega), h.rc.far _ _ (fun p n c ne e => by have := h.nc p n c e ne; show p.block ≠ d; omega), h.rl.far _ _ (fun p n c ne e => by have := h.nl p n c e ne; show p.block ≠ d; omega),
    by rw [World.frozen?_setCell]; exact h.f2, by rw [World.frozen?_setCell]; exact h.f3, h.nc, h.nl⟩

theorem RDec.s3 {w : World} {d : Nat} {L : List Int} {vc vl : Value} {code n : Nat} (h : RDec w d L vc vl code n) (x : Int) (n' : Nat) (hx : x = (n' : Int)) : RDec (w.setCell ⟨d, 3, none⟩ (.int .i64 x)) d L vc vl code n' := by
  subst hx
  exact ⟨oth h.c0 (by omega), oth h.c1 (by omega), oth h.c2 (by omega), sam h.c3, h.rc.far _ _ (fun p n c ne e => by have := h.nc p n c e ne; show p.block ≠ d; omega), h.rl.far _ _ (fun p n c ne e => by have := h.nl p n c e ne; show p.block ≠ d; omega),
    by rw [World.frozen?_setCell]; exact h.f2, by rw [World.frozen?_setCell]; exact h.f3, h.nc, h.nl⟩

theorem RDec.drewN {w : World} {d : Nat} {L : List Int} {vc vl : Value} {code n : Nat} (h : RDec w d L vc vl code n) (q : Nat) : RDec (w.drewN q) d L vc vl code n := ⟨h.c0, h.c1, h.c2, h.c3, h.rc, h.rl, h.f2, h.f3, h.nc, h.nl⟩

theorem RDec.reset {w : World} {d : Nat} {L : List Int} {vc vl : Value} {code n : Nat} (h : RDec w d L vc vl code n) : RDec ((w.setCell ⟨d, 2, none⟩ (.int .i64 0)).setCell ⟨d, 3, none⟩ (.int .i64 0)) d L vc vl 0 0 := (h.s2 0 0 rfl).s3 0 0 rfl

set_option maxHeartbeats 1000000 in
theorem refNext_any (w : World) (d : Nat) (L : List Int) (vc vl : Value) (code n : Nat) (b : Int) (h : RDec w d L vc vl code n) (hn : n ≤ 14) (hc : code ≤ 100000) (hL : L.length ≤ 320) (hok : ∀ x ∈ L, 0 ≤ x ∧ x ≤ 15) :
    Calls Tryz.prog 93 #[.pointer (some ⟨d, 0, none⟩), .int .i64 b] w fun e w' => ∃ r c l, e = .returned (.int .i64 r) ∧ RNextR L (2 * code + bitOf b) (n + 1) r c l ∧ RDec w' d L vc vl c l ∧ Step (fun k => k = d) w w' := by
  have HF := hidden h
  have HOK := hidden hok
  obtain ⟨c0, c1, c2, c3, rc, rl, f2, f3, _, _⟩ := h
  obtain ⟨ac, kc, hvc, _⟩ := rc
  obtain ⟨al, kl, hvl, _⟩ := rl
  subst hvc
  subst hvl
  rw [codes_length] at c0 HF ⊢
  obtain ⟨m, hm⟩ : ∃ m, m = L.length := ⟨_, rfl⟩
  have Hm := hidden hm
  rw [← hm] at c0 c1 HF hL ⊢
  have hC0 : 2 * code + bitOf b ≤ 200001 := by unfold bitOf; split <;> omega
  obtain ⟨C, hC⟩ : ∃ C, C = 2 * code + bitOf b := ⟨_, rfl⟩
  obtain ⟨N, hN⟩ : ∃ N, N = n + 1 := ⟨_, rfl⟩
  have HC := hidden hC
  have HN := hidden hN
  rw [← hC, ← hN]
  have hCb : C ≤ 200001 := by omega
  have hN15 : N ≤ 15 := by omega
  clear hok hm hC hN
  by_cases hb : b = 0
  · subst hb
    have hbb : ((0 : Int) != 0) = false := rfl
    go_enter Tryz.func93, Tryz.ntmps93
    go_wp2
    obtain ⟨W1, hW1⟩ : ∃ W1, W1 = (w.setCell ⟨d, 2, none⟩ (.int .i64 ((code : Int) * 2))).setCell ⟨d, 3, none⟩ (.int .i64 ((n : Int) + 1)) := ⟨_, rfl⟩
    have hD1 : RDec W1 d L (.slice ac m kc) (.slice al m kl) C N := by rw [hW1]; exact (HF.out.s2 _ C (by rw [HC.out]; simp [bitOf]; omega)).s3 _ N (by rw [HN.out]; omega)
    have hS1 : Step (fun k => k = d) w W1 := by rw [hW1]; exact ((Step.refl (fun k => k = d) w).setCell ⟨d, 2, none⟩ _ (.inl rfl)).setCell ⟨d, 3, none⟩ _ (.inl rfl)
    rw [← hW1]
    clear hW1 c0 c1 c2 c3 f2 f3
    have HD := hidden hD1
    have hst := hS1
    have HS := hidden hst
    have c0 := hD1.c0
    have c1 := hD1.c1
    have c2 := hD1.c2
    have c3 := hD1.c3
    have f2 := hD1.f2
    have f3 := hD1.f3
    clear hD1 hS1 hst HF
    go_loopw [5, 6, 7] (fun g iv _ wr => ∃ i : Nat, i ≤ m ∧ iv = .int .i64 (i : Int) ∧ g = .bool (lg L C N i) ∧ (∃ q, wr = W1.drewN q) ∧ Hid (noHit L C N i)) (fun _ iv _ _ => m - (intOf iv).toNat)
    case atStart => exact ⟨0, Nat.zero_le _, rfl, rfl, ⟨0, rfl⟩, fun j hj => by omega⟩
    case round =>
      obtain ⟨i, hi, rfl, rfl, ⟨q, rfl⟩, hno⟩ := hrel
      by_cases him : i < m
      · have hiL : i < L.length := by have := Hm.out; omega
        obtain ⟨ba, oa, rfl, ka⟩ : ∃ ba oa, al = some ⟨ba, oa, none⟩ ∧ ∀ k, k < L.length → W1.cell? ⟨ba, oa + k, none⟩ = some (.int .i64 (L.getD k 0)) := by
          obtain ⟨ao, c, e, _, r1, r2⟩ := HD.out.rl
          injection e with e1
          cases al with
          | none => have := (r1 e1.symm).1; subst this; simp at hiL
          | some a => obtain ⟨b, o, rfl, hc⟩ := r2 a e1.symm (by intro e; subst e; simp at hiL); exact ⟨b, o, rfl, hc⟩
        obtain ⟨bc, oc, rfl, kcc⟩ : ∃ bc oc, ac = some ⟨bc, oc, none⟩ ∧ ∀ k, k < (codes L).length → W1.cell? ⟨bc, oc + k, none⟩ = some (.int .i64 ((codes L).getD k 0)) := by
          have hcl : (codes L).length = L.length := codes_length L
          obtain ⟨ao, c, e, _, r1, r2⟩ := HD.out.rc
          injection e with e1
          cases ac with
          | none => have := (r1 e1.symm).1; rw [this] at hcl; simp at hcl; omega
          | some a => obtain ⟨b, o, rfl, hc⟩ := r2 a e1.symm (by intro e; rw [e] at hcl; simp at hcl; omega); exact ⟨b, o, rfl, hc⟩
        have li := ka i hiL
        have ci := kcc i (by rw [codes_length]; exact hiL)
        rw [codes_getD L i hiL] at ci
        have hx := HOK.out (L.getD i 0) (by rw [getD_i L i hiL]; exact List.getElem_mem hiL)
        obtain ⟨x, ex⟩ := Int.eq_ofNat_of_zero_le hx.1
        have cnn := codeOf_nonneg L i
        have HLG := hidden (show lg L C N (i + 1) = (lg L C N i || (decide ((N : Int) < L.getD i 0) && decide (codeOf L i / 2 ^ ((L.getD i 0).toNat - N) = (C : Int)))) from rfl)
        have HNO := hidden (fun (h : ¬ (L.getD i 0 = (N : Int) ∧ codeOf L i = (C : Int))) => show noHit L C N (i + 1) from fun j hj => by
          by_cases e : j = i
          · rw [e]; exact h
          · exact hno.out j (by omega))
        have HIL := hidden hiL
        have HEX := hidden ex
        have x15 := hx.2
        rw [ex] at li x15 HLG HNO
        rw [Int.toNat_natCast] at HLG
        have i1 : (i : Int) < (m : Int) := by omega
        clear ka kcc hx ex hiL
        generalize hcv : codeOf L i = cv at *
        have HCV := hidden hcv
        clear hcv
        by_cases hxN : x = N
        · have bx : ((x : Int) == (N : Int)) = true := by simp [hxN]
          have bx2 : decide ((N : Int) < (x : Int)) = false := by simp; omega
          have bx3 : decide (N < x) = false := by simp; omega
          have bx4 : ¬ (N < x) := by omega
          have hxle : (x : Int) ≤ (N : Int) := by omega
          by_cases hc : cv = (C : Int)
          · have bc : (cv == (C : Int)) = true := by simp [hc]
            have HHIT := hidden (show RNextR L C N (i : Int) 0 0 from .inl ⟨i, HIL.out, by rw [HEX.out, hxN], by rw [HCV.out, hc], rfl, rfl, rfl⟩)
            have HEND := hidden (fun q => (HD.out.drewN q).reset)
            clear hc hxN
            go_wp2
            go_quiet (fail)
            go_wp2
            go_ret
            exact ⟨_, _, _, rfl, HHIT.out, HEND.out _, ((HS.out.drewN _).setCell ⟨d, 2, none⟩ _ (.inl rfl)).setCell ⟨d, 3, none⟩ _ (.inl rfl)⟩
          · have bc : (cv == (C : Int)) = false := by rw [beq_eq_false_iff_ne]; exact hc
            have HN1 := hidden (HNO.out (by rintro ⟨_, h⟩; exact hc h))
            have HL1 := hidden (show lg L C N (i + 1) = lg L C N i by rw [HLG.out, decide_eq_false (by omega)]; simp)
            clear hc hxN
            cases hlg : lg L C N i with
            | true =>
              have HLL := hidden hlg
              clear hlg
              go_wp2
              go_quiet (fail)
              go_wp2
              go_quiet (fail)
              go_wp2
              go_roundw
              case rel => exact ⟨i + 1, by omega, by go_num, by rw [HL1.out, HLL.out], ⟨_, rfl⟩, HN1.out⟩
              case measure => simp [intOf]; omega
            | false =>
              have HLL := hidden hlg
              clear hlg
              go_wp2
              go_quiet (fail)
              go_wp2
              go_quiet (fail)
              go_wp2
              go_roundw
              case rel => exact ⟨i + 1, by omega, by go_num, by rw [HL1.out, HLL.out], ⟨_, rfl⟩, HN1.out⟩
              case measure => simp [intOf]; omega
        · have bx : ((x : Int) == (N : Int)) = false := by rw [beq_eq_false_iff_ne]; omega
          have HN1 := hidden (HNO.out (by rintro ⟨h, _⟩; omega))
          cases hlg : lg L C N i with
          | true =>
              have HL1 := hidden (show lg L C N (i + 1) = true by rw [HLG.out, hlg]; rfl)
              clear hlg
              go_wp2
              go_quiet (fail)
              go_wp2
              go_quiet (fail)
              go_wp2
              go_roundw
              case rel => exact ⟨i + 1, by omega, by go_num, by rw [HL1.out], ⟨_, rfl⟩, HN1.out⟩
              case measure => simp [intOf]; omega
          | false =>
            by_cases hlt : N < x
            · have bl : decide (N < x) = true := by simpa using hlt
              have hsub : (x : Int) - (N : Int) = ((x - N : Nat) : Int) := by omega
              have HL1 := hidden (show lg L C N (i + 1) = decide (cv / 2 ^ (x - N) = (C : Int)) by rw [HLG.out, hlg, decide_eq_true (by omega)]; simp)
              clear hlg
              go_wp2
              go_quiet (fail)
              go_wp2
              go_quiet (fail)
              go_wp2
              go_roundw
              case rel => exact ⟨i + 1, by omega, by go_num, by rw [HL1.out]; rfl, ⟨_, rfl⟩, HN1.out⟩
              case measure => simp [intOf]; omega
            · have bl : decide (N < x) = false := by simpa using hlt
              have HL1 := hidden (show lg L C N (i + 1) = false by rw [HLG.out, hlg, decide_eq_false (by omega)]; rfl)
              clear hlg
              go_wp2
              go_quiet (fail)
              go_wp2
              go_quiet (fail)
              go_wp2
              go_roundw
              case rel => exact ⟨i + 1, by omega, by go_num, by rw [HL1.out], ⟨_, rfl⟩, HN1.out⟩
              case measure => simp [intOf]; omega
      · have hLm : i = m := by omega
        subst hLm
        have bim : ¬ ((i : Int) < (i : Int)) := by omega
        have HHM := Hm
        cases hlg : lg L C N i with
        | true =>
          have HHIT := hidden (show RNextR L C N (-1) C N from .inr (.inl ⟨by rw [← HHM.out]; exact hno.out, by rw [← HHM.out]; exact hlg, rfl, rfl, rfl⟩))
          clear hlg
          go_wp2
          go_ret
          exact ⟨_, rfl, _, _, HHIT.out, HD.out.drewN _, HS.out.drewN _⟩
        | false =>
          have HHIT := hidden (show RNextR L C N (-2) 0 0 from .inr (.inr ⟨by rw [← HHM.out]; exact hno.out, by rw [← HHM.out]; exact hlg, rfl, rfl, rfl⟩))
          have HEND := hidden (fun q => (HD.out.drewN q).reset)
          clear hlg
          go_wp2
          go_ret
          exact ⟨_, rfl, _, _, HHIT.out, HEND.out _, ((HS.out.drewN _).setCell ⟨d, 2, none⟩ _ (.inl rfl)).setCell ⟨d, 3, none⟩ _ (.inl rfl)⟩
  · have hbb : (b != 0) = true := by simpa using hb
    have HB := hidden hb
    clear hb
    go_enter Tryz.func93, Tryz.ntmps93
    go_wp2
    obtain ⟨W1, hW1⟩ : ∃ W1, W1 = ((w.setCell ⟨d, 2, none⟩ (.int .i64 ((code : Int) * 2))).setCell ⟨d, 2, none⟩ (.int .i64 ((code : Int) * 2 + 1))).setCell ⟨d, 3, none⟩ (.int .i64 ((n : Int) + 1)) := ⟨_, rfl⟩
    have hD1 : RDec W1 d L (.slice ac m kc) (.slice al m kl) C N := by rw [hW1]; exact ((HF.out.s2 _ (2 * code) (by omega)).s2 _ C (by rw [HC.out]; simp [bitOf, HB.out]; omega)).s3 _ N (by rw [HN.out]; omega)
    have hS1 : Step (fun k => k = d) w W1 := by rw [hW1]; exact (((Step.refl (fun k => k = d) w).setCell ⟨d, 2, none⟩ _ (.inl rfl)).setCell ⟨d, 2, none⟩ _ (.inl rfl)).setCell ⟨d, 3, none⟩ _ (.inl rfl)
    rw [← hW1]
    clear hW1 c0 c1 c2 c3 f2 f3
    have HD := hidden hD1
    have hst := hS1
    have HS := hidden hst
    have c0 := hD1.c0
    have c1 := hD1.c1
    have c2 := hD1.c2
    have c3 := hD1.c3
    have f2 := hD1.f2
    have f3 := hD1.f3
    clear hD1 hS1 hst HF
    go_loopw [5, 6, 7] (fun g iv _ wr => ∃ i : Nat, i ≤ m ∧ iv = .int .i64 (i : Int) ∧ g = .bool (lg L C N i) ∧ (∃ q, wr = W1.drewN q) ∧ Hid (noHit L C N i)) (fun _ iv _ _ => m - (intOf iv).toNat)
    case atStart => exact ⟨0, Nat.zero_le _, rfl, rfl, ⟨0, rfl⟩, fun j hj => by omega⟩
    case round =>
      obtain ⟨i, hi, rfl, rfl, ⟨q, rfl⟩, hno⟩ := hrel
      by_cases him : i < m
      · have hiL : i < L.length := by have := Hm.out; omega
        obtain ⟨ba, oa, rfl, ka⟩ : ∃ ba oa, al = some ⟨ba, oa, none⟩ ∧ ∀ k, k < L.length → W1.cell? ⟨ba, oa + k, none⟩ = some (.int .i64 (L.getD k 0)) := by
          obtain ⟨ao, c, e, _, r1, r2⟩ := HD.out.rl
          injection e with e1
          cases al with
          | none => have := (r1 e1.symm).1; subst this; simp at hiL
          | some a => obtain ⟨b, o, rfl, hc⟩ := r2 a e1.symm (by intro e; subst e; simp at hiL); exact ⟨b, o, rfl, hc⟩
        obtain ⟨bc, oc, rfl, kcc⟩ : ∃ bc oc, ac = some ⟨bc, oc, none⟩ ∧ ∀ k, k < (codes L).length → W1.cell? ⟨bc, oc + k, none⟩ = some (.int .i64 ((codes L).getD k 0)) := by
          have hcl : (codes L).length = L.length := codes_length L
          obtain ⟨ao, c, e, _, r1, r2⟩ := HD.out.rc
          injection e with e1
          cases ac with
          | none => have := (r1 e1.symm).1; rw [this] at hcl; simp at hcl; omega
          | some a => obtain ⟨b, o, rfl, hc⟩ := r2 a e1.symm (by intro e; rw [e] at hcl; simp at hcl; omega); exact ⟨b, o, rfl, hc⟩
        have li := ka i hiL
        have ci := kcc i (by rw [codes_length]; exact hiL)
        rw [codes_getD L i hiL] at ci
        have hx := HOK.out (L.getD i 0) (by rw [getD_i L i hiL]; exact List.getElem_mem hiL)
        obtain ⟨x, ex⟩ := Int.eq_ofNat_of_zero_le hx.1
        have cnn := codeOf_nonneg L i
        have HLG := hidden (show lg L C N (i + 1) = (lg L C N i || (decide ((N : Int) < L.getD i 0) && decide (codeOf L i / 2 ^ ((L.getD i 0).toNat - N) = (C : Int)))) from rfl)
        have HNO := hidden (fun (h : ¬ (L.getD i 0 = (N : Int) ∧ codeOf L i = (C : Int))) => show noHit L C N (i + 1) from fun j hj => by
          by_cases e : j = i
          · rw [e]; exact h
          · exact hno.out j (by omega))
        have HIL := hidden hiL
        have HEX := hidden ex
        have x15 := hx.2
        rw [ex] at li x15 HLG HNO
        rw [Int.toNat_natCast] at HLG
        have i1 : (i : Int) < (m : Int) := by omega
        clear ka kcc hx ex hiL
        generalize hcv : codeOf L i = cv at *
        have HCV := hidden hcv
        clear hcv
        by_cases hxN : x = N
        · have bx : ((x : Int) == (N : Int)) = true := by simp [hxN]
          have bx2 : decide ((N : Int) < (x : Int)) = false := by simp; omega
          have bx3 : decide (N < x) = false := by simp; omega
          have bx4 : ¬ (N < x) := by omega
          have hxle : (x : Int) ≤ (N : Int) := by omega
          by_cases hc : cv = (C : Int)
          · have bc : (cv == (C : Int)) = true := by simp [hc]
            have HHIT := hidden (show RNextR L C N (i : Int) 0 0 from .inl ⟨i, HIL.out, by rw [HEX.out, hxN], by rw [HCV.out, hc], rfl, rfl, rfl⟩)
            have HEND := hidden (fun q => (HD.out.drewN q).reset)
            clear hc hxN
            go_wp2
            go_quiet (fail)
            go_wp2
            go_ret
            exact ⟨_, _, _, rfl, HHIT.out, HEND.out _, ((HS.out.drewN _).setCell ⟨d, 2, none⟩ _ (.inl rfl)).setCell ⟨d, 3, none⟩ _ (.inl rfl)⟩
          · have bc : (cv == (C : Int)) = false := by rw [beq_eq_false_iff_ne]; exact hc
            have HN1 := hidden (HNO.out (by rintro ⟨_, h⟩; exact hc h))
            have HL1 := hidden (show lg L C N (i + 1) = lg L C N i by rw [HLG.out, decide_eq_false (by omega)]; simp)
            clear hc hxN
            cases hlg : lg L C N i with
            | true =>
              have HLL := hidden hlg
              clear hlg
              go_wp2
              go_quiet (fail)
              go_wp2
              go_quiet (fail)
              go_wp2
              go_roundw
              case rel => exact ⟨i + 1, by omega, by go_num, by rw [HL1.out, HLL.out], ⟨_, rfl⟩, HN1.out⟩
              case measure => simp [intOf]; omega
            | false =>
              have HLL := hidden hlg
              clear hlg
              go_wp2
              go_quiet (fail)
              go_wp2
              go_quiet (fail)
              go_wp2
              go_roundw
              case rel => exact ⟨i + 1, by omega, by go_num, by rw [HL1.out, HLL.out], ⟨_, rfl⟩, HN1.out⟩
              case measure => simp [intOf]; omega
        · have bx : ((x : Int) == (N : Int)) = false := by rw [beq_eq_false_iff_ne]; omega
          have HN1 := hidden (HNO.out (by rintro ⟨h, _⟩; omega))
          cases hlg : lg L C N i with
          | true =>
              have HL1 := hidden (show lg L C N (i + 1) = true by rw [HLG.out, hlg]; rfl)
              clear hlg
              go_wp2
              go_quiet (fail)
              go_wp2
              go_quiet (fail)
              go_wp2
              go_roundw
              case rel => exact ⟨i + 1, by omega, by go_num, by rw [HL1.out], ⟨_, rfl⟩, HN1.out⟩
              case measure => simp [intOf]; omega
          | false =>
            by_cases hlt : N < x
            · have bl : decide (N < x) = true := by simpa using hlt
              have hsub : (x : Int) - (N : Int) = ((x - N : Nat) : Int) := by omega
              have HL1 := hidden (show lg L C N (i + 1) = decide (cv / 2 ^ (x - N) = (C : Int)) by rw [HLG.out, hlg, decide_eq_true (by omega)]; simp)
              clear hlg
              go_wp2
              go_quiet (fail)
              go_wp2
              go_quiet (fail)
              go_wp2
              go_roundw
              case rel => exact ⟨i + 1, by omega, by go_num, by rw [HL1.out]; rfl, ⟨_, rfl⟩, HN1.out⟩
              case measure => simp [intOf]; omega
            · have bl : decide (N < x) = false := by simpa using hlt
              have HL1 := hidden (show lg L C N (i + 1) = false by rw [HLG.out, hlg, decide_eq_false (by omega)]; rfl)
              clear hlg
              go_wp2
              go_quiet (fail)
              go_wp2
              go_quiet (fail)
              go_wp2
              go_roundw
              case rel => exact ⟨i + 1, by omega, by go_num, by rw [HL1.out], ⟨_, rfl⟩, HN1.out⟩
              case measure => simp [intOf]; omega
      · have hLm : i = m := by omega
        subst hLm
        have bim : ¬ ((i : Int) < (i : Int)) := by omega
        have HHM := Hm
        cases hlg : lg L C N i with
        | true =>
          have HHIT := hidden (show RNextR L C N (-1) C N from .inr (.inl ⟨by rw [← HHM.out]; exact hno.out, by rw [← HHM.out]; exact hlg, rfl, rfl, rfl⟩))
          clear hlg
          go_wp2
          go_ret
          exact ⟨_, rfl, _, _, HHIT.out, HD.out.drewN _, HS.out.drewN _⟩
        | false =>
          have HHIT := hidden (show RNextR L C N (-2) 0 0 from .inr (.inr ⟨by rw [← HHM.out]; exact hno.out, by rw [← HHM.out]; exact hlg, rfl, rfl, rfl⟩))
          have HEND := hidden (fun q => (HD.out.drewN q).reset)
          clear hlg
          go_wp2
          go_ret
          exact ⟨_, rfl, _, _, HHIT.out, HEND.out _, ((HS.out.drewN _).setCell ⟨d, 2, none⟩ _ (.inl rfl)).setCell ⟨d, 3, none⟩ _ (.inl rfl)⟩

end Go.Proofs.YtcgjmkcigmmjjaaGreatDoor

namespace Go.Proofs.YtcgjmkcigmmjjaaGreatDoor
open Go.RowKit
set_option maxRecDepth 100000
set_option linter.unusedVariables false
/-- A decoder of the page beside a stream that writes blocks of Z. -/
structure PB (Z : Nat → Prop) (r : Value) (d : Nat) (L : List Int) (vc vl : Value) : Prop where
  dz : ¬ Z d
  dr : ∀ a n c, r = .slice (some a) n c → a.block ≠ d
  cz : ∀ a n c, vc = .slice (some a) n c → codes L ≠ [] → ¬ Z a.block
  lz : ∀ a n c, vl = .slice (some a) n c → L ≠ [] → ¬ Z a.block

theorem RDec.farZ {S : Nat → Prop} {w w' : World} {d : Nat} {L : List Int} {vc vl : Value} {code n : Nat} (h : RDec w d L vc vl code n) (hs : Step S w w') (h1 : ¬ S d) (h2 : ∀ a n c, vc = .slice (some a) n c → codes L ≠ [] → ¬ S a.block) (h3 : ∀ a n c, vl = .slice (some a) n c → L ≠ [] → ¬ S a.block) : RDec w' d L vc vl code n := by
  have hd : d < w.heap.size := World.block_lt_of_cell? w _ h.c0
  exact ⟨hs.cell h.c0 h1, hs.cell h.c1 h1, hs.cell h.c2 h1, hs.cell h.c3 h1, h.rc.step hs h2, h.rl.step hs h3, (hs.frozen (p := ⟨d, 2, none⟩) hd h1).trans h.f2, (hs.frozen (p := ⟨d, 3, none⟩) hd h1).trans h.f3, h.nc, h.nl⟩

theorem PB.dec {Z : Nat → Prop} {r : Value} {d : Nat} {L : List Int} {vc vl : Value} (h : PB Z r d L vc vl) {w w' : World} {code n : Nat} (hd : RDec w d L vc vl code n) (hs : Step Z w w') : RDec w' d L vc vl code n := hd.farZ hs h.dz h.cz h.lz

theorem PS.far {S Z : Nat → Prop} {w w' : World} {p b : Nat} {r : Value} {M m t : Nat} {O : List Nat} {most : Int} {e : Nat} (h : PS w Z p b r M m t O most e) (hs : Step S w w') (h1 : ∀ k, S k → ¬ Z k) (h2 : ∀ a n c, r = .slice (some a) n c → bytesOf M m ≠ [] → ¬ S a.block) : PS w' Z p b r M m t O most e := by
  obtain ⟨v, x1, x2, x3, x4, x5⟩ := h
  exact ⟨v, x1.step hs (fun k => h1 p k x2) (fun k => h1 b k x3) (fun k hk s => h1 k s (x4 k hk)) h2, x2, x3, x4, x5⟩

/-- How the page's symbol ends. -/
def PSymE (w : World) (Z : Nat → Prop) (p b : Nat) (r : Value) (M m : Nat) (O : List Nat) (most : Int) (d : Nat) (L : List Int) (vc vl : Value) (x : Except Nat (Nat × Nat)) (e : Ending) (w' : World) : Prop :=
  Hid (Step (fun k => Z k ∨ k = d) w w') ∧
  match x with
  | .error y => e = .returned (.int .i64 (-1)) ∧ Hid (∃ t', PS w' Z p b r M m t' O most y)
  | .ok (i, u) => e = .returned (.int .i64 (i : Int)) ∧ Hid (PS w' Z p b r M m u O most 0 ∧ RDec w' d L vc vl 0 0)

set_option maxHeartbeats 4000000 in
theorem psymbol_any (Z : Nat → Prop) (p b : Nat) (r : Value) (M m t : Nat) (O : List Nat) (most : Int) (d : Nat) (L : List Int) (vc vl : Value) (w : World) (h : PS w Z p b r M m t O most 0) (hd : RDec w d L vc vl 0 0) (hb : PB Z r d L vc vl) (hm : m ≤ 1000000) (hL : newErr L = 0) :
    Calls Tryz.prog 75 #[.pointer (some ⟨p, 0, none⟩), .pointer (some ⟨d, 0, none⟩)] w fun e w' => PSymE w Z p b r M m O most d L vc vl (symV L M m t) e w' ∧ SymOk L.length m t (symV L M m t) := by
  obtain ⟨hL1, hL2⟩ := newErr_ok hL
  have HL1 := hidden hL1
  have HL2 := hidden hL2
  have HL0 := hidden hL
  have H0 := hidden (And.intro h hd)
  have hle : t ≤ 8 * m := by obtain ⟨v, hx, _⟩ := h; exact hx.rx.le
  have HB := hidden hb
  clear h hd hL hL1 hL2 hb
  go_enter Tryz.func75, Tryz.ntmps75
  go_wp2
  go_loopg [5, 6] (8 * m + 1 - t) (fun k _ _ wr => ∃ u code len : Nat, k = 8 * m + 1 - u ∧ t ≤ u ∧ u ≤ 8 * m ∧ Hid (Inv L code len ∧ (∀ r, Sym L M m code len u r → Sym L M m 0 0 t r) ∧ PS wr Z p b r M m u O most 0 ∧ RDec wr d L vc vl code len ∧ Step (fun k => Z k ∨ k = d) w wr))
  case atStart => exact ⟨t, 0, 0, rfl, Nat.le_refl _, hle, Inv.zero L, fun _ h => h, H0.out.1, H0.out.2, Step.refl _ _⟩
  case round =>
    obtain ⟨u, code, len, hk, hu1, hu2, HH⟩ := hrel
    have HK := hidden hk
    obtain ⟨_, _, c3, _, _⟩ := HH.out.2.2.1.cells
    clear hk
    by_cases hs : u + 1 ≤ 8 * m
    · obtain ⟨x, hx, hx2⟩ : ∃ x, x = M / 2 ^ u % 2 ^ 1 ∧ x < 2 := ⟨_, rfl, Nat.mod_lt _ (by omega)⟩
      have HX := hidden hx
      have hG : Hid (Calls Tryz.prog 42 #[.pointer (some ⟨p, 0, none⟩), .int .i64 (1 : Nat)] wr fun e w' => e = .returned (.int .i64 (x : Int)) ∧ (w'.cell? ⟨p, 3, none⟩ = some (.int .i64 0)) ∧ Hid (PS w' Z p b r M m (u + 1) O most 0 ∧ RDec w' d L vc vl code len ∧ Step (fun k => Z k ∨ k = d) w w')) :=
        hidden ((pg_ok Z p b r M m u O most 1 wr HH.out.2.2.1 hm (by omega) (by omega)).mono fun e w' ⟨he, T⟩ => by
          rw [← hx] at he
          exact ⟨he, T.out.1.cells.2.2.1, T.out.1, HB.out.dec HH.out.2.2.2.1 T.out.2, HH.out.2.2.2.2.trans T.out.2 (fun i hi => .inl (.inl hi))⟩)
      have hN : Hid (∀ w1, PS w1 Z p b r M m (u + 1) O most 0 → RDec w1 d L vc vl code len → Calls Tryz.prog 93 #[.pointer (some ⟨d, 0, none⟩), .int .i64 (x : Int)] w1 fun e w' => ∃ r' : Int, e = .returned (.int .i64 r') ∧ ((∃ i : Nat, r' = (i : Int)) ∨ r' = -1 ∨ r' = -2) ∧ (w'.cell? ⟨p, 3, none⟩ = some (.int .i64 0) ∧ w'.frozen? ⟨p, 3, none⟩ = false) ∧ Hid (∃ c l, NextR L (cmore M u code) (len + 1) r' c l ∧ PS w' Z p b r M m (u + 1) O most 0 ∧ RDec w' d L vc vl c l ∧ Step (fun k => Z k ∨ k = d) w1 w')) :=
        hidden (fun w1 S1 D1 => (refNext_any w1 d L vc vl code len x D1 HH.out.1.1 (HH.out.1.bit x).2.2 HL1.out HL2.out).mono fun e w' ⟨r', c, l, he, hr, hd, hst⟩ => by
          have hcm : 2 * code + bitOf (x : Int) = cmore M u code := by rw [bitOf_nat x hx2, HX.out]; rfl
          have hbit := HH.out.1.bit (x : Int)
          rw [hcm] at hr hbit
          have hnx : ∃ r2 c2 l2, NextR L (cmore M u code) (len + 1) r2 c2 l2 := by
            by_cases hlt : (cmore M u code : Int) < stf (cf L) (len + 1) + cf L (len + 1)
            · obtain ⟨i, hi, hiN, hir⟩ := rank_hit' L (len + 1) (by omega) ((cmore M u code : Int) - stf (cf L) (len + 1)) (by omega) (by omega)
              exact ⟨_, _, _, .inl ⟨i, hi, hiN, by rw [codeOf_eq L i (len + 1) hiN (by omega), hir]; omega, rfl, rfl, rfl⟩⟩
            · by_cases hp : plc (cf L) (len + 1 + 1) = plc (cf L) 16
              · exact ⟨_, _, _, .inr (.inl ⟨by omega, hp, rfl, rfl, rfl⟩)⟩
              · exact ⟨_, _, _, .inr (.inr ⟨by omega, hp, rfl, rfl, rfl⟩)⟩
          obtain ⟨r2, c2, l2, hn2⟩ := hnx
          obtain ⟨e1, e2, e3⟩ := agree HL2.out HL0.out (by omega) (by have := HH.out.1.1; omega) hbit.1 hn2 hr
          subst e1; subst e2; subst e3
          have hps := S1.far hst (fun k hk => by rw [hk]; exact HB.out.dz) (fun a n c e _ => HB.out.dr a n c e)
          refine ⟨r2, he, ?_, ⟨hps.cells.2.2.1, hps.cells.2.2.2.1⟩, c2, l2, hn2, hps, hd, hst.mono (fun i hi => .inr hi)⟩
          rcases hn2 with ⟨i, _, _, _, e, _⟩ | ⟨_, _, e, _⟩ | ⟨_, _, e, _⟩
          · exact .inl ⟨i, e⟩
          · exact .inr (.inr e)
          · exact .inr (.inl e))
      clear hx
      go_wp2_with (go_at_call 42; refine hG.out.mono ?_; rintro e w1 ⟨rfl, c31, S1⟩)
      refine (hN.out _ S1.out.1 S1.out.2.1).mono ?_
      rintro e w2 ⟨r', rfl, hr3, ⟨c32, f32⟩, S2⟩
      rcases hr3 with ⟨i, rfl⟩ | rfl | rfl
      · have hi1 : (0 : Int) ≤ (i : Int) := by omega
        have hi2 : ((i : Int) == -2) = false := by rw [beq_eq_false_iff_ne]; omega
        go_wp2
        go_ret
        obtain ⟨c, l, hr, s2, d2, st2⟩ := S2.out
        rcases hr with ⟨j, h1, h2, h3, h4, rfl, rfl⟩ | ⟨_, _, e, _⟩ | ⟨_, _, e, _⟩
        · have hij : i = j := by omega
          subst hij
          have hs0 := HH.out.2.1 _ (Sym.hit hs h1 h2 h3)
          have hsym := hs0.val
          refine ⟨⟨hidden (S1.out.2.2.trans st2 (fun i hi => .inl hi)), ?_⟩, by rw [hsym]; exact hs0.fine⟩
          rw [hsym]
          exact ⟨rfl, hidden ⟨s2, d2⟩⟩
        · omega
        · omega
      · go_wp2
        obtain ⟨c, l, hr, s2, d2, st2⟩ := S2.out
        rcases hr with ⟨j, h1, h2, h3, h4, _⟩ | ⟨_, _, e, _⟩ | ⟨h1, h2, _, rfl, rfl⟩
        · omega
        · omega
        · go_roundg (8 * m + 1 - (u + 1))
          case measure => have := HK.out; omega
          case rel =>
            have hbit := HH.out.1.bit (x : Int)
            rw [show 2 * code + bitOf (x : Int) = cmore M u code by rw [bitOf_nat x hx2, HX.out]; rfl] at hbit
            refine ⟨u + 1, _, _, rfl, by omega, by omega, ?_, fun r hr => HH.out.2.1 r (Sym.more hs h1 h2 hr), s2, d2, S1.out.2.2.trans st2 (fun i hi => .inl hi)⟩
            exact Inv.next HL2.out (by have := HH.out.1.1; omega) hbit.1 (r := -1) (.inr (.inr ⟨h1, h2, rfl, rfl, rfl⟩))
      · go_wp2
        go_ret
        obtain ⟨c, l, hr, s2, d2, st2⟩ := S2.out
        rcases hr with ⟨j, h1, h2, h3, h4, _⟩ | ⟨h1, h2, _⟩ | ⟨_, _, e, _⟩
        · omega
        · have hs0 := HH.out.2.1 _ (Sym.none hs h1 h2)
          have hsym := hs0.val
          have hz : Z p := by obtain ⟨_, _, hz, _⟩ := s2; exact hz
          refine ⟨⟨hidden ((S1.out.2.2.trans st2 (fun i hi => .inl hi)).setCell _ _ (.inl (.inl hz))), ?_⟩, by rw [hsym]; exact hs0.fine⟩
          rw [hsym]
          exact ⟨rfl, hidden ⟨_, (s2.err 3).1⟩⟩
        · omega
    · have hG : Hid (Calls Tryz.prog 42 #[.pointer (some ⟨p, 0, none⟩), .int .i64 (1 : Nat)] wr fun e w' => e = .returned (.int .i64 0) ∧ (w'.cell? ⟨p, 3, none⟩ = some (.int .i64 2)) ∧ Hid (PS w' Z p b r M m u O most 2 ∧ Step (fun k => Z k ∨ k = d) w w')) :=
        hidden ((pg_short Z p b r M m u O most 1 wr HH.out.2.2.1 hm (by omega) (by omega)).mono fun e w' ⟨he, T⟩ => ⟨he, T.out.1.cells.2.2.1, T.out.1, HH.out.2.2.2.2.trans T.out.2 (fun i hi => .inl (.inl hi))⟩)
      have b2 : ((2 : Int) != 0) = true := rfl
      go_wp2_with (go_at_call 42; refine hG.out.mono ?_; rintro e w1 ⟨rfl, c31, S1⟩)
      go_ret
      have hs0 := HH.out.2.1 _ (Sym.short (by omega))
      have hsym := hs0.val
      refine ⟨⟨hidden S1.out.2, ?_⟩, by rw [hsym]; exact hs0.fine⟩
      rw [hsym]
      exact ⟨rfl, hidden ⟨_, S1.out.1⟩⟩

/-- Behind an error there is none. -/
theorem psymbol_err (Z : Nat → Prop) (p b : Nat) (r : Value) (M m t : Nat) (O : List Nat) (most : Int) (e : Nat) (dv : Value) (w : World) (h : PS w Z p b r M m t O most e) (he : 0 < e) :
    Calls Tryz.prog 75 #[.pointer (some ⟨p, 0, none⟩), dv] w fun x w' => x = .returned (.int .i64 (-1)) ∧ w' = w := by
  obtain ⟨_, _, c3, _, _⟩ := h.cells
  have hb : ((e : Int) == 0) = false := by rw [beq_eq_false_iff_ne]; omega
  clear h
  go_enter Tryz.func75, Tryz.ntmps75
  go_wp2
  go_loopw [5, 6] (fun _ _ wr => wr = w) (fun _ _ _ => 0)
  case atStart => rfl
  case round =>
    obtain rfl := hrel
    go_wp2
    go_ret
    exact ⟨rfl, rfl⟩

end Go.Proofs.YtcgjmkcigmmjjaaGreatDoor

namespace Go.Proofs.YtcgjmkcigmmjjaaGreatDoor
open Go.RowKit
set_option maxRecDepth 100000
set_option linter.unusedVariables false
/-- A number that was read, or an error. -/
def PNumE (w : World) (Z : Nat → Prop) (p b : Nat) (r : Value) (M m : Nat) (O : List Nat) (most : Int) (x : Except Nat (Nat × Nat)) (e : Ending) (w' : World) : Prop :=
  match x with
  | .error y => ∃ z : Int, e = .returned (.int .i64 z) ∧ Hid (0 < y ∧ ∃ t', Pn w w' Z p b r M m t' O most y)
  | .ok (n, u) => e = .returned (.int .i64 (n : Int)) ∧ Hid (Pn w w' Z p b r M m u O most 0)

theorem pget_any (Z : Nat → Prop) (p b : Nat) (r : Value) (M m t : Nat) (O : List Nat) (most : Int) (n : Nat) (w : World) (h : PS w Z p b r M m t O most 0) (hm : m ≤ 1000000) (hn : n ≤ 24) :
    Calls Tryz.prog 42 #[.pointer (some ⟨p, 0, none⟩), .int .i64 n] w fun e w' => ∃ x : Nat, e = .returned (.int .i64 (x : Int)) ∧ Hid ((t + n ≤ 8 * m ∧ x = M / 2 ^ t % 2 ^ n ∧ Pn w w' Z p b r M m (t + n) O most 0) ∨ (8 * m < t + n ∧ x = 0 ∧ Pn w w' Z p b r M m t O most 2)) ∧ x < 2 ^ n := by
  by_cases g : t + n ≤ 8 * m
  · exact (pg_ok Z p b r M m t O most n w h hm hn g).mono fun e w' ⟨he, T⟩ => ⟨_, he, hidden (.inl ⟨g, rfl, T.out⟩), Nat.mod_lt _ (Nat.two_pow_pos n)⟩
  · exact (pg_short Z p b r M m t O most n w h hm hn (by omega)).mono fun e w' ⟨he, T⟩ => ⟨0, he, hidden (.inr ⟨by omega, rfl, T.out⟩), Nat.two_pow_pos n⟩

theorem numE_of {w w' : World} {Z : Nat → Prop} {p b : Nat} {r : Value} {M m t : Nat} {O : List Nat} {most : Int} {n x l : Nat} {e : Ending} (he : e = .returned (.int .i64 ((l + x : Nat) : Int)))
    (h : (t + n ≤ 8 * m ∧ x = M / 2 ^ t % 2 ^ n ∧ Pn w w' Z p b r M m (t + n) O most 0) ∨ (8 * m < t + n ∧ x = 0 ∧ Pn w w' Z p b r M m t O most 2)) : PNumE w Z p b r M m O most (numP M m t l n) e w' := by
  rcases h with ⟨h1, h2, h3⟩ | ⟨h1, h2, h3⟩
  · unfold numP
    rw [if_pos h1]
    refine ⟨by rw [he, h2], hidden h3⟩
  · unfold numP
    rw [if_neg (by omega)]
    exact ⟨_, he, hidden ⟨by omega, t, h3⟩⟩

set_option maxHeartbeats 1000000 in
theorem plong_any (Z : Nat → Prop) (p b : Nat) (r : Value) (M m t : Nat) (O : List Nat) (most : Int) (x : Nat) (w : World) (h : PS w Z p b r M m t O most 0) (hm : m ≤ 1000000) (h1 : 257 ≤ x) (h2 : x ≤ 285) :
    Calls Tryz.prog 77 #[.pointer (some ⟨p, 0, none⟩), .int .i64 x] w fun e w' => PNumE w Z p b r M m O most (lenP M m x t) e w' := by
  have H := hidden h
  by_cases g2 : x = 285
  · subst g2
    have HR : Hid (lenP M m 285 t = .ok (258, t)) := hidden (by unfold lenP; rfl)
    clear h
    go_enter Tryz.func77, Tryz.ntmps77
    go_wp2
    go_ret
    rw [HR.out]
    exact ⟨rfl, hidden ⟨H.out, Step.refl _ _⟩⟩
  · by_cases g3 : x < 265
    · have HR : Hid (lenP M m x t = .ok (x - 254, t)) := hidden (by unfold lenP; rw [if_neg (by omega), if_neg g2, if_pos g3])
      have g3' : (x : Int) < 265 := by omega
      clear h
      go_enter Tryz.func77, Tryz.ntmps77
      go_wp2
      go_ret
      rw [HR.out]
      refine ⟨?_, hidden ⟨H.out, Step.refl _ _⟩⟩
      rw [show ((x - 254 : Nat) : Int) = (x : Int) - 254 by omega]
      rfl
    · obtain ⟨k, hk, hk1, hk2⟩ : ∃ k, x = k + 261 ∧ 4 ≤ k ∧ k < 24 := ⟨x - 261, by omega, by omega, by omega⟩
      subst hk
      have hb : (((k + 261 : Nat) : Int) == 285) = false := by rw [beq_eq_false_iff_ne]; omega
      obtain ⟨n, hn, hn1, hn2⟩ : ∃ n, n = k / 4 ∧ 1 ≤ n ∧ n ≤ 5 := ⟨_, rfl, by omega, by omega⟩
      obtain ⟨y, hy, hy2⟩ : ∃ y, y = (4 + k % 4) * 2 ^ n ∧ y ≤ 1000 := ⟨_, rfl, by
        have : (2 : Nat) ^ n ≤ 2 ^ 5 := Nat.pow_le_pow_right (by omega) hn2
        have h4 : 4 + k % 4 ≤ 7 := by omega
        have := Nat.mul_le_mul h4 this
        omega⟩
      have HR : Hid (lenP M m (k + 261) t = numP M m t (y + 3) n) := hidden (by
        unfold lenP
        rw [if_neg (by omega), if_neg g2, if_neg g3, show (k + 261 - 257) % 4 = k % 4 by omega, show (k + 261 - 257) / 4 - 1 = k / 4 by omega, ← hn, ← hy])
      have hN : Hid (∀ w1, PS w1 Z p b r M m t O most 0 → Calls Tryz.prog 42 #[.pointer (some ⟨p, 0, none⟩), .int .i64 n] w1 fun e w' => ∃ x : Nat, e = .returned (.int .i64 (x : Int)) ∧ x ≤ 100 ∧ Hid ((t + n ≤ 8 * m ∧ x = M / 2 ^ t % 2 ^ n ∧ Pn w1 w' Z p b r M m (t + n) O most 0) ∨ (8 * m < t + n ∧ x = 0 ∧ Pn w1 w' Z p b r M m t O most 2))) :=
        hidden (fun w1 S1 => (pget_any Z p b r M m t O most n w1 S1 hm (by omega)).mono fun e w' ⟨x, he, hq, hx⟩ => ⟨x, he, by
          have : (2 : Nat) ^ n ≤ 2 ^ 5 := Nat.pow_le_pow_right (by omega) hn2
          omega, hq⟩)
      have ea : Hid (wrap64 (3 + wrap64 ((4 + (k : Int) % 4) * 2 ^ (k / 4))) = ((y + 3 : Nat) : Int)) := hidden (by
        have e3 : (4 + (k : Int) % 4) * 2 ^ (k / 4) = (y : Int) := by
          rw [hy, ← hn]
          simp
        rw [e3, wrap64_id (y : Int) (by omega) (by omega), wrap64_id (3 + (y : Int)) (by omega) (by omega)]
        omega)
      have en : Hid ((k : Int) / 4 = (n : Int)) := hidden (by omega)
      clear hn hy
      clear h
      go_enter Tryz.func77, Tryz.ntmps77
      go_wp2_with fail
      rw [ea.out, en.out]
      refine (hN.out _ H.out).mono ?_
      rintro e w1 ⟨x, rfl, hx, hq⟩
      go_wp2
      go_ret
      rw [HR.out]
      refine numE_of (x := x) ?_ hq.out
      rw [show ((y + 3 + x : Nat) : Int) = ((y + 3 : Nat) : Int) + (x : Int) by omega]
      rfl

set_option maxHeartbeats 1000000 in
theorem pfar_any (Z : Nat → Prop) (p b : Nat) (r : Value) (M m t : Nat) (O : List Nat) (most : Int) (x : Nat) (w : World) (h : PS w Z p b r M m t O most 0) (hm : m ≤ 1000000) (h2 : x ≤ 29) :
    Calls Tryz.prog 78 #[.pointer (some ⟨p, 0, none⟩), .int .i64 x] w fun e w' => PNumE w Z p b r M m O most (if x < 4 then .ok (x + 1, t) else numP M m t ((2 + x % 2) * 2 ^ (x / 2 - 1) + 1) (x / 2 - 1)) e w' := by
  have H := hidden h
  by_cases g3 : x < 4
  · have g3' : (x : Int) < 4 := by omega
    clear h
    rw [if_pos g3]
    go_enter Tryz.func78, Tryz.ntmps78
    go_wp2
    go_ret
    refine ⟨?_, hidden ⟨H.out, Step.refl _ _⟩⟩
    rw [show ((x + 1 : Nat) : Int) = (x : Int) + 1 by omega]
    rfl
  · rw [if_neg g3]
    obtain ⟨n, hn, hn1, hn2⟩ : ∃ n, n = x / 2 - 1 ∧ 1 ≤ n ∧ n ≤ 13 := ⟨_, rfl, by omega, by omega⟩
    obtain ⟨y, hy, hy2⟩ : ∃ y, y = (2 + x % 2) * 2 ^ n ∧ y ≤ 100000 := ⟨_, rfl, by
      have : (2 : Nat) ^ n ≤ 2 ^ 13 := Nat.pow_le_pow_right (by omega) hn2
      have h4 : 2 + x % 2 ≤ 3 := by omega
      have := Nat.mul_le_mul h4 this
      omega⟩
    rw [← hn, ← hy]
    have hN : Hid (∀ w1, PS w1 Z p b r M m t O most 0 → Calls Tryz.prog 42 #[.pointer (some ⟨p, 0, none⟩), .int .i64 n] w1 fun e w' => ∃ x : Nat, e = .returned (.int .i64 (x : Int)) ∧ x ≤ 10000 ∧ Hid ((t + n ≤ 8 * m ∧ x = M / 2 ^ t % 2 ^ n ∧ Pn w1 w' Z p b r M m (t + n) O most 0) ∨ (8 * m < t + n ∧ x = 0 ∧ Pn w1 w' Z p b r M m t O most 2))) :=
      hidden (fun w1 S1 => (pget_any Z p b r M m t O most n w1 S1 hm (by omega)).mono fun e w' ⟨x, he, hq, hx⟩ => ⟨x, he, by
        have : (2 : Nat) ^ n ≤ 2 ^ 13 := Nat.pow_le_pow_right (by omega) hn2
        omega, hq⟩)
    have ea : Hid (wrap64 (1 + wrap64 ((2 + (x : Int) % 2) * 2 ^ (x / 2 - 1))) = ((y + 1 : Nat) : Int)) := hidden (by
      have e3 : (2 + (x : Int) % 2) * 2 ^ (x / 2 - 1) = (y : Int) := by
        rw [hy, ← hn]
        simp
      rw [e3, wrap64_id (y : Int) (by omega) (by omega), wrap64_id (1 + (y : Int)) (by omega) (by omega)]
      omega)
    have en : Hid ((x : Int) / 2 - 1 = (n : Int)) := hidden (by omega)
    clear hn hy h
    go_enter Tryz.func78, Tryz.ntmps78
    go_wp2_with fail
    rw [ea.out, en.out]
    refine (hN.out _ H.out).mono ?_
    rintro e w1 ⟨z, rfl, hx, hq⟩
    go_wp2
    go_ret
    refine numE_of (x := z) ?_ hq.out
    rw [show ((y + 1 + z : Nat) : Int) = ((y + 1 : Nat) : Int) + (z : Int) by omega]
    rfl

end Go.Proofs.YtcgjmkcigmmjjaaGreatDoor

namespace Go.Proofs.YtcgjmkcigmmjjaaGreatDoor
open Go.RowKit
set_option maxRecDepth 100000
set_option linter.unusedVariables false
/-- Two decoders of the page beside a stream. -/
structure PBs (Z : Nat → Prop) (r : Value) (d1 : Nat) (L : List Int) (c1 l1 : Value) (d2 : Nat) (D : List Int) (c2 l2 : Value) : Prop where
  a : PB Z r d1 L c1 l1
  b : PB Z r d2 D c2 l2
  ne : d1 ≠ d2
  c12 : ∀ a n c, c1 = .slice (some a) n c → codes L ≠ [] → a.block ≠ d2
  l12 : ∀ a n c, l1 = .slice (some a) n c → L ≠ [] → a.block ≠ d2
  c21 : ∀ a n c, c2 = .slice (some a) n c → codes D ≠ [] → a.block ≠ d1
  l21 : ∀ a n c, l2 = .slice (some a) n c → D ≠ [] → a.block ≠ d1

/-- A stream with its two decoders. -/
def PD (w : World) (Z : Nat → Prop) (p b : Nat) (r : Value) (M m t : Nat) (O : List Nat) (most : Int) (d1 : Nat) (L : List Int) (c1 l1 : Value) (d2 : Nat) (D : List Int) (c2 l2 : Value) : Prop :=
  PS w Z p b r M m t O most 0 ∧ RDec w d1 L c1 l1 0 0 ∧ RDec w d2 D c2 l2 0 0

/-- The blocks that symbols write. -/
def Zd (Z : Nat → Prop) (d1 d2 k : Nat) : Prop := Z k ∨ k = d1 ∨ k = d2

theorem PD.sym1 {Z : Nat → Prop} {p b : Nat} {r : Value} {M m t : Nat} {O : List Nat} {most : Int} {d1 : Nat} {L : List Int} {c1 l1 : Value} {d2 : Nat} {D : List Int} {c2 l2 : Value} {w : World} (h : PD w Z p b r M m t O most d1 L c1 l1 d2 D c2 l2) (hb : PBs Z r d1 L c1 l1 d2 D c2 l2) (hm : m ≤ 1000000) (hL : newErr L = 0) :
    Calls Tryz.prog 75 #[.pointer (some ⟨p, 0, none⟩), .pointer (some ⟨d1, 0, none⟩)] w fun e w' => Hid (Step (Zd Z d1 d2) w w') ∧
      match symV L M m t with
      | .error y => e = .returned (.int .i64 (-1)) ∧ Hid (0 < y ∧ ∃ t', PS w' Z p b r M m t' O most y)
      | .ok (i, u) => e = .returned (.int .i64 (i : Int)) ∧ (w'.cell? ⟨p, 3, none⟩ = some (.int .i64 0) ∧ w'.frozen? ⟨p, 3, none⟩ = false) ∧ Hid (PD w' Z p b r M m u O most d1 L c1 l1 d2 D c2 l2) := by
  refine (psymbol_any Z p b r M m t O most d1 L c1 l1 w h.1 h.2.1 hb.a hm hL).mono fun e w' ⟨⟨hs, hr⟩, hok⟩ => ⟨hidden (hs.out.mono (fun i hi => hi.elim .inl (fun e => .inr (.inl e)))), ?_⟩
  cases hq : symV L M m t with
  | error y =>
    rw [hq] at hr hok
    exact ⟨hr.1, hidden ⟨by rcases hok with e | e <;> omega, hr.2.out⟩⟩
  | ok z =>
    obtain ⟨i, u⟩ := z
    rw [hq] at hr
    exact ⟨hr.1, ⟨hr.2.out.1.cells.2.2.1, hr.2.out.1.cells.2.2.2.1⟩, hidden ⟨hr.2.out.1, hr.2.out.2, h.2.2.farZ hs.out (fun e => e.elim hb.b.dz (fun e => hb.ne e.symm)) (fun a n c e1 e2 e => e.elim (hb.b.cz a n c e1 e2) (hb.c21 a n c e1 e2)) (fun a n c e1 e2 e => e.elim (hb.b.lz a n c e1 e2) (hb.l21 a n c e1 e2))⟩⟩

theorem PD.sym2 {Z : Nat → Prop} {p b : Nat} {r : Value} {M m t : Nat} {O : List Nat} {most : Int} {d1 : Nat} {L : List Int} {c1 l1 : Value} {d2 : Nat} {D : List Int} {c2 l2 : Value} {w : World} (h : PD w Z p b r M m t O most d1 L c1 l1 d2 D c2 l2) (hb : PBs Z r d1 L c1 l1 d2 D c2 l2) (hm : m ≤ 1000000) (hD : newErr D = 0) :
    Calls Tryz.prog 75 #[.pointer (some ⟨p, 0, none⟩), .pointer (some ⟨d2, 0, none⟩)] w fun e w' => Hid (Step (Zd Z d1 d2) w w') ∧
      match symV D M m t with
      | .error y => e = .returned (.int .i64 (-1)) ∧ Hid (0 < y ∧ ∃ t', PS w' Z p b r M m t' O most y)
      | .ok (i, u) => e = .returned (.int .i64 (i : Int)) ∧ (w'.cell? ⟨p, 3, none⟩ = some (.int .i64 0) ∧ w'.frozen? ⟨p, 3, none⟩ = false) ∧ Hid (PD w' Z p b r M m u O most d1 L c1 l1 d2 D c2 l2) := by
  refine (psymbol_any Z p b r M m t O most d2 D c2 l2 w h.1 h.2.2 hb.b hm hD).mono fun e w' ⟨⟨hs, hr⟩, hok⟩ => ⟨hidden (hs.out.mono (fun i hi => hi.elim .inl (fun e => .inr (.inr e)))), ?_⟩
  cases hq : symV D M m t with
  | error y =>
    rw [hq] at hr hok
    exact ⟨hr.1, hidden ⟨by rcases hok with e | e <;> omega, hr.2.out⟩⟩
  | ok z =>
    obtain ⟨i, u⟩ := z
    rw [hq] at hr
    exact ⟨hr.1, ⟨hr.2.out.1.cells.2.2.1, hr.2.out.1.cells.2.2.2.1⟩, hidden ⟨hr.2.out.1, h.2.1.farZ hs.out (fun e => e.elim hb.a.dz (fun e => hb.ne e)) (fun a n c e1 e2 e => e.elim (hb.a.cz a n c e1 e2) (hb.c12 a n c e1 e2)) (fun a n c e1 e2 e => e.elim (hb.a.lz a n c e1 e2) (hb.l12 a n c e1 e2)), hr.2.out.2⟩⟩

/-- The decoders stand where the stream alone goes on. -/
theorem PD.on {Z : Nat → Prop} {p b : Nat} {r : Value} {M m t t' : Nat} {O O' : List Nat} {most : Int} {d1 : Nat} {L : List Int} {c1 l1 : Value} {d2 : Nat} {D : List Int} {c2 l2 : Value} {w w' : World} (h : PD w Z p b r M m t O most d1 L c1 l1 d2 D c2 l2) (hb : PBs Z r d1 L c1 l1 d2 D c2 l2) (hn : Pn w w' Z p b r M m t' O' most 0) : PD w' Z p b r M m t' O' most d1 L c1 l1 d2 D c2 l2 :=
  ⟨hn.1, hb.a.dec h.2.1 hn.2, hb.b.dec h.2.2 hn.2⟩

/-- What symbols leave. -/
def PSymsE (w : World) (Z : Nat → Prop) (p b : Nat) (r : Value) (M m : Nat) (most : Int) (d1 d2 : Nat) (x : Except Nat (Nat × List Nat)) (w' : World) : Prop :=
  Step (Zd Z d1 d2) w w' ∧
  match x with
  | .error y => 0 < y ∧ ∃ t' O', PS w' Z p b r M m t' O' most y
  | .ok (u, Q) => PS w' Z p b r M m u Q most 0 ∧ Q.length ≤ 258 * u

/-- Between two rounds. -/
def PRo (w : World) (Z : Nat → Prop) (p b : Nat) (r : Value) (M m t : Nat) (O : List Nat) (most : Int) (d1 : Nat) (L : List Int) (c1 l1 : Value) (d2 : Nat) (D : List Int) (c2 l2 : Value) (k : Nat) (e : Nat) (wr : World) : Prop :=
  Step (Zd Z d1 d2) w wr ∧
  ((e = 0 ∧ ∃ u Q, k = 8 * m + 1 - u ∧ u ≤ 8 * m ∧ (∀ r, Syms L D M m most u Q r → Syms L D M m most t O r) ∧ PD wr Z p b r M m u Q most d1 L c1 l1 d2 D c2 l2 ∧ Q.length ≤ 258 * u) ∨
   (0 < e ∧ Syms L D M m most t O (.error e) ∧ ∃ u Q, PS wr Z p b r M m u Q most e))

theorem PRo.cell {w : World} {Z : Nat → Prop} {p b : Nat} {r : Value} {M m t : Nat} {O : List Nat} {most : Int} {d1 : Nat} {L : List Int} {c1 l1 : Value} {d2 : Nat} {D : List Int} {c2 l2 : Value} {k e : Nat} {wr : World} (h : PRo w Z p b r M m t O most d1 L c1 l1 d2 D c2 l2 k e wr) : wr.cell? ⟨p, 3, none⟩ = some (.int .i64 (e : Int)) := by
  rcases h.2 with ⟨rfl, u, Q, _, _, _, hp, _⟩ | ⟨_, _, u, Q, hp⟩
  · exact hp.1.cells.2.2.1
  · exact hp.cells.2.2.1

theorem Zd.on {Z : Nat → Prop} {d1 d2 : Nat} {w w1 w2 : World} (h : Step (Zd Z d1 d2) w w1) (h2 : Step Z w1 w2) : Step (Zd Z d1 d2) w w2 := h.trans h2 (fun i hi => .inl (.inl hi))

theorem Zd.trans {Z : Nat → Prop} {d1 d2 : Nat} {w w1 w2 : World} (h : Step (Zd Z d1 d2) w w1) (h2 : Step (Zd Z d1 d2) w1 w2) : Step (Zd Z d1 d2) w w2 := h.trans h2 (fun i hi => .inl hi)

/-- A copy of a match, j bytes of n of it. -/
def PCo (w1 : World) (Z : Nat → Prop) (p b : Nat) (r : Value) (M m u : Nat) (Q : List Nat) (most : Int) (dd n : Nat) (j e : Nat) (W : World) : Prop :=
  Step Z w1 W ∧ ((e = 0 ∧ (0 < j → ((Q.length + j : Nat) : Int) ≤ most) ∧ PS W Z p b r M m u (copyP Q dd j) most 0) ∨ (e = 5 ∧ most < ((Q.length + n : Nat) : Int) ∧ ∃ Q', PS W Z p b r M m u Q' most 5))

theorem PCo.cell {w1 : World} {Z : Nat → Prop} {p b : Nat} {r : Value} {M m u : Nat} {Q : List Nat} {most : Int} {dd n j e : Nat} {W : World} (h : PCo w1 Z p b r M m u Q most dd n j e W) : W.cell? ⟨p, 3, none⟩ = some (.int .i64 (e : Int)) := by
  rcases h.2 with ⟨rfl, _, hp⟩ | ⟨rfl, _, _, hp⟩
  · exact hp.cells.2.2.1
  · exact hp.cells.2.2.1

theorem PS.drew {w : World} {Z : Nat → Prop} {p b : Nat} {r : Value} {M m t : Nat} {O : List Nat} {most : Int} {e : Nat} (h : PS w Z p b r M m t O most e) : PS w.drew Z p b r M m t O most e := h.drewN 1

end Go.Proofs.YtcgjmkcigmmjjaaGreatDoor

namespace Go.Proofs.YtcgjmkcigmmjjaaGreatDoor
set_option linter.unusedVariables false
theorem symV_adv {L : List Int} (hL : newErr L = 0) {M m t x u : Nat} (h : symV L M m t = .ok (x, u)) : x < L.length ∧ t < u ∧ u ≤ 8 * m := by
  have := (symV_spec hL M m t).fine
  rw [h] at this
  exact this

theorem Syms.exists {L D : List Int} (hL : newErr L = 0) (hD : newErr D = 0) {M m : Nat} {most : Int} : ∀ (k t : Nat) (O : List Nat), t ≤ 8 * m → 8 * m - t ≤ k → ∃ r, Syms L D M m most t O r
  | k, t, O, ht, hk => by
    cases hs : symV L M m t with
    | error e => exact ⟨_, Syms.bad hs⟩
    | ok z =>
      obtain ⟨x, u⟩ := z
      obtain ⟨h1, h2, h3⟩ := symV_adv hL hs
      cases k with
      | zero => omega
      | succ k =>
        by_cases g1 : x = 256
        · subst g1; exact ⟨_, Syms.stop hs⟩
        · by_cases g2 : x < 256
          · by_cases g3 : 1 ≤ most - (O.length : Int)
            · obtain ⟨r, hr⟩ := Syms.exists hL hD k u (O ++ [x]) h3 (by omega)
              exact ⟨r, Syms.lit hs g2 g3 hr⟩
            · exact ⟨_, Syms.full hs g2 g3⟩
          · cases hq : matchP D M m most x u O with
            | error e => exact ⟨_, Syms.none hs (by omega) hq⟩
            | ok z =>
              obtain ⟨u2, O2⟩ := z
              obtain ⟨h4, h5, _⟩ := matchP_ok hD (by omega) h3 hq
              obtain ⟨r, hr⟩ := Syms.exists hL hD k u2 O2 h5 (by omega)
              exact ⟨r, Syms.mat hs (by omega) hq hr⟩

theorem Syms.adv {L D : List Int} (hL : newErr L = 0) (hD : newErr D = 0) {M m t : Nat} {most : Int} {O : List Nat} {r : Except Nat (Nat × List Nat)} (h : Syms L D M m most t O r) : ∀ u Q, r = .ok (u, Q) → t < u ∧ u ≤ 8 * m := by
  induction h with
  | bad _ => intro u Q e; cases e
  | stop hs => intro u Q e; injection e with e; injection e with e1 e2; subst e1; have := symV_adv hL hs; exact ⟨this.2.1, this.2.2⟩
  | full _ _ _ => intro u Q e; cases e
  | lit hs _ _ _ ih => intro u Q e; have := ih u Q e; have h2 := symV_adv hL hs; omega
  | none _ _ _ => intro u Q e; cases e
  | mat hs hx hq _ ih =>
    intro u Q e
    have := ih u Q e
    have h2 := symV_adv hL hs
    have h3 := matchP_ok hD (by omega) h2.2.2 hq
    omega

theorem symsV_adv {L D : List Int} (hL : newErr L = 0) (hD : newErr D = 0) {M m t u : Nat} {most : Int} {O Q : List Nat} (ht : t ≤ 8 * m) (h : symsV L D M m most t O = .ok (u, Q)) : t < u ∧ u ≤ 8 * m := by
  obtain ⟨r, hr⟩ := Syms.exists hL hD (M := M) (most := most) (8 * m - t) t O ht (Nat.le_refl _)
  have e := hr.val
  rw [e] at h
  exact hr.adv hL hD u Q h

theorem Lens.exists {C : List Int} (hC : newErr C = 0) {M m many : Nat} : ∀ (k t : Nat) (A : List Int), t ≤ 8 * m → many - A.length ≤ k → ∃ r, Lens C M m many t A r
  | k, t, A, ht, hk => by
    by_cases g0 : many ≤ A.length
    · exact ⟨_, Lens.done g0⟩
    · cases k with
      | zero => omega
      | succ k =>
        cases hs : symV C M m t with
        | error e => exact ⟨_, Lens.bad (by omega) hs⟩
        | ok z =>
          obtain ⟨x, u⟩ := z
          obtain ⟨h1, h2, h3⟩ := symV_adv hC hs
          by_cases g1 : x = 16 ∧ A.length = 0
          · obtain ⟨rfl, g1⟩ := g1; exact ⟨_, Lens.first (by omega) hs g1⟩
          · have htk := timP_ok M m x u h3
            cases hq : timP M m x u with
            | error e => exact ⟨_, Lens.short (by omega) hs g1 hq⟩
            | ok z =>
              obtain ⟨n, u2⟩ := z
              rw [hq] at htk
              obtain ⟨q1, q2, q3, q4⟩ := htk
              by_cases g2 : many - A.length < n
              · exact ⟨_, Lens.over (by omega) hs g1 hq g2⟩
              · obtain ⟨r, hr⟩ := Lens.exists hC (M := M) (m := m) (many := many) k u2 (A ++ List.replicate n (lenOf x A)) q4 (by rw [List.length_append, List.length_replicate]; omega)
                exact ⟨r, Lens.more (by omega) hs g1 hq (by omega) hr⟩

theorem Lens.adv {C : List Int} (hC : newErr C = 0) {M m many t : Nat} {A : List Int} {r : Except Nat (Nat × List Int)} (h : Lens C M m many t A r) : t ≤ 8 * m → ∀ u Q, r = .ok (u, Q) → t ≤ u ∧ u ≤ 8 * m := by
  induction h with
  | done _ => intro ht u Q e; injection e with e; injection e with e1 e2; subst e1; exact ⟨Nat.le_refl _, ht⟩
  | bad _ _ => intro ht u Q e; cases e
  | first _ _ _ => intro ht u Q e; cases e
  | short _ _ _ _ => intro ht u Q e; cases e
  | over _ _ _ _ _ => intro ht u Q e; cases e
  | @more t u x n u2 A r _ hs _ hq _ _ ih =>
    intro ht u' Q e
    have h2 := symV_adv hC hs
    have h3 := timP_ok M m x u h2.2.2
    rw [hq] at h3
    obtain ⟨q1, q2, q3, q4⟩ := h3
    have := ih q4 u' Q e
    omega

theorem lensV_adv {C : List Int} (hC : newErr C = 0) {M m many t u : Nat} {A : List Int} (ht : t ≤ 8 * m) (h : lensV C M m many t = .ok (u, A)) : t ≤ u ∧ u ≤ 8 * m := by
  obtain ⟨r, hr⟩ := Lens.exists hC (M := M) (many := many) many t [] ht (by simp)
  have e := hr.val
  rw [e] at h
  exact hr.adv hC ht u A h

theorem ownP_adv {M m t u : Nat} {L D : List Int} (h : ownP M m t = .ok (u, L, D)) : newErr L = 0 ∧ newErr D = 0 ∧ t ≤ u ∧ u ≤ 8 * m := by
  unfold ownP at h
  split at h
  · unfold ownC at h
    split at h
    · cases h
    · split at h
      · split at h
        · rename_i g1 g2 g3 g4
          cases hq : lensV (clL M (t + 14) (M / 2 ^ t % 16384 / 1024 + 4)) M m (M / 2 ^ t % 16384 % 32 + 257 + (M / 2 ^ t % 16384 / 32 % 32 + 1)) (t + 14 + 3 * (M / 2 ^ t % 16384 / 1024 + 4)) with
          | error e => rw [hq] at h; cases h
          | ok z =>
            obtain ⟨u', A⟩ := z
            rw [hq] at h
            have ha := lensV_adv g4 g3 hq
            have h' : ownA (M / 2 ^ t % 16384 % 32 + 257) u' A = .ok (u, L, D) := h
            unfold ownA at h'
            by_cases k1 : A.getD 256 0 = 0
            · rw [if_pos k1] at h'; cases h'
            · rw [if_neg k1] at h'
              by_cases k2 : newErr (A.take (M / 2 ^ t % 16384 % 32 + 257)) = 0
              · rw [if_neg (fun q => q k2)] at h'
                by_cases k3 : newErr (A.drop (M / 2 ^ t % 16384 % 32 + 257)) = 0
                · rw [if_neg (fun q => q k3)] at h'
                  injection h' with h'
                  injection h' with e1 e2
                  injection e2 with e2 e3
                  subst e1; subst e2; subst e3
                  exact ⟨k2, k3, by omega, ha.2⟩
                · rw [if_pos k3] at h'; cases h'
              · rw [if_pos k2] at h'; cases h'
        · cases h
      · cases h
  · cases h

theorem storedP_adv {M m t u : Nat} {most : Int} {O Q : List Nat} (h : storedP M m most t O = .ok (u, Q)) : t < u ∧ u ≤ 8 * m := by
  unfold storedP at h
  simp only at h
  split at h
  · split at h
    · split at h
      · split at h
        · injection h with h
          injection h with h1 h2
          subst h1
          omega
        · cases h
      · cases h
    · cases h
  · cases h

theorem blkF_adv {M m t u : Nat} {most : Int} {O Q : List Nat} (h : blkF M m most t O = .ok (u, Q)) : t < u ∧ u ≤ 8 * m := by
  unfold blkF at h
  split at h
  · rename_i g
    cases hq : ownP M m (t + 3) with
    | error e => rw [hq] at h; cases h
    | ok z =>
      obtain ⟨u1, L, D⟩ := z
      rw [hq] at h
      obtain ⟨a1, a2, a3, a4⟩ := ownP_adv hq
      have := symsV_adv a1 a2 a4 h
      omega
  · unfold blkP at h
    split at h
    · split at h
      · have := storedP_adv h; omega
      · split at h
        · have := symsV_adv FL_ok FD_ok (by omega) h; omega
        · cases h
    · cases h

theorem BlksF.exists {M m : Nat} {most : Int} : ∀ (k t : Nat) (O : List Nat), 8 * m - t < k → ∃ r, BlksF M m most k t O r
  | 0, t, O, hk => by omega
  | k + 1, t, O, hk => by
    cases hq : blkF M m most t O with
    | error e => exact ⟨_, BlksF.bad hq⟩
    | ok z =>
      obtain ⟨u, Q⟩ := z
      have ha := blkF_adv hq
      have h2 : M / 2 ^ t % 2 < 2 := Nat.mod_lt _ (by omega)
      by_cases g : M / 2 ^ t % 2 = 1
      · exact ⟨_, BlksF.last g hq⟩
      · obtain ⟨r, hr⟩ := BlksF.exists (M := M) (m := m) (most := most) k u Q (by omega)
        exact ⟨r, BlksF.more (by omega) hq hr⟩

end Go.Proofs.YtcgjmkcigmmjjaaGreatDoor
