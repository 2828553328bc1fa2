/-
  The page's own stream: bytes as they are.
-/
import Derived.Test.YtinncakendfklaaDoorIPageS
namespace Go.Proofs.YtinncakendfklaaDoor
open Go.RowKit
set_option maxRecDepth 100000
set_option linter.unusedVariables false

theorem PS.took {w w' : World} {Z : Nat → Prop} {p b : Nat} {r : Value} {M m t t' : Nat} {O : List Nat} {most : Int} {e : Nat} (h : PS w Z p b r M m t O most e) (T : TookX w w' b r M m t') : Pn w w' Z p b r M m t' O most e := by
  obtain ⟨v, h1, h2, h3, h4, h5⟩ := h
  exact ⟨⟨v, h1.took T, h2, h3, h4, h5⟩, T.2.mono (fun i hi => by rw [hi]; exact h3)⟩
theorem PS.drewN {w : World} {Z : Nat → Prop} {p b : Nat} {r : Value} {M m t : Nat} {O : List Nat} {most : Int} {e : Nat} (h : PS w Z p b r M m t O most e) (q : Nat) : PS (w.drewN q) Z p b r M m t O most e := by
  obtain ⟨v, h1, h2⟩ := h
  exact ⟨v, h1.drewN q, h2⟩
theorem PS.err {w : World} {Z : Nat → Prop} {p b : Nat} {r : Value} {M m t : Nat} {O : List Nat} {most : Int} {e : Nat} (h : PS w Z p b r M m t O most e) (e' : Nat) : Pn w (w.setCell ⟨p, 3, none⟩ (.int .i64 (e' : Int))) Z p b r M m t O most e' := by
  obtain ⟨v, h1, h2, h3, h4, h5⟩ := h
  exact ⟨⟨v, h1.err e', h2, h3, h4, h5⟩, (Step.refl _ w).setCell _ _ (.inl h2)⟩
theorem Pn.after {w w1 w2 : World} {Z : Nat → Prop} {p b : Nat} {r : Value} {M m t : Nat} {O : List Nat} {most : Int} {e : Nat} (S : Step Z w w1) (h : Pn w1 w2 Z p b r M m t O most e) : Pn w w2 Z p b r M m t O most e := ⟨h.1, S.trans h.2 (fun i hi => .inl hi)⟩
/-- Cells of it. -/
theorem PS.cells {w : World} {Z : Nat → Prop} {p b : Nat} {r : Value} {M m t : Nat} {O : List Nat} {most : Int} {e : Nat} (h : PS w Z p b r M m t O most e) : w.cell? ⟨p, 0, none⟩ = some (.pointer (some ⟨b, 0, none⟩)) ∧ w.cell? ⟨p, 2, none⟩ = some (.int .i64 most) ∧ w.cell? ⟨p, 3, none⟩ = some (.int .i64 (e : Int)) ∧ w.frozen? ⟨p, 3, none⟩ = false ∧ ∃ ao c, w.cell? ⟨p, 1, none⟩ = some (.slice ao O.length c) := by
  obtain ⟨v, h1, _⟩ := h
  obtain ⟨ao, c, hv⟩ := own_slice h1.ow
  exact ⟨h1.ci, h1.cm, h1.ce, h1.f3, ao, c, by rw [← hv]; exact h1.co⟩

/-- What a step of the page's stream leaves, by what is told. -/
def Told (w w' : World) (Z : Nat → Prop) (p b : Nat) (r : Value) (M m : Nat) (most : Int) (x : Except Nat (Nat × List Nat)) : Prop :=
  match x with
  | .error e => 0 < e ∧ ∃ t O, Pn w w' Z p b r M m t O most e
  | .ok (u, Q) => Pn w w' Z p b r M m u Q most 0

set_option maxHeartbeats 4000000 in
theorem stored_p (Z : Nat → Prop) (p b : Nat) (r : Value) (M m t : Nat) (O : List Nat) (most : Int) (w : World) (h : PS w Z p b r M m t O most 0) (hm : m ≤ 1000000) (hB : ∀ k, w.heap.size ≤ k → Z k) (hO : O.length ≤ 10000000000) (h0 : 0 ≤ most) (h1 : most ≤ 9223372036854775807) :
    Calls Tryd.prog 33 #[.pointer (some ⟨p, 0, none⟩)] w fun e w' => e = .returned (.tuple #[]) ∧ Hid (Told w w' Z p b r M m most (storedP M m most t O)) := by
  obtain ⟨c0, _, _, _, _⟩ := h.cells
  have H := hidden h
  obtain ⟨u, hu⟩ : ∃ u, u = (t + 7) / 8 * 8 := ⟨_, rfl⟩
  have HU := hidden hu
  have hle : t ≤ 8 * m := by obtain ⟨v, hx, _⟩ := h; exact hx.rx.le
  have hu8 : u % 8 = 0 := by omega
  have hum : u ≤ 8 * m := by omega
  have HA : Hid (Calls Tryd.prog 25 #[.pointer (some ⟨b, 0, none⟩)] w fun e w' => (∃ z, e = .returned (.int .i64 z)) ∧ Hid (Pn w w' Z p b r M m u O most 0)) := by
    obtain ⟨v, hx, _⟩ := id h
    exact hidden ((xalign_any b r M m t w hx.rx (by omega)).mono fun e w' ⟨he, T⟩ => by
      rw [← hu] at T
      exact ⟨⟨_, he⟩, hidden (h.took T)⟩)
  clear h hu
  by_cases g1 : u + 16 ≤ 8 * m
  · by_cases g2 : u + 32 ≤ 8 * m
    · obtain ⟨n, hn, hn2⟩ : ∃ n, n = M / 2 ^ u % 2 ^ 16 ∧ n < 65536 := ⟨_, rfl, Nat.mod_lt _ (by omega)⟩
      obtain ⟨k, hk, hk2⟩ : ∃ k, k = M / 2 ^ (u + 16) % 2 ^ 16 ∧ k < 65536 := ⟨_, rfl, Nat.mod_lt _ (by omega)⟩
      have HN : Hid (M / 2 ^ u % 65536 = n ∧ M / 2 ^ (u + 16) % 65536 = k) := hidden ⟨hn.symm, hk.symm⟩
      obtain ⟨L, hL⟩ : ∃ L, L = O.length := ⟨_, rfl⟩
      have HL := hidden hL
      rw [← hL] at hO
      have hG1 : Hid (∀ w1, PS w1 Z p b r M m u O most 0 → Calls Tryd.prog 32 #[.pointer (some ⟨p, 0, none⟩), .int .i64 (16 : Nat)] w1 fun e w' => e = .returned (.int .i64 (n : Int)) ∧ Hid (Pn w1 w' Z p b r M m (u + 16) O most 0)) := hidden (fun w1 S1 => by rw [hn]; exact pg_ok Z p b r M m u O most 16 w1 S1 hm (by omega) (by omega))
      have hG2 : Hid (∀ w1, PS w1 Z p b r M m (u + 16) O most 0 → Calls Tryd.prog 32 #[.pointer (some ⟨p, 0, none⟩), .int .i64 (16 : Nat)] w1 fun e w' => e = .returned (.int .i64 (k : Int)) ∧ Hid (Pn w1 w' Z p b r M m (u + 32) O most 0)) := hidden (fun w1 S1 => by rw [hk]; exact pg_ok Z p b r M m (u + 16) O most 16 w1 S1 hm (by omega) (by omega))
      clear hn hk hL
      by_cases g3 : n + k = 65535
      · have g3' : ((n : Int) + (k : Int) != 65535) = false := by rw [bne_eq_false_iff_eq]; omega
        by_cases g4 : (n : Int) ≤ most - (L : Int)
        · have g4' : ¬ most - (L : Int) < (n : Int) := by omega
          by_cases g5 : u + 32 + 8 * n ≤ 8 * m
          · have HR : Hid (storedP M m most t O = .ok (u + 32 + 8 * n, O ++ bytesOf (M / 2 ^ (u + 32)) n)) := hidden (by
              simp only [storedP, ← HU.out, HN.out.1, HN.out.2]
              rw [if_pos g2, if_pos g3, if_pos (by rw [← HL.out]; omega), if_pos g5])
            have HRW : Hid (∀ W v, Sx W p b r v M m (u + 32) O most 0 → Calls Tryd.prog 50 #[.pointer (some ⟨b, 0, none⟩), .int .i64 (n : Int)] W fun e w' => ∃ a c, e = .returned (.tuple #[.slice a n c, .int .i64 0]) ∧ (w'.cell? ⟨p, 3, none⟩ = some (.int .i64 0) ∧ w'.frozen? ⟨p, 3, none⟩ = false) ∧ Hid (Rd (w'.setCell ⟨p, 3, none⟩ (.int .i64 0)) (.slice a n c) (bytesOf (M / 2 ^ (u + 32)) n) ∧ Sx w' p b r v M m (u + 32 + 8 * n) O most 0 ∧ Step (fun q => q = b) W w')) := hidden (fun W v hx => (xraw_ok b r M m (u + 32) n W hx.rx (by omega) (by omega) (by omega)).mono fun e w' ⟨rv, he, k1, kb, T⟩ => by
              obtain ⟨a, c, hrv⟩ := own_slice k1
              subst hrv
              have hx2 := hx.took T
              have hpw : p < W.heap.size := World.block_lt_of_cell? W _ hx.ci
              have ho := owns_step k1 ((Step.refl (fun q => q = p) w').setCell ⟨p, 3, none⟩ (.int .i64 0) (.inl rfl)) (fun q hq e => by have := kb q hq; omega)
              exact ⟨a, c, he, ⟨hx2.ce, hx2.f3⟩, hidden ⟨Rd.of_own ho, hx2, T.2⟩⟩)
            clear g4
            go_enter Tryd.func33, Tryd.ntmps33
            go_wp2_with fail
            refine HA.out.mono ?_
            rintro e w1 ⟨⟨z, rfl⟩, R1⟩
            go_wp2_with fail
            refine (hG1.out _ R1.out.1).mono ?_
            rintro e w2 ⟨rfl, R2⟩
            go_wp2_with fail
            refine (hG2.out _ R2.out.1).mono ?_
            rintro e w3 ⟨rfl, R3⟩
            have HS3 := hidden ((R1.out.2.trans R2.out.2 (fun i hi => .inl hi)).trans R3.out.2 (fun i hi => .inl hi))
            obtain ⟨v, hx, h2, h3, h4, h5⟩ := R3.out.1
            obtain ⟨ao, cc, hv⟩ := own_slice hx.ow
            rw [← HL.out] at hv
            subst hv
            have c0' := hx.ci
            have cm := hx.cm
            have ce := hx.ce
            have co := hx.co
            have HX3 := hidden hx
            clear hx
            go_wp2
            go_quiet (fail)
            go_wp2_with fail
            refine (HRW.out _ (.slice ao L cc) (HX3.out.drewN _)).mono ?_
            rintro e w4 ⟨a4, c4, rfl, ⟨ce4, f4⟩, R4⟩
            have HE : Hid (Sx (w4.setCell ⟨p, 3, none⟩ (.int .i64 0)) p b r (.slice ao L cc) M m (u + 32 + 8 * n) O most 0) := hidden (R4.out.2.1.err 0)
            have HOW : Hid ((w4.setCell ⟨p, 3, none⟩ (.int .i64 0)).ownsRow 0 5 1 (.slice ao L cc) L (u8s O)) := hidden (by have := HE.out.ow; rw [← HL.out] at this; exact this)
            have co5 := HE.out.co
            have HRD := hidden R4.out.1
            go_wp2_with (at_builtin; refine append_bytes rfl (.tmp 59) (.tmp 60) rfl _ _ _ rfl HOW.out _ (bytesOf (M / 2 ^ (u + 32)) n) rfl HRD.out ?d1 ?_)
            case d1 => rw [bytesOf_length]; omega
            intro v6 w6 ho6 hg6 hb6
            have St : Step (fun q => (Value.slice ao L cc).ownBlock = some q) (w4.setCell ⟨p, 3, none⟩ (.int .i64 0)) w6 := (Step.refl _ _).grown hg6 (fun q hq => .inl hq)
            have hv6 : v6.ownBlock = (Value.slice ao L cc).ownBlock ∨ ∃ q, v6.ownBlock = some q ∧ (w4.setCell ⟨p, 3, none⟩ (.int .i64 0)).heap.size ≤ q := hb6.imp id (fun e => ⟨_, e, by simp⟩)
            have hcby : ∀ y ∈ (bytesOf (M / 2 ^ (u + 32)) n), y < 256 := bytesOf_lt _ _
            have HA6 := hidden (HE.out.appended (C := (bytesOf (M / 2 ^ (u + 32)) n)) (by rw [← HL.out]; exact ho6) St hv6 hcby)
            have HST := hidden (And.intro St hv6)
            obtain ⟨a6, c6, hvv⟩ := own_slice ho6
            subst hvv
            have c7 := HA6.out.1
            have f7 := HA6.out.2.1
            have HS4 : Hid (Step Z w (w4.setCell ⟨p, 3, none⟩ (.int .i64 0))) := hidden (((HS3.out.drewN _).trans R4.out.2.2 (fun i hi => .inl (by rw [hi]; exact h3))).setCell _ _ (.inl h2))
            clear ho6 hg6 hb6 St hv6 hcby
            go_wp2
            go_end0
            refine ⟨rfl, hidden ?_⟩
            rw [HR.out]
            have hfin : Pn w (w6.setCell ⟨p, 1, none⟩ (.slice a6 (L + (bytesOf (M / 2 ^ (u + 32)) n).length) c6)) Z p b r M m (u + 32 + 8 * n) (O ++ (bytesOf (M / 2 ^ (u + 32)) n)) most 0 := by
              refine ⟨⟨_, HA6.out.2.2, h2, h3, fun q hq => ?_, h5⟩, (HS4.out.trans HST.out.1 (fun i hi => .inl (h4 i hi))).setCell _ _ (.inl h2)⟩
              rcases HST.out.2 with e | ⟨j, e, hj⟩
              · exact h4 q (by rw [← e]; exact hq)
              · rw [e] at hq; have := Option.some.inj hq; have := HS4.out.size; exact hB q (by omega)
            exact hfin
          · have HR : Hid (storedP M m most t O = .error 2) := hidden (by
              simp only [storedP, ← HU.out, HN.out.1, HN.out.2]
              rw [if_pos g2, if_pos g3, if_pos (by rw [← HL.out]; omega), if_neg g5])
            have HRW : Hid (∀ W v, Sx W p b r v M m (u + 32) O most 0 → Calls Tryd.prog 50 #[.pointer (some ⟨b, 0, none⟩), .int .i64 (n : Int)] W fun e w' => e = .returned (.tuple #[.slice none 0 0, .int .i64 2]) ∧ (w'.cell? ⟨p, 3, none⟩ = some (.int .i64 0) ∧ w'.frozen? ⟨p, 3, none⟩ = false) ∧ Hid (Rd (w'.setCell ⟨p, 3, none⟩ (.int .i64 2)) (.slice none 0 0) [] ∧ Sx w' p b r v M m (u + 32) O most 0 ∧ Step (fun q => q = b) W w')) := hidden (fun W v hx => (xraw_short b r M m (u + 32) n W hx.rx (by omega) (by omega) (by omega) (by omega)).mono fun e w' ⟨he, hw⟩ => by
              subst hw
              exact ⟨he, ⟨hx.ce, hx.f3⟩, hidden ⟨rd_none _, hx, Step.refl _ _⟩⟩)
            clear g4
            go_enter Tryd.func33, Tryd.ntmps33
            go_wp2_with fail
            refine HA.out.mono ?_
            rintro e w1 ⟨⟨z, rfl⟩, R1⟩
            go_wp2_with fail
            refine (hG1.out _ R1.out.1).mono ?_
            rintro e w2 ⟨rfl, R2⟩
            go_wp2_with fail
            refine (hG2.out _ R2.out.1).mono ?_
            rintro e w3 ⟨rfl, R3⟩
            have HS3 := hidden ((R1.out.2.trans R2.out.2 (fun i hi => .inl hi)).trans R3.out.2 (fun i hi => .inl hi))
            obtain ⟨v, hx, h2, h3, h4, h5⟩ := R3.out.1
            obtain ⟨ao, cc, hv⟩ := own_slice hx.ow
            rw [← HL.out] at hv
            subst hv
            have c0' := hx.ci
            have cm := hx.cm
            have ce := hx.ce
            have co := hx.co
            have HX3 := hidden hx
            clear hx
            go_wp2
            go_quiet (fail)
            go_wp2_with fail
            refine (HRW.out _ (.slice ao L cc) (HX3.out.drewN _)).mono ?_
            rintro e w4 ⟨rfl, ⟨ce4, f4⟩, R4⟩
            have HE : Hid (Sx (w4.setCell ⟨p, 3, none⟩ (.int .i64 2)) p b r (.slice ao L cc) M m (u + 32) O most 2) := hidden (R4.out.2.1.err 2)
            have HOW : Hid ((w4.setCell ⟨p, 3, none⟩ (.int .i64 2)).ownsRow 0 5 1 (.slice ao L cc) L (u8s O)) := hidden (by have := HE.out.ow; rw [← HL.out] at this; exact this)
            have co5 := HE.out.co
            have HRD := hidden R4.out.1
            go_wp2_with (at_builtin; refine append_bytes rfl (.tmp 59) (.tmp 60) rfl _ _ _ rfl HOW.out _ ([] : List Nat) rfl HRD.out ?d1 ?_)
            case d1 => simp; omega
            intro v6 w6 ho6 hg6 hb6
            have St : Step (fun q => (Value.slice ao L cc).ownBlock = some q) (w4.setCell ⟨p, 3, none⟩ (.int .i64 2)) w6 := (Step.refl _ _).grown hg6 (fun q hq => .inl hq)
            have hv6 : v6.ownBlock = (Value.slice ao L cc).ownBlock ∨ ∃ q, v6.ownBlock = some q ∧ (w4.setCell ⟨p, 3, none⟩ (.int .i64 2)).heap.size ≤ q := hb6.imp id (fun e => ⟨_, e, by simp⟩)
            have hcby : ∀ y ∈ ([] : List Nat), y < 256 := (fun _ h => by cases h)
            have HA6 := hidden (HE.out.appended (C := ([] : List Nat)) (by rw [← HL.out]; simpa using ho6) St hv6 hcby)
            have HST := hidden (And.intro St hv6)
            obtain ⟨a6, c6, hvv⟩ := own_slice ho6
            subst hvv
            have c7 := HA6.out.1
            have f7 := HA6.out.2.1
            have HS4 : Hid (Step Z w (w4.setCell ⟨p, 3, none⟩ (.int .i64 2))) := hidden (((HS3.out.drewN _).trans R4.out.2.2 (fun i hi => .inl (by rw [hi]; exact h3))).setCell _ _ (.inl h2))
            clear ho6 hg6 hb6 St hv6 hcby
            go_wp2
            go_end0
            refine ⟨rfl, hidden ?_⟩
            rw [HR.out]
            have hfin : Pn w (w6.setCell ⟨p, 1, none⟩ (.slice a6 L c6)) Z p b r M m (u + 32) (O ++ ([] : List Nat)) most 2 := by
              refine ⟨⟨_, HA6.out.2.2, h2, h3, fun q hq => ?_, h5⟩, (HS4.out.trans HST.out.1 (fun i hi => .inl (h4 i hi))).setCell _ _ (.inl h2)⟩
              rcases HST.out.2 with e | ⟨j, e, hj⟩
              · exact h4 q (by rw [← e]; exact hq)
              · rw [e] at hq; have := Option.some.inj hq; have := HS4.out.size; exact hB q (by omega)
            exact ⟨by omega, u + 32, _, hfin⟩
        · have g4' : most - (L : Int) < (n : Int) := by omega
          have HR : Hid (storedP M m most t O = .error 5) := hidden (by
            simp only [storedP, ← HU.out, HN.out.1, HN.out.2]
            rw [if_pos g2, if_pos g3, if_neg (by rw [← HL.out]; omega)])
          clear g4
          go_enter Tryd.func33, Tryd.ntmps33
          go_wp2_with fail
          refine HA.out.mono ?_
          rintro e w1 ⟨⟨z, rfl⟩, R1⟩
          go_wp2_with fail
          refine (hG1.out _ R1.out.1).mono ?_
          rintro e w2 ⟨rfl, R2⟩
          go_wp2_with fail
          refine (hG2.out _ R2.out.1).mono ?_
          rintro e w3 ⟨rfl, R3⟩
          have HS3 := hidden ((R1.out.2.trans R2.out.2 (fun i hi => .inl hi)).trans R3.out.2 (fun i hi => .inl hi))
          obtain ⟨c0', cm, ce, f3, ao, cc, co⟩ := R3.out.1.cells
          rw [← HL.out] at co
          go_wp2
          go_quiet (fail)
          go_wp2
          refine bodyPost_ret (results_none rfl _ _ _) rfl ?_
          refine ⟨rfl, hidden ?_⟩
          rw [HR.out]
          exact ⟨by omega, u + 32, O, Pn.after (HS3.out.drewN _) ((R3.out.1.drewN _).err 5)⟩
      · have g3' : ((n : Int) + (k : Int) != 65535) = true := by rw [bne_iff_ne]; omega
        have HR : Hid (storedP M m most t O = .error 3) := hidden (by
          simp only [storedP, ← HU.out, HN.out.1, HN.out.2]
          rw [if_pos g2, if_neg g3])
        clear g3
        go_enter Tryd.func33, Tryd.ntmps33
        go_wp2_with fail
        refine HA.out.mono ?_
        rintro e w1 ⟨⟨z, rfl⟩, R1⟩
        go_wp2_with fail
        refine (hG1.out _ R1.out.1).mono ?_
        rintro e w2 ⟨rfl, R2⟩
        go_wp2_with fail
        refine (hG2.out _ R2.out.1).mono ?_
        rintro e w3 ⟨rfl, R3⟩
        have HS3 := hidden ((R1.out.2.trans R2.out.2 (fun i hi => .inl hi)).trans R3.out.2 (fun i hi => .inl hi))
        obtain ⟨c0', cm, ce, f3, ao, cc, co⟩ := R3.out.1.cells
        rw [← HL.out] at co
        go_wp2
        refine bodyPost_ret (results_none rfl _ _ _) rfl ?_
        refine ⟨rfl, hidden ?_⟩
        rw [HR.out]
        exact ⟨by omega, u + 32, O, Pn.after HS3.out (R3.out.1.err 3)⟩
    · have HR : Hid (storedP M m most t O = .error 2) := hidden (by
        simp only [storedP, ← HU.out]
        rw [if_neg g2])
      obtain ⟨n, hn⟩ : ∃ n, n = M / 2 ^ u % 2 ^ 16 := ⟨_, rfl⟩
      have hG1 : Hid (∀ w1, PS w1 Z p b r M m u O most 0 → Calls Tryd.prog 32 #[.pointer (some ⟨p, 0, none⟩), .int .i64 (16 : Nat)] w1 fun e w' => e = .returned (.int .i64 (n : Int)) ∧ Hid (Pn w1 w' Z p b r M m (u + 16) O most 0)) := hidden (fun w1 S1 => by rw [hn]; exact pg_ok Z p b r M m u O most 16 w1 S1 hm (by omega) (by omega))
      have hG2 : Hid (∀ w1, PS w1 Z p b r M m (u + 16) O most 0 → Calls Tryd.prog 32 #[.pointer (some ⟨p, 0, none⟩), .int .i64 (16 : Nat)] w1 fun e w' => e = .returned (.int .i64 0) ∧ Hid (Pn w1 w' Z p b r M m (u + 16) O most 2)) := hidden (fun w1 S1 => pg_short Z p b r M m (u + 16) O most 16 w1 S1 hm (by omega) (by omega))
      clear hn
      go_enter Tryd.func33, Tryd.ntmps33
      go_wp2_with fail
      refine HA.out.mono ?_
      rintro e w1 ⟨⟨z, rfl⟩, R1⟩
      go_wp2_with fail
      refine (hG1.out _ R1.out.1).mono ?_
      rintro e w2 ⟨rfl, R2⟩
      go_wp2_with fail
      refine (hG2.out _ R2.out.1).mono ?_
      rintro e w3 ⟨rfl, R3⟩
      obtain ⟨_, _, ce, _, _⟩ := R3.out.1.cells
      go_wp2
      refine bodyPost_ret (results_none rfl _ _ _) rfl ?_
      refine ⟨rfl, hidden ?_⟩
      rw [HR.out]
      exact ⟨by omega, u + 16, O, Pn.after (R1.out.2.trans R2.out.2 (fun i hi => .inl hi)) R3.out⟩
  · have HR : Hid (storedP M m most t O = .error 2) := hidden (by
      simp only [storedP, ← HU.out]
      rw [if_neg (by omega)])
    have hG1 : Hid (∀ w1, PS w1 Z p b r M m u O most 0 → Calls Tryd.prog 32 #[.pointer (some ⟨p, 0, none⟩), .int .i64 (16 : Nat)] w1 fun e w' => e = .returned (.int .i64 0) ∧ Hid (Pn w1 w' Z p b r M m u O most 2)) := hidden (fun w1 S1 => pg_short Z p b r M m u O most 16 w1 S1 hm (by omega) (by omega))
    have hG2 : Hid (∀ w1, PS w1 Z p b r M m u O most 2 → Calls Tryd.prog 32 #[.pointer (some ⟨p, 0, none⟩), .int .i64 16] w1 fun e w' => e = .returned (.int .i64 0) ∧ w' = w1) := hidden (fun w1 S1 => by
      obtain ⟨v, hx, _⟩ := S1
      exact pget_err p b r v M m u O most 16 2 w1 hx (by omega))
    go_enter Tryd.func33, Tryd.ntmps33
    go_wp2_with fail
    refine HA.out.mono ?_
    rintro e w1 ⟨⟨z, rfl⟩, R1⟩
    go_wp2_with fail
    refine (hG1.out _ R1.out.1).mono ?_
    rintro e w2 ⟨rfl, R2⟩
    go_wp2_with fail
    refine (hG2.out _ R2.out.1).mono ?_
    rintro e w3 ⟨rfl, rfl⟩
    obtain ⟨_, _, ce, _, _⟩ := R2.out.1.cells
    go_wp2
    refine bodyPost_ret (results_none rfl _ _ _) rfl ?_
    refine ⟨rfl, hidden ?_⟩
    rw [HR.out]
    exact ⟨by omega, u, O, Pn.after R1.out.2 R2.out⟩

end Go.Proofs.YtinncakendfklaaDoor
