/-
  What the program laid at its start: the order of lengths.
-/
import Derived.Test.YtcgjmkcigmmjjaaGreatDoorBkL
import Derived.BigQuiet
import Derived.OwnWalk
import Derived.Lib.SlBytesConst
import Derived.WalkKit
import Derived.ProofKit
import Derived.SizedLaws
import Derived.ChangeArms
import Derived.Test.YtcgjmkcigmmjjaaGreatDoorTie
import Derived.Test.YtcgjmkcigmmjjaaGreatDoorCards
import Derived.Lib.LaidTab
import Derived.MakeChecks
import Derived.LaidMore

namespace Go.Proofs.YtcgjmkcigmmjjaaGreatDoor
open Go.RowKit
set_option maxRecDepth 100000
set_option linter.unusedVariables false
theorem own_of_slice {v : Value} {g n c : Nat} {off : Nat} (h : v = .slice (some ⟨g, off, none⟩) n c) (h0 : off = 0) : v.ownBlock = some g := by subst h; subst h0; rfl

set_option maxHeartbeats 8000000 in
theorem pblock_any (Z : Nat → Prop) (p b : Nat) (r : Value) (M m t : Nat) (O : List Nat) (most : Int) (w : World) (h : PS w Z p b r M m t O most 0) (hZ : ∀ k, w.heap.size ≤ k → Z k) (hm : m ≤ 1000000) (hr : 0 < m → ∀ a n c, r = .slice (some a) n c → a.block < w.heap.size) (hO : O.length ≤ 258 * t) (h0 : 0 ≤ most) (h1 : most ≤ 9223372036854775807) :
    Calls Tryz.prog 22 #[.pointer (some ⟨p, 0, none⟩)] w fun e w' => ∃ l, e = .returned (.bool l) ∧ Hid (PBl w Z p b r M m t most (blkF M m most t O) l w') := by
  have HZ := hidden hZ
  have HRW0 := hidden hr
  have HOL := hidden hO
  have hle : t ≤ 8 * m := by obtain ⟨v, hx, _⟩ := h; exact hx.rx.le
  have hG1 := hidden (pgs_any w Z p b r M m t O most 0 1 w (.inl ⟨by omega, h⟩) hm (by omega))
  have hG2 := hidden (fun W (hW : GS w Z p b r M m t O most (0 + 1) W) => pgs_any w Z p b r M m t O most (0 + 1) 2 W hW hm (by omega))
  clear h hZ hr hO
  by_cases g1 : t + 3 ≤ 8 * m
  · have b00 : ((0 : Int) != 0) = false := rfl
    have HRW := hidden (HRW0.out (by omega))
    go_enter Tryz.func22, Tryz.ntmps22
    go_wp2_with fail
    refine hG1.out.mono ?_
    rintro e w1 ⟨x1, rfl, hx1, R1⟩
    go_wp2_with fail
    refine (hG2.out _ R1.out.1).mono ?_
    rintro e w2 ⟨x2, rfl, hx2, R2⟩
    have HS2 := hidden (show Step Z w w2 from R1.out.2.2.trans R2.out.2.2 (fun i hi => .inl hi))
    have HX := hidden (show x1 = M / 2 ^ t % 2 ∧ x2 = M / 2 ^ (t + 1) % 4 from ⟨R1.out.2.1 (by omega), R2.out.2.1 (by omega)⟩)
    have HPS := hidden (show PS w2 Z p b r M m (t + 3) O most 0 by
      rcases R2.out.1 with ⟨_, h⟩ | ⟨h, _⟩
      · exact h
      · omega)
    have ce := HPS.out.cells.2.2.1
    have cf := HPS.out.cells.2.2.2.1
    have hx1' : x1 < 2 := hx1
    have hx2' : x2 < 4 := hx2
    have HB1 := hidden (show ((x1 : Int) == 1) = decide (M / 2 ^ t % 2 = 1) by
      rw [← HX.out.1]
      by_cases e : x1 = 1
      · subst e; rfl
      · rw [decide_eq_false e, beq_eq_false_iff_ne]; omega)
    have HZ2 := hidden (fun k (hk : w2.heap.size ≤ k) => HZ.out k (by have := HS2.out.size; omega))
    clear R1 R2 hx1 hx2 hG1 hG2
    by_cases k0 : x2 = 0
    · have HBF := hidden (show blkF M m most t O = storedP M m most (t + 3) O by
        unfold blkF blkP
        rw [if_neg (by rw [← HX.out.2]; omega), if_pos g1, if_pos (by rw [← HX.out.2]; exact k0)])
      have hSD := hidden (stored_p Z p b r M m (t + 3) O most w2 HPS.out hm HZ2.out (by have := HOL.out; omega) h0 h1)
      subst k0
      go_wp2_with fail
      refine hSD.out.mono ?_
      rintro e w3 ⟨rfl, R3⟩
      go_wp2
      go_ret
      refine ⟨_, rfl, hidden ?_⟩
      rw [HBF.out]
      have h3 := R3.out
      cases hq : storedP M m most (t + 3) O with
      | error y =>
        rw [hq] at h3
        obtain ⟨a1, t', O', a2⟩ := h3
        exact ⟨HS2.out.trans a2.2 (fun i hi => .inl hi), a1, t', O', a2.1⟩
      | ok z =>
        obtain ⟨u, Q⟩ := z
        rw [hq] at h3
        exact ⟨HS2.out.trans h3.2 (fun i hi => .inl hi), HB1.out, h3.1, storedP_len258 hq (by have := HOL.out; omega)⟩
    · have bk0 : ((x2 : Int) == 0) = false := by rw [beq_eq_false_iff_ne]; omega
      by_cases k1 : x2 = 1
      · have HBF := hidden (show blkF M m most t O = symsV FL FD M m most (t + 3) O by
          unfold blkF blkP
          rw [if_neg (by rw [← HX.out.2]; omega), if_pos g1, if_neg (by rw [← HX.out.2]; exact k0), if_pos (by rw [← HX.out.2]; exact k1)])
        have bk1 : ((x2 : Int) == 1) = true := by rw [beq_iff_eq]; omega
        have hFX := hidden (pfixed_any w2)
        go_wp2_with fail
        refine hFX.out.mono ?_
        rintro e w3 ⟨fl, fd, rfl, R3⟩
        obtain ⟨r1, r2, r3, r4, r5⟩ := R3.out
        have HFL := hidden r1
        have HFD := hidden r2
        have HS5 := hidden (show Step Z w w3 from HS2.out.trans r5 (fun _ q => q.elim))
        have HPS5 := hidden (HPS.out.far r5 (fun k hk => hk.elim) (fun _ _ _ _ _ hk => hk.elim))
        obtain ⟨lo, lc, rfl, _⟩ := r1
        obtain ⟨do_, dc, rfl, _⟩ := r2
        rw [FL_len, FD_len]
        rw [FL_len] at HFL
        rw [FD_len] at HFD
        clear R3 r3 r4 r5 ce cf
        have hN1 := hidden (refNew_any _ FL w3 HFL.out (by rw [FL_len]; omega))
        go_wp2_with fail
        refine hN1.out.mono ?_
        rintro e w6 (⟨hn, _⟩ | ⟨_, d1, c1, l1, rfl, q1, q2, q3, q4, q5⟩)
        · exact absurd FL_ok hn
        have hN2 := hidden (refNew_any _ FD w6 (HFD.out.made q5) (by rw [FD_len]; omega))
        have HD1 := hidden (And.intro q1 (And.intro q2 (And.intro q3 (And.intro q4 q5))))
        clear q1 q2 q3 q4 q5
        go_wp2_with fail
        refine hN2.out.mono ?_
        rintro e w7 (⟨hn, _⟩ | ⟨_, d2, c2, l2, rfl, q1, q2, q3, q4, q5⟩)
        · exact absurd FD_ok hn
        have hSY := hidden (psyms_blk Z p b r M m (t + 3) O most FL FD d1 d2 c1 l1 c2 l2 w w3 w6 w7 HZ.out HS5.out.size HS5.out HPS5.out (fun a n c e => by have := HRW.out a n c e; have := HS5.out.size; omega) HD1.out.2.2.2.2 q5 HD1.out.1 q1 HD1.out.2.1 q2 HD1.out.2.2.1 HD1.out.2.2.2.1 q3 q4 hm FL_ok FD_ok (by have := HOL.out; omega) h0 h1)
        clear q1 q2 q3 q4 q5
        go_wp2_with fail
        refine hSY.out.mono ?_
        rintro e w8 ⟨rfl, R8⟩
        go_wp2
        go_ret
        refine ⟨_, rfl, hidden ?_⟩
        rw [HBF.out]
        have h8 := R8.out
        obtain ⟨s8, h8⟩ := h8
        refine ⟨s8, ?_⟩
        cases hq : symsV FL FD M m most (t + 3) O with
        | error y => rw [hq] at h8; exact h8
        | ok z =>
          obtain ⟨u, Q⟩ := z
          rw [hq] at h8
          exact ⟨HB1.out, h8.1, h8.2⟩
      · have bk1 : ((x2 : Int) == 1) = false := by rw [beq_eq_false_iff_ne]; omega
        by_cases k2 : x2 = 2
        · have HBF := hidden (show blkF M m most t O = ownS M m most O (ownP M m (t + 3)) by
            unfold blkF
            rw [if_pos ⟨g1, by rw [← HX.out.2]; exact k2⟩])
          have HOP := hidden (ownP_lensR M m (t + 3))
          have bk2 : ((x2 : Int) == 2) = true := by rw [beq_iff_eq]; omega
          have hLN := hidden (plengths_any Z p b r M m (t + 3) O most w2 HPS.out hm (fun a n c e => by have := HRW.out a n c e; have := HS2.out.size; omega))
          cases hq : lensR M m (t + 3) with
          | error y =>
            rw [hq] at hLN HOP
            clear hq
            go_wp2_with fail
            refine hLN.out.mono ?_
            rintro e w3 ⟨lo, ln, lc, z, rfl, R3⟩
            obtain ⟨s3, hy0, t', hp3⟩ := R3.out
            have HP3 := hidden hp3
            have HS3 := hidden (show Step Z w w3 from HS2.out.trans s3 (fun i hi => .inl hi))
            have ce3 := hp3.cells.2.2.1
            have by0 : ((y : Int) != 0) = true := by rw [bne_iff_ne]; omega
            clear R3 s3 hp3
            go_wp2
            go_ret
            refine ⟨_, rfl, hidden ?_⟩
            rw [HBF.out, HOP.out]
            exact ⟨HS3.out, hy0, t', O, HP3.out⟩
          | ok z =>
            obtain ⟨lit, u, A⟩ := z
            rw [hq] at hLN HOP
            clear hq
            go_wp2_with fail
            refine hLN.out.mono ?_
            rintro e w3 ⟨lo, ln, lc, z, rfl, R3⟩
            obtain ⟨s3, hz, hl1, hl2, hl3, hri, hbk, hp3⟩ := R3.out
            subst hz
            have HP3 := hidden hp3
            have HS3 := hidden (show Step Z w w3 from HS2.out.trans s3 (fun i hi => .inl hi))
            have ce3 := hp3.cells.2.2.1
            have cf3 := hp3.cells.2.2.2.1
            have HRI := hidden hri
            obtain ⟨hln, g, off, rfl, hcA⟩ := hri.cell (k := 256) (by omega)
            have c256 := hcA 256 (by omega)
            have hcap : ln ≤ lc := by obtain ⟨_, _, e, h, _⟩ := hri; injection e with e1 e2 e3; omega
            have HLN := hidden hln
            have hlit : lit < ln := by omega
            have hlit2 : (lit : Int) ≤ (ln : Int) := by omega
            have hlit3 : lit ≤ lc := by omega
            have hlit4 : ¬ lc = lit := by omega
            have hlit5 : (lit : Int) ≤ (lc : Int) := by omega
            have HTK := hidden (hri.takeS lit (by omega))
            have HDR := hidden (hri.dropS lit (by omega))
            have HTL := hidden (show (A.take lit).length = lit by simp; omega)
            have HDL := hidden (show (A.drop lit).length = ln - lit by simp; omega)
            have h256 : (256 : Int) < (lit : Int) := by omega
            have HOA := hidden (show ownP M m (t + 3) = ownA lit u A from HOP.out)
            have HA20 := hidden hl3
            clear R3 s3 hp3 hri hcA hln hl2 hl3 HOP hbk
            by_cases ga : A.getD 256 0 = 0
            · have HOA2 := hidden (show ownP M m (t + 3) = .error 3 by rw [HOA.out]; unfold ownA; rw [if_pos ga])
              rw [ga] at c256
              go_wp2
              go_quiet (fail)
              go_wp2
              go_ret
              refine ⟨_, rfl, hidden ?_⟩
              rw [HBF.out, HOA2.out]
              exact ⟨(HS3.out.drewN _).trans ((HP3.out.drewN _).err 3).2 (fun i hi => .inl hi), by omega, _, _, ((HP3.out.drewN _).err 3).1⟩
            · have HGA := hidden ga
              have bga : (A.getD 256 0 == 0) = false := by rw [beq_eq_false_iff_ne]; exact ga
              have hN1 := hidden (fun (W : World) (hW : Ri W (.slice (some ⟨g, off, none⟩) lit lc) (A.take lit)) => refNew_any _ (A.take lit) W hW (by rw [HTL.out]; have := HA20.out; have := HLN.out; omega))
              have hN2 := hidden (fun (W : World) (hW : Ri W (.slice (some ⟨g, off + lit, none⟩) (ln - lit) (lc - lit)) (A.drop lit)) => refNew_any _ (A.drop lit) W hW (by rw [HDL.out]; have := HA20.out; have := HLN.out; omega))
              have HOA1 := hidden (show ownP M m (t + 3) = if newErr (A.take lit) ≠ 0 then .error (newErr (A.take lit)).toNat else if newErr (A.drop lit) ≠ 0 then .error (newErr (A.drop lit)).toNat else .ok (u, A.take lit, A.drop lit) by rw [HOA.out]; unfold ownA; rw [if_neg ga])
              clear HOA HGA
              generalize A.getD 256 0 = a256 at *
              clear ga
              by_cases gx : newErr (A.take lit) = 0
              · by_cases gy : newErr (A.drop lit) = 0
                · have HOA2 := hidden (show ownP M m (t + 3) = .ok (u, A.take lit, A.drop lit) by rw [HOA1.out, if_neg (fun q => q gx), if_neg (fun q => q gy)])
                  have HGX := hidden gx
                  have HGY := hidden gy
                  clear gx gy
                  go_wp2
                  go_quiet (fail)
                  go_wp2_with fail
                  refine (hN1.out _ (HTK.out.drewN _)).mono ?_
                  rintro e w6 (⟨hn, _⟩ | ⟨_, d1, c1, l1, rfl, q1, q2, q3, q4, q5⟩)
                  · exact absurd HGX.out hn
                  have HD1 := hidden (And.intro q1 (And.intro q2 (And.intro q3 (And.intro q4 q5))))
                  clear q1 q2 q3 q4 q5
                  go_wp2_with fail
                  refine (hN2.out _ ((HDR.out.drewN _).made HD1.out.2.2.2.2)).mono ?_
                  rintro e w7 (⟨hn, _⟩ | ⟨_, d2, c2, l2, rfl, q1, q2, q3, q4, q5⟩)
                  · exact absurd HGY.out hn
                  have hSY := hidden (psyms_blk Z p b r M m u O most (A.take lit) (A.drop lit) d1 d2 c1 l1 c2 l2 w _ w6 w7 HZ.out (HS3.out.drewN _).size (HS3.out.drewN _) (HP3.out.drewN _) (fun a n c e => by have := HRW.out a n c e; have := HS3.out.size; simp; omega) HD1.out.2.2.2.2 q5 HD1.out.1 q1 HD1.out.2.1 q2 HD1.out.2.2.1 HD1.out.2.2.2.1 q3 q4 hm HGX.out HGY.out (by have := (ownP_adv HOA2.out).2.2.1; have := HOL.out; omega) h0 h1)
                  clear q1 q2 q3 q4 q5
                  go_wp2_with fail
                  refine hSY.out.mono ?_
                  rintro e w8 ⟨rfl, R8⟩
                  go_wp2
                  go_ret
                  refine ⟨_, rfl, hidden ?_⟩
                  rw [HBF.out, HOA2.out]
                  have h8 := R8.out
                  obtain ⟨s8, h8⟩ := h8
                  refine ⟨s8, ?_⟩
                  show match symsV (A.take lit) (A.drop lit) M m most u O with
                    | .error y => _
                    | .ok (u, Q) => _
                  cases hq : symsV (A.take lit) (A.drop lit) M m most u O with
                  | error y => rw [hq] at h8; exact h8
                  | ok z =>
                    obtain ⟨u2, Q⟩ := z
                    rw [hq] at h8
                    exact ⟨HB1.out, h8.1, h8.2⟩
                · have HOA2 := hidden (show ownP M m (t + 3) = .error (newErr (A.drop lit)).toNat by rw [HOA1.out, if_neg (fun q => q gx), if_pos gy])
                  have HGX := hidden gx
                  have HGY := hidden gy
                  obtain ⟨ne, hne, hne0⟩ : ∃ ne : Nat, newErr (A.drop lit) = (ne : Int) ∧ 0 < ne := by
                    rcases newErr_two (A.drop lit) with h | h | h
                    · exact absurd h gy
                    · exact ⟨1, by rw [h]; rfl, by omega⟩
                    · exact ⟨21, by rw [h]; rfl, by omega⟩
                  have HNE := hidden hne
                  have bne0 : ((ne : Int) != 0) = true := by rw [bne_iff_ne]; omega
                  clear hne
                  clear gx gy
                  go_wp2
                  go_quiet (fail)
                  go_wp2_with fail
                  refine (hN1.out _ (HTK.out.drewN _)).mono ?_
                  rintro e w6 (⟨hn, _⟩ | ⟨_, d1, c1, l1, rfl, q1, q2, q3, q4, q5⟩)
                  · exact absurd HGX.out hn
                  have HD1 := hidden q5
                  clear q1 q2 q3 q4 q5
                  go_wp2_with fail
                  refine (hN2.out _ ((HDR.out.drewN _).made HD1.out)).mono ?_
                  rintro e w7 (⟨_, rfl, hs7⟩ | ⟨hn, _⟩)
                  · rw [HNE.out]
                    have HP7 := hidden (((HP3.out.drewN _).far HD1.out (fun k hk => hk.elim) (fun _ _ _ _ _ hk => hk.elim)).far hs7 (fun k hk => hk.elim) (fun _ _ _ _ _ hk => hk.elim))
                    have HS7 := hidden (((HS3.out.drewN _).trans HD1.out (fun _ q => q.elim)).trans hs7 (fun _ q => q.elim))
                    have ce7 := HP7.out.cells.2.2.1
                    have cf7 := HP7.out.cells.2.2.2.1
                    clear hs7
                    go_wp2
                    go_ret
                    refine ⟨_, rfl, hidden ?_⟩
                    rw [HBF.out, HOA2.out, HNE.out]
                    have he := HP7.out.err ne
                    exact ⟨HS7.out.trans he.2 (fun i hi => .inl hi), by simpa using hne0, _, _, he.1⟩
                  · exact absurd hn HGY.out
              · have HOA2 := hidden (show ownP M m (t + 3) = .error (newErr (A.take lit)).toNat by rw [HOA1.out, if_pos gx])
                have HGX := hidden gx
                obtain ⟨ne, hne, hne0⟩ : ∃ ne : Nat, newErr (A.take lit) = (ne : Int) ∧ 0 < ne := by
                  rcases newErr_two (A.take lit) with h | h | h
                  · exact absurd h gx
                  · exact ⟨1, by rw [h]; rfl, by omega⟩
                  · exact ⟨21, by rw [h]; rfl, by omega⟩
                have HNE := hidden hne
                have bne0 : ((ne : Int) != 0) = true := by rw [bne_iff_ne]; omega
                clear hne
                clear gx
                go_wp2
                go_quiet (fail)
                go_wp2_with fail
                refine (hN1.out _ (HTK.out.drewN _)).mono ?_
                rintro e w6 (⟨_, rfl, hs6⟩ | ⟨hn, _⟩)
                · rw [HNE.out]
                  have HP7 := hidden ((HP3.out.drewN _).far hs6 (fun k hk => hk.elim) (fun _ _ _ _ _ hk => hk.elim))
                  have HS7 := hidden ((HS3.out.drewN _).trans hs6 (fun _ q => q.elim))
                  have ce7 := HP7.out.cells.2.2.1
                  have cf7 := HP7.out.cells.2.2.2.1
                  clear hs6
                  go_wp2
                  go_ret
                  refine ⟨_, rfl, hidden ?_⟩
                  rw [HBF.out, HOA2.out, HNE.out]
                  have he := HP7.out.err ne
                  exact ⟨HS7.out.trans he.2 (fun i hi => .inl hi), by simpa using hne0, _, _, he.1⟩
                · exact absurd hn HGX.out
        · have k3 : x2 = 3 := by omega
          have bk2 : ((x2 : Int) == 2) = false := by rw [beq_eq_false_iff_ne]; omega
          have HBF := hidden (show blkF M m most t O = .error 3 by
            unfold blkF blkP
            rw [if_neg (by rw [← HX.out.2]; omega), if_pos g1, if_neg (by rw [← HX.out.2]; exact k0), if_neg (by rw [← HX.out.2]; exact k1)])
          go_wp2
          go_ret
          refine ⟨_, rfl, hidden ?_⟩
          rw [HBF.out]
          have he := HPS.out.err 3
          exact ⟨HS2.out.trans he.2 (fun i hi => .inl hi), by omega, _, _, he.1⟩
  · have HBF := hidden (show blkF M m most t O = .error 2 by
      unfold blkF blkP
      rw [if_neg (fun h => g1 h.1), if_neg g1])
    have b2 : ((2 : Int) != 0) = true := rfl
    go_enter Tryz.func22, Tryz.ntmps22
    go_wp2_with fail
    refine hG1.out.mono ?_
    rintro e w1 ⟨x1, rfl, hx1, R1⟩
    go_wp2_with fail
    refine (hG2.out _ R1.out.1).mono ?_
    rintro e w2 ⟨x2, rfl, hx2, R2⟩
    have hce := R2.out.1.cell
    rw [if_neg (by omega)] at hce
    obtain ⟨ce, cf⟩ := hce
    clear hx1 hx2
    go_wp2
    go_ret
    refine ⟨_, rfl, hidden ?_⟩
    rw [HBF.out]
    refine ⟨R1.out.2.2.trans R2.out.2.2 (fun i hi => .inl hi), by omega, ?_⟩
    rcases R2.out.1 with ⟨h, _⟩ | ⟨_, t', h⟩
    · omega
    · exact ⟨t', O, h⟩

end Go.Proofs.YtcgjmkcigmmjjaaGreatDoor

namespace Go.Proofs.YtcgjmkcigmmjjaaGreatDoor
open Go.RowKit
set_option maxRecDepth 100000
set_option linter.unusedVariables false
/-- A stream that begins. -/
theorem PS.new {w : World} {r : Value} {M m : Nat} (most : Int) (hr : Rd w r (bytesOf M m)) (hc : ∀ ao n c, r = .slice ao n c → n ≤ c) (t1 t2 : TypeId) :
    PS ((w.alloc (.cells #[r, .int .i64 0] t1)).alloc (.cells #[.pointer (some ⟨w.heap.size, 0, none⟩), .slice none 0 0, .int .i64 most, .int .i64 0] t2)) (fun k => w.heap.size ≤ k) (w.heap.size + 1) w.heap.size r M m 0 [] most 0 := by
  have hS1 : Step (fun _ => False) w (w.alloc (.cells #[r, .int .i64 0] t1)) := (Step.refl _ w).alloc _
  have hS2 : Step (fun _ => False) (w.alloc (.cells #[r, .int .i64 0] t1)) ((w.alloc (.cells #[r, .int .i64 0] t1)).alloc (.cells #[.pointer (some ⟨w.heap.size, 0, none⟩), .slice none 0 0, .int .i64 most, .int .i64 0] t2)) := (Step.refl _ _).alloc _
  have hblk : ∀ a n c, r = .slice (some a) n c → bytesOf M m ≠ [] → a.block < w.heap.size := by
    intro a n c e hne
    obtain ⟨ao, cap, er, _, h2⟩ := hr
    rw [e] at er
    injection er with er1
    obtain ⟨ba, off, hb2, hc2⟩ := h2 a er1.symm hne
    have hl : 0 < (bytesOf M m).length := by cases hh : bytesOf M m with | nil => exact absurd hh hne | cons => simp
    have := World.block_lt_of_cell? w _ (hc2 0 hl)
    rw [hb2]
    exact this
  have c1 : ∀ k u, #[r, Value.int .i64 0][k]? = some u → (w.alloc (.cells #[r, .int .i64 0] t1)).cell? ⟨w.heap.size, k, none⟩ = some u := fun k u h => by rw [World.cell?_alloc_at _ _ _ _ rfl]; exact h
  have hsz : (w.alloc (.cells #[r, .int .i64 0] t1)).heap.size = w.heap.size + 1 := by simp
  have c2 : ∀ k u, #[Value.pointer (some ⟨w.heap.size, 0, none⟩), .slice none 0 0, .int .i64 most, .int .i64 0][k]? = some u → ((w.alloc (.cells #[r, .int .i64 0] t1)).alloc (.cells #[.pointer (some ⟨w.heap.size, 0, none⟩), .slice none 0 0, .int .i64 most, .int .i64 0] t2)).cell? ⟨w.heap.size + 1, k, none⟩ = some u := fun k u h => by rw [← hsz, World.cell?_alloc_at _ _ _ _ rfl]; exact h
  have f2 : ∀ k, ((w.alloc (.cells #[r, .int .i64 0] t1)).alloc (.cells #[.pointer (some ⟨w.heap.size, 0, none⟩), .slice none 0 0, .int .i64 most, .int .i64 0] t2)).frozen? ⟨w.heap.size + 1, k, none⟩ = false := fun k => by rw [← hsz]; exact World.frozen?_alloc_at _ _ _ _ rfl
  refine ⟨.slice none 0 0, ⟨c2 0 _ rfl, ⟨hS2.cell (c1 0 _ rfl) (fun h => h), hS2.cell (c1 1 _ rfl) (fun h => h), ?_, (hr.step hS1 (fun _ _ _ _ _ h => h)).step hS2 (fun _ _ _ _ _ h => h), fun a n c e hne => by have := hblk a n c e hne; omega, hc, by omega⟩, c2 1 _ rfl, c2 2 _ rfl, c2 3 _ rfl, f2 1, f2 3, World.ownsRow_nil _ _ _ _, by omega, by simp [Value.ownBlock], by simp [Value.ownBlock], fun a n c e hne => ⟨by have := hblk a n c e hne; omega, by simp [Value.ownBlock]⟩, fun _ h => by cases h⟩, by omega, Nat.le_refl _, fun k hk => by simp [Value.ownBlock] at hk, fun a n c e hne hk => by have := hblk a n c e hne; omega⟩
  rw [hS2.frozen (p := ⟨w.heap.size, 1, none⟩) (by simp) (fun h => h)]
  exact World.frozen?_alloc_at _ _ _ _ rfl

set_option maxHeartbeats 1000000 in
theorem pbytes_neg (v : Value) (most : Int) (w : World) (h : most < 0) (ao : Option Addr) (n c : Nat) (hv : v = .slice ao n c) : Calls Tryz.prog 11 #[v, .int .i64 most] w (BytesE w (.error 1)) := by
  subst hv
  go_enter Tryz.func11, Tryz.ntmps11
  go_wp2
  go_ret3
  exact ⟨Step.refl _ _, by omega, rfl⟩

/-- Blocks, one behind the other. -/
def PBs2 (w : World) (p b : Nat) (vb : Value) (M m : Nat) (most : Int) (n0 : Nat) (x : Except Nat (Nat × List Nat)) (k : Nat) (e : Nat) (W : World) : Prop :=
  Step (fun _ => False) w W ∧
  ((e = 0 ∧ ∃ n u Q, k = n + 1 ∧ BlksF M m most n u Q x ∧ PS W (fun k => w.heap.size ≤ k) p b vb M m u Q most 0 ∧ Q.length ≤ 258 * u) ∨
   (0 < e ∧ x = .error e ∧ ∃ t' O', PS W (fun k => w.heap.size ≤ k) p b vb M m t' O' most e))

theorem PBs2.cell {w : World} {p b : Nat} {vb : Value} {M m : Nat} {most : Int} {n0 : Nat} {x : Except Nat (Nat × List Nat)} {k e : Nat} {W : World} (h : PBs2 w p b vb M m most n0 x k e W) : W.cell? ⟨p, 3, none⟩ = some (.int .i64 (e : Int)) := by
  obtain ⟨_, ⟨rfl, n, u, Q, _, _, hp, _⟩ | ⟨_, _, t', O', hp⟩⟩ := h
  · exact hp.cells.2.2.1
  · exact hp.cells.2.2.1

set_option maxHeartbeats 4000000 in
theorem pbytes_any (vb : Value) (M m : Nat) (most : Int) (n : Nat) (x : Except Nat (Nat × List Nat)) (w : World) (h : Rd w vb (bytesOf M m)) (hc : ∀ ao n c, vb = .slice ao n c → n ≤ c) (hm : m ≤ 1000000) (h0 : 0 ≤ most) (h1 : most ≤ 9223372036854775807) (hr : BlksF M m most n 0 [] x) :
    Calls Tryz.prog 11 #[vb, .int .i64 most] w (BytesE w x) := by
  have HR := hidden hr
  have HP0 := hidden (PS.new most h hc 47 49)
  have HW0 := hidden (((Step.refl (fun _ => False) w).alloc (.cells #[vb, .int .i64 0] 47)).alloc (.cells #[.pointer (some ⟨w.heap.size, 0, none⟩), .slice none 0 0, .int .i64 most, .int .i64 0] 49))
  have HBL := hidden (show 0 < m → ∀ a n c, vb = .slice (some a) n c → a.block < w.heap.size by
    intro h0 a n c e
    have hne : bytesOf M m ≠ [] := by intro q; have := bytesOf_length M m; rw [q] at this; simp at this; omega
    obtain ⟨ao, cap, er, _, h2⟩ := h
    rw [e] at er
    injection er with er1
    obtain ⟨ba, off, hb2, hc2⟩ := h2 a er1.symm hne
    have := World.block_lt_of_cell? w _ (hc2 0 (by rw [bytesOf_length]; exact h0))
    rw [hb2]
    exact this)
  have HBK := hidden (fun (W : World) (u : Nat) (Q : List Nat) (hS : Step (fun _ => False) w W) (hP : PS W (fun k => w.heap.size ≤ k) (w.heap.size + 1) w.heap.size vb M m u Q most 0) (hQ : Q.length ≤ 258 * u) => pblock_any _ (w.heap.size + 1) w.heap.size vb M m u Q most W hP (fun k hk => by have := hS.size; omega) hm (fun q a n c e => by have := HBL.out q a n c e; have := hS.size; omega) hQ h0 h1)
  obtain ⟨ao, cap, rfl, _, _⟩ := h
  clear hr hc
  generalize hp : w.heap.size + 1 = p at *
  go_enter Tryz.func11, Tryz.ntmps11
  go_wp2
  go_loopg [] (n + 1) (fun k W => ∃ e : Nat, Hid (PBs2 w p w.heap.size (.slice ao (bytesOf M m).length cap) M m most n x k e W))
  case atStart => exact ⟨0, hidden ⟨HW0.out, .inl ⟨rfl, n, 0, [], rfl, HR.out, HP0.out, by simp⟩⟩⟩
  case round =>
    obtain ⟨e, HH⟩ := hrel
    have ce := HH.out.cell
    by_cases he : e = 0
    · subst he
      obtain ⟨hst, ⟨_, k', u, Q, hk, hbl, hps, hQ⟩ | ⟨h0', _⟩⟩ := HH.out
      · have HK := hidden hk
        have HST := hidden hst
        have HPS := hidden hps
        have hCB := hidden (HBK.out _ u Q hst hps hQ)
        have b00 : ((0 : Int) == 0) = true := rfl
        have b01 : ((0 : Int) != 0) = false := rfl
        clear HH hk hst hps hQ
        cases hbl with
        | @bad _ _ y _ hx =>
          rw [hx] at hCB
          clear hx
          go_wp2_with fail
          refine hCB.out.mono ?_
          rintro e w2 ⟨l, rfl, R2⟩
          obtain ⟨s2, hy0, t', O', hp2⟩ := R2.out
          have HPE := hidden hp2
          have HSE := hidden (show Step (fun _ => False) w w2 from HST.out.trans s2 (fun k hk => .inr hk))
          have ce2 := hp2.cells.2.2.1
          have by0 : ((y : Int) != 0) = true := by rw [bne_iff_ne]; omega
          clear R2 s2 hp2
          cases l with
          | true =>
            go_wp2
            go_quiet (fail)
            go_wp2
            go_ret3
            exact ⟨HSE.out.drewN _, hy0, rfl⟩
          | false =>
            go_wp2
            go_roundg 0
            case measure => have := HK.out; omega
            case rel => exact ⟨y, hidden ⟨HSE.out, .inr ⟨hy0, rfl, t', O', HPE.out⟩⟩⟩
        | @last _ _ u2 _ Q2 hl hx =>
          rw [hx] at hCB
          clear hx
          go_wp2_with fail
          refine hCB.out.mono ?_
          rintro e w2 ⟨l, rfl, R2⟩
          obtain ⟨s2, hll, hp2, hQ2⟩ := R2.out
          rw [decide_eq_true hl] at hll
          subst hll
          have HSE := hidden (show Step (fun _ => False) w w2 from HST.out.trans s2 (fun k hk => .inr hk))
          have HP2 := hidden hp2
          have HQ2 := hidden hQ2
          obtain ⟨v, hx2, hz1, hz2, hz3, _⟩ := hp2
          obtain ⟨va, vc, hv⟩ := own_slice hx2.ow
          subst hv
          have ce2 := hx2.ce
          have ca := hx2.ci
          have cb := hx2.co
          have hle2 := hx2.rx.le
          have HAL : Hid (∀ W, Step (fun _ => False) w2 W → Calls Tryz.prog 23 #[.pointer (some ⟨w.heap.size, 0, none⟩)] W fun e w' => e = .returned (.int .i64 (((u2 + 7) / 8 : Nat) : Int)) ∧ w'.cell? ⟨p, 1, none⟩ = some (.slice va Q2.length vc) ∧ Hid (Step (fun _ => False) w w' ∧ Rd w' (.slice va Q2.length vc) Q2)) :=
            hidden (fun W hW => by
              have hxW : Sx W p w.heap.size (.slice ao (bytesOf M m).length cap) (.slice va Q2.length vc) M m u2 Q2 most 0 := hx2.step hW (fun h => h) (fun h => h) (fun _ _ h => h) (fun _ _ _ _ _ h => h)
              refine (xalign_any w.heap.size _ M m u2 W hxW.rx (by omega)).mono fun e w' ⟨he, T⟩ => ?_
              have S2 := hxW.took T
              exact ⟨he, S2.co, (HSE.out.made hW).trans T.2 (fun i hi => .inr (by rw [hi]; exact Nat.le_refl _)), Rd.of_own S2.ow⟩)
          have HBY := hidden hx2.by_
          have HVB := hidden (show ∀ k, (Value.slice va Q2.length vc).ownBlock = some k → w.heap.size ≤ k from hz3)
          have HOW := hidden hx2.ow
          clear R2 s2 hx2 hQ2 hz1 hz2 hz3
          generalize hql : Q2.length = ql at *
          go_wp2
          go_region_with (first
            | (go_at_call 23; refine (HAL.out _ (by first | exact Step.refl _ _ | exact (Step.refl _ _).drew | exact (Step.refl _ _).drewN _)).mono ?_; rintro e W1 ⟨rfl, cb2, X1⟩))
          all_goals
            go_wp2
            go_ret3
            refine ⟨X1.out.1, _, rfl, X1.out.2, HBY.out, fun a n c e => ?_, by rw [hql]; exact HQ2.out, by omega⟩
            injection e with e1
            subst e1
            rcases HOW.out.2 with ⟨h, _⟩ | ⟨g', _, _, e, _⟩
            · cases h
            · injection e with e1
              have e2 := Option.some.inj e1
              subst e2
              exact HVB.out _ rfl
        | @more k2 _ u2 _ Q2 _ hl hx hn =>
          rw [hx] at hCB
          have HN := hidden hn
          clear hx hn
          go_wp2_with fail
          refine hCB.out.mono ?_
          rintro e w2 ⟨l, rfl, R2⟩
          obtain ⟨s2, hll, hp2, hQ2⟩ := R2.out
          rw [decide_eq_false (by omega)] at hll
          subst hll
          have HSE := hidden (show Step (fun _ => False) w w2 from HST.out.trans s2 (fun k hk => .inr hk))
          have HP2 := hidden (And.intro hp2 hQ2)
          clear R2 s2 hp2 hQ2
          go_wp2
          go_roundg (k2 + 1)
          case measure => have := HK.out; omega
          case rel => exact ⟨0, hidden ⟨HSE.out, .inl ⟨rfl, k2, u2, Q2, rfl, HN.out, HP2.out.1, HP2.out.2⟩⟩⟩
      · omega
    · obtain ⟨hst, ⟨h0', _⟩ | ⟨hy0, hx, t', O', hps⟩⟩ := HH.out
      · exact absurd h0' he
      · have HXE := hidden hx
        have HSE := hidden hst
        have be : ((e : Int) == 0) = false := by rw [beq_eq_false_iff_ne]; omega
        have be2 : ((e : Int) != 0) = true := by rw [bne_iff_ne]; omega
        clear HH hst hx hps
        go_wp2
        go_quiet (fail)
        go_wp2
        go_ret3
        rw [HXE.out]
        exact ⟨HSE.out.drewN _, hy0, rfl⟩

end Go.Proofs.YtcgjmkcigmmjjaaGreatDoor

namespace Go.Proofs.YtcgjmkcigmmjjaaGreatDoor
open Go.RowKit
set_option maxHeartbeats 1000000 in
theorem same_any (va vb : Value) (A B : List Nat) (w : World) (ha : Rd w va A) (hb : Rd w vb B) (hA : A.length ≤ 137438953600) :
    Calls Tryz.prog 12 #[va, vb] w fun e w' => e = .returned (.bool (decide (A = B))) ∧ ∃ n, w' = w.drewN n := by
  obtain ⟨ao, ca, rfl, a1, a2⟩ := ha
  obtain ⟨bo, cb, rfl, b1, b2⟩ := hb
  by_cases hl : A.length = B.length
  · obtain ⟨n, hn⟩ : ∃ n, n = A.length := ⟨_, rfl⟩
    have hn2 : n ≤ 137438953600 := by omega
    rw [← hl, ← hn]
    have Hn := hidden hn
    have Hl := hidden hl
    have a2' := hidden a2
    have b2' := hidden b2
    have a1' := hidden a1
    have b1' := hidden b1
    clear a1 a2 b1 b2 hl hn hA
    go_enter Tryz.func12, Tryz.ntmps12
    go_wp2
    go_loopw [5] (fun i wr => ∃ k : Nat, k ≤ n ∧ i = .int .i64 k ∧ (∃ nq, wr = w.drewN nq) ∧ Hid (∀ j, j < k → A.getD j 0 = B.getD j 0)) (fun i _ => n - (intOf i).toNat)
    case atStart => exact ⟨0, Nat.zero_le _, rfl, ⟨0, rfl⟩, fun j hj => by omega⟩
    case round =>
      obtain ⟨k, hk, rfl, ⟨nq, rfl⟩, hpre⟩ := hrel
      by_cases hlt : k < n
      · have hne : A ≠ [] := by intro e; have := Hn.out; subst e; simp at this; omega
        have hne' : B ≠ [] := by intro e; have := Hn.out; have := Hl.out; subst e; simp_all
        cases ao with
        | none => exact absurd (a1'.out rfl).1 hne
        | some a =>
          cases bo with
          | none => exact absurd (b1'.out rfl).1 hne'
          | some b =>
            obtain ⟨ba, oa, rfl, ka⟩ := a2'.out a rfl hne
            obtain ⟨bb, ob, rfl, kb⟩ := b2'.out b rfl hne'
            have ca' := ka k (by have := Hn.out; omega)
            have cb' := kb k (by have := Hn.out; have := Hl.out; omega)
            clear ka kb
            generalize hx : A.getD k 0 = x at *
            generalize hy : B.getD k 0 = y at *
            have Hx := hidden hx
            have Hy := hidden hy
            have k0 : (0 : Int) ≤ (k : Int) := by omega
            have k1 : (k : Int) < (n : Int) := by omega
            clear hx hy hne hne'
            by_cases hxy : x = y
            · have hd : ((x : Int) != (y : Int)) = false := by simp [hxy]
              go_wp2
              go_quiet (fail)
              go_wp2
              go_roundw
              case rel =>
                refine ⟨k + 1, by omega, by go_num, ⟨_, rfl⟩, fun j hj => ?_⟩
                by_cases e : j = k
                · rw [e, Hx.out, Hy.out, hxy]
                · exact hpre.out j (by omega)
              case measure => simp [intOf]; omega
            · have hd : ((x : Int) != (y : Int)) = true := by rw [bne_iff_ne]; omega
              have hfin := hidden (show decide (A = B) = false by
                rw [decide_eq_false_iff_not]
                intro e
                exact hxy (by rw [← Hx.out, ← Hy.out, e]))
              go_wp2
              go_quiet (fail)
              go_wp2
              go_ret
              exact ⟨by rw [hfin.out]; rfl, _, World.drewN_drewN _ _ _⟩
      · have hfin := hidden (show decide (A = B) = true by
          rw [decide_eq_true_eq]
          exact eq_of_getD Hl.out (fun j hj => hpre.out j (by have := Hn.out; omega)))
        go_wp2
        go_ret
        exact ⟨by rw [hfin.out]; rfl, _, rfl⟩
  · have hfin := hidden (show decide (A = B) = false by
      rw [decide_eq_false_iff_not]
      exact fun e => hl (by rw [e]))
    have hl' : ((A.length : Int) != (B.length : Int)) = true := by rw [bne_iff_ne]; omega
    clear hl
    go_enter Tryz.func12, Tryz.ntmps12
    go_wp2
    go_ret
    exact ⟨by rw [hfin.out]; rfl, 0, rfl⟩

end Go.Proofs.YtcgjmkcigmmjjaaGreatDoor

namespace Go.Proofs.YtcgjmkcigmmjjaaGreatDoor
open Go.RowKit
set_option maxRecDepth 100000
set_option linter.unusedVariables false
/-- What the page reads of bytes made small. -/
theorem back_any (w : World) (a : Option Addr) (c : Nat) (P B : List Nat) (h : Sm P B) (hP : ∀ x ∈ P, x < 256) (hn : P.length ≤ 16000) (hr : Rd w (.slice a B.length c) B) (hc : B.length ≤ c) (most : Int) (hm : (P.length : Int) ≤ most) (h1 : most ≤ 9223372036854775807) :
    Calls Tryz.prog 11 #[.slice a B.length c, .int .i64 most] w fun e w' => ∃ ao c', e = .returned (.tuple #[.slice ao P.length c', .int .i64 (B.length : Int), .int .i64 0]) ∧ Hid (Rd w' (.slice ao P.length c') P ∧ Step (fun _ => False) w w') := by
  obtain ⟨hl, M, t, hB, hb, ht⟩ := h.told hP hn hm
  have hs : stS P.length ≤ P.length + 10 := by unfold stS stB; omega
  refine (pbytes_any (.slice a B.length c) M B.length most 0 _ w (by rw [← hB]; exact hr) (fun ao n c' e => by injection e with _ e2 e3; omega) (by omega) (by omega) h1 hb).mono fun e w' ⟨S, v, he, hv, _⟩ => ?_
  obtain ⟨ao, c', e2, _⟩ := id hv
  subst e2
  rw [ht] at he
  exact ⟨ao, c', he, hidden ⟨hv, S⟩⟩

theorem Rd.lits (w : World) (B : List Nat) (fr : Nat × Nat) : Rd (w.alloc (.cells (u8s B).toArray 5 fr)) (.slice (some ⟨w.heap.size, 0, none⟩) B.length B.length) B := by
  refine ⟨some ⟨w.heap.size, 0, none⟩, B.length, rfl, fun h => (by cases h), fun a ha _ => ⟨w.heap.size, 0, (Option.some.inj ha).symm, fun k hk => ?_⟩⟩
  have h1 : (u8s B)[k]? = some (.int .u8 ((B.getD k 0 : Nat) : Int)) := by rw [u8s_get?]; simp [List.getD, hk]
  rw [Nat.zero_add, World.cell?_alloc_mark, ← h1]
  simp

theorem same_eq (va vb : Value) (A : List Nat) (w : World) (ha : Rd w va A) (hb : Rd w vb A) (hA : A.length ≤ 10000000) :
    Calls Tryz.prog 12 #[va, vb] w fun e w' => e = .returned (.bool true) ∧ Hid (Step (fun _ => False) w w') :=
  (same_any va vb A A w ha hb (by omega)).mono fun e w' ⟨he, n, hn⟩ => ⟨by rw [he, decide_eq_true rfl], by subst hn; exact (Step.refl _ w).drewN n⟩

theorem st_ab : outB (stPs [97, 98]) = [1, 2, 0, 253, 255, 97, 98] := by decide +kernel

set_option maxHeartbeats 2000000 in
theorem dknown_any (w : World) (hT : TabD w) : Calls Tryz.prog 14 #[] w fun e w' => e = .returned (.bool true) ∧ Step (fun _ => False) w w' := by
  have HT := hidden hT
  have kc := fun (w : World) (C : Array Value) (n c : Nat) => Lib.run_convert_bytes_const (P := Tryz.prog) w 22 5 C n c Tryz.underlying22 Tryz.underlying5
  have HB : Hid (∀ o, o = Obj.cells (u8s [97, 98, 99, 97, 98, 99, 97, 98, 99]).toArray 5 (9, 10) → Calls Tryz.prog 9 #[.slice (some ⟨w.heap.size, 0, none⟩) 9 9] (w.alloc o) fun e w' => ∃ a c B, e = .returned (.slice a B.length c) ∧ Hid (Sm [97, 98, 99, 97, 98, 99, 97, 98, 99] B ∧ Rd w' (.slice a B.length c) B ∧ Step (fun _ => False) w w' ∧ B.length ≤ c)) := hidden (fun o ho => by
    subst ho
    have hs : Step (fun _ => False) w (w.alloc (.cells (u8s [97, 98, 99, 97, 98, 99, 97, 98, 99]).toArray 5 (9, 10))) := (Step.refl _ w).alloc _
    refine (dbytes_any _ _ 9 [97, 98, 99, 97, 98, 99, 97, 98, 99] (Rd.lits w _ (9, 10)) (by decide) (by decide) (by decide) (HT.out.made hs)).mono ?_
    rintro e w' ⟨a, c, B, he, R⟩
    exact ⟨a, c, B, he, R.out.1, R.out.2.1, hs.made R.out.2.2.1, R.out.2.2.2⟩)
  have HS : Hid (∀ w1 o, o = Obj.cells (u8s [97, 98]).toArray 5 (2, 3) → Calls Tryz.prog 15 #[.slice (some ⟨w1.heap.size, 0, none⟩) 2 2] (w1.alloc o) fun e w' => ∃ a c, e = .returned (.slice a 7 c) ∧ Hid (Rd w' (.slice a 7 c) [1, 2, 0, 253, 255, 97, 98] ∧ Step (fun _ => False) w1 w')) := hidden (fun w1 o ho => by
    subst ho
    have hs : Step (fun _ => False) w1 (w1.alloc (.cells (u8s [97, 98]).toArray 5 (2, 3))) := (Step.refl _ w1).alloc _
    refine (dstored_any _ _ 2 [97, 98] (Rd.lits w1 _ (2, 3)) (by decide) (by decide) (by decide)).mono ?_
    rintro e w' ⟨a, c, he, R⟩
    rw [st_ab] at he R
    exact ⟨a, c, he, R.out.1, hs.made R.out.2.1⟩)
  have HS1 : Hid (∀ w1 o a c, Rd w1 (.slice a 7 c) [1, 2, 0, 253, 255, 97, 98] → o = Obj.cells (u8s [1, 2, 0, 253, 255, 97, 98]).toArray 5 → Calls Tryz.prog 12 #[.slice a 7 c, .slice (some ⟨w1.heap.size, 0, none⟩) 7 7] (w1.alloc o) fun e w' => e = .returned (.bool true) ∧ Hid (Step (fun _ => False) w1 w')) := hidden (fun w1 o a c h1 ho => by
    subst ho
    have hs : Step (fun _ => False) w1 (w1.alloc (.cells (u8s [1, 2, 0, 253, 255, 97, 98]).toArray 5)) := (Step.refl _ w1).alloc _
    exact (same_eq _ _ [1, 2, 0, 253, 255, 97, 98] _ (h1.step hs (fun _ _ _ _ _ h => h)) (Rd.lits w1 _ (0, 0)) (by decide)).mono fun e w' ⟨he, h⟩ => ⟨he, hs.made h.out⟩)
  have HS2 : Hid (∀ w1 o a c, Rd w1 (.slice a 9 c) [97, 98, 99, 97, 98, 99, 97, 98, 99] → o = Obj.cells (u8s [97, 98, 99, 97, 98, 99, 97, 98, 99]).toArray 5 (9, 10) → Calls Tryz.prog 12 #[.slice a 9 c, .slice (some ⟨w1.heap.size, 0, none⟩) 9 9] (w1.alloc o) fun e w' => e = .returned (.bool true) ∧ Hid (Step (fun _ => False) w1 w')) := hidden (fun w1 o a c h1 ho => by
    subst ho
    have hs : Step (fun _ => False) w1 (w1.alloc (.cells (u8s [97, 98, 99, 97, 98, 99, 97, 98, 99]).toArray 5 (9, 10))) := (Step.refl _ w1).alloc _
    exact (same_eq _ _ [97, 98, 99, 97, 98, 99, 97, 98, 99] _ (h1.step hs (fun _ _ _ _ _ h => h)) (Rd.lits w1 _ (9, 10)) (by decide)).mono fun e w' ⟨he, h⟩ => ⟨he, hs.made h.out⟩)
  clear hT
  go_enter Tryz.func14, Tryz.ntmps14
  go_wp2_with fail
  refine (HB.out _ rfl).mono ?_
  rintro e w1 ⟨a, c, B, rfl, R1⟩
  have HR1 := hidden R1.out
  have HBK := hidden (back_any w1 a c _ B R1.out.1 (by decide) (by decide) R1.out.2.1 R1.out.2.2.2 9 (by decide) (by decide))
  have hpos : 0 < B.length := by
    obtain ⟨_, M, t, _, h2, h3⟩ := R1.out.1.told (by decide) (by decide) (most := 9) (by decide)
    rcases Nat.eq_zero_or_pos B.length with h | h
    · rw [h] at h2
      cases h2 with
      | last _ hb =>
        exfalso
        rw [h] at h3
        have hb2 := hb
        unfold blkF at hb2
        rw [if_neg (by omega)] at hb2
        unfold blkP at hb2
        rw [if_neg (by omega)] at hb2
        cases hb2
    · exact h
  obtain ⟨m, hm⟩ : ∃ m, B.length = m := ⟨_, rfl⟩
  rw [hm] at HBK hpos
  rw [hm]
  have hz : (0 : Int) < (m : Int) := by omega
  clear R1 hm
  go_wp2_with fail
  refine HBK.out.mono ?_
  rintro e w2 ⟨a2, c2, rfl, R2⟩
  go_wp2_with fail
  refine (HS.out w2 _ rfl).mono ?_
  rintro e w3 ⟨a3, c3, rfl, R3⟩
  have HX := hidden (R2.out.1.step R3.out.2 (fun _ _ _ _ _ q => q))
  have HS3 := hidden ((HR1.out.2.2.1.made R2.out.2).made R3.out.2)
  go_wp2_with fail
  refine (HS1.out w3 _ a3 c3 R3.out.1 rfl).mono ?_
  rintro e w4 ⟨rfl, S4⟩
  have HX4 := hidden (HX.out.step S4.out (fun _ _ _ _ _ q => q))
  go_wp2_with fail
  refine (HS2.out w4 _ a2 c2 HX4.out rfl).mono ?_
  rintro e w5 ⟨rfl, S5⟩
  go_wp2
  go_ret
  exact ⟨rfl, (HS3.out.made S4.out).made S5.out⟩

end Go.Proofs.YtcgjmkcigmmjjaaGreatDoor

namespace Go.Proofs.YtcgjmkcigmmjjaaGreatDoor
open Go.RowKit
set_option maxRecDepth 100000
structure O1 (w0 w : World) (v : Value) (C : List Nat) : Prop where
  own : w.ownsRow 0 5 1 v C.length (u8s C)
  new : ∀ k, v.ownBlock = some k → w0.heap.size ≤ k
  st : Step (fun _ => False) w0 w

theorem O1.nil (w : World) : O1 w w (.slice none 0 0) [] := ⟨World.ownsRow_nil _ _ _ _, fun k h => by simp [Value.ownBlock] at h, Step.refl _ w⟩

theorem O1.empty (w : World) : O1 w (w.alloc (.cells #[] 5)) (.slice (some ⟨w.heap.size, 0, none⟩) 0 0) [] := ⟨by
  have := World.ownsRow_lit (base := 0) (e := 5) (size := 1) w #[] 0 (Nat.zero_le _) (Nat.zero_le _) rfl
  simpa [u8s] using this, fun k h => by simp [Value.ownBlock] at h; omega, (Step.refl _ _).alloc _⟩

theorem O1.made {w0 w w' : World} {v : Value} {C : List Nat} (h : O1 w0 w v C) (hs : Step (fun _ => False) w w') : O1 w0 w' v C := ⟨owns_step h.own hs (fun _ _ q => q), h.new, h.st.made hs⟩

theorem O1.form {w0 w : World} {v : Value} {C : List Nat} (h : O1 w0 w v C) : ∃ ao cap, v = .slice ao C.length cap ∧ C.length ≤ cap ∧ Rd w (.slice ao C.length cap) C := by
  have hr := Rd.of_own h.own
  rcases h.own.2 with ⟨e, e0⟩ | ⟨g, cap, cur, e, _, _, hc, _⟩
  · subst e
    have hC : C = [] := List.eq_nil_of_length_eq_zero e0
    subst hC
    exact ⟨none, 0, rfl, Nat.le_refl _, hr⟩
  · subst e
    exact ⟨_, cap, rfl, hc, hr⟩

theorem app_o1 {w : World} {ops : Array Oper} {rest : List Oper} {o : Oper} {a : Act} {Q : Exit → Act → World → Prop} (hgd : o.guard = none) (s x : Operand)
    (ho : o.op = .call { callee := .builtin .append, args := #[s, x], argTypes := #[22, 22] })
    (w0 : World) (v : Value) (C : List Nat) (hs : a.eval s = v) (hown : O1 w0 w v C) (xv : Value) (B : List Nat) (hx : a.eval x = xv) (hr : Rd w xv B) (hb : C.length + B.length ≤ 137438953600)
    (h : ∀ v' w', Hid (O1 w0 w' v' (C ++ B)) → wpList Tryz.prog ops Q rest (a.put o.dst v') w') :
    wpList Tryz.prog ops Q (o :: rest) a w :=
  append_bytes hgd s x ho v C.length C hs hown.own xv B hx hr hb fun v' w' h1 h2 h3 => h v' w' (hidden ⟨by rw [List.length_append]; exact h1, fun k hk => by
    rcases h3 with e | e
    · exact hown.new k (by rw [← e]; exact hk)
    · rw [e] at hk
      have := Option.some.inj hk
      have := hown.st.size
      omega, hown.st.grown h2 (fun k hk => .inr (hown.new k hk))⟩)

/-- Bytes made small, and read by the page again. -/
theorem bytes_o1 (w0 w : World) (ao : Option Addr) (cap : Nat) (P : List Nat) (h : O1 w0 w (.slice ao P.length cap) P) (hP : ∀ x ∈ P, x < 256) (hn : P.length ≤ 16000) (hT : TabD w) :
    Calls Tryz.prog 9 #[.slice ao P.length cap] w fun e w' => ∃ a c B, e = .returned (.slice a B.length c) ∧ Hid (Sm P B ∧ Rd w' (.slice a B.length c) B ∧ Step (fun _ => False) w w' ∧ B.length ≤ c) := by
  obtain ⟨ao', cap', e, hc, hr⟩ := h.form
  injection e with e1 _ e3
  subst e1
  subst e3
  exact dbytes_any w ao cap P hr hc hP hn hT

end Go.Proofs.YtcgjmkcigmmjjaaGreatDoor

namespace Go.Proofs.YtcgjmkcigmmjjaaGreatDoor
open Go.RowKit Go.ChangeShapes Go.WideShapes Go.ChangeAt
theorem row_of {H : Type} {enc : TypeId × Value → H} {W : World} {fuel : Nat} {v : Value} {d : DataW H} {p : List MemPlace} (h : DataW.trod enc Tryz.prog W 0 (fun _ => true) true fuel 22 [v] = some (d, p))
    (hs : ∀ n ∈ d.weights Tryz.prog 22, n ≤ reachBytes) :
    ∃ (a : Option Addr) (cap : Nat) (B : List Nat), v = .slice a B.length cap ∧ Rd W v B ∧ (∀ z ∈ B, z < 256) ∧ B.length ≤ cap ∧ B.length ≤ 140737488351232 := by
  rcases open_ints Tryz.underlying22 Tryz.underlying5 (by kernel_rfl) h with ⟨hcs, _⟩ | ⟨x, l, c, zs, hcs, _, hl, hm, hz, hx, hcell, hwz⟩
  · simp at hcs
    subst hcs
    exact ⟨none, 0, [], rfl, rd_none W, by simp, by simp, by simp⟩
  · simp at hcs
    subst hcs
    simp only [if_true] at hz
    obtain ⟨B, h1, h2, h3, _⟩ := rd_of_ints hl hz hcell hwz
    simp only [Prod.mk.injEq] at hx
    have hb : Tryz.prog.bytesOf 5 = 1 := by kernel_rfl
    have hw := hs zs.length (by
      rw [hx.1]
      simp only [DataW.weights, Tryz.underlying22, hb, Nat.mul_one, lits, List.length_map, List.length_take, List.length_drop]
      rw [show min l zs.length + (zs.length - l) = zs.length by omega]
      exact List.mem_cons_self)
    refine ⟨some x, c, B, by rw [h1], by rw [← h1]; exact h2, h3, by omega, ?_⟩
    have : reachBytes = 140737488351232 := rfl
    omega

end Go.Proofs.YtcgjmkcigmmjjaaGreatDoor

namespace Go.Proofs.YtcgjmkcigmmjjaaGreatDoor
open Go.ChangeShapes Go.WideShapes Go.ChangeAt Go.RowKit
def doorLaid : List (String × DataW Unit) := [("rubricator/deflate.lengthsOrder", Rows.laid_rubricator_deflate_lengthsOrder)]

theorem own : ownKnob Tryz.prog.godebug = none := by kernel_rfl

theorem laidOut : laidOutB Tryz.prog = true := by kernel_rfl

theorem door_met (os : Os) (args : Array Value) : laidMetH Tryz.prog doorLaid ((World.doorLaid Tryz.prog 14 os).forCall (fun _ _ => 0) ⟨#[], args, []⟩).memory :=
  laidMetH_of_parts3 (fuel := 8) (laidMet_of_run' 8 (by kernel_rfl) (by kernel_rfl)) (by kernel_rfl) (by kernel_rfl)

theorem gOrder : Tryz.prog.globalNamed "rubricator/deflate.lengthsOrder" = some 0 := by kernel_rfl

theorem tOrder : (Tryz.prog.globals[0]?).map (·.type) = some 105 := by kernel_rfl

theorem cOrder : Tryz.prog.cellsOf 105 = 19 := by kernel_rfl

theorem cInt : Tryz.prog.cellsOf 3 = 1 := by kernel_rfl

theorem of_laid {W : World} (h : laidMetH Tryz.prog doorLaid W) : TabD W := by
  rw [MakeChecks.laidMetH_plain _ _ _ (by kernel_rfl)] at h
  have hT := Lib.tabIs_of_head (k := .i64) (zs := ordL.map fun (x : Nat) => (x : Int)) gOrder tOrder Tryz.underlying105 Tryz.underlying3 cInt cOrder h
  intro k hk
  have hl : ordL.length = 19 := rfl
  have := hT.cell gOrder k (by simpa [hl] using hk)
  rw [this]
  unfold ord
  simp [List.getD, hl, hk]

end Go.Proofs.YtcgjmkcigmmjjaaGreatDoor
