/-
  InflateReads: for all bytes and bounds the law answers true: what Bytes tells of them as a stream, how many it has read, and which error, are the page's; the bytes that were handed in stand as they stood, with the room behind them. No condition, but that the table is laid as the program's text lays it (the card ties it).
-/
import Derived.Test.YtinncakendfklaaDoorIPageB
import Derived.BigQuiet
import Derived.Test.YtinncakendfklaaDoorIFullN
import Derived.OwnWalk
import Derived.BigRegion
import Derived.Test.YtinncakendfklaaDoorRow
import Derived.Lib.SlBytesConst
import Derived.WalkKit
import Derived.ProofKit
import Derived.SizedLaws
import Derived.ChangeArms
import Derived.Test.YtinncakendfklaaDoorTie
import Derived.Test.YtinncakendfklaaDoorCards
import Derived.Lib.LaidTab
import Derived.MakeChecks
import Derived.LaidMore
import Derived.Test.YtinncakendfklaaDoorRows
import Derived.OpenShut
import Derived.ShutString
import Derived.ChangeOld
import Derived.Below
import Derived.Stop.Joined

namespace Go.Proofs.YtinncakendfklaaDoor
open Go.RowKit
set_option maxRecDepth 100000
set_option linter.unusedVariables false

/-- What symbols by two decoders leave, seen from the stream. -/
def PSy (w : World) (Z : Nat → Prop) (p b : Nat) (r : Value) (M m : Nat) (most : Int) (x : Except Nat (Nat × List Nat)) (w' : World) : Prop :=
  Step Z w w' ∧
  match x with
  | .error y => 0 < y ∧ ∃ t' O', PS w' Z p b r M m t' O' most y
  | .ok (u, Q) => PS w' Z p b r M m u Q most 0 ∧ Q.length ≤ 258 * u

theorem psyms_blk (Z : Nat → Prop) (p b : Nat) (r : Value) (M m u : Nat) (O : List Nat) (most : Int) (L D : List Int) (d1 d2 : Nat) (c1 l1 c2 l2 : Value) (w w5 w6 w7 : World) (hZ : ∀ k, w.heap.size ≤ k → Z k) (hw : w.heap.size ≤ w5.heap.size) (hst : Step Z w w5) (h : PS w5 Z p b r M m u O most 0) (hr : ∀ a n c, r = .slice (some a) n c → a.block < w5.heap.size)
    (h6 : Step (fun _ => False) w5 w6) (h7 : Step (fun _ => False) w6 w7) (k1 : w5.heap.size ≤ d1) (k2 : w6.heap.size ≤ d2) (e1 : RDec w6 d1 L c1 l1 0 0) (e2 : RDec w7 d2 D c2 l2 0 0) (v1 : ∀ a n c, c1 = .slice (some a) n c → w5.heap.size ≤ a.block) (v2 : ∀ a n c, l1 = .slice (some a) n c → w5.heap.size ≤ a.block) (v3 : ∀ a n c, c2 = .slice (some a) n c → w6.heap.size ≤ a.block) (v4 : ∀ a n c, l2 = .slice (some a) n c → w6.heap.size ≤ a.block)
    (hm : m ≤ 1000000) (hL : newErr L = 0) (hD : newErr D = 0) (hO : O.length ≤ 258 * u) (h0 : 0 ≤ most) (h1 : most ≤ 9223372036854775807) :
    Calls Tryd.prog 36 #[.pointer (some ⟨p, 0, none⟩), .pointer (some ⟨d1, 0, none⟩), .pointer (some ⟨d2, 0, none⟩)] w7 fun e w' => e = .returned (.tuple #[]) ∧ Hid (PSy w Z p b r M m most (symsV L D M m most u O) w') := by
  have hrz : ∀ a n c, r = .slice (some a) n c → bytesOf M m ≠ [] → ¬ Z a.block := by obtain ⟨v, _, _, _, _, h5⟩ := h; exact h5
  have hd1 : d1 < w6.heap.size := World.block_lt_of_cell? w6 _ e1.c0
  have hd2 : d2 < w7.heap.size := World.block_lt_of_cell? w7 _ e2.c0
  have s6 := h6.size
  have s7 := h7.size
  obtain ⟨Y, hYZ, hYlt, hY⟩ := h.small
  have hps : PS w7 (fun k => Z k ∧ ¬ (w5.heap.size ≤ k ∧ k < w7.heap.size)) p b r M m u O most 0 :=
    ((hY.wide (fun k hk => ⟨hYZ k hk, fun q => by have := hYlt k hk; omega⟩) (fun a n c e1 e2 hk => hrz a n c e1 e2 hk.1)).far h6 (fun k hk => hk.elim) (fun _ _ _ _ _ hk => hk.elim)).far h7 (fun k hk => hk.elim) (fun _ _ _ _ _ hk => hk.elim)
  have hc1 : ∀ a n c, c1 = .slice (some a) n c → codes L ≠ [] → a.block < d1 := e1.nc
  have hpb : PBs (fun k => Z k ∧ ¬ (w5.heap.size ≤ k ∧ k < w7.heap.size)) r d1 L c1 l1 d2 D c2 l2 := by
    refine ⟨⟨fun q => q.2 ⟨k1, by omega⟩, fun a n c e => by have := hr a n c e; omega, fun a n c e q1 q => q.2 ⟨v1 a n c e, by have := e1.nc a n c e q1; omega⟩, fun a n c e q1 q => q.2 ⟨v2 a n c e, by have := e1.nl a n c e q1; omega⟩⟩,
      ⟨fun q => q.2 ⟨by omega, hd2⟩, fun a n c e => by have := hr a n c e; omega, fun a n c e q1 q => q.2 ⟨by have := v3 a n c e; omega, by have := e2.nc a n c e q1; omega⟩, fun a n c e q1 q => q.2 ⟨by have := v4 a n c e; omega, by have := e2.nl a n c e q1; omega⟩⟩, by omega,
      fun a n c e q1 => by have := e1.nc a n c e q1; omega, fun a n c e q1 => by have := e1.nl a n c e q1; omega, fun a n c e q1 => by have := v3 a n c e; omega, fun a n c e q1 => by have := v4 a n c e; omega⟩
  have hpd : PD w7 (fun k => Z k ∧ ¬ (w5.heap.size ≤ k ∧ k < w7.heap.size)) p b r M m u O most d1 L c1 l1 d2 D c2 l2 :=
    ⟨hps, e1.farZ h7 (fun q => q) (fun _ _ _ _ _ q => q) (fun _ _ _ _ _ q => q), e2⟩
  refine (psymbols_any _ p b r M m u O most d1 L c1 l1 d2 D c2 l2 w7 hpd hpb (fun k hk => ⟨hZ k (by omega), fun q => by omega⟩) hm hL hD hO h0 h1).mono fun e w' ⟨he, hq⟩ => ⟨he, hidden ?_⟩
  obtain ⟨q1, q2⟩ := hq.out
  refine ⟨?_, ?_⟩
  · refine ((hst.trans h6 (fun _ q => q.elim)).trans h7 (fun _ q => q.elim)).trans q1 (fun k hk => ?_)
    rcases hk with q | q | q
    · exact .inl q.1
    · exact .inr (by omega)
    · exact .inr (by omega)
  · cases hs : symsV L D M m most u O with
    | error y =>
      rw [hs] at q2
      obtain ⟨a1, t', O', a2⟩ := q2
      exact ⟨a1, t', O', a2.wide (fun k hk => hk.1) hrz⟩
    | ok z =>
      obtain ⟨u2, Q⟩ := z
      rw [hs] at q2
      exact ⟨q2.1.wide (fun k hk => hk.1) hrz, q2.2⟩

theorem storedP_len258 {M m t u : Nat} {most : Int} {O Q : List Nat} (h : storedP M m most t O = .ok (u, Q)) (hO : O.length ≤ 258 * t) : Q.length ≤ 258 * u := by
  unfold storedP at h
  simp only at h
  split at h
  · split at h
    · split at h
      · split at h
        · injection h with h
          injection h with h1 h2
          subst h1; subst h2
          rw [List.length_append, bytesOf_length]
          omega
        · cases h
      · cases h
    · cases h
  · cases h

/-- How a block ends. -/
def PBl (w : World) (Z : Nat → Prop) (p b : Nat) (r : Value) (M m t : Nat) (most : Int) (x : Except Nat (Nat × List Nat)) (l : Bool) (w' : World) : Prop :=
  Step Z w w' ∧
  match x with
  | .error y => 0 < y ∧ ∃ t' O', PS w' Z p b r M m t' O' most y
  | .ok (u, Q) => l = decide (M / 2 ^ t % 2 = 1) ∧ PS w' Z p b r M m u Q most 0 ∧ Q.length ≤ 258 * u

end Go.Proofs.YtinncakendfklaaDoor

namespace Go.Proofs.YtinncakendfklaaDoor
open Go.RowKit
set_option maxRecDepth 100000
set_option linter.unusedVariables false

theorem own_of_slice {v : Value} {g n c : Nat} {off : Nat} (h : v = .slice (some ⟨g, off, none⟩) n c) (h0 : off = 0) : v.ownBlock = some g := by subst h; subst h0; rfl

set_option maxHeartbeats 8000000 in
theorem pblock_any (Z : Nat → Prop) (p b : Nat) (r : Value) (M m t : Nat) (O : List Nat) (most : Int) (w : World) (h : PS w Z p b r M m t O most 0) (hZ : ∀ k, w.heap.size ≤ k → Z k) (hm : m ≤ 1000000) (hr : 0 < m → ∀ a n c, r = .slice (some a) n c → a.block < w.heap.size) (hO : O.length ≤ 258 * t) (h0 : 0 ≤ most) (h1 : most ≤ 9223372036854775807) :
    Calls Tryd.prog 24 #[.pointer (some ⟨p, 0, none⟩)] w fun e w' => ∃ l, e = .returned (.bool l) ∧ Hid (PBl w Z p b r M m t most (blkF M m most t O) l w') := by
  have HZ := hidden hZ
  have HRW0 := hidden hr
  have HOL := hidden hO
  have hle : t ≤ 8 * m := by obtain ⟨v, hx, _⟩ := h; exact hx.rx.le
  have hG1 := hidden (pgs_any w Z p b r M m t O most 0 1 w (.inl ⟨by omega, h⟩) hm (by omega))
  have hG2 := hidden (fun W (hW : GS w Z p b r M m t O most (0 + 1) W) => pgs_any w Z p b r M m t O most (0 + 1) 2 W hW hm (by omega))
  clear h hZ hr hO
  by_cases g1 : t + 3 ≤ 8 * m
  · have b00 : ((0 : Int) != 0) = false := rfl
    have HRW := hidden (HRW0.out (by omega))
    go_enter Tryd.func24, Tryd.ntmps24
    go_wp2_with fail
    refine hG1.out.mono ?_
    rintro e w1 ⟨x1, rfl, hx1, R1⟩
    go_wp2_with fail
    refine (hG2.out _ R1.out.1).mono ?_
    rintro e w2 ⟨x2, rfl, hx2, R2⟩
    have HS2 := hidden (show Step Z w w2 from R1.out.2.2.trans R2.out.2.2 (fun i hi => .inl hi))
    have HX := hidden (show x1 = M / 2 ^ t % 2 ∧ x2 = M / 2 ^ (t + 1) % 4 from ⟨R1.out.2.1 (by omega), R2.out.2.1 (by omega)⟩)
    have HPS := hidden (show PS w2 Z p b r M m (t + 3) O most 0 by
      rcases R2.out.1 with ⟨_, h⟩ | ⟨h, _⟩
      · exact h
      · omega)
    have ce := HPS.out.cells.2.2.1
    have cf := HPS.out.cells.2.2.2.1
    have hx1' : x1 < 2 := hx1
    have hx2' : x2 < 4 := hx2
    have HB1 := hidden (show ((x1 : Int) == 1) = decide (M / 2 ^ t % 2 = 1) by
      rw [← HX.out.1]
      by_cases e : x1 = 1
      · subst e; rfl
      · rw [decide_eq_false e, beq_eq_false_iff_ne]; omega)
    have HZ2 := hidden (fun k (hk : w2.heap.size ≤ k) => HZ.out k (by have := HS2.out.size; omega))
    clear R1 R2 hx1 hx2 hG1 hG2
    by_cases k0 : x2 = 0
    · have HBF := hidden (show blkF M m most t O = storedP M m most (t + 3) O by
        unfold blkF blkP
        rw [if_neg (by rw [← HX.out.2]; omega), if_pos g1, if_pos (by rw [← HX.out.2]; exact k0)])
      have hSD := hidden (stored_p Z p b r M m (t + 3) O most w2 HPS.out hm HZ2.out (by have := HOL.out; omega) h0 h1)
      subst k0
      go_wp2_with fail
      refine hSD.out.mono ?_
      rintro e w3 ⟨rfl, R3⟩
      go_wp2
      go_ret
      refine ⟨_, rfl, hidden ?_⟩
      rw [HBF.out]
      have h3 := R3.out
      cases hq : storedP M m most (t + 3) O with
      | error y =>
        rw [hq] at h3
        obtain ⟨a1, t', O', a2⟩ := h3
        exact ⟨HS2.out.trans a2.2 (fun i hi => .inl hi), a1, t', O', a2.1⟩
      | ok z =>
        obtain ⟨u, Q⟩ := z
        rw [hq] at h3
        exact ⟨HS2.out.trans h3.2 (fun i hi => .inl hi), HB1.out, h3.1, storedP_len258 hq (by have := HOL.out; omega)⟩
    · have bk0 : ((x2 : Int) == 0) = false := by rw [beq_eq_false_iff_ne]; omega
      by_cases k1 : x2 = 1
      · have HBF := hidden (show blkF M m most t O = symsV FL FD M m most (t + 3) O by
          unfold blkF blkP
          rw [if_neg (by rw [← HX.out.2]; omega), if_pos g1, if_neg (by rw [← HX.out.2]; exact k0), if_pos (by rw [← HX.out.2]; exact k1)])
        have bk1 : ((x2 : Int) == 1) = true := by rw [beq_iff_eq]; omega
        have hFX := hidden (pfixed_any w2)
        go_wp2_with fail
        refine hFX.out.mono ?_
        rintro e w3 ⟨fl, fd, rfl, R3⟩
        obtain ⟨r1, r2, r3, r4, r5⟩ := R3.out
        have HFL := hidden r1
        have HFD := hidden r2
        have HS5 := hidden (show Step Z w w3 from HS2.out.trans r5 (fun _ q => q.elim))
        have HPS5 := hidden (HPS.out.far r5 (fun k hk => hk.elim) (fun _ _ _ _ _ hk => hk.elim))
        obtain ⟨lo, lc, rfl, _⟩ := r1
        obtain ⟨do_, dc, rfl, _⟩ := r2
        rw [FL_len, FD_len]
        rw [FL_len] at HFL
        rw [FD_len] at HFD
        clear R3 r3 r4 r5 ce cf
        have hN1 := hidden (refNew_any _ FL w3 HFL.out (by rw [FL_len]; omega))
        go_wp2_with fail
        refine hN1.out.mono ?_
        rintro e w6 (⟨hn, _⟩ | ⟨_, d1, c1, l1, rfl, q1, q2, q3, q4, q5⟩)
        · exact absurd FL_ok hn
        have hN2 := hidden (refNew_any _ FD w6 (HFD.out.made q5) (by rw [FD_len]; omega))
        have HD1 := hidden (And.intro q1 (And.intro q2 (And.intro q3 (And.intro q4 q5))))
        clear q1 q2 q3 q4 q5
        go_wp2_with fail
        refine hN2.out.mono ?_
        rintro e w7 (⟨hn, _⟩ | ⟨_, d2, c2, l2, rfl, q1, q2, q3, q4, q5⟩)
        · exact absurd FD_ok hn
        have hSY := hidden (psyms_blk Z p b r M m (t + 3) O most FL FD d1 d2 c1 l1 c2 l2 w w3 w6 w7 HZ.out HS5.out.size HS5.out HPS5.out (fun a n c e => by have := HRW.out a n c e; have := HS5.out.size; omega) HD1.out.2.2.2.2 q5 HD1.out.1 q1 HD1.out.2.1 q2 HD1.out.2.2.1 HD1.out.2.2.2.1 q3 q4 hm FL_ok FD_ok (by have := HOL.out; omega) h0 h1)
        clear q1 q2 q3 q4 q5
        go_wp2_with fail
        refine hSY.out.mono ?_
        rintro e w8 ⟨rfl, R8⟩
        go_wp2
        go_ret
        refine ⟨_, rfl, hidden ?_⟩
        rw [HBF.out]
        have h8 := R8.out
        obtain ⟨s8, h8⟩ := h8
        refine ⟨s8, ?_⟩
        cases hq : symsV FL FD M m most (t + 3) O with
        | error y => rw [hq] at h8; exact h8
        | ok z =>
          obtain ⟨u, Q⟩ := z
          rw [hq] at h8
          exact ⟨HB1.out, h8.1, h8.2⟩
      · have bk1 : ((x2 : Int) == 1) = false := by rw [beq_eq_false_iff_ne]; omega
        by_cases k2 : x2 = 2
        · have HBF := hidden (show blkF M m most t O = ownS M m most O (ownP M m (t + 3)) by
            unfold blkF
            rw [if_pos ⟨g1, by rw [← HX.out.2]; exact k2⟩])
          have HOP := hidden (ownP_lensR M m (t + 3))
          have bk2 : ((x2 : Int) == 2) = true := by rw [beq_iff_eq]; omega
          have hLN := hidden (plengths_any Z p b r M m (t + 3) O most w2 HPS.out hm (fun a n c e => by have := HRW.out a n c e; have := HS2.out.size; omega))
          cases hq : lensR M m (t + 3) with
          | error y =>
            rw [hq] at hLN HOP
            clear hq
            go_wp2_with fail
            refine hLN.out.mono ?_
            rintro e w3 ⟨lo, ln, lc, z, rfl, R3⟩
            obtain ⟨s3, hy0, t', hp3⟩ := R3.out
            have HP3 := hidden hp3
            have HS3 := hidden (show Step Z w w3 from HS2.out.trans s3 (fun i hi => .inl hi))
            have ce3 := hp3.cells.2.2.1
            have by0 : ((y : Int) != 0) = true := by rw [bne_iff_ne]; omega
            clear R3 s3 hp3
            go_wp2
            go_ret
            refine ⟨_, rfl, hidden ?_⟩
            rw [HBF.out, HOP.out]
            exact ⟨HS3.out, hy0, t', O, HP3.out⟩
          | ok z =>
            obtain ⟨lit, u, A⟩ := z
            rw [hq] at hLN HOP
            clear hq
            go_wp2_with fail
            refine hLN.out.mono ?_
            rintro e w3 ⟨lo, ln, lc, z, rfl, R3⟩
            obtain ⟨s3, hz, hl1, hl2, hl3, hri, hbk, hp3⟩ := R3.out
            subst hz
            have HP3 := hidden hp3
            have HS3 := hidden (show Step Z w w3 from HS2.out.trans s3 (fun i hi => .inl hi))
            have ce3 := hp3.cells.2.2.1
            have cf3 := hp3.cells.2.2.2.1
            have HRI := hidden hri
            obtain ⟨hln, g, off, rfl, hcA⟩ := hri.cell (k := 256) (by omega)
            have c256 := hcA 256 (by omega)
            have hcap : ln ≤ lc := by obtain ⟨_, _, e, h, _⟩ := hri; injection e with e1 e2 e3; omega
            have HLN := hidden hln
            have hlit : lit < ln := by omega
            have hlit2 : (lit : Int) ≤ (ln : Int) := by omega
            have hlit3 : lit ≤ lc := by omega
            have hlit4 : ¬ lc = lit := by omega
            have hlit5 : (lit : Int) ≤ (lc : Int) := by omega
            have HTK := hidden (hri.takeS lit (by omega))
            have HDR := hidden (hri.dropS lit (by omega))
            have HTL := hidden (show (A.take lit).length = lit by simp; omega)
            have HDL := hidden (show (A.drop lit).length = ln - lit by simp; omega)
            have h256 : (256 : Int) < (lit : Int) := by omega
            have HOA := hidden (show ownP M m (t + 3) = ownA lit u A from HOP.out)
            have HA20 := hidden hl3
            clear R3 s3 hp3 hri hcA hln hl2 hl3 HOP hbk
            by_cases ga : A.getD 256 0 = 0
            · have HOA2 := hidden (show ownP M m (t + 3) = .error 3 by rw [HOA.out]; unfold ownA; rw [if_pos ga])
              rw [ga] at c256
              go_wp2
              go_quiet (fail)
              go_wp2
              go_ret
              refine ⟨_, rfl, hidden ?_⟩
              rw [HBF.out, HOA2.out]
              exact ⟨(HS3.out.drewN _).trans ((HP3.out.drewN _).err 3).2 (fun i hi => .inl hi), by omega, _, _, ((HP3.out.drewN _).err 3).1⟩
            · have HGA := hidden ga
              have bga : (A.getD 256 0 == 0) = false := by rw [beq_eq_false_iff_ne]; exact ga
              have hN1 := hidden (fun (W : World) (hW : Ri W (.slice (some ⟨g, off, none⟩) lit lc) (A.take lit)) => refNew_any _ (A.take lit) W hW (by rw [HTL.out]; have := HA20.out; have := HLN.out; omega))
              have hN2 := hidden (fun (W : World) (hW : Ri W (.slice (some ⟨g, off + lit, none⟩) (ln - lit) (lc - lit)) (A.drop lit)) => refNew_any _ (A.drop lit) W hW (by rw [HDL.out]; have := HA20.out; have := HLN.out; omega))
              have HOA1 := hidden (show ownP M m (t + 3) = if newErr (A.take lit) ≠ 0 then .error (newErr (A.take lit)).toNat else if newErr (A.drop lit) ≠ 0 then .error (newErr (A.drop lit)).toNat else .ok (u, A.take lit, A.drop lit) by rw [HOA.out]; unfold ownA; rw [if_neg ga])
              clear HOA HGA
              generalize A.getD 256 0 = a256 at *
              clear ga
              by_cases gx : newErr (A.take lit) = 0
              · by_cases gy : newErr (A.drop lit) = 0
                · have HOA2 := hidden (show ownP M m (t + 3) = .ok (u, A.take lit, A.drop lit) by rw [HOA1.out, if_neg (fun q => q gx), if_neg (fun q => q gy)])
                  have HGX := hidden gx
                  have HGY := hidden gy
                  clear gx gy
                  go_wp2
                  go_quiet (fail)
                  go_wp2_with fail
                  refine (hN1.out _ (HTK.out.drewN _)).mono ?_
                  rintro e w6 (⟨hn, _⟩ | ⟨_, d1, c1, l1, rfl, q1, q2, q3, q4, q5⟩)
                  · exact absurd HGX.out hn
                  have HD1 := hidden (And.intro q1 (And.intro q2 (And.intro q3 (And.intro q4 q5))))
                  clear q1 q2 q3 q4 q5
                  go_wp2_with fail
                  refine (hN2.out _ ((HDR.out.drewN _).made HD1.out.2.2.2.2)).mono ?_
                  rintro e w7 (⟨hn, _⟩ | ⟨_, d2, c2, l2, rfl, q1, q2, q3, q4, q5⟩)
                  · exact absurd HGY.out hn
                  have hSY := hidden (psyms_blk Z p b r M m u O most (A.take lit) (A.drop lit) d1 d2 c1 l1 c2 l2 w _ w6 w7 HZ.out (HS3.out.drewN _).size (HS3.out.drewN _) (HP3.out.drewN _) (fun a n c e => by have := HRW.out a n c e; have := HS3.out.size; simp; omega) HD1.out.2.2.2.2 q5 HD1.out.1 q1 HD1.out.2.1 q2 HD1.out.2.2.1 HD1.out.2.2.2.1 q3 q4 hm HGX.out HGY.out (by have := (ownP_adv HOA2.out).2.2.1; have := HOL.out; omega) h0 h1)
                  clear q1 q2 q3 q4 q5
                  go_wp2_with fail
                  refine hSY.out.mono ?_
                  rintro e w8 ⟨rfl, R8⟩
                  go_wp2
                  go_ret
                  refine ⟨_, rfl, hidden ?_⟩
                  rw [HBF.out, HOA2.out]
                  have h8 := R8.out
                  obtain ⟨s8, h8⟩ := h8
                  refine ⟨s8, ?_⟩
                  show match symsV (A.take lit) (A.drop lit) M m most u O with
                    | .error y => _
                    | .ok (u, Q) => _
                  cases hq : symsV (A.take lit) (A.drop lit) M m most u O with
                  | error y => rw [hq] at h8; exact h8
                  | ok z =>
                    obtain ⟨u2, Q⟩ := z
                    rw [hq] at h8
                    exact ⟨HB1.out, h8.1, h8.2⟩
                · have HOA2 := hidden (show ownP M m (t + 3) = .error (newErr (A.drop lit)).toNat by rw [HOA1.out, if_neg (fun q => q gx), if_pos gy])
                  have HGX := hidden gx
                  have HGY := hidden gy
                  obtain ⟨ne, hne, hne0⟩ : ∃ ne : Nat, newErr (A.drop lit) = (ne : Int) ∧ 0 < ne := by
                    rcases newErr_two (A.drop lit) with h | h | h
                    · exact absurd h gy
                    · exact ⟨1, by rw [h]; rfl, by omega⟩
                    · exact ⟨21, by rw [h]; rfl, by omega⟩
                  have HNE := hidden hne
                  have bne0 : ((ne : Int) != 0) = true := by rw [bne_iff_ne]; omega
                  clear hne
                  clear gx gy
                  go_wp2
                  go_quiet (fail)
                  go_wp2_with fail
                  refine (hN1.out _ (HTK.out.drewN _)).mono ?_
                  rintro e w6 (⟨hn, _⟩ | ⟨_, d1, c1, l1, rfl, q1, q2, q3, q4, q5⟩)
                  · exact absurd HGX.out hn
                  have HD1 := hidden q5
                  clear q1 q2 q3 q4 q5
                  go_wp2_with fail
                  refine (hN2.out _ ((HDR.out.drewN _).made HD1.out)).mono ?_
                  rintro e w7 (⟨_, rfl, hs7⟩ | ⟨hn, _⟩)
                  · rw [HNE.out]
                    have HP7 := hidden (((HP3.out.drewN _).far HD1.out (fun k hk => hk.elim) (fun _ _ _ _ _ hk => hk.elim)).far hs7 (fun k hk => hk.elim) (fun _ _ _ _ _ hk => hk.elim))
                    have HS7 := hidden (((HS3.out.drewN _).trans HD1.out (fun _ q => q.elim)).trans hs7 (fun _ q => q.elim))
                    have ce7 := HP7.out.cells.2.2.1
                    have cf7 := HP7.out.cells.2.2.2.1
                    clear hs7
                    go_wp2
                    go_ret
                    refine ⟨_, rfl, hidden ?_⟩
                    rw [HBF.out, HOA2.out, HNE.out]
                    have he := HP7.out.err ne
                    exact ⟨HS7.out.trans he.2 (fun i hi => .inl hi), by simpa using hne0, _, _, he.1⟩
                  · exact absurd hn HGY.out
              · have HOA2 := hidden (show ownP M m (t + 3) = .error (newErr (A.take lit)).toNat by rw [HOA1.out, if_pos gx])
                have HGX := hidden gx
                obtain ⟨ne, hne, hne0⟩ : ∃ ne : Nat, newErr (A.take lit) = (ne : Int) ∧ 0 < ne := by
                  rcases newErr_two (A.take lit) with h | h | h
                  · exact absurd h gx
                  · exact ⟨1, by rw [h]; rfl, by omega⟩
                  · exact ⟨21, by rw [h]; rfl, by omega⟩
                have HNE := hidden hne
                have bne0 : ((ne : Int) != 0) = true := by rw [bne_iff_ne]; omega
                clear hne
                clear gx
                go_wp2
                go_quiet (fail)
                go_wp2_with fail
                refine (hN1.out _ (HTK.out.drewN _)).mono ?_
                rintro e w6 (⟨_, rfl, hs6⟩ | ⟨hn, _⟩)
                · rw [HNE.out]
                  have HP7 := hidden ((HP3.out.drewN _).far hs6 (fun k hk => hk.elim) (fun _ _ _ _ _ hk => hk.elim))
                  have HS7 := hidden ((HS3.out.drewN _).trans hs6 (fun _ q => q.elim))
                  have ce7 := HP7.out.cells.2.2.1
                  have cf7 := HP7.out.cells.2.2.2.1
                  clear hs6
                  go_wp2
                  go_ret
                  refine ⟨_, rfl, hidden ?_⟩
                  rw [HBF.out, HOA2.out, HNE.out]
                  have he := HP7.out.err ne
                  exact ⟨HS7.out.trans he.2 (fun i hi => .inl hi), by simpa using hne0, _, _, he.1⟩
                · exact absurd hn HGX.out
        · have k3 : x2 = 3 := by omega
          have bk2 : ((x2 : Int) == 2) = false := by rw [beq_eq_false_iff_ne]; omega
          have HBF := hidden (show blkF M m most t O = .error 3 by
            unfold blkF blkP
            rw [if_neg (by rw [← HX.out.2]; omega), if_pos g1, if_neg (by rw [← HX.out.2]; exact k0), if_neg (by rw [← HX.out.2]; exact k1)])
          go_wp2
          go_ret
          refine ⟨_, rfl, hidden ?_⟩
          rw [HBF.out]
          have he := HPS.out.err 3
          exact ⟨HS2.out.trans he.2 (fun i hi => .inl hi), by omega, _, _, he.1⟩
  · have HBF := hidden (show blkF M m most t O = .error 2 by
      unfold blkF blkP
      rw [if_neg (fun h => g1 h.1), if_neg g1])
    have b2 : ((2 : Int) != 0) = true := rfl
    go_enter Tryd.func24, Tryd.ntmps24
    go_wp2_with fail
    refine hG1.out.mono ?_
    rintro e w1 ⟨x1, rfl, hx1, R1⟩
    go_wp2_with fail
    refine (hG2.out _ R1.out.1).mono ?_
    rintro e w2 ⟨x2, rfl, hx2, R2⟩
    have hce := R2.out.1.cell
    rw [if_neg (by omega)] at hce
    obtain ⟨ce, cf⟩ := hce
    clear hx1 hx2
    go_wp2
    go_ret
    refine ⟨_, rfl, hidden ?_⟩
    rw [HBF.out]
    refine ⟨R1.out.2.2.trans R2.out.2.2 (fun i hi => .inl hi), by omega, ?_⟩
    rcases R2.out.1 with ⟨h, _⟩ | ⟨_, t', h⟩
    · omega
    · exact ⟨t', O, h⟩

end Go.Proofs.YtinncakendfklaaDoor

namespace Go.Proofs.YtinncakendfklaaDoor
open Go.RowKit
set_option maxRecDepth 100000
set_option linter.unusedVariables false

/-- A stream that begins. -/
theorem PS.new {w : World} {r : Value} {M m : Nat} (most : Int) (hr : Rd w r (bytesOf M m)) (hc : ∀ ao n c, r = .slice ao n c → n ≤ c) (t1 t2 : TypeId) :
    PS ((w.alloc (.cells #[r, .int .i64 0] t1)).alloc (.cells #[.pointer (some ⟨w.heap.size, 0, none⟩), .slice none 0 0, .int .i64 most, .int .i64 0] t2)) (fun k => w.heap.size ≤ k) (w.heap.size + 1) w.heap.size r M m 0 [] most 0 := by
  have hS1 : Step (fun _ => False) w (w.alloc (.cells #[r, .int .i64 0] t1)) := (Step.refl _ w).alloc _
  have hS2 : Step (fun _ => False) (w.alloc (.cells #[r, .int .i64 0] t1)) ((w.alloc (.cells #[r, .int .i64 0] t1)).alloc (.cells #[.pointer (some ⟨w.heap.size, 0, none⟩), .slice none 0 0, .int .i64 most, .int .i64 0] t2)) := (Step.refl _ _).alloc _
  have hblk : ∀ a n c, r = .slice (some a) n c → bytesOf M m ≠ [] → a.block < w.heap.size := by
    intro a n c e hne
    obtain ⟨ao, cap, er, _, h2⟩ := hr
    rw [e] at er
    injection er with er1
    obtain ⟨ba, off, hb2, hc2⟩ := h2 a er1.symm hne
    have hl : 0 < (bytesOf M m).length := by cases hh : bytesOf M m with | nil => exact absurd hh hne | cons => simp
    have := World.block_lt_of_cell? w _ (hc2 0 hl)
    rw [hb2]
    exact this
  have c1 : ∀ k u, #[r, Value.int .i64 0][k]? = some u → (w.alloc (.cells #[r, .int .i64 0] t1)).cell? ⟨w.heap.size, k, none⟩ = some u := fun k u h => by rw [World.cell?_alloc_at _ _ _ _ rfl]; exact h
  have hsz : (w.alloc (.cells #[r, .int .i64 0] t1)).heap.size = w.heap.size + 1 := by simp
  have c2 : ∀ k u, #[Value.pointer (some ⟨w.heap.size, 0, none⟩), .slice none 0 0, .int .i64 most, .int .i64 0][k]? = some u → ((w.alloc (.cells #[r, .int .i64 0] t1)).alloc (.cells #[.pointer (some ⟨w.heap.size, 0, none⟩), .slice none 0 0, .int .i64 most, .int .i64 0] t2)).cell? ⟨w.heap.size + 1, k, none⟩ = some u := fun k u h => by rw [← hsz, World.cell?_alloc_at _ _ _ _ rfl]; exact h
  have f2 : ∀ k, ((w.alloc (.cells #[r, .int .i64 0] t1)).alloc (.cells #[.pointer (some ⟨w.heap.size, 0, none⟩), .slice none 0 0, .int .i64 most, .int .i64 0] t2)).frozen? ⟨w.heap.size + 1, k, none⟩ = false := fun k => by rw [← hsz]; exact World.frozen?_alloc_at _ _ _ _ rfl
  refine ⟨.slice none 0 0, ⟨c2 0 _ rfl, ⟨hS2.cell (c1 0 _ rfl) (fun h => h), hS2.cell (c1 1 _ rfl) (fun h => h), ?_, (hr.step hS1 (fun _ _ _ _ _ h => h)).step hS2 (fun _ _ _ _ _ h => h), fun a n c e hne => by have := hblk a n c e hne; omega, hc, by omega⟩, c2 1 _ rfl, c2 2 _ rfl, c2 3 _ rfl, f2 1, f2 3, World.ownsRow_nil _ _ _ _, by omega, by simp [Value.ownBlock], by simp [Value.ownBlock], fun a n c e hne => ⟨by have := hblk a n c e hne; omega, by simp [Value.ownBlock]⟩, fun _ h => by cases h⟩, by omega, Nat.le_refl _, fun k hk => by simp [Value.ownBlock] at hk, fun a n c e hne hk => by have := hblk a n c e hne; omega⟩
  rw [hS2.frozen (p := ⟨w.heap.size, 1, none⟩) (by simp) (fun h => h)]
  exact World.frozen?_alloc_at _ _ _ _ rfl

set_option maxHeartbeats 1000000 in
theorem pbytes_neg (v : Value) (most : Int) (w : World) (h : most < 0) (ao : Option Addr) (n c : Nat) (hv : v = .slice ao n c) : Calls Tryd.prog 17 #[v, .int .i64 most] w (BytesE w (.error 1)) := by
  subst hv
  go_enter Tryd.func17, Tryd.ntmps17
  go_wp2
  go_ret3
  exact ⟨Step.refl _ _, by omega, rfl⟩

/-- Blocks, one behind the other. -/
def PBs2 (w : World) (p b : Nat) (vb : Value) (M m : Nat) (most : Int) (n0 : Nat) (x : Except Nat (Nat × List Nat)) (k : Nat) (e : Nat) (W : World) : Prop :=
  Step (fun _ => False) w W ∧
  ((e = 0 ∧ ∃ n u Q, k = n + 1 ∧ BlksF M m most n u Q x ∧ PS W (fun k => w.heap.size ≤ k) p b vb M m u Q most 0 ∧ Q.length ≤ 258 * u) ∨
   (0 < e ∧ x = .error e ∧ ∃ t' O', PS W (fun k => w.heap.size ≤ k) p b vb M m t' O' most e))
theorem PBs2.cell {w : World} {p b : Nat} {vb : Value} {M m : Nat} {most : Int} {n0 : Nat} {x : Except Nat (Nat × List Nat)} {k e : Nat} {W : World} (h : PBs2 w p b vb M m most n0 x k e W) : W.cell? ⟨p, 3, none⟩ = some (.int .i64 (e : Int)) := by
  obtain ⟨_, ⟨rfl, n, u, Q, _, _, hp, _⟩ | ⟨_, _, t', O', hp⟩⟩ := h
  · exact hp.cells.2.2.1
  · exact hp.cells.2.2.1

set_option maxHeartbeats 4000000 in
theorem pbytes_any (vb : Value) (M m : Nat) (most : Int) (n : Nat) (x : Except Nat (Nat × List Nat)) (w : World) (h : Rd w vb (bytesOf M m)) (hc : ∀ ao n c, vb = .slice ao n c → n ≤ c) (hm : m ≤ 1000000) (h0 : 0 ≤ most) (h1 : most ≤ 9223372036854775807) (hr : BlksF M m most n 0 [] x) :
    Calls Tryd.prog 17 #[vb, .int .i64 most] w (BytesE w x) := by
  have HR := hidden hr
  have HP0 := hidden (PS.new most h hc 63 65)
  have HW0 := hidden (((Step.refl (fun _ => False) w).alloc (.cells #[vb, .int .i64 0] 63)).alloc (.cells #[.pointer (some ⟨w.heap.size, 0, none⟩), .slice none 0 0, .int .i64 most, .int .i64 0] 65))
  have HBL := hidden (show 0 < m → ∀ a n c, vb = .slice (some a) n c → a.block < w.heap.size by
    intro h0 a n c e
    have hne : bytesOf M m ≠ [] := by intro q; have := bytesOf_length M m; rw [q] at this; simp at this; omega
    obtain ⟨ao, cap, er, _, h2⟩ := h
    rw [e] at er
    injection er with er1
    obtain ⟨ba, off, hb2, hc2⟩ := h2 a er1.symm hne
    have := World.block_lt_of_cell? w _ (hc2 0 (by rw [bytesOf_length]; exact h0))
    rw [hb2]
    exact this)
  have HBK := hidden (fun (W : World) (u : Nat) (Q : List Nat) (hS : Step (fun _ => False) w W) (hP : PS W (fun k => w.heap.size ≤ k) (w.heap.size + 1) w.heap.size vb M m u Q most 0) (hQ : Q.length ≤ 258 * u) => pblock_any _ (w.heap.size + 1) w.heap.size vb M m u Q most W hP (fun k hk => by have := hS.size; omega) hm (fun q a n c e => by have := HBL.out q a n c e; have := hS.size; omega) hQ h0 h1)
  obtain ⟨ao, cap, rfl, _, _⟩ := h
  clear hr hc
  generalize hp : w.heap.size + 1 = p at *
  go_enter Tryd.func17, Tryd.ntmps17
  go_wp2
  go_loopg [] (n + 1) (fun k W => ∃ e : Nat, Hid (PBs2 w p w.heap.size (.slice ao (bytesOf M m).length cap) M m most n x k e W))
  case atStart => exact ⟨0, hidden ⟨HW0.out, .inl ⟨rfl, n, 0, [], rfl, HR.out, HP0.out, by simp⟩⟩⟩
  case round =>
    obtain ⟨e, HH⟩ := hrel
    have ce := HH.out.cell
    by_cases he : e = 0
    · subst he
      obtain ⟨hst, ⟨_, k', u, Q, hk, hbl, hps, hQ⟩ | ⟨h0', _⟩⟩ := HH.out
      · have HK := hidden hk
        have HST := hidden hst
        have HPS := hidden hps
        have hCB := hidden (HBK.out _ u Q hst hps hQ)
        have b00 : ((0 : Int) == 0) = true := rfl
        have b01 : ((0 : Int) != 0) = false := rfl
        clear HH hk hst hps hQ
        cases hbl with
        | @bad _ _ y _ hx =>
          rw [hx] at hCB
          clear hx
          go_wp2_with fail
          refine hCB.out.mono ?_
          rintro e w2 ⟨l, rfl, R2⟩
          obtain ⟨s2, hy0, t', O', hp2⟩ := R2.out
          have HPE := hidden hp2
          have HSE := hidden (show Step (fun _ => False) w w2 from HST.out.trans s2 (fun k hk => .inr hk))
          have ce2 := hp2.cells.2.2.1
          have by0 : ((y : Int) != 0) = true := by rw [bne_iff_ne]; omega
          clear R2 s2 hp2
          cases l with
          | true =>
            go_wp2
            go_quiet (fail)
            go_wp2
            go_ret3
            exact ⟨HSE.out.drewN _, hy0, rfl⟩
          | false =>
            go_wp2
            go_roundg 0
            case measure => have := HK.out; omega
            case rel => exact ⟨y, hidden ⟨HSE.out, .inr ⟨hy0, rfl, t', O', HPE.out⟩⟩⟩
        | @last _ _ u2 _ Q2 hl hx =>
          rw [hx] at hCB
          clear hx
          go_wp2_with fail
          refine hCB.out.mono ?_
          rintro e w2 ⟨l, rfl, R2⟩
          obtain ⟨s2, hll, hp2, hQ2⟩ := R2.out
          rw [decide_eq_true hl] at hll
          subst hll
          have HSE := hidden (show Step (fun _ => False) w w2 from HST.out.trans s2 (fun k hk => .inr hk))
          have HP2 := hidden hp2
          have HQ2 := hidden hQ2
          obtain ⟨v, hx2, hz1, hz2, hz3, _⟩ := hp2
          obtain ⟨va, vc, hv⟩ := own_slice hx2.ow
          subst hv
          have ce2 := hx2.ce
          have ca := hx2.ci
          have cb := hx2.co
          have hle2 := hx2.rx.le
          have HAL : Hid (∀ W, Step (fun _ => False) w2 W → Calls Tryd.prog 25 #[.pointer (some ⟨w.heap.size, 0, none⟩)] W fun e w' => e = .returned (.int .i64 (((u2 + 7) / 8 : Nat) : Int)) ∧ w'.cell? ⟨p, 1, none⟩ = some (.slice va Q2.length vc) ∧ Hid (Step (fun _ => False) w w' ∧ Rd w' (.slice va Q2.length vc) Q2)) :=
            hidden (fun W hW => by
              have hxW : Sx W p w.heap.size (.slice ao (bytesOf M m).length cap) (.slice va Q2.length vc) M m u2 Q2 most 0 := hx2.step hW (fun h => h) (fun h => h) (fun _ _ h => h) (fun _ _ _ _ _ h => h)
              refine (xalign_any w.heap.size _ M m u2 W hxW.rx (by omega)).mono fun e w' ⟨he, T⟩ => ?_
              have S2 := hxW.took T
              exact ⟨he, S2.co, (HSE.out.made hW).trans T.2 (fun i hi => .inr (by rw [hi]; exact Nat.le_refl _)), Rd.of_own S2.ow⟩)
          have HBY := hidden hx2.by_
          have HVB := hidden (show ∀ k, (Value.slice va Q2.length vc).ownBlock = some k → w.heap.size ≤ k from hz3)
          have HOW := hidden hx2.ow
          clear R2 s2 hx2 hQ2 hz1 hz2 hz3
          generalize hql : Q2.length = ql at *
          go_wp2
          go_region_with (first
            | (go_at_call 25; refine (HAL.out _ (by first | exact Step.refl _ _ | exact (Step.refl _ _).drew | exact (Step.refl _ _).drewN _)).mono ?_; rintro e W1 ⟨rfl, cb2, X1⟩))
          all_goals
            go_wp2
            go_ret3
            refine ⟨X1.out.1, _, rfl, X1.out.2, HBY.out, fun a n c e => ?_, by rw [hql]; exact HQ2.out, by omega⟩
            injection e with e1
            subst e1
            rcases HOW.out.2 with ⟨h, _⟩ | ⟨g', _, _, e, _⟩
            · cases h
            · injection e with e1
              have e2 := Option.some.inj e1
              subst e2
              exact HVB.out _ rfl
        | @more k2 _ u2 _ Q2 _ hl hx hn =>
          rw [hx] at hCB
          have HN := hidden hn
          clear hx hn
          go_wp2_with fail
          refine hCB.out.mono ?_
          rintro e w2 ⟨l, rfl, R2⟩
          obtain ⟨s2, hll, hp2, hQ2⟩ := R2.out
          rw [decide_eq_false (by omega)] at hll
          subst hll
          have HSE := hidden (show Step (fun _ => False) w w2 from HST.out.trans s2 (fun k hk => .inr hk))
          have HP2 := hidden (And.intro hp2 hQ2)
          clear R2 s2 hp2 hQ2
          go_wp2
          go_roundg (k2 + 1)
          case measure => have := HK.out; omega
          case rel => exact ⟨0, hidden ⟨HSE.out, .inl ⟨rfl, k2, u2, Q2, rfl, HN.out, HP2.out.1, HP2.out.2⟩⟩⟩
      · omega
    · obtain ⟨hst, ⟨h0', _⟩ | ⟨hy0, hx, t', O', hps⟩⟩ := HH.out
      · exact absurd h0' he
      · have HXE := hidden hx
        have HSE := hidden hst
        have be : ((e : Int) == 0) = false := by rw [beq_eq_false_iff_ne]; omega
        have be2 : ((e : Int) != 0) = true := by rw [bne_iff_ne]; omega
        clear HH hst hx hps
        go_wp2
        go_quiet (fail)
        go_wp2
        go_ret3
        rw [HXE.out]
        exact ⟨HSE.out.drewN _, hy0, rfl⟩

end Go.Proofs.YtinncakendfklaaDoor

namespace Go.Proofs.YtinncakendfklaaDoor
open Go.RowKit
set_option maxRecDepth 100000
set_option linter.unusedVariables false

set_option maxHeartbeats 4000000 in
theorem bytes_full (vb : Value) (M m : Nat) (most : Int) (n : Nat) (r : Except Nat (Nat × List Nat)) (w : World) (T : Tab w) (h : Rd w vb (bytesOf M m)) (hm : m ≤ 1000000) (h0 : 0 ≤ most) (h1 : most ≤ 9223372036854775807) (hr : BlksF M m most n 0 [] r) :
    Calls Tryd.prog 13 #[vb, .int .i64 most] w (BytesE w r) := by
  have HR := hidden hr
  have HTB := hidden T
  have HO : Hid (Calls Tryd.prog 21 #[vb] w fun e w' => ∃ b, e = .returned (.pointer (some ⟨b, 0, none⟩)) ∧ Hid (∃ s, Rr w' b s M m 0 ∧ Step (fun _ => False) w w' ∧ w.heap.size ≤ b)) := hidden ((of_any vb M m w h (by omega)).mono fun e w' ⟨b, s, he, h1, h2, h3, _⟩ => ⟨b, he, s, h1, h2, h3⟩)
  obtain ⟨ao, cap, rfl, _, _⟩ := h
  have HBK : Hid (∀ w1 p b s v t O, St w1 w.heap.size p b s v M m t O most → Step (fun _ => False) w w1 → Calls Tryd.prog 22 #[.pointer (some ⟨p, 0, none⟩)] w1 (BlkE w1 w.heap.size p b s M m most (decide (M / 2 ^ t % 2 = 1)) (blkF M m most t O))) :=
    hidden (fun w1 p b s v t O S1 hS => block_full w.heap.size p b s v M m t O most w1 (HTB.out.step hS (fun h => h)) S1 hm hS.size HTB.out.pos h0 h1)
  clear hr T
  go_enter Tryd.func13, Tryd.ntmps13
  go_wp2_with fail
  refine HO.out.mono ?_
  rintro e w1 ⟨b, rfl, S1⟩
  obtain ⟨s, r1, r2, r3⟩ := S1.out
  have HS0 := hidden (St.new most r1 r2 r3 54)
  have HW0 := hidden (r2.alloc (.cells #[.pointer (some ⟨b, 0, none⟩), .slice none 0 0, .int .i64 most, .pointer none] 54))
  generalize hp : w1.heap.size = p at *
  clear S1 r1 r2 r3 HO
  go_wp2
  go_loopg [8, 9] (n + 1) (fun k l e wr => Hid (Step (fun _ => False) w wr) ∧ ((l = .bool false ∧ ∃ u Q v k', k = k' + 1 ∧ Hid (BlksF M m most k' u Q r ∧ St wr w.heap.size p b s v M m u Q most)) ∨ (l = .bool true ∧ ∃ u Q v, Hid (r = .ok (u, Q) ∧ St wr w.heap.size p b s v M m u Q most))))
  case atStart => exact ⟨HW0.out, .inl ⟨rfl, 0, [], _, n, rfl, HR.out, HS0.out⟩⟩
  case round =>
    obtain ⟨HS, hq⟩ := hrel
    rcases hq with ⟨rfl, u, Q, v, k', rfl, HH⟩ | ⟨rfl, u, Q, v, HH⟩
    · obtain ⟨hb, hst⟩ := HH.out
      have HST := hidden hst
      have HB := hidden hb
      clear hst HH
      cases hb with
      | @bad _ _ x _ hx =>
        have HC := hidden (HBK.out _ p b s v u Q HST.out HS.out)
        rw [hx] at HC
        clear hx
        go_wp2_with fail
        refine HC.out.mono ?_
        rintro e w2 ⟨S2, hz, q, rfl⟩
        have HS2 := hidden S2
        have hb : ((x : Int) != 0) = true := by rw [bne_iff_ne]; omega
        clear S2
        go_wp2
        go_ret3
        exact ⟨(HS.out.trans HS2.out (fun i hi => .inr hi)), hz, rfl⟩
      | @last _ _ u2 _ Q2 hl hx =>
        have HC := hidden (HBK.out _ p b s v u Q HST.out HS.out)
        rw [hx, decide_eq_true hl] at HC
        clear hx hl
        go_wp2_with fail
        refine HC.out.mono ?_
        rintro e w2 ⟨S2, rfl, v2, hv2⟩
        have HS2 := hidden (And.intro S2 hv2)
        clear S2 hv2
        go_wp2
        go_roundg 0
        case measure => omega
        case rel => exact ⟨(HS.out.trans HS2.out.1 (fun i hi => .inr hi)), .inr ⟨rfl, u2, Q2, v2, rfl, HS2.out.2⟩⟩
      | @more k2 _ u2 _ Q2 _ hl hx hn =>
        have HC := hidden (HBK.out _ p b s v u Q HST.out HS.out)
        rw [hx, decide_eq_false (by omega)] at HC
        have HN := hidden hn
        clear hx hl hn
        go_wp2_with fail
        refine HC.out.mono ?_
        rintro e w2 ⟨S2, rfl, v2, hv2⟩
        have HS2 := hidden (And.intro S2 hv2)
        clear S2 hv2
        go_wp2
        go_roundg (k2 + 1)
        case measure => omega
        case rel => exact ⟨(HS.out.trans HS2.out.1 (fun i hi => .inr hi)), .inl ⟨rfl, u2, Q2, v2, k2, rfl, HN.out, HS2.out.2⟩⟩
    · have HST := hidden HH.out.2
      have HRR := hidden HH.out.1
      have ca := HH.out.2.str.ci
      have cb := HH.out.2.str.ou.co
      obtain ⟨va, vc, hv⟩ := own_slice HH.out.2.str.ou.ow
      subst hv
      have HAL : Hid (∀ W, Step (fun _ => False) wr W → Calls Tryd.prog 23 #[.pointer (some ⟨b, 0, none⟩)] W fun e w' => e = .returned (.int .i64 (((u + 7) / 8 : Nat) : Int)) ∧ w'.cell? ⟨p, 1, none⟩ = some (.slice va Q.length vc) ∧ Hid (Step (fun _ => False) w w' ∧ Rd w' (.slice va Q.length vc) Q)) :=
        hidden (fun W hW => (ralign_any b s M m u W (HST.out.str.made hW).rr (by omega)).mono fun e w' ⟨he, T⟩ => by
          have S2 := (HST.out.str.made hW).took T
          exact ⟨he, S2.1.ou.co, (HS.out.made hW).trans T.2 (fun i hi => .inr (by rw [hi]; exact HST.out.bb)), Rd.of_own S2.1.ou.ow⟩)
      clear HH
      generalize hql : Q.length = ql at *
      go_wp2
      go_region_with (first
        | (go_at_call 23; refine (HAL.out _ (by first | exact Step.refl _ _ | exact (Step.refl _ _).drew | exact (Step.refl _ _).drewN _)).mono ?_; rintro e W1 ⟨rfl, cb2, X1⟩))
      all_goals
        go_wp2
        go_ret3
        rw [HRR.out]
        have hle := HST.out.str.rr.le
        refine ⟨X1.out.1, _, rfl, X1.out.2, HST.out.str.ou.by_, fun a n c e => ?_, HST.out.ol, by omega⟩
        injection e with e1
        subst e1
        exact HST.out.bv _ rfl

end Go.Proofs.YtinncakendfklaaDoor

namespace Go.Proofs.YtinncakendfklaaDoor
open Go.RowKit

set_option maxHeartbeats 1000000 in
theorem same_any (va vb : Value) (A B : List Nat) (w : World) (ha : Rd w va A) (hb : Rd w vb B) (hA : A.length ≤ 137438953600) :
    Calls Tryd.prog 15 #[va, vb] w fun e w' => e = .returned (.bool (decide (A = B))) ∧ ∃ n, w' = w.drewN n := by
  obtain ⟨ao, ca, rfl, a1, a2⟩ := ha
  obtain ⟨bo, cb, rfl, b1, b2⟩ := hb
  by_cases hl : A.length = B.length
  · obtain ⟨n, hn⟩ : ∃ n, n = A.length := ⟨_, rfl⟩
    have hn2 : n ≤ 137438953600 := by omega
    rw [← hl, ← hn]
    have Hn := hidden hn
    have Hl := hidden hl
    have a2' := hidden a2
    have b2' := hidden b2
    have a1' := hidden a1
    have b1' := hidden b1
    clear a1 a2 b1 b2 hl hn hA
    go_enter Tryd.func15, Tryd.ntmps15
    go_wp2
    go_loopw [5] (fun i wr => ∃ k : Nat, k ≤ n ∧ i = .int .i64 k ∧ (∃ nq, wr = w.drewN nq) ∧ Hid (∀ j, j < k → A.getD j 0 = B.getD j 0)) (fun i _ => n - (intOf i).toNat)
    case atStart => exact ⟨0, Nat.zero_le _, rfl, ⟨0, rfl⟩, fun j hj => by omega⟩
    case round =>
      obtain ⟨k, hk, rfl, ⟨nq, rfl⟩, hpre⟩ := hrel
      by_cases hlt : k < n
      · have hne : A ≠ [] := by intro e; have := Hn.out; subst e; simp at this; omega
        have hne' : B ≠ [] := by intro e; have := Hn.out; have := Hl.out; subst e; simp_all
        cases ao with
        | none => exact absurd (a1'.out rfl).1 hne
        | some a =>
          cases bo with
          | none => exact absurd (b1'.out rfl).1 hne'
          | some b =>
            obtain ⟨ba, oa, rfl, ka⟩ := a2'.out a rfl hne
            obtain ⟨bb, ob, rfl, kb⟩ := b2'.out b rfl hne'
            have ca' := ka k (by have := Hn.out; omega)
            have cb' := kb k (by have := Hn.out; have := Hl.out; omega)
            clear ka kb
            generalize hx : A.getD k 0 = x at *
            generalize hy : B.getD k 0 = y at *
            have Hx := hidden hx
            have Hy := hidden hy
            have k0 : (0 : Int) ≤ (k : Int) := by omega
            have k1 : (k : Int) < (n : Int) := by omega
            clear hx hy hne hne'
            by_cases hxy : x = y
            · have hd : ((x : Int) != (y : Int)) = false := by simp [hxy]
              go_wp2
              go_quiet (fail)
              go_wp2
              go_roundw
              case rel =>
                refine ⟨k + 1, by omega, by go_num, ⟨_, rfl⟩, fun j hj => ?_⟩
                by_cases e : j = k
                · rw [e, Hx.out, Hy.out, hxy]
                · exact hpre.out j (by omega)
              case measure => simp [intOf]; omega
            · have hd : ((x : Int) != (y : Int)) = true := by rw [bne_iff_ne]; omega
              have hfin := hidden (show decide (A = B) = false by
                rw [decide_eq_false_iff_not]
                intro e
                exact hxy (by rw [← Hx.out, ← Hy.out, e]))
              go_wp2
              go_quiet (fail)
              go_wp2
              go_ret
              exact ⟨by rw [hfin.out]; rfl, _, World.drewN_drewN _ _ _⟩
      · have hfin := hidden (show decide (A = B) = true by
          rw [decide_eq_true_eq]
          exact eq_of_getD Hl.out (fun j hj => hpre.out j (by have := Hn.out; omega)))
        go_wp2
        go_ret
        exact ⟨by rw [hfin.out]; rfl, _, rfl⟩
  · have hfin := hidden (show decide (A = B) = false by
      rw [decide_eq_false_iff_not]
      exact fun e => hl (by rw [e]))
    have hl' : ((A.length : Int) != (B.length : Int)) = true := by rw [bne_iff_ne]; omega
    clear hl
    go_enter Tryd.func15, Tryd.ntmps15
    go_wp2
    go_ret
    exact ⟨by rw [hfin.out]; rfl, 0, rfl⟩

end Go.Proofs.YtinncakendfklaaDoor

namespace Go.Proofs.YtinncakendfklaaDoor
open Go.RowKit
set_option maxRecDepth 100000
set_option linter.unusedVariables false

/-- A literal of bytes reads as them. -/
theorem Rd.lits (w : World) (B : List Nat) (fr : Nat × Nat) : Rd (w.alloc (.cells (u8s B).toArray 5 fr)) (.slice (some ⟨w.heap.size, 0, none⟩) B.length B.length) B := by
  refine ⟨some ⟨w.heap.size, 0, none⟩, B.length, rfl, fun h => (by cases h), fun a ha _ => ⟨w.heap.size, 0, (Option.some.inj ha).symm, fun k hk => ?_⟩⟩
  have h1 : (u8s B)[k]? = some (.int .u8 ((B.getD k 0 : Nat) : Int)) := by rw [u8s_get?]; simp [List.getD, hk]
  rw [Nat.zero_add, World.cell?_alloc_mark, ← h1]
  simp

theorem blk_known : Blks (numOf [1, 2, 0, 253, 255, 97, 98]) 7 2 0 0 [] (.ok (56, [97, 98])) := by
  have e : storedP (numOf [1, 2, 0, 253, 255, 97, 98]) 7 2 3 [] = .ok (56, [97, 98]) := by kernel_rfl
  refine Blks.last (by decide) (by decide) ?_
  unfold blkP
  rw [if_pos (by omega), if_pos (by decide)]
  exact e

set_option maxHeartbeats 2000000 in
theorem known_any (w : World) : Calls Tryd.prog 6 #[] w fun e w' => e = .returned (.bool true) ∧ Step (fun _ => False) w w' := by
  have HB : Hid (∀ o, o = Obj.cells (u8s [1, 2, 0, 253, 255, 97, 98]).toArray 5 → Calls Tryd.prog 13 #[.slice (some ⟨w.heap.size, 0, none⟩) 7 7, .int .i64 2] (w.alloc o) fun e w' => ∃ ao c, e = .returned (.tuple #[.slice ao 2 c, .int .i64 7, .int .i64 0]) ∧ Hid (Rd w' (.slice ao 2 c) [97, 98] ∧ Step (fun _ => False) w w')) := hidden (fun o ho => by
    subst ho
    refine (bytes_any _ (numOf [1, 2, 0, 253, 255, 97, 98]) 7 2 0 _ _ (by
      have := bytesOf_numOf [1, 2, 0, 253, 255, 97, 98] (by decide)
      rw [show [1, 2, 0, 253, 255, 97, 98].length = 7 from rfl] at this
      rw [this]
      exact Rd.lits w [1, 2, 0, 253, 255, 97, 98] (0, 0)) (by omega) (by omega) (by omega) blk_known).mono fun e w' ⟨hs, v, he, hr, _⟩ => ?_
    obtain ⟨ao, c, rfl, h2⟩ := id hr
    exact ⟨ao, c, he, hr, ((Step.refl _ w).alloc _).made hs⟩)
  have HSM : Hid (∀ w1 o ao c, Rd w1 (.slice ao 2 c) [97, 98] → o = Obj.cells (u8s [97, 98]).toArray 5 (2, 3) → Calls Tryd.prog 15 #[.slice ao 2 c, .slice (some ⟨w1.heap.size, 0, none⟩) 2 2] (w1.alloc o) fun e w' => e = .returned (.bool true) ∧ Hid (Step (fun _ => False) w1 w')) := hidden (fun w1 o ao c h1 ho => by
    subst ho
    have hs : Step (fun _ => False) w1 (w1.alloc (.cells (u8s [97, 98]).toArray 5 (2, 3))) := (Step.refl _ w1).alloc _
    refine (same_any _ _ [97, 98] [97, 98] _ (h1.step hs (fun _ _ _ _ _ h => h)) (Rd.lits w1 [97, 98] (2, 3)) (by decide)).mono fun e w' ⟨he, n, hn⟩ => ?_
    subst hn
    exact ⟨by rw [he, decide_eq_true rfl], hs.drewN n⟩)
  have kc := fun (w : World) (C : Array Value) (n c : Nat) => Lib.run_convert_bytes_const (P := Tryd.prog) w 22 5 C n c Tryd.underlying22 Tryd.underlying5
  go_enter Tryd.func6, Tryd.ntmps6
  go_wp2_with fail
  refine (HB.out _ rfl).mono ?_
  rintro e w1 ⟨ao, c, rfl, W1⟩
  go_wp2_with fail
  refine (HSM.out w1 _ ao c W1.out.1 rfl).mono ?_
  rintro e w2 ⟨rfl, W2⟩
  go_wp2
  go_ret
  exact ⟨rfl, W1.out.2.made W2.out⟩

theorem same_eq (va vb : Value) (A : List Nat) (w : World) (ha : Rd w va A) (hb : Rd w vb A) (hA : A.length ≤ 100000) :
    Calls Tryd.prog 15 #[va, vb] w fun e w' => e = .returned (.bool true) ∧ Hid (Step (fun _ => False) w w') :=
  (same_any va vb A A w ha hb (by omega)).mono fun e w' ⟨he, n, hn⟩ => ⟨by rw [he, decide_eq_true rfl], by subst hn; exact (Step.refl _ w).drewN n⟩

end Go.Proofs.YtinncakendfklaaDoor

namespace Go.Proofs.YtinncakendfklaaDoor
open Go.RowKit

/-- The slice p has the bytes B and one mark; one more stands behind it. -/
structure Roomy (w : World) (g cap : Nat) (B : List Nat) : Prop where
  own : w.ownsRow 0 5 1 (.slice (some ⟨g, 0, none⟩) (B.length + 2) cap) (B.length + 2) (u8s (B ++ [171, 171]))
  room : B.length + 2 ≤ cap

theorem Roomy.step {S : Nat → Prop} {w w' : World} {g cap : Nat} {B : List Nat} (h : Roomy w g cap B) (hs : Step S w w') (hg : ¬ S g) : Roomy w' g cap B :=
  ⟨owns_step h.own hs (fun k hk => by simp [Value.ownBlock] at hk; subst hk; exact hg), h.room⟩

theorem Roomy.rd {w : World} {g cap : Nat} {B : List Nat} (h : Roomy w g cap B) : Rd w (.slice (some ⟨g, 0, none⟩) B.length cap) B := by
  refine ⟨some ⟨g, 0, none⟩, cap, rfl, fun h => (by cases h), fun a ha _ => ⟨g, 0, (Option.some.inj ha).symm, fun k hk => ?_⟩⟩
  rw [Nat.zero_add, h.own.cellAt k (by omega), u8s_get?, List.getElem?_append_left hk]
  simp [List.getD, hk]

theorem Roomy.mark {w : World} {g cap : Nat} {B : List Nat} (h : Roomy w g cap B) : w.cell? ⟨g, B.length, none⟩ = some (.int .u8 171) := by
  rw [h.own.cellAt B.length (by omega), u8s_get?]
  simp

set_option maxHeartbeats 400000 in
theorem stands_any (g cap : Nat) (vb : Value) (B : List Nat) (w : World) (h : Roomy w g cap B) (hb : Rd w vb B) (hl : B.length ≤ 10000) :
    Calls Tryd.prog 18 #[.slice (some ⟨g, 0, none⟩) (B.length + 1) cap, vb] w fun e w' => e = .returned (.bool true) ∧ ∃ n, w' = w.drewN n := by
  have hm := h.mark
  have HR := hidden h.rd
  have hroom := h.room
  have Hb := hidden hb
  obtain ⟨ao, cb, hvb, _⟩ := hb
  have Hvb := hidden hvb
  rw [hvb] at Hb ⊢
  have HS := hidden (same_any _ _ B B w HR.out Hb.out (by omega))
  rw [decide_eq_true rfl] at HS
  generalize B.length = n at *
  clear h hvb
  go_enter Tryd.func18, Tryd.ntmps18
  go_wp2_with (go_at_call 15; refine HS.out.mono ?_; rintro e w' ⟨rfl, q, rfl⟩)
  go_ret
  exact ⟨rfl, _, rfl⟩

end Go.Proofs.YtinncakendfklaaDoor

namespace Go.Proofs.YtinncakendfklaaDoor
open Go.RowKit

/-- What three appends, one behind the other, leave. -/
theorem roomy_close {w w1 w2 w3 : World} {o2 o3 : Obj} {v1 v2 v3 : Value} {B : List Nat} (S1 : Step (fun _ => False) w w1) (b1 : ∀ k, v1.ownBlock = some k → w.heap.size ≤ k)
    (g2 : (w1.alloc o2).grownBy w2 v1.ownBlock) (e2 : v2.ownBlock = v1.ownBlock ∨ v2.ownBlock = some (w1.heap.size + 1))
    (h3 : w3.ownsRow 0 5 1 v3 (B.length + 1 + 1) (u8s B ++ [.int .u8 171, .int .u8 171])) (g3 : (w2.alloc o3).grownBy w3 v2.ownBlock) (e3 : v3.ownBlock = v2.ownBlock ∨ v3.ownBlock = some (w2.heap.size + 1)) :
    ∃ g cap, v3 = .slice (some ⟨g, 0, none⟩) (B.length + 2) cap ∧ Roomy w3 g cap B ∧ w.heap.size ≤ g ∧ Step (fun _ => False) w w3 := by
  have b2 : ∀ k, v2.ownBlock = some k → w.heap.size ≤ k := by
    intro k hk
    rcases e2 with e | e
    · exact b1 k (by rw [← e]; exact hk)
    · rw [e] at hk; have := Option.some.inj hk; have := S1.size; omega
  have S2 : Step (fun _ => False) w w2 := (S1.alloc o2).grown g2 (fun k hk => .inr (b1 k hk))
  have S3 : Step (fun _ => False) w w3 := (S2.alloc o3).grown g3 (fun k hk => .inr (b2 k hk))
  have b3 : ∀ k, v3.ownBlock = some k → w.heap.size ≤ k := by
    intro k hk
    rcases e3 with e | e
    · exact b2 k (by rw [← e]; exact hk)
    · rw [e] at hk; have := Option.some.inj hk; have := S2.size; omega
  have hx : u8s B ++ [.int .u8 171, .int .u8 171] = u8s (B ++ [171, 171]) := by simp [u8s]
  rw [hx] at h3
  have h3c := h3
  rcases h3.2 with ⟨_, e⟩ | ⟨g, cap, cur, e, _, _, hc, _⟩
  · omega
  · rw [e] at h3c
    exact ⟨g, cap, e, ⟨h3c, hc⟩, b3 g (by rw [e]; rfl), S3⟩

set_option maxHeartbeats 1000000 in
theorem roomy_any (v : Value) (B : List Nat) (w : World) (h : Rd w v B) (hl : B.length ≤ 10000) :
    Calls Tryd.prog 16 #[v] w fun e w' => ∃ g cap, e = .returned (.slice (some ⟨g, 0, none⟩) (B.length + 1) cap) ∧ Roomy w' g cap B ∧ w.heap.size ≤ g ∧ Step (fun _ => False) w w' := by
  obtain ⟨i0, hi, hz0, hz1, hz2⟩ := info_parts Tryd.info5
  have h' := h
  obtain ⟨ao, cv, hv, h1, _⟩ := h
  rw [hv] at h' ⊢
  have hown := hidden (show (w.alloc (.cells #[] 5)).ownsRow 0 5 1 (.slice (some ⟨w.heap.size, 0, none⟩) 0 0) 0 [] by
    have := World.ownsRow_lit (base := 0) (e := 5) (size := 1) w #[] 0 (Nat.zero_le _) (Nat.zero_le _) rfl
    simpa using this)
  have hrd := h'.step ((Step.refl (fun _ => False) w).alloc (.cells #[] 5)) (fun _ _ _ _ _ h => h)
  cases ao with
  | none =>
    obtain ⟨rfl, rfl⟩ := h1 rfl
    clear h1 h' hrd hv
    go_enter Tryd.func16, Tryd.ntmps16
    go_wp2_with (at_builtin; refine wpList_append_stop rfl (.tmp 3) (.tmp 4) 22 rfl 5 i0 1 Tryd.underlying22 hi _ _ _ rfl hown.out rfl ?_)
    unfold Hid
    have HO1 := hidden (hown.out.alloc (.cells #[.int .u8 171] 5))
    go_wp2_with (at_builtin; refine wpList_append_at _ rfl (.tmp 5) (.tmp 6) 22 rfl 5 i0 (.int .u8 0) 1 1 Tryd.underlying22 hi hz0 hz1 hz2 rfl (by decide) _ _ _ rfl HO1.out ⟨w.heap.size + 1, 0, none⟩ 1 1 [.int .u8 171] rfl rfl ?d1 ?d2 ?d3 ?d4 ?_)
    case d1 => have := cell_one_new (w.alloc (.cells #[] 5)) (.int .u8 171) 5; simpa using this
    case d2 => intro u hu; simp at hu; subst hu; rfl
    case d3 => unfold maxLen; omega
    case d4 => omega
    intro v2 w2 hown2 hgrow2 hnil2 hb2
    have HO2 := hidden hown2
    have HG2 := hidden (And.intro hgrow2 hb2)
    clear hown2 hgrow2 hnil2 hb2
    go_wp2_with (at_builtin; refine wpList_append_at _ rfl (.tmp 7) (.tmp 8) 22 rfl 5 i0 (.int .u8 0) 1 1 Tryd.underlying22 hi hz0 hz1 hz2 rfl (by decide) _ _ _ rfl (HO2.out.alloc _) ⟨w2.heap.size, 0, none⟩ 1 1 [.int .u8 171] rfl rfl ?e1 ?e2 ?e3 ?e4 ?_)
    case e1 => exact cell_one_new _ _ _
    case e2 => intro u hu; simp at hu; subst hu; rfl
    case e3 => unfold maxLen; omega
    case e4 => omega
    intro v3 w3 hown3 hgrow3 hnil3 hb3
    have hfin := roomy_close (B := []) (w := w) (w1 := w.alloc (.cells #[] 5)) (v1 := .slice (some ⟨w.heap.size, 0, none⟩) 0 0) ((Step.refl _ _).alloc _) (fun k hk => by simp [Value.ownBlock] at hk; omega) HG2.out.1 (by simpa using HG2.out.2) (by simpa [u8s] using hown3) hgrow3 hb3
    obtain ⟨g, cap, hv3, HR, hg, hst⟩ := hfin
    have hcap : 2 ≤ cap := HR.room
    have hv3' : v3 = .slice (some ⟨g, 0, none⟩) 2 cap := hv3
    have HF := hidden (And.intro HR (And.intro hg hst))
    rw [hv3']
    clear hown3 hgrow3 hnil3 hb3 HR hg hst hv3 hv3'
    go_wp2
    go_ret
    exact ⟨g, cap, rfl, HF.out⟩
  | some a =>
    have hnews := hidden hrd.news
    have hm : B.length ≤ maxLen := by unfold maxLen; omega
    generalize hL : B.length = L at *
    have HL := hidden hL
    clear h1 h' hrd hv hL
    go_enter Tryd.func16, Tryd.ntmps16
    go_wp2_with (at_builtin; refine wpList_append_at _ rfl (.tmp 3) (.tmp 4) 22 rfl 5 i0 (.int .u8 0) 1 1 Tryd.underlying22 hi hz0 hz1 hz2 rfl (by decide) _ 0 [] rfl hown.out a L cv (u8s B) rfl ?c0 hnews.out (u8s_one _) ?c3 ?c4 ?_)
    case c0 => rw [u8s_length, HL.out]; omega
    case c3 => omega
    case c4 => omega
    intro v1 w1 hown1 hgrow1 hnil1 hb1
    have HO1 := hidden (show w1.ownsRow 0 5 1 v1 L (u8s B) by simpa using hown1)
    have HS1 := hidden (show Step (fun _ => False) w w1 from ((Step.refl _ _).alloc _).grown hgrow1 (fun k hk => .inr (by simp [Value.ownBlock] at hk; omega)))
    have HB1 := hidden (show ∀ k, v1.ownBlock = some k → w.heap.size ≤ k by
      intro k hk
      rcases hb1 with e | e
      · rw [e] at hk; simp [Value.ownBlock] at hk; omega
      · rw [e] at hk; have := Option.some.inj hk; omega)
    clear hown1 hgrow1 hnil1 hb1
    go_wp2_with (at_builtin; refine wpList_append_at _ rfl (.tmp 5) (.tmp 6) 22 rfl 5 i0 (.int .u8 0) 1 1 Tryd.underlying22 hi hz0 hz1 hz2 rfl (by decide) _ _ _ rfl (HO1.out.alloc _) ⟨w1.heap.size, 0, none⟩ 1 1 [.int .u8 171] rfl rfl ?d1 ?d2 ?d3 ?d4 ?_)
    case d1 => exact cell_one_new _ _ _
    case d2 => intro u hu; simp at hu; subst hu; rfl
    case d3 => unfold maxLen; omega
    case d4 => omega
    intro v2 w2 hown2 hgrow2 hnil2 hb2
    have HO2 := hidden hown2
    have HG2 := hidden (And.intro hgrow2 hb2)
    clear hown2 hgrow2 hnil2 hb2
    go_wp2_with (at_builtin; refine wpList_append_at _ rfl (.tmp 7) (.tmp 8) 22 rfl 5 i0 (.int .u8 0) 1 1 Tryd.underlying22 hi hz0 hz1 hz2 rfl (by decide) _ _ _ rfl (HO2.out.alloc _) ⟨w2.heap.size, 0, none⟩ 1 1 [.int .u8 171] rfl rfl ?e1 ?e2 ?e3 ?e4 ?_)
    case e1 => exact cell_one_new _ _ _
    case e2 => intro u hu; simp at hu; subst hu; rfl
    case e3 => unfold maxLen; omega
    case e4 => omega
    intro v3 w3 hown3 hgrow3 hnil3 hb3
    have hfin := roomy_close (B := B) HS1.out HB1.out HG2.out.1 HG2.out.2 (by rw [HL.out]; exact hown3) hgrow3 hb3
    obtain ⟨g, cap, hv3, HR, hg, hst⟩ := hfin
    have hcap := HR.room
    rw [HL.out] at hcap hv3
    have HF := hidden (And.intro HR (And.intro hg hst))
    rw [hv3]
    clear hown3 hgrow3 hnil3 hb3 HR hg hst hv3
    go_wp2
    go_ret
    exact ⟨g, cap, rfl, HF.out⟩

end Go.Proofs.YtinncakendfklaaDoor

namespace Go.Proofs.YtinncakendfklaaDoor
open Go.RowKit
set_option maxRecDepth 100000
set_option linter.unusedVariables false

/-- What an answer is. -/
def AnsQ (w' : World) (ao : Option Addr) (n c : Nat) (k y : Int) : Except Nat (Nat × List Nat) → Prop
  | .error z => ao = none ∧ n = 0 ∧ c = 0 ∧ k = 0 ∧ y = (z : Int)
  | .ok (u, Q) => k = (((u + 7) / 8 : Nat) : Int) ∧ y = 0 ∧ Rd w' (.slice ao n c) Q ∧ Q.length ≤ 137438953600

/-- What a stream tells, as an answer. -/
theorem bytesE_ans {w w' : World} {x : Except Nat (Nat × List Nat)} {e : Ending} (h : BytesE w x e w') : ∃ ao n c k y, e = .returned (.tuple #[.slice ao n c, .int .i64 k, .int .i64 y]) ∧
    Hid (Step (fun _ => False) w w' ∧ AnsQ w' ao n c k y x) := by
  obtain ⟨hs, h⟩ := h
  cases x with
  | error z =>
    obtain ⟨_, he⟩ := h
    exact ⟨none, 0, 0, 0, z, he, hidden ⟨hs, rfl, rfl, rfl, rfl, rfl⟩⟩
  | ok z =>
    obtain ⟨u, Q⟩ := z
    obtain ⟨v, he, hr, _, _, hq, hu⟩ := h
    obtain ⟨ao, c, rfl, _⟩ := id hr
    exact ⟨ao, _, c, _, 0, he, hidden ⟨hs, rfl, rfl, hr, by omega⟩⟩

set_option maxHeartbeats 4000000 in
theorem holds_any (ab : Option Addr) (cb : Nat) (B : List Nat) (most : Int) (w : World) (T : Tab w) (rb : Rd w (.slice ab B.length cb) B) (hB : ∀ y ∈ B, y < 256) (hcap : B.length ≤ cb) (hl : B.length ≤ 3000) (hm : most ≤ 65536) :
    Calls Tryd.prog 5 #[.slice ab B.length cb, .int .i64 most] w fun e w' => e = .returned (.bool true) ∧ Step (fun _ => False) w w' := by
  have HRO := hidden (roomy_any _ B w rb (by omega))
  have HRB := hidden rb
  have HT := hidden T
  obtain ⟨x, hx1, hx2⟩ : ∃ x : Except Nat (Nat × List Nat), (∀ (W : World) (v : Value), Tab W → (∃ ao n c, v = .slice ao n c) → Rd W v B → Calls Tryd.prog 13 #[v, .int .i64 most] W (BytesE W x)) ∧
      (∀ (W : World), Rd W (.slice ab B.length cb) B → Calls Tryd.prog 17 #[.slice ab B.length cb, .int .i64 most] W (BytesE W x)) := by
    by_cases h0 : most < 0
    · refine ⟨.error 1, fun W v _ hv _ => ?_, fun W _ => pbytes_neg _ most W h0 ab _ cb rfl⟩
      obtain ⟨ao, n, c, hv⟩ := hv
      exact bytes_neg v most W h0 ao n c hv
    · have hbn := bytesOf_numOf B hB
      obtain ⟨x, hx⟩ := BlksF.exists (M := numOf B) (m := B.length) (most := most) (8 * B.length + 1) 0 [] (by omega)
      refine ⟨x, fun W v hT _ hv => ?_, fun W hv => ?_⟩
      · exact bytes_full v (numOf B) B.length most _ x W hT (by rw [hbn]; exact hv) (by omega) (by omega) (by omega) hx
      · exact pbytes_any _ (numOf B) B.length most _ x W (by rw [hbn]; exact hv) (fun ao n c e => by injection e with e1 e2 e3; omega) (by omega) (by omega) (by omega) hx
  have HX1 := hidden hx1
  have HX2 := hidden hx2
  have HST := hidden (fun (g cap : Nat) (W : World) (h : Roomy W g cap B) (hb : Rd W (.slice ab B.length cb) B) => stands_any g cap (.slice ab B.length cb) B W h hb (by omega))
  obtain ⟨L, hL⟩ : ∃ L, L = B.length := ⟨_, rfl⟩
  rw [← hL] at HRO HRB HX2 HST hl hcap ⊢
  have HL := hidden hL
  clear hx1 hx2 rb T hB hL
  go_enter Tryd.func5, Tryd.ntmps5
  go_wp2_with fail
  refine HRO.out.mono ?_
  rintro e w1 ⟨g, cap, rfl, R1, hg, S1⟩
  have HR1 := hidden R1
  have HS1 := hidden S1
  have hroom : L + 2 ≤ cap := by rw [HL.out]; exact R1.room
  have HRD := hidden (show Rd w1 (.slice (some ⟨g, 0, none⟩) L cap) B by rw [HL.out]; exact R1.rd)
  clear R1 S1
  go_wp2_with fail
  refine (HX1.out _ _ (HT.out.step HS1.out (fun h => h)) ⟨_, _, _, rfl⟩ HRD.out).mono ?_
  rintro e w2 hb2
  obtain ⟨xo, xn, xc, xk, xy, rfl, A2⟩ := bytesE_ans hb2
  clear hb2
  have S2 := hidden (show Step (fun _ => False) w w2 from HS1.out.made A2.out.1)
  go_wp2_with fail
  refine (HX2.out _ (HRB.out.step S2.out (fun _ _ _ _ _ h => h))).mono ?_
  rintro e w3 hb3
  obtain ⟨yo, yn, yc, yk, yy, rfl, A3⟩ := bytesE_ans hb3
  clear hb3
  have S3 := hidden (show Step (fun _ => False) w w3 from S2.out.made A3.out.1)
  have HBT : Hid (xk = yk ∧ xy = yy ∧ ∃ Q, Rd w3 (.slice xo xn xc) Q ∧ Rd w3 (.slice yo yn yc) Q ∧ Q.length ≤ 137438953600) := hidden (by
    have a2 := A2.out.2
    have a3 := A3.out.2
    cases x with
    | error z =>
      obtain ⟨p1, p2, p3, p4, p5⟩ := a2
      obtain ⟨q1, q2, q3, q4, q5⟩ := a3
      subst p1; subst p2; subst p3; subst p4; subst q1; subst q2; subst q3; subst q4
      exact ⟨rfl, by rw [p5, q5], [], rd_none _, rd_none _, by simp⟩
    | ok z =>
      obtain ⟨u, Q⟩ := z
      obtain ⟨p1, p2, p3, p4⟩ := a2
      obtain ⟨q1, q2, q3, q4⟩ := a3
      exact ⟨by rw [p1, q1], by rw [p2, q2], Q, p3.step A3.out.1 (fun _ _ _ _ _ h => h), q3, p4⟩)
  obtain ⟨ek, ey, Q, rx, ry, hQ⟩ := HBT.out
  subst ek
  subst ey
  have HSA := hidden (show Calls Tryd.prog 15 #[.slice xo xn xc, .slice yo yn yc] w3 fun e w' => e = .returned (.bool true) ∧ Hid (Step (fun _ => False) w3 w') from
    (same_any _ _ Q Q w3 rx ry hQ).mono fun e w' ⟨he, n, hn⟩ => ⟨by rw [he, decide_eq_true rfl], by subst hn; exact hidden ((Step.refl _ w3).drewN n)⟩)
  have HRO3 := hidden (show Roomy w3 g cap B from (HR1.out.step A2.out.1 (fun h => h)).step A3.out.1 (fun h => h))
  have bk : (xk == xk) = true := by simp
  have by_ : (xy == xy) = true := by simp
  clear HBT rx ry hQ A2 A3
  go_wp2_with fail
  refine HSA.out.mono ?_
  rintro e w4 ⟨rfl, S4⟩
  go_wp2_with fail
  refine (HST.out g cap w4 (HRO3.out.step S4.out (fun h => h)) (HRB.out.step (S3.out.made S4.out) (fun _ _ _ _ _ h => h))).mono ?_
  rintro e w5 ⟨rfl, q5, rfl⟩
  go_wp2
  go_ret
  exact ⟨rfl, (S3.out.made S4.out).drewN q5⟩

set_option maxHeartbeats 1000000 in
theorem inReads_any (ab : Option Addr) (cb : Nat) (B : List Nat) (most : Int) (w : World) (T : Tab w) (rb : Rd w (.slice ab B.length cb) B) (hB : ∀ y ∈ B, y < 256) (hcap : B.length ≤ cb) (hl : B.length ≤ 140737488351232) :
    Calls Tryd.prog 3 #[.slice ab B.length cb, .int .i64 most] w fun e w' => e = .returned (.bool true) ∧ Step (fun _ => False) w w' := by
  by_cases h1 : B.length ≤ 3000
  · by_cases h2 : most ≤ 65536
    · have HH := hidden (holds_any ab cb B most w T rb hB hcap h1 h2)
      generalize B.length = L at *
      clear rb
      go_enter Tryd.func3, Tryd.ntmps3
      go_wp2_with fail
      refine HH.out.mono ?_
      rintro e w1 ⟨rfl, hs1⟩
      have S1 := hidden hs1
      clear hs1
      go_wp2_with fail
      refine (known_any _).mono ?_
      rintro e w2 ⟨rfl, hs2⟩
      have S2 := hidden (S1.out.made hs2)
      clear hs2
      go_wp2
      go_ret
      exact ⟨rfl, S2.out⟩
    · have h2' : 65536 < most := by omega
      generalize B.length = L at *
      clear rb
      go_enter Tryd.func3, Tryd.ntmps3
      go_wp2
      go_ret
      exact ⟨rfl, Step.refl _ _⟩
  · have h1' : (3000 : Int) < (B.length : Int) := by omega
    generalize B.length = L at *
    clear rb
    go_enter Tryd.func3, Tryd.ntmps3
    go_wp2
    go_ret
    exact ⟨rfl, Step.refl _ _⟩

end Go.Proofs.YtinncakendfklaaDoor

namespace Go.Proofs.YtinncakendfklaaDoor
open Go.RowKit Go.ChangeShapes Go.WideShapes Go.ChangeAt

theorem row_of {H : Type} {enc : TypeId × Value → H} {W : World} {fuel : Nat} {v : Value} {d : DataW H} {p : List MemPlace} (h : DataW.trod enc Tryd.prog W 0 (fun _ => true) true fuel 22 [v] = some (d, p))
    (hs : ∀ n ∈ d.weights Tryd.prog 22, n ≤ reachBytes) :
    ∃ (a : Option Addr) (cap : Nat) (B : List Nat), v = .slice a B.length cap ∧ Rd W v B ∧ (∀ z ∈ B, z < 256) ∧ B.length ≤ cap ∧ B.length ≤ 140737488351232 := by
  rcases open_ints Tryd.underlying22 Tryd.underlying5 (by kernel_rfl) h with ⟨hcs, _⟩ | ⟨x, l, c, zs, hcs, _, hl, hm, hz, hx, hcell, hwz⟩
  · simp at hcs
    subst hcs
    exact ⟨none, 0, [], rfl, rd_none W, by simp, by simp, by simp⟩
  · simp at hcs
    subst hcs
    simp only [if_true] at hz
    obtain ⟨B, h1, h2, h3, _⟩ := rd_of_ints hl hz hcell hwz
    simp only [Prod.mk.injEq] at hx
    have hb : Tryd.prog.bytesOf 5 = 1 := by kernel_rfl
    have hw := hs zs.length (by
      rw [hx.1]
      simp only [DataW.weights, Tryd.underlying22, hb, Nat.mul_one, lits, List.length_map, List.length_take, List.length_drop]
      rw [show min l zs.length + (zs.length - l) = zs.length by omega]
      exact List.mem_cons_self)
    refine ⟨some x, c, B, by rw [h1], by rw [← h1]; exact h2, h3, by omega, ?_⟩
    have : reachBytes = 140737488351232 := rfl
    omega

end Go.Proofs.YtinncakendfklaaDoor

namespace Go.Proofs.YtinncakendfklaaDoor
open Go.ChangeShapes Go.WideShapes Go.ChangeAt Go.RowKit

def doorLaid : List (String × DataW Unit) := [("rubricator/inflate.lengthsOrder", Rows.laid_rubricator_inflate_lengthsOrder)]

theorem own : ownKnob Tryd.prog.godebug = none := by kernel_rfl
theorem laidOut : laidOutB Tryd.prog = true := by kernel_rfl

theorem door_met (os : Os) (args : Array Value) : laidMetH Tryd.prog doorLaid ((World.doorLaid Tryd.prog 14 os).forCall (fun _ _ => 0) ⟨#[], args, []⟩).memory :=
  laidMetH_of_parts3 (fuel := 8) (laidMet_of_run' 8 (by kernel_rfl) (by kernel_rfl)) (by kernel_rfl) (by kernel_rfl)

end Go.Proofs.YtinncakendfklaaDoor

namespace Go.Proofs.YtinncakendfklaaDoor
open Go.ChangeShapes Go.WideShapes Go.ChangeAt Go.RowKit

theorem gOrder : Tryd.prog.globalNamed "rubricator/inflate.lengthsOrder" = some 0 := by kernel_rfl
theorem tOrder : (Tryd.prog.globals[0]?).map (·.type) = some 106 := by kernel_rfl
theorem cOrder : Tryd.prog.cellsOf 106 = 19 := by kernel_rfl
theorem cInt : Tryd.prog.cellsOf 3 = 1 := by kernel_rfl

theorem of_laid {W : World} (h : laidMetH Tryd.prog doorLaid W) : Tab W := by
  rw [MakeChecks.laidMetH_plain _ _ _ (by kernel_rfl)] at h
  have hT := Lib.tabIs_of_head (k := .i64) (zs := ordL.map fun (x : Nat) => (x : Int)) gOrder tOrder Tryd.underlying106 Tryd.underlying3 cInt cOrder h
  intro k hk
  have hl : ordL.length = 19 := rfl
  have := hT.cell gOrder k (by simpa [hl] using hk)
  rw [this]
  unfold ord
  simp [List.getD, hl, hk]

end Go.Proofs.YtinncakendfklaaDoor

namespace Go.Proofs.YtinncakendfklaaDoor.inflateReads
open Go.ChangeShapes Go.WideShapes Go.ChangeAt Go.RowKit
open Go.ChangeMaps (open_string shut_string)
set_option linter.unusedVariables false

theorem walk (w : World) (T : Tab w) (a0 : Option Addr) (c0 : Nat) (B0 : List Nat) (r0 : Rd w (.slice a0 B0.length c0) B0) (b0 : ∀ y ∈ B0, y < 256) (l0 : B0.length ≤ c0) (m0 : B0.length ≤ 140737488351232) (a1 : Int) (w1 : (Lit.int .i64 a1).wf = true) :
    Calls Tryd.prog 3 #[.slice a0 B0.length c0, .int .i64 a1] w fun e w' => e = .returned (.bool true) ∧ Step (fun _ => False) w w' := by
  exact inReads_any a0 c0 B0 a1 w T r0 b0 l0 m0

set_option maxRecDepth 100000 in
theorem lifted (os : Os) (started : os.Started) (H : Type) (enc : TypeId × Value → H) :
    ReturnsInHanded {} Tryd.checked os 3 .any (fun w args => (Rows.inflateReadsSpec.pre enc Tryd.prog Tryd.f3 [] false w args ∧ laidMetH Tryd.prog doorLaid w) ∧ sizedMet enc Tryd.prog Tryd.f3 (OpenSpec.ofChange Rows.inflateReadsSpec) false w args)
      (Rows.inflateReadsSpec.post enc Tryd.prog Tryd.f3 false true false false) := by
  refine returnsInHanded_of_change_and (C := Tryd.checked) (X := fun w _ => laidMetH Tryd.prog doorLaid w) (fun _ _ _ hh h => h.of_heap hh) own started (by kernel_rfl) Tryd.func3
    (ChangeSpec.witness_shaped (enc := enc) (C := Tryd.checked) (os := os) (X := fun w _ => laidMetH Tryd.prog doorLaid w) false (World.doorLaid Tryd.prog 14 os) #[.slice none 0 0, .int .i64 0] 8 rfl (World.shaped_of_RefB (by kernel_rfl) (by kernel_rfl)) (by kernel_rfl) (by kernel_rfl) (by kernel_rfl) (door_met os _)) ?_
  intro W base args ds gs before hval0 hW _ hsz hL _
  have hval : ∀ (j : Nat) t v, Tryd.f3.params[j]? = some t → args[j]? = some v → Value.okWide Tryd.prog W .any base t v := hval0
  have hW' := hW
  obtain ⟨p, q, hA0, hV, rfl, hfz, hnd⟩ := hW
  have hA : DataW.TrodAll enc Tryd.prog W 0 (fun _ => true) true Tryd.f3.params.toList args.toList ds p := hA0
  rw [Tryd.params3] at hA hval hsz
  obtain ⟨v0, vs0, d0, ds0, p0, q0, hargs, rfl, rfl, h0, t0⟩ := trodAll_cons hA
  obtain ⟨v1, vs1, d1, ds1, p1, q1, rfl, rfl, rfl, h1, t1⟩ := trodAll_cons t0
  obtain ⟨rfl, rfl, rfl⟩ := trodAll_nil t1
  obtain rfl : args = #[v0, v1] := by cases args; simp_all
  obtain ⟨rfl, rfl⟩ := trodVars_none hV
  obtain ⟨a0, len0, cap0, rfl⟩ := okWide_slice Tryd.underlying22 (hval 0 22 v0 rfl rfl)
  have k0 := h0
  have lt0 : ∀ x ∈ p0, x.block < W.heap.size := by obtain ⟨m, hm⟩ := k0; exact DataW.trod_lt m _ _ _ hm
  have sz0 : ∀ n ∈ d0.weights Tryd.prog 22, n ≤ reachBytes := fun n hn => by simpa using List.all_eq_true.1 hsz n (DataW.weights_mem_each (j := 0) rfl rfl n hn)
  obtain ⟨B0, e0, r0, b0, l0, m0⟩ : ∃ B : List Nat, B.length = len0 ∧ Rd W (.slice a0 B.length cap0) B ∧ (∀ y ∈ B, y < 256) ∧ B.length ≤ cap0 ∧ B.length ≤ 140737488351232 := by
    obtain ⟨fuel, hf⟩ := h0
    obtain ⟨a, c, B, e, h1, h2, h3, h4⟩ := row_of (by simpa [Value.cells] using hf) sz0
    injection e with e1 e2 e3
    subst e1; subst e3
    refine ⟨B, e2.symm, ?_, h2, h3, h4⟩
    rw [← e2]; exact h1
  subst e0
  obtain ⟨a1, rfl, rfl, rfl, w1⟩ := open_int Tryd.underlying3 (hval 1 3 v1 rfl rfl) h1
  clear hA0 hval0
  refine (walk W (of_laid hL) a0 cap0 B0 r0 b0 l0 m0 a1 w1).mono fun e W' ⟨he, hst⟩ => ?_
  have bel : Below W.heap.size W W' := hst.below _ (Nat.le_refl _) (fun _ h => h.elim)
  subst he
  exact ⟨_, rfl, _, _, _, [], _, [], hW', trodAll_mk1 (shut_bool Tryd.underlying4 _), (trodAll_cons_mk (Below.trod laidOut (by kernel_rfl) (of_decide_eq_true (by kernel_rfl)) k0 bel lt0) (trodAll_cons_mk (shut_int Tryd.underlying3 w1) trodAll_mk0)), rfl, bel.frame _, fun h => by cases h⟩

theorem over : Rows.inflateReadsRow.holds Tryd.pinned (OpenSpec.ofChange Rows.inflateReadsSpec) :=
  OpenClaim.holds_of_wide 3 Tryd.f3 rfl rfl rfl rfl rfl rfl rfl ⟨rfl, rfl, rfl, rfl, rfl⟩ rfl rfl rfl rfl rfl (by kernel_rfl) Tryd.func3 (by kernel_rfl)
    (of_decide_eq_true (by kernel_rfl)) (by unfold Func.isWrapper; first | (rw [if_pos (by decide +kernel)]; kernel_rfl) | (rw [if_neg (by decide +kernel)]; exact ⟨rfl, rfl⟩))
    (fun os started H enc _ => lifted os started H enc)

theorem proved : Rows.InflateReadsCardSaid :=
  Claim7.holds_tied_plain_at .later [] [.data] true Rows.inflateReadsCard.stood.harness false
    over (fun _ h => by cases h) (by kernel_rfl) (fun _ h => by cases h) inflateReads_row_tie rfl ⟨rfl, rfl⟩ (by kernel_rfl) rfl
    (fun f fn hf hfn => by
      obtain rfl : f = 3 := Option.some.inj ((show Tryd.prog.funcNamed "rubricator/rubricatorlaw4.InflateReads" = some 3 by kernel_rfl).symm.trans hf) |>.symm
      obtain rfl : fn = Tryd.f3 := (Option.some.inj (Tryd.func3.symm.trans hfn)).symm
      exact ⟨by kernel_rfl, fun j t ht => by
        rw [Tryd.params3] at ht
        have hm : t ∈ [22, 3] := by simpa using Array.mem_of_getElem? ht
        have hall : ([22, 3].all fun u => !Tryd.prog.wantsStandIn u) = true := by kernel_rfl
        exact (show Tryd.prog.wantsStandIn t = false by simpa using List.all_eq_true.1 hall t hm)⟩)
    (by kernel_rfl)
#print axioms proved
end Go.Proofs.YtinncakendfklaaDoor.inflateReads
