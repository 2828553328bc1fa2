/-
  The page's own stream: a block.
-/
import Derived.Test.YtcgjmkcigmmjjaaGreatDoorBkK
import Derived.BigRegion
import Derived.Deep.LoopGhost

namespace Go.Proofs.YtcgjmkcigmmjjaaGreatDoor
open Go.RowKit
set_option maxRecDepth 100000
set_option linter.unusedVariables false
theorem Rd.at {w : World} {ao : Option Addr} {n cap : Nat} {B : List Nat} (h : Rd w (.slice ao n cap) B) {k : Nat} (hk : k < B.length) : ∃ g off, ao = some ⟨g, off, none⟩ ∧ w.cell? ⟨g, off + k, none⟩ = some (.int .u8 (B.getD k 0)) := by
  obtain ⟨ao', cap', e, h1, h2⟩ := h
  injection e with e1 e2 e3
  subst e1
  cases ao with
  | none => have := (h1 rfl).1; subst this; simp at hk
  | some a =>
    obtain ⟨b, off, rfl, hc⟩ := h2 a rfl (by intro e; subst e; simp at hk)
    exact ⟨b, off, rfl, hc k hk⟩

theorem PS.row {w : World} {Z : Nat → Prop} {p b : Nat} {r : Value} {M m t : Nat} {O : List Nat} {most : Int} {e : Nat} (h : PS w Z p b r M m t O most e) {k : Nat} (hk : k < O.length) : ∃ g off c, w.cell? ⟨p, 1, none⟩ = some (.slice (some ⟨g, off, none⟩) O.length c) ∧ w.cell? ⟨g, off + k, none⟩ = some (.int .u8 (O.getD k 0)) ∧ O.getD k 0 < 256 := by
  obtain ⟨v, hx, _⟩ := h
  obtain ⟨ao, c, rfl⟩ := own_slice hx.ow
  obtain ⟨g, off, rfl, hc⟩ := (Rd.of_own hx.ow).at hk
  refine ⟨g, off, c, hx.co, hc, hx.by_ _ ?_⟩
  rw [List.getD_eq_getElem?_getD, List.getElem?_eq_getElem hk]
  exact List.getElem_mem hk

theorem disP_sym {D : List Int} {M m t y u : Nat} (h : symV D M m t = .ok (y, u)) (h2 : ¬ 30 ≤ y) : disP D M m t = (if y < 4 then .ok (y + 1, u) else numP M m u ((2 + y % 2) * 2 ^ (y / 2 - 1) + 1) (y / 2 - 1)) := by
  unfold disP
  rw [h]
  simp only
  rw [if_neg h2]

set_option maxHeartbeats 8000000 in
theorem psymbols_any (Z : Nat → Prop) (p b : Nat) (r : Value) (M m t : Nat) (O : List Nat) (most : Int) (d1 : Nat) (L : List Int) (c1 l1 : Value) (d2 : Nat) (D : List Int) (c2 l2 : Value) (w : World) (h : PD w Z p b r M m t O most d1 L c1 l1 d2 D c2 l2) (hb : PBs Z r d1 L c1 l1 d2 D c2 l2)
    (hZ : ∀ k, w.heap.size ≤ k → Z k) (hm : m ≤ 1000000) (hL : newErr L = 0) (hD : newErr D = 0) (hO : O.length ≤ 258 * t) (h0 : 0 ≤ most) (h1 : most ≤ 9223372036854775807) :
    Calls Tryz.prog 47 #[.pointer (some ⟨p, 0, none⟩), .pointer (some ⟨d1, 0, none⟩), .pointer (some ⟨d2, 0, none⟩)] w fun e w' => e = .returned (.tuple #[]) ∧ Hid (PSymsE w Z p b r M m most d1 d2 (symsV L D M m most t O) w') := by
  have HL := hidden hL
  have HD := hidden hD
  have HZ := hidden hZ
  have HB := hidden hb
  have H0 := hidden (And.intro h hO)
  have hle : t ≤ 8 * m := by obtain ⟨v, hx, _⟩ := h.1; exact hx.rx.le
  have hLl := (newErr_ok hL).1
  clear h hb hO hL hD hZ
  go_enter Tryz.func47, Tryz.ntmps47
  go_wp2
  go_loopg [6, 7, 8, 9, 10] (8 * m + 1 - t) (fun k _ _ _ _ _ wr => ∃ e : Nat, Hid (PRo w Z p b r M m t O most d1 L c1 l1 d2 D c2 l2 k e wr))
  case atStart => exact ⟨0, hidden ⟨Step.refl _ _, .inl ⟨rfl, t, O, rfl, hle, fun _ h => h, H0.out.1, H0.out.2⟩⟩⟩
  case round =>
    obtain ⟨e, HH⟩ := hrel
    have c3 := HH.out.cell
    by_cases he : e = 0
    · subst he
      obtain ⟨hst, ⟨_, u, Q, hk, hu, hsy, hpd, hQ⟩ | ⟨h0', _⟩⟩ := HH.out
      · have HK := hidden hk
        have HST := hidden hst
        have HSY := hidden hsy
        have HPD := hidden hpd
        have HQL := hidden hQ
        have HZ1 := hidden (fun k (hk : wr.heap.size ≤ k) => HZ.out k (by have := hst.size; omega))
        have hS := hidden (hpd.sym1 HB.out hm HL.out)
        have hQ2 : Q.length ≤ 10000000000 := by omega
        have b0 : ((0 : Int) == 0) = true := rfl
        clear HH hk hst hsy hpd hQ
        cases hq : symV L M m u with
        | error y =>
          rw [hq] at hS
          have HQ := hidden hq
          clear hq
          go_wp2_with fail
          refine hS.out.mono ?_
          rintro e w1 ⟨S1, rfl, R1⟩
          go_wp2
          refine bodyPost_ret (results_none rfl _ _ _) rfl ?_
          refine ⟨rfl, hidden ?_⟩
          have hs := (HSY.out _ (Syms.bad HQ.out)).val
          rw [hs]
          obtain ⟨t', ht'⟩ := R1.out.2
          exact ⟨Zd.trans HST.out S1.out, R1.out.1, t', Q, ht'⟩
        | ok z =>
          obtain ⟨i, u2⟩ := z
          rw [hq] at hS
          have hok := (symV_spec HL.out M m u).fine
          rw [hq] at hok
          obtain ⟨hi, hu3, hu4⟩ := hok
          have HQ := hidden hq
          clear hq
          by_cases g1 : i = 256
          · subst g1
            have b1 : ((256 : Int) == 256) = true := rfl
            go_wp2_with fail
            refine hS.out.mono ?_
            rintro e w1 ⟨S1, rfl, ⟨cc, _⟩, R1⟩
            go_wp2
            refine bodyPost_ret (results_none rfl _ _ _) rfl ?_
            refine ⟨rfl, hidden ?_⟩
            have hs := (HSY.out _ (Syms.stop HQ.out)).val
            rw [hs]
            exact ⟨Zd.trans HST.out S1.out, R1.out.1, by have := HQL.out; omega⟩
          · have hne : ((i : Int) == 256) = false := by rw [beq_eq_false_iff_ne]; omega
            have hi0 : ¬ (i : Int) < 0 := by omega
            by_cases g2 : i < 256
            · have hwr : IntKind.u8.wrap (i : Int) = (i : Int) := by simp [IntKind.wrap, IntKind.bits, IntKind.signed]; omega
              have g2' : (i : Int) < 256 := by omega
              have hLT : Hid (∀ w1, PS w1 Z p b r M m u2 Q most 0 → Step (Zd Z d1 d2) wr w1 → Calls Tryz.prog 76 #[.pointer (some ⟨p, 0, none⟩), .int .u8 i] w1 fun e w' => e = .returned (.tuple #[]) ∧ Hid (LayQ w1 w' Z p b r M m u2 Q most i)) :=
                hidden (fun w1 S1 hs => lay_p Z p b r M m u2 Q most i w1 S1 (fun k hk => HZ1.out k (by have := hs.size; omega)) g2 hQ2 h0 h1)
              go_wp2_with fail
              refine hS.out.mono ?_
              rintro e w1 ⟨S1, rfl, ⟨cc, _⟩, R1⟩
              go_wp2_with fail
              refine (hLT.out _ R1.out.1 S1.out).mono ?_
              rintro e w2 ⟨rfl, R2⟩
              go_wp2
              go_roundg (8 * m + 1 - u2)
              case measure => have := HK.out; omega
              case rel =>
                have hr2 := R2.out
                unfold LayQ at hr2
                by_cases g3 : 1 ≤ most - (Q.length : Int)
                · rw [if_pos g3] at hr2
                  refine ⟨0, hidden ⟨Zd.on (Zd.trans HST.out S1.out) hr2.2, .inl ⟨rfl, u2, Q ++ [i], rfl, hu4, fun r hr => HSY.out r (Syms.lit HQ.out g2 g3 hr), R1.out.on HB.out hr2, by have := HQL.out; simp; omega⟩⟩⟩
                · rw [if_neg g3] at hr2
                  exact ⟨5, hidden ⟨Zd.on (Zd.trans HST.out S1.out) hr2.2, .inr ⟨by omega, HSY.out _ (Syms.full HQ.out g2 g3), u2, Q, hr2.1⟩⟩⟩
            · by_cases g4 : 286 ≤ i
              · have g4' : 285 < (i : Int) := by omega
                have g2' : ¬ (i : Int) < 256 := by omega
                go_wp2_with fail
                refine hS.out.mono ?_
                rintro e w1 ⟨S1, rfl, ⟨cc, cf⟩, R1⟩
                go_wp2
                refine bodyPost_ret (results_none rfl _ _ _) rfl ?_
                refine ⟨rfl, hidden ?_⟩
                have hmt : matchP D M m most i u2 Q = .error 3 := by unfold matchP lenP; rw [if_pos g4]
                have hs := (HSY.out _ (Syms.none HQ.out (by omega) hmt)).val
                rw [hs]
                have he := R1.out.1.err 3
                exact ⟨Zd.on (Zd.trans HST.out S1.out) he.2, by omega, u2, Q, he.1⟩
              · have g4' : ¬ 285 < (i : Int) := by omega
                have g2' : ¬ (i : Int) < 256 := by omega
                have hLG : Hid (∀ w1, PS w1 Z p b r M m u2 Q most 0 → Calls Tryz.prog 77 #[.pointer (some ⟨p, 0, none⟩), .int .i64 i] w1 fun e w' => PNumE w1 Z p b r M m Q most (lenP M m i u2) e w') :=
                  hidden (fun w1 S1 => plong_any Z p b r M m u2 Q most i w1 S1 hm (by omega) (by omega))
                cases hl : lenP M m i u2 with
                | error y =>
                  rw [hl] at hLG
                  have hmt : Hid (matchP D M m most i u2 Q = .error y) := hidden (by unfold matchP; rw [hl])
                  clear hl
                  go_wp2_with fail
                  refine hS.out.mono ?_
                  rintro e w1 ⟨S1, rfl, ⟨cc, _⟩, R1⟩
                  go_wp2_with fail
                  refine (hLG.out _ R1.out.1).mono ?_
                  rintro e w2 ⟨z, rfl, R2⟩
                  obtain ⟨hy0, t', hpn⟩ := R2.out
                  have hPE := hidden (psymbol_err Z p b r M m t' Q most y (.pointer (some ⟨d2, 0, none⟩)) w2 hpn.1 hy0)
                  have ce := hpn.1.cells.2.2.1
                  have by0 : ((y : Int) != 0) = true := by rw [bne_iff_ne]; omega
                  have HPN := hidden hpn
                  clear hpn
                  go_wp2_with fail
                  refine hPE.out.mono ?_
                  rintro e w3 ⟨rfl, rfl⟩
                  go_wp2
                  refine bodyPost_ret (results_none rfl _ _ _) rfl ?_
                  refine ⟨rfl, hidden ?_⟩
                  have hs := (HSY.out _ (Syms.none HQ.out (by omega) hmt.out)).val
                  rw [hs]
                  exact ⟨Zd.on (Zd.trans HST.out S1.out) HPN.out.2, hy0, t', Q, HPN.out.1⟩
                | ok z =>
                  obtain ⟨n, u3⟩ := z
                  rw [hl] at hLG
                  have HLN := hidden hl
                  have hln := lenP_len (by omega) hu4 hl
                  have hS2 : Hid (∀ w1, PD w1 Z p b r M m u3 Q most d1 L c1 l1 d2 D c2 l2 → _) := hidden (fun w1 S1 => S1.sym2 HB.out hm HD.out)
                  clear hl
                  cases hq2 : symV D M m u3 with
                  | error y =>
                    rw [hq2] at hS2
                    have hmt : Hid (matchP D M m most i u2 Q = .error y) := hidden (by unfold matchP; rw [HLN.out]; simp only; unfold disP; rw [hq2])
                    clear hq2
                    go_wp2_with fail
                    refine hS.out.mono ?_
                    rintro e w1 ⟨S1, rfl, ⟨cc, _⟩, R1⟩
                    go_wp2_with fail
                    refine (hLG.out _ R1.out.1).mono ?_
                    rintro e w2 ⟨rfl, R2⟩
                    have HP2 := hidden (R1.out.on HB.out R2.out)
                    go_wp2_with fail
                    refine (hS2.out _ HP2.out).mono ?_
                    rintro e w3 ⟨S3, rfl, R3⟩
                    obtain ⟨hy0, t', hps⟩ := R3.out
                    have ce := hps.cells.2.2.1
                    have by0 : ((y : Int) != 0) = true := by rw [bne_iff_ne]; omega
                    have HPS := hidden hps
                    clear hps
                    go_wp2
                    refine bodyPost_ret (results_none rfl _ _ _) rfl ?_
                    refine ⟨rfl, hidden ?_⟩
                    have hs := (HSY.out _ (Syms.none HQ.out (by omega) hmt.out)).val
                    rw [hs]
                    exact ⟨Zd.trans (Zd.on (Zd.trans HST.out S1.out) R2.out.2) S3.out, hy0, t', Q, HPS.out⟩
                  | ok z =>
                    obtain ⟨y, u4⟩ := z
                    rw [hq2] at hS2
                    have hok2 := (symV_spec HD.out M m u3).fine
                    rw [hq2] at hok2
                    obtain ⟨_, hu5, hu6⟩ := hok2
                    have HQ2 := hidden hq2
                    clear hq2
                    by_cases g5 : 30 ≤ y
                    · have g5' : 29 < (y : Int) := by omega
                      have hmt : Hid (matchP D M m most i u2 Q = .error 3) := hidden (by unfold matchP; rw [HLN.out]; simp only; unfold disP; rw [HQ2.out]; simp only; rw [if_pos g5])
                      go_wp2_with fail
                      refine hS.out.mono ?_
                      rintro e w1 ⟨S1, rfl, ⟨cc, _⟩, R1⟩
                      go_wp2_with fail
                      refine (hLG.out _ R1.out.1).mono ?_
                      rintro e w2 ⟨rfl, R2⟩
                      have HP2 := hidden (R1.out.on HB.out R2.out)
                      go_wp2_with fail
                      refine (hS2.out _ HP2.out).mono ?_
                      rintro e w3 ⟨S3, rfl, ⟨ce, cf⟩, R3⟩
                      go_wp2
                      refine bodyPost_ret (results_none rfl _ _ _) rfl ?_
                      refine ⟨rfl, hidden ?_⟩
                      have hs := (HSY.out _ (Syms.none HQ.out (by omega) hmt.out)).val
                      rw [hs]
                      have he := R3.out.1.err 3
                      exact ⟨Zd.on (Zd.trans (Zd.on (Zd.trans HST.out S1.out) R2.out.2) S3.out) he.2, by omega, u4, Q, he.1⟩
                    · have g5' : ¬ 29 < (y : Int) := by omega
                      have HDP := hidden (disP_sym HQ2.out g5)
                      have hFR : Hid (∀ w1, PS w1 Z p b r M m u4 Q most 0 → Calls Tryz.prog 78 #[.pointer (some ⟨p, 0, none⟩), .int .i64 y] w1 fun e w' => PNumE w1 Z p b r M m Q most (disP D M m u3) e w') :=
                        hidden (fun w1 S1 => by rw [HDP.out]; exact pfar_any Z p b r M m u4 Q most y w1 S1 hm (by omega))
                      have hdok := disP_ok D M m u3 ((symV_spec HD.out M m u3).fine)
                      have n1 : (0 : Int) < (n : Int) := by have := lenP_ok M m i u2 (by omega) hu4; rw [HLN.out] at this; have := this.1; omega
                      cases hdd : disP D M m u3 with
                      | error x =>
                        rw [hdd] at hFR
                        have hmt : Hid (matchP D M m most i u2 Q = .error x) := hidden (by unfold matchP; rw [HLN.out]; simp only; rw [hdd])
                        clear hdd
                        go_wp2_with fail
                        refine hS.out.mono ?_
                        rintro e w1 ⟨S1, rfl, ⟨cc, _⟩, R1⟩
                        go_wp2_with fail
                        refine (hLG.out _ R1.out.1).mono ?_
                        rintro e w2 ⟨rfl, R2⟩
                        have HP2 := hidden (R1.out.on HB.out R2.out)
                        go_wp2_with fail
                        refine (hS2.out _ HP2.out).mono ?_
                        rintro e w3 ⟨S3, rfl, ⟨ce, cf⟩, R3⟩
                        have b00 : ((0 : Int) != 0) = false := rfl
                        go_wp2_with fail
                        refine (hFR.out _ R3.out.1).mono ?_
                        rintro e w4 ⟨z, rfl, R4⟩
                        obtain ⟨hy0, t', hpn⟩ := R4.out
                        have ce4 := hpn.1.cells.2.2.1
                        have bx0 : ((x : Int) == 0) = false := by rw [beq_eq_false_iff_ne]; omega
                        have HPN := hidden hpn
                        clear hpn
                        go_wp2
                        go_loopw [10] (fun iv W => iv = .int .i64 0 ∧ W = w4) (fun _ _ => 0)
                        case atStart => exact ⟨rfl, rfl⟩
                        case round =>
                          obtain ⟨rfl, rfl⟩ := hrel
                          go_wp2
                          go_roundg 0
                          case measure => have := HK.out; omega
                          case rel => exact ⟨x, hidden ⟨Zd.on (Zd.trans (Zd.on (Zd.trans HST.out S1.out) R2.out.2) S3.out) HPN.out.2, .inr ⟨hy0, HSY.out _ (Syms.none HQ.out (by omega) hmt.out), t', Q, HPN.out.1⟩⟩⟩
                      | ok z =>
                        obtain ⟨dd, u5⟩ := z
                        rw [hdd] at hFR hdok
                        obtain ⟨hd1, hd2, hd3, hd4⟩ := hdok
                        have HDD := hidden hdd
                        clear hdd
                        by_cases g6 : Q.length < dd
                        · have g6' : (Q.length : Int) < (dd : Int) := by omega
                          have hmt : Hid (matchP D M m most i u2 Q = .error 22) := hidden (by unfold matchP; rw [HLN.out]; simp only; rw [HDD.out]; simp only; rw [if_pos g6])
                          go_wp2_with fail
                          refine hS.out.mono ?_
                          rintro e w1 ⟨S1, rfl, ⟨cc, _⟩, R1⟩
                          go_wp2_with fail
                          refine (hLG.out _ R1.out.1).mono ?_
                          rintro e w2 ⟨rfl, R2⟩
                          have HP2 := hidden (R1.out.on HB.out R2.out)
                          go_wp2_with fail
                          refine (hS2.out _ HP2.out).mono ?_
                          rintro e w3 ⟨S3, rfl, ⟨ce, cf⟩, R3⟩
                          have b00 : ((0 : Int) != 0) = false := rfl
                          go_wp2_with fail
                          refine (hFR.out _ R3.out.1).mono ?_
                          rintro e w4 ⟨rfl, R4⟩
                          obtain ⟨_, _, ce4, cf4, ao4, cap4, co4⟩ := R4.out.1.cells
                          have b22 : ((22 : Int) == 0) = false := rfl
                          go_wp2
                          go_loopw [10] (fun iv W => iv = .int .i64 0 ∧ W = w4.setCell ⟨p, 3, none⟩ (.int .i64 22)) (fun _ _ => 0)
                          case atStart => exact ⟨rfl, rfl⟩
                          case round =>
                            obtain ⟨rfl, rfl⟩ := hrel
                            go_wp2
                            go_roundg 0
                            case measure => have := HK.out; omega
                            case rel =>
                              have he := R4.out.1.err 22
                              exact ⟨22, hidden ⟨Zd.on (Zd.on (Zd.trans (Zd.on (Zd.trans HST.out S1.out) R2.out.2) S3.out) R4.out.2) he.2, .inr ⟨by omega, HSY.out _ (Syms.none HQ.out (by omega) hmt.out), u5, Q, he.1⟩⟩⟩
                        · have g6' : ¬ (Q.length : Int) < (dd : Int) := by omega
                          have hmt : Hid (matchP D M m most i u2 Q = if (n : Int) ≤ most - (Q.length : Int) then .ok (u5, copyP Q dd n) else .error 5) := hidden (by unfold matchP; rw [HLN.out]; simp only; rw [HDD.out]; simp only; rw [if_neg g6])
                          go_wp2_with fail
                          refine hS.out.mono ?_
                          rintro e w1 ⟨S1, rfl, ⟨cc, _⟩, R1⟩
                          go_wp2_with fail
                          refine (hLG.out _ R1.out.1).mono ?_
                          rintro e w2 ⟨rfl, R2⟩
                          have HP2 := hidden (R1.out.on HB.out R2.out)
                          go_wp2_with fail
                          refine (hS2.out _ HP2.out).mono ?_
                          rintro e w3 ⟨S3, rfl, ⟨ce, cf⟩, R3⟩
                          have b00 : ((0 : Int) != 0) = false := rfl
                          go_wp2_with fail
                          refine (hFR.out _ R3.out.1).mono ?_
                          rintro e w4 ⟨rfl, R4⟩
                          obtain ⟨_, _, ce4, cf4, ao4, cap4, co4⟩ := R4.out.1.cells
                          have HP4 := hidden (R3.out.on HB.out R4.out)
                          have HS4 := hidden (Zd.on (Zd.trans (Zd.on (Zd.trans HST.out S1.out) R2.out.2) S3.out) R4.out.2)
                          have HSZ := hidden (show wr.heap.size ≤ w4.heap.size by have := S1.out.size; have := R2.out.2.size; have := S3.out.size; have := R4.out.2.size; omega)
                          obtain ⟨QL, hQL⟩ : ∃ QL, QL = Q.length := ⟨_, rfl⟩
                          have HQLN := hidden hQL
                          rw [← hQL] at g6' co4
                          have g6n : ¬ QL < dd := by omega
                          clear hQL R1 R2 R3
                          go_wp2
                          go_loopw [10] (fun iv W => ∃ j e : Nat, j ≤ n ∧ iv = .int .i64 (j : Int) ∧ Hid (PCo w4 Z p b r M m u5 Q most dd n j e W)) (fun iv _ => n - (intOf iv).toNat)
                          case atStart => exact ⟨0, 0, by omega, rfl, hidden ⟨Step.refl _ _, .inl ⟨rfl, fun h => by omega, R4.out.1⟩⟩⟩
                          case round =>
                            obtain ⟨j, e, hj, rfl, HC⟩ := hrel
                            have ce5 := HC.out.cell
                            by_cases he0 : e = 0
                            · subst he0
                              obtain ⟨hst5, ⟨_, hroom, hps5⟩ | ⟨hx, _⟩⟩ := HC.out
                              · have HPS5 := hidden hps5
                                have HST5 := hidden hst5
                                have HRM := hidden hroom
                                have hCl := copyP_length Q dd j
                                clear HC hst5 hroom
                                by_cases hjn : j < n
                                · have j1 : (j : Int) < (n : Int) := by omega
                                  obtain ⟨g, off, cR, co5, cy, hy⟩ := hps5.row (k := QL + j - dd) (by rw [hCl]; have := HQLN.out; omega)
                                  rw [hCl, ← HQLN.out] at co5
                                  obtain ⟨K, hK⟩ : ∃ K, K = QL + j := ⟨_, rfl⟩
                                  obtain ⟨I, hI⟩ : ∃ I, I = K - dd := ⟨_, rfl⟩
                                  rw [← hK] at co5 cy hy
                                  rw [← hI] at cy hy
                                  have HCP := hidden (show copyP Q dd (j + 1) = copyP Q dd j ++ [(copyP Q dd j).getD I 0] by
                                    show copyP Q dd j ++ [(copyP Q dd j).getD ((copyP Q dd j).length - dd) 0] = _
                                    rw [hCl, hI, hK, HQLN.out])
                                  have HCL := hidden hCl
                                  have hKb : K ≤ 10000000000 := by have := HQLN.out; have := HQL.out; have := hln.1; omega
                                  have hix : IntKind.i64.wrap ((K : Int) - (dd : Int)) = (I : Int) := by rw [show (K : Int) - (dd : Int) = (I : Int) by have := HQLN.out; omega]; exact wrap_i64_nat I (by omega)
                                  have hIK : (I : Int) < (K : Int) := by have := HQLN.out; omega
                                  have hI0 : (0 : Int) ≤ (I : Int) := by omega
                                  have HKK := hidden (show (copyP Q dd j).length = K by rw [hCl, hK, HQLN.out])
                                  have hLY : Hid (∀ W, PS W Z p b r M m u5 (copyP Q dd j) most 0 → Step Z wr W → Calls Tryz.prog 76 #[.pointer (some ⟨p, 0, none⟩), .int .u8 (((copyP Q dd j).getD I 0 : Nat) : Int)] W fun e w' => e = .returned (.tuple #[]) ∧ Hid (LayQ W w' Z p b r M m u5 (copyP Q dd j) most ((copyP Q dd j).getD I 0) ∧ Step Z wr W)) :=
                                    hidden (fun W S1 hs => (lay_p Z p b r M m u5 (copyP Q dd j) most _ W S1 (fun k hk => HZ1.out k (by have := hs.size; have := HST5.out.size; have := HSZ.out; omega)) hy (by rw [HKK.out]; exact hKb) h0 h1).mono fun e w' ⟨he, hq⟩ => ⟨he, hidden ⟨hq.out, hs⟩⟩)
                                  generalize (copyP Q dd j).getD I 0 = y at *
                                  clear hK hI hCl hps5
                                  go_wp2
                                  go_region_with (first
                                    | (go_at_call 76; refine (hLY.out _ (by first | exact HPS5.out | exact HPS5.out.drew | exact HPS5.out.drewN _) (by first | exact Step.refl _ _ | exact (Step.refl _ _).drew | exact (Step.refl _ _).drewN _)).mono ?_; rintro e w6 ⟨rfl, R6⟩))
                                  all_goals
                                    have HREL : Hid (∃ e' : Nat, PCo w4 Z p b r M m u5 Q most dd n (j + 1) e' w6) := hidden (by
                                      have hr6 := R6.out.1
                                      unfold LayQ at hr6
                                      rw [HKK.out] at hr6
                                      by_cases g7 : 1 ≤ most - (K : Int)
                                      · rw [if_pos g7] at hr6
                                        refine ⟨0, (HST5.out.trans R6.out.2 (fun i hi => .inl hi)).trans hr6.2 (fun i hi => .inl hi), .inl ⟨rfl, fun _ => ?_, by rw [HCP.out]; exact hr6.1⟩⟩
                                        have := HCL.out
                                        have := HKK.out
                                        omega
                                      · rw [if_neg g7] at hr6
                                        refine ⟨5, (HST5.out.trans R6.out.2 (fun i hi => .inl hi)).trans hr6.2 (fun i hi => .inl hi), .inr ⟨rfl, ?_, _, hr6.1⟩⟩
                                        have := HCL.out
                                        have := HKK.out
                                        omega)
                                    go_wp2
                                    go_roundw
                                    case rel =>
                                      obtain ⟨e', he'⟩ := HREL.out
                                      exact ⟨j + 1, e', by omega, by go_num, hidden he'⟩
                                    case measure => simp [intOf]; omega
                                · have e : j = n := by omega
                                  subst e
                                  have j1 : ¬ (j : Int) < (j : Int) := by omega
                                  clear hps5
                                  go_wp2
                                  go_roundg (8 * m + 1 - u5)
                                  case measure => have := HK.out; omega
                                  case rel =>
                                    have hm2 := hmt.out
                                    rw [if_pos (by have := HRM.out (by omega); omega)] at hm2
                                    refine ⟨0, hidden ⟨Zd.on HS4.out HST5.out, .inl ⟨rfl, u5, copyP Q dd j, rfl, by omega, fun r hr => HSY.out r (Syms.mat HQ.out (by omega) hm2 hr), HP4.out.on HB.out ⟨HPS5.out, HST5.out⟩, ?_⟩⟩⟩
                                    rw [hCl]
                                    have := HQL.out
                                    have := hln.1
                                    omega
                              · omega
                            · obtain ⟨hst5, ⟨hx, _⟩ | ⟨rfl, hfull, Q', hps5⟩⟩ := HC.out
                              · exact absurd hx he0
                              · have HX := hidden (And.intro hst5 (And.intro hfull hps5))
                                have b5 : ((5 : Int) == 0) = false := rfl
                                clear HC hst5 hfull hps5
                                by_cases hjn : j < n
                                · have j1 : (j : Int) < (n : Int) := by omega
                                  go_wp2
                                  go_roundg 0
                                  case measure => have := HK.out; omega
                                  case rel =>
                                    have hm2 := hmt.out
                                    rw [if_neg (by have := HX.out.2.1; omega)] at hm2
                                    exact ⟨5, hidden ⟨Zd.on HS4.out HX.out.1, .inr ⟨by omega, HSY.out _ (Syms.none HQ.out (by omega) hm2), u5, Q', HX.out.2.2⟩⟩⟩
                                · have j1 : ¬ (j : Int) < (n : Int) := by omega
                                  go_wp2
                                  go_roundg 0
                                  case measure => have := HK.out; omega
                                  case rel =>
                                    have hm2 := hmt.out
                                    rw [if_neg (by have := HX.out.2.1; omega)] at hm2
                                    exact ⟨5, hidden ⟨Zd.on HS4.out HX.out.1, .inr ⟨by omega, HSY.out _ (Syms.none HQ.out (by omega) hm2), u5, Q', HX.out.2.2⟩⟩⟩
      · omega
    · have hb0 : ((e : Int) == 0) = false := by rw [beq_eq_false_iff_ne]; omega
      go_wp2
      go_end0
      refine ⟨rfl, hidden ?_⟩
      obtain ⟨hst, ⟨h0', _⟩ | ⟨_, hsy, u, Q, hp⟩⟩ := HH.out
      · exact absurd h0' he
      · rw [hsy.val]
        exact ⟨hst, by omega, u, Q, hp⟩

end Go.Proofs.YtcgjmkcigmmjjaaGreatDoor

namespace Go.Proofs.YtcgjmkcigmmjjaaGreatDoor
open Go.RowKit
set_option maxRecDepth 100000
set_option linter.unusedVariables false
theorem FL_val : ∀ i, i < 288 → FL.getD i 0 = if i < 144 then 8 else if i < 256 then 9 else if i < 280 then 7 else 8 := by decide +kernel

theorem FD_val : ∀ i, i < 32 → FD.getD i 0 = 5 := by decide +kernel

theorem take_more (L : List Int) (k : Nat) (x : Int) (h : k < L.length) (hx : L.getD k 0 = x) : L.take (k + 1) = L.take k ++ [x] := by
  rw [List.take_succ_eq_append_getElem h, ← hx, getD_i L k h]

theorem Grew.nil (w : World) : Grew w (.slice none 0 0) 0 [] w := ⟨World.ownsRow_nil _ _ _ _, (fun j h => by simp [Value.ownBlock] at h), Step.refl _ _⟩

set_option maxHeartbeats 4000000 in
theorem pfixed_any (w : World) : Calls Tryz.prog 44 #[] w fun e w' => ∃ u v, e = .returned (.tuple #[u, v]) ∧ Hid (Ri w' u FL ∧ Ri w' v FD ∧ (∀ j, u.ownBlock = some j → w.heap.size ≤ j) ∧ (∀ j, v.ownBlock = some j → w.heap.size ≤ j) ∧ Step (fun _ => False) w w') := by
  go_enter Tryz.func44, Tryz.ntmps44
  go_wp2
  go_loopw [2, 4] (fun u iv wr => ∃ i : Nat, i ≤ 288 ∧ iv = .int .i64 (i : Int) ∧ ∃ uo un uc, u = .slice uo un uc ∧ Hid (Grew w (.slice uo un uc) un (FL.take i) wr ∧ un = i)) (fun _ iv _ => 288 - (intOf iv).toNat)
  case atStart => exact ⟨0, by omega, rfl, none, 0, 0, rfl, Grew.nil w, rfl⟩
  case round =>
    obtain ⟨i, hi, rfl, uo, un, uc, rfl, hrest⟩ := hrel
    have HG := hidden hrest.out.1
    have HUN := hidden hrest.out.2
    have hun : un ≤ 288 := by have := hrest.out.2; omega
    clear hrest
    by_cases hlt : i < 288
    · have i1 : (i : Int) < 288 := by omega
      have HX := hidden (FL_val i hlt)
      have HNX := hidden (fun (x : Int) (hx : FL.getD i 0 = x) (v' : Value) (w' : World) (h1 : w'.ownsRow 0 3 1 v' (un + [x].length) (i64s (FL.take i ++ [x]))) (h2 : (wr.alloc (.cells #[.int .i64 x] 3)).grownBy w' (Value.slice uo un uc).ownBlock) (h3 : v'.ownBlock = (Value.slice uo un uc).ownBlock ∨ v'.ownBlock = some (wr.heap.size + 1)) =>
        show ∃ uo un uc, v' = .slice uo un uc ∧ Hid (Grew w (.slice uo un uc) un (FL.take (i + 1)) w' ∧ un = i + 1) by
          obtain ⟨ao', cap', rfl⟩ := own_slice h1
          refine ⟨ao', _, cap', rfl, ?_, by have := HUN.out; simp; omega⟩
          rw [take_more FL i x (by rw [FL_len]; exact hlt) hx]
          exact (HG.out.alloc _).more h1 h2 (by simpa using h3))
      by_cases g1 : i < 144
      · have g1' : (i : Int) < 144 := by omega
        have HN := hidden (HNX.out 8 (by rw [HX.out, if_pos g1]))
        go_wp2_with (at_builtin; refine wpList_append_ri rfl (.tmp 16) (.tmp 17) rfl (.slice uo un uc) un (FL.take i) rfl (HG.out.own.alloc _) _ [8] rfl (ri_one' _ _ _ rfl) ?rl ?_)
        case rl => first | omega | (show un + 1 ≤ 1000000; omega)
        intro v' w' k1 k2 k3
        have HF := hidden (HN.out v' w' k1 k2 k3)
        obtain ⟨ao', cap', rfl⟩ := own_slice k1
        clear k1 k2 k3
        go_wp2
        go_roundw
        case rel => exact ⟨i + 1, by omega, by go_num, HF.out⟩
        case measure => simp [intOf]; omega
      · have g1' : ¬ (i : Int) < 144 := by omega
        by_cases g2 : i < 256
        · have g2' : (i : Int) < 256 := by omega
          have HN := hidden (HNX.out 9 (by rw [HX.out, if_neg g1, if_pos g2]))
          go_wp2_with (at_builtin; refine wpList_append_ri rfl (.tmp 22) (.tmp 23) rfl (.slice uo un uc) un (FL.take i) rfl (HG.out.own.alloc _) _ [9] rfl (ri_one' _ _ _ rfl) ?rl ?_)
          case rl => first | omega | (show un + 1 ≤ 1000000; omega)
          intro v' w' k1 k2 k3
          have HF := hidden (HN.out v' w' k1 k2 k3)
          obtain ⟨ao', cap', rfl⟩ := own_slice k1
          clear k1 k2 k3
          go_wp2
          go_roundw
          case rel => exact ⟨i + 1, by omega, by go_num, HF.out⟩
          case measure => simp [intOf]; omega
        · have g2' : ¬ (i : Int) < 256 := by omega
          by_cases g3 : i < 280
          · have g3' : (i : Int) < 280 := by omega
            have HN := hidden (HNX.out 7 (by rw [HX.out, if_neg g1, if_neg g2, if_pos g3]))
            go_wp2_with (at_builtin; refine wpList_append_ri rfl (.tmp 28) (.tmp 29) rfl (.slice uo un uc) un (FL.take i) rfl (HG.out.own.alloc _) _ [7] rfl (ri_one' _ _ _ rfl) ?rl ?_)
            case rl => first | omega | (show un + 1 ≤ 1000000; omega)
            intro v' w' k1 k2 k3
            have HF := hidden (HN.out v' w' k1 k2 k3)
            obtain ⟨ao', cap', rfl⟩ := own_slice k1
            clear k1 k2 k3
            go_wp2
            go_roundw
            case rel => exact ⟨i + 1, by omega, by go_num, HF.out⟩
            case measure => simp [intOf]; omega
          · have g3' : ¬ (i : Int) < 280 := by omega
            have HN := hidden (HNX.out 8 (by rw [HX.out, if_neg g1, if_neg g2, if_neg g3]))
            go_wp2_with (at_builtin; refine wpList_append_ri rfl (.tmp 10) (.tmp 11) rfl (.slice uo un uc) un (FL.take i) rfl (HG.out.own.alloc _) _ [8] rfl (ri_one' _ _ _ rfl) ?rl ?_)
            case rl => first | omega | (show un + 1 ≤ 1000000; omega)
            intro v' w' k1 k2 k3
            have HF := hidden (HN.out v' w' k1 k2 k3)
            obtain ⟨ao', cap', rfl⟩ := own_slice k1
            clear k1 k2 k3
            go_wp2
            go_roundw
            case rel => exact ⟨i + 1, by omega, by go_num, HF.out⟩
            case measure => simp [intOf]; omega
    · have e : i = 288 := by omega
      have HLF := hidden (show Grew w (.slice uo un uc) un FL wr by have := HG.out; rwa [List.take_of_length_le (by rw [FL_len]; omega)] at this)
      have i1 : ¬ (i : Int) < 288 := by omega
      clear HG e
      obtain ⟨w5, hw5⟩ : ∃ w5, w5 = wr := ⟨_, rfl⟩
      rw [← hw5]
      rw [← hw5] at HLF
      clear hw5
      go_wp2
      go_loopw [3, 5] (fun u iv wr => ∃ i : Nat, i ≤ 32 ∧ iv = .int .i64 (i : Int) ∧ ∃ vo vn vc, u = .slice vo vn vc ∧ Hid (Grew w5 (.slice vo vn vc) vn (FD.take i) wr ∧ vn = i)) (fun _ iv _ => 32 - (intOf iv).toNat)
      case atStart => exact ⟨0, by omega, rfl, none, 0, 0, rfl, Grew.nil w5, rfl⟩
      case round =>
        obtain ⟨j, hj, rfl, vo, vn, vc, rfl, hrest⟩ := hrel
        have HG := hidden hrest.out.1
        have HVN := hidden hrest.out.2
        have hvn : vn ≤ 32 := by have := hrest.out.2; omega
        clear hrest
        by_cases hjt : j < 32
        · have j1 : (j : Int) < 32 := by omega
          go_wp2_with (at_builtin; refine wpList_append_ri rfl (.tmp 35) (.tmp 36) rfl (.slice vo vn vc) vn (FD.take j) rfl (HG.out.own.alloc _) _ [5] rfl (ri_one' _ _ _ rfl) ?rl ?_)
          case rl => first | omega | (show vn + 1 ≤ 1000000; omega)
          intro v' w' k1 k2 k3
          have HF : Hid (∃ vo vn vc, v' = .slice vo vn vc ∧ Hid (Grew w5 (.slice vo vn vc) vn (FD.take (j + 1)) w' ∧ vn = j + 1)) := hidden (by
            obtain ⟨ao', cap', rfl⟩ := own_slice k1
            refine ⟨ao', _, cap', rfl, ?_, by have := HVN.out; simp; omega⟩
            rw [take_more FD j 5 (by rw [FD_len]; exact hjt) (FD_val j hjt)]
            exact (HG.out.alloc _).more k1 k2 (by simpa using k3))
          obtain ⟨ao', cap', rfl⟩ := own_slice k1
          clear k1 k2 k3
          go_wp2
          go_roundw
          case rel => exact ⟨j + 1, by omega, by go_num, HF.out⟩
          case measure => simp [intOf]; omega
        · have j1 : ¬ (j : Int) < 32 := by omega
          have HDF := hidden (show Grew w5 (.slice vo vn vc) vn FD wr by have := HG.out; rwa [List.take_of_length_le (by rw [FD_len]; omega)] at this)
          go_wp2
          go_ret2
          exact ⟨_, _, rfl, hidden ⟨(Ri.of_own HLF.out.own).made HDF.out.st, Ri.of_own HDF.out.own, HLF.out.blk, fun k hk => (by have := HDF.out.blk k hk; have := HLF.out.st.size; omega), HLF.out.st.made HDF.out.st⟩⟩

set_option maxHeartbeats 1000000 in
theorem place_any (k : Nat) (hk : k < 19) (w : World) : Calls Tryz.prog 70 #[.int .i64 (k : Int)] w fun e w' => e = .returned (.int .i64 ((ord k : Nat) : Int)) ∧ Hid (Step (fun _ => False) w w') := by
  have k1 : (k : Int) < 19 := by omega
  have HC := hidden (show ∀ k, k < 19 → (#[16, 17, 18, 0, 8, 7, 9, 6, 10, 5, 11, 4, 12, 3, 13, 2, 14, 1, 15] : Array Nat).getD k 0 = ord k by decide)
  have hc : (w.alloc (.cells #[.int .i64 16, .int .i64 17, .int .i64 18, .int .i64 0, .int .i64 8, .int .i64 7, .int .i64 9, .int .i64 6, .int .i64 10, .int .i64 5, .int .i64 11, .int .i64 4, .int .i64 12, .int .i64 3, .int .i64 13, .int .i64 2, .int .i64 14, .int .i64 1, .int .i64 15] 3)).cell? ⟨w.heap.size, k, none⟩ = some (.int .i64 ((ord k : Nat) : Int)) := by
    rw [World.cell?_alloc_at _ _ _ _ rfl]
    have : ∀ k, k < 19 → (#[Value.int .i64 16, .int .i64 17, .int .i64 18, .int .i64 0, .int .i64 8, .int .i64 7, .int .i64 9, .int .i64 6, .int .i64 10, .int .i64 5, .int .i64 11, .int .i64 4, .int .i64 12, .int .i64 3, .int .i64 13, .int .i64 2, .int .i64 14, .int .i64 1, .int .i64 15] : Array Value)[k]? = some (.int .i64 ((ord k : Nat) : Int)) := by
      intro k hk
      rcases k with _ | _ | _ | _ | _ | _ | _ | _ | _ | _ | _ | _ | _ | _ | _ | _ | _ | _ | _ | k
      all_goals first | rfl | omega
    exact this k hk
  clear HC
  go_enter Tryz.func70, Tryz.ntmps70
  go_wp2
  go_ret
  exact ⟨rfl, hidden ((Step.refl _ _).alloc _)⟩

end Go.Proofs.YtcgjmkcigmmjjaaGreatDoor

namespace Go.Proofs.YtcgjmkcigmmjjaaGreatDoor
open Go.RowKit
set_option maxRecDepth 100000
set_option linter.unusedVariables false
/-- One symbol of lengths. -/
noncomputable def stepL (C : List Int) (M m many t : Nat) (A : List Int) : Except Nat (Nat × List Int) :=
  match symV C M m t with
  | .error e => .error e
  | .ok (x, u) => if x = 16 ∧ A.length = 0 then .error 3 else
    match timP M m x u with
    | .error e => .error e
    | .ok (n, u2) => if many - A.length < n then .error 3 else .ok (u2, A ++ List.replicate n (lenOf x A))

/-- A row of lengths, younger than B. -/
structure LR (w : World) (B : Nat) (v : Value) (n : Nat) (A : List Int) : Prop where
  own : w.ownsRow 0 3 1 v n (i64s A)
  blk : ∀ j, v.ownBlock = some j → B ≤ j
  len : n = A.length

/-- All else is older. -/
structure Old (B : Nat) (Z : Nat → Prop) (r : Value) (d : Nat) : Prop where
  z : ∀ k, Z k → k < B
  d : d < B
  r : ∀ a n c, r = .slice (some a) n c → a.block < B

/-- The blocks that are written. -/
def Zl (B : Nat) (Z : Nat → Prop) (d k : Nat) : Prop := Z k ∨ k = d ∨ B ≤ k

theorem LR.step {w w' : World} {B : Nat} {v : Value} {n : Nat} {A : List Int} (h : LR w B v n A) {S : Nat → Prop} (hs : Step S w w') (hS : ∀ k, S k → k < B) : LR w' B v n A := ⟨owns_step h.own hs (fun k hk s => by have := h.blk k hk; have := hS k s; omega), h.blk, h.len⟩

theorem LR.more {w w1 : World} {B : Nat} {v v' : Value} {n k : Nat} {A C : List Int} (h : LR w B v n A) (hB : B ≤ w.heap.size) (h1 : w1.ownsRow 0 3 1 v' k (i64s C)) (h3 : v'.ownBlock = v.ownBlock ∨ v'.ownBlock = some (w.heap.size + 1)) (hk : k = C.length) : LR w1 B v' k C :=
  ⟨h1, fun j hj => by
    rcases h3 with e | e
    · exact h.blk j (by rw [← e]; exact hj)
    · rw [e] at hj; have := Option.some.inj hj; omega, hk⟩

theorem Zl.on {B : Nat} {Z : Nat → Prop} {d : Nat} {w w1 w2 : World} (h : Step (Zl B Z d) w w1) (h2 : Step Z w1 w2) : Step (Zl B Z d) w w2 := h.trans h2 (fun i hi => .inl (.inl hi))

/-- The page's decoder and stream stand where a young row is written. -/
theorem Old.ps {B : Nat} {Z : Nat → Prop} {r : Value} {d : Nat} (h : Old B Z r d) {w w' : World} {p b : Nat} {M m t : Nat} {O : List Nat} {most : Int} {e : Nat} (hp : PS w Z p b r M m t O most e) (hs : Step (fun k => B ≤ k) w w') : PS w' Z p b r M m t O most e :=
  hp.far hs (fun k hk hz => by have := h.z k hz; omega) (fun a n c e _ hk => by have := h.r a n c e; omega)

theorem Old.dec {B : Nat} {Z : Nat → Prop} {r : Value} {d : Nat} (h : Old B Z r d) {w w' : World} {C : List Int} {vc vl : Value} {k n : Nat} (hd : RDec w d C vc vl k n) (hs : Step (fun k => B ≤ k) w w') : RDec w' d C vc vl k n :=
  hd.farZ hs (by have := h.d; omega) (fun a n c e1 e2 hk => by have := hd.nc a n c e1 e2; have := h.d; omega) (fun a n c e1 e2 hk => by have := hd.nl a n c e1 e2; have := h.d; omega)

/-- What length leaves. -/
def LenE (w : World) (B : Nat) (Z : Nat → Prop) (p b : Nat) (r : Value) (M m : Nat) (O : List Nat) (most : Int) (d : Nat) (C : List Int) (vc vl : Value) (A : List Int) (x : Except Nat (Nat × List Int)) (v : Value) (n : Nat) (w' : World) : Prop :=
  Step (Zl B Z d) w w' ∧
  match x with
  | .error y => 0 < y ∧ LR w' B v n A ∧ ∃ t', PS w' Z p b r M m t' O most y
  | .ok (u, A2) => LR w' B v n A2 ∧ PS w' Z p b r M m u O most 0 ∧ RDec w' d C vc vl 0 0

set_option maxHeartbeats 8000000 in
theorem plength_any (B : Nat) (Z : Nat → Prop) (p b : Nat) (r : Value) (M m t : Nat) (O : List Nat) (most : Int) (d : Nat) (C : List Int) (vc vl : Value) (ao : Option Addr) (n cap many : Nat) (A : List Int) (w : World) (h : PS w Z p b r M m t O most 0) (hd : RDec w d C vc vl 0 0) (hb : PB Z r d C vc vl) (ho : Old B Z r d) (hB : B ≤ w.heap.size) (hl : LR w B (.slice ao n cap) n A) (hm : m ≤ 1000000) (hC : newErr C = 0) (hmy : many ≤ 1000) (hA : A.length < many) (hC19 : C.length = 19) :
    Calls Tryz.prog 71 #[.pointer (some ⟨p, 0, none⟩), .slice ao n cap, .pointer (some ⟨d, 0, none⟩), .int .i64 (many : Int)] w fun e w' => ∃ lo ln lc, e = .returned (.slice lo ln lc) ∧ Hid (LenE w B Z p b r M m O most d C vc vl A (stepL C M m many t A) (.slice lo ln lc) ln w') := by
  have HO := hidden ho
  have HB := hidden hb
  have HL := hidden hl
  have hn : n ≤ 1000 := by have := hl.len; omega
  have HN := hidden hl.len
  have hS := hidden (psymbol_any Z p b r M m t O most d C vc vl w h hd hb hm hC)
  have HZD := hidden (show ∀ k, (Z k ∨ k = d) → k < B from fun k hk => hk.elim (ho.z k) (fun e => by rw [e]; exact ho.d))
  have hfin := (symV_spec hC M m t).fine
  clear h hd ho hb hl
  cases hq : symV C M m t with
  | error y =>
    rw [hq] at hS hfin
    have HR := hidden (show stepL C M m many t A = .error y by unfold stepL; rw [hq])
    have hy0 : 0 < y := by rcases hfin with e | e <;> omega
    clear hq
    go_enter Tryz.func71, Tryz.ntmps71
    go_wp2_with fail
    refine hS.out.mono ?_
    rintro e w1 ⟨⟨S1, rfl, R1⟩, _⟩
    go_wp2
    go_ret
    refine ⟨_, _, _, rfl, hidden ?_⟩
    rw [HR.out]
    exact ⟨S1.out.mono (fun i hi => hi.elim .inl (fun e => .inr (.inl e))), hy0, HL.out.step S1.out HZD.out, R1.out⟩
  | ok z =>
    obtain ⟨x, u⟩ := z
    rw [hq] at hS hfin
    obtain ⟨hx19, hu1, hu2⟩ := hfin
    rw [hC19] at hx19
    have HQ := hidden hq
    clear hq
    by_cases g1 : x < 16
    · have g1' : (x : Int) < 16 := by omega
      have HR := hidden (show stepL C M m many t A = .ok (u, A ++ [(x : Int)]) by
        unfold stepL timP lenOf
        rw [HQ.out]
        simp only
        rw [if_neg (by omega), if_neg (by omega), if_neg (by omega), if_neg (by omega)]
        simp only
        rw [if_neg (by omega), if_neg (by omega), if_neg (by omega)]
        rfl)
      have x0 : ¬ (x : Int) < 0 := by omega
      go_enter Tryz.func71, Tryz.ntmps71
      go_wp2_with fail
      refine hS.out.mono ?_
      rintro e w1 ⟨⟨S1, rfl, R1⟩, _⟩
      have HL1 := hidden (HL.out.step S1.out HZD.out)
      have hB1 : B ≤ w1.heap.size := by have := S1.out.size; omega
      go_wp2_with (at_builtin; refine wpList_append_ri rfl (.tmp 21) (.tmp 23) rfl (.slice ao n cap) n A rfl (HL1.out.own.alloc _) _ [(x : Int)] rfl (ri_one' _ _ _ rfl) ?rl ?_)
      case rl => first | omega | (show n + 1 ≤ 1000000; omega)
      intro v2 w2 k1 k2 k3
      have HL2 := hidden (HL1.out.more hB1 k1 (by simpa using k3) (by have := HN.out; simp; omega))
      have HS2 := hidden (show Step (fun k => B ≤ k) w1 w2 from ((Step.refl _ w1).alloc _).grown k2 (fun k hk => .inl (HL1.out.blk k hk)))
      obtain ⟨ao2, cap2, rfl⟩ := own_slice k1
      clear k1 k2 k3
      go_wp2
      go_ret
      refine ⟨_, _, _, rfl, hidden ?_⟩
      rw [HR.out]
      exact ⟨(S1.out.mono (fun i hi => hi.elim .inl (fun e => .inr (.inl e)))).trans HS2.out (fun i hi => .inl (.inr (.inr hi))), HL2.out, HO.out.ps R1.out.1 HS2.out, HO.out.dec R1.out.2 HS2.out⟩
    · have g1' : ¬ (x : Int) < 16 := by omega
      have x0 : ¬ (x : Int) < 0 := by omega
      by_cases g2 : x = 16
      · subst g2
        by_cases g3 : A.length = 0
        · have HR := hidden (show stepL C M m many t A = .error 3 by unfold stepL; rw [HQ.out]; simp [g3])
          have hn0 : n = 0 := by have := HN.out; omega
          subst hn0
          go_enter Tryz.func71, Tryz.ntmps71
          go_wp2_with fail
          refine hS.out.mono ?_
          rintro e w1 ⟨⟨S1, rfl, R1⟩, _⟩
          have HL1 := hidden (HL.out.step S1.out HZD.out)
          have hB1 : B ≤ w1.heap.size := by have := S1.out.size; omega
          have ce := R1.out.1.cells.2.2.1
          have cf := R1.out.1.cells.2.2.2.1
          go_wp2
          go_ret
          refine ⟨_, _, _, rfl, hidden ?_⟩
          rw [HR.out]
          have he := R1.out.1.err 3
          exact ⟨Zl.on (S1.out.mono (fun i hi => hi.elim .inl (fun e => .inr (.inl e)))) he.2, by omega, HL1.out.step (S := Z) he.2 (fun k hk => HZD.out k (.inl hk)), _, he.1⟩
        · have HNO0 := trivial
          obtain ⟨x, hx⟩ : ∃ x : Nat, x = 16 := ⟨_, rfl⟩
          have HNO := hidden (show ¬ (x = 16 ∧ A.length = 0) from fun h => g3 h.2)
          have hn1 : ((n : Int) == 0) = false := by rw [beq_eq_false_iff_ne]; have := HN.out; omega
          have b16 : ((16 : Int) == 16) = true := rfl
          obtain ⟨lv, hlv⟩ : ∃ lv, lv = A.getD (A.length - 1) 0 := ⟨_, rfl⟩
          have HLV := hidden (show lenOf 16 A = lv by unfold lenOf; rw [if_pos rfl, hlv])
          rw [← hx] at HLV HQ
          have HX := hidden hx
          go_enter Tryz.func71, Tryz.ntmps71
          go_wp2_with fail
          refine hS.out.mono ?_
          rintro e w1 ⟨⟨S1, rfl, R1⟩, _⟩
          have HL1 := hidden (HL.out.step S1.out HZD.out)
          have hB1 : B ≤ w1.heap.size := by have := S1.out.size; omega
          obtain ⟨hnr, g, off, rfl, hcA⟩ := (Ri.of_own HL1.out.own).cell (k := A.length - 1) (by omega)
          clear hnr
          have cl := hcA (A.length - 1) (by omega)
          rw [← hlv, ← HN.out] at cl
          obtain ⟨I, hI⟩ : ∃ I, I = n - 1 := ⟨_, rfl⟩
          rw [← hI] at cl
          have hn2 : 1 ≤ n := by have := HN.out; omega
          have hix : IntKind.i64.wrap ((n : Int) - 1) = (I : Int) := by rw [show (n : Int) - 1 = (I : Int) by omega]; exact wrap_i64_nat I (by omega)
          have hix1 : (I : Int) < (n : Int) := by omega
          have hix2 : I < n := by omega
          have hix3 : (0 : Int) ≤ (I : Int) := by omega
          have hgB : B ≤ g := HL1.out.blk g (by
            rcases (HL1.out.own).2 with ⟨h, _⟩ | ⟨g', _, _, e, _⟩
            · cases h
            · injection e with e1; have := Option.some.inj e1; injection this with e2 e3; subst e2; subst e3; rfl)
          have HGZ := hidden (show ¬ Z g from fun hz => by have := HO.out.z g hz; omega)
          have hGT : Hid (∀ W, PS W Z p b r M m u O most 0 → Step Z w1 W → Calls Tryz.prog 42 #[.pointer (some ⟨p, 0, none⟩), .int .i64 2] W fun e w' => ∃ x : Nat, e = .returned (.int .i64 (x : Int)) ∧ x < 2 ^ 2 ∧ Hid ((u + 2 ≤ 8 * m ∧ x = M / 2 ^ u % 2 ^ 2 ∧ Pn w1 w' Z p b r M m (u + 2) O most 0) ∨ (8 * m < u + 2 ∧ x = 0 ∧ Pn w1 w' Z p b r M m u O most 2))) :=
            hidden (fun W S2 hs => (pget_any Z p b r M m u O most 2 W S2 hm (by omega)).mono fun e w' ⟨x, he, hq, hx⟩ => ⟨x, he, hx, hidden (hq.out.imp (fun ⟨a, c, q⟩ => ⟨a, c, Pn.after hs q⟩) (fun ⟨a, c, q⟩ => ⟨a, c, Pn.after hs q⟩))⟩)
          clear hcA hI hlv hx
          go_wp2
          go_region_with (first
            | (go_at_call 42; refine (hGT.out _ (by first | exact R1.out.1 | exact R1.out.1.drewN 1 | exact R1.out.1.drewN _) (by first | exact Step.refl _ _ | exact (Step.refl _ _).drew | exact (Step.refl _ _).drewN _)).mono ?_; rintro e w2 ⟨z, rfl, hz, HG⟩; have cl2 : w2.cell? ⟨g, off + I, none⟩ = some (.int .i64 lv) := (by rcases HG.out with ⟨_, _, h⟩ | ⟨_, _, h⟩ <;> exact h.2.cell cl HGZ.out)))
          all_goals
            have HTP := hidden (show timP M m x u = numP M m u 3 2 by unfold timP; rw [HX.out, if_pos rfl])
            have HL2 := hidden (HL1.out.step (S := Z) (show Step Z w1 w2 by rcases HG.out with ⟨_, _, h⟩ | ⟨_, _, h⟩ <;> exact h.2) (fun k hk => HZD.out k (.inl hk)))
            have hB2 : B ≤ w2.heap.size := by have : w1.heap.size ≤ w2.heap.size := by { rcases HG.out with ⟨_, _, h⟩ | ⟨_, _, h⟩ <;> exact h.2.size }
                                              omega
            have hz2 : z ≤ 127 := by omega
            have hng : u + 2 ≤ 8 * m ∨ 8 * m < u + 2 := by omega
            rcases hng with hng | hng
            · obtain ⟨hz3, hpn⟩ : z = M / 2 ^ u % 2 ^ 2 ∧ Pn w1 w2 Z p b r M m (u + 2) O most 0 := by
                rcases HG.out with ⟨_, h1, h2⟩ | ⟨h1, _⟩
                · exact ⟨h1, h2⟩
                · omega
              have HPN := hidden hpn
              have HZ3 := hidden hz3
              have ce := hpn.1.cells.2.2.1
              have cf := hpn.1.cells.2.2.2.1
              have HDC := hidden (HB.out.dec R1.out.2 hpn.2)
              have HS2 := hidden (show Step (Zl B Z d) w w2 from Zl.on (S1.out.mono (fun i hi => hi.elim .inl (fun e => .inr (.inl e)))) hpn.2)
              have HTN := hidden (show timP M m x u = .ok (3 + z, u + 2) by rw [HTP.out]; unfold numP; rw [if_pos hng, HZ3.out])
              have b00 : ((0 : Int) != 0) = false := rfl
              clear hpn hz3 HG
              by_cases g6 : many - A.length < 3 + z
              · have HR := hidden (show stepL C M m many t A = .error 3 by
                  unfold stepL
                  rw [HQ.out]
                  simp only
                  rw [if_neg HNO.out, HTN.out]
                  simp only
                  rw [if_pos g6])
                have g6' : (many : Int) < (n : Int) + (3 + (z : Int)) := by have := HN.out; omega
                go_wp2
                go_ret
                refine ⟨_, _, _, rfl, hidden ?_⟩
                rw [HR.out]
                have he := HPN.out.1.err 3
                exact ⟨Zl.on HS2.out he.2, by omega, HL2.out.step (S := Z) he.2 (fun k hk => HZD.out k (.inl hk)), _, he.1⟩
              · have HR := hidden (show stepL C M m many t A = .ok (u + 2, A ++ List.replicate (3 + z) lv) by
                  unfold stepL
                  rw [HQ.out]
                  simp only
                  rw [if_neg HNO.out, HTN.out]
                  simp only
                  rw [if_neg g6, HLV.out])
                have g6' : ¬ (many : Int) < (n : Int) + (3 + (z : Int)) := by have := HN.out; omega
                obtain ⟨N, hN⟩ : ∃ N, N = 3 + z := ⟨_, rfl⟩
                have eN : (3 : Int) + (z : Int) = (N : Int) := by omega
                have hN2 : N ≤ 1000 := by omega
                rw [← hN] at HR
                clear hN
                go_wp2
                go_loopw [1, 12] (fun l iv W => ∃ i : Nat, i ≤ N ∧ iv = .int .i64 (i : Int) ∧ ∃ lo ln lc, l = .slice lo ln lc ∧ ln ≤ 2000 ∧ Hid (LR W B (.slice lo ln lc) ln (A ++ List.replicate i lv) ∧ Step (fun k => B ≤ k) w2 W)) (fun _ iv _ => N - (intOf iv).toNat)
                case atStart => exact ⟨0, by omega, rfl, _, _, _, rfl, by omega, by simpa using HL2.out, Step.refl _ _⟩
                case round =>
                  obtain ⟨i, hi, rfl, lo, ln, lc, rfl, hln, HH⟩ := hrel
                  by_cases hiN : i < N
                  · have i1 : (i : Int) < (N : Int) := by omega
                    have hBr : B ≤ wr.heap.size := by have := HH.out.2.size; omega
                    go_wp2_with (at_builtin; refine wpList_append_ri rfl (.tmp 77) (.tmp 79) rfl (.slice lo ln lc) ln (A ++ List.replicate i lv) rfl (HH.out.1.own.alloc _) _ [lv] rfl (ri_one' _ _ _ rfl) ?rl ?_)
                    case rl => first | omega | (show ln + 1 ≤ 1000000; omega)
                    intro v2 w3 k1 k2 k3
                    have HL3 := hidden (show LR w3 B v2 (ln + 1) (A ++ List.replicate (i + 1) lv) by
                      have := HH.out.1.more hBr k1 (by simpa using k3) (by have := HH.out.1.len; simp at this ⊢; omega)
                      rw [List.replicate_succ']
                      first | exact this | (rw [← List.append_assoc]; exact this))
                    have HS3 := hidden (show Step (fun k => B ≤ k) w2 w3 from (HH.out.2.alloc _).grown k2 (fun k hk => .inl (HH.out.1.blk k hk)))
                    have hln3 : ln + 1 ≤ 2000 := by have h1 := HH.out.1.len; have h2 := HN.out; simp at h1; omega
                    obtain ⟨ao3, cap3, rfl⟩ := own_slice k1
                    clear k1 k2 k3
                    go_wp2
                    go_roundw
                    case rel => exact ⟨i + 1, by omega, by go_num, _, _, _, rfl, hln3, HL3.out, HS3.out⟩
                    case measure => simp [intOf]; omega
                  · have e : i = N := by omega
                    subst e
                    have i1 : ¬ (i : Int) < (i : Int) := by omega
                    go_wp2
                    go_ret
                    refine ⟨_, _, _, rfl, hidden ?_⟩
                    rw [HR.out]
                    exact ⟨HS2.out.trans HH.out.2 (fun i hi => .inl (.inr (.inr hi))), HH.out.1, HO.out.ps HPN.out.1 HH.out.2, HO.out.dec HDC.out HH.out.2⟩
            · have hpn : Pn w1 w2 Z p b r M m u O most 2 := by
                rcases HG.out with ⟨h1, _⟩ | ⟨_, _, h2⟩
                · omega
                · exact h2
              have HPN := hidden hpn
              have ce := hpn.1.cells.2.2.1
              have HS2 := hidden (show Step (Zl B Z d) w w2 from Zl.on (S1.out.mono (fun i hi => hi.elim .inl (fun e => .inr (.inl e)))) hpn.2)
              have HR := hidden (show stepL C M m many t A = .error 2 by
                unfold stepL
                rw [HQ.out]
                simp only
                rw [if_neg HNO.out, HTP.out]
                unfold numP
                rw [if_neg (by omega)])
              have b2 : ((2 : Int) != 0) = true := rfl
              clear hpn HG
              go_wp2
              go_ret
              refine ⟨_, _, _, rfl, hidden ?_⟩
              rw [HR.out]
              exact ⟨HS2.out, by omega, HL2.out, _, HPN.out.1⟩
      · by_cases g4 : x = 17
        · have HNO := hidden (show ¬ (x = 16 ∧ A.length = 0) from fun h => g2 h.1)
          have b16 : ((x : Int) == 16) = false := by rw [beq_eq_false_iff_ne]; omega
          have b17 : ((x : Int) == 17) = true := by rw [beq_iff_eq]; omega
          have HX := hidden g4
          obtain ⟨lv, hlv⟩ : ∃ lv : Int, lv = 0 := ⟨_, rfl⟩
          have HLV := hidden (show lenOf x A = 0 by unfold lenOf; rw [if_neg g2, if_pos (by omega)])
          clear g4 hlv lv
          go_enter Tryz.func71, Tryz.ntmps71
          go_wp2_with fail
          refine hS.out.mono ?_
          rintro e w1 ⟨⟨S1, rfl, R1⟩, _⟩
          have HL1 := hidden (HL.out.step S1.out HZD.out)
          have hB1 : B ≤ w1.heap.size := by have := S1.out.size; omega
          have hGT : Hid (∀ W, PS W Z p b r M m u O most 0 → Step Z w1 W → Calls Tryz.prog 42 #[.pointer (some ⟨p, 0, none⟩), .int .i64 3] W fun e w' => ∃ x : Nat, e = .returned (.int .i64 (x : Int)) ∧ x < 2 ^ 3 ∧ Hid ((u + 3 ≤ 8 * m ∧ x = M / 2 ^ u % 2 ^ 3 ∧ Pn w1 w' Z p b r M m (u + 3) O most 0) ∨ (8 * m < u + 3 ∧ x = 0 ∧ Pn w1 w' Z p b r M m u O most 2))) :=
            hidden (fun W S2 hs => (pget_any Z p b r M m u O most 3 W S2 hm (by omega)).mono fun e w' ⟨x, he, hq, hx⟩ => ⟨x, he, hx, hidden (hq.out.imp (fun ⟨a, c, q⟩ => ⟨a, c, Pn.after hs q⟩) (fun ⟨a, c, q⟩ => ⟨a, c, Pn.after hs q⟩))⟩)
          go_wp2_with fail
          refine (hGT.out _ R1.out.1 (Step.refl _ _)).mono ?_
          rintro e w2 ⟨z, rfl, hz, HG⟩
          have HTP := hidden (show timP M m x u = numP M m u 3 3 by unfold timP; rw [if_neg g2, if_pos HX.out])
          have HL2 := hidden (HL1.out.step (S := Z) (show Step Z w1 w2 by rcases HG.out with ⟨_, _, h⟩ | ⟨_, _, h⟩ <;> exact h.2) (fun k hk => HZD.out k (.inl hk)))
          have hB2 : B ≤ w2.heap.size := by have : w1.heap.size ≤ w2.heap.size := by { rcases HG.out with ⟨_, _, h⟩ | ⟨_, _, h⟩ <;> exact h.2.size }
                                            omega
          have hz2 : z ≤ 127 := by omega
          have hng : u + 3 ≤ 8 * m ∨ 8 * m < u + 3 := by omega
          rcases hng with hng | hng
          · obtain ⟨hz3, hpn⟩ : z = M / 2 ^ u % 2 ^ 3 ∧ Pn w1 w2 Z p b r M m (u + 3) O most 0 := by
              rcases HG.out with ⟨_, h1, h2⟩ | ⟨h1, _⟩
              · exact ⟨h1, h2⟩
              · omega
            have HPN := hidden hpn
            have HZ3 := hidden hz3
            have ce := hpn.1.cells.2.2.1
            have cf := hpn.1.cells.2.2.2.1
            have HDC := hidden (HB.out.dec R1.out.2 hpn.2)
            have HS2 := hidden (show Step (Zl B Z d) w w2 from Zl.on (S1.out.mono (fun i hi => hi.elim .inl (fun e => .inr (.inl e)))) hpn.2)
            have HTN := hidden (show timP M m x u = .ok (3 + z, u + 3) by rw [HTP.out]; unfold numP; rw [if_pos hng, HZ3.out])
            have b00 : ((0 : Int) != 0) = false := rfl
            clear hpn hz3 HG
            by_cases g6 : many - A.length < 3 + z
            · have HR := hidden (show stepL C M m many t A = .error 3 by
                unfold stepL
                rw [HQ.out]
                simp only
                rw [if_neg HNO.out, HTN.out]
                simp only
                rw [if_pos g6])
              have g6' : (many : Int) < (n : Int) + (3 + (z : Int)) := by have := HN.out; omega
              go_wp2
              go_ret
              refine ⟨_, _, _, rfl, hidden ?_⟩
              rw [HR.out]
              have he := HPN.out.1.err 3
              exact ⟨Zl.on HS2.out he.2, by omega, HL2.out.step (S := Z) he.2 (fun k hk => HZD.out k (.inl hk)), _, he.1⟩
            · have HR := hidden (show stepL C M m many t A = .ok (u + 3, A ++ List.replicate (3 + z) 0) by
                unfold stepL
                rw [HQ.out]
                simp only
                rw [if_neg HNO.out, HTN.out]
                simp only
                rw [if_neg g6, HLV.out])
              have g6' : ¬ (many : Int) < (n : Int) + (3 + (z : Int)) := by have := HN.out; omega
              obtain ⟨N, hN⟩ : ∃ N, N = 3 + z := ⟨_, rfl⟩
              have eN : (3 : Int) + (z : Int) = (N : Int) := by omega
              have hN2 : N ≤ 1000 := by omega
              rw [← hN] at HR
              clear hN
              go_wp2
              go_loopw [1, 12] (fun l iv W => ∃ i : Nat, i ≤ N ∧ iv = .int .i64 (i : Int) ∧ ∃ lo ln lc, l = .slice lo ln lc ∧ ln ≤ 2000 ∧ Hid (LR W B (.slice lo ln lc) ln (A ++ List.replicate i 0) ∧ Step (fun k => B ≤ k) w2 W)) (fun _ iv _ => N - (intOf iv).toNat)
              case atStart => exact ⟨0, by omega, rfl, _, _, _, rfl, by omega, by simpa using HL2.out, Step.refl _ _⟩
              case round =>
                obtain ⟨i, hi, rfl, lo, ln, lc, rfl, hln, HH⟩ := hrel
                by_cases hiN : i < N
                · have i1 : (i : Int) < (N : Int) := by omega
                  have hBr : B ≤ wr.heap.size := by have := HH.out.2.size; omega
                  go_wp2_with (at_builtin; refine wpList_append_ri rfl (.tmp 77) (.tmp 79) rfl (.slice lo ln lc) ln (A ++ List.replicate i 0) rfl (HH.out.1.own.alloc _) _ [0] rfl (ri_one' _ _ _ rfl) ?rl ?_)
                  case rl => first | omega | (show ln + 1 ≤ 1000000; omega)
                  intro v2 w3 k1 k2 k3
                  have HL3 := hidden (show LR w3 B v2 (ln + 1) (A ++ List.replicate (i + 1) 0) by
                    have := HH.out.1.more hBr k1 (by simpa using k3) (by have := HH.out.1.len; simp at this ⊢; omega)
                    rw [List.replicate_succ']
                    first | exact this | (rw [← List.append_assoc]; exact this))
                  have HS3 := hidden (show Step (fun k => B ≤ k) w2 w3 from (HH.out.2.alloc _).grown k2 (fun k hk => .inl (HH.out.1.blk k hk)))
                  have hln3 : ln + 1 ≤ 2000 := by have h1 := HH.out.1.len; have h2 := HN.out; simp at h1; omega
                  obtain ⟨ao3, cap3, rfl⟩ := own_slice k1
                  clear k1 k2 k3
                  go_wp2
                  go_roundw
                  case rel => exact ⟨i + 1, by omega, by go_num, _, _, _, rfl, hln3, HL3.out, HS3.out⟩
                  case measure => simp [intOf]; omega
                · have e : i = N := by omega
                  subst e
                  have i1 : ¬ (i : Int) < (i : Int) := by omega
                  go_wp2
                  go_ret
                  refine ⟨_, _, _, rfl, hidden ?_⟩
                  rw [HR.out]
                  exact ⟨HS2.out.trans HH.out.2 (fun i hi => .inl (.inr (.inr hi))), HH.out.1, HO.out.ps HPN.out.1 HH.out.2, HO.out.dec HDC.out HH.out.2⟩
          · have hpn : Pn w1 w2 Z p b r M m u O most 2 := by
              rcases HG.out with ⟨h1, _⟩ | ⟨_, _, h2⟩
              · omega
              · exact h2
            have HPN := hidden hpn
            have ce := hpn.1.cells.2.2.1
            have HS2 := hidden (show Step (Zl B Z d) w w2 from Zl.on (S1.out.mono (fun i hi => hi.elim .inl (fun e => .inr (.inl e)))) hpn.2)
            have HR := hidden (show stepL C M m many t A = .error 2 by
              unfold stepL
              rw [HQ.out]
              simp only
              rw [if_neg HNO.out, HTP.out]
              unfold numP
              rw [if_neg (by omega)])
            have b2 : ((2 : Int) != 0) = true := rfl
            clear hpn HG
            go_wp2
            go_ret
            refine ⟨_, _, _, rfl, hidden ?_⟩
            rw [HR.out]
            exact ⟨HS2.out, by omega, HL2.out, _, HPN.out.1⟩
        · have hx18 : x = 18 := by omega
          have HNO := hidden (show ¬ (x = 16 ∧ A.length = 0) from fun h => g2 h.1)
          have b16 : ((x : Int) == 16) = false := by rw [beq_eq_false_iff_ne]; omega
          have b17 : ((x : Int) == 17) = false := by rw [beq_eq_false_iff_ne]; omega
          have HX := hidden hx18
          have HLV := hidden (show lenOf x A = 0 by unfold lenOf; rw [if_neg g2, if_pos (by omega)])
          clear hx18
          go_enter Tryz.func71, Tryz.ntmps71
          go_wp2_with fail
          refine hS.out.mono ?_
          rintro e w1 ⟨⟨S1, rfl, R1⟩, _⟩
          have HL1 := hidden (HL.out.step S1.out HZD.out)
          have hB1 : B ≤ w1.heap.size := by have := S1.out.size; omega
          have hGT : Hid (∀ W, PS W Z p b r M m u O most 0 → Step Z w1 W → Calls Tryz.prog 42 #[.pointer (some ⟨p, 0, none⟩), .int .i64 7] W fun e w' => ∃ x : Nat, e = .returned (.int .i64 (x : Int)) ∧ x < 2 ^ 7 ∧ Hid ((u + 7 ≤ 8 * m ∧ x = M / 2 ^ u % 2 ^ 7 ∧ Pn w1 w' Z p b r M m (u + 7) O most 0) ∨ (8 * m < u + 7 ∧ x = 0 ∧ Pn w1 w' Z p b r M m u O most 2))) :=
            hidden (fun W S2 hs => (pget_any Z p b r M m u O most 7 W S2 hm (by omega)).mono fun e w' ⟨x, he, hq, hx⟩ => ⟨x, he, hx, hidden (hq.out.imp (fun ⟨a, c, q⟩ => ⟨a, c, Pn.after hs q⟩) (fun ⟨a, c, q⟩ => ⟨a, c, Pn.after hs q⟩))⟩)
          go_wp2_with fail
          refine (hGT.out _ R1.out.1 (Step.refl _ _)).mono ?_
          rintro e w2 ⟨z, rfl, hz, HG⟩
          have HTP := hidden (show timP M m x u = numP M m u 11 7 by unfold timP; rw [if_neg g2, if_neg g4, if_pos HX.out])
          have HL2 := hidden (HL1.out.step (S := Z) (show Step Z w1 w2 by rcases HG.out with ⟨_, _, h⟩ | ⟨_, _, h⟩ <;> exact h.2) (fun k hk => HZD.out k (.inl hk)))
          have hB2 : B ≤ w2.heap.size := by have : w1.heap.size ≤ w2.heap.size := by { rcases HG.out with ⟨_, _, h⟩ | ⟨_, _, h⟩ <;> exact h.2.size }
                                            omega
          have hz2 : z ≤ 127 := by omega
          have hng : u + 7 ≤ 8 * m ∨ 8 * m < u + 7 := by omega
          rcases hng with hng | hng
          · obtain ⟨hz3, hpn⟩ : z = M / 2 ^ u % 2 ^ 7 ∧ Pn w1 w2 Z p b r M m (u + 7) O most 0 := by
              rcases HG.out with ⟨_, h1, h2⟩ | ⟨h1, _⟩
              · exact ⟨h1, h2⟩
              · omega
            have HPN := hidden hpn
            have HZ3 := hidden hz3
            have ce := hpn.1.cells.2.2.1
            have cf := hpn.1.cells.2.2.2.1
            have HDC := hidden (HB.out.dec R1.out.2 hpn.2)
            have HS2 := hidden (show Step (Zl B Z d) w w2 from Zl.on (S1.out.mono (fun i hi => hi.elim .inl (fun e => .inr (.inl e)))) hpn.2)
            have HTN := hidden (show timP M m x u = .ok (11 + z, u + 7) by rw [HTP.out]; unfold numP; rw [if_pos hng, HZ3.out])
            have b00 : ((0 : Int) != 0) = false := rfl
            clear hpn hz3 HG
            by_cases g6 : many - A.length < 11 + z
            · have HR := hidden (show stepL C M m many t A = .error 3 by
                unfold stepL
                rw [HQ.out]
                simp only
                rw [if_neg HNO.out, HTN.out]
                simp only
                rw [if_pos g6])
              have g6' : (many : Int) < (n : Int) + (11 + (z : Int)) := by have := HN.out; omega
              go_wp2
              go_ret
              refine ⟨_, _, _, rfl, hidden ?_⟩
              rw [HR.out]
              have he := HPN.out.1.err 3
              exact ⟨Zl.on HS2.out he.2, by omega, HL2.out.step (S := Z) he.2 (fun k hk => HZD.out k (.inl hk)), _, he.1⟩
            · have HR := hidden (show stepL C M m many t A = .ok (u + 7, A ++ List.replicate (11 + z) 0) by
                unfold stepL
                rw [HQ.out]
                simp only
                rw [if_neg HNO.out, HTN.out]
                simp only
                rw [if_neg g6, HLV.out])
              have g6' : ¬ (many : Int) < (n : Int) + (11 + (z : Int)) := by have := HN.out; omega
              obtain ⟨N, hN⟩ : ∃ N, N = 11 + z := ⟨_, rfl⟩
              have eN : (11 : Int) + (z : Int) = (N : Int) := by omega
              have hN2 : N ≤ 1000 := by omega
              rw [← hN] at HR
              clear hN
              go_wp2
              go_loopw [1, 12] (fun l iv W => ∃ i : Nat, i ≤ N ∧ iv = .int .i64 (i : Int) ∧ ∃ lo ln lc, l = .slice lo ln lc ∧ ln ≤ 2000 ∧ Hid (LR W B (.slice lo ln lc) ln (A ++ List.replicate i 0) ∧ Step (fun k => B ≤ k) w2 W)) (fun _ iv _ => N - (intOf iv).toNat)
              case atStart => exact ⟨0, by omega, rfl, _, _, _, rfl, by omega, by simpa using HL2.out, Step.refl _ _⟩
              case round =>
                obtain ⟨i, hi, rfl, lo, ln, lc, rfl, hln, HH⟩ := hrel
                by_cases hiN : i < N
                · have i1 : (i : Int) < (N : Int) := by omega
                  have hBr : B ≤ wr.heap.size := by have := HH.out.2.size; omega
                  go_wp2_with (at_builtin; refine wpList_append_ri rfl (.tmp 77) (.tmp 79) rfl (.slice lo ln lc) ln (A ++ List.replicate i 0) rfl (HH.out.1.own.alloc _) _ [0] rfl (ri_one' _ _ _ rfl) ?rl ?_)
                  case rl => first | omega | (show ln + 1 ≤ 1000000; omega)
                  intro v2 w3 k1 k2 k3
                  have HL3 := hidden (show LR w3 B v2 (ln + 1) (A ++ List.replicate (i + 1) 0) by
                    have := HH.out.1.more hBr k1 (by simpa using k3) (by have := HH.out.1.len; simp at this ⊢; omega)
                    rw [List.replicate_succ']
                    first | exact this | (rw [← List.append_assoc]; exact this))
                  have HS3 := hidden (show Step (fun k => B ≤ k) w2 w3 from (HH.out.2.alloc _).grown k2 (fun k hk => .inl (HH.out.1.blk k hk)))
                  have hln3 : ln + 1 ≤ 2000 := by have h1 := HH.out.1.len; have h2 := HN.out; simp at h1; omega
                  obtain ⟨ao3, cap3, rfl⟩ := own_slice k1
                  clear k1 k2 k3
                  go_wp2
                  go_roundw
                  case rel => exact ⟨i + 1, by omega, by go_num, _, _, _, rfl, hln3, HL3.out, HS3.out⟩
                  case measure => simp [intOf]; omega
                · have e : i = N := by omega
                  subst e
                  have i1 : ¬ (i : Int) < (i : Int) := by omega
                  go_wp2
                  go_ret
                  refine ⟨_, _, _, rfl, hidden ?_⟩
                  rw [HR.out]
                  exact ⟨HS2.out.trans HH.out.2 (fun i hi => .inl (.inr (.inr hi))), HH.out.1, HO.out.ps HPN.out.1 HH.out.2, HO.out.dec HDC.out HH.out.2⟩
          · have hpn : Pn w1 w2 Z p b r M m u O most 2 := by
              rcases HG.out with ⟨h1, _⟩ | ⟨_, _, h2⟩
              · omega
              · exact h2
            have HPN := hidden hpn
            have ce := hpn.1.cells.2.2.1
            have HS2 := hidden (show Step (Zl B Z d) w w2 from Zl.on (S1.out.mono (fun i hi => hi.elim .inl (fun e => .inr (.inl e)))) hpn.2)
            have HR := hidden (show stepL C M m many t A = .error 2 by
              unfold stepL
              rw [HQ.out]
              simp only
              rw [if_neg HNO.out, HTP.out]
              unfold numP
              rw [if_neg (by omega)])
            have b2 : ((2 : Int) != 0) = true := rfl
            clear hpn HG
            go_wp2
            go_ret
            refine ⟨_, _, _, rfl, hidden ?_⟩
            rw [HR.out]
            exact ⟨HS2.out, by omega, HL2.out, _, HPN.out.1⟩

end Go.Proofs.YtcgjmkcigmmjjaaGreatDoor

namespace Go.Proofs.YtcgjmkcigmmjjaaGreatDoor
open Go.RowKit
set_option maxRecDepth 100000
set_option linter.unusedVariables false
theorem Lens.of_step {C : List Int} {M m many t : Nat} {A : List Int} (hA : A.length < many) :
    (∀ y, stepL C M m many t A = .error y → Lens C M m many t A (.error y)) ∧ (∀ u A2 r, stepL C M m many t A = .ok (u, A2) → Lens C M m many u A2 r → Lens C M m many t A r) := by
  unfold stepL
  cases hq : symV C M m t with
  | error e =>
    refine ⟨fun y h => ?_, fun u A2 r h => by cases h⟩
    injection h with h; subst h
    exact Lens.bad hA hq
  | ok z =>
    obtain ⟨x, u⟩ := z
    simp only
    by_cases g : x = 16 ∧ A.length = 0
    · rw [if_pos g]
      refine ⟨fun y h => ?_, fun u A2 r h => by cases h⟩
      injection h with h; subst h
      obtain ⟨g1, g2⟩ := g
      subst g1
      exact Lens.first hA hq g2
    · rw [if_neg g]
      cases ht : timP M m x u with
      | error e =>
        refine ⟨fun y h => ?_, fun u A2 r h => by cases h⟩
        injection h with h; subst h
        exact Lens.short hA hq g ht
      | ok z =>
        obtain ⟨n, u2⟩ := z
        simp only
        by_cases g2 : many - A.length < n
        · rw [if_pos g2]
          refine ⟨fun y h => ?_, fun u A2 r h => by cases h⟩
          injection h with h; subst h
          exact Lens.over hA hq g ht g2
        · rw [if_neg g2]
          refine ⟨fun y h => (by cases h), fun u' A2 r h hr => ?_⟩
          injection h with h; injection h with h1 h2
          subst h1; subst h2
          exact Lens.more hA hq g ht (by omega) hr

theorem stepL_grow {C : List Int} {M m many t u : Nat} {A A2 : List Int} (hC : newErr C = 0) (h : stepL C M m many t A = .ok (u, A2)) : A.length < A2.length ∧ u ≤ 8 * m := by
  unfold stepL at h
  cases hq : symV C M m t with
  | error e => rw [hq] at h; cases h
  | ok z =>
    obtain ⟨x, u1⟩ := z
    rw [hq] at h
    have ha := symV_adv hC hq
    simp only at h
    split at h
    · cases h
    · have htk := timP_ok M m x u1 ha.2.2
      cases ht : timP M m x u1 with
      | error e => rw [ht] at h; cases h
      | ok z =>
        obtain ⟨n, u2⟩ := z
        rw [ht] at h htk
        obtain ⟨q1, q2, q3, q4⟩ := htk
        simp only at h
        split at h
        · cases h
        · injection h with h; injection h with h1 h2
          subst h1; subst h2
          simp
          omega

/-- The blocks of a stream alone. -/
theorem PS.small {w : World} {Z : Nat → Prop} {p b : Nat} {r : Value} {M m t : Nat} {O : List Nat} {most : Int} {e : Nat} (h : PS w Z p b r M m t O most e) : ∃ Y : Nat → Prop, (∀ k, Y k → Z k) ∧ (∀ k, Y k → k < w.heap.size) ∧ PS w Y p b r M m t O most e := by
  obtain ⟨v, h1, h2, h3, h4, h5⟩ := h
  refine ⟨fun k => k = p ∨ k = b ∨ v.ownBlock = some k, ?_, ?_, v, h1, .inl rfl, .inr (.inl rfl), fun k hk => .inr (.inr hk), ?_⟩
  · rintro k (e | e | e)
    · rw [e]; exact h2
    · rw [e]; exact h3
    · exact h4 k e
  · rintro k (e | e | e)
    · rw [e]; exact World.block_lt_of_cell? w _ h1.ci
    · rw [e]; exact World.block_lt_of_cell? w _ h1.rx.ins
    · exact (h1.ow.lt _ e).2
  · intro a n c e hne hk
    apply h5 a n c e hne
    rcases hk with e | e | e
    · rw [e]; exact h2
    · rw [e]; exact h3
    · exact h4 _ e

theorem PS.wide {w : World} {Y Z : Nat → Prop} {p b : Nat} {r : Value} {M m t : Nat} {O : List Nat} {most : Int} {e : Nat} (h : PS w Y p b r M m t O most e) (hY : ∀ k, Y k → Z k) (hr : ∀ a n c, r = .slice (some a) n c → bytesOf M m ≠ [] → ¬ Z a.block) : PS w Z p b r M m t O most e := by
  obtain ⟨v, h1, h2, h3, h4, h5⟩ := h
  exact ⟨v, h1, hY _ h2, hY _ h3, fun k hk => hY _ (h4 k hk), hr⟩

/-- The page's stream when so many bits were asked for, one number behind the other. -/
def GS (w0 : World) (Z : Nat → Prop) (p b : Nat) (r : Value) (M m t : Nat) (O : List Nat) (most : Int) (k : Nat) (w : World) : Prop :=
  (t + k ≤ 8 * m ∧ PS w Z p b r M m (t + k) O most 0) ∨ (8 * m < t + k ∧ ∃ t', PS w Z p b r M m t' O most 2)

theorem pgs_any (w0 : World) (Z : Nat → Prop) (p b : Nat) (r : Value) (M m t : Nat) (O : List Nat) (most : Int) (k n : Nat) (w : World) (h : GS w0 Z p b r M m t O most k w) (hm : m ≤ 1000000) (hn : n ≤ 24) :
    Calls Tryz.prog 42 #[.pointer (some ⟨p, 0, none⟩), .int .i64 n] w fun e w' => ∃ x : Nat, e = .returned (.int .i64 (x : Int)) ∧ x < 2 ^ n ∧ Hid (GS w0 Z p b r M m t O most (k + n) w' ∧ (t + (k + n) ≤ 8 * m → x = M / 2 ^ (t + k) % 2 ^ n) ∧ Step Z w w') := by
  rcases h with ⟨h1, h2⟩ | ⟨h1, t', h2⟩
  · refine (pget_any Z p b r M m (t + k) O most n w h2 hm hn).mono fun e w' ⟨x, he, hq, hx⟩ => ⟨x, he, hx, hidden ?_⟩
    rcases hq.out with ⟨a1, a2, a3⟩ | ⟨a1, a2, a3⟩
    · exact ⟨.inl ⟨by omega, by rw [← Nat.add_assoc]; exact a3.1⟩, fun _ => a2, a3.2⟩
    · exact ⟨.inr ⟨by omega, _, a3.1⟩, fun h => by omega, a3.2⟩
  · obtain ⟨v, hx, hh⟩ := id h2
    refine (pget_err p b r v M m t' O most n 2 w hx (by omega)).mono fun e w' ⟨he, hw⟩ => ⟨0, he, Nat.two_pow_pos n, hidden ?_⟩
    subst hw
    exact ⟨.inr ⟨by omega, t', h2⟩, fun h => by omega, Step.refl _ _⟩

theorem GS.far {w0 : World} {S Z : Nat → Prop} {w w' : World} {p b : Nat} {r : Value} {M m t : Nat} {O : List Nat} {most : Int} {k : Nat} (h : GS w0 Z p b r M m t O most k w) (hs : Step S w w') (h1 : ∀ k, S k → ¬ Z k) (h2 : ∀ a n c, r = .slice (some a) n c → ¬ S a.block) : GS w0 Z p b r M m t O most k w' := by
  rcases h with ⟨a1, a2⟩ | ⟨a1, t', a2⟩
  · exact .inl ⟨a1, a2.far hs h1 (fun a n c e _ => h2 a n c e)⟩
  · exact .inr ⟨a1, t', a2.far hs h1 (fun a n c e _ => h2 a n c e)⟩

theorem GS.cell {w0 : World} {Z : Nat → Prop} {w : World} {p b : Nat} {r : Value} {M m t : Nat} {O : List Nat} {most : Int} {k : Nat} (h : GS w0 Z p b r M m t O most k w) : w.cell? ⟨p, 3, none⟩ = some (.int .i64 (if t + k ≤ 8 * m then 0 else 2)) ∧ w.frozen? ⟨p, 3, none⟩ = false := by
  rcases h with ⟨a1, a2⟩ | ⟨a1, t', a2⟩
  · rw [if_pos a1]; exact ⟨a2.cells.2.2.1, a2.cells.2.2.2.1⟩
  · rw [if_neg (by omega)]; exact ⟨a2.cells.2.2.1, a2.cells.2.2.2.1⟩

end Go.Proofs.YtcgjmkcigmmjjaaGreatDoor

namespace Go.Proofs.YtcgjmkcigmmjjaaGreatDoor
open Go.RowKit
set_option maxRecDepth 100000
set_option linter.unusedVariables false
/-- What lengths leave. -/
def PLensE (w : World) (Z : Nat → Prop) (p b : Nat) (r : Value) (M m : Nat) (O : List Nat) (most : Int) (x : Except Nat (Nat × Nat × List Int)) (v : Value) (z : Int) (w' : World) : Prop :=
  Step Z w w' ∧
  match x with
  | .error y => 0 < y ∧ ∃ t', PS w' Z p b r M m t' O most y
  | .ok (lit, u, A) => z = (lit : Int) ∧ 257 ≤ lit ∧ lit < A.length ∧ A.length ≤ 1000 ∧ Ri w' v A ∧ (∀ j, v.ownBlock = some j → w.heap.size ≤ j) ∧ PS w' Z p b r M m u O most 0

theorem newErr_two (L : List Int) : newErr L = 0 ∨ newErr L = 1 ∨ newErr L = 21 := by
  unfold newErr
  split
  · split
    · exact .inl rfl
    · exact .inr (.inr rfl)
  · exact .inr (.inl rfl)

/-- The lengths of lengths' codes, i of them read. -/
def ClI (w5 : World) (w0 : World) (Y : Nat → Prop) (p b : Nat) (r : Value) (M m t : Nat) (O : List Nat) (most : Int) (cb i : Nat) (W : World) : Prop :=
  GS w0 Y p b r M m t O most (14 + 3 * i) W ∧ (∃ f, Af W cb 19 f ∧ (t + (14 + 3 * i) ≤ 8 * m → ∀ j, j < 19 → f j = clF M (t + 14) i j)) ∧ Step (fun k => Y k ∨ k = cb) w5 W

/-- Lengths, between two symbols. -/
def L2 (w6 : World) (B : Nat) (Y : Nat → Prop) (p b : Nat) (r : Value) (M m : Nat) (O : List Nat) (most : Int) (d : Nat) (C : List Int) (vc vl : Value) (many t0 : Nat) (k : Nat) (v : Value) (n e : Nat) (W : World) : Prop :=
  Step (Zl B Y d) w6 W ∧ ∃ A, LR W B v n A ∧ A.length ≤ many ∧
  ((e = 0 ∧ ∃ u, k = many + 1 - A.length ∧ (∀ r, Lens C M m many u A r → Lens C M m many t0 [] r) ∧ PS W Y p b r M m u O most 0 ∧ RDec W d C vc vl 0 0) ∨
   (0 < e ∧ Lens C M m many t0 [] (.error e) ∧ ∃ t', PS W Y p b r M m t' O most e))

theorem L2.cell {w6 : World} {B : Nat} {Y : Nat → Prop} {p b : Nat} {r : Value} {M m : Nat} {O : List Nat} {most : Int} {d : Nat} {C : List Int} {vc vl : Value} {many t0 k : Nat} {v : Value} {n e : Nat} {W : World} (h : L2 w6 B Y p b r M m O most d C vc vl many t0 k v n e W) : W.cell? ⟨p, 3, none⟩ = some (.int .i64 (e : Int)) := by
  obtain ⟨_, A, _, _, ⟨rfl, u, _, _, hp, _⟩ | ⟨_, _, t', hp⟩⟩ := h
  · exact hp.cells.2.2.1
  · exact hp.cells.2.2.1

theorem stepL_le {C : List Int} {M m many t u : Nat} {A A2 : List Int} (h : stepL C M m many t A = .ok (u, A2)) (hA : A.length < many) : A2.length ≤ many := by
  unfold stepL at h
  cases hq : symV C M m t with
  | error e => rw [hq] at h; cases h
  | ok z =>
    obtain ⟨x, u1⟩ := z
    rw [hq] at h
    simp only at h
    split at h
    · cases h
    · cases ht : timP M m x u1 with
      | error e => rw [ht] at h; cases h
      | ok z =>
        obtain ⟨n, u2⟩ := z
        rw [ht] at h
        simp only at h
        split at h
        · cases h
        · injection h with h; injection h with h1 h2
          subst h1; subst h2
          simp
          omega

set_option maxHeartbeats 8000000 in
theorem plengths_any (Z : Nat → Prop) (p b : Nat) (r : Value) (M m t : Nat) (O : List Nat) (most : Int) (w : World) (h : PS w Z p b r M m t O most 0) (hm : m ≤ 1000000) (hr : ∀ a n c, r = .slice (some a) n c → a.block < w.heap.size) :
    Calls Tryz.prog 45 #[.pointer (some ⟨p, 0, none⟩)] w fun e w' => ∃ lo ln lc z, e = .returned (.tuple #[.slice lo ln lc, .int .i64 z]) ∧ Hid (PLensE w Z p b r M m O most (lensR M m t) (.slice lo ln lc) z w') := by
  have HRZ := hidden (show ∀ a n c, r = .slice (some a) n c → bytesOf M m ≠ [] → ¬ Z a.block by obtain ⟨v, _, _, _, _, h5⟩ := h; exact h5)
  have hle : t ≤ 8 * m := by obtain ⟨v, hx, _⟩ := h; exact hx.rx.le
  obtain ⟨Y, hYZ, hYlt, hY⟩ := h.small
  have HYZ := hidden hYZ
  have HYL := hidden hYlt
  have HRW := hidden hr
  have hG1 := hidden (pgs_any w Y p b r M m t O most 0 5 w (.inl ⟨by omega, hY⟩) hm (by omega))
  have hG2 := hidden (fun W (hW : GS w Y p b r M m t O most (0 + 5) W) => pgs_any w Y p b r M m t O most (0 + 5) 5 W hW hm (by omega))
  have hG3 := hidden (fun W (hW : GS w Y p b r M m t O most (0 + 5 + 5) W) => pgs_any w Y p b r M m t O most (0 + 5 + 5) 4 W hW hm (by omega))
  clear h hY hYZ hYlt hr
  by_cases g1 : t + 14 ≤ 8 * m
  · have b00 : ((0 : Int) != 0) = false := rfl
    go_enter Tryz.func45, Tryz.ntmps45
    go_wp2_with fail
    refine hG1.out.mono ?_
    rintro e w1 ⟨x1, rfl, hx1, R1⟩
    go_wp2_with fail
    refine (hG2.out _ R1.out.1).mono ?_
    rintro e w2 ⟨x2, rfl, hx2, R2⟩
    go_wp2_with fail
    refine (hG3.out _ R2.out.1).mono ?_
    rintro e w3 ⟨x3, rfl, hx3, R3⟩
    have HS3 := hidden (show Step Y w w3 from (R1.out.2.2.trans R2.out.2.2 (fun i hi => .inl hi)).trans R3.out.2.2 (fun i hi => .inl hi))
    have HG := hidden R3.out.1
    have HX := hidden (show x1 = M / 2 ^ t % 32 ∧ x2 = M / 2 ^ (t + 5) % 32 ∧ x3 = M / 2 ^ (t + 10) % 16 from ⟨R1.out.2.1 (by omega), R2.out.2.1 (by omega), R3.out.2.1 (by omega)⟩)
    have hce := R3.out.1.cell
    rw [if_pos (by omega)] at hce
    obtain ⟨ce, cf⟩ := hce
    have hx1' : x1 < 32 := hx1
    have hx2' : x2 < 32 := hx2
    have hx3' : x3 < 16 := hx3
    clear R1 R2 R3 hx1 hx2 hx3 hG1 hG2 hG3
    have HLR := hidden (show lensR M m t = (if 286 < x1 + 257 ∨ 30 < x2 + 1 then .error 3
      else if t + 14 + 3 * (x3 + 4) ≤ 8 * m then
        if newErr (clL M (t + 14) (x3 + 4)) = 0 then
          lensB (x1 + 257) (lensV (clL M (t + 14) (x3 + 4)) M m (x1 + 257 + (x2 + 1)) (t + 14 + 3 * (x3 + 4)))
        else .error (newErr (clL M (t + 14) (x3 + 4))).toNat
      else .error 2) by
        unfold lensR
        rw [if_pos g1, ← HX.out.1, ← HX.out.2.1, ← HX.out.2.2])
    by_cases g2 : 286 < x1 + 257 ∨ 30 < x2 + 1
    · have HR := hidden (show lensR M m t = .error 3 by rw [HLR.out, if_pos g2])
      have HPS := hidden (show PS w3 Y p b r M m (t + (0 + 5 + 5 + 4)) O most 0 by
        rcases HG.out with ⟨_, h⟩ | ⟨h, _⟩
        · exact h
        · omega)
      clear HLR
      by_cases g2a : 286 < x1 + 257
      · have g2' : 286 < (x1 : Int) + 257 := by omega
        go_wp2
        go_ret2
        refine ⟨_, _, _, _, rfl, hidden ?_⟩
        rw [HR.out]
        have he := HPS.out.err 3
        exact ⟨(HS3.out.trans he.2 (fun i hi => .inl hi)).mono HYZ.out, by omega, _, he.1.wide HYZ.out HRZ.out⟩
      · have g2' : ¬ 286 < (x1 : Int) + 257 := by omega
        have g2'' : 30 < (x2 : Int) + 1 := by omega
        go_wp2
        go_ret2
        refine ⟨_, _, _, _, rfl, hidden ?_⟩
        rw [HR.out]
        have he := HPS.out.err 3
        exact ⟨(HS3.out.trans he.2 (fun i hi => .inl hi)).mono HYZ.out, by omega, _, he.1.wide HYZ.out HRZ.out⟩
    · have g2' : ¬ 286 < (x1 : Int) + 257 := by omega
      have g2'' : ¬ 30 < (x2 : Int) + 1 := by omega
      have HLR2 := hidden HLR.out
      rw [if_neg g2] at HLR2
      clear HLR
      go_wp2_with (refine makeInts 19 _ rfl rfl rfl (by omega) ?_)
      intro w5 hs5 hz5 ha5
      have hw3 := HS3.out.size
      obtain ⟨cb, hcb⟩ : ∃ cb, cb = w3.heap.size := ⟨_, rfl⟩
      rw [← hcb] at ha5 ⊢
      have HG5 := hidden (show ClI w5 w Y p b r M m t O most cb 0 w5 from ⟨HG.out.far hs5 (fun k hk => hk.elim) (fun _ _ _ _ hk => hk.elim), ⟨_, ha5, fun _ j hj => rfl⟩, Step.refl _ _⟩)
      have HS5 := hidden (show Step Y w w5 from HS3.out.trans hs5 (fun _ hk => hk.elim))
      have HCB := hidden (show cb < w5.heap.size ∧ w.heap.size ≤ cb from ⟨by omega, by omega⟩)
      clear hs5 ha5 HG ce cf hcb
      go_wp2
      go_loopw [8] (fun iv W => ∃ i : Nat, i ≤ x3 + 4 ∧ iv = .int .i64 (i : Int) ∧ Hid (ClI w5 w Y p b r M m t O most cb i W)) (fun iv _ => x3 + 4 - (intOf iv).toNat)
      case atStart => exact ⟨0, by omega, rfl, HG5.out⟩
      case round =>
        obtain ⟨i, hi, rfl, HC⟩ := hrel
        by_cases hi4 : i < x3 + 4
        · have i1 : (i : Int) < (x3 : Int) + 4 := by omega
          have hPL := hidden (place_any i (by omega) wr)
          have hor := ord_lt i
          have hGT := hidden (fun W (hW : GS w Y p b r M m t O most (14 + 3 * i) W) => pgs_any w Y p b r M m t O most (14 + 3 * i) 3 W hW hm (by omega))
          go_wp2_with fail
          refine hPL.out.mono ?_
          rintro e w7 ⟨rfl, S7⟩
          go_wp2_with fail
          refine (hGT.out _ (HC.out.1.far S7.out (fun k hk => hk.elim) (fun _ _ _ _ hk => hk.elim))).mono ?_
          rintro e w8 ⟨x, rfl, hx, R8⟩
          have HF : Hid (∃ f, Af w8 cb 19 f ∧ (t + (14 + 3 * i) ≤ 8 * m → ∀ j, j < 19 → f j = clF M (t + 14) i j)) := hidden (by
            obtain ⟨f, hf, hf2⟩ := HC.out.2.1
            exact ⟨f, (hf.made S7.out).step R8.out.2.2 (fun hy => by have := HYL.out cb hy; have := HCB.out; omega), hf2⟩)
          obtain ⟨f, hf, hf2⟩ := HF.out
          obtain ⟨cs, cz⟩ := hf (ord i) hor
          have hor' : ((ord i : Nat) : Int) < 19 := by omega
          have HN : Hid (ClI w5 w Y p b r M m t O most cb (i + 1) (w8.setCell ⟨cb, ord i, none⟩ (.int .i64 (x : Int)))) := hidden (by
            have hS : Step (fun k => k = cb) w8 (w8.setCell ⟨cb, ord i, none⟩ (.int .i64 (x : Int))) := (Step.refl (fun k => k = cb) w8).setCell ⟨cb, ord i, none⟩ _ (.inl rfl)
            refine ⟨?_, ⟨_, hf.set (ord i) (x : Int), fun hle2 j hj => ?_⟩, ((HC.out.2.2.trans S7.out (fun _ hk => hk.elim)).trans R8.out.2.2 (fun k hk => .inl (.inl hk))).trans hS (fun k hk => .inl (.inr hk))⟩
            · have := R8.out.1.far hS (fun k hk hy => by have := HYL.out k hy; have := HCB.out; omega) (fun a n c e hk => by have := HRW.out a n c e; have := HCB.out; omega)
              rw [show 14 + 3 * (i + 1) = 14 + 3 * i + 3 by omega]
              exact this
            · unfold upd
              simp only [clF]
              by_cases ej : j = ord i
              · rw [if_pos ej, if_pos ej, R8.out.2.1 (by omega), show t + (14 + 3 * i) = t + 14 + 3 * i by omega]
              · rw [if_neg ej, if_neg ej]
                exact hf2 (by omega) j hj)
          clear hf hf2
          generalize ord i = oi at *
          go_wp2
          go_roundw
          case rel => exact ⟨i + 1, by omega, by go_num, HN.out⟩
          case measure => simp [intOf]; omega
        · have e : i = x3 + 4 := by omega
          have HE := hidden e
          have i1 : ¬ (i : Int) < (x3 : Int) + 4 := by omega
          have hce := HC.out.1.cell
          by_cases g3 : t + 14 + 3 * (x3 + 4) ≤ 8 * m
          · rw [if_pos (by omega)] at hce
            obtain ⟨ce, cf⟩ := hce
            have HLR3 := hidden HLR2.out
            rw [if_pos g3] at HLR3
            clear HLR2
            have HPS := hidden (show PS wr Y p b r M m (t + 14 + 3 * (x3 + 4)) O most 0 by
              rcases HC.out.1 with ⟨_, h⟩ | ⟨h, _⟩
              · rw [show t + 14 + 3 * (x3 + 4) = t + (14 + 3 * i) by have := HE.out; omega]; exact h
              · have := HE.out; omega)
            have HCL := hidden (show Ri wr (.slice (some ⟨cb, 0, none⟩) 19 19) (clL M (t + 14) (x3 + 4)) by
              obtain ⟨f, hf, hf2⟩ := HC.out.2.1
              refine hf.ri (clL_length _ _ _) (Nat.le_refl _) (fun j hj => ?_)
              rw [clL_getD _ _ _ _ hj, hf2 (by have := HE.out; omega) j hj, HE.out])
            have hNW := hidden (refNew_any _ _ wr HCL.out (by rw [clL_length]; omega))
            have HS6 := hidden (show Step Y w wr from HS5.out.trans HC.out.2.2 (fun k hk => hk.elim .inl (fun e => .inr (by rw [e]; exact HCB.out.2))))
            have HC19 := hidden (clL_length M (t + 14) (x3 + 4))
            have hn2 := newErr_two (clL M (t + 14) (x3 + 4))
            obtain ⟨t0, ht0⟩ : ∃ t0, t0 = t + 14 + 3 * (x3 + 4) := ⟨_, rfl⟩
            rw [← ht0] at HPS HLR3
            have HT0 := hidden (show t0 ≤ 8 * m by omega)
            clear HC HCL e ht0
            generalize clL M (t + 14) (x3 + 4) = C at *
            by_cases g4 : newErr C = 0
            · have HLR4 := hidden HLR3.out
              rw [if_pos g4] at HLR4
              have HG4 := hidden g4
              clear HLR3 g4 hn2
              go_wp2_with fail
              refine hNW.out.mono ?_
              rintro e w6 (⟨hn, _⟩ | ⟨_, d, vc, vl, rfl, hd6, hdec, hvc, hvl, hs6⟩)
              · exact absurd HG4.out hn
              have hw6 := hs6.size
              have hww := HS6.out.size
              have hdlt : d < w6.heap.size := World.block_lt_of_cell? w6 _ hdec.c0
              have HPS6 := hidden (HPS.out.far hs6 (fun k hk => hk.elim) (fun _ _ _ _ _ hk => hk.elim))
              have HOLD := hidden (show Old w6.heap.size Y r d from ⟨fun k hk => by have := HYL.out k hk; omega, hdlt, fun a n c e => by have := HRW.out a n c e; omega⟩)
              have HPB := hidden (show PB Y r d C vc vl from ⟨fun hk => by have := HYL.out d hk; omega, fun a n c e => by have := HRW.out a n c e; omega, fun a n c e _ hk => by have := HYL.out _ hk; have := hvc a n c e; omega, fun a n c e _ hk => by have := HYL.out _ hk; have := hvl a n c e; omega⟩)
              have HDEC := hidden hdec
              have HD := hidden (And.intro hd6 hdlt)
              have HS66 := hidden (show Step Y w w6 from HS6.out.trans hs6 (fun _ hk => hk.elim))
              obtain ⟨many, hmany⟩ : ∃ many, many = x1 + 257 + (x2 + 1) := ⟨_, rfl⟩
              have em : (x1 : Int) + 257 + ((x2 : Int) + 1) = (many : Int) := by omega
              have hm1 : many ≤ 1000 := by omega
              have HMY := hidden hmany
              have HLR5 := hidden HLR4.out
              rw [← hmany] at HLR5
              have hLN := hidden (fun (W : World) (u : Nat) (A : List Int) (lo : Option Addr) (ln lc : Nat) (h1 : PS W Y p b r M m u O most 0) (h2 : RDec W d C vc vl 0 0) (h3 : LR W w6.heap.size (.slice lo ln lc) ln A) (h4 : A.length < many) (h5 : w6.heap.size ≤ W.heap.size) => plength_any w6.heap.size Y p b r M m u O most d C vc vl lo ln lc many A W h1 h2 HPB.out HOLD.out h5 h3 hm HG4.out hm1 h4 HC19.out)
              clear HLR4 hdec hvc hvl hs6 hmany hNW ce cf hd6
              go_wp2
              go_loopg [11] (many + 1) (fun k l W => ∃ lo ln lc e, l = .slice lo ln lc ∧ ln ≤ many ∧ Hid (L2 w6 w6.heap.size Y p b r M m O most d C vc vl many t0 k (.slice lo ln lc) ln e W))
              case atStart => exact ⟨none, 0, 0, 0, rfl, by omega, hidden ⟨Step.refl _ _, [], ⟨World.ownsRow_nil _ _ _ _, (fun j h => by simp [Value.ownBlock] at h), rfl⟩, by simp, .inl ⟨rfl, t0, by simp, fun _ h => h, HPS6.out, HDEC.out⟩⟩⟩
              case round =>
                obtain ⟨lo, ln, lc, e, rfl, hln, HH⟩ := hrel
                have ce := HH.out.cell
                obtain ⟨hst, A, hlr, hAm, hcase⟩ := HH.out
                have HST := hidden hst
                have HLRW := hidden hlr
                have hlen := hlr.len
                have HLEN := hidden hlen
                have HAM := hidden hAm
                by_cases he : e = 0
                · subst he
                  obtain ⟨_, u, hk, hsy, hps, hdc⟩ | ⟨h0, _⟩ := hcase
                  · have HK := hidden hk
                    have HSY := hidden hsy
                    have HPSu := hidden hps
                    have HDCu := hidden hdc
                    clear HH hst hlr hk hsy hps hdc
                    by_cases hlm : ln < many
                    · have l1 : (ln : Int) < (many : Int) := by omega
                      have hCL := hidden (hLN.out wr u A lo ln lc HPSu.out HDCu.out HLRW.out (by omega) HST.out.size)
                      have HOF := hidden (Lens.of_step (C := C) (M := M) (m := m) (many := many) (t := u) (A := A) (by omega))
                      clear hlen hAm
                      go_wp2_with fail
                      refine hCL.out.mono ?_
                      rintro e w8 ⟨lo8, ln8, lc8, rfl, R8⟩
                      have HN : Hid (∃ k e, k < many + 1 - A.length ∧ ln8 ≤ many ∧ L2 w6 w6.heap.size Y p b r M m O most d C vc vl many t0 k (.slice lo8 ln8 lc8) ln8 e w8) := hidden (by
                        have hA := HLEN.out
                        have hr8 := R8.out
                        obtain ⟨s8, hr8⟩ := hr8
                        cases hq : stepL C M m many u A with
                        | error y =>
                          rw [hq] at hr8
                          obtain ⟨hy, hlr8, t', hp8⟩ := hr8
                          exact ⟨0, y, by omega, by rw [hlr8.len]; exact HAM.out, HST.out.trans s8 (fun i hi => .inl hi), A, hlr8, HAM.out, .inr ⟨hy, HSY.out _ (HOF.out.1 y hq), t', hp8⟩⟩
                        | ok z =>
                          obtain ⟨u2, A2⟩ := z
                          rw [hq] at hr8
                          obtain ⟨hlr8, hp8, hd8⟩ := hr8
                          have hg := stepL_grow HG4.out hq
                          have hle2 := stepL_le hq (by omega)
                          exact ⟨many + 1 - A2.length, 0, by omega, by rw [hlr8.len]; exact hle2, HST.out.trans s8 (fun i hi => .inl hi), A2, hlr8, hle2, .inl ⟨rfl, u2, rfl, fun r hr => HSY.out r (HOF.out.2 u2 A2 r hq hr), hp8, hd8⟩⟩)
                      obtain ⟨k8, e8, hk8, hl8, hN8⟩ := HN.out
                      have HN8 := hidden hN8
                      have hkk := HK.out
                      clear HN hN8
                      go_wp2
                      go_roundg k8
                      case measure => omega
                      case rel => exact ⟨lo8, ln8, lc8, e8, rfl, hl8, HN8.out⟩
                    · have l1 : ¬ (ln : Int) < (many : Int) := by omega
                      have HV := hidden (show lensV C M m many t0 = .ok (u, A) from (HSY.out _ (Lens.done (by omega))).val)
                      clear hlen hAm
                      go_wp2
                      go_ret2
                      refine ⟨_, _, _, _, rfl, hidden ?_⟩
                      rw [HLR5.out, HV.out]
                      refine ⟨?_, ?_, by omega, by have := HLEN.out; have := HMY.out; omega, by have := HAM.out; omega, Ri.of_own HLRW.out.own, fun j hj => (by have := HLRW.out.blk j hj; omega), HPSu.out.wide HYZ.out HRZ.out⟩
                      · exact (HS66.out.trans HST.out (fun k hk => by
                          rcases hk with h | h | h
                          · exact .inl h
                          · exact .inr (by have := HD.out; omega)
                          · exact .inr (by omega))).mono HYZ.out
                      · omega
                  · omega
                · obtain ⟨h0, _⟩ | ⟨hy, hsy, t', hps⟩ := hcase
                  · exact absurd h0 he
                  · have HV := hidden (show lensV C M m many t0 = .error e from hsy.val)
                    have HPSe := hidden hps
                    have be : ((e : Int) == 0) = false := by rw [beq_eq_false_iff_ne]; omega
                    clear HH hst hlr hsy hps hlen hAm
                    by_cases hlm : ln < many
                    · have l1 : (ln : Int) < (many : Int) := by omega
                      go_wp2
                      go_ret2
                      refine ⟨_, _, _, _, rfl, hidden ?_⟩
                      rw [HLR5.out, HV.out]
                      refine ⟨?_, hy, t', HPSe.out.wide HYZ.out HRZ.out⟩
                      exact (HS66.out.trans HST.out (fun k hk => by
                        rcases hk with h | h | h
                        · exact .inl h
                        · exact .inr (by have := HD.out; omega)
                        · exact .inr (by omega))).mono HYZ.out
                    · have l1 : ¬ (ln : Int) < (many : Int) := by omega
                      go_wp2
                      go_ret2
                      refine ⟨_, _, _, _, rfl, hidden ?_⟩
                      rw [HLR5.out, HV.out]
                      refine ⟨?_, hy, t', HPSe.out.wide HYZ.out HRZ.out⟩
                      exact (HS66.out.trans HST.out (fun k hk => by
                        rcases hk with h | h | h
                        · exact .inl h
                        · exact .inr (by have := HD.out; omega)
                        · exact .inr (by omega))).mono HYZ.out
            · have HLR4 := hidden HLR3.out
              rw [if_neg g4] at HLR4
              obtain ⟨ne, hne⟩ : ∃ ne : Nat, newErr C = (ne : Int) ∧ 0 < ne := by
                rcases hn2 with h | h | h
                · exact absurd h g4
                · exact ⟨1, by rw [h]; rfl, by omega⟩
                · exact ⟨21, by rw [h]; rfl, by omega⟩
              have HNE := hidden hne.1
              have hne0 : 0 < ne := hne.2
              have bne0 : ((ne : Int) != 0) = true := by rw [bne_iff_ne]; omega
              clear HLR3 hn2 hne
              go_wp2_with fail
              refine hNW.out.mono ?_
              rintro e w6 (⟨_, rfl, hs6⟩ | ⟨hn, _⟩)
              · rw [HNE.out]
                have HPS6 := hidden (HPS.out.far hs6 (fun k hk => hk.elim) (fun _ _ _ _ _ hk => hk.elim))
                have ce6 := HPS6.out.cells.2.2.1
                have cf6 := HPS6.out.cells.2.2.2.1
                have HS66 := hidden (show Step Y w w6 from HS6.out.trans hs6 (fun _ hk => hk.elim))
                clear hs6
                go_wp2
                go_ret2
                refine ⟨_, _, _, _, rfl, hidden ?_⟩
                rw [HLR4.out, HNE.out]
                have he := HPS6.out.err ne
                exact ⟨(HS66.out.trans he.2 (fun i hi => .inl hi)).mono HYZ.out, by simpa using hne0, _, he.1.wide HYZ.out HRZ.out⟩
              · exact absurd hn g4
          · rw [if_neg (by omega)] at hce
            obtain ⟨ce, cf⟩ := hce
            have HR := hidden HLR2.out
            rw [if_neg g3] at HR
            have b2 : ((2 : Int) != 0) = true := rfl
            have HS6 := hidden (show Step Y w wr from HS5.out.trans HC.out.2.2 (fun k hk => hk.elim .inl (fun e => .inr (by rw [e]; exact HCB.out.2))))
            clear e
            go_wp2
            go_ret2
            refine ⟨_, _, _, _, rfl, hidden ?_⟩
            rw [HR.out]
            refine ⟨HS6.out.mono HYZ.out, by omega, ?_⟩
            rcases HC.out.1 with ⟨h, _⟩ | ⟨_, t', h⟩
            · have := HE.out; omega
            · exact ⟨t', h.wide HYZ.out HRZ.out⟩
  · have HR := hidden (show lensR M m t = .error 2 by unfold lensR; rw [if_neg g1])
    have b2 : ((2 : Int) != 0) = true := rfl
    go_enter Tryz.func45, Tryz.ntmps45
    go_wp2_with fail
    refine hG1.out.mono ?_
    rintro e w1 ⟨x1, rfl, hx1, R1⟩
    go_wp2_with fail
    refine (hG2.out _ R1.out.1).mono ?_
    rintro e w2 ⟨x2, rfl, hx2, R2⟩
    go_wp2_with fail
    refine (hG3.out _ R2.out.1).mono ?_
    rintro e w3 ⟨x3, rfl, hx3, R3⟩
    have hce := R3.out.1.cell
    rw [if_neg (by omega)] at hce
    obtain ⟨ce, cf⟩ := hce
    have hx1' : x1 < 32 := hx1
    have hx2' : x2 < 32 := hx2
    have hx3' : x3 < 16 := hx3
    clear hx1 hx2 hx3
    go_wp2
    go_ret2
    refine ⟨_, _, _, _, rfl, hidden ?_⟩
    rw [HR.out]
    refine ⟨((R1.out.2.2.trans R2.out.2.2 (fun i hi => .inl hi)).trans R3.out.2.2 (fun i hi => .inl hi)).mono HYZ.out, by omega, ?_⟩
    rcases R3.out.1 with ⟨h, _⟩ | ⟨_, t', h⟩
    · omega
    · exact ⟨t', h.wide HYZ.out HRZ.out⟩

end Go.Proofs.YtcgjmkcigmmjjaaGreatDoor

namespace Go.Proofs.YtcgjmkcigmmjjaaGreatDoor
open Go.RowKit
set_option maxRecDepth 100000
set_option linter.unusedVariables false
/-- What symbols by two decoders leave, seen from the stream. -/
def PSy (w : World) (Z : Nat → Prop) (p b : Nat) (r : Value) (M m : Nat) (most : Int) (x : Except Nat (Nat × List Nat)) (w' : World) : Prop :=
  Step Z w w' ∧
  match x with
  | .error y => 0 < y ∧ ∃ t' O', PS w' Z p b r M m t' O' most y
  | .ok (u, Q) => PS w' Z p b r M m u Q most 0 ∧ Q.length ≤ 258 * u

theorem psyms_blk (Z : Nat → Prop) (p b : Nat) (r : Value) (M m u : Nat) (O : List Nat) (most : Int) (L D : List Int) (d1 d2 : Nat) (c1 l1 c2 l2 : Value) (w w5 w6 w7 : World) (hZ : ∀ k, w.heap.size ≤ k → Z k) (hw : w.heap.size ≤ w5.heap.size) (hst : Step Z w w5) (h : PS w5 Z p b r M m u O most 0) (hr : ∀ a n c, r = .slice (some a) n c → a.block < w5.heap.size)
    (h6 : Step (fun _ => False) w5 w6) (h7 : Step (fun _ => False) w6 w7) (k1 : w5.heap.size ≤ d1) (k2 : w6.heap.size ≤ d2) (e1 : RDec w6 d1 L c1 l1 0 0) (e2 : RDec w7 d2 D c2 l2 0 0) (v1 : ∀ a n c, c1 = .slice (some a) n c → w5.heap.size ≤ a.block) (v2 : ∀ a n c, l1 = .slice (some a) n c → w5.heap.size ≤ a.block) (v3 : ∀ a n c, c2 = .slice (some a) n c → w6.heap.size ≤ a.block) (v4 : ∀ a n c, l2 = .slice (some a) n c → w6.heap.size ≤ a.block)
    (hm : m ≤ 1000000) (hL : newErr L = 0) (hD : newErr D = 0) (hO : O.length ≤ 258 * u) (h0 : 0 ≤ most) (h1 : most ≤ 9223372036854775807) :
    Calls Tryz.prog 47 #[.pointer (some ⟨p, 0, none⟩), .pointer (some ⟨d1, 0, none⟩), .pointer (some ⟨d2, 0, none⟩)] w7 fun e w' => e = .returned (.tuple #[]) ∧ Hid (PSy w Z p b r M m most (symsV L D M m most u O) w') := by
  have hrz : ∀ a n c, r = .slice (some a) n c → bytesOf M m ≠ [] → ¬ Z a.block := by obtain ⟨v, _, _, _, _, h5⟩ := h; exact h5
  have hd1 : d1 < w6.heap.size := World.block_lt_of_cell? w6 _ e1.c0
  have hd2 : d2 < w7.heap.size := World.block_lt_of_cell? w7 _ e2.c0
  have s6 := h6.size
  have s7 := h7.size
  obtain ⟨Y, hYZ, hYlt, hY⟩ := h.small
  have hps : PS w7 (fun k => Z k ∧ ¬ (w5.heap.size ≤ k ∧ k < w7.heap.size)) p b r M m u O most 0 :=
    ((hY.wide (fun k hk => ⟨hYZ k hk, fun q => by have := hYlt k hk; omega⟩) (fun a n c e1 e2 hk => hrz a n c e1 e2 hk.1)).far h6 (fun k hk => hk.elim) (fun _ _ _ _ _ hk => hk.elim)).far h7 (fun k hk => hk.elim) (fun _ _ _ _ _ hk => hk.elim)
  have hc1 : ∀ a n c, c1 = .slice (some a) n c → codes L ≠ [] → a.block < d1 := e1.nc
  have hpb : PBs (fun k => Z k ∧ ¬ (w5.heap.size ≤ k ∧ k < w7.heap.size)) r d1 L c1 l1 d2 D c2 l2 := by
    refine ⟨⟨fun q => q.2 ⟨k1, by omega⟩, fun a n c e => by have := hr a n c e; omega, fun a n c e q1 q => q.2 ⟨v1 a n c e, by have := e1.nc a n c e q1; omega⟩, fun a n c e q1 q => q.2 ⟨v2 a n c e, by have := e1.nl a n c e q1; omega⟩⟩,
      ⟨fun q => q.2 ⟨by omega, hd2⟩, fun a n c e => by have := hr a n c e; omega, fun a n c e q1 q => q.2 ⟨by have := v3 a n c e; omega, by have := e2.nc a n c e q1; omega⟩, fun a n c e q1 q => q.2 ⟨by have := v4 a n c e; omega, by have := e2.nl a n c e q1; omega⟩⟩, by omega,
      fun a n c e q1 => by have := e1.nc a n c e q1; omega, fun a n c e q1 => by have := e1.nl a n c e q1; omega, fun a n c e q1 => by have := v3 a n c e; omega, fun a n c e q1 => by have := v4 a n c e; omega⟩
  have hpd : PD w7 (fun k => Z k ∧ ¬ (w5.heap.size ≤ k ∧ k < w7.heap.size)) p b r M m u O most d1 L c1 l1 d2 D c2 l2 :=
    ⟨hps, e1.farZ h7 (fun q => q) (fun _ _ _ _ _ q => q) (fun _ _ _ _ _ q => q), e2⟩
  refine (psymbols_any _ p b r M m u O most d1 L c1 l1 d2 D c2 l2 w7 hpd hpb (fun k hk => ⟨hZ k (by omega), fun q => by omega⟩) hm hL hD hO h0 h1).mono fun e w' ⟨he, hq⟩ => ⟨he, hidden ?_⟩
  obtain ⟨q1, q2⟩ := hq.out
  refine ⟨?_, ?_⟩
  · refine ((hst.trans h6 (fun _ q => q.elim)).trans h7 (fun _ q => q.elim)).trans q1 (fun k hk => ?_)
    rcases hk with q | q | q
    · exact .inl q.1
    · exact .inr (by omega)
    · exact .inr (by omega)
  · cases hs : symsV L D M m most u O with
    | error y =>
      rw [hs] at q2
      obtain ⟨a1, t', O', a2⟩ := q2
      exact ⟨a1, t', O', a2.wide (fun k hk => hk.1) hrz⟩
    | ok z =>
      obtain ⟨u2, Q⟩ := z
      rw [hs] at q2
      exact ⟨q2.1.wide (fun k hk => hk.1) hrz, q2.2⟩

theorem storedP_len258 {M m t u : Nat} {most : Int} {O Q : List Nat} (h : storedP M m most t O = .ok (u, Q)) (hO : O.length ≤ 258 * t) : Q.length ≤ 258 * u := by
  unfold storedP at h
  simp only at h
  split at h
  · split at h
    · split at h
      · split at h
        · injection h with h
          injection h with h1 h2
          subst h1; subst h2
          rw [List.length_append, bytesOf_length]
          omega
        · cases h
      · cases h
    · cases h
  · cases h

/-- How a block ends. -/
def PBl (w : World) (Z : Nat → Prop) (p b : Nat) (r : Value) (M m t : Nat) (most : Int) (x : Except Nat (Nat × List Nat)) (l : Bool) (w' : World) : Prop :=
  Step Z w w' ∧
  match x with
  | .error y => 0 < y ∧ ∃ t' O', PS w' Z p b r M m t' O' most y
  | .ok (u, Q) => l = decide (M / 2 ^ t % 2 = 1) ∧ PS w' Z p b r M m u Q most 0 ∧ Q.length ≤ 258 * u

end Go.Proofs.YtcgjmkcigmmjjaaGreatDoor
