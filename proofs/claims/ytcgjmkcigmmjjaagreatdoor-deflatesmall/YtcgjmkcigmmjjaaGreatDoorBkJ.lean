/-
  The page's own stream, its rows hidden: get, lay, stored.
-/
import Derived.Test.YtcgjmkcigmmjjaaGreatDoorBkI

namespace Go.Proofs.YtcgjmkcigmmjjaaGreatDoor
open Go.RowKit
set_option maxRecDepth 100000
theorem Bk.bes {B0 : Nat} {w w' : World} {p : Nat} {tv rv : Value} {la : Bool} {g1 g2 : Nat} {ts : List Tk} {fl fd : Nat → Int} {m b : Nat} (h : Bk B0 w p tv rv la g1 g2 ts fl fd m) (hb : b < B0) (hs : Step (fun k => ¬ Bsd w b k) w w') : Bk B0 w' p tv rv la g1 g2 ts fl fd m := by
  have hlow := h.low
  have hne : ∀ k, B0 ≤ k → k < w.heap.size → ¬ ¬ Bsd w b k := fun k hk hz q => q ⟨hz, by omega⟩
  have h1 := hne p h.hi.1 hlow.1
  exact ⟨hs.cell h.c0 h1, hs.cell h.c1 h1, hs.cell h.c2 h1, hs.cell h.c3 h1, hs.cell h.c4 h1, hs.cell h.c5 h1, fun k hk => (hs.frozen (p := ⟨p, k, none⟩) hlow.1 h1).trans (h.fz k hk),
    own3_keep h.ow hs (fun k hk => hne k (h.off k hk).2.2.2 (hlow.2.2.2 k hk)), h.la'.step hs (hne g1 h.hi.2.1 hlow.2.1), h.da.step hs (hne g2 h.hi.2.2 hlow.2.2.1), h.ne, h.off, h.hi⟩

set_option maxHeartbeats 8000000 in
theorem blay_any (w : World) (b : Nat) (hW : W2 w b) (B0 : Nat) (hB : b < B0) (p g1 g2 : Nat) (tv : Value) (ao : Option Addr) (cap : Nat) (ts : List Tk) (P : List Nat) (hK : Bk B0 w p tv (.slice ao P.length cap) true g1 g2 ts (lcf ts) (cD ts) (mB ts))
    (hr : Rd w (.slice ao P.length cap) P) (hcap : P.length ≤ cap) (hoff : ∀ a, ao = some a → P ≠ [] → Bsd w b a.block) (hP : ∀ x ∈ P, x < 256) (hn : P.length ≤ 30000) (hl : ts.length ≤ 20000) (hts : ∀ x ∈ ts, tkIn x) (hm : mB ts ≤ 1000000) (hT : TabD w) :
    Calls Tryz.prog 19 #[.pointer (some ⟨p, 0, none⟩), .pointer (some ⟨b, 0, none⟩)] w fun e w' => (∃ u, e = .returned u) ∧ Hid (∃ D1 D2 D3 a d k xs, Ow ts D1 D2 D3 a d k xs ∧ Wc w' b (layPs ts P D1 D2 D3 a d k xs) (Bsd w b) ∧ Step (fun k => ¬ Bsd w b k) w w') := by
  have HW := hidden hW
  have HK := hidden hK
  have HR := hidden hr
  have HOF := hidden hoff
  have HP := hidden hP
  have HL := hidden (And.intro hn (And.intro hl hm))
  have HTS := hidden hts
  have HT := hidden hT
  have HB := hidden hB
  have HC := hidden hcap
  obtain ⟨n, hnn⟩ : ∃ n, P.length = n := ⟨_, rfl⟩
  have Hn := hidden hnn
  rw [hnn] at HK HR
  clear hW hK hr hoff hP hn hl hm hts hT hB hcap hnn
  have HFX := hidden (fixedBook_any w)
  go_enter Tryz.func19, Tryz.ntmps19
  go_wp2_with fail
  refine HFX.out.mono ?_
  rintro e w1 ⟨kf, rfl, hkf, bf, S1⟩
  have HBF := hidden bf
  have HS1 := hidden S1
  have HOW := hidden (ownBook_any w1 (HK.out.made S1) (LA ts) (DA ts) (LA_len ts) (DA_len ts) (fun k hk => rowOf_getD _ _ _ hk) (fun k hk => rowOf_getD _ _ _ hk) (lit_may ts (by have := HL.out.2.1; omega)) (dis_may ts (by have := HL.out.2.1; omega)))
  clear bf S1 hkf HFX
  go_wp2_with fail
  refine HOW.out.mono ?_
  rintro e w2 ⟨v2, rfl, ⟨ko, D1, D2, rfl, hko, U1, U2, bo⟩, S2⟩
  have HU := hidden (And.intro U1 U2)
  have HBO := hidden bo
  have HS2 := hidden (HS1.out.made S2)
  have HBF2 := hidden (HBF.out.made S2)
  have HNH := hidden (newHeading_any w2 ko (lensOf (LA ts) D1 15) (lensOf (DA ts) D2 15) bo (HT.out.made HS2.out) (by rw [lensOf_len, LA_len]) (by rw [lensOf_len, DA_len]) (fun i => U1.bd' i) (fun i => U2.bd' i))
  clear U1 U2 bo hko S2 HOW HBF HS1
  go_wp2_with fail
  refine HNH.out.mono ?_
  rintro e w3 ⟨ph, a, d, k, xs, D3, rfl, U3, hh, sp, ha, hd, hk, S3⟩
  have HOw := hidden (show Ow ts D1 D2 D3 a d k xs from ⟨HU.out.1, HU.out.2, U3, sp.1, sp.2, ha, hd, hk⟩)
  have HH := hidden (show Hd w3 ph a d k xs (SA xs) (lensOf (SA xs) D3 7) from hh)
  have HS3 := hidden (HS2.out.made S3)
  have HBF3 := hidden (HBF2.out.made S3)
  have HBO3 := hidden (HBO.out.made S3)
  have HK3 := hidden (HK.out.made HS3.out)
  clear U3 hh sp ha hd hk S3 HNH HBF2 HBO HS2 HU
  have HSC := hidden (storedCost_any ao n cap w3 HK3.out (by have := HL.out.1; have := Hn.out; omega))
  go_wp2_with fail
  refine HSC.out.mono ?_
  rintro e w4 ⟨rfl, rfl⟩
  clear HSC
  have HCF := hidden (fun wx (hx : Step (fun _ => False) w4 wx) => blockCost_any wx (HK3.out.made hx) (LA ts) (DA ts) FL FD0 (LA_len ts) (DA_len ts) (fun k hk => rowOf_getD _ _ _ hk) (fun k hk => rowOf_getD _ _ _ hk) (HBF3.out.made hx) (by rw [FL_len]; omega) (by rw [FD0_len]; omega) (cb_L ts HL.out.2.1 FL_bd) (cb_D ts HL.out.2.1 FD0_bd)
    (by rw [LA_len, FL_len, show min 286 288 = 286 from rfl]; have := cost_L HL.out.2.1 FL_bd; exact ⟨this.1, by omega⟩) (by rw [DA_len, FD0_len, show min 30 30 = 30 from rfl]; have := cost_D HL.out.2.1 FD0_bd; exact ⟨this.1, by omega⟩) (by have := HL.out.2.2; omega))
  rw [LA_len, FL_len, DA_len, FD0_len, show min 286 288 = 286 from rfl, show min 30 30 = 30 from rfl] at HCF
  have HCO := hidden (fun wx (hx : Step (fun _ => False) w4 wx) => blockCost_any wx (HK3.out.made hx) (LA ts) (DA ts) (lensOf (LA ts) D1 15) (lensOf (DA ts) D2 15) (LA_len ts) (DA_len ts) (fun k hk => rowOf_getD _ _ _ hk) (fun k hk => rowOf_getD _ _ _ hk) (HBO3.out.made hx) (by rw [lensOf_len, LA_len]; omega) (by rw [lensOf_len, DA_len]; omega) (cb_L ts HL.out.2.1 HOw.out.u1.bd') (cb_D ts HL.out.2.1 HOw.out.u2.bd')
    (by rw [lensOf_len, LA_len, show min 286 286 = 286 from rfl]; have := cost_L HL.out.2.1 HOw.out.u1.bd'; exact ⟨this.1, by omega⟩) (by rw [lensOf_len, DA_len, show min 30 30 = 30 from rfl]; have := cost_D HL.out.2.1 HOw.out.u2.bd'; exact ⟨this.1, by omega⟩) (by have := HL.out.2.2; omega))
  rw [lensOf_len, lensOf_len, LA_len, DA_len, show min 286 286 = 286 from rfl, show min 30 30 = 30 from rfl] at HCO
  have c7 : ∀ i, 0 ≤ (lensOf (SA xs) D3 7).getD i 0 ∧ (lensOf (SA xs) D3 7).getD i 0 ≤ 15 := fun i => by have := HOw.out.u3.bd' i; omega
  have HCH := hidden (fun wx (hx : Step (fun _ => False) w4 wx) => headingCost_any wx ph a d k xs (SA xs) (lensOf (SA xs) D3 7) (HH.out.made hx) (by rw [SA_len]; omega) (by rw [lensOf_len, SA_len]; omega) (cb_S xs (by have := HOw.out.len; omega) c7)
    (by rw [lensOf_len, SA_len, show min 19 19 = 19 from rfl]; have := cost_S (xs := xs) (by have := HOw.out.len; omega) c7; exact ⟨this.1, by omega⟩) HOw.out.hk.2.1 (by have := HOw.out.len; omega) (fun x hx => (HOw.out.sp.in' x hx).2.2))
  rw [lensOf_len, SA_len, show min 19 19 = 19 from rfl] at HCH
  obtain ⟨xF, hxF⟩ : ∃ z, kF ts = z := ⟨_, rfl⟩
  obtain ⟨xB, hxB⟩ : ∃ z, csum (LA ts) (lensOf (LA ts) D1 15) 286 + csum (DA ts) (lensOf (DA ts) D2 15) 30 + (mB ts : Int) = z := ⟨_, rfl⟩
  obtain ⟨xH, hxH⟩ : ∃ z, 14 + 3 * (k : Int) + csum (SA xs) (lensOf (SA xs) D3 7) 19 + (spB xs : Int) = z := ⟨_, rfl⟩
  obtain ⟨xS, hxS⟩ : ∃ z, 8 * (stS n : Int) - 1 = z := ⟨_, rfl⟩
  obtain ⟨xO, hxO⟩ : ∃ z, xH + xB = z := ⟨_, rfl⟩
  have hbd : -9000000000 ≤ xO ∧ xO ≤ 9000000000 := by
    have h1 := cost_L HL.out.2.1 HOw.out.u1.bd'
    have h2 := cost_D HL.out.2.1 HOw.out.u2.bd'
    have h3 := cost_S (xs := xs) (by have := HOw.out.len; omega) c7
    have h4 := HL.out.2.2
    have h5 := HOw.out.hk.2.1
    have h6 := spB_le xs (fun x hx => (HOw.out.sp.in' x hx).2.2) xs.length
    rw [List.take_length] at h6
    have h7 := HOw.out.len.2
    omega
  have wO : wrap64 xO = xO := wrap64_id _ (by omega) (by omega)
  have wO2 : IntKind.i64.wrap xO = xO := wrap_i64_id _ (by omega) (by omega)
  have HKK := hidden (show kF ts = xF ∧ kO ts D1 D2 D3 k xs = xO ∧ kS n = xS from ⟨hxF, by rw [← hxO, ← hxH, ← hxB]; rfl, hxS⟩)
  have hFu : csum (LA ts) FL 286 + csum (DA ts) FD0 30 + (mB ts : Int) = xF := hxF
  rw [hFu] at HCF
  rw [hxB] at HCO
  rw [hxH] at HCH
  rw [hxS]
  clear hbd hFu hxF hxB hxH hxS c7
  go_wp2_with fail
  refine (HCF.out w4 (Step.refl _ _)).mono ?_
  rintro e w5 ⟨rfl, q5, hw5⟩
  have HS5 := hidden (show Step (fun _ => False) w4 w5 by rw [hw5]; exact (Step.refl _ _).drewN q5)
  clear hw5
  go_wp2_with fail
  refine (HCH.out w5 HS5.out).mono ?_
  rintro e w6 ⟨rfl, S6⟩
  have HS6 := hidden (HS5.out.made S6)
  clear S6
  go_wp2_with fail
  refine (HCO.out w6 HS6.out).mono ?_
  rintro e w7 ⟨rfl, q7, hw7⟩
  have HS7 := hidden (show Step (fun _ => False) w4 w7 by rw [hw7]; exact HS6.out.made ((Step.refl _ _).drewN q7))
  have HS := hidden (HS3.out.made HS7.out)
  have HW7 := hidden (HW.out.made HS.out)
  have HK7 := hidden (HK3.out.made HS7.out)
  have HH7 := hidden (HH.out.made HS7.out)
  have HBF7 := hidden (HBF3.out.made HS7.out)
  have HBO7 := hidden (HBO3.out.made HS7.out)
  have HT7 := hidden (HT.out.made HS.out)
  have HR7 := hidden (show Rd w7 (.slice ao n cap) P from HR.out.step HS.out (fun _ _ _ _ _ q => q))
  have HWE := hidden (show ∀ qs w', Wc w' b qs (Bsd w7 b) ∧ Step (fun k => ¬ Bsd w7 b k) w7 w' → Wc w' b qs (Bsd w b) ∧ Step (fun k => ¬ Bsd w b k) w w' from fun qs w' h => ⟨h.1.less (fun k hk => ⟨by have := HS.out.size; have := hk.1; omega, hk.2⟩), (HS.out.mono (fun _ q => q.elim)).trans h.2 (fun i hi => by
    by_cases h1 : i < w.heap.size
    · exact .inl (fun q => hi ⟨by have := HS.out.size; omega, q.2⟩)
    · exact .inr (by omega))⟩)
  have HBG := hidden (fun kind (hk : kind < 4) => dbegin_any w7 b [] (Bsd w7 b) HW7.out.wc (fun k hk => hk.1) (by simp [pcL]) true kind hk)
  clear hw7 HS5 HS6 HCF HCH HCO HS3 HK3 HH HBF3 HBO3 HS7 HK HW HR HT
  have c2 := HK7.out.c2
  have c1 := HK7.out.c1

  by_cases hA : xF ≤ xS ∧ xF ≤ xO
  · by_cases hE : xF = xS
    · subst hE
      have m1 : ¬ (xF < xF) := by omega
      have m2 : ¬ (xO < xF) := by omega
      clear hA
      have HSY := hidden (fun wx (hx : Step (fun k => ¬ Bsd w7 b k) w7 wx) (hw : Wc wx b [(1, 1), (1, 2)] (Bsd w7 b)) => dsymbols_any wx b [(1, 1), (1, 2)] (Bsd w7 b) hw (fun k hk => by have := hk.1; have := hx.size; omega) (by simp [pcL]) p kf tv ts FL FD0 (fun w' hs => by
        have h2 := hx.trans hs (fun i hi => .inl hi)
        have h3 := HK7.out.bes HB.out h2
        exact ⟨⟨h3.c0, h3.ow⟩, HBF7.out.bes HW7.out (by rw [FL_len]; omega) (by rw [FD0_len]; omega) h2⟩) (HBF7.out.mem HW7.out) FL_code FD0_code (by rw [FL_len]; omega) (by rw [FD0_len]; omega) HTS.out (fix_coded HTS.out) (FL_pos 256 (by omega)) (by have := HL.out.2.1; omega))
      have HLP := hidden (show layPs ts P D1 D2 D3 a d k xs = [(1, 1), (1, 2)] ++ (tksP FL FD0 ts ++ [cdP FL 256, (0, 0)]) by
        unfold layPs
        rw [Hn.out, HKK.out.1, HKK.out.2.1, HKK.out.2.2, if_pos ⟨by omega, by omega⟩, tksP_0 HTS.out]
        rfl)
      go_wp2_with fail
      refine (HBG.out 1 (by omega)).mono ?_
      rintro e w8 ⟨⟨u8, rfl⟩, W8, S8⟩
      have HS8 := hidden S8
      have HY := hidden (HSY.out w8 S8 W8)
      clear W8 S8 HSY
      go_wp2_with fail
      refine HY.out.mono ?_
      rintro e w9 ⟨⟨u9, rfl⟩, R9⟩
      have HF := hidden (HWE.out (layPs ts P D1 D2 D3 a d k xs) w9 ⟨by rw [HLP.out]; exact R9.out.1, HS8.out.trans R9.out.2 (fun i hi => .inl hi)⟩)
      clear R9 HY HS8
      go_wp2
      go_end0
      exact ⟨⟨_, rfl⟩, D1, D2, D3, a, d, k, xs, HOw.out, HF.out⟩
    · have m1 : xF < xS := by omega
      have m2 : ¬ (xO < xF) := by omega
      clear hE hA
      have HSY := hidden (fun wx (hx : Step (fun k => ¬ Bsd w7 b k) w7 wx) (hw : Wc wx b [(1, 1), (1, 2)] (Bsd w7 b)) => dsymbols_any wx b [(1, 1), (1, 2)] (Bsd w7 b) hw (fun k hk => by have := hk.1; have := hx.size; omega) (by simp [pcL]) p kf tv ts FL FD0 (fun w' hs => by
        have h2 := hx.trans hs (fun i hi => .inl hi)
        have h3 := HK7.out.bes HB.out h2
        exact ⟨⟨h3.c0, h3.ow⟩, HBF7.out.bes HW7.out (by rw [FL_len]; omega) (by rw [FD0_len]; omega) h2⟩) (HBF7.out.mem HW7.out) FL_code FD0_code (by rw [FL_len]; omega) (by rw [FD0_len]; omega) HTS.out (fix_coded HTS.out) (FL_pos 256 (by omega)) (by have := HL.out.2.1; omega))
      have HLP := hidden (show layPs ts P D1 D2 D3 a d k xs = [(1, 1), (1, 2)] ++ (tksP FL FD0 ts ++ [cdP FL 256, (0, 0)]) by
        unfold layPs
        rw [Hn.out, HKK.out.1, HKK.out.2.1, HKK.out.2.2, if_pos ⟨by omega, by omega⟩, tksP_0 HTS.out]
        rfl)
      go_wp2_with fail
      refine (HBG.out 1 (by omega)).mono ?_
      rintro e w8 ⟨⟨u8, rfl⟩, W8, S8⟩
      have HS8 := hidden S8
      have HY := hidden (HSY.out w8 S8 W8)
      clear W8 S8 HSY
      go_wp2_with fail
      refine HY.out.mono ?_
      rintro e w9 ⟨⟨u9, rfl⟩, R9⟩
      have HF := hidden (HWE.out (layPs ts P D1 D2 D3 a d k xs) w9 ⟨by rw [HLP.out]; exact R9.out.1, HS8.out.trans R9.out.2 (fun i hi => .inl hi)⟩)
      clear R9 HY HS8
      go_wp2
      go_end0
      exact ⟨⟨_, rfl⟩, D1, D2, D3, a, d, k, xs, HOw.out, HF.out⟩
  · by_cases hO : xO ≤ xS
    · by_cases hF : xF < xS
      · have m1 : xO < xF := by omega
        have m2 : (xO == xF) = false := by rw [beq_eq_false_iff_ne]; omega
        have HIF := hidden (And.intro hA hO)
        clear hA hO
        have hC0 := (newErr_codes _ HOw.out.u3.new).1
        have HHL := hidden (fun wx (hx : Step (fun k => ¬ Bsd w7 b k) w7 wx) (hw : Wc wx b [(1, 1), (2, 2)] (Bsd w7 b)) => hlay_any wx b [(1, 1), (2, 2)] (Bsd w7 b) hw (fun k hk => by have := hk.1; have := hx.size; omega) (by simp [pcL]) ph a d k xs (SA xs) (lensOf (SA xs) D3 7) (fun w' hs => by
          have h2 := hx.trans hs (fun i hi => .inl hi)
          exact ⟨HH7.out.bes HW7.out HOw.out.len.1 (by rw [SA_len]; omega) (by rw [lensOf_len, SA_len]; omega) h2, HT7.out.bes HW7.out h2⟩) (HH7.out.mem HW7.out) hC0 (by rw [lensOf_len, SA_len]) (fun i => HOw.out.u3.bd' i) HOw.out.ha.1 HOw.out.ha.2.1 HOw.out.hd.1 HOw.out.hd.2.1 HOw.out.hk.1 HOw.out.hk.2.1 (by have := HOw.out.len; omega) HOw.out.sp.in' HOw.out.steps)
        have hcd := own_coded HTS.out HOw.out.u1 HOw.out.u2
        have HSY := hidden (fun wx qs (hx : Step (fun k => ¬ Bsd w7 b k) w7 wx) (hw : Wc wx b qs (Bsd w7 b)) (hq : pcL qs ≤ 800000000) => dsymbols_any wx b qs (Bsd w7 b) hw (fun k hk => by have := hk.1; have := hx.size; omega) hq p ko tv ts (lensOf (LA ts) D1 15) (lensOf (DA ts) D2 15) (fun w' hs => by
          have h2 := hx.trans hs (fun i hi => .inl hi)
          have h3 := HK7.out.bes HB.out h2
          exact ⟨⟨h3.c0, h3.ow⟩, HBO7.out.bes HW7.out (by rw [lensOf_len, LA_len]; omega) (by rw [lensOf_len, DA_len]; omega) h2⟩) (HBO7.out.mem HW7.out) (newErr_codes _ HOw.out.u1.new).1 (newErr_codes _ HOw.out.u2.new).1 (by rw [lensOf_len, LA_len]; omega) (by rw [lensOf_len, DA_len]; omega) HTS.out hcd.1 hcd.2 (by have := HL.out.2.1; omega))
        have HLP := hidden (show layPs ts P D1 D2 D3 a d k xs = [(1, 1), (2, 2)] ++ hdP (lensOf (SA xs) D3 7) a d k xs ++ (tksP (lensOf (LA ts) D1 15) (lensOf (DA ts) D2 15) ts ++ [cdP (lensOf (LA ts) D1 15) 256, (0, 0)]) by
          unfold layPs
          rw [Hn.out, HKK.out.1, HKK.out.2.1, HKK.out.2.2, if_neg HIF.out.1, if_pos HIF.out.2]
          simp [ownPs, hdP])
        have HPL := hidden (show pcL ([(1, 1), (2, 2)] ++ hdP (lensOf (SA xs) D3 7) a d k xs) ≤ 800000000 by
          have h1 := spsP_len (lensOf (SA xs) D3 7) xs (fun i => by have := HOw.out.u3.bd' i; omega) (fun x hx => (HOw.out.sp.in' x hx).2.2) xs.length
          rw [List.take_length] at h1
          have h2 := HOw.out.len
          have h3 := HOw.out.hk.2.1
          rw [pcL_append]
          have e : pcL (hdP (lensOf (SA xs) D3 7) a d k xs) = 5 + (5 + (4 + pcL (orP (lensOf (SA xs) D3 7) 0 k ++ spsP (lensOf (SA xs) D3 7) xs))) := rfl
          rw [e, pcL_append, orP_le]
          have e2 : pcL [(1, 1), (2, 2)] = 3 := rfl
          omega)
        clear hC0 hcd
        go_wp2_with fail
        refine (HBG.out 2 (by omega)).mono ?_
        rintro e w8 ⟨⟨u8, rfl⟩, W8, S8⟩
        have HS8 := hidden S8
        have HY := hidden (HHL.out w8 S8 W8)
        clear W8 S8 HHL
        go_wp2_with fail
        refine HY.out.mono ?_
        rintro e w9 ⟨⟨u9, rfl⟩, R9⟩
        have HS9 := hidden (HS8.out.trans R9.out.2 (fun i hi => .inl hi))
        have HY2 := hidden (HSY.out w9 _ HS9.out R9.out.1 HPL.out)
        clear R9 HY HSY HS8
        go_wp2_with fail
        refine HY2.out.mono ?_
        rintro e w10 ⟨⟨u10, rfl⟩, R10⟩
        have HF := hidden (HWE.out (layPs ts P D1 D2 D3 a d k xs) w10 ⟨by rw [HLP.out]; exact R10.out.1, HS9.out.trans R10.out.2 (fun i hi => .inl hi)⟩)
        clear R10 HY2 HS9
        go_wp2
        go_end0
        exact ⟨⟨_, rfl⟩, D1, D2, D3, a, d, k, xs, HOw.out, HF.out⟩
      · by_cases hE : xO = xS
        · subst hE
          have m1 : ¬ (xF < xO) := by omega
          have m2 : (xO == xF) = false := by rw [beq_eq_false_iff_ne]; omega
          have m3 : ¬ (xO < xO) := by omega
          have HIF := hidden (And.intro hA hO)
          clear hA hF
          have hC0 := (newErr_codes _ HOw.out.u3.new).1
          have HHL := hidden (fun wx (hx : Step (fun k => ¬ Bsd w7 b k) w7 wx) (hw : Wc wx b [(1, 1), (2, 2)] (Bsd w7 b)) => hlay_any wx b [(1, 1), (2, 2)] (Bsd w7 b) hw (fun k hk => by have := hk.1; have := hx.size; omega) (by simp [pcL]) ph a d k xs (SA xs) (lensOf (SA xs) D3 7) (fun w' hs => by
            have h2 := hx.trans hs (fun i hi => .inl hi)
            exact ⟨HH7.out.bes HW7.out HOw.out.len.1 (by rw [SA_len]; omega) (by rw [lensOf_len, SA_len]; omega) h2, HT7.out.bes HW7.out h2⟩) (HH7.out.mem HW7.out) hC0 (by rw [lensOf_len, SA_len]) (fun i => HOw.out.u3.bd' i) HOw.out.ha.1 HOw.out.ha.2.1 HOw.out.hd.1 HOw.out.hd.2.1 HOw.out.hk.1 HOw.out.hk.2.1 (by have := HOw.out.len; omega) HOw.out.sp.in' HOw.out.steps)
          have hcd := own_coded HTS.out HOw.out.u1 HOw.out.u2
          have HSY := hidden (fun wx qs (hx : Step (fun k => ¬ Bsd w7 b k) w7 wx) (hw : Wc wx b qs (Bsd w7 b)) (hq : pcL qs ≤ 800000000) => dsymbols_any wx b qs (Bsd w7 b) hw (fun k hk => by have := hk.1; have := hx.size; omega) hq p ko tv ts (lensOf (LA ts) D1 15) (lensOf (DA ts) D2 15) (fun w' hs => by
            have h2 := hx.trans hs (fun i hi => .inl hi)
            have h3 := HK7.out.bes HB.out h2
            exact ⟨⟨h3.c0, h3.ow⟩, HBO7.out.bes HW7.out (by rw [lensOf_len, LA_len]; omega) (by rw [lensOf_len, DA_len]; omega) h2⟩) (HBO7.out.mem HW7.out) (newErr_codes _ HOw.out.u1.new).1 (newErr_codes _ HOw.out.u2.new).1 (by rw [lensOf_len, LA_len]; omega) (by rw [lensOf_len, DA_len]; omega) HTS.out hcd.1 hcd.2 (by have := HL.out.2.1; omega))
          have HLP := hidden (show layPs ts P D1 D2 D3 a d k xs = [(1, 1), (2, 2)] ++ hdP (lensOf (SA xs) D3 7) a d k xs ++ (tksP (lensOf (LA ts) D1 15) (lensOf (DA ts) D2 15) ts ++ [cdP (lensOf (LA ts) D1 15) 256, (0, 0)]) by
            unfold layPs
            rw [Hn.out, HKK.out.1, HKK.out.2.1, HKK.out.2.2, if_neg HIF.out.1, if_pos HIF.out.2]
            simp [ownPs, hdP])
          have HPL := hidden (show pcL ([(1, 1), (2, 2)] ++ hdP (lensOf (SA xs) D3 7) a d k xs) ≤ 800000000 by
            have h1 := spsP_len (lensOf (SA xs) D3 7) xs (fun i => by have := HOw.out.u3.bd' i; omega) (fun x hx => (HOw.out.sp.in' x hx).2.2) xs.length
            rw [List.take_length] at h1
            have h2 := HOw.out.len
            have h3 := HOw.out.hk.2.1
            rw [pcL_append]
            have e : pcL (hdP (lensOf (SA xs) D3 7) a d k xs) = 5 + (5 + (4 + pcL (orP (lensOf (SA xs) D3 7) 0 k ++ spsP (lensOf (SA xs) D3 7) xs))) := rfl
            rw [e, pcL_append, orP_le]
            have e2 : pcL [(1, 1), (2, 2)] = 3 := rfl
            omega)
          clear hC0 hcd
          go_wp2_with fail
          refine (HBG.out 2 (by omega)).mono ?_
          rintro e w8 ⟨⟨u8, rfl⟩, W8, S8⟩
          have HS8 := hidden S8
          have HY := hidden (HHL.out w8 S8 W8)
          clear W8 S8 HHL
          go_wp2_with fail
          refine HY.out.mono ?_
          rintro e w9 ⟨⟨u9, rfl⟩, R9⟩
          have HS9 := hidden (HS8.out.trans R9.out.2 (fun i hi => .inl hi))
          have HY2 := hidden (HSY.out w9 _ HS9.out R9.out.1 HPL.out)
          clear R9 HY HSY HS8
          go_wp2_with fail
          refine HY2.out.mono ?_
          rintro e w10 ⟨⟨u10, rfl⟩, R10⟩
          have HF := hidden (HWE.out (layPs ts P D1 D2 D3 a d k xs) w10 ⟨by rw [HLP.out]; exact R10.out.1, HS9.out.trans R10.out.2 (fun i hi => .inl hi)⟩)
          clear R10 HY2 HS9
          go_wp2
          go_end0
          exact ⟨⟨_, rfl⟩, D1, D2, D3, a, d, k, xs, HOw.out, HF.out⟩
        · have m1 : xO < xS := by omega
          have m2 : (xO == xF) = false := by rw [beq_eq_false_iff_ne]; omega
          have HIF := hidden (And.intro hA hO)
          clear hA hO hE
          have hC0 := (newErr_codes _ HOw.out.u3.new).1
          have HHL := hidden (fun wx (hx : Step (fun k => ¬ Bsd w7 b k) w7 wx) (hw : Wc wx b [(1, 1), (2, 2)] (Bsd w7 b)) => hlay_any wx b [(1, 1), (2, 2)] (Bsd w7 b) hw (fun k hk => by have := hk.1; have := hx.size; omega) (by simp [pcL]) ph a d k xs (SA xs) (lensOf (SA xs) D3 7) (fun w' hs => by
            have h2 := hx.trans hs (fun i hi => .inl hi)
            exact ⟨HH7.out.bes HW7.out HOw.out.len.1 (by rw [SA_len]; omega) (by rw [lensOf_len, SA_len]; omega) h2, HT7.out.bes HW7.out h2⟩) (HH7.out.mem HW7.out) hC0 (by rw [lensOf_len, SA_len]) (fun i => HOw.out.u3.bd' i) HOw.out.ha.1 HOw.out.ha.2.1 HOw.out.hd.1 HOw.out.hd.2.1 HOw.out.hk.1 HOw.out.hk.2.1 (by have := HOw.out.len; omega) HOw.out.sp.in' HOw.out.steps)
          have hcd := own_coded HTS.out HOw.out.u1 HOw.out.u2
          have HSY := hidden (fun wx qs (hx : Step (fun k => ¬ Bsd w7 b k) w7 wx) (hw : Wc wx b qs (Bsd w7 b)) (hq : pcL qs ≤ 800000000) => dsymbols_any wx b qs (Bsd w7 b) hw (fun k hk => by have := hk.1; have := hx.size; omega) hq p ko tv ts (lensOf (LA ts) D1 15) (lensOf (DA ts) D2 15) (fun w' hs => by
            have h2 := hx.trans hs (fun i hi => .inl hi)
            have h3 := HK7.out.bes HB.out h2
            exact ⟨⟨h3.c0, h3.ow⟩, HBO7.out.bes HW7.out (by rw [lensOf_len, LA_len]; omega) (by rw [lensOf_len, DA_len]; omega) h2⟩) (HBO7.out.mem HW7.out) (newErr_codes _ HOw.out.u1.new).1 (newErr_codes _ HOw.out.u2.new).1 (by rw [lensOf_len, LA_len]; omega) (by rw [lensOf_len, DA_len]; omega) HTS.out hcd.1 hcd.2 (by have := HL.out.2.1; omega))
          have HLP := hidden (show layPs ts P D1 D2 D3 a d k xs = [(1, 1), (2, 2)] ++ hdP (lensOf (SA xs) D3 7) a d k xs ++ (tksP (lensOf (LA ts) D1 15) (lensOf (DA ts) D2 15) ts ++ [cdP (lensOf (LA ts) D1 15) 256, (0, 0)]) by
            unfold layPs
            rw [Hn.out, HKK.out.1, HKK.out.2.1, HKK.out.2.2, if_neg HIF.out.1, if_pos HIF.out.2]
            simp [ownPs, hdP])
          have HPL := hidden (show pcL ([(1, 1), (2, 2)] ++ hdP (lensOf (SA xs) D3 7) a d k xs) ≤ 800000000 by
            have h1 := spsP_len (lensOf (SA xs) D3 7) xs (fun i => by have := HOw.out.u3.bd' i; omega) (fun x hx => (HOw.out.sp.in' x hx).2.2) xs.length
            rw [List.take_length] at h1
            have h2 := HOw.out.len
            have h3 := HOw.out.hk.2.1
            rw [pcL_append]
            have e : pcL (hdP (lensOf (SA xs) D3 7) a d k xs) = 5 + (5 + (4 + pcL (orP (lensOf (SA xs) D3 7) 0 k ++ spsP (lensOf (SA xs) D3 7) xs))) := rfl
            rw [e, pcL_append, orP_le]
            have e2 : pcL [(1, 1), (2, 2)] = 3 := rfl
            omega)
          clear hC0 hcd
          go_wp2_with fail
          refine (HBG.out 2 (by omega)).mono ?_
          rintro e w8 ⟨⟨u8, rfl⟩, W8, S8⟩
          have HS8 := hidden S8
          have HY := hidden (HHL.out w8 S8 W8)
          clear W8 S8 HHL
          go_wp2_with fail
          refine HY.out.mono ?_
          rintro e w9 ⟨⟨u9, rfl⟩, R9⟩
          have HS9 := hidden (HS8.out.trans R9.out.2 (fun i hi => .inl hi))
          have HY2 := hidden (HSY.out w9 _ HS9.out R9.out.1 HPL.out)
          clear R9 HY HSY HS8
          go_wp2_with fail
          refine HY2.out.mono ?_
          rintro e w10 ⟨⟨u10, rfl⟩, R10⟩
          have HF := hidden (HWE.out (layPs ts P D1 D2 D3 a d k xs) w10 ⟨by rw [HLP.out]; exact R10.out.1, HS9.out.trans R10.out.2 (fun i hi => .inl hi)⟩)
          clear R10 HY2 HS9
          go_wp2
          go_end0
          exact ⟨⟨_, rfl⟩, D1, D2, D3, a, d, k, xs, HOw.out, HF.out⟩
    · have m1 : ¬ (xF < xS) := by omega
      have m2 : ¬ (xO < xS) := by omega
      have m3 : (xS == xF) = false := by rw [beq_eq_false_iff_ne]; omega
      have m4 : (xS == xO) = false := by rw [beq_eq_false_iff_ne]; omega
      have HIF := hidden (And.intro hA hO)
      clear hA
      have HSO := hidden (fun wx (hx : Step (fun _ => False) w7 wx) => store_any wx b [] (Bsd w7 b) ((HW7.out.wc.made hx).less (G := Bsd w7 b) (fun k hk => .inl hk)) (fun k hk => by have := hk.1; have := hx.size; omega) (by simp [pcL]) ao cap P (by rw [Hn.out]; exact HR7.out.step hx (fun _ _ _ _ _ q => q)) HC.out (fun a e hne => ⟨by have := (HOF.out a e hne).1; have := HS.out.size; omega, (HOF.out a e hne).2⟩) HP.out (by have := HL.out.1; omega) true)
      rw [Hn.out] at HSO
      have HLP := hidden (show layPs ts P D1 D2 D3 a d k xs = stC [] P true (stB n) by
        unfold layPs
        rw [Hn.out, HKK.out.1, HKK.out.2.1, HKK.out.2.2, if_neg HIF.out.1, if_neg HIF.out.2])
      go_upto_region 4 with fail
      refine wp_region_still_tail 9 Tryz.mixed (by kernel_rfl) ?_
      simp only [List.take_succ_cons, List.take_zero, List.drop_succ_cons, List.drop_zero]
      change wpStill _ _ (World.drew _) _ _ _
      iterate 9 still_step
      refine wpStill_nil ?_
      go_wp2_with fail
      refine (HSO.out _ ((Step.refl _ w7).drew)).mono ?_
      rintro e w8 ⟨⟨u8, rfl⟩, R8⟩
      have HF := hidden (HWE.out (layPs ts P D1 D2 D3 a d k xs) w8 ⟨by rw [HLP.out]; exact R8.out.1, ((Step.refl _ w7).drew).trans R8.out.2 (fun i hi => .inl hi)⟩)
      clear R8 HSO
      go_wp2
      go_end0
      exact ⟨⟨_, rfl⟩, D1, D2, D3, a, d, k, xs, HOw.out, HF.out⟩

end Go.Proofs.YtcgjmkcigmmjjaaGreatDoor

namespace Go.Proofs.YtcgjmkcigmmjjaaGreatDoor
open Go.RowKit
set_option maxRecDepth 100000
theorem act_lit55 (b : Act) (hd : b.defers = []) (hn : b.tmps.size = 55) : ∃ f : Nat → Value, (∀ t, f t = b.eval (.tmp t)) ∧ b = ⟨#[f 0, f 1, f 2, f 3, f 4, f 5, f 6, f 7, f 8, f 9, f 10, f 11, f 12, f 13, f 14, f 15, f 16, f 17, f 18, f 19, f 20, f 21, f 22, f 23, f 24, f 25, f 26, f 27, f 28, f 29, f 30, f 31, f 32, f 33, f 34, f 35, f 36, f 37, f 38, f 39, f 40, f 41, f 42, f 43, f 44, f 45, f 46, f 47, f 48, f 49, f 50, f 51, f 52, f 53, f 54], []⟩ := by
  refine ⟨fun t => b.eval (.tmp t), fun _ => rfl, ?_⟩
  obtain ⟨t, d⟩ := b
  simp only at hd hn
  subst hd
  congr 1
  have e : ∀ g : Nat → Value, #[g 0, g 1, g 2, g 3, g 4, g 5, g 6, g 7, g 8, g 9, g 10, g 11, g 12, g 13, g 14, g 15, g 16, g 17, g 18, g 19, g 20, g 21, g 22, g 23, g 24, g 25, g 26, g 27, g 28, g 29, g 30, g 31, g 32, g 33, g 34, g 35, g 36, g 37, g 38, g 39, g 40, g 41, g 42, g 43, g 44, g 45, g 46, g 47, g 48, g 49, g 50, g 51, g 52, g 53, g 54] = ((List.range 55).map g).toArray := fun g => rfl
  refine Eq.trans ?_ (e fun x => Act.eval ⟨t, []⟩ (.tmp x)).symm
  apply Array.ext
  · simp [hn]
  · intro i h1 h2
    simp [Act.eval, h1]

/-- A new block as a value. -/
abbrev bkV (g1 g2 : Nat) : Array Value := #[.slice none 0 0, .slice none 0 0, .bool false, .slice (some ⟨g1, 0, none⟩) 286 286, .slice (some ⟨g2, 0, none⟩) 30 30, .int .i64 0]

theorem builtBk (g1 g2 : Nat) : Tryz.prog.built 41 [(3, .slice (some ⟨g1, 0, none⟩) 286 286), (4, .slice (some ⟨g2, 0, none⟩) 30 30)] = some (bkV g1 g2) := by kernel_rfl

/-- What each operation leaves where a block is made. -/
def FB (W : Nat) : Nat → World → Value → Prop
  | 0, u, v => ∃ g, v = .slice (some ⟨g, 0, none⟩) 286 286 ∧ W ≤ g ∧ Af u g 286 (fun _ => 0)
  | 1, u, v => ∃ g, v = .slice (some ⟨g, 0, none⟩) 30 30 ∧ W ≤ g ∧ Af u g 30 (fun _ => 0) ∧ u.cell? ⟨g, 30, none⟩ = none
  | 2, u, v => ∃ g1 g2, v = .agg (bkV g1 g2) ∧ W ≤ g1 ∧ W ≤ g2 ∧ g1 ≠ g2 ∧ Af u g1 286 (fun _ => 0) ∧ Af u g2 30 (fun _ => 0)
  | _, u, v => ∃ b g1 g2, v = .pointer (some ⟨b, 0, none⟩) ∧ W ≤ b ∧ W ≤ g1 ∧ W ≤ g2 ∧ b ≠ g1 ∧ b ≠ g2 ∧ g1 ≠ g2 ∧ Sv u b (bkV g1 g2).toList ∧ Af u g1 286 (fun _ => 0) ∧ Af u g2 30 (fun _ => 0)

theorem FB.mono {W : Nat} : ∀ k u u' v, FB W k u v → Step (fun _ => False) u u' → FB W k u' v := by
  intro k u u' v h hs
  match k with
  | 0 => obtain ⟨g, e, l, h⟩ := h; exact ⟨g, e, l, h.made hs⟩
  | 1 =>
    obtain ⟨g, e, l, h, hn⟩ := h
    have := h.lt (by omega)
    exact ⟨g, e, l, h.made hs, by rw [hs.cell' this (fun h => h)]; exact hn⟩
  | 2 => obtain ⟨g1, g2, e, l1, l2, l3, h1, h2⟩ := h; exact ⟨g1, g2, e, l1, l2, l3, h1.made hs, h2.made hs⟩
  | k + 3 => obtain ⟨b, g1, g2, e, l0, l1, l2, n1, n2, n3, h0, h1, h2⟩ := h; exact ⟨b, g1, g2, e, l0, l1, l2, n1, n2, n3, h0.made hs, h1.made hs, h2.made hs⟩

def atOf (f : Nat) (w : World) : Nat := match w.cell? ⟨f, 1, none⟩ with
  | some (.int _ z) => z.toNat
  | _ => 0

theorem atOf_eq {w : World} {f k : Nat} (h : w.cell? ⟨f, 1, none⟩ = some (.int .i64 (k : Int))) : atOf f w = k := by unfold atOf; rw [h]; simp

set_option maxHeartbeats 2000000 in
theorem nextBlock_any (w : World) (f : Nat) (pv : Value) (P : List Nat) (g1 g2 n : Nat) (h : Fi w f pv P g1 g2 n 0 0) (hl : (toks P n 0).length < 16384) :
    Calls Tryz.prog 18 #[.pointer (some ⟨f, 0, none⟩)] w fun e w' => ∃ b tv h1 h2, e = .returned (.pointer (some ⟨b, 0, none⟩)) ∧ Bk w.heap.size w' b tv pv true h1 h2 (toks P n 0) (upd (cL (toks P n 0)) 256 (cL (toks P n 0) 256 + 1)) (cD (toks P n 0)) (mB (toks P n 0)) ∧ Step (Fs f g1 g2) w w' := by
  obtain ⟨i0, hi, hz0, hz1, hz2⟩ := info_parts Tryz.info3
  have hmk : ∀ (N : Nat), N ≤ 400 → ∀ W : World, Sem.run Tryz.prog (Instr.makeSlice 30 (.int .i64 (N : Int)) (.int .i64 (N : Int))) W = .ok (.slice (some ⟨W.heap.size, 0, none⟩) N N) (W.alloc (.cells (madeCells #[.int .i64 0] N) 3)) := by
    intro N hN W
    have := run_make (P := Tryz.prog) W 30 3 i0 (.int .i64 0) Tryz.underlying30 hi hz0 .i64 .i64 (N : Int) (N : Int) (by omega) (by omega) (by rw [hz2]; omega) (by omega)
    rw [hz1, Nat.mul_one] at this
    exact this
  have hm286 : ∀ W : World, Sem.run Tryz.prog (Instr.makeSlice 30 (.int .i64 286) (.int .i64 286)) W = .ok (.slice (some ⟨W.heap.size, 0, none⟩) 286 286) (W.alloc (.cells (madeCells #[.int .i64 0] 286) 3)) := hmk 286 (by omega)
  have hm30 : ∀ W : World, Sem.run Tryz.prog (Instr.makeSlice 30 (.int .i64 30) (.int .i64 30)) W = .ok (.slice (some ⟨W.heap.size, 0, none⟩) 30 30) (W.alloc (.cells (madeCells #[.int .i64 0] 30) 3)) := hmk 30 (by omega)
  have H := hidden h
  have HL := hidden hl
  have c1 := h.c1
  have LOW := hidden h.low
  clear h hl hmk
  go_enter Tryz.func18, Tryz.ntmps18
  go_upto_region 1 with fail
  refine region_inv Tryz.mixed 55 (fun j => if j = 4 then 3 else 5 + j) [(0, .pointer (some ⟨f, 0, none⟩)), (1, undef), (2, .pointer none), (4, undef)] (FB w.heap.size) (by kernel_rfl) FB.mono rfl rfl ?rbase ?rops ?rend
  case rbase => intro x hx; simp at hx; rcases hx with rfl | rfl | rfl | rfl <;> rfl
  case rops =>
    intro j o ho b u hn hs hb hdeps
    have hj : j < 5 := (Array.getElem?_eq_some_iff.1 ho).1
    have hws := hs.size
    have hjc : j = 0 ∨ j = 1 ∨ j = 2 ∨ j = 3 ∨ j = 4 := by omega
    rcases hjc with rfl | rfl | rfl | rfl | rfl
    · simp at ho
      subst ho
      refine ⟨rfl, wp_run (v := .slice (some ⟨u.heap.size, 0, none⟩) 286 286) (w' := u.alloc (.cells (madeCells #[.int .i64 0] 286) 3)) ?_ ⟨_, rfl, (Step.refl _ _).alloc _, u.heap.size, rfl, hws, Af.new _ _ _ _ _ (fun k hk => madeCells_get _ _ _ hk)⟩⟩
      have c2 : b.eval (.const (.int .i64 286)) = .int .i64 286 := rfl
      simp only [execOp, c2]
      simp [hm286]
    · simp at ho
      subst ho
      refine ⟨rfl, wp_run (v := .slice (some ⟨u.heap.size, 0, none⟩) 30 30) (w' := u.alloc (.cells (madeCells #[.int .i64 0] 30) 3)) ?_ ⟨_, rfl, (Step.refl _ _).alloc _, u.heap.size, rfl, hws, Af.new _ _ _ _ _ (fun k hk => madeCells_get _ _ _ hk), by simp [madeCells]⟩⟩
      have c2 : b.eval (.const (.int .i64 30)) = .int .i64 30 := rfl
      simp only [execOp, c2]
      simp [hm30]
    · simp at ho
      subst ho
      obtain ⟨h1, d1, q1, q2⟩ : ∃ g, b.eval (.tmp 5) = .slice (some ⟨g, 0, none⟩) 286 286 ∧ _ := hdeps ⟨0, .data⟩ (by simp) rfl
      obtain ⟨h2, d2, q3, q4, q5⟩ : ∃ g, b.eval (.tmp 6) = .slice (some ⟨g, 0, none⟩) 30 30 ∧ _ := hdeps ⟨1, .data⟩ (by simp) rfl
      refine ⟨rfl, wp_run (v := .agg (bkV h1 h2)) (w' := u) ?_ ⟨_, rfl, Step.refl _ _, h1, h2, rfl, q1, q3, ?_, q2, q4⟩⟩
      · simp [execOp, d1, d2]
        rw [run_build u _ _ _ (builtBk h1 h2)]
        rfl
      · intro e
        rw [e] at q2
        have := (q2 30 (by omega)).1
        rw [q5] at this
        cases this
    · simp at ho
      subst ho
      obtain ⟨h1, h2, d1, q1, q2, q3, q4, q5⟩ : ∃ g1 g2, b.eval (.tmp 7) = .agg (bkV g1 g2) ∧ _ := hdeps ⟨2, .data⟩ (by simp) rfl
      have l1 := q4.lt (by omega)
      have l2 := q5.lt (by omega)
      have hst : Step (fun _ => False) u (u.alloc (.cells (bkV h1 h2) 41)) := (Step.refl _ _).alloc _
      refine ⟨rfl, wp_run (v := .pointer (some ⟨u.heap.size, 0, none⟩)) (w' := u.alloc (.cells (bkV h1 h2) 41)) ?_ ⟨_, rfl, hst, u.heap.size, h1, h2, rfl, hws, q1, q2, by omega, by omega, q3, by simpa using Sv.new u (bkV h1 h2).toList 41, q4.made hst, q5.made hst⟩⟩
      simp only [execOp, d1, Instr.box, newVar, Value.cells]
      simp [go_sem]
    · simp at ho
      subst ho
      obtain ⟨b', h1, h2, d1, q⟩ : ∃ b' g1 g2, b.eval (.tmp 8) = .pointer (some ⟨b', 0, none⟩) ∧ _ := hdeps ⟨3, .data⟩ (by simp) rfl
      exact ⟨rfl, wp_run (v := .pointer (some ⟨b', 0, none⟩)) (w' := u) (by simp [execOp, d1]) ⟨_, rfl, Step.refl _ _, b', h1, h2, rfl, q⟩⟩
  case rend =>
    intro c u hd hn hs hb hF
    obtain ⟨b, h1, h2, q3, l0, l1, l2, n1, n2, n3, v0, v1, v2⟩ : ∃ b g1 g2, c.eval (.tmp 3) = .pointer (some ⟨b, 0, none⟩) ∧ _ := hF 4 (by decide)
    have q0 : c.eval (.tmp 0) = _ := hb (0, .pointer (some ⟨f, 0, none⟩)) (by simp)
    have HK := hidden (show Bk w.heap.size u b (.slice none 0 0) (.slice none 0 0) false h1 h2 [] (cL []) (cD []) (mB []) from
      ⟨(v0 0 _ rfl).1, (v0 1 _ rfl).1, (v0 2 _ rfl).1, (v0 3 _ rfl).1, (v0 4 _ rfl).1, (v0 5 _ rfl).1, fun k hk => (v0 k _ (List.getElem?_eq_getElem (by simpa using hk))).2, World.ownsRow_nil _ _ _ _, v1.congr (fun k _ => by simp [cL]), v2.congr (fun k _ => by simp [cD, dL]), ⟨n1, n2, n3⟩, fun k hk => by simp [Value.ownBlock] at hk, ⟨l0, l1, l2⟩⟩)
    have HF := hidden (H.out.made hs)
    have HS := hidden hs
    obtain ⟨fr, hf2, hbf⟩ := act_lit55 c hd hn
    rw [← hf2] at q0 q3
    rw [q0, q3] at hbf
    rw [hbf]
    clear hF hb hn hs hbf hf2 q0 q3 hd l0 l1 l2 n1 n2 n3 v0 v1 v2
    have d1 := HF.out.c1
    have hLOW := LOW.out
    have HNS := hidden (show ∀ k, w.heap.size ≤ k → ¬ Fs f g1 g2 k from fun k hk hf => by
      rcases hf with e | e | e <;> omega)
    have HNI := hidden (show ¬ (w.heap.size ≤ f) ∧ ¬ (w.heap.size ≤ g1) ∧ ¬ (w.heap.size ≤ g2) by omega)
    clear hLOW hm286 hm30 hi hz0 hz1 hz2 c1 i0
    generalize fr 1 = y1 at *
    go_wp2
    go_loopw [] (fun wr => ∃ (at' : Nat) (ts : List Tk) (tv : Value), Hid (Bk w.heap.size wr b tv (.slice none 0 0) false h1 h2 ts (cL ts) (cD ts) (mB ts) ∧ Fi wr f pv P g1 g2 n at' (min at' (P.length - 2)) ∧ toks P n 0 = ts ++ toks P n at' ∧ at' ≤ P.length ∧ mB ts ≤ 18 * ts.length ∧ Step (Fs f g1 g2) w wr)) (fun wr => P.length - atOf f wr)
    case atStart =>
      refine ⟨0, [], .slice none 0 0, hidden ⟨?_, ?_, rfl, Nat.zero_le _, Nat.zero_le _, ?_⟩⟩
      · first | exact HK.out | exact HK.out.made ((Step.refl _ _).drew)
      · rw [Nat.zero_min]; first | exact HF.out | exact HF.out.made ((Step.refl _ _).drew)
      · first | exact HS.out.mono (fun _ q => q.elim) | exact (HS.out.mono (fun _ q => q.elim)).drew
    case round =>
      obtain ⟨at', ts, tv, HR⟩ := hrel
      clear HK HF HS d1
      have c0 := HR.out.1.c0
      have hform : ∃ ao cap, tv = .slice ao ts.length cap := by
        rcases Joins.ownsRow_forms HR.out.1.ow with ⟨e, e0⟩ | ⟨g, cap, e⟩
        · exact ⟨none, 0, by rw [e, e0]⟩
        · exact ⟨_, cap, e⟩
      obtain ⟨ao, cap, hform⟩ := hform
      rw [hform] at c0
      have hlt : ts.length < 16384 := by
        have := HL.out
        rw [HR.out.2.2.1, List.length_append] at this
        omega
      have zlt : (ts.length : Int) < 16384 := by omega
      have HD := hidden (done_any HR.out.2.1)
      have Hlt := hidden hlt
      by_cases hat : at' < P.length
      · have hdec : decide (at' = P.length) = false := by simp; omega
        rw [hdec] at HD
        obtain ⟨L, hL⟩ : ∃ L, ts.length = L := ⟨_, rfl⟩
        rw [hL] at c0 zlt
        clear hdec hlt hL
        go_wp2_with fail
        refine HD.out.mono ?_
        rintro e w2 ⟨rfl, q, hw2⟩
        have S2 : Step (fun _ => False) wr w2 := by rw [hw2]; exact (Step.refl _ _).drewN q
        have HK2 := hidden (HR.out.1.made S2)
        have HF2 := hidden (HR.out.2.1.made S2)
        have HS2 := hidden (HR.out.2.2.2.2.2.trans S2 (fun _ q => q.elim))
        have HN := hidden (fnext_any w2 f pv P g1 g2 n at' HF2.out hat)
        have TK := hidden (nxt_at P n at' hat HF2.out.byte)
        have HAT := hidden hat
        have HST := hidden (toks_step P n at' hat)
        have HA0 := hidden (atOf_eq HR.out.2.1.c1)
        obtain ⟨R, hR⟩ : ∃ R, nxt P n at' = R := ⟨_, rfl⟩
        rw [hR] at HN TK HST
        have HTE := hidden HR.out.2.2.1
        have HMB := hidden HR.out.2.2.2.2.1
        have ht : (R.n = 0 ∧ R.c < 256) ∨ (3 ≤ R.n ∧ R.n ≤ 258 ∧ 1 ≤ R.d ∧ R.d ≤ 32768) := by
          rcases TK.out.1 with ⟨a, b, _⟩ | ⟨a, b, c, d, _⟩
          · exact .inl ⟨a, b⟩
          · exact .inr ⟨a, b, c, d⟩
        have hmT : mT R ≤ 18 := by
          unfold mT
          split
          · omega
          · rename_i hne
            have := lnB_le R.n (by omega)
            have := dsB_le R.d (by omega) (by omega)
            omega
        have HMT := hidden hmT
        have HTT := hidden ht
        clear S2 hw2 hR hat HR HD ht hmT c0
        go_wp2_with fail
        refine HN.out.mono ?_
        rintro e w3 ⟨rfl, F3, S3⟩
        have HK3 := hidden (HK2.out.step S3 HNS.out)
        have HF3 := hidden F3
        have HS3 := hidden (HS2.out.trans S3 (fun i hi => .inl hi))
        have HTK := hidden (take_any w3 HK3.out R HTT.out (by have := Hlt.out; omega) HMB.out)
        clear F3 S3 HK2 HF2 HS2 HN
        go_wp2_with fail
        refine HTK.out.mono ?_
        rintro e w4 ⟨⟨u4, rfl⟩, ⟨tv', K4⟩, S4⟩
        have HF4 := hidden (HF3.out.step S4 HNI.out.1 HNI.out.2.1 HNI.out.2.2 (fun a k c e hP => by
          have := LOW.out.2.2.2 a k c e hP
          show ¬ w.heap.size ≤ a.block
          omega))
        have HS4 := hidden (HS3.out.trans S4 (fun i hi => .inr hi))
        have HK4 := hidden K4
        clear K4 S4 HTK HS3 HF3 HK3
        have HA4 := hidden (atOf_eq HF4.out.c1)
        go_wp2_with fail
        go_roundw
        case rel =>
          refine ⟨at' + max 1 R.n, ts ++ [R], tv', hidden ⟨HK4.out, HF4.out, ?_, TK.out.2.2, ?_, HS4.out⟩⟩
          · rw [HTE.out, HST.out, List.append_assoc]; rfl
          · rw [mB_snoc, List.length_append]
            have := HMT.out
            have := HMB.out
            simp only [List.length_cons, List.length_nil]
            omega
        case measure =>
          rw [HA4.out, HA0.out]
          have := TK.out.2.2
          have := HAT.out
          omega
      · have hae : at' = P.length := by have := HR.out.2.2.2.1; omega
        have hdec : decide (at' = P.length) = true := by simp [hae]
        rw [hdec] at HD
        obtain ⟨L, hL⟩ : ∃ L, ts.length = L := ⟨_, rfl⟩
        rw [hL] at c0 zlt
        have hts : ts = toks P n 0 := by
          have := HR.out.2.2.1
          rw [toks_end P n at' (by omega), List.append_nil] at this
          exact this.symm
        have hcb := cL_bd ts 256
        obtain ⟨zl, hzl⟩ : ∃ z, cL ts 256 = z := ⟨_, rfl⟩
        have Hzl := hidden hzl
        rw [hzl, hL] at hcb
        have hL2 : L < 16384 := by omega
        have wz : wrap64 (zl + 1) = zl + 1 := wrap64_id _ (by omega) (by omega)
        have wz2 : IntKind.i64.wrap (zl + 1) = zl + 1 := wrap_i64_id _ (by omega) (by omega)
        have HTS := hidden hts
        clear hts hcb hzl hL2 hL hlt hdec hat
        go_wp2_with fail
        refine HD.out.mono ?_
        rintro e w2 ⟨rfl, q, hw2⟩
        have S2 : Step (fun _ => False) wr w2 := by rw [hw2]; exact (Step.refl _ _).drewN q
        have HK2 := hidden (HR.out.1.made S2)
        have HF2 := hidden (HR.out.2.1.made S2)
        have HS2 := hidden (HR.out.2.2.2.2.2.trans S2 (fun _ q => q.elim))
        clear S2 hw2 HD HR
        have c3 := HK2.out.c3
        obtain ⟨ce, cz⟩ := HK2.out.la' 256 (by omega)
        rw [Hzl.out] at ce
        go_upto_region 6 with fail
        obtain ⟨w5, hw5⟩ : ∃ w5, w2.setCell ⟨h1, 256, none⟩ (.int .i64 (zl + 1)) = w5 := ⟨_, rfl⟩
        rw [hw5]
        have S5 : Step (fun k => w.heap.size ≤ k) w2 w5 := by rw [← hw5]; exact (Step.refl (fun k => w.heap.size ≤ k) w2).setCell _ _ (.inl HK2.out.hi.2.1)
        have HK5 := hidden (show Bk w.heap.size w5 b tv (.slice none 0 0) false h1 h2 ts (upd (cL ts) 256 (zl + 1)) (cD ts) (mB ts) by rw [← hw5]; exact HK2.out.lit 256 (zl + 1))
        have HF5 := hidden (HF2.out.step S5 HNI.out.1 HNI.out.2.1 HNI.out.2.2 (fun a k c e hP => by
          have := LOW.out.2.2.2 a k c e hP
          show ¬ w.heap.size ≤ a.block
          omega))
        have HS5 := hidden (HS2.out.trans S5 (fun i hi => .inr hi))
        clear S5 hw5 HK2 HF2 HS2 c3 ce cz wz wz2
        have d0 := HF5.out.c0
        have d1 := HF5.out.c1
        obtain ⟨ao2, cap2, hpv, _⟩ := id HF5.out.rd
        have hcap := HF5.out.cp ao2 _ cap2 hpv
        rw [hpv] at d0
        rw [hae] at d1
        have Hae := hidden hae
        obtain ⟨m, hm⟩ : ∃ m, P.length = m := ⟨_, rfl⟩
        have Hm := hidden hm
        have Hpv := hidden hpv
        rw [hm] at d0 d1 hcap
        have m0 : (0 : Int) ≤ (m : Int) := by omega
        have m1 : (m : Int) ≤ (cap2 : Int) := by omega
        have m2 : ¬ ((m : Int) < 0) := by omega
        have m3 : ¬ ((cap2 : Int) < (m : Int)) := by omega
        have k1 := HK5.out.c1
        have k1z := HK5.out.fz 1 (by omega)
        clear hm hpv hae c0
        refine wp_region_still_tail 13 Tryz.mixed (by kernel_rfl) ?_
        simp only [List.take_succ_cons, List.take_zero, List.drop_succ_cons, List.drop_zero]
        change wpStill _ _ (World.drew _) _ _ _
        iterate 10 still_step
        iterate 3 still_step
        refine wpStill_nil ?_
        go_wp2_with fail
        obtain ⟨w6, hw6⟩ : ∃ w6, (w5.setCell ⟨b, 1, none⟩ (.slice ao2 m cap2)).drew = w6 := ⟨_, rfl⟩
        rw [hw6]
        have S6 : Step (fun k => w.heap.size ≤ k) w5 w6 := by rw [← hw6]; exact ((Step.refl (fun k => w.heap.size ≤ k) w5).setCell _ _ (.inl HK5.out.hi.1)).drew
        have HK6 := hidden (show Bk w.heap.size w6 b tv pv false h1 h2 ts (upd (cL ts) 256 (zl + 1)) (cD ts) (mB ts) by rw [← hw6, Hpv.out, Hm.out]; exact (HK5.out.raw (.slice ao2 m cap2)).made ((Step.refl _ _).drew))
        have HF6 := hidden (HF5.out.step S6 HNI.out.1 HNI.out.2.1 HNI.out.2.2 (fun a k c e hP => by
          have := LOW.out.2.2.2 a k c e hP
          show ¬ w.heap.size ≤ a.block
          omega))
        have HS6 := hidden (HS5.out.trans S6 (fun i hi => .inr hi))
        clear S6 hw6 HK5 HF5 HS5 d0 d1 k1 k1z m0 m1 m2 m3 hcap
        have HD6 := hidden (done_any HF6.out)
        have hdec : decide (at' = P.length) = true := by simp [Hae.out]
        rw [hdec] at HD6
        clear hdec
        refine HD6.out.mono ?_
        rintro e w7 ⟨rfl, q7, hw7⟩
        have S7 : Step (fun _ => False) w6 w7 := by rw [hw7]; exact (Step.refl _ _).drewN q7
        have HK7 := hidden (HK6.out.made S7)
        have HS7 := hidden (HS6.out.trans S7 (fun _ q => q.elim))
        clear S7 hw7 HD6 HK6 HF6 HS6
        have k2 := HK7.out.c2
        have k2z := HK7.out.fz 2 (by omega)
        have HFIN := hidden (HK7.out.las true)
        have HHI := hidden HK7.out.hi.1
        go_wp2
        go_ret
        refine ⟨b, tv, h1, h2, rfl, ?_, HS7.out.setCell _ _ (.inr HHI.out)⟩
        rw [← HTS.out, Hzl.out]
        exact HFIN.out

end Go.Proofs.YtcgjmkcigmmjjaaGreatDoor

namespace Go.Proofs.YtcgjmkcigmmjjaaGreatDoor
open Go.RowKit
set_option maxRecDepth 100000
/-- The bytes of what was laid. -/
def outB (ps : List (Nat × Nat)) : List Nat := bytesOf (pcN ps) ((pcL ps + 7) / 8)

theorem outB_len (ps : List (Nat × Nat)) : (outB ps).length = (pcL ps + 7) / 8 := by unfold outB; exact bytesOf_length _ _

theorem Rd.below {w : World} {ao : Option Addr} {n c : Nat} {B : List Nat} (h : Rd w (.slice ao n c) B) : ∀ a, ao = some a → B ≠ [] → a.block < w.heap.size := by
  intro a e hB
  subst e
  obtain ⟨ao', cp, e, h1, h2⟩ := h
  injection e with e1 e2 e3
  obtain ⟨g, off, e, hc⟩ := h2 a e1.symm hB
  subst e
  exact World.block_lt_of_cell? w _ (hc 0 (List.length_pos_iff.2 hB))

theorem bytes_c2 (b : Nat) (ps : List (Nat × Nat)) (G : Nat → Prop) (w : World) (h : Wc w b ps G) (hL : pcL ps ≤ 1000000000) :
    Calls Tryz.prog 20 #[.pointer (some ⟨b, 0, none⟩)] w fun e w' => ∃ ao c, e = .returned (.slice ao ((pcL ps + 7) / 8) c) ∧ Hid (Rd w' (.slice ao ((pcL ps + 7) / 8) c) (outB ps) ∧ Step (fun _ => False) w w' ∧ (pcL ps + 7) / 8 ≤ c) := by
  obtain ⟨s, h1, h2, h3⟩ := h
  refine (wbytes_any b s _ _ w h1 (by omega)).mono fun e w' ⟨v', he, a1, a2, a3⟩ => ?_
  have hr := Rd.of_own a1
  rcases a1.2 with ⟨e1, e0⟩ | ⟨g, cap, cur, e1, _, _, hc, _⟩
  · subst e1
    rw [e0] at hr
    exact ⟨none, 0, by rw [he, e0], by rw [e0]; exact hidden ⟨by unfold outB; rw [e0]; exact hr, a2, Nat.le_refl _⟩⟩
  · subst e1
    exact ⟨_, cap, he, hidden ⟨hr, a2, hc⟩⟩

/-- The stream of bytes as they are. -/
def stPs (P : List Nat) : List (Nat × Nat) := stC [] P true (stB P.length)

theorem stPs_len (P : List Nat) (h : P.length ≤ 1000000) : pcL (stPs P) ≤ 17000000 := by
  have := stC_len [] P true (stB P.length)
  have h2 : stB P.length ≤ 17 := by unfold stB; omega
  have e : pcL ([] : List (Nat × Nat)) = 0 := rfl
  unfold stPs
  omega

set_option maxHeartbeats 2000000 in
theorem dstored_any (w : World) (ao : Option Addr) (cap : Nat) (P : List Nat) (hr : Rd w (.slice ao P.length cap) P) (hcap : P.length ≤ cap) (hP : ∀ x ∈ P, x < 256) (hn : P.length ≤ 1000000) :
    Calls Tryz.prog 15 #[.slice ao P.length cap] w fun e w' => ∃ a c, e = .returned (.slice a (outB (stPs P)).length c) ∧ Hid (Rd w' (.slice a (outB (stPs P)).length c) (outB (stPs P)) ∧ Step (fun _ => False) w w' ∧ (outB (stPs P)).length ≤ c) := by
  have HR := hidden hr
  have HP := hidden hP
  have HN := hidden (W2.new w)
  have HLE := hidden (stPs_len P hn)
  have HST := hidden (fun w1 (h1 : W2 w1 w.heap.size) (hs : Step (fun _ => False) w w1) => (store_any w1 w.heap.size [] (Bsd w1 w.heap.size) h1.wc (fun k hk => hk.1) (by simp [pcL]) ao cap P (hr.step hs (fun _ _ _ _ _ q => q)) hcap (fun a e hne => by
    have := hr.below a e hne
    have := hs.size
    exact ⟨by omega, by omega⟩) hP hn true).mono (fun e w' h => show (∃ u, e = .returned u) ∧ Hid (Wc w' w.heap.size (stPs P) (Bsd w1 w.heap.size) ∧ Step (fun k => ¬ Bsd w1 w.heap.size k) w1 w') from h))
  have HBY := hidden (fun w1 (G : Nat → Prop) (h1 : Wc w1 w.heap.size (stPs P) G) => bytes_c2 w.heap.size (stPs P) G w1 h1 (by have := stPs_len P hn; omega))
  rw [← outB_len] at HBY
  obtain ⟨n, hnn⟩ : ∃ n, P.length = n := ⟨_, rfl⟩
  obtain ⟨m, hm⟩ : ∃ m, (outB (stPs P)).length = m := ⟨_, rfl⟩
  obtain ⟨b, hb⟩ : ∃ b, w.heap.size = b := ⟨_, rfl⟩
  have Hb := hidden hb
  rw [hnn] at HST ⊢
  rw [hm] at HBY ⊢
  rw [hb] at HST HBY HN
  clear hr hcap hP hn hnn hm hb
  go_enter Tryz.func15, Tryz.ntmps15
  go_wp2_with fail
  refine HN.out.mono ?_
  rintro e w1 ⟨rfl, h1, S1⟩
  have HS1 := hidden S1
  have HSO := hidden (HST.out w1 h1 S1)
  clear h1 S1 HST HN
  go_wp2_with fail
  refine HSO.out.mono ?_
  rintro e w2 ⟨⟨u2, rfl⟩, R2⟩
  have HS2 := hidden (show Step (fun _ => False) w w2 from HS1.out.trans R2.out.2 (fun i hi => by
    by_cases h : i < w.heap.size
    · exact .inl (hi ⟨by have := HS1.out.size; omega, by have := Hb.out; omega⟩)
    · exact .inr (by omega)))
  have HBC := hidden (HBY.out w2 _ R2.out.1)
  clear R2 HSO HBY
  go_wp2_with fail
  refine HBC.out.mono ?_
  rintro e w3 ⟨a3, c3, rfl, R3⟩
  go_wp2
  go_ret
  exact ⟨a3, c3, rfl, R3.out.1, HS2.out.made R3.out.2.1, R3.out.2.2⟩

/-- What the bytes are laid as. -/
def smPs (P : List Nat) (D1 D2 D3 : List Int) (a d k : Nat) (xs : List Sp) : List (Nat × Nat) :=
  if (outB (layPs (toks P (bl P.length) 0) P D1 D2 D3 a d k xs)).length ≤ stS P.length then layPs (toks P (bl P.length) 0) P D1 D2 D3 a d k xs else stPs P

/-- A stream that holds P. -/
def Sm (P B : List Nat) : Prop := ∃ D1 D2 D3 a d k xs, Ow (toks P (bl P.length) 0) D1 D2 D3 a d k xs ∧ B = outB (smPs P D1 D2 D3 a d k xs)

/-- There is one such stream alone. -/
theorem Sm.uniq {P B B' : List Nat} (h : Sm P B) (h' : Sm P B') : B = B' := by
  obtain ⟨D1, D2, D3, a, d, k, xs, hw, rfl⟩ := h
  obtain ⟨D1', D2', D3', a', d', k', xs', hw', rfl⟩ := h'
  obtain ⟨rfl, rfl, rfl, rfl, rfl, rfl, rfl⟩ := hw.uniq hw'
  rfl

theorem mB_le {ts : List Tk} (h : ∀ x ∈ ts, tkIn x) : mB ts ≤ 18 * ts.length := by
  induction ts with
  | nil => simp [mB]
  | cons t ts ih =>
    have h1 := ih (fun x hx => h x (by simp [hx]))
    have h2 := h t (by simp)
    have hm : mT t ≤ 18 := by
      unfold mT
      split
      · omega
      · unfold tkIn at h2
        have := lnB_le t.n (by omega)
        have := dsB_le t.d (by omega) (by omega)
        omega
    unfold mB at *
    rw [List.map_cons, List.sum_cons, List.length_cons]
    omega

theorem toks_in (P : List Nat) (n : Nat) (hb : ∀ x ∈ P, x < 256) : (∀ x ∈ toks P n 0, tkIn x) ∧ (toks P n 0).length ≤ P.length := by
  have h := toks_all P n hb
  refine ⟨fun x hx => ?_, ?_⟩
  · obtain ⟨O, ho⟩ := h.all x hx
    unfold tkOk at ho
    unfold tkIn
    omega
  · have := h.len
    simpa using this

theorem W2.step {S : Nat → Prop} {w w' : World} {b : Nat} (h : W2 w b) (hs : Step S w w') (hS : ¬ S b) : W2 w' b := by
  have hb := World.block_lt_of_cell? w _ h.c0
  exact ⟨hs.cell h.c0 hS, fun k hk => by rw [hs.same hb hS]; exact h.no k hk, h.wr.step hs hS (fun k hk => by simp [Value.ownBlock] at hk)⟩

theorem tksP_all {L D : List Int} (hL : ∀ i, L.getD i 0 ≤ 15) (hD : ∀ i, D.getD i 0 ≤ 15) {ts : List Tk} (h : ∀ x ∈ ts, tkIn x) : pcL (tksP L D ts) ≤ 48 * ts.length := by
  have := tksP_len hL hD h ts.length
  rwa [List.take_length] at this

theorem layPs_len {ts : List Tk} {P : List Nat} {D1 D2 D3 : List Int} {a d k : Nat} {xs : List Sp} (h : Ow ts D1 D2 D3 a d k xs) (hP : P.length ≤ 1000000) (hl : ts.length ≤ 1000000) (hts : ∀ x ∈ ts, tkIn x) : pcL (layPs ts P D1 D2 D3 a d k xs) ≤ 900000000 := by
  unfold layPs
  split
  · have h1 := tksP_all (L := FL) (D := FD) (fun i => (FL_bd i).2) (fun i => by
      by_cases hi : i < 32
      · rw [(fixD_facts i hi).1]; decide
      · rw [List.getD_eq_getElem?_getD, List.getElem?_eq_none (by have : FD.length = 32 := by rfl
                                                                  omega)]
        simp) hts
    have h2 := (FL_bd 256).2
    have e : pcL (fixPs ts) = 1 + (2 + pcL (tksP FL FD ts ++ [cdP FL 256, (0, 0)])) := rfl
    have e2 : pcL [cdP FL 256, (0, 0)] = (FL.getD 256 0).toNat + (0 + 0) := rfl
    rw [e, pcL_append, e2]
    omega
  · split
    · have h1 := tksP_all (fun i => (h.u1.bd' i).2) (fun i => (h.u2.bd' i).2) hts
      have h2 := spsP_len (lensOf (SA xs) D3 7) xs (fun i => by have := h.u3.bd' i; omega) (fun x hx => (h.sp.in' x hx).2.2) xs.length
      rw [List.take_length] at h2
      have h3 := (h.u1.bd' 256).2
      have e : pcL (ownPs (lensOf (LA ts) D1 15) (lensOf (DA ts) D2 15) (lensOf (SA xs) D3 7) a d k xs ts) = 1 + (2 + (5 + (5 + (4 + pcL (orP (lensOf (SA xs) D3 7) 0 k ++ (spsP (lensOf (SA xs) D3 7) xs ++ (tksP (lensOf (LA ts) D1 15) (lensOf (DA ts) D2 15) ts ++ [cdP (lensOf (LA ts) D1 15) 256, (0, 0)]))))))) := rfl
      have e2 : pcL [cdP (lensOf (LA ts) D1 15) 256, (0, 0)] = ((lensOf (LA ts) D1 15).getD 256 0).toNat + (0 + 0) := rfl
      rw [e, pcL_append, pcL_append, pcL_append, orP_le, e2]
      have := h.len
      have := h.hk
      omega
    · have := stPs_len P hP
      unfold stPs at this
      omega

set_option maxHeartbeats 4000000 in
theorem dbytes_any (w : World) (ao : Option Addr) (cap : Nat) (P : List Nat) (hr : Rd w (.slice ao P.length cap) P) (hcap : P.length ≤ cap) (hP : ∀ x ∈ P, x < 256) (hn : P.length ≤ 16000) (hT : TabD w) :
    Calls Tryz.prog 9 #[.slice ao P.length cap] w fun e w' => ∃ a c B, e = .returned (.slice a B.length c) ∧ Hid (Sm P B ∧ Rd w' (.slice a B.length c) B ∧ Step (fun _ => False) w w' ∧ B.length ≤ c) := by
  obtain ⟨hts, htl⟩ := toks_in P (bl P.length) hP
  have hmb := mB_le hts
  obtain ⟨ts, hte⟩ : ∃ ts, toks P (bl P.length) 0 = ts := ⟨_, rfl⟩
  have Hte := hidden hte
  rw [hte] at hts htl hmb
  have HR := hidden hr
  have HP := hidden hP
  have HN := hidden (W2.new w)
  have HNF := hidden (fun w1 (hs : Step (fun _ => False) w w1) => newFinder_any (.slice ao P.length cap) P w1 (hr.step hs (fun _ _ _ _ _ q => q)) (by omega) hP (fun ao k c e => by injection e with _ _ e3; omega))
  have HTS := hidden (And.intro hts (And.intro htl hmb))
  have HT := hidden hT
  have HNX := hidden (fun w1 f g1 g2 (h : Fi w1 f (.slice ao P.length cap) P g1 g2 (bl P.length) 0 0) => nextBlock_any w1 f _ P g1 g2 _ h (by rw [hte]; omega))
  rw [hte] at HNX
  have HLY := hidden (fun w1 b (hW : W2 w1 b) B0 (hB : b < B0) p g1 g2 tv hK hs ho => blay_any w1 b hW B0 hB p g1 g2 tv ao cap ts P hK (hr.step (S := fun k => w.heap.size ≤ k) hs (fun a n c e hne q => by have := hr.below a (by injection e) hne; omega)) hcap ho hP (by omega) (by omega) hts (by omega) (hT.step hs (fun q => by have := hT.lt; omega)))
  have HSS := hidden (fun w => storedSize_any P.length (by omega) w)
  have HSD := hidden (fun w1 (hs : Step (fun k => w.heap.size ≤ k) w w1) => dstored_any w1 ao cap P (hr.step hs (fun a n c e hne q => by have := hr.below a (by injection e) hne; omega)) hcap hP (by omega))
  have HRB := hidden hr.below
  have hn2 := hn
  obtain ⟨n, hnn⟩ : ∃ n, P.length = n := ⟨_, rfl⟩
  obtain ⟨b, hb⟩ : ∃ b, w.heap.size = b := ⟨_, rfl⟩
  have Hb := hidden hb
  have Hn := hidden hnn
  have Hte' := hidden (show toks P (bl n) 0 = ts by rw [← hnn]; exact hte)
  rw [hb] at HN
  have HLN := hidden hn
  rw [hnn] at HNF HNX HLY HSS HSD ⊢
  clear hr hcap hP hn hn2 hT hts htl hmb hte hnn hb
  go_enter Tryz.func9, Tryz.ntmps9
  go_wp2_with fail
  refine HN.out.mono ?_
  rintro e w1 ⟨rfl, h1, S1⟩
  have HW1 := hidden h1
  have HS1 := hidden S1
  have HF := hidden (HNF.out w1 S1)
  clear h1 S1 HNF HN
  go_wp2_with fail
  refine HF.out.mono ?_
  rintro e w2 ⟨f, g1, g2, rfl, fi, l0, l1, l2, S2⟩
  have HW2 := hidden (HW1.out.made S2)
  have HS2 := hidden (HS1.out.made S2)
  have HFi := hidden fi
  have HLo := hidden (And.intro l0 (And.intro l1 l2))
  have HSz := hidden S2.size
  have hb1 := hidden (World.block_lt_of_cell? w1 _ HW1.out.c0)
  clear fi l0 l1 l2 S2 HF
  have HBO := hidden (fun w' qs (G : Nat → Prop) (h : Wc w' b qs G) (hq : pcL qs ≤ 1000000000) => bytes_c2 b qs G w' h hq)
  go_wp2_with fail
  go_loopw [5] (fun lv wr => (lv = .bool false ∧ Hid (Fi wr f (.slice ao n cap) P g1 g2 (bl n) 0 0 ∧ W2 wr b ∧ Step (fun _ => False) w wr ∧ w1.heap.size ≤ wr.heap.size)) ∨ (lv = .bool true ∧ Hid (∃ D1 D2 D3 a d k xs, Ow ts D1 D2 D3 a d k xs ∧ (∃ G, Wc wr b (layPs ts P D1 D2 D3 a d k xs) G) ∧ Step (fun k => w.heap.size ≤ k) w wr))) (fun lv _ => match lv with | .bool false => 1 | _ => 0)
  case atStart => exact .inl ⟨rfl, hidden ⟨HFi.out, HW2.out, HS2.out, HSz.out⟩⟩
  case round =>
    rcases hrel with ⟨rfl, HQ⟩ | ⟨rfl, HQ⟩
    · clear HW2 HS2 HFi
      have HNX2 := hidden (HNX.out wr f g1 g2 HQ.out.1)
      go_wp2_with fail
      refine HNX2.out.mono ?_
      rintro e w3 ⟨p, tv, h1, h2, rfl, K3, S3⟩
      have HbF := hidden (show ¬ Fs f g1 g2 b from fun q => by
        have h1 := HLo.out
        have h2 := hb1.out
        rcases q with q | q | q <;> omega)
      have HW3 := hidden (HQ.out.2.1.step S3 HbF.out)
      have HS3 := hidden (show Step (fun k => w.heap.size ≤ k) w w3 from (HQ.out.2.2.1.mono (fun _ q => q.elim)).trans S3 (fun i hi => .inl (by
        have h1 := HLo.out
        have h2 := HS1.out.size
        show w.heap.size ≤ i
        rcases hi with q | q | q <;> omega)))
      have HK3 := hidden K3
      have hbw := hidden (show b < wr.heap.size by have := hb1.out; have := HQ.out.2.2.2; omega)
      have HLY2 := hidden (HLY.out w3 b HW3.out wr.heap.size hbw.out p h1 h2 tv K3 HS3.out (fun a e hne => by
        have h1 := HRB.out a e hne
        have h2 := HS3.out.size
        have h3 := Hb.out
        exact ⟨by omega, by omega⟩))
      clear K3 S3 HNX2 HNX HLY
      go_wp2_with fail
      refine HLY2.out.mono ?_
      rintro e w4 ⟨⟨u4, rfl⟩, R4⟩
      obtain ⟨D1, D2, D3, a, d, k, xs, hOw, hWc, S4⟩ := R4.out
      have k2 := (HK3.out.bes hbw.out S4).c2
      have HF := hidden (show ∃ D1 D2 D3 a d k xs, Ow ts D1 D2 D3 a d k xs ∧ (∃ G, Wc w4 b (layPs ts P D1 D2 D3 a d k xs) G) ∧ Step (fun k => w.heap.size ≤ k) w w4 from ⟨D1, D2, D3, a, d, k, xs, hOw, ⟨_, hWc⟩, HS3.out.trans S4 (fun i hi => by
        by_cases h : w.heap.size ≤ i
        · exact .inl h
        · exact absurd ⟨by have := HS3.out.size; omega, by have := Hb.out; omega⟩ hi)⟩)
      clear hOw hWc S4 R4 HLY2 HK3 HQ
      go_wp2_with fail
      go_roundw
      case rel => exact .inr ⟨rfl, HF.out⟩
      case measure => simp
    · obtain ⟨D1, D2, D3, a, d, k, xs, hOw, ⟨G, hWc⟩, hSt⟩ := HQ.out
      obtain ⟨X, hX⟩ : ∃ X, layPs ts P D1 D2 D3 a d k xs = X := ⟨_, rfl⟩
      rw [hX] at hWc
      have HX := hidden hX
      have HOw := hidden hOw
      have HSt := hidden hSt
      have hpl := layPs_len hOw (P := P) (by have := HLN.out; omega) (by have := HTS.out.2.1; have := HLN.out; omega) HTS.out.1
      have HBC := hidden (HBO.out wr X G hWc (by rw [← hX]; omega))
      obtain ⟨m, hm⟩ : ∃ m, (pcL X + 7) / 8 = m := ⟨_, rfl⟩
      have hmb : m ≤ 1000000000 := by rw [← hm, ← hX]; omega
      rw [hm] at HBC
      have Hm := hidden hm
      clear hOw hWc hSt hX hm hpl HW2 HS2 HFi HQ HNX HLY
      go_wp2_with fail
      refine HBC.out.mono ?_
      rintro e w5 ⟨a5, c5, rfl, R5⟩
      have HR5 := hidden R5.out.1
      have HC5 := hidden R5.out.2.2
      have HS5 := hidden (show Step (fun k => w.heap.size ≤ k) w w5 from HSt.out.trans R5.out.2.1 (fun _ q => q.elim))
      have HF5 := hidden (show Step (fun _ => False) w w5 from ⟨HS5.out.os, HS5.out.tape, HS5.out.output, HS5.out.size, fun k hk _ => HS5.out.block k hk (by show ¬ w.heap.size ≤ k; omega)⟩)
      clear R5 HBC HSt
      obtain ⟨z, hz⟩ : ∃ z, stS n = z := ⟨_, rfl⟩
      have Hz := hidden hz
      have HSS2 := hidden (fun w => HSS.out w)
      rw [hz] at HSS2
      clear hz
      by_cases hle : m ≤ z
      · have hz1 : (m : Int) ≤ (z : Int) := by omega
        have HSM := hidden (show Sm P (outB X) from ⟨D1, D2, D3, a, d, k, xs, by rw [Hn.out, Hte'.out]; exact HOw.out, by
          unfold smPs
          rw [Hn.out, Hte'.out, HX.out, outB_len, Hm.out, Hz.out, if_pos hle]⟩)
        have hm2 : (outB X).length = m := by rw [outB_len, Hm.out]
        have Hm2 := hidden hm2
        clear hm2 hle
        go_wp2_with fail
        refine (HSS2.out _).mono ?_
        rintro e w6 ⟨rfl, rfl⟩
        go_wp2
        go_ret
        exact ⟨a5, c5, outB X, by rw [Hm2.out]; rfl, hidden ⟨HSM.out, by rw [Hm2.out]; exact HR5.out, HF5.out, by rw [Hm2.out]; exact HC5.out⟩⟩
      · have hz1 : ¬ ((m : Int) ≤ (z : Int)) := by omega
        have HSM := hidden (show Sm P (outB (stPs P)) from ⟨D1, D2, D3, a, d, k, xs, by rw [Hn.out, Hte'.out]; exact HOw.out, by
          unfold smPs
          rw [Hn.out, Hte'.out, HX.out, outB_len, Hm.out, Hz.out, if_neg hle]⟩)
        have HS2 := hidden (HSD.out w5 HS5.out)
        clear hle
        go_wp2_with fail
        refine (HSS2.out _).mono ?_
        rintro e w6 ⟨rfl, rfl⟩
        go_wp2_with fail
        refine HS2.out.mono ?_
        rintro e w7 ⟨a7, c7, rfl, R7⟩
        go_wp2
        go_ret
        exact ⟨a7, c7, _, rfl, hidden ⟨HSM.out, R7.out.1, HF5.out.made R7.out.2.1, R7.out.2.2⟩⟩

end Go.Proofs.YtcgjmkcigmmjjaaGreatDoor

namespace Go.Proofs.YtcgjmkcigmmjjaaGreatDoor
open Go.RowKit
theorem append_bytes {w : World} {ops : Array Oper} {rest : List Oper} {o : Oper} {a : Act} {Q : Exit → Act → World → Prop} (hgd : o.guard = none) (s x : Operand)
    (ho : o.op = .call { callee := .builtin .append, args := #[s, x], argTypes := #[22, 22] })
    (v : Value) (n : Nat) (C : List Nat) (hs : a.eval s = v) (hown : w.ownsRow 0 5 1 v n (u8s C))
    (xv : Value) (B : List Nat) (hx : a.eval x = xv) (hr : Rd w xv B) (hb : n + B.length ≤ 137438953600)
    (h : ∀ v' w', w'.ownsRow 0 5 1 v' (n + B.length) (u8s (C ++ B)) → w.grownBy w' v.ownBlock → (v'.ownBlock = v.ownBlock ∨ v'.ownBlock = some w.heap.size) → wpList Tryz.prog ops Q rest (a.put o.dst v') w') :
    wpList Tryz.prog ops Q (o :: rest) a w := by
  obtain ⟨i0, hi, hz0, hz1, hz2⟩ := info_parts Tryz.info5
  obtain ⟨ao, cap, e, h1, _⟩ := id hr
  subst e
  cases ao with
  | none =>
    obtain ⟨rfl, rfl⟩ := h1 rfl
    exact wpList_append_own_none hgd s x 22 ho 0 5 i0 1 Tryz.underlying22 hi v n (u8s C) hs hown hx (h v w (by simpa using hown) (World.grownBy.refl _ _) (.inl rfl))
  | some ad =>
    exact wpList_append_at w hgd s x 22 ho 5 i0 (.int .u8 0) 1 1 Tryz.underlying22 hi hz0 hz1 hz2 rfl (by decide) v n (u8s C) hs hown ad B.length cap (u8s B) hx (by rw [u8s_length]; omega) hr.news (u8s_one _) (by unfold maxLen; omega) (by omega)
      (fun v' w' k1 k2 _ k4 => h v' w' (by rw [u8s_append]; exact k1) k2 k4)

end Go.Proofs.YtcgjmkcigmmjjaaGreatDoor

namespace Go.Proofs.YtcgjmkcigmmjjaaGreatDoor
open Go.RowKit
set_option maxRecDepth 100000
set_option linter.unusedVariables false
/-- How many bytes. -/
def longOf (n : Int) : Nat := min n.toNat 8

set_option maxHeartbeats 1000000 in
theorem rlittle_any (v n : Int) (w : World) (hv : v ≤ 9223372036854775807) (hn : n ≤ 9223372036854775807) :
    Calls Tryz.prog 24 #[.int .i64 v, .int .i64 n] w fun e w' => ∃ u, e = .returned u ∧ w'.ownsRow 0 5 1 u (longOf n) (u8s (bytesOf v.toNat (longOf n))) ∧ Step (fun _ => False) w w' := by
  obtain ⟨i0, hi, hz0, hz1, hz2⟩ := info_parts Tryz.info5
  obtain ⟨N, hN, hN2, hN3⟩ : ∃ N : Nat, (if 0 < v then v else (0 : Int)) = (N : Int) ∧ v.toNat = N ∧ N ≤ 9223372036854775807 := by
    refine ⟨v.toNat, ?_, rfl, by omega⟩
    split <;> omega
  obtain ⟨c, hc, hc8, hcm⟩ : ∃ c : Int, (if (8 : Int) < n then (8 : Int) else n) = c ∧ c ≤ 8 ∧ longOf n = c.toNat := by
    refine ⟨_, rfl, ?_, ?_⟩
    · split <;> omega
    · unfold longOf
      split <;> omega
  obtain ⟨m, hm, hmc⟩ : ∃ m : Nat, c.toNat = m ∧ m ≤ 8 := ⟨_, rfl, by omega⟩
  rw [hcm, hm, hN2]
  clear hcm hN2
  go_enter Tryz.func24, Tryz.ntmps24
  go_wp2
  go_loopw [0, 5, 6] (fun x s i wr => ∃ k : Nat, k ≤ m ∧ i = .int .i64 k ∧ x = .int .i64 ((N / 2 ^ (8 * k) : Nat) : Int) ∧ wr.ownsRow 0 5 1 s k (u8s (bytesOf N k)) ∧ (∀ g, s.ownBlock = some g → w.heap.size ≤ g) ∧ Step (fun _ => False) w wr) (fun _ _ i _ => m - (intOf i).toNat)
  case atStart => exact ⟨0, Nat.zero_le _, rfl, by simp, World.ownsRow_nil _ _ _ _, fun g hg => by simp [Value.ownBlock] at hg, Step.refl _ _⟩
  case round =>
    obtain ⟨k, hk, rfl, rfl, O, Og, St⟩ := hrel
    by_cases hlt : k < m
    · have k1 : (k : Int) < c := by omega
      have hy : N / 2 ^ (8 * k) ≤ 9223372036854775807 := Nat.le_trans (Nat.div_le_self _ _) hN3
      have hnext : N / 2 ^ (8 * (k + 1)) = N / 2 ^ (8 * k) / 256 := by
        rw [Nat.div_div_eq_div_mul, Nat.mul_add, Nat.pow_add]
      have HF := hidden (bytesOf_succ N k)
      have Hnext := hidden hnext
      have HO := hidden (And.intro O (And.intro Og St))
      clear hnext O Og St
      generalize N / 2 ^ (8 * k) = y at *
      go_wp2_with (at_builtin; refine wpList_append_at _ rfl (.tmp 15) (.tmp 18) 22 rfl 5 i0 (.int .u8 0) 1 1 Tryz.underlying22 hi hz0 hz1 hz2 rfl (by decide) _ _ _ rfl (HO.out.1.alloc _) ⟨wr.heap.size, 0, none⟩ 1 1 [.int .u8 ((y : Int) % 256)] rfl rfl ?c1 ?c2 ?c3 ?c4 ?_)
      case c1 => exact cell_one_new _ _ _
      case c2 => intro u hu; simp at hu; subst hu; rfl
      case c3 => unfold maxLen; omega
      case c4 => omega
      intro v' w1 hown' hgrow hnil hv'
      have e1 : u8s (bytesOf N k) ++ [.int .u8 ((y : Int) % 256)] = u8s (bytesOf N (k + 1)) := by rw [HF.out]; simp [u8s]
      rw [e1] at hown'
      have HG := hidden (show (∀ g, v'.ownBlock = some g → w.heap.size ≤ g) ∧ Step (fun _ => False) w w1 from
        ⟨fun g hg => by
          rcases hv' with e | e
          · exact HO.out.2.1 g (by rw [← e]; exact hg)
          · rw [e] at hg; have := Option.some.inj hg; have := HO.out.2.2.size; simp at *; omega,
        (HO.out.2.2.alloc _).grown hgrow (fun g hg => .inr (HO.out.2.1 g hg))⟩)
      have HW := hidden hown'
      have ey : (y : Int) / 256 = ((y / 256 : Nat) : Int) := by omega
      have Hey := hidden ey
      clear hown' hgrow hnil hv' e1 ey
      go_wp2
      go_roundw
      case rel => exact ⟨k + 1, by omega, by go_num, by rw [Hnext.out]; exact congrArg _ Hey.out, HW.out, HG.out.1, HG.out.2⟩
      case measure => simp [intOf]; omega
    · have hkm : k = m := by omega
      subst hkm
      have H2 := hidden (And.intro O St)
      obtain ⟨ao, cp, rfl⟩ := own_slice O
      clear O St
      have k2 : ¬ ((k : Int) < c) := by omega
      go_wp2
      go_ret
      exact ⟨_, rfl, H2.out.1, H2.out.2⟩

theorem rlittle_2 (v : Nat) (w : World) (hv : v ≤ 65535) :
    Calls Tryz.prog 24 #[.int .i64 (v : Int), .int .i64 2] w fun e w' => ∃ ao c, e = .returned (.slice ao 2 c) ∧ Hid (Rd w' (.slice ao 2 c) (bytesOf v 2) ∧ Step (fun _ => False) w w') := by
  refine (rlittle_any v 2 w (by omega) (by omega)).mono fun e w' ⟨u, he, h1, h2⟩ => ?_
  have hl : longOf 2 = 2 := rfl
  rw [hl, Int.toNat_natCast] at h1
  obtain ⟨ao, c, hu⟩ := own_slice h1
  subst hu
  exact ⟨ao, c, he, Rd.of_own h1, h2⟩

/-- What Stored lays of bytes that go into one block. -/
def storedB (P : List Nat) : List Nat := [1] ++ bytesOf P.length 2 ++ bytesOf (65535 - P.length) 2 ++ P

theorem storedB_length (P : List Nat) : (storedB P).length = P.length + 5 := by
  unfold storedB
  simp only [List.length_append, bytesOf_length, List.length_singleton]
  omega

/-- A row of the call's own, with more behind it. -/
theorem grown_new {w w1 w2 : World} {v v' : Value} (S1 : Step (fun _ => False) w w1) (hv : ∀ g, v.ownBlock = some g → w.heap.size ≤ g) (hg : w1.grownBy w2 v.ownBlock) (hb : v'.ownBlock = v.ownBlock ∨ v'.ownBlock = some w1.heap.size) : Step (fun _ => False) w w2 ∧ ∀ g, v'.ownBlock = some g → w.heap.size ≤ g := by
  refine ⟨S1.grown hg (fun k hk => .inr (hv k hk)), fun g hg2 => ?_⟩
  rcases hb with e | e
  · exact hv g (by rw [← e]; exact hg2)
  · rw [e] at hg2; have := Option.some.inj hg2; have := S1.size; omega

set_option maxHeartbeats 4000000 in
theorem rstored_any (aa : Option Addr) (ca : Nat) (P : List Nat) (w : World) (ha : Rd w (.slice aa P.length ca) P) (hl : P.length ≤ 60000) (hc : P.length ≤ ca) :
    Calls Tryz.prog 13 #[.slice aa P.length ca] w fun e w' => ∃ ao c, e = .returned (.slice ao (P.length + 5) c) ∧ Hid (w'.ownsRow 0 5 1 (.slice ao (P.length + 5) c) (P.length + 5) (u8s (storedB P)) ∧ Step (fun _ => False) w w' ∧ (∀ g, (Value.slice ao (P.length + 5) c).ownBlock = some g → w.heap.size ≤ g)) := by
  have HA := hidden ha
  have hnil : Hid (aa = none → P.length = 0) := hidden (fun h => by
    obtain ⟨a, c, e, h1, _⟩ := ha
    injection e with e1
    rw [(h1 (by rw [← e1]; exact h)).1]
    rfl)
  obtain ⟨m, hm⟩ : ∃ m, P.length = m := ⟨_, rfl⟩
  rw [hm] at HA hl hc hnil ⊢
  have Hm := hidden hm
  have HB : Hid (u8s (storedB P) = u8s (([1] ++ bytesOf m 2 ++ bytesOf (65535 - m) 2) ++ P)) := hidden (by unfold storedB; rw [hm])
  clear hm ha
  have m1 : (if m < 65535 then (m : Int) else 65535) = (m : Int) := by rw [if_pos (by omega)]
  have m2 : (0 : Int) ≤ (m : Int) := by omega
  have m3 : (m : Int) ≤ (ca : Int) := by omega
  have HL1 := hidden (fun W => rlittle_2 m W (by omega))
  have HL2 := hidden (fun W => rlittle_2 (65535 - m) W (by omega))
  rw [show ((65535 - m : Nat) : Int) = 65535 - (m : Int) by omega] at HL2
  go_enter Tryz.func13, Tryz.ntmps13
  go_wp2
  go_loopw [0, 3, 4, 5] (fun p b _ _ wr => p = .slice aa m ca ∧ b = .slice none 0 0 ∧ wr = w) (fun _ _ _ _ _ => 0)
  case atStart => exact ⟨rfl, rfl, rfl⟩
  case round =>
    obtain ⟨rfl, rfl, rfl⟩ := hrel
    have HR1 := hidden (Rd.lit wr 1)
    have HS1 := hidden ((Step.refl (fun _ => False) wr).alloc (.cells #[.int .u8 1] 5))
    go_wp2_with (at_builtin; refine append_bytes rfl (.tmp 13) (.tmp 15) rfl _ 0 [] rfl (World.ownsRow_nil _ _ _ _) _ [1] rfl HR1.out ?b1 ?_)
    case b1 => simp
    intro v2 w2 ho2 hg2 hb2
    have HX2 := hidden (grown_new (v := .slice none 0 0) HS1.out (fun g hg => by simp [Value.ownBlock] at hg) hg2 (hb2.imp id (fun h => h.trans (congrArg some (Array.size_push _).symm))))
    obtain ⟨a2, c2, hv2⟩ := own_slice ho2
    subst hv2
    have HO2 := hidden ho2
    clear ho2 hg2 hb2
    go_wp2_with fail
    refine (HL1.out w2).mono ?_
    rintro e w3 ⟨a3, c3, rfl, W3⟩
    have HO3 := hidden (owns_step HO2.out W3.out.2 (fun _ _ h => h))
    go_wp2_with (at_builtin; refine append_bytes rfl (.tmp 17) (.tmp 19) rfl _ _ _ rfl HO3.out _ _ rfl W3.out.1 ?b2 ?_)
    case b2 => rw [bytesOf_length]; simp
    intro v4 w4 ho4 hg4 hb4
    have HX4 := hidden (grown_new (HX2.out.1.made W3.out.2) HX2.out.2 hg4 hb4)
    obtain ⟨a4, c4, hv4⟩ := own_slice ho4
    subst hv4
    have HO4 := hidden ho4
    clear ho4 hg4 hb4
    go_wp2_with fail
    refine (HL2.out w4).mono ?_
    rintro e w5 ⟨a5, c5, rfl, W5⟩
    have HO5 := hidden (owns_step HO4.out W5.out.2 (fun _ _ h => h))
    go_wp2_with (at_builtin; refine append_bytes rfl (.tmp 21) (.tmp 24) rfl _ _ _ rfl HO5.out _ _ rfl W5.out.1 ?b3 ?_)
    case b3 => rw [bytesOf_length, bytesOf_length]; simp
    intro v6 w6 ho6 hg6 hb6
    have HX6 := hidden (grown_new (HX4.out.1.made W5.out.2) HX4.out.2 hg6 hb6)
    obtain ⟨a6, c6, hv6⟩ := own_slice ho6
    subst hv6
    have HO6 := hidden ho6
    have HA6 := hidden (HA.out.step HX6.out.1 (fun _ _ _ _ _ h => h))
    clear ho6 hg6 hb6
    go_wp2_with (at_builtin; refine append_bytes rfl (.tmp 26) (.tmp 29) rfl _ _ _ rfl HO6.out _ P rfl HA6.out ?b4 ?_)
    case b4 => rw [bytesOf_length, bytesOf_length, Hm.out]; simp; omega
    intro v7 w7 ho7 hg7 hb7
    have HX7 := hidden (grown_new HX6.out.1 HX6.out.2 hg7 hb7)
    obtain ⟨a7, c7, hv7⟩ := own_slice ho7
    subst hv7
    have HO7 := hidden ho7
    clear ho7 hg7 hb7
    have hlen : Hid (1 + (bytesOf m 2).length + (bytesOf (65535 - m) 2).length + P.length = m + 5) := hidden (by rw [bytesOf_length, bytesOf_length, Hm.out]; omega)
    go_wp2
    all_goals
      go_ret
      refine ⟨a7, c7, ?_, ?_⟩
      · show Ending.returned (Value.slice a7 (1 + (bytesOf m 2).length + (bytesOf (65535 - m) 2).length + P.length) c7) = _
        rw [hlen.out]
      · have h1 := HO7.out
        have h2 := HX7.out
        rw [hlen.out] at h1 h2
        refine hidden ⟨?_, h2.1, h2.2⟩
        rw [HB.out]
        simpa using h1

end Go.Proofs.YtcgjmkcigmmjjaaGreatDoor

namespace Go.Proofs.YtcgjmkcigmmjjaaGreatDoor
set_option linter.unusedVariables false
theorem numOf_cons (x : Nat) (B : List Nat) : numOf (x :: B) = x + 256 * numOf B := rfl

theorem sto_nums {M h a b c d : Nat} {R : List Nat} (hM : M = numOf (h :: a :: b :: c :: d :: R)) (h1 : h < 2) (ha : a < 256) (hb : b < 256) (hc : c < 256) (hd : d < 256) :
    M / 2 ^ 0 % 2 = h ∧ M / 2 ^ (0 + 1) % 4 = 0 ∧ M / 2 ^ 8 % 65536 = a + 256 * b ∧ M / 2 ^ (8 + 16) % 65536 = c + 256 * d ∧ M / 2 ^ (8 + 32) = numOf R := by
  simp only [numOf_cons] at hM
  generalize numOf R = N at *
  have e0 : (2 : Nat) ^ 0 = 1 := rfl
  have e1 : (2 : Nat) ^ (0 + 1) = 2 := rfl
  have e2 : (2 : Nat) ^ 8 = 256 := rfl
  have e3 : (2 : Nat) ^ (8 + 16) = 16777216 := rfl
  have e4 : (2 : Nat) ^ (8 + 32) = 1099511627776 := rfl
  rw [e0, e1, e2, e3, e4]
  refine ⟨by omega, by omega, by omega, by omega, by omega⟩

/-- What such a block tells. -/
def stoR (n1 n2 : Nat) (R : List Nat) (most : Int) : Except Nat (Nat × List Nat) :=
  if n1 + n2 = 65535 then
    if (n1 : Int) ≤ most then
      if n1 ≤ R.length then .ok (40 + 8 * n1, R.take n1) else .error 2
    else .error 5
  else .error 3

theorem sto_blk {M m h a b c d : Nat} {most : Int} {R : List Nat} (hM : M = numOf (h :: a :: b :: c :: d :: R)) (hm : m = R.length + 5) (h1 : h < 2) (ha : a < 256) (hb : b < 256) (hc : c < 256) (hd : d < 256) (hR : ∀ y ∈ R, y < 256) :
    M / 2 ^ (0 + 1) % 4 = 0 ∧ M / 2 ^ 0 % 2 = h ∧ blkP M m most 0 [] = stoR (a + 256 * b) (c + 256 * d) R most := by
  obtain ⟨q1, q2, q3, q4, q5⟩ := sto_nums hM h1 ha hb hc hd
  refine ⟨q2, q1, ?_⟩
  unfold blkP
  rw [if_pos (by omega), if_pos q2]
  unfold storedP stoR
  have e : (0 + 3 + 7) / 8 * 8 = 8 := rfl
  simp only [e]
  rw [q3, q4, q5, if_pos (by omega)]
  have hz : most - (([] : List Nat).length : Int) = most := by simp
  rw [hz]
  by_cases g1 : a + 256 * b + (c + 256 * d) = 65535
  · rw [if_pos g1, if_pos g1]
    by_cases g2 : ((a + 256 * b : Nat) : Int) ≤ most
    · rw [if_pos g2, if_pos g2]
      by_cases g3 : a + 256 * b ≤ R.length
      · rw [if_pos (by omega), if_pos g3, List.nil_append]
        have hr : bytesOf (numOf R) (a + 256 * b) = R.take (a + 256 * b) := by
          have := bytesOf_numOf R hR
          rw [← this, show bytesOf (numOf (bytesOf (numOf R) R.length)) (a + 256 * b) = bytesOf (numOf R) (a + 256 * b) by rw [this]]
          unfold bytesOf
          rw [← List.map_take, List.take_range, Nat.min_eq_left g3]
        rw [hr, show 8 + 32 + 8 * (a + 256 * b) = 40 + 8 * (a + 256 * b) by omega]
      · rw [if_neg (by omega), if_neg g3]
    · rw [if_neg g2, if_neg g2]
  · rw [if_neg g1, if_neg g1]

theorem sto_blks {M m a b c d : Nat} {most : Int} {R : List Nat} (hM : M = numOf (1 :: a :: b :: c :: d :: R)) (hm : m = R.length + 5) (ha : a < 256) (hb : b < 256) (hc : c < 256) (hd : d < 256) (hR : ∀ y ∈ R, y < 256) (n : Nat) :
    Blks M m most n 0 [] (stoR (a + 256 * b) (c + 256 * d) R most) := by
  obtain ⟨q1, q2, q3⟩ := sto_blk (most := most) hM hm (by omega) ha hb hc hd hR
  cases hr : stoR (a + 256 * b) (c + 256 * d) R most with
  | error e => exact Blks.bad (fun _ => by omega) (by rw [q3, hr])
  | ok z => exact Blks.last (by omega) q2 (by rw [q3, hr])

theorem two_bytes (v : Nat) (hv : v ≤ 65535) : bytesOf v 2 = [v % 256, v / 256] := by
  show [v / 2 ^ (8 * 0) % 256, v / 2 ^ (8 * 1) % 256] = _
  have e0 : (2 : Nat) ^ (8 * 0) = 1 := rfl
  have e1 : (2 : Nat) ^ (8 * 1) = 256 := rfl
  rw [e0, e1, Nat.div_one, Nat.mod_eq_of_lt (a := v / 256) (by omega)]

theorem storedB_eq (P : List Nat) (h : P.length ≤ 60000) : storedB P = 1 :: (P.length % 256) :: (P.length / 256) :: ((65535 - P.length) % 256) :: ((65535 - P.length) / 256) :: P := by
  unfold storedB
  rw [two_bytes _ (by omega), two_bytes _ (by omega)]
  rfl

theorem storedB_by (P : List Nat) (h : P.length ≤ 60000) (hP : ∀ y ∈ P, y < 256) : ∀ y ∈ storedB P, y < 256 := by
  rw [storedB_eq P h]
  intro y hy
  simp only [List.mem_cons] at hy
  rcases hy with rfl | rfl | rfl | rfl | rfl | hy
  · omega
  · omega
  · omega
  · omega
  · omega
  · exact hP y hy

/-- One of the four numbers' bytes is another one: they don't fit any more. -/
theorem turned_blks {M m q x : Nat} {most : Int} (P : List Nat) (h : P.length ≤ 60000) (hP : ∀ y ∈ P, y < 256) (hq : q < 4) (hx : x < 256) (hne : x ≠ (storedB P).getD (1 + q) 0) (hM : M = numOf ((storedB P).set (1 + q) x)) (hm : m = P.length + 5) : Blks M m most 0 0 [] (.error 3) := by
  rw [storedB_eq P h] at hM hne
  generalize hn : P.length = n at *
  have h4 : q = 0 ∨ q = 1 ∨ q = 2 ∨ q = 3 := by omega
  rcases h4 with rfl | rfl | rfl | rfl
  · have := sto_blks (most := most) hM (show m = P.length + 5 by rw [hn]; exact hm) hx (by omega) (by omega) (by omega) hP 0
    simp at hne
    unfold stoR at this
    rw [if_neg (by omega)] at this
    exact this
  · have := sto_blks (most := most) hM (show m = P.length + 5 by rw [hn]; exact hm) (by omega) hx (by omega) (by omega) hP 0
    simp at hne
    unfold stoR at this
    rw [if_neg (by omega)] at this
    exact this
  · have := sto_blks (most := most) hM (show m = P.length + 5 by rw [hn]; exact hm) (by omega) (by omega) hx (by omega) hP 0
    simp at hne
    unfold stoR at this
    rw [if_neg (by omega)] at this
    exact this
  · have := sto_blks (most := most) hM (show m = P.length + 5 by rw [hn]; exact hm) (by omega) (by omega) (by omega) hx hP 0
    simp at hne
    unfold stoR at this
    rw [if_neg (by omega)] at this
    exact this

theorem stored_blks {m : Nat} {most : Int} (P : List Nat) (h : P.length ≤ 60000) (hP : ∀ y ∈ P, y < 256) (hm : m = P.length + 5) : Blks (numOf (storedB P)) m most 0 0 [] (if (P.length : Int) ≤ most then .ok (40 + 8 * P.length, P) else .error 5) := by
  have := sto_blks (M := numOf (storedB P)) (a := P.length % 256) (b := P.length / 256) (c := (65535 - P.length) % 256) (d := (65535 - P.length) / 256) (most := most) (R := P) (by rw [storedB_eq P h]) hm (by omega) (by omega) (by omega) (by omega) hP 0
  unfold stoR at this
  rw [if_pos (by omega), show P.length % 256 + 256 * (P.length / 256) = P.length by omega, if_pos (Nat.le_refl _), List.take_of_length_le (Nat.le_refl _)] at this
  exact this

end Go.Proofs.YtcgjmkcigmmjjaaGreatDoor

namespace Go.Proofs.YtcgjmkcigmmjjaaGreatDoor
set_option linter.unusedVariables false
set_option maxRecDepth 100000
theorem pcOk_append {a b : List (Nat × Nat)} (ha : pcOk a) (hb : pcOk b) : pcOk (a ++ b) := fun q hq => by
  rcases List.mem_append.1 hq with h | h
  · exact ha q h
  · exact hb q h

theorem pcOk_cons {q : Nat × Nat} {b : List (Nat × Nat)} (ha : q.1 < 2 ^ q.2) (hb : pcOk b) : pcOk (q :: b) := fun x hx => by
  rcases List.mem_cons.1 hx with h | h
  · subst h; exact ha
  · exact hb x h

theorem pcOk_nil : pcOk [] := fun q hq => by cases hq

theorem cdP_ok (L : List Int) (i : Nat) : (cdP L i).1 < 2 ^ (cdP L i).2 := rv_lt _ _ _

theorem end_ok (L : List Int) : pcOk [cdP L 256, (0, 0)] := pcOk_cons (cdP_ok L 256) (pcOk_cons (by decide) pcOk_nil)

theorem tksP_ok (L D : List Int) {ts : List Tk} (h : ∀ x ∈ ts, tkIn x) : pcOk (tksP L D ts) := by
  intro q hq
  unfold tksP at hq
  obtain ⟨t, ht, hq⟩ := List.mem_flatMap.1 hq
  have hi := h t ht
  unfold tkP at hq
  split at hq
  · exact (pcOk_cons (cdP_ok _ _) (pcOk_cons (by decide) pcOk_nil)) q hq
  · exact (pcOk_cons (cdP_ok _ _) (pcOk_cons (lnM_lt _) (pcOk_cons (cdP_ok _ _) (pcOk_cons (dsM_lt _) pcOk_nil)))) q hq

theorem fixPs_ok {ts : List Tk} (h : ∀ x ∈ ts, tkIn x) : pcOk (fixPs ts) := pcOk_cons (by decide) (pcOk_cons (by decide) (pcOk_append (tksP_ok _ _ h) (end_ok _)))

theorem spsP_ok (C : List Int) {xs : List Sp} (h : ∀ x ∈ xs, x.m < 2 ^ x.b) : pcOk (spsP C xs) := by
  intro q hq
  unfold spsP at hq
  obtain ⟨t, ht, hq⟩ := List.mem_flatMap.1 hq
  exact (pcOk_cons (cdP_ok _ _) (pcOk_cons (h t ht) pcOk_nil)) q hq

theorem orP_ok (C : List Int) (h : ∀ i, (C.getD i 0).toNat < 8) : ∀ n k, pcOk (orP C k n)
  | 0, k => pcOk_nil
  | n + 1, k => pcOk_cons (h _) (orP_ok C h n (k + 1))

theorem ownPs_ok {L D C : List Int} {a d k : Nat} {xs : List Sp} {ts : List Tk} (ha : a < 289) (hd : d < 33) (hk : k ≤ 19) (hC : ∀ i, (C.getD i 0).toNat < 8) (hx : ∀ x ∈ xs, x.m < 2 ^ x.b) (h : ∀ x ∈ ts, tkIn x) : pcOk (ownPs L D C a d k xs ts) :=
  pcOk_cons (by decide) (pcOk_cons (by decide) (pcOk_cons (by show a - 257 < 32; omega) (pcOk_cons (by show d - 1 < 32; omega) (pcOk_cons (by show k - 4 < 16; omega)
    (pcOk_append (orP_ok C hC k 0) (pcOk_append (spsP_ok C hx) (pcOk_append (tksP_ok L D h) (end_ok L))))))))

/-- One block of bytes as they are. -/
theorem stPs_one (P : List Nat) (h : P.length ≤ 65535) : pcN (stPs P) = numOf (1 :: (P.length % 256) :: (P.length / 256) :: ((65535 - P.length) % 256) :: ((65535 - P.length) / 256) :: P) ∧ pcL (stPs P) = 40 + 8 * P.length ∧ stS P.length = P.length + 5 := by
  have hb : stB P.length = 1 := by unfold stB; omega
  have e : stPs P = [(1, 1), (0, 2), (0, 5), (P.length, 16), (65535 - P.length, 16), (numOf P, 8 * P.length)] := by
    unfold stPs
    rw [hb]
    simp only [stC, Nat.mul_zero, List.drop_zero, List.nil_append]
    rw [List.take_of_length_le h, decide_eq_true h]
    rfl
  have e1 : pcN (stPs P) = 2 ^ 1 * (2 ^ 2 * (2 ^ 5 * (2 ^ 16 * (2 ^ 16 * (2 ^ (8 * P.length) * 0 + numOf P) + (65535 - P.length)) + P.length) + 0) + 0) + 1 := by rw [e]; rfl
  have e2 : pcL (stPs P) = 1 + (2 + (5 + (16 + (16 + (8 * P.length + 0))))) := by rw [e]; rfl
  refine ⟨?_, by omega, by unfold stS; rw [hb]⟩
  rw [e1]
  simp only [numOf_cons]
  generalize numOf P = z
  have e3 : (2 : Nat) ^ 16 = 65536 := rfl
  have e4 : (2 : Nat) ^ 5 = 32 := rfl
  have e5 : (2 : Nat) ^ 2 = 4 := rfl
  have e6 : (2 : Nat) ^ 1 = 2 := rfl
  rw [e3, e4, e5, e6, Nat.mul_zero]
  omega

theorem st_told {P : List Nat} (h : P.length ≤ 65535) (hP : ∀ x ∈ P, x < 256) {most : Int} (hm : (P.length : Int) ≤ most) (n : Nat) : BlksF (pcN (stPs P)) (P.length + 5) most n 0 [] (.ok (40 + 8 * P.length, P)) := by
  obtain ⟨h1, h2, h3⟩ := stPs_one P h
  obtain ⟨q1, q2, q3⟩ := sto_blk (M := pcN (stPs P)) (m := P.length + 5) (most := most) (R := P) h1 rfl (by omega) (by omega) (by omega) (by omega) (by omega) hP
  have e : stoR (P.length % 256 + 256 * (P.length / 256)) ((65535 - P.length) % 256 + 256 * ((65535 - P.length) / 256)) P most = .ok (40 + 8 * P.length, P) := by
    rw [show P.length % 256 + 256 * (P.length / 256) = P.length by omega, show (65535 - P.length) % 256 + 256 * ((65535 - P.length) / 256) = 65535 - P.length by omega]
    unfold stoR
    rw [if_pos (by omega), if_pos hm, if_pos (Nat.le_refl _), List.take_length]
  refine BlksF.last (by simpa using q2) ?_
  unfold blkF
  rw [if_neg (by rw [q1]; omega), q3, e]

theorem Sm.told {P B : List Nat} (h : Sm P B) (hP : ∀ x ∈ P, x < 256) (hn : P.length ≤ 16000) {most : Int} (hm : (P.length : Int) ≤ most) : B.length ≤ stS P.length ∧ ∃ M t, B = bytesOf M B.length ∧ BlksF M B.length most 0 0 [] (.ok (t, P)) ∧ (t + 7) / 8 = B.length := by
  obtain ⟨D1, D2, D3, a, d, k, xs, hOw, rfl⟩ := h
  obtain ⟨hts, htl⟩ := toks_in P (bl P.length) hP
  have hall := toks_all P (bl P.length) hP
  have hst : (outB (stPs P)).length = P.length + 5 ∧ stS P.length = P.length + 5 := by
    obtain ⟨h1, h2, h3⟩ := stPs_one P (by omega)
    rw [outB_len, h2]
    exact ⟨by omega, h3⟩
  have key : ∀ ps t, (outB ps).length ≤ stS P.length → BlksF (pcN ps) ((pcL ps + 7) / 8) most 0 0 [] (.ok (t, P)) → (t + 7) / 8 = (pcL ps + 7) / 8 → (outB ps).length ≤ stS P.length ∧ ∃ M t, outB ps = bytesOf M (outB ps).length ∧ BlksF M (outB ps).length most 0 0 [] (.ok (t, P)) ∧ (t + 7) / 8 = (outB ps).length := fun ps t h1 h2 h3 =>
    ⟨h1, pcN ps, t, by rw [outB_len]; rfl, by rw [outB_len]; exact h2, by rw [outB_len]; exact h3⟩
  have hsto : (outB (stPs P)).length ≤ stS P.length ∧ ∃ M t, outB (stPs P) = bytesOf M (outB (stPs P)).length ∧ BlksF M (outB (stPs P)).length most 0 0 [] (.ok (t, P)) ∧ (t + 7) / 8 = (outB (stPs P)).length := by
    obtain ⟨h1, h2, h3⟩ := stPs_one P (by omega)
    refine key (stPs P) (40 + 8 * P.length) (by omega) ?_ (by rw [h2])
    rw [h2, show (40 + 8 * P.length + 7) / 8 = P.length + 5 by omega]
    exact st_told (by omega) hP hm 0
  unfold smPs
  split
  · rename_i hle
    unfold layPs at hle ⊢
    split
    · rename_i h1
      rw [if_pos h1] at hle
      exact key _ _ hle (fix_read hall (Bt.of 0 (by omega) (fixPs_ok hts)) (by omega) hm 0) rfl
    · rename_i h1
      rw [if_neg h1] at hle
      split
      · rename_i h2
        rw [if_pos h2] at hle
        have hcd := own_coded hts hOw.u1 hOw.u2
        have hC : ∀ j, ((lensOf (SA xs) D3 7).getD j 0).toNat < 8 := fun j => by have := hOw.u3.bd' j; omega
        refine key _ _ hle (own_read hOw.u1.new hOw.u2.new hOw.u3.new (by rw [lensOf_len, LA_len]; exact hOw.ha.2.1) (by rw [lensOf_len, DA_len]; exact hOw.hd.2.1) hOw.ha.1 hOw.ha.2.1 hOw.hd.1 hOw.hd.2.1 hOw.ha.2.2.1 hOw.hd.2.2.1 (by rw [lensOf_len, SA_len]) (fun j => (hOw.u3.bd' j).1) hC hOw.hk.1 hOw.hk.2.1 hOw.hk.2.2.1 hOw.sp hOw.steps hcd.2 hall hcd.1
          (Bt.of 0 (by omega) (ownPs_ok (by have := hOw.ha; omega) (by have := hOw.hd; omega) hOw.hk.2.1 hC (fun x hx => (hOw.sp.in' x hx).1) hts)) (by omega) hm 0) rfl
      · exact hsto
  · exact hsto

end Go.Proofs.YtcgjmkcigmmjjaaGreatDoor

namespace Go.Proofs.YtcgjmkcigmmjjaaGreatDoor
open Go.RowKit
set_option maxRecDepth 100000
/-- The page's Reader in block b reads the row v, the first m bytes of M; so many bits are taken. -/
structure Rx (w : World) (b : Nat) (v : Value) (M m t : Nat) : Prop where
  ins : w.cell? ⟨b, 0, none⟩ = some v
  at_ : w.cell? ⟨b, 1, none⟩ = some (.int .i64 (t : Int))
  f1 : w.frozen? ⟨b, 1, none⟩ = false
  rd : Rd w v (bytesOf M m)
  ne : ∀ a n c, v = .slice (some a) n c → bytesOf M m ≠ [] → a.block ≠ b
  room : ∀ ao n c, v = .slice ao n c → n ≤ c
  le : t ≤ 8 * m

def TookX (w w' : World) (b : Nat) (v : Value) (M m t : Nat) : Prop := Rx w' b v M m t ∧ Step (fun k => k = b) w w'

theorem Rx.step {S : Nat → Prop} {w w' : World} {b : Nat} {v : Value} {M m t : Nat} (R : Rx w b v M m t) (hs : Step S w w') (h1 : ¬ S b) (h2 : ∀ a n c, v = .slice (some a) n c → bytesOf M m ≠ [] → ¬ S a.block) : Rx w' b v M m t := by
  have hb : b < w.heap.size := World.block_lt_of_cell? w _ R.ins
  exact ⟨hs.cell R.ins h1, hs.cell R.at_ h1, (hs.frozen (p := ⟨b, 1, none⟩) hb h1).trans R.f1, R.rd.step hs h2, R.ne, R.room, R.le⟩

theorem Rx.drewN {w : World} {b : Nat} {v : Value} {M m t : Nat} (R : Rx w b v M m t) (n : Nat) : Rx (w.drewN n) b v M m t := ⟨R.ins, R.at_, R.f1, R.rd, R.ne, R.room, R.le⟩

theorem Rx.took {w w1 : World} {b : Nat} {v : Value} {M m t t' : Nat} (R : Rx w1 b v M m t) (St : Step (fun k => k = b) w w1) (h : t' ≤ 8 * m) (z : Int) (hz : z = (t' : Int)) : TookX w (w1.setCell ⟨b, 1, none⟩ (.int .i64 z)) b v M m t' := by
  have hS : Step (fun k => k = b) w1 (w1.setCell ⟨b, 1, none⟩ (.int .i64 z)) := (Step.refl (fun k => k = b) w1).setCell ⟨b, 1, none⟩ (.int .i64 z) (.inl rfl)
  refine ⟨⟨?_, ?_, ?_, R.rd.step hS (fun a n c hv hne hb => R.ne a n c hv hne hb), R.ne, R.room, h⟩, St.trans hS (fun i hi => .inl hi)⟩
  · rw [World.cell?_setCell_other _ _ _ _ (by simp)]; exact R.ins
  · rw [World.cell?_setCell_same _ _ _ R.at_, hz]
  · simp [R.f1]

theorem TookX.made {w w1 w2 : World} {b : Nat} {v : Value} {M m t : Nat} (h : TookX w w1 b v M m t) (St : Step (fun _ => False) w1 w2) : TookX w w2 b v M m t :=
  ⟨h.1.step St (fun h => h) (fun _ _ _ _ _ h => h), h.2.trans St (fun _ h => h.elim)⟩

theorem Rx.slice {w : World} {b : Nat} {v : Value} {M m t : Nat} (R : Rx w b v M m t) : ∃ ao cap, v = .slice ao m cap := by
  obtain ⟨ao, cap, hv, _⟩ := R.rd
  rw [bytesOf_length] at hv
  exact ⟨ao, cap, hv⟩

theorem Rx.cell {w : World} {b : Nat} {v : Value} {M m t : Nat} (R : Rx w b v M m t) (h : t < 8 * m) :
    ∃ g off cap, v = .slice (some ⟨g, off, none⟩) m cap ∧ w.cell? ⟨g, off + t / 8, none⟩ = some (.int .u8 ((M / 2 ^ (8 * (t / 8)) % 256 : Nat) : Int)) := by
  have hne : bytesOf M m ≠ [] := by
    intro e
    have := bytesOf_length M m
    rw [e] at this
    simp at this
    omega
  obtain ⟨ao, cap, hv, h1, h2⟩ := R.rd
  rw [bytesOf_length] at hv
  cases ao with
  | none => exact absurd (h1 rfl).1 hne
  | some a =>
    obtain ⟨g, off, rfl, hc⟩ := h2 a rfl hne
    refine ⟨g, off, cap, hv, ?_⟩
    rw [hc (t / 8) (by rw [bytesOf_length]; omega), bytesOf_getD _ _ _ (by omega)]

set_option maxHeartbeats 400000 in
theorem xleft_any (b : Nat) (v : Value) (M m t : Nat) (w : World) (h : Rx w b v M m t) (hm : m ≤ 137438953600) :
    Calls Tryz.prog 92 #[.pointer (some ⟨b, 0, none⟩)] w fun e w' => e = .returned (.int .i64 ((8 * m - t : Nat) : Int)) ∧ ∃ n, w' = w.drewN n := by
  obtain ⟨ao, cap, hs⟩ := h.slice
  have c0 := h.ins
  have c1 := h.at_
  have hle := h.le
  rw [hs] at c0
  clear h
  go_enter Tryz.func92, Tryz.ntmps92
  go_wp2
  go_quiet (fail)
  go_wp2
  go_ret
  refine ⟨?_, _, rfl⟩
  show Ending.returned (.int .i64 _) = Ending.returned (.int .i64 _)
  congr 2
  omega

set_option maxHeartbeats 400000 in
theorem xalign_any (b : Nat) (v : Value) (M m t : Nat) (w : World) (h : Rx w b v M m t) (hm : m ≤ 137438953600) :
    Calls Tryz.prog 23 #[.pointer (some ⟨b, 0, none⟩)] w fun e w' => e = .returned (.int .i64 (((t + 7) / 8 : Nat) : Int)) ∧ TookX w w' b v M m ((t + 7) / 8 * 8) := by
  have H := hidden h
  have c1 := h.at_
  have f1 := h.f1
  have hle := h.le
  clear h
  go_enter Tryz.func23, Tryz.ntmps23
  go_wp2
  go_ret
  refine ⟨?_, H.out.took (Step.refl _ _) (by omega) _ (by omega)⟩
  show Ending.returned (.int .i64 _) = Ending.returned (.int .i64 _)
  congr 2

set_option maxHeartbeats 400000 in
theorem xget_no (b : Nat) (n : Int) (w : World) (h : ¬ (0 ≤ n ∧ n ≤ 24)) : Calls Tryz.prog 68 #[.pointer (some ⟨b, 0, none⟩), .int .i64 n] w fun e w' => e = .returned (.tuple #[.int .i64 0, .int .i64 1]) ∧ w' = w := by
  by_cases h0 : n < 0
  · go_enter Tryz.func68, Tryz.ntmps68
    go_wp2
    go_ret2
    exact ⟨rfl, rfl⟩
  · have h1 : 24 < n := by omega
    go_enter Tryz.func68, Tryz.ntmps68
    go_wp2
    go_ret2
    exact ⟨rfl, rfl⟩

set_option maxHeartbeats 400000 in
theorem xget_short (b : Nat) (v : Value) (M m t n : Nat) (w : World) (R : Rx w b v M m t) (hm : m ≤ 137438953600) (hn : n ≤ 24) (h : 8 * m - t < n) :
    Calls Tryz.prog 68 #[.pointer (some ⟨b, 0, none⟩), .int .i64 n] w fun e w' => e = .returned (.tuple #[.int .i64 0, .int .i64 2]) ∧ ∃ q, w' = w.drewN q := by
  have H := hidden R
  have h' : ((8 * m - t : Nat) : Int) < (n : Int) := by omega
  clear R h
  go_enter Tryz.func68, Tryz.ntmps68
  go_wp2_with (go_at_call 92; refine (xleft_any b v M m t _ H.out hm).mono ?_; rintro e w' ⟨rfl, q, rfl⟩)
  go_ret2
  exact ⟨rfl, _, rfl⟩

theorem xget_or (M t d T : Nat) (hT : t + d = T) (hd : d + 1 ≤ 24) :
    bits BinOp.or IntKind.i64 ((M / 2 ^ t % 2 ^ d : Nat) : Int) (wrap64 (((M / 2 ^ (8 * (T / 8)) % 256 / 2 ^ (T % 8) % 2 : Nat) : Int) * 2 ^ d)) = ((M / 2 ^ t % 2 ^ (d + 1) : Nat) : Int) := by
  have H := get_or M t d T 1 hT (by omega) hd
  have e : (((M / 2 ^ (8 * (T / 8)) % 256 : Nat) : Int) / 2 ^ (T % 8) % 2 ^ 1 * 2 ^ d) = (((M / 2 ^ (8 * (T / 8)) % 256 / 2 ^ (T % 8) % 2 : Nat) : Int) * 2 ^ d) := by simp
  rw [e] at H
  exact H

theorem u8_bit (y u : Nat) (hy : y < 256) : bits BinOp.and IntKind.u8 ((y : Int) / 2 ^ u) 1 = ((y / 2 ^ u % 2 : Nat) : Int) := by
  have e : ((y : Int) / 2 ^ u) = ((y / 2 ^ u : Nat) : Int) := by simp
  have hl := Nat.div_le_self y (2 ^ u)
  rw [e]
  have := u8_and_nat (y / 2 ^ u) 1 (by omega) (by omega)
  rw [Nat.and_one_is_mod] at this
  exact this

set_option maxHeartbeats 1000000 in
theorem xget_ok (b : Nat) (v : Value) (M m t n : Nat) (w : World) (R : Rx w b v M m t) (hm : m ≤ 137438953600) (hn : n ≤ 24) (h : n ≤ 8 * m - t) :
    Calls Tryz.prog 68 #[.pointer (some ⟨b, 0, none⟩), .int .i64 n] w fun e w' => e = .returned (.tuple #[.int .i64 ((M / 2 ^ t % 2 ^ n : Nat) : Int), .int .i64 0]) ∧ TookX w w' b v M m (t + n) := by
  have H := hidden R
  have h' : (n : Int) ≤ ((8 * m - t : Nat) : Int) := by omega
  have ht := R.le
  clear R
  go_enter Tryz.func68, Tryz.ntmps68
  go_wp2_with (go_at_call 92; refine (xleft_any b v M m t _ H.out hm).mono ?_; rintro e w' ⟨rfl, q, hw⟩; have H2 := hidden (H.out.drewN q); have S2 := hidden ((Step.refl (fun k => k = b) w).drewN q); rw [← hw] at H2 S2; clear hw)
  clear h'
  go_loopw [6, 7] (fun x g wr => ∃ d : Nat, d ≤ n ∧ x = .int .i64 ((M / 2 ^ t % 2 ^ d : Nat) : Int) ∧ g = .int .i64 (d : Int) ∧ TookX w wr b v M m (t + d)) (fun _ g _ => n - (intOf g).toNat)
  case atStart => exact ⟨0, Nat.zero_le _, by simp [Nat.mod_one], rfl, H2.out, S2.out⟩
  case round =>
    obtain ⟨d, hd, rfl, rfl, W, St⟩ := hrel
    by_cases hlt : d < n
    · obtain ⟨g, off, cap, hs, c2⟩ := W.cell (by omega)
      have c0 := W.ins
      have c1 := W.at_
      have f1 := W.f1
      rw [hs] at c0
      obtain ⟨T, hT, hT2⟩ : ∃ T : Nat, t + d = T ∧ T ≤ 1099511628800 := ⟨_, rfl, by omega⟩
      rw [hT] at c1 c2
      have HT := hidden hT
      have HW := hidden W
      have HS := hidden St
      obtain ⟨y, hy, hy2⟩ : ∃ y : Nat, M / 2 ^ (8 * (T / 8)) % 256 = y ∧ y < 256 := ⟨_, rfl, Nat.mod_lt _ (by omega)⟩
      obtain ⟨acc, hacc, hacc2⟩ : ∃ acc : Nat, M / 2 ^ t % 2 ^ d = acc ∧ acc < 16777216 :=
        ⟨_, rfl, Nat.lt_of_lt_of_le (Nat.mod_lt _ (Nat.two_pow_pos _)) (pow_le_24 d (by omega))⟩
      have hT8 : T / 8 < m := by omega
      have hT9 : ((T : Int) % 8).toNat = T % 8 := by omega
      have hbit := u8_bit y (T % 8) hy2
      have hz2 : y / 2 ^ (T % 8) % 2 < 2 := Nat.mod_lt _ (by omega)
      have hfin := xget_or M t d T hT (by omega)
      rw [hy] at c2 hfin
      rw [hacc] at hfin
      rw [hacc]
      generalize hzz : y / 2 ^ (T % 8) % 2 = z at hbit hz2 hfin
      have Hfin := hidden hfin
      clear W St hs hT h ht hy hacc hfin hzz
      go_wp2
      go_quiet (fail)
      go_wp2
      go_roundw
      case rel =>
        refine ⟨d + 1, by omega, by rw [Hfin.out], by go_num, ?_⟩
        exact (HW.out.drewN _).took (HS.out.drewN _) (by have := HT.out; omega) _ (by have := HT.out; omega)
      case measure => simp [intOf]; omega
    · have hdn : d = n := by omega
      subst hdn
      have H3 := hidden (And.intro W St)
      clear W St
      go_wp2
      go_ret2
      exact ⟨rfl, H3.out⟩

set_option maxHeartbeats 400000 in
theorem xraw_no (b : Nat) (v : Value) (M m t : Nat) (n : Int) (w : World) (h : Rx w b v M m t) (hn : n < 0 ∨ t % 8 ≠ 0) :
    Calls Tryz.prog 69 #[.pointer (some ⟨b, 0, none⟩), .int .i64 n] w fun e w' => e = .returned (.tuple #[.slice none 0 0, .int .i64 1]) ∧ w' = w := by
  have c1 := h.at_
  have hle := h.le
  clear h
  by_cases h0 : n < 0
  · go_enter Tryz.func69, Tryz.ntmps69
    go_wp2
    go_ret2
    exact ⟨rfl, rfl⟩
  · have h8 : t % 8 ≠ 0 := by omega
    have h8' : ((t : Int) % 8 != 0) = true := by rw [bne_iff_ne]; omega
    clear hn
    go_enter Tryz.func69, Tryz.ntmps69
    go_wp2
    go_ret2
    exact ⟨rfl, rfl⟩

set_option maxHeartbeats 400000 in
theorem xraw_short (b : Nat) (v : Value) (M m t : Nat) (n : Int) (w : World) (h : Rx w b v M m t) (hm : m ≤ 137438953600) (hn : 0 ≤ n) (h8 : t % 8 = 0) (hs : ((m - t / 8 : Nat) : Int) < n) :
    Calls Tryz.prog 69 #[.pointer (some ⟨b, 0, none⟩), .int .i64 n] w fun e w' => e = .returned (.tuple #[.slice none 0 0, .int .i64 2]) ∧ w' = w := by
  obtain ⟨ao, cap, hv⟩ := h.slice
  have c0 := h.ins
  have c1 := h.at_
  have hle := h.le
  rw [hv] at c0
  have h8' : ((t : Int) % 8 != 0) = false := by simp; omega
  have hs' : (m : Int) - (t : Int) / 8 < n := by omega
  clear h hs
  go_enter Tryz.func69, Tryz.ntmps69
  go_wp2
  go_ret2
  exact ⟨rfl, rfl⟩

theorem Rd.cut {w : World} {M m cap : Nat} {ao : Option Addr} (hr : Rd w (.slice ao m cap) (bytesOf M m)) {j n : Nat} (hj : j + n ≤ m) (ao' : Option Addr) (cap' : Nat) (h1 : ao = none → ao' = none ∧ cap' = 0) (h2 : ∀ g off, ao = some ⟨g, off, none⟩ → n ≠ 0 → ao' = some ⟨g, off + j, none⟩) (h3 : ao ≠ none → ao' ≠ none) :
    Rd w (.slice ao' n cap') (bytesOf (M / 2 ^ (8 * j)) n) := by
  have hl := bytesOf_length (M / 2 ^ (8 * j)) n
  have hl0 := bytesOf_length M m
  obtain ⟨ao0, cap0, e0, r1, r2⟩ := hr
  injection e0 with x1 x2 x3
  subst x1 x3
  refine ⟨ao', cap', by rw [hl], ?_, ?_⟩
  · intro e
    cases ao with
    | none =>
      have hm0 : m = 0 := by rw [← hl0, (r1 rfl).1]; rfl
      have : n = 0 := by omega
      subst this
      exact ⟨rfl, (h1 rfl).2⟩
    | some a => exact absurd e (h3 (by simp))
  · intro a ha hne
    have hn : n ≠ 0 := by intro e; subst e; exact hne rfl
    have hne0 : bytesOf M m ≠ [] := by intro e; rw [e] at hl0; simp at hl0; omega
    cases ao with
    | none => exact absurd (r1 rfl).1 hne0
    | some a0 =>
      obtain ⟨g, off, rfl, hc⟩ := r2 a0 rfl hne0
      rw [h2 g off rfl hn] at ha
      refine ⟨g, off + j, (Option.some.inj ha).symm, fun k hk => ?_⟩
      rw [hl] at hk
      rw [Nat.add_assoc, hc (j + k) (by omega), bytesOf_getD _ _ _ (by omega), bytesOf_getD _ _ _ hk, Nat.div_div_eq_div_mul, ← Nat.pow_add, ← Nat.mul_add]

set_option maxHeartbeats 1000000 in
theorem xraw_ok (b : Nat) (v : Value) (M m t n : Nat) (w : World) (h : Rx w b v M m t) (hm : m ≤ 137438953600) (h8 : t % 8 = 0) (hn : n ≤ m - t / 8) :
    Calls Tryz.prog 69 #[.pointer (some ⟨b, 0, none⟩), .int .i64 n] w fun e w' => ∃ v', e = .returned (.tuple #[v', .int .i64 0]) ∧ w'.ownsRow 0 5 1 v' n (u8s (bytesOf (M / 2 ^ t) n)) ∧ (∀ k, v'.ownBlock = some k → w.heap.size ≤ k) ∧ TookX w w' b v M m (t + 8 * n) := by
  obtain ⟨i0, hi, hz0, hz1, hz2⟩ := info_parts Tryz.info5
  obtain ⟨ao, cap, hv⟩ := h.slice
  have c0 := h.ins
  have c1 := h.at_
  have f1 := h.f1
  have hle := h.le
  have H := hidden h
  have hrd := h.rd
  rw [hv] at c0 hrd
  have h8' : ((t : Int) % 8 != 0) = false := by simp; omega
  have hs' : (n : Int) ≤ (m : Int) - (t : Int) / 8 := by omega
  have ht : 8 * (t / 8) = t := by omega
  have hcap1 : m ≤ cap := h.room _ _ _ hv
  have hbw : b < w.heap.size := World.block_lt_of_cell? w _ h.ins
  have hbw2 : ¬ b = w.heap.size := by omega
  have hT : Hid (∀ z : Int, z = ((t + 8 * n : Nat) : Int) → TookX w (w.setCell ⟨b, 1, none⟩ (.int .i64 z)) b v M m (t + 8 * n)) := fun z hz => H.out.took (Step.refl _ w) (by omega) z hz
  have Hv := hidden hv
  cases ao with
  | none =>
    have hz : cap = 0 ∧ m = 0 := by
      obtain ⟨ao0, cap0, e0, r1, _⟩ := hrd
      injection e0 with x1 x2 x3
      subst x1 x3
      have := (r1 rfl).1
      have hl := bytesOf_length M m
      rw [this] at hl
      exact ⟨(r1 rfl).2, hl.symm⟩
    obtain ⟨rfl, rfl⟩ := hz
    have hn0 : n = 0 := by omega
    have ht0 : t = 0 := by omega
    subst hn0 ht0
    have hown := hidden (show ((w.setCell ⟨b, 1, none⟩ (.int .i64 0)).alloc (.cells #[] 5)).ownsRow 0 5 1 (.slice (some ⟨w.heap.size, 0, none⟩) 0 0) 0 [] by
      have := World.ownsRow_lit (base := 0) (e := 5) (size := 1) (w.setCell ⟨b, 1, none⟩ (.int .i64 0)) #[] 0 (Nat.zero_le _) (Nat.zero_le _) rfl
      simpa using this)
    clear h hv hrd
    go_enter Tryz.func69, Tryz.ntmps69
    go_wp2_with (at_builtin; refine wpList_append_own_none rfl (.tmp 41) (.tmp 50) 22 rfl 0 5 i0 1 Tryz.underlying22 hi _ _ _ rfl hown.out rfl ?_)
    go_ret2
    refine ⟨_, rfl, hown.out, fun k hk => ?_, (hT.out 0 rfl).made ((Step.refl _ _).alloc _)⟩
    simp [Value.ownBlock] at hk
    omega
  | some a =>
    have hgo : ∀ (a' : Addr) (c' : Nat) (z : Int), Rd (w.setCell ⟨b, 1, none⟩ (.int .i64 z)) (.slice (some a') n c') (bytesOf (M / 2 ^ t) n) →
        ((w.setCell ⟨b, 1, none⟩ (.int .i64 z)).alloc (.cells #[] 5)).ownsRow 0 5 1 (.slice (some ⟨w.heap.size, 0, none⟩) 0 0) 0 [] ∧
        ∀ j u, (u8s (bytesOf (M / 2 ^ t) n))[j]? = some u → ((w.setCell ⟨b, 1, none⟩ (.int .i64 z)).alloc (.cells #[] 5)).cell? (a'.add j) = some u := by
      intro a' c' z hR
      refine ⟨?_, (hR.step ((Step.refl (fun _ => False) _).alloc (.cells #[] 5)) (fun _ _ _ _ _ h => h)).news⟩
      have := World.ownsRow_lit (base := 0) (e := 5) (size := 1) (w.setCell ⟨b, 1, none⟩ (.int .i64 z)) #[] 0 (Nat.zero_le _) (Nat.zero_le _) rfl
      simpa using this
    have Hgo := hidden hgo
    have hnm : n ≤ maxLen := by unfold maxLen; omega
    have hfin : Hid (∀ (z : Int) (v' : Value) (w1 : World), z = ((t + 8 * n : Nat) : Int) → w1.ownsRow 0 5 1 v' n (u8s (bytesOf (M / 2 ^ t) n)) → ((w.setCell ⟨b, 1, none⟩ (.int .i64 z)).alloc (.cells #[] 5)).grownBy w1 (Value.slice (some ⟨w.heap.size, 0, none⟩) 0 0).ownBlock →
        (v'.ownBlock = (Value.slice (some ⟨w.heap.size, 0, none⟩) 0 0).ownBlock ∨ v'.ownBlock = some (w.heap.size + 1)) →
        w1.ownsRow 0 5 1 v' n (u8s (bytesOf (M / 2 ^ t) n)) ∧ (∀ k, v'.ownBlock = some k → w.heap.size ≤ k) ∧ TookX w w1 b v M m (t + 8 * n)) := by
      intro z v' w1 hz ho hg hb
      refine ⟨ho, fun k hk => ?_, (hT.out z hz).made (((Step.refl _ _).alloc _).grown hg (fun k hk => ?_))⟩
      · rcases hb with e | e
        · rw [e] at hk; simp [Value.ownBlock] at hk; omega
        · rw [e] at hk; have := Option.some.inj hk; omega
      · simp [Value.ownBlock] at hk
        right
        simp [World.setCell]
        omega
    clear hgo
    have hez : (t : Int) + 8 * (n : Int) = ((t + 8 * n : Nat) : Int) := by omega
    have hT1 := hT.out ((t : Int) + 8 * (n : Int)) hez
    have hrd1 := hT1.1.rd
    rw [hv] at hrd1
    by_cases hc : cap = t / 8
    · have hR := Rd.cut hrd1 (j := t / 8) (n := n) (by omega) (some a) 0 (fun h => by cases h) (fun g off _ h => absurd (show n = 0 by omega) h) (fun h => h)
      rw [ht] at hR
      have HG := hidden (Hgo.out a 0 _ hR)
      have Hez := hidden hez
      clear h hv hrd hR hrd1 hT1 Hgo hez
      go_enter Tryz.func69, Tryz.ntmps69
      go_wp2_with (at_builtin; refine wpList_append_val _ rfl (.tmp 41) (.tmp 50) 22 rfl 5 i0 (.int .u8 0) 1 1 Tryz.underlying22 hi hz0 hz1 hz2 rfl (by decide) _ 0 [] rfl HG.out.1 a n 0 (u8s (bytesOf (M / 2 ^ t) n)) _ rfl ?hxv ?c0 HG.out.2 (u8s_one _) ?c3 ?c4 ?_)
      case hxv => simp [Act.eval]
      case c0 => rw [u8s_length, bytesOf_length]; omega
      case c3 => omega
      case c4 => omega
      intro v' w1 hown' hgrow hnil hv'
      have HF := hidden (hfin.out _ v' w1 Hez.out hown' hgrow hv')
      clear hown' hgrow hnil hv'
      go_wp2
      go_ret2
      exact ⟨_, rfl, HF.out⟩
    · have hR := Rd.cut hrd1 (j := t / 8) (n := n) (by omega) (some (a.add (t / 8))) (cap - t / 8) (fun h => by cases h) (fun g off h _ => by rw [Option.some.inj h, Addr.add_lit]) (fun _ h => by cases h)
      rw [ht] at hR
      have HG := hidden (Hgo.out _ _ _ hR)
      have Hez := hidden hez
      clear h hv hrd hR hrd1 hT1 Hgo hez
      go_enter Tryz.func69, Tryz.ntmps69
      go_wp2_with (at_builtin; refine wpList_append_val _ rfl (.tmp 41) (.tmp 50) 22 rfl 5 i0 (.int .u8 0) 1 1 Tryz.underlying22 hi hz0 hz1 hz2 rfl (by decide) _ 0 [] rfl HG.out.1 (a.add (t / 8)) n (cap - t / 8) (u8s (bytesOf (M / 2 ^ t) n)) _ rfl ?hxv ?c0 HG.out.2 (u8s_one _) ?c3 ?c4 ?_)
      case hxv => simp [Act.eval]
      case c0 => rw [u8s_length, bytesOf_length]; omega
      case c3 => omega
      case c4 => omega
      intro v' w1 hown' hgrow hnil hv'
      have HF := hidden (hfin.out _ v' w1 Hez.out hown' hgrow hv')
      clear hown' hgrow hnil hv'
      go_wp2
      go_ret2
      exact ⟨_, rfl, HF.out⟩

end Go.Proofs.YtcgjmkcigmmjjaaGreatDoor

namespace Go.Proofs.YtcgjmkcigmmjjaaGreatDoor
open Go.RowKit
set_option maxRecDepth 100000
set_option linter.unusedVariables false
/-- The page's stream in block p: its Reader in block b, over the row r; what came out, the row v; its error. -/
structure Sx (w : World) (p b : Nat) (r v : Value) (M m t : Nat) (O : List Nat) (most : Int) (e : Nat) : Prop where
  ci : w.cell? ⟨p, 0, none⟩ = some (.pointer (some ⟨b, 0, none⟩))
  rx : Rx w b r M m t
  co : w.cell? ⟨p, 1, none⟩ = some v
  cm : w.cell? ⟨p, 2, none⟩ = some (.int .i64 most)
  ce : w.cell? ⟨p, 3, none⟩ = some (.int .i64 (e : Int))
  f1 : w.frozen? ⟨p, 1, none⟩ = false
  f3 : w.frozen? ⟨p, 3, none⟩ = false
  ow : w.ownsRow 0 5 1 v O.length (u8s O)
  pb : p ≠ b
  vp : v.ownBlock ≠ some p
  vb : v.ownBlock ≠ some b
  rp : ∀ a n c, r = .slice (some a) n c → bytesOf M m ≠ [] → a.block ≠ p ∧ v.ownBlock ≠ some a.block
  by_ : ∀ y ∈ O, y < 256

theorem Sx.drewN {w : World} {p b : Nat} {r v : Value} {M m t : Nat} {O : List Nat} {most : Int} {e : Nat} (h : Sx w p b r v M m t O most e) (q : Nat) : Sx (w.drewN q) p b r v M m t O most e :=
  ⟨h.ci, h.rx.drewN q, h.co, h.cm, h.ce, h.f1, h.f3, h.ow, h.pb, h.vp, h.vb, h.rp, h.by_⟩

theorem Sx.step {S : Nat → Prop} {w w' : World} {p b : Nat} {r v : Value} {M m t : Nat} {O : List Nat} {most : Int} {e : Nat} (h : Sx w p b r v M m t O most e) (hs : Step S w w') (h1 : ¬ S p) (h2 : ¬ S b) (h3 : ∀ k, v.ownBlock = some k → ¬ S k) (h4 : ∀ a n c, r = .slice (some a) n c → bytesOf M m ≠ [] → ¬ S a.block) : Sx w' p b r v M m t O most e := by
  have hp : p < w.heap.size := World.block_lt_of_cell? w _ h.ci
  exact ⟨hs.cell h.ci h1, h.rx.step hs h2 h4, hs.cell h.co h1, hs.cell h.cm h1, hs.cell h.ce h1, (hs.frozen (p := ⟨p, 1, none⟩) hp h1).trans h.f1, (hs.frozen (p := ⟨p, 3, none⟩) hp h1).trans h.f3, owns_step h.ow hs h3, h.pb, h.vp, h.vb, h.rp, h.by_⟩

theorem Sx.took {w w' : World} {p b : Nat} {r v : Value} {M m t t' : Nat} {O : List Nat} {most : Int} {e : Nat} (h : Sx w p b r v M m t O most e) (T : TookX w w' b r M m t') : Sx w' p b r v M m t' O most e := by
  have hp : p < w.heap.size := World.block_lt_of_cell? w _ h.ci
  exact ⟨T.2.cell h.ci h.pb, T.1, T.2.cell h.co h.pb, T.2.cell h.cm h.pb, T.2.cell h.ce h.pb, (T.2.frozen (p := ⟨p, 1, none⟩) hp h.pb).trans h.f1, (T.2.frozen (p := ⟨p, 3, none⟩) hp h.pb).trans h.f3, owns_step h.ow T.2 (fun k hk e => h.vb (by rw [hk, e])), h.pb, h.vp, h.vb, h.rp, h.by_⟩

/-- Its error is set. -/
theorem Sx.err {w : World} {p b : Nat} {r v : Value} {M m t : Nat} {O : List Nat} {most : Int} {e : Nat} (h : Sx w p b r v M m t O most e) (e' : Nat) : Sx (w.setCell ⟨p, 3, none⟩ (.int .i64 (e' : Int))) p b r v M m t O most e' := by
  have S : Step (fun k => k = p) w (w.setCell ⟨p, 3, none⟩ (.int .i64 (e' : Int))) := (Step.refl (fun k => k = p) w).setCell ⟨p, 3, none⟩ _ (.inl rfl)
  have hne : ∀ j u', j ≠ 3 → w.cell? ⟨p, j, none⟩ = some u' → (w.setCell ⟨p, 3, none⟩ (.int .i64 (e' : Int))).cell? ⟨p, j, none⟩ = some u' := fun j u' hj hu => by
    rw [World.cell?_setCell_other (a := ⟨p, 3, none⟩) (b := ⟨p, j, none⟩) _ _ (by intro e; injection e with _ e2; exact hj e2.symm)]; exact hu
  refine ⟨hne 0 _ (by omega) h.ci, h.rx.step S (fun e => h.pb e.symm) (fun a n c hr hne e => (h.rp a n c hr hne).1 e), hne 1 _ (by omega) h.co, hne 2 _ (by omega) h.cm, World.cell?_setCell_same _ _ _ h.ce, ?_, ?_, owns_step h.ow S (fun k hk e => h.vp (by rw [hk, e])), h.pb, h.vp, h.vb, h.rp, h.by_⟩
  · rw [World.frozen?_setCell]; exact h.f1
  · rw [World.frozen?_setCell]; exact h.f3

/-- The blocks that a stream's steps write. -/
def Px (p b k : Nat) : Prop := k = p ∨ k = b

set_option maxHeartbeats 1000000 in
theorem pget_ok (p b : Nat) (r v : Value) (M m t : Nat) (O : List Nat) (most : Int) (n : Nat) (w : World) (h : Sx w p b r v M m t O most 0) (hm : m ≤ 137438953600) (hn : n ≤ 24) (hs : t + n ≤ 8 * m) :
    Calls Tryz.prog 42 #[.pointer (some ⟨p, 0, none⟩), .int .i64 n] w fun e w' => e = .returned (.int .i64 ((M / 2 ^ t % 2 ^ n : Nat) : Int)) ∧ Hid (Sx w' p b r v M m (t + n) O most 0 ∧ Step (Px p b) w w') := by
  obtain ⟨x, hx⟩ : ∃ x, x = M / 2 ^ t % 2 ^ n := ⟨_, rfl⟩
  have c0 := h.ci
  have c3 := h.ce
  have HG : Hid (Calls Tryz.prog 68 #[.pointer (some ⟨b, 0, none⟩), .int .i64 n] w fun e w' => e = .returned (.tuple #[.int .i64 (x : Int), .int .i64 0]) ∧ (w'.cell? ⟨p, 3, none⟩ = some (.int .i64 0) ∧ w'.frozen? ⟨p, 3, none⟩ = false) ∧ Hid (Sx w' p b r v M m (t + n) O most 0 ∧ Step (Px p b) w w')) :=
    hidden ((xget_ok b r M m t n w h.rx hm hn (by omega)).mono fun e w' ⟨he, T⟩ => by
      rw [← hx] at he
      have h2 := h.took T
      exact ⟨he, ⟨h2.ce, h2.f3⟩, hidden ⟨h2, T.2.mono (fun i hi => .inr hi)⟩⟩)
  rw [← hx]
  clear h hx
  go_enter Tryz.func42, Tryz.ntmps42
  go_wp2_with fail
  refine HG.out.mono ?_
  rintro e w1 ⟨rfl, ⟨c1, f1⟩, R1⟩
  go_wp2
  go_ret
  exact ⟨rfl, hidden ⟨R1.out.1.err 0, R1.out.2.setCell _ _ (.inl (.inl rfl))⟩⟩

set_option maxHeartbeats 1000000 in
theorem pget_short (p b : Nat) (r v : Value) (M m t : Nat) (O : List Nat) (most : Int) (n : Nat) (w : World) (h : Sx w p b r v M m t O most 0) (hm : m ≤ 137438953600) (hn : n ≤ 24) (hs : 8 * m < t + n) :
    Calls Tryz.prog 42 #[.pointer (some ⟨p, 0, none⟩), .int .i64 n] w fun e w' => e = .returned (.int .i64 0) ∧ Hid (Sx w' p b r v M m t O most 2 ∧ Step (Px p b) w w') := by
  have c0 := h.ci
  have c3 := h.ce
  have HG : Hid (Calls Tryz.prog 68 #[.pointer (some ⟨b, 0, none⟩), .int .i64 n] w fun e w' => e = .returned (.tuple #[.int .i64 0, .int .i64 2]) ∧ (w'.cell? ⟨p, 3, none⟩ = some (.int .i64 0) ∧ w'.frozen? ⟨p, 3, none⟩ = false) ∧ Hid (Sx w' p b r v M m t O most 0 ∧ Step (Px p b) w w')) :=
    hidden ((xget_short b r M m t n w h.rx hm hn (by have := h.rx.le; omega)).mono fun e w' ⟨he, q, hq⟩ => by
      subst hq
      exact ⟨he, ⟨h.ce, h.f3⟩, hidden ⟨h.drewN q, (Step.refl _ w).drewN q⟩⟩)
  clear h
  go_enter Tryz.func42, Tryz.ntmps42
  go_wp2_with fail
  refine HG.out.mono ?_
  rintro e w1 ⟨rfl, ⟨c1, f1⟩, R1⟩
  go_wp2
  go_ret
  exact ⟨rfl, hidden ⟨R1.out.1.err 2, R1.out.2.setCell _ _ (.inl (.inl rfl))⟩⟩

set_option maxHeartbeats 1000000 in
/-- Behind an error nothing is read. -/
theorem pget_err (p b : Nat) (r v : Value) (M m t : Nat) (O : List Nat) (most : Int) (n : Int) (e : Nat) (w : World) (h : Sx w p b r v M m t O most e) (he : 0 < e) :
    Calls Tryz.prog 42 #[.pointer (some ⟨p, 0, none⟩), .int .i64 n] w fun x w' => x = .returned (.int .i64 0) ∧ w' = w := by
  have c3 := h.ce
  have hb : ((e : Int) != 0) = true := by rw [bne_iff_ne]; omega
  clear h
  go_enter Tryz.func42, Tryz.ntmps42
  go_wp2
  go_ret
  exact ⟨rfl, rfl⟩

end Go.Proofs.YtcgjmkcigmmjjaaGreatDoor

namespace Go.Proofs.YtcgjmkcigmmjjaaGreatDoor
open Go.RowKit
set_option maxRecDepth 100000
set_option linter.unusedVariables false
/-- The page's stream, in blocks of Z. -/
def PS (w : World) (Z : Nat → Prop) (p b : Nat) (r : Value) (M m t : Nat) (O : List Nat) (most : Int) (e : Nat) : Prop :=
  ∃ v, Sx w p b r v M m t O most e ∧ Z p ∧ Z b ∧ (∀ k, v.ownBlock = some k → Z k) ∧ (∀ a n c, r = .slice (some a) n c → bytesOf M m ≠ [] → ¬ Z a.block)

/-- What a step of it leaves. -/
def Pn (w w' : World) (Z : Nat → Prop) (p b : Nat) (r : Value) (M m t : Nat) (O : List Nat) (most : Int) (e : Nat) : Prop := PS w' Z p b r M m t O most e ∧ Step Z w w'

theorem pg_ok (Z : Nat → Prop) (p b : Nat) (r : Value) (M m t : Nat) (O : List Nat) (most : Int) (n : Nat) (w : World) (h : PS w Z p b r M m t O most 0) (hm : m ≤ 1000000) (hn : n ≤ 24) (hs : t + n ≤ 8 * m) :
    Calls Tryz.prog 42 #[.pointer (some ⟨p, 0, none⟩), .int .i64 n] w fun e w' => e = .returned (.int .i64 ((M / 2 ^ t % 2 ^ n : Nat) : Int)) ∧ Hid (Pn w w' Z p b r M m (t + n) O most 0) := by
  obtain ⟨v, h1, h2, h3, h4, h5⟩ := h
  exact (pget_ok p b r v M m t O most n w h1 (by omega) hn hs).mono fun e w' ⟨he, hq⟩ => ⟨he, hidden ⟨⟨v, hq.out.1, h2, h3, h4, h5⟩, hq.out.2.mono (fun i hi => by rcases hi with e | e <;> (rw [e]; assumption))⟩⟩

theorem pg_short (Z : Nat → Prop) (p b : Nat) (r : Value) (M m t : Nat) (O : List Nat) (most : Int) (n : Nat) (w : World) (h : PS w Z p b r M m t O most 0) (hm : m ≤ 1000000) (hn : n ≤ 24) (hs : 8 * m < t + n) :
    Calls Tryz.prog 42 #[.pointer (some ⟨p, 0, none⟩), .int .i64 n] w fun e w' => e = .returned (.int .i64 0) ∧ Hid (Pn w w' Z p b r M m t O most 2) := by
  obtain ⟨v, h1, h2, h3, h4, h5⟩ := h
  exact (pget_short p b r v M m t O most n w h1 (by omega) hn hs).mono fun e w' ⟨he, hq⟩ => ⟨he, hidden ⟨⟨v, hq.out.1, h2, h3, h4, h5⟩, hq.out.2.mono (fun i hi => by rcases hi with e | e <;> (rw [e]; assumption))⟩⟩

/-- Bytes went behind those that came out. -/
theorem Sx.appended {w w1 : World} {p b : Nat} {r v v1 : Value} {M m t : Nat} {O C : List Nat} {most : Int} {e : Nat} (h : Sx w p b r v M m t O most e) (hown : w1.ownsRow 0 5 1 v1 (O.length + C.length) (u8s (O ++ C))) (St : Step (fun k => v.ownBlock = some k) w w1) (hv : v1.ownBlock = v.ownBlock ∨ ∃ k, v1.ownBlock = some k ∧ w.heap.size ≤ k) (hC : ∀ y ∈ C, y < 256) :
    w1.cell? ⟨p, 1, none⟩ = some v ∧ w1.frozen? ⟨p, 1, none⟩ = false ∧ Sx (w1.setCell ⟨p, 1, none⟩ v1) p b r v1 M m t (O ++ C) most e := by
  have hpw : p < w.heap.size := World.block_lt_of_cell? w _ h.ci
  have hbw : b < w.heap.size := World.block_lt_of_cell? w _ h.rx.ins
  have h1 : Sx w1 p b r v M m t O most e ∨ True := .inr trivial
  have c1 := St.cell h.co h.vp
  have f1 := (St.frozen (p := ⟨p, 1, none⟩) hpw h.vp).trans h.f1
  have hvp : v1.ownBlock ≠ some p := by
    rcases hv with e | ⟨k, e, hk⟩
    · rw [e]; exact h.vp
    · rw [e]; intro e2; have := Option.some.inj e2; omega
  have hvb : v1.ownBlock ≠ some b := by
    rcases hv with e | ⟨k, e, hk⟩
    · rw [e]; exact h.vb
    · rw [e]; intro e2; have := Option.some.inj e2; omega
  have S2 : Step (fun k => k = p) w1 (w1.setCell ⟨p, 1, none⟩ v1) := (Step.refl (fun k => k = p) w1).setCell ⟨p, 1, none⟩ v1 (.inl rfl)
  have hne : ∀ j u', j ≠ 1 → w1.cell? ⟨p, j, none⟩ = some u' → (w1.setCell ⟨p, 1, none⟩ v1).cell? ⟨p, j, none⟩ = some u' := fun j u' hj hu => by
    rw [World.cell?_setCell_other (a := ⟨p, 1, none⟩) (b := ⟨p, j, none⟩) _ _ (by intro e; injection e with _ e2; exact hj e2.symm)]; exact hu
  refine ⟨c1, f1, ⟨hne 0 _ (by omega) (St.cell h.ci h.vp), ?_, World.cell?_setCell_same _ _ _ c1, hne 2 _ (by omega) (St.cell h.cm h.vp), hne 3 _ (by omega) (St.cell h.ce h.vp), ?_, ?_, ?_, h.pb, hvp, hvb, ?_, ?_⟩⟩
  · exact (h.rx.step St h.vb (fun a n c hr hn hq => (h.rp a n c hr hn).2 hq)).step S2 (fun e => h.pb e.symm) (fun a n c hr hn e => (h.rp a n c hr hn).1 e)
  · rw [World.frozen?_setCell]; exact f1
  · rw [World.frozen?_setCell]; exact (St.frozen (p := ⟨p, 3, none⟩) hpw h.vp).trans h.f3
  · rw [List.length_append]
    exact owns_step hown S2 (fun k hk e => hvp (by rw [hk, e]))
  · intro a n c hr hn
    refine ⟨(h.rp a n c hr hn).1, ?_⟩
    rcases hv with e | ⟨k, e, hk⟩
    · rw [e]; exact (h.rp a n c hr hn).2
    · rw [e]; intro e2
      have e3 := Option.some.inj e2
      obtain ⟨ao, cap, er, _, h2⟩ := h.rx.rd
      rw [hr] at er
      injection er with er1
      obtain ⟨ba, off, hb2, hc2⟩ := h2 a er1.symm hn
      have hl : 0 < (bytesOf M m).length := by cases hh : bytesOf M m with | nil => exact absurd hh hn | cons => simp
      have := World.block_lt_of_cell? w _ (hc2 0 hl)
      rw [hb2] at e3
      have e4 : k = ba := e3
      have : ba < w.heap.size := this
      omega
  · intro y hy
    rcases List.mem_append.1 hy with e | e
    · exact h.by_ y e
    · exact hC y e

/-- What lay leaves. -/
def LayQ (w w' : World) (Z : Nat → Prop) (p b : Nat) (r : Value) (M m t : Nat) (O : List Nat) (most : Int) (c : Nat) : Prop := if 1 ≤ most - (O.length : Int) then Pn w w' Z p b r M m t (O ++ [c]) most 0 else Pn w w' Z p b r M m t O most 5

set_option maxHeartbeats 2000000 in
theorem lay_p (Z : Nat → Prop) (p b : Nat) (r : Value) (M m t : Nat) (O : List Nat) (most : Int) (c : Nat) (w : World) (h : PS w Z p b r M m t O most 0) (hB : ∀ k, w.heap.size ≤ k → Z k) (hc : c < 256) (hO : O.length ≤ 10000000000) (h0 : 0 ≤ most) (h1 : most ≤ 9223372036854775807) :
    Calls Tryz.prog 76 #[.pointer (some ⟨p, 0, none⟩), .int .u8 c] w fun e w' => e = .returned (.tuple #[]) ∧ Hid (LayQ w w' Z p b r M m t O most c) := by
  obtain ⟨v, hx, h2, h3, h4, h5⟩ := h
  obtain ⟨ao, cap, hs⟩ := own_slice hx.ow
  have co := hx.co
  have cm := hx.cm
  have ce := hx.ce
  have f3 := hx.f3
  rw [hs] at co
  have H := hidden hx
  obtain ⟨L, hL⟩ : ∃ L, L = O.length := ⟨_, rfl⟩
  have HL := hidden hL
  rw [← hL] at co hO hs
  have HV := hidden hs
  clear hx hs hL
  by_cases g : 1 ≤ most - (L : Int)
  · have g2 : ¬ most ≤ (L : Int) := by omega
    have HO : Hid (∀ q, ((w.drewN q).alloc (.cells #[.int .u8 (c : Int)] 5)).ownsRow 0 5 1 (.slice ao L cap) L (u8s O)) := hidden (fun q => by have := (H.out.drewN q).ow.alloc (.cells #[.int .u8 (c : Int)] 5); rw [HV.out, ← HL.out] at this; exact this)
    have HR := hidden (fun q => Rd.lit (w.drewN q) c)
    go_enter Tryz.func76, Tryz.ntmps76
    go_wp2
    go_quiet (fail)
    go_wp2_with (at_builtin; refine append_bytes rfl (.tmp 21) (.tmp 23) rfl _ _ _ rfl (HO.out _) _ [c] rfl (HR.out _) ?d1 ?_)
    case d1 => show L + 1 ≤ 137438953600; omega
    intro v2 w2 ho2 hg2 hb2
    have St : Step (fun k => v.ownBlock = some k) w w2 := (((Step.refl _ w).drewN _).alloc _).grown hg2 (fun k hk => .inl (by rw [HV.out]; exact hk))
    have hv2 : v2.ownBlock = v.ownBlock ∨ ∃ k, v2.ownBlock = some k ∧ w.heap.size ≤ k := by
      rcases hb2 with e | e
      · exact .inl (by rw [e, HV.out])
      · exact .inr ⟨_, e, by simp⟩
    have HA := hidden (H.out.appended (C := [c]) (by rw [← HL.out]; exact ho2) St hv2 (fun y hy => by rw [List.mem_singleton.1 hy]; exact hc))
    have HST := hidden (And.intro St hv2)
    obtain ⟨a2, c2, hvv⟩ := own_slice ho2
    subst hvv
    have c6 := HA.out.1
    have f6 := HA.out.2.1
    rw [HV.out] at c6
    clear ho2 hg2 hb2 St hv2
    go_wp2
    go_end0
    refine ⟨rfl, ?_⟩
    have hQ : ∀ w', Pn w w' Z p b r M m t (O ++ [c]) most 0 → Hid (LayQ w w' Z p b r M m t O most c) := fun w' h => by unfold LayQ; rw [← HL.out, if_pos g]; exact h
    refine hQ _ ⟨⟨_, HA.out.2.2, h2, h3, fun k hk => ?_, h5⟩, (HST.out.1.mono (fun k hk => h4 k hk)).setCell _ _ (.inl h2)⟩
    rcases HST.out.2 with e | ⟨j, e, hj⟩
    · exact h4 k (by rw [← e]; exact hk)
    · rw [e] at hk; have := Option.some.inj hk; exact hB k (by omega)
  · have g2 : most ≤ (L : Int) := by omega
    go_enter Tryz.func76, Tryz.ntmps76
    go_wp2
    go_quiet (fail)
    go_wp2
    refine bodyPost_ret (results_none rfl _ _ _) rfl ?_
    refine ⟨rfl, ?_⟩
    have hQ : ∀ w', Pn w w' Z p b r M m t O most 5 → Hid (LayQ w w' Z p b r M m t O most c) := fun w' h => by unfold LayQ; rw [← HL.out, if_neg (by omega)]; exact h
    exact hQ _ ⟨⟨v, (H.out.drewN _).err 5, h2, h3, h4, h5⟩, ((Step.refl _ w).drewN _).setCell _ _ (.inl h2)⟩

end Go.Proofs.YtcgjmkcigmmjjaaGreatDoor
