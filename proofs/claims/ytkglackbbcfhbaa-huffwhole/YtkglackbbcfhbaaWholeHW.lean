/-
  HuffWhole's walk.
-/
import Derived.Test.YtkglackbbcfhbaaHMay
import Derived.Test.YtkglackbbcfhbaaHLenP
import Derived.Test.YtkglackbbcfhbaaHKnown
import Derived.Test.YtkglackbbcfhbaaHSortB
import Derived.Test.YtkglackbbcfhbaaHBitN
import Derived.Test.YtkglackbbcfhbaaHNewW
namespace Go.Proofs.Ytkglackbbcfhbaa
open Go.RowKit
set_option linter.unusedVariables false

theorem sortAll' {O : List Int} (h : O.length ≤ 320) : ∀ n, n = (posTo O O.length).length → SortOk n := fun n hn => sort_all n (by have := posTo_length O O.length; omega)

set_option maxRecDepth 100000 in
set_option maxHeartbeats 4000000 in
theorem huffWhole_any (v : Value) (O : List Int) (w : World) (h : Ri w v O) (hl : O.length ≤ 9223372036854775807) :
    Calls Try.prog 5 #[v] w fun e w' => e = .returned (.bool true) ∧ Step (fun _ => False) w w' := by
  have HR := hidden h
  have HM := hidden (may_any v O 15 w h hl)
  obtain ⟨ao, cap, rfl, _, r1, r2⟩ := h
  have R1 := hidden r1
  have R2 := hidden r2
  obtain ⟨n, hn⟩ : ∃ n, n = O.length := ⟨_, rfl⟩
  have Hn := hidden hn
  rw [← hn] at hl HR HM ⊢
  clear hn r1 r2
  by_cases h320 : n ≤ 320
  · by_cases hmay : mayB O 15 = true
    · rw [hmay] at HM
      have HMAY := hidden hmay
      have hO320 : Hid (O.length ≤ 320) := by unfold Hid; rw [← Hn.out]; exact h320
      clear hmay
      go_enter Try.func5, Try.ntmps5
      go_wp2_with fail
      refine HM.out.mono ?_
      rintro e w0 ⟨rfl, rfl⟩
      go_wp2_with fail
      refine (own_any _ O _ HR.out (by have := hO320.out; omega)).mono ?_
      rintro e w1 ⟨u, rfl, ho1, hb1, hs1⟩
      have RU := hidden (Ri.of_own ho1)
      have S1 := hidden hs1
      obtain ⟨uo, uc, rfl⟩ := own_slice ho1
      clear ho1 hb1 hs1
      go_wp2_with fail
      refine (len_any _ O 15 _ RU.out (by have := hO320.out; omega) (sortAll' hO320.out)).mono ?_
      rintro e w2 (⟨hno, _⟩ | ⟨_, vl, D, rfl, d1, d2, rl, _, hs2⟩)
      · rw [HMAY.out] at hno; cases hno
      have hU : Used O D 15 := ⟨d1, d2, HMAY.out⟩
      have rl' : Ri w2 vl (lensOf O D 15) := rl
      have S2 := hidden (S1.out.made hs2)
      have hlL : (lensOf O D 15).length = n := by rw [lensOf_length, Hn.out]
      have HLL := hidden hlL
      have HNE := hidden hU.new
      have HOK := hidden ((okB_iff _).1 hU.ok)
      obtain ⟨hce, _, hful⟩ := newErr_codes _ hU.new
      have HCR := hidden (codeErr_ok hce).2.2
      have HCE := hidden hce
      have HFUL := hidden hful
      clear d1 d2 rl hs2 hlL hce hful hU
      generalize lensOf O D 15 = L at *
      have RL := hidden rl'
      obtain ⟨lo, lc, rfl, _, l1, l2⟩ := rl'
      have L1 := hidden l1
      have L2 := hidden l2
      clear l1 l2
      have hl' : L.length ≤ 9223372036854775807 := by rw [HLL.out]; omega
      rw [HLL.out]
      rw [HLL.out] at RL
      have HL' := hidden hl'
      clear hl'
      go_wp2_with fail
      refine (new_any _ L _ RL.out HL'.out).mono ?_
      rintro e w3 (⟨he, _⟩ | ⟨_, d, bs, tot, rfl, hd1, hd2, hdec, hs3⟩)
      · exact absurd HNE.out he
      have S3 := hidden hs3
      have HDEC := hidden hdec
      clear hdec hs3
      go_wp2_with fail
      refine (codes_any _ L _ (RL.out.made S3.out) HL'.out).mono ?_
      rintro e w4 ⟨v1, rfl, rc, hcb, hs4⟩
      have S4 := hidden hs4
      rw [HCR.out] at rc
      obtain ⟨co, cc, rfl, _, c1, c2⟩ := rc
      have C1 := hidden c1
      have C2 := hidden c2
      have HCB := hidden hcb
      rw [codes_length, HLL.out, HCE.out]
      have HD4 := hidden (HDEC.out.made hs4)
      have hdlt : d < w3.heap.size := World.block_lt_of_cell? w3 _ HDEC.out.c1
      clear hs4 c1 c2 hcb
      have b3 : ((n : Int) != (n : Int)) = false := by simp
      have hw0 := S2.out.size
      go_wp2
      go_loopw [9, 10, 11] (fun iv _ _ wr => ∃ i : Nat, i ≤ n ∧ iv = .int .i64 (i : Int) ∧ Hid (Step (fun k => k = d) w4 wr ∧ Dec wr d L bs tot 0 0)) (fun iv _ _ _ => n - (intOf iv).toNat)
      case atStart => exact ⟨0, Nat.zero_le _, rfl, Step.refl _ _, HD4.out⟩
      case round =>
        obtain ⟨k, hk, rfl, hrest⟩ := hrel
        by_cases hkn : k < n
        · have hkL : k < L.length := by have := HLL.out; omega
          cases lo with
          | none => have := (L1.out rfl).1; subst this; simp at hkL
          | some a =>
            cases co with
            | none => have := (C1.out rfl).1; have : (codes L).length = 0 := by rw [this]; rfl
                      rw [codes_length] at this; omega
            | some b =>
              obtain ⟨ba, oa, rfl, ka⟩ := L2.out a rfl (by intro e; subst e; simp at hkL)
              obtain ⟨bb, ob, rfl, kb⟩ := C2.out b rfl (by intro e; have : (codes L).length = 0 := by { rw [e]; rfl }
                                                           rw [codes_length] at this; omega)
              have hba : ba < w2.heap.size := World.block_lt_of_cell? w2 _ (ka k hkL)
              have hbb : w3.heap.size ≤ bb := HCB.out _ _ _ rfl
              have lk := hrest.out.1.cell (S4.out.cell (S3.out.cell (ka k hkL) (fun h => h)) (fun h => h)) (by show ¬ ba = d; omega)
              have ck := kb k (by rw [codes_length]; exact hkL)
              rw [codes_getD L k hkL] at ck
              have hx := HOK.out.2 (L.getD k 0) (by rw [getD_i L k hkL]; exact List.getElem_mem hkL)
              obtain ⟨x, ex⟩ := Int.eq_ofNat_of_zero_le hx.1
              obtain ⟨c, ec⟩ := Int.eq_ofNat_of_zero_le (codeOf_nonneg L k)
              have x15 := hx.2
              rw [ex] at lk x15
              rw [ec] at ck
              have HX := hidden (And.intro ex ec)
              have HKL := hidden hkL
              have k1 : (k : Int) < (n : Int) := by omega
              clear ka kb hx ex ec hkL
              have HCX : Hid (0 < x → c < 2 ^ x) := fun h0 => by
                have := (code_lt L k x HKL.out HX.out.1 h0 (by omega) HFUL.out).2
                rw [HX.out.2] at this
                have e : ((2 ^ x : Nat) : Int) = (2 : Int) ^ x := by simp
                omega
              go_wp2
              go_loopw [10, 11] (fun bv _ W => ∃ t : Nat, t ≤ x ∧ bv = .int .i64 ((x : Int) - 1 - (t : Int)) ∧ Hid (Step (fun k => k = d) w4 W ∧ Dec W d L bs tot (stC c x t) (stL x t))) (fun bv _ _ => (intOf bv + 1).toNat)
              case atStart =>
                refine ⟨0, Nat.zero_le _, by go_num, hrest.out.1, ?_⟩
                have e1 : stC c x 0 = 0 := by
                  unfold stC
                  split
                  · rfl
                  · rw [Nat.sub_zero]; exact Nat.div_eq_of_lt (HCX.out (by omega))
                have e2 : stL x 0 = 0 := by unfold stL; split <;> rfl
                rw [e1, e2]
                exact hrest.out.2
              case round =>
                obtain ⟨t, ht, rfl, hin⟩ := hrel
                by_cases htx : t < x
                · obtain ⟨bN, hbN1, hbN2⟩ : ∃ bN : Nat, x ≤ t + 1 + bN ∧ t + 1 + bN ≤ x := ⟨x - 1 - t, by omega, by omega⟩
                  have hx0 : 0 < x := by omega
                  have hcx := HCX.out hx0
                  have hc15 : c ≤ 32768 := by
                    have : (2 ^ x : Nat) ≤ 2 ^ 15 := Nat.pow_le_pow_right (by omega) (by omega)
                    omega
                  have hbit := bit_of c bN (by omega)
                  have ebv : (x : Int) - 1 - (t : Int) = (bN : Int) := by omega
                  have eC : stC c x t = c / 2 ^ (bN + 1) := by unfold stC; rw [if_neg (by omega), show x - t = bN + 1 by omega]
                  have eL : stL x t = t := by unfold stL; rw [if_neg (by omega)]
                  have hdec := hin.out.2
                  rw [eC, eL] at hdec
                  have hsum : 2 * (c / 2 ^ (bN + 1)) + bitOf ((c / 2 ^ bN % 2 : Nat) : Int) = c / 2 ^ bN := by rw [bitOf_bit]; exact half_bit c bN
                  have hdl : c / 2 ^ (bN + 1) ≤ c := Nat.div_le_self _ _
                  have ecN : ((c / 2 ^ bN : Nat) : Int) = codeOf L k / 2 ^ (x - (t + 1)) := by rw [HX.out.2, show x - (t + 1) = bN by omega]; simp
                  have hge := code_ge L k x (t + 1) HKL.out HX.out.1 hx0 (by omega) (by omega)
                  rw [← ecN] at hge
                  have HNX := hidden (next_any wr d L bs tot (c / 2 ^ (bN + 1)) t ((c / 2 ^ bN % 2 : Nat) : Int) hdec (by omega) (by omega) HOK.out.1 (by rw [hsum]; exact hge))
                  rw [hsum] at HNX
                  have lk2 := hin.out.1.cell ck (by show ¬ bb = d; omega)
                  have HEC := hidden ecN
                  rw [ebv]
                  clear ebv
                  have hb0 : (0 : Int) ≤ (bN : Int) := by omega
                  generalize c / 2 ^ bN % 2 = bt at *
                  clear hdec hge hdl eC eL hsum ecN
                  by_cases hb : bN = 0
                  · have HB := hidden hb
                    have hbz : (bN : Int) ≤ 0 := by omega
                    have b5 : ((bN : Int) == 0) = true := by rw [beq_iff_eq]; omega
                    clear hb
                    go_wp2_with fail
                    refine HNX.out.mono ?_
                    rintro e W2 ⟨r, c', l', rfl, hnr, hd2, hs2⟩
                    obtain ⟨e1, e2, e3⟩ := next_end HOK.out.2 HKL.out HX.out.1 hx0 (by rw [HEC.out, show x - (t + 1) = 0 by have := HB.out; omega]; simp) (by rw [show x = t + 1 by have := HB.out; omega]; exact hnr)
                    subst e1
                    subst e2
                    subst e3
                    have HIN2 := hidden (show Step (fun k => k = d) w4 W2 ∧ Dec W2 d L bs tot (stC c x (t + 1)) (stL x (t + 1)) by
                      rw [show stC c x (t + 1) = 0 by unfold stC; rw [if_pos (by have := HB.out; omega)], show stL x (t + 1) = 0 by unfold stL; rw [if_pos (by have := HB.out; omega)]]
                      exact ⟨hin.out.1.trans hs2 (fun i hi => .inl hi), hd2⟩)
                    clear hnr hd2 hs2
                    have b4 : ((k : Int) == (k : Int)) = true := by simp
                    go_wp2
                    go_roundw
                    case rel => exact ⟨t + 1, by omega, by rw [show (bN : Int) - 1 = (x : Int) - 1 - ((t + 1 : Nat) : Int) by omega], HIN2.out⟩
                    case measure => simp [intOf]
                  · have hbpos : (0 : Int) < (bN : Int) := by omega
                    go_wp2_with fail
                    refine HNX.out.mono ?_
                    rintro e W2 ⟨r, c', l', rfl, hnr, hd2, hs2⟩
                    obtain ⟨e1, e2, e3⟩ := next_mid HOK.out.2 HKL.out HX.out.1 hx0 (by omega) (by omega) HEC.out hnr
                    subst e1
                    subst e2
                    subst e3
                    have HIN2 := hidden (show Step (fun k => k = d) w4 W2 ∧ Dec W2 d L bs tot (stC c x (t + 1)) (stL x (t + 1)) by
                      rw [show stC c x (t + 1) = c / 2 ^ bN by unfold stC; rw [if_neg (by omega), show x - (t + 1) = bN by omega], show stL x (t + 1) = t + 1 by unfold stL; rw [if_neg (by omega)]]
                      exact ⟨hin.out.1.trans hs2 (fun i hi => .inl hi), hd2⟩)
                    clear hnr hd2 hs2
                    have b4 : ((-1 : Int) != -1) = false := rfl
                    have b6 : ((-1 : Int) == (k : Int)) = false := by rw [beq_eq_false_iff_ne]; omega
                    have b5 : ((bN : Int) == 0) = false := by rw [beq_eq_false_iff_ne]; omega
                    go_wp2
                    go_roundw
                    case rel => exact ⟨t + 1, by omega, by rw [show (bN : Int) - 1 = (x : Int) - 1 - ((t + 1 : Nat) : Int) by omega], HIN2.out⟩
                    case measure => simp [intOf]
                · have e : t = x := by omega
                  subst e
                  have hneg : ¬ (0 : Int) ≤ (t : Int) - 1 - (t : Int) := by omega
                  go_wp2
                  go_roundw
                  case rel => exact ⟨k + 1, by omega, by go_num, hin.out.1, by have := hin.out.2; simpa [stC, stL] using this⟩
                  case measure => simp [intOf]; omega
        · go_wp2_with fail
          refine (known_any _).mono ?_
          rintro e w5 ⟨rfl, hs5⟩
          have S5 := hidden (show Step (fun _ => False) w0 w5 from (((S2.out.made S3.out).made S4.out).trans hrest.out.1 (fun i hi => .inr (by omega))).made hs5)
          clear hs5
          go_wp2
          go_ret
          exact ⟨rfl, S5.out⟩
    · have hmf : mayB O 15 = false := by cases e : mayB O 15 with | false => rfl | true => exact absurd e hmay
      rw [hmf] at HM
      go_enter Try.func5, Try.ntmps5
      go_wp2_with fail
      refine HM.out.mono ?_
      rintro e w0 ⟨rfl, rfl⟩
      go_wp2
      go_ret
      exact ⟨rfl, Step.refl _ _⟩
  · have h3 : (320 : Int) < (n : Int) := by omega
    go_enter Try.func5, Try.ntmps5
    go_wp2
    go_ret
    exact ⟨rfl, Step.refl _ _⟩

end Go.Proofs.Ytkglackbbcfhbaa
