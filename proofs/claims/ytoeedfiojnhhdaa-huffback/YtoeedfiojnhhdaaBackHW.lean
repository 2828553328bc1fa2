/-
  HuffBack's walk.
-/
import Derived.Test.YtoeedfiojnhhdaaHRefNew
import Derived.Test.YtoeedfiojnhhdaaHKnown
namespace Go.Proofs.Ytoeedfiojnhhdaa
open Go.RowKit
set_option linter.unusedVariables false

theorem and_mask (z : Int) : ∃ y : Nat, y ≤ 65535 ∧ bits .and .i64 z 65535 = (y : Int) := by
  refine ⟨(BitVec.ofInt 64 z &&& BitVec.ofInt 64 65535).toNat, ?_, ?_⟩
  · rw [BitVec.toNat_and]
    have : (BitVec.ofInt 64 65535).toNat = 65535 := by decide
    rw [this]
    exact Nat.and_le_right
  · show IntKind.i64.wrap ((BitVec.ofInt 64 z &&& BitVec.ofInt 64 65535).toNat : Int) = _
    have h : (BitVec.ofInt 64 z &&& BitVec.ofInt 64 65535).toNat ≤ 65535 := by
      rw [BitVec.toNat_and]
      have : (BitVec.ofInt 64 65535).toNat = 65535 := by decide
      rw [this]
      exact Nat.and_le_right
    exact wrap_i64_nat _ (by omega)

theorem bit_of (c b : Nat) (hc : c ≤ 100000) : bits .and .i64 ((c : Int) / 2 ^ b) 1 = ((c / 2 ^ b % 2 : Nat) : Int) := by
  have p := Nat.two_pow_pos b
  have e : ((c : Int) / 2 ^ b) = ((c / 2 ^ b : Nat) : Int) := by simp
  have h : c / 2 ^ b ≤ c := Nat.div_le_self _ _
  rw [e]
  generalize c / 2 ^ b = y at *
  rw [i64_and1 _ (by omega) (by omega)]
  simp

theorem bitOf_bit (x : Nat) : bitOf ((x % 2 : Nat) : Int) = x % 2 := by
  unfold bitOf
  have : x % 2 = 0 ∨ x % 2 = 1 := by omega
  rcases this with h | h <;> simp [h]

/-- A symbol's code as it is read: t bits have come. -/
def stC (c x t : Nat) : Nat := if t = x then 0 else c / 2 ^ (x - t)
def stL (x t : Nat) : Nat := if t = x then 0 else t

set_option maxRecDepth 100000 in
set_option maxHeartbeats 1000000 in
theorem huffBack_any (v v2 : Value) (L Q : List Int) (w : World) (h : Ri w v L) (h2 : Ri w v2 Q) (hl : L.length ≤ 9223372036854775807) (hq : Q.length ≤ 9223372036854775807) :
    Calls Try.prog 5 #[v, v2] w fun e w' => e = .returned (.bool true) ∧ Step (fun _ => False) w w' := by
  have HR := hidden h
  have HQ := hidden h2
  obtain ⟨ao, cap, rfl, _, r1, r2⟩ := h
  obtain ⟨qo, qc, rfl, _, q1, q2⟩ := h2
  have R1 := hidden r1
  have R2 := hidden r2
  have Q1 := hidden q1
  have Q2 := hidden q2
  obtain ⟨n, hn⟩ : ∃ n, n = L.length := ⟨_, rfl⟩
  obtain ⟨m, hm⟩ : ∃ m, m = Q.length := ⟨_, rfl⟩
  have Hn := hidden hn
  have Hm := hidden hm
  rw [← hn] at hl HR ⊢
  rw [← hm] at hq HQ ⊢
  clear hn hm r1 r2 q1 q2
  by_cases h320 : n ≤ 320
  · by_cases h60 : m ≤ 60
    · have hl' : L.length ≤ 9223372036854775807 := by have := Hn.out; omega
      go_enter Try.func5, Try.ntmps5
      go_wp2_with fail
      refine (codes_any _ L _ HR.out hl').mono ?_
      rintro e w1 ⟨v1, rfl, rc, _, hs1⟩
      have RC := hidden rc
      have S1 := hidden hs1
      obtain ⟨co, cc, rfl, _, c1, c2⟩ := rc
      have C1 := hidden c1
      have C2 := hidden c2
      clear hs1 c1 c2
      go_wp2_with fail
      refine (new_any _ L _ (HR.out.made S1.out) hl').mono ?_
      rintro e w2 hnew
      have HNEW := hidden hnew
      by_cases hne : newErr L = 0
      · rcases hnew with ⟨he, _⟩ | ⟨_, d, bs, tot, rfl, hd1, hd2, hdec, hs2⟩
        · exact absurd hne he
        · have S2 := hidden hs2
          have HDEC := hidden hdec
          obtain ⟨hce, hok, hful⟩ := newErr_codes L hne
          have HCR := hidden (codeErr_ok hce).2.2
          have HOK := hidden ((okB_iff L).1 hok)
          have HFUL := hidden hful
          have HCE := hidden hce
          clear hs2 hdec hce hok hful
          go_wp2_with fail
          refine (refNew_any _ L _ ((HR.out.made S1.out).made S2.out) hl').mono ?_
          rintro e w3 (⟨he, _⟩ | ⟨_, rd, vc, vl, rfl, _, _, _, _, hs3⟩)
          · exact absurd hne he
          · have S3 := hidden hs3
            have HD3 := hidden (HDEC.out.made hs3)
            have S13 := hidden (show Step (fun _ => False) w1 w3 from S2.out.made hs3)
            have S03 := hidden (show Step (fun _ => False) w w3 from S1.out.made S13.out)
            have hlc : (codesR L).length = n := by rw [HCR.out, codes_length, Hn.out]
            rw [HCE.out, hlc]
            rw [hlc] at RC
            rw [HCR.out] at RC C1 C2
            clear hlc hs3
            by_cases hn0 : n = 0
            · subst hn0
              have b0 : ((0 : Int) == 0) = true := rfl
              have b1 : ((0 : Int) != 0) = false := rfl
              go_wp2_with fail
              refine (known_any _).mono ?_
              rintro e w4 ⟨rfl, hs4⟩
              have S4 := hidden (S03.out.made hs4)
              clear hs4
              go_wp2
              go_ret
              exact ⟨rfl, S4.out⟩
            · have b0 : ((0 : Int) == 0) = true := rfl
              have b1 : ((0 : Int) != 0) = false := rfl
              have b2 : ((n : Int) == 0) = false := by rw [beq_eq_false_iff_ne]; omega
              have b3 : ((n : Int) != (n : Int)) = false := by simp
              have hn1 : (0 : Int) < (n : Int) := by omega
              go_wp2
              go_loopw [11, 12, 13, 14] (fun iv _ _ _ wr => ∃ i : Nat, i ≤ m ∧ iv = .int .i64 (i : Int) ∧ Hid (Step (fun k => k = d) w3 wr ∧ Dec wr d L bs tot 0 0)) (fun iv _ _ _ _ => m - (intOf iv).toNat)
              case atStart => exact ⟨0, Nat.zero_le _, rfl, Step.refl _ _, HD3.out⟩
              case round =>
                obtain ⟨i, hi, rfl, hrest⟩ := hrel
                have hw1 := S1.out.size
                by_cases him : i < m
                · have hiQ : i < Q.length := by have := Hm.out; omega
                  cases qo with
                  | none => have := (Q1.out rfl).1; subst this; simp at hiQ
                  | some qa =>
                    obtain ⟨qb, qoff, rfl, kq⟩ := Q2.out qa rfl (by intro e; subst e; simp at hiQ)
                    have hqb : qb < w.heap.size := World.block_lt_of_cell? w _ (kq i hiQ)
                    have cq := hrest.out.1.cell (S03.out.cell (kq i hiQ) (fun h => h)) (by show ¬ qb = d; omega)
                    have i1 : (i : Int) < (m : Int) := by omega
                    obtain ⟨y, hy, hyy⟩ := and_mask (Q.getD i 0)
                    generalize Q.getD i 0 = z at *
                    clear kq hiQ
                    have hty : Int.tmod (y : Int) (n : Int) = ((y % n : Nat) : Int) := by rw [Int.tmod_eq_emod_of_nonneg (by omega)]; simp
                    have hk : y % n < n := Nat.mod_lt _ (by omega)
                    generalize y % n = k at *
                    have hkL : k < L.length := by have := Hn.out; omega
                    cases ao with
                    | none => have := (R1.out rfl).1; subst this; simp at hkL
                    | some a =>
                      cases co with
                      | none => have := (C1.out rfl).1; have : (codes L).length = 0 := by rw [this]; rfl
                                rw [codes_length] at this; omega
                      | some b =>
                        obtain ⟨ba, oa, rfl, ka⟩ := R2.out a rfl (by intro e; subst e; simp at hkL)
                        obtain ⟨bb, ob, rfl, kb⟩ := C2.out b rfl (by intro e; have : (codes L).length = 0 := by { rw [e]; rfl }
                                                                     rw [codes_length] at this; omega)
                        have hba : ba < w.heap.size := World.block_lt_of_cell? w _ (ka k hkL)
                        have hbb : bb < w1.heap.size := World.block_lt_of_cell? w1 _ (kb k (by rw [codes_length]; exact hkL))
                        have lk := hrest.out.1.cell (S03.out.cell (ka k hkL) (fun h => h)) (by show ¬ ba = d; omega)
                        have ck := S13.out.cell (kb k (by rw [codes_length]; exact hkL)) (fun h => h)
                        rw [codes_getD L k hkL] at ck
                        have hx := HOK.out.2 (L.getD k 0) (by rw [getD_i L k hkL]; exact List.getElem_mem hkL)
                        obtain ⟨x, ex⟩ := Int.eq_ofNat_of_zero_le hx.1
                        obtain ⟨c, ec⟩ := Int.eq_ofNat_of_zero_le (codeOf_nonneg L k)
                        have x15 := hx.2
                        rw [ex] at lk x15
                        rw [ec] at ck
                        have HX := hidden (And.intro ex ec)
                        have HKL := hidden hkL
                        have k1 : (k : Int) < (n : Int) := by omega
                        clear ka kb hx ex ec hkL
                        have HCX : Hid (0 < x → c < 2 ^ x) := fun h0 => by
                          have := (code_lt L k x HKL.out HX.out.1 h0 (by omega) HFUL.out).2
                          rw [HX.out.2] at this
                          have e : ((2 ^ x : Nat) : Int) = (2 : Int) ^ x := by simp
                          omega
                        go_wp2
                        go_loopw [13, 14] (fun bv _ W => ∃ t : Nat, t ≤ x ∧ bv = .int .i64 ((x : Int) - 1 - (t : Int)) ∧ Hid (Step (fun k => k = d) w3 W ∧ Dec W d L bs tot (stC c x t) (stL x t))) (fun bv _ _ => (intOf bv + 1).toNat)
                        case atStart =>
                          refine ⟨0, Nat.zero_le _, by go_num, hrest.out.1, ?_⟩
                          have e1 : stC c x 0 = 0 := by
                            unfold stC
                            split
                            · rfl
                            · rw [Nat.sub_zero]; exact Nat.div_eq_of_lt (HCX.out (by omega))
                          have e2 : stL x 0 = 0 := by unfold stL; split <;> rfl
                          rw [e1, e2]
                          exact hrest.out.2
                        case round =>
                          obtain ⟨t, ht, rfl, hin⟩ := hrel
                          by_cases htx : t < x
                          · obtain ⟨bN, hbN1, hbN2⟩ : ∃ bN : Nat, x ≤ t + 1 + bN ∧ t + 1 + bN ≤ x := ⟨x - 1 - t, by omega, by omega⟩
                            have hx0 : 0 < x := by omega
                            have hcx := HCX.out hx0
                            have hc15 : c ≤ 32768 := by
                              have : (2 ^ x : Nat) ≤ 2 ^ 15 := Nat.pow_le_pow_right (by omega) (by omega)
                              omega
                            have hbit := bit_of c bN (by omega)
                            have ebv : (x : Int) - 1 - (t : Int) = (bN : Int) := by omega
                            have eC : stC c x t = c / 2 ^ (bN + 1) := by unfold stC; rw [if_neg (by omega), show x - t = bN + 1 by omega]
                            have eL : stL x t = t := by unfold stL; rw [if_neg (by omega)]
                            have hdec := hin.out.2
                            rw [eC, eL] at hdec
                            have hsum : 2 * (c / 2 ^ (bN + 1)) + bitOf ((c / 2 ^ bN % 2 : Nat) : Int) = c / 2 ^ bN := by rw [bitOf_bit]; exact half_bit c bN
                            have hdl : c / 2 ^ (bN + 1) ≤ c := Nat.div_le_self _ _
                            have ecN : ((c / 2 ^ bN : Nat) : Int) = codeOf L k / 2 ^ (x - (t + 1)) := by rw [HX.out.2, show x - (t + 1) = bN by omega]; simp
                            have hge := code_ge L k x (t + 1) HKL.out HX.out.1 hx0 (by omega) (by omega)
                            rw [← ecN] at hge
                            have HNX := hidden (next_any wr d L bs tot (c / 2 ^ (bN + 1)) t ((c / 2 ^ bN % 2 : Nat) : Int) hdec (by omega) (by omega) HOK.out.1 (by rw [hsum]; exact hge))
                            rw [hsum] at HNX
                            have lk2 := hin.out.1.cell ck (by show ¬ bb = d; omega)
                            have HEC := hidden ecN
                            rw [ebv]
                            clear ebv
                            have hb0 : (0 : Int) ≤ (bN : Int) := by omega
                            generalize c / 2 ^ bN % 2 = bt at *
                            clear hdec hge hdl eC eL hsum ecN
                            by_cases hb : bN = 0
                            · have HB := hidden hb
                              have hbz : (bN : Int) ≤ 0 := by omega
                              have b5 : ((bN : Int) == 0) = true := by rw [beq_iff_eq]; omega
                              clear hb
                              go_wp2_with fail
                              refine HNX.out.mono ?_
                              rintro e W2 ⟨r, c', l', rfl, hnr, hd2, hs2⟩
                              obtain ⟨e1, e2, e3⟩ := next_end HOK.out.2 HKL.out HX.out.1 hx0 (by rw [HEC.out, show x - (t + 1) = 0 by have := HB.out; omega]; simp) (by rw [show x = t + 1 by have := HB.out; omega]; exact hnr)
                              subst e1
                              subst e2
                              subst e3
                              have HIN2 := hidden (show Step (fun k => k = d) w3 W2 ∧ Dec W2 d L bs tot (stC c x (t + 1)) (stL x (t + 1)) by
                                rw [show stC c x (t + 1) = 0 by unfold stC; rw [if_pos (by have := HB.out; omega)], show stL x (t + 1) = 0 by unfold stL; rw [if_pos (by have := HB.out; omega)]]
                                exact ⟨hin.out.1.trans hs2 (fun i hi => .inl hi), hd2⟩)
                              clear hnr hd2 hs2
                              have b4 : ((k : Int) != (k : Int)) = false := by simp
                              go_wp2
                              go_roundw
                              case rel => exact ⟨t + 1, by omega, by rw [show (bN : Int) - 1 = (x : Int) - 1 - ((t + 1 : Nat) : Int) by omega], HIN2.out⟩
                              case measure => simp [intOf]
                            · have hbpos : (0 : Int) < (bN : Int) := by omega
                              go_wp2_with fail
                              refine HNX.out.mono ?_
                              rintro e W2 ⟨r, c', l', rfl, hnr, hd2, hs2⟩
                              obtain ⟨e1, e2, e3⟩ := next_mid HOK.out.2 HKL.out HX.out.1 hx0 (by omega) (by omega) HEC.out hnr
                              subst e1
                              subst e2
                              subst e3
                              have HIN2 := hidden (show Step (fun k => k = d) w3 W2 ∧ Dec W2 d L bs tot (stC c x (t + 1)) (stL x (t + 1)) by
                                rw [show stC c x (t + 1) = c / 2 ^ bN by unfold stC; rw [if_neg (by omega), show x - (t + 1) = bN by omega], show stL x (t + 1) = t + 1 by unfold stL; rw [if_neg (by omega)]]
                                exact ⟨hin.out.1.trans hs2 (fun i hi => .inl hi), hd2⟩)
                              clear hnr hd2 hs2
                              have b4 : ((-1 : Int) != -1) = false := rfl
                              have b5 : ((bN : Int) == 0) = false := by rw [beq_eq_false_iff_ne]; omega
                              go_wp2
                              go_roundw
                              case rel => exact ⟨t + 1, by omega, by rw [show (bN : Int) - 1 = (x : Int) - 1 - ((t + 1 : Nat) : Int) by omega], HIN2.out⟩
                              case measure => simp [intOf]
                          · have e : t = x := by omega
                            subst e
                            have hneg : ¬ (0 : Int) ≤ (t : Int) - 1 - (t : Int) := by omega
                            go_wp2
                            go_roundw
                            case rel => exact ⟨i + 1, by omega, by go_num, hin.out.1, by have := hin.out.2; simpa [stC, stL] using this⟩
                            case measure => simp [intOf]; omega
                · go_wp2_with fail
                  refine (known_any _).mono ?_
                  rintro e w4 ⟨rfl, hs4⟩
                  have S4 := hidden (show Step (fun _ => False) w w4 from (S03.out.trans hrest.out.1 (fun i hi => .inr (by omega))).made hs4)
                  clear hs4
                  go_wp2
                  go_ret
                  exact ⟨rfl, S4.out⟩
      · rcases hnew with ⟨_, rfl, hs2⟩ | ⟨he, _⟩
        · have S2 := hidden hs2
          clear hs2
          go_wp2_with fail
          refine (refNew_any _ L _ ((HR.out.made S1.out).made S2.out) hl').mono ?_
          rintro e w3 (⟨_, rfl, hs3⟩ | ⟨he, _⟩)
          · have S3 := hidden hs3
            have b1 : (newErr L != newErr L) = false := by simp
            have b2 : (newErr L == 0) = false := by rw [beq_eq_false_iff_ne]; exact hne
            have b3 : (newErr L != 0) = true := by rw [bne_iff_ne]; exact hne
            generalize newErr L = ne at *
            generalize (codesR L).length = cl at *
            clear hs3 hne HNEW
            go_wp2_with fail
            refine (known_any _).mono ?_
            rintro e w4 ⟨rfl, hs4⟩
            have S4 := hidden (((S1.out.made S2.out).made S3.out).made hs4)
            clear hs4
            go_wp2
            go_ret
            exact ⟨rfl, S4.out⟩
          · exact absurd he hne
        · exact absurd he hne
    · have h3 : (60 : Int) < (m : Int) := by omega
      go_enter Try.func5, Try.ntmps5
      go_wp2
      go_ret
      exact ⟨rfl, Step.refl _ _⟩
  · have h3 : (320 : Int) < (n : Int) := by omega
    go_enter Try.func5, Try.ntmps5
    go_wp2
    go_ret
    exact ⟨rfl, Step.refl _ _⟩

end Go.Proofs.Ytoeedfiojnhhdaa
