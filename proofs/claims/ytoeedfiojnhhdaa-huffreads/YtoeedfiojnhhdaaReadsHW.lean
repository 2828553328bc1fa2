/-
  HuffReads' walk.
-/
import Derived.Test.YtoeedfiojnhhdaaHRefNext
import Derived.Test.YtoeedfiojnhhdaaHKnown
import Derived.Deep.RegionWith
namespace Go.Proofs.Ytoeedfiojnhhdaa
open Go.RowKit
set_option linter.unusedVariables false

theorem Dec.far {w w' : World} {S : Nat → Prop} {d : Nat} {L : List Int} {bs tot code len : Nat} (h : Dec w d L bs tot code len) (hs : Step S w w') (h1 : ¬ S d) (h2 : ∀ i, i < L.length → 0 < L.getD i 0 → ¬ S bs) : Dec w' d L bs tot code len :=
  ⟨fun k hk => hs.cell (h.cn k hk) h1, hs.cell h.cs h1, fun i a b => hs.cell (h.sy i a b) (h2 i a b), hs.cell h.c1 h1, hs.cell h.c2 h1, hs.cell h.c3 h1, hs.cell h.c4 h1,
    fun k a b => (hs.frozen (p := ⟨d, k, none⟩) (World.block_lt_of_cell? w ⟨d, 17, none⟩ h.c1) h1).trans (h.fz k a b), h.to, h.ne⟩
theorem RDec.far {w w' : World} {S : Nat → Prop} {d : Nat} {L : List Int} {vc vl : Value} {code n : Nat} (h : RDec w d L vc vl code n) (hs : Step S w w') (h1 : ¬ S d) (h2 : ∀ a n c, vc = .slice (some a) n c → ¬ S a.block) (h3 : ∀ a n c, vl = .slice (some a) n c → ¬ S a.block) : RDec w' d L vc vl code n :=
  have hd := World.block_lt_of_cell? w ⟨d, 2, none⟩ h.c2
  ⟨hs.cell h.c0 h1, hs.cell h.c1 h1, hs.cell h.c2 h1, hs.cell h.c3 h1, h.rc.step hs (fun a n c e _ => h2 a n c e), h.rl.step hs (fun a n c e _ => h3 a n c e),
    (hs.frozen (p := ⟨d, 2, none⟩) hd h1).trans h.f2, (hs.frozen (p := ⟨d, 3, none⟩) hd h1).trans h.f3, h.nc, h.nl⟩

/-- A row of one's own that may be written: its block is new since B. -/
def MyRow (w : World) (mo : Option Addr) (n B T : Nat) : Prop := (mo = none → n = 0) ∧ ∀ a, mo = some a → ∃ g, a = ⟨g, 0, none⟩ ∧ B ≤ g ∧ g < T ∧ ∀ k, k < n → (∃ x, w.cell? ⟨g, k, none⟩ = some (.int .i64 x)) ∧ w.frozen? ⟨g, k, none⟩ = false

theorem MyRow.of_own {w : World} {u : Value} {n B : Nat} {L : List Int} (h : w.ownsRow 0 3 1 u n (i64s L)) (hb : ∀ k, u.ownBlock = some k → B ≤ k) : ∃ mo mc, u = .slice mo n mc ∧ MyRow w mo n B w.heap.size := by
  have hl := h.1
  rw [i64s_length, Nat.mul_one] at hl
  rcases h.2 with ⟨rfl, rfl⟩ | ⟨g, cap, cur, rfl, _, hg, hnc, _⟩
  · exact ⟨none, 0, rfl, fun _ => rfl, fun a e => by cases e⟩
  · refine ⟨some ⟨g, 0, none⟩, cap, rfl, fun e => (by cases e), fun a e => ⟨g, (Option.some.inj e).symm, hb g rfl, ?_, fun k hk => ⟨⟨L.getD k 0, ?_⟩, h.frozenAt k⟩⟩⟩
    · exact (Array.getElem?_eq_some_iff.1 hg).1
    · rw [h.cellAt k (by omega), i64s_get?]
      have : k < L.length := by omega
      simp [List.getD, this]
theorem MyRow.made {w w' : World} {mo : Option Addr} {n B T : Nat} (h : MyRow w mo n B T) (hs : Step (fun _ => False) w w') : MyRow w' mo n B T :=
  ⟨h.1, fun a e => by
    obtain ⟨g, e1, e2, e3, e4⟩ := h.2 a e
    refine ⟨g, e1, e2, e3, fun k hk => ?_⟩
    obtain ⟨⟨x, hx⟩, hf⟩ := e4 k hk
    exact ⟨⟨x, hs.cell hx (fun h => h)⟩, (hs.frozen (p := ⟨g, k, none⟩) (World.block_lt_of_cell? w _ hx) (fun h => h)).trans hf⟩⟩
theorem MyRow.set {w : World} {g n B T : Nat} (h : MyRow w (some ⟨g, 0, none⟩) n B T) (j : Nat) (x : Int) : MyRow (w.setCell ⟨g, j, none⟩ (.int .i64 x)) (some ⟨g, 0, none⟩) n B T :=
  ⟨h.1, fun a e => by
    obtain ⟨g', e1, e2, e3, e4⟩ := h.2 a e
    cases Option.some.inj e
    cases e1
    refine ⟨g, rfl, e2, e3, fun k hk => ?_⟩
    obtain ⟨⟨y, hy⟩, hf⟩ := e4 k hk
    refine ⟨?_, by rw [World.frozen?_setCell]; exact hf⟩
    by_cases e : k = j
    · subst e; exact ⟨x, sam hy⟩
    · exact ⟨y, oth hy (fun h => e h.symm)⟩⟩

set_option maxRecDepth 100000 in
set_option maxHeartbeats 1000000 in
theorem huffReads_any (v v2 : Value) (L Q : List Int) (w : World) (h : Ri w v L) (h2 : Ri w v2 Q) (hl : L.length ≤ 9223372036854775807) (hq : Q.length ≤ 9223372036854775807) :
    Calls Try.prog 4 #[v, v2] w fun e w' => e = .returned (.bool true) ∧ Step (fun _ => False) w w' := by
  have HR := hidden h
  have HQ := hidden h2
  obtain ⟨ao, cap, rfl, _, r1, r2⟩ := h
  obtain ⟨qo, qc, rfl, _, q1, q2⟩ := h2
  have Q1 := hidden q1
  have Q2 := hidden q2
  obtain ⟨n, hn⟩ : ∃ n, n = L.length := ⟨_, rfl⟩
  obtain ⟨m, hm⟩ : ∃ m, m = Q.length := ⟨_, rfl⟩
  have Hn := hidden hn
  have Hm := hidden hm
  rw [← hn] at hl HR ⊢
  rw [← hm] at hq HQ ⊢
  clear hn hm r1 r2 q1 q2
  by_cases h400 : n ≤ 400
  · by_cases hm400 : m ≤ 400
    · have hl' : L.length ≤ 9223372036854775807 := by have := Hn.out; omega
      go_enter Try.func4, Try.ntmps4
      go_wp2_with fail
      refine (own_any _ L _ HR.out (by have := Hn.out; omega)).mono ?_
      rintro e w1 ⟨u, rfl, hown, hub, hs1⟩
      have HRM := hidden (Ri.of_own hown)
      obtain ⟨mo, mc, rfl, hmy⟩ := MyRow.of_own hown hub
      rw [← Hn.out] at hmy HRM ⊢
      have HMY := hidden hmy
      have S1 := hidden hs1
      clear hown hub hmy hs1
      go_wp2_with fail
      refine (new_any _ L _ HRM.out hl').mono ?_
      rintro e w2 hnew
      by_cases hne : newErr L = 0
      · rcases hnew with ⟨he, _⟩ | ⟨_, d, bs, tot, rfl, hd1, hd2, hdec, hs2⟩
        · exact absurd hne he
        · have S2 := hidden hs2
          have HDEC := hidden hdec
          obtain ⟨hce, hok, hful⟩ := newErr_codes L hne
          have HOK := hidden ((okB_iff L).1 hok)
          have HNE := hidden hne
          clear hs2 hdec hce hok hful
          go_wp2_with fail
          refine (refNew_any _ L _ ((HR.out.made S1.out).made S2.out) hl').mono ?_
          rintro e w3 (⟨he, _⟩ | ⟨_, rd, vc, vl, rfl, hrd, hrdec, hvc, hvl, hs3⟩)
          · exact absurd hne he
          · have S3 := hidden hs3
            have HD3 := hidden (HDEC.out.made hs3)
            have HR3 := hidden hrdec
            have S13 := hidden (show Step (fun _ => False) w1 w3 from S2.out.made hs3)
            have S03 := hidden (show Step (fun _ => False) w w3 from S1.out.made S13.out)
            have HM3 := hidden (HMY.out.made S13.out)
            have HVC := hidden hvc
            have HVL := hidden hvl
            have sz2 := S2.out.size
            have hdl : d < w2.heap.size := World.block_lt_of_cell? w2 _ HDEC.out.c1
            have b0 : ((0 : Int) == 0) = true := rfl
            have b1 : ((0 : Int) != 0) = false := rfl
            clear hs3 hrdec hvc hvl hne
            go_wp2_with fail
            refine (ints_any _ _ L L _ (HRM.out.made S13.out) (HR.out.made S03.out) hl').mono ?_
            rintro e w4 ⟨rfl, nq, rfl⟩
            rw [decide_eq_true rfl]
            go_wp2
            go_loopw [10] (fun iv wr => ∃ i : Nat, i ≤ n ∧ iv = .int .i64 (i : Int) ∧ Hid (Step (fun k => w.heap.size ≤ k ∧ k < w1.heap.size) w3 wr ∧ MyRow wr mo n w.heap.size w1.heap.size)) (fun iv _ => n - (intOf iv).toNat)
            case atStart => exact ⟨0, Nat.zero_le _, rfl, (Step.refl _ _).drewN _, HM3.out⟩
            case round =>
              obtain ⟨i, hi, rfl, hrest⟩ := hrel
              by_cases hin : i < n
              · cases mo with
                | none => have := hrest.out.1; have := HMY.out.1 rfl; omega
                | some a =>
                  obtain ⟨g, rfl, hg1, hg2, hg3⟩ := hrest.out.2.2 a rfl
                  obtain ⟨⟨x, hx⟩, hf⟩ := hg3 i hin
                  have i1 : (i : Int) < (n : Int) := by omega
                  have HSET := hidden (fun y => hrest.out.2.set i y)
                  have HST := hidden (fun y => hrest.out.1.setCell ⟨g, i, none⟩ y (.inl ⟨hg1, hg2⟩))
                  clear hg3
                  go_wp2
                  go_roundw
                  case rel => exact ⟨i + 1, by omega, by go_num, HST.out _, HSET.out _⟩
                  case measure => simp [intOf]; omega
              · have HD5 := hidden (HD3.out.far hrest.out.1 (by omega) (fun _ _ _ => by omega))
                have HR5 := hidden (HR3.out.far hrest.out.1 (by omega) (fun a n c e => by have := HVC.out a n c e; omega) (fun a n c e => by have := HVL.out a n c e; omega))
                have S5 := hidden hrest.out.1
                have hbad : ¬ (i : Int) < (n : Int) := by omega
                go_wp2
                go_loopw [11] (fun jv W => ∃ (j c l : Nat), j ≤ m ∧ jv = .int .i64 (j : Int) ∧ Hid (Step (fun _ => False) w W ∧ Dec W d L bs tot c l ∧ RDec W rd L vc vl c l ∧ Inv L c l)) (fun jv _ => m - (intOf jv).toNat)
                case atStart => exact ⟨0, 0, 0, Nat.zero_le _, rfl, S03.out.trans S5.out (fun k hk => .inr hk.1), HD5.out, HR5.out, Inv.zero L⟩
                case round =>
                  obtain ⟨j, c, l, hj, rfl, hin2⟩ := hrel
                  by_cases hjm : j < m
                  · have hjQ : j < Q.length := by have := Hm.out; omega
                    cases qo with
                    | none => have := (Q1.out rfl).1; subst this; simp at hjQ
                    | some qa =>
                      obtain ⟨qb, qoff, rfl, kq⟩ := Q2.out qa rfl (by intro e; subst e; simp at hjQ)
                      have hqb : qb < w.heap.size := World.block_lt_of_cell? w _ (kq j hjQ)
                      have cq := hin2.out.1.cell (kq j hjQ) (fun h => h)
                      have j1 : (j : Int) < (m : Int) := by omega
                      generalize Q.getD j 0 = z at *
                      obtain ⟨v1, v2, v3⟩ := hin2.out.2.2.2.bit z
                      have v0 := hin2.out.2.2.2.1
                      have sz1 := S1.out.size
                      have HN1 := hidden (fun (W : World) (hW : Step (fun _ => False) wr W) => (next_any W d L bs tot c l z (hin2.out.2.1.made hW) v0 v3 HOK.out.1 v2).mono (fun e w' ⟨r, c1, l1, e1, hx, hd, hs⟩ => show ∃ r c1 l1, e = Ending.returned (.int .i64 r) ∧ NextR L (2 * c + bitOf z) (l + 1) r c1 l1 ∧ Dec w' d L bs tot c1 l1 ∧ Step (fun k => k = d) wr w' from
                        ⟨r, c1, l1, e1, hx, hd, (hW.mono (fun i hi => hi.elim)).trans hs (fun i hi => .inl hi)⟩))
                      have HN2 := hidden (fun (W1 W : World) (c1 l1 : Nat) (hW : Step (fun _ => False) W1 W) (h1 : Step (fun k => k = d) wr W1) (hd1' : Dec W1 d L bs tot c1 l1) =>
                        (refNext_any W rd L vc vl c l z ((hin2.out.2.2.1.far h1 (by omega) (fun a n c e => by have := HVC.out a n c e; omega) (fun a n c e => by have := HVL.out a n c e; omega)).far hW (fun h => h) (fun _ _ _ _ h => h) (fun _ _ _ _ h => h)) v0 v3 HOK.out.1 HOK.out.2).mono (fun e w' ⟨r, c2, l2, e1, hx, hd, hs⟩ => show ∃ r c2 l2, e = Ending.returned (.int .i64 r) ∧ RNextR L (2 * c + bitOf z) (l + 1) r c2 l2 ∧ RDec w' rd L vc vl c2 l2 ∧ Dec w' d L bs tot c1 l1 ∧ Step (fun _ => False) w w' from
                          ⟨r, c2, l2, e1, hx, hd, (hd1'.made hW).far hs (by omega) (fun i x y => by have : bs < w2.heap.size := World.block_lt_of_cell? w2 _ (HDEC.out.sy i x y); omega), ((hin2.out.1.trans h1 (fun i hi => .inr (by omega))).made hW).trans hs (fun i hi => .inr (by omega))⟩))
                      have HAG := hidden (fun (r r' : Int) (c1 l1 c2 l2 : Nat) (a : NextR L (2 * c + bitOf z) (l + 1) r c1 l1) (b : RNextR L (2 * c + bitOf z) (l + 1) r' c2 l2) => agree HOK.out.2 HNE.out (by omega) (by omega) v1 a b)
                      have HIV := hidden (fun (r : Int) (c1 l1 : Nat) (a : NextR L (2 * c + bitOf z) (l + 1) r c1 l1) => Inv.next HOK.out.2 (by omega) v1 a)
                      have hqd : qb ≠ d := by omega
                      clear kq hjQ v0 v1 v2 v3
                      go_wp2
                      go_region_with (first
                        | (go_at_call 16; refine (HN1.out _ (by first | exact Step.refl _ _ | exact (Step.refl _ _).drew | exact (Step.refl _ _).drewN _)).mono ?_; rintro e W1 ⟨r, c1, l1, rfl, hx⟩; have HX1 := hidden hx; have cq1 := hx.2.2.cell cq hqd; clear hx)
                        | (go_at_call 17; refine (HN2.out W1 _ c1 l1 (by first | exact Step.refl _ _ | exact (Step.refl _ _).drew | exact (Step.refl _ _).drewN _) HX1.out.2.2 HX1.out.2.1).mono ?_; rintro e W2 ⟨r2, c2, l2, rfl, hy⟩; have HX2 := hidden hy; have HE := hidden (HAG.out _ _ _ _ _ _ HX1.out.1 hy.1); have b9 : (r != r2) = false := (by rw [HE.out.1]; simp); clear hy))
                      all_goals
                        go_wp2
                        go_roundw
                        case rel => exact ⟨j + 1, c2, l2, by omega, by go_num, HX2.out.2.2.2, (by have h := HX2.out.2.2.1; rw [HE.out.2.1, HE.out.2.2] at h; exact h), HX2.out.2.1, (by have h := HIV.out _ _ _ HX1.out.1; rw [HE.out.2.1, HE.out.2.2] at h; exact h)⟩
                        case measure => simp [intOf]; omega
                  · have jbad : ¬ (j : Int) < (m : Int) := by omega
                    go_wp2_with fail
                    refine (known_any _).mono ?_
                    rintro e w4 ⟨rfl, hs4⟩
                    have S4 := hidden (hin2.out.1.made hs4)
                    clear hs4
                    go_wp2
                    go_ret
                    exact ⟨rfl, S4.out⟩
      · rcases hnew with ⟨_, rfl, hs2⟩ | ⟨he, _⟩
        · have S2 := hidden hs2
          clear hs2
          go_wp2_with fail
          refine (refNew_any _ L _ ((HR.out.made S1.out).made S2.out) hl').mono ?_
          rintro e w3 (⟨_, rfl, hs3⟩ | ⟨he, _⟩)
          · have S3 := hidden hs3
            have S13 := hidden (show Step (fun _ => False) w1 w3 from S2.out.made hs3)
            have S03 := hidden (show Step (fun _ => False) w w3 from S1.out.made S13.out)
            have b1 : (newErr L != newErr L) = false := by simp
            have b2 : (newErr L == 0) = false := by rw [beq_eq_false_iff_ne]; exact hne
            have b3 : (newErr L != 0) = true := by rw [bne_iff_ne]; exact hne
            generalize newErr L = ne at *
            clear hs3 hne
            go_wp2_with fail
            refine (ints_any _ _ L L _ (HRM.out.made S13.out) (HR.out.made S03.out) hl').mono ?_
            rintro e w4 ⟨rfl, nq, rfl⟩
            rw [decide_eq_true rfl]
            go_wp2_with fail
            refine (known_any _).mono ?_
            rintro e w4 ⟨rfl, hs4⟩
            have S4 := hidden ((S03.out.drewN _).made hs4)
            clear hs4
            go_wp2
            go_ret
            exact ⟨rfl, S4.out⟩
          · exact absurd he hne
        · exact absurd he hne
    · have h3 : (400 : Int) < (m : Int) := by omega
      go_enter Try.func4, Try.ntmps4
      go_wp2
      go_ret
      exact ⟨rfl, Step.refl _ _⟩
  · have h3 : (400 : Int) < (n : Int) := by omega
    go_enter Try.func4, Try.ntmps4
    go_wp2
    go_ret
    exact ⟨rfl, Step.refl _ _⟩

end Go.Proofs.Ytoeedfiojnhhdaa
