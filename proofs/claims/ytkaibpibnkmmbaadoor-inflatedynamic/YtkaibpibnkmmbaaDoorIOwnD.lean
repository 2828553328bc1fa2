/-
  The codes that a block of kind 2 begins with: ownCodes.
-/
import Derived.Test.YtkaibpibnkmmbaaDoorIOwnC
import Derived.Test.YtkaibpibnkmmbaaDoorIFix
namespace Go.Proofs.YtkaibpibnkmmbaaDoor
open Go.RowKit
set_option maxRecDepth 100000
set_option linter.unusedVariables false

theorem Ri.take {w : World} {a : Addr} {n c : Nat} {A : List Int} (h : Ri w (.slice (some a) n c) A) (k : Nat) (hk : k ≤ n) (h0 : 0 < k) : Ri w (.slice (some a) k c) (A.take k) := by
  obtain ⟨ao, cp, e, hc, h1, h2⟩ := h
  injection e with e1 e2 e3
  subst e1
  subst e3
  have hl : (A.take k).length = k := by rw [List.length_take]; omega
  refine ⟨some a, c, by rw [hl], by omega, fun h => (by cases h), fun a' ha hne => ?_⟩
  obtain ⟨b, off, hb, hcell⟩ := h2 a' ha (by intro e; subst e; simp at hne)
  refine ⟨b, off, hb, fun j hj => ?_⟩
  rw [hl] at hj
  rw [hcell j (by omega)]
  simp [List.getD, hj]

theorem Ri.drop {w : World} {b o n c : Nat} {A : List Int} (h : Ri w (.slice (some ⟨b, o, none⟩) n c) A) (k : Nat) (hk : k < n) : Ri w (.slice (some ⟨b, o + k, none⟩) (n - k) (c - k)) (A.drop k) := by
  obtain ⟨ao, cp, e, hc, h1, h2⟩ := h
  injection e with e1 e2 e3
  subst e1
  subst e3
  have hl : (A.drop k).length = n - k := by rw [List.length_drop]; omega
  refine ⟨some ⟨b, o + k, none⟩, c - k, by rw [hl], by omega, fun h => (by cases h), fun a' ha hne => ?_⟩
  obtain ⟨b2, off, hb, hcell⟩ := h2 ⟨b, o, none⟩ rfl (by intro e; subst e; simp at hne)
  injection hb with hb1 hb2
  subst hb1
  subst hb2
  refine ⟨b, o + k, (Option.some.inj ha).symm, fun j hj => ?_⟩
  rw [hl] at hj
  rw [show o + k + j = o + (k + j) by omega, hcell (k + j) (by omega)]
  simp [List.getD]

/-- How ownCodes ends. -/
def OwnE (w : World) (p b : Nat) (s v : Value) (M m : Nat) (O : List Nat) (most : Int) (t0 : Nat) (r : Except Nat (Nat × List Int × List Int)) (e : Ending) (w' : World) : Prop :=
  Step (fun k => k = b) w w' ∧
  match r with
  | .error x => 0 < x ∧ e = .returned (.tuple #[.pointer none, .int .i64 (x : Int)])
  | .ok (u, L, D) => newErr L = 0 ∧ newErr D = 0 ∧ ∃ c d1 d2 b1 b2 n1 n2, e = .returned (.tuple #[.pointer (some ⟨c, 0, none⟩), .int .i64 0]) ∧ Cod w' c d1 d2 b1 b2 n1 n2 L D ∧ Str w' p b s v M m u O most ∧ w.heap.size ≤ c ∧ w.heap.size ≤ d1 ∧ w.heap.size ≤ d2 ∧ w.heap.size ≤ b1 ∧ w.heap.size ≤ b2 ∧ t0 ≤ u

/-- What lengths answers, seen so. -/
def LenQ (p b : Nat) (s v : Value) (M m : Nat) (O : List Nat) (most : Int) (many t0 : Nat) (r : Except Nat (Nat × List Int)) (e : Ending) (w' : World) : Prop :=
  match r with
  | .error x => 0 < x ∧ e = .returned (.tuple #[.slice none 0 0, .int .i64 (x : Int)])
  | .ok (u, A) => ∃ g c, e = .returned (.tuple #[.slice (some ⟨g, 0, none⟩) many c, .int .i64 0]) ∧ w'.cell? ⟨g, 256, none⟩ = some (.int .i64 (A.getD 256 0)) ∧ many ≤ c ∧ Hid (Str w' p b s v M m u O most ∧ Ri w' (.slice (some ⟨g, 0, none⟩) many c) A ∧ A.length = many ∧ (∀ y ∈ A, 0 ≤ y) ∧ t0 ≤ u)

theorem newErr_pos (L : List Int) (h : newErr L ≠ 0) : newErr L = ((newErr L).toNat : Int) ∧ 0 < (newErr L).toNat := by
  unfold newErr at *
  split at h <;> (try split at h) <;> simp_all

theorem and_31 (h : Nat) (hh : h < 16384) : bits .and .i64 (h : Int) 31 = ((h % 32 : Nat) : Int) := by
  have := i64_and_nat h 31 (by omega) (by omega)
  rw [show ((31 : Nat) : Int) = 31 from rfl] at this
  rw [this, show (31 : Nat) = 2 ^ 5 - 1 from rfl, Nat.and_two_pow_sub_one_eq_mod]

set_option maxHeartbeats 4000000 in
theorem ownCodes_any (p b : Nat) (s v : Value) (M m t : Nat) (O : List Nat) (most : Int) (w : World) (T : Tab w) (h : Str w p b s v M m t O most) (hm : m ≤ 1000000) (hb0 : b ≠ 0) :
    Calls Tryd.prog 24 #[.pointer (some ⟨p, 0, none⟩)] w (OwnE w p b s v M m O most t (ownP M m t)) := by
  have HT := hidden T
  have H0 := hidden h
  have c0 := h.ci
  have hle := h.rr.le
  have hbw : Hid (b < w.heap.size) := hidden (World.block_lt_of_cell? w _ h.rr.ins)
  have hpw : Hid (p < w.heap.size) := hidden (World.block_lt_of_cell? w _ h.ci)
  have hvw : Hid (∀ k, v.ownBlock = some k → k < w.heap.size) := hidden (fun k hk => (h.ou.ow.lt _ hk).2)
  have hsw : Hid (∀ k, s.ownBlock = some k → k < w.heap.size) := hidden (fun k hk => (h.rr.own.lt _ hk).2)
  clear T h
  by_cases g1 : t + 14 ≤ 8 * m
  · obtain ⟨h, hh, hh2⟩ : ∃ h, h = M / 2 ^ t % 2 ^ 14 ∧ h < 16384 := ⟨_, rfl, Nat.mod_lt _ (by omega)⟩
    have HH : Hid (M / 2 ^ t % 16384 = h) := hidden hh.symm
    have HG : Hid (Calls Tryd.prog 20 #[.pointer (some ⟨b, 0, none⟩), .int .i64 (14 : Nat)] w fun e w' => e = .returned (.tuple #[.int .i64 (h : Int), .int .i64 0]) ∧ Hid (Str w' p b s v M m (t + 14) O most ∧ Tab w' ∧ Step (fun j => j = b) w w')) :=
      hidden ((get_ok b s M m t 14 w H0.out.rr (by omega) (by omega) (by omega)).mono fun e w' ⟨he, Tk⟩ => by
        rw [← hh] at he
        exact ⟨he, hidden ⟨(H0.out.took Tk).1, HT.out.step Tk.2 (fun e => hb0 e.symm), Tk.2⟩⟩)
    clear hh
    obtain ⟨h1, hh1⟩ : ∃ h1, h1 = h / 32 := ⟨_, rfl⟩
    obtain ⟨h2, hh2'⟩ : ∃ h2, h2 = h % 32 := ⟨_, rfl⟩
    obtain ⟨h3, hh3⟩ : ∃ h3, h3 = h1 % 32 := ⟨_, rfl⟩
    obtain ⟨h4, hh4⟩ : ∃ h4, h4 = h / 1024 := ⟨_, rfl⟩
    have e1 : (h : Int) / 32 = (h1 : Int) := by omega
    have e4 : (h : Int) / 1024 = (h4 : Int) := by omega
    have e2 : bits .and .i64 (h : Int) 31 = (h2 : Int) := by rw [and_31 h hh2, hh2']
    have e3 : bits .and .i64 (h1 : Int) 31 = (h3 : Int) := by rw [and_31 h1 (by omega), hh3]
    have b2 : h2 ≤ 31 := by omega
    have b3 : h3 ≤ 31 := by omega
    have b4 : h4 ≤ 15 := by omega
    have HE : Hid (h % 32 = h2 ∧ h / 32 % 32 = h3 ∧ h / 1024 = h4) := hidden ⟨hh2'.symm, by rw [hh3, hh1], hh4.symm⟩
    clear hh1 hh2' hh3 hh4
    have HP : Hid (ownP M m t = ownC M m t h2 h3 h4) := hidden (by
      unfold ownP
      rw [if_pos g1, HH.out, HE.out.1, HE.out.2.1, HE.out.2.2])
    by_cases g2 : 286 < h2 + 257 ∨ 30 < h3 + 1
    · have HR : Hid (ownP M m t = .error 3) := hidden (by rw [HP.out]; unfold ownC; rw [if_pos g2])
      rcases g2 with g2 | g2
      · have g2' : (286 : Int) < (h2 : Int) + 257 := by omega
        go_enter Tryd.func24, Tryd.ntmps24
        go_wp2_with fail
        refine HG.out.mono ?_
        rintro e w1 ⟨rfl, R1⟩
        go_wp2
        go_ret2
        unfold OwnE
        rw [HR.out]
        exact ⟨R1.out.2.2, by omega, rfl⟩
      · by_cases g3 : 286 < h2 + 257
        · have g3' : (286 : Int) < (h2 : Int) + 257 := by omega
          go_enter Tryd.func24, Tryd.ntmps24
          go_wp2_with fail
          refine HG.out.mono ?_
          rintro e w1 ⟨rfl, R1⟩
          go_wp2
          go_ret2
          unfold OwnE
          rw [HR.out]
          exact ⟨R1.out.2.2, by omega, rfl⟩
        · have g3' : ¬ (286 : Int) < (h2 : Int) + 257 := by omega
          have g4' : (30 : Int) < (h3 : Int) + 1 := by omega
          go_enter Tryd.func24, Tryd.ntmps24
          go_wp2_with fail
          refine HG.out.mono ?_
          rintro e w1 ⟨rfl, R1⟩
          go_wp2
          go_ret2
          unfold OwnE
          rw [HR.out]
          exact ⟨R1.out.2.2, by omega, rfl⟩
    · have g2a : ¬ (286 : Int) < (h2 : Int) + 257 := by omega
      have g2b : ¬ (30 : Int) < (h3 : Int) + 1 := by omega
      have HLC : Hid (∀ w1, Str w1 p b s v M m (t + 14) O most → Tab w1 → Calls Tryd.prog 35 #[.pointer (some ⟨p, 0, none⟩), .int .i64 ((h4 : Int) + 4)] w1 (LcE w1 p b s v M m (t + 14) O most (h4 + 4))) := hidden (fun w1 S1 T1 => by
        have := lengthsCodes_any p b s v M m (t + 14) O most (h4 + 4) w1 T1 S1 hm (by omega) hb0
        rw [show ((h4 + 4 : Nat) : Int) = (h4 : Int) + 4 by omega] at this
        exact this)
      by_cases g3 : t + 14 + 3 * (h4 + 4) ≤ 8 * m
      · by_cases g4 : newErr (clL M (t + 14) (h4 + 4)) = 0
        · have HLC2 : Hid (∀ w1, Str w1 p b s v M m (t + 14) O most → Tab w1 → Step (fun j => j = b) w w1 → Calls Tryd.prog 35 #[.pointer (some ⟨p, 0, none⟩), .int .i64 ((h4 : Int) + 4)] w1 fun e w' => ∃ d, e = .returned (.tuple #[.pointer (some ⟨d, 0, none⟩), .int .i64 0]) ∧ Hid (∃ bs tot, Str w' p b s v M m (t + 14 + 3 * (h4 + 4)) O most ∧ Dec w' d (clL M (t + 14) (h4 + 4)) bs tot 0 0 ∧ w.heap.size ≤ d ∧ w.heap.size ≤ bs ∧ Step (fun j => j = b) w w')) := hidden (fun w1 S1 T1 St => (HLC.out w1 S1 T1).mono fun e w' ⟨S2, hr⟩ => by
            rw [if_pos g3, if_pos g4] at hr
            obtain ⟨d, bs, tot, he, a1, a2, a3, a4⟩ := hr
            have := St.size
            exact ⟨d, he, hidden ⟨bs, tot, a1, a2, by omega, by omega, St.trans S2 (fun i hi => .inl hi)⟩⟩)
          obtain ⟨lit, hlit⟩ : ∃ lit, lit = h2 + 257 := ⟨_, rfl⟩
          obtain ⟨many, hman⟩ : ∃ many, many = h2 + 257 + (h3 + 1) := ⟨_, rfl⟩
          have em : (h2 : Int) + 257 + ((h3 : Int) + 1) = (many : Int) := by omega
          have el : (h2 : Int) + 257 = (lit : Int) := by omega
          have em2 : (lit : Int) + ((h3 : Int) + 1) = (many : Int) := by omega
          have g2c : ¬ (286 : Int) < (lit : Int) := by omega
          have hlm : lit < many := by omega
          have hl257 : 257 ≤ lit := by omega
          have hm400 : many ≤ 400 := by omega
          obtain ⟨r, hr⟩ : ∃ r, r = lensV (clL M (t + 14) (h4 + 4)) M m many (t + 14 + 3 * (h4 + 4)) := ⟨_, rfl⟩
          have HOW : Hid (ownP M m t = ownB lit r) := hidden (by rw [HP.out]; unfold ownC; rw [if_neg g2, if_pos g3, if_pos g4, hr, hman, hlit])
          have HLE : Hid (∀ w2 d, (∃ bs tot, Str w2 p b s v M m (t + 14 + 3 * (h4 + 4)) O most ∧ Dec w2 d (clL M (t + 14) (h4 + 4)) bs tot 0 0 ∧ w.heap.size ≤ d ∧ w.heap.size ≤ bs ∧ Step (fun j => j = b) w w2) → Calls Tryd.prog 36 #[.pointer (some ⟨p, 0, none⟩), .pointer (some ⟨d, 0, none⟩), .int .i64 many] w2 fun e w' => Hid (Step (fun k => k = b) w w') ∧ LenQ p b s v M m O most many (t + 14 + 3 * (h4 + 4)) r e w') := hidden (fun w2 d ⟨bs, tot, a1, a2, a3, a4, a5⟩ => by
            have Bs : Bes p b s v d bs (clL M (t + 14) (h4 + 4)) := ⟨by have := hpw.out; omega, by have := hbw.out; omega, fun e => by have := hsw.out _ e; omega, fun e => by have := hvw.out _ e; omega, by have := hpw.out; omega, by have := hbw.out; omega, fun _ e => by have := hvw.out _ e; omega⟩
            refine (lengths_any p b s v M m _ O most d _ bs tot many w2 a1 a2 Bs hm g4 (by rw [clL_length]; omega) hm400).mono fun e w' ⟨hst, hx⟩ => ?_
            have St : Step (fun k => k = b) w w' := a5.trans hst (fun i hi => by rcases hi with h | h; exact .inl h; exact .inr (by omega))
            refine ⟨hidden St, ?_⟩
            rw [← hr] at hx
            cases r with
            | error x => exact hx
            | ok z =>
              obtain ⟨u, A⟩ := z
              obtain ⟨ao, c, he, k1, k2, k3, k4, k5, k6⟩ := hx
              rw [k4] at he k2
              have hcap : many ≤ c ∧ ∃ g, ao = some ⟨g, 0, none⟩ := by
                rcases k2.2 with ⟨e1, e2⟩ | ⟨g, cp, cur, e1, _, _, hc, _⟩
                · omega
                · injection e1 with e2 e3 e4
                  subst e4
                  exact ⟨hc, g, e2⟩
              obtain ⟨hcap, g, rfl⟩ := hcap
              have hri : Ri w' (.slice (some ⟨g, 0, none⟩) many c) A := Ri.of_own k2
              refine ⟨g, c, he, ?_, hcap, hidden ⟨k1, hri, k4, k5, k6⟩⟩
              obtain ⟨ao2, c2, e2, _, _, hcl⟩ := hri
              injection e2 with e2
              obtain ⟨b2, off, hb2, hc2⟩ := hcl ⟨g, 0, none⟩ e2.symm (by intro e; rw [e] at k4; simp at k4; omega)
              injection hb2 with hb3 hb4
              subst hb3
              have := hc2 256 (by omega)
              rw [← hb4, Nat.zero_add] at this
              exact this)
          have HRR := hidden hr
          clear hr hlit hman g2
          cases r with
          | error z =>
            have HR : Hid (ownP M m t = .error z) := hidden HOW.out
            go_enter Tryd.func24, Tryd.ntmps24
            go_wp2_with fail
            refine HG.out.mono ?_
            rintro e w1 ⟨rfl, R1⟩
            go_wp2_with fail
            refine (HLC2.out _ R1.out.1 R1.out.2.1 R1.out.2.2).mono ?_
            rintro e w2 ⟨d, rfl, R2⟩
            go_wp2_with fail
            refine (HLE.out _ d R2.out).mono ?_
            rintro e w3 ⟨R3, hz0, rfl⟩
            have hz : ((z : Int) != 0) = true := by rw [bne_iff_ne]; omega
            go_wp2
            go_ret2
            unfold OwnE
            rw [HR.out]
            exact ⟨R3.out, hz0, rfl⟩
          | ok z =>
            obtain ⟨u, A⟩ := z
            have HOA : Hid (ownP M m t = ownA lit u A) := hidden HOW.out
            by_cases ga : A.getD 256 0 = 0
            · have HR : Hid (ownP M m t = .error 3) := hidden (by rw [HOA.out]; unfold ownA; rw [if_pos ga])
              have hm256 : (256 : Int) < (many : Int) := by omega
              go_enter Tryd.func24, Tryd.ntmps24
              go_wp2_with fail
              refine HG.out.mono ?_
              rintro e w1 ⟨rfl, R1⟩
              go_wp2_with fail
              refine (HLC2.out _ R1.out.1 R1.out.2.1 R1.out.2.2).mono ?_
              rintro e w2 ⟨d, rfl, R2⟩
              go_wp2_with fail
              refine (HLE.out _ d R2.out).mono ?_
              rintro e w3 ⟨R3, g, c, rfl, cell, hcn, R4⟩
              rw [ga] at cell
              go_wp2
              go_ret2
              unfold OwnE
              rw [HR.out]
              exact ⟨R3.out, by omega, rfl⟩
            · have hm256 : (256 : Int) < (many : Int) := by omega
              obtain ⟨a0, ha0⟩ : ∃ a0, A.getD 256 0 = a0 := ⟨_, rfl⟩
              have hane : (a0 == 0) = false := by rw [beq_eq_false_iff_ne, ← ha0]; exact ga
              have HA0 := hidden ha0
              have HNC0 : Hid (∀ (w3 W : World) (g c : Nat), (Str w3 p b s v M m u O most ∧ Ri w3 (.slice (some ⟨g, 0, none⟩) many c) A ∧ A.length = many ∧ (∀ y ∈ A, 0 ≤ y) ∧ t + 14 + 3 * (h4 + 4) ≤ u) → Step (fun _ => False) w3 W → Step (fun k => k = b) w w3 → Calls Tryd.prog 34 #[.slice (some ⟨g, 0, none⟩) lit c, .slice (some ⟨g, lit, none⟩) (many - lit) (c - lit)] W fun e w' => NewC (A.take lit) (A.drop lit) W e w' ∧ Step (fun k => k = b) w w' ∧ Str w' p b s v M m u O most ∧ w.heap.size ≤ W.heap.size) := hidden (fun w3 W g c ⟨q1, q2, q3, q4, q5⟩ hW hS => by
                have hri := q2.made hW
                have hd := hri.drop lit hlm
                rw [Nat.zero_add] at hd
                refine (newCodes_any _ _ _ _ W (hri.take lit (by omega) (by omega)) hd (by rw [List.length_take]; omega) (by rw [List.length_drop]; omega) ⟨256, by rw [List.length_take]; omega, ?_⟩).mono fun e w' hn => ⟨hn, (hS.trans hW (fun _ h => h.elim)).trans hn.1 (fun _ h => h.elim), (q1.made hW).made hn.1, Nat.le_trans hS.size hW.size⟩
                have h256 : 256 < A.length := by omega
                have e1 : (A.take lit).getD 256 0 = A.getD 256 0 := by simp [List.getD, show 256 < lit by omega]
                rw [e1]
                have := q4 (A.getD 256 0) (by simp [List.getD, h256])
                omega)
              by_cases gl : newErr (A.take lit) = 0
              · by_cases gd : newErr (A.drop lit) = 0
                · have HR : Hid (ownP M m t = .ok (u, A.take lit, A.drop lit)) := hidden (by rw [HOA.out]; unfold ownA; rw [if_neg ga, if_neg (fun h => h gl), if_neg (fun h => h gd)])
                  have HNC : Hid (∀ (w3 W : World) (g c : Nat), (Str w3 p b s v M m u O most ∧ Ri w3 (.slice (some ⟨g, 0, none⟩) many c) A ∧ A.length = many ∧ (∀ y ∈ A, 0 ≤ y) ∧ t + 14 + 3 * (h4 + 4) ≤ u) → Step (fun _ => False) w3 W → Step (fun k => k = b) w w3 → Calls Tryd.prog 34 #[.slice (some ⟨g, 0, none⟩) lit c, .slice (some ⟨g, lit, none⟩) (many - lit) (c - lit)] W fun e w' => Hid (Step (fun k => k = b) w w' ∧ Str w' p b s v M m u O most) ∧ ∃ cc, e = .returned (.tuple #[.pointer (some ⟨cc, 0, none⟩), .int .i64 0]) ∧ Hid (∃ d1 d2 b1 b2 n1 n2, Cod w' cc d1 d2 b1 b2 n1 n2 (A.take lit) (A.drop lit) ∧ w.heap.size ≤ cc ∧ w.heap.size ≤ d1 ∧ w.heap.size ≤ d2 ∧ w.heap.size ≤ b1 ∧ w.heap.size ≤ b2)) := hidden (fun w3 W g c h1 h2 h3 => (HNC0.out w3 W g c h1 h2 h3).mono fun e w' ⟨⟨_, hn⟩, hs, hst, hz⟩ => by
                    refine ⟨hidden ⟨hs, hst⟩, ?_⟩
                    rcases hn with ⟨hn, _⟩ | ⟨_, hn, _⟩ | ⟨_, _, cc, d1, d2, b1, b2, n1, n2, he, hc, k0, k1, k2, k3, k4⟩
                    · exact absurd gl hn
                    · exact absurd gd hn
                    · exact ⟨cc, he, hidden ⟨d1, d2, b1, b2, n1, n2, hc, by omega, by omega, by omega, by omega, by omega⟩⟩)
                  clear HNC0 ga ha0
                  go_enter Tryd.func24, Tryd.ntmps24
                  go_wp2_with fail
                  refine HG.out.mono ?_
                  rintro e w1 ⟨rfl, R1⟩
                  go_wp2_with fail
                  refine (HLC2.out _ R1.out.1 R1.out.2.1 R1.out.2.2).mono ?_
                  rintro e w2 ⟨d, rfl, R2⟩
                  go_wp2_with fail
                  refine (HLE.out _ d R2.out).mono ?_
                  rintro e w3 ⟨R3, g, c, rfl, cell, hcn, R4⟩
                  rw [HA0.out] at cell
                  have cn2 : lit ≤ c := by omega
                  have cn3 : (lit : Int) ≤ (c : Int) := by omega
                  have cn4 : ¬ c = lit := by omega
                  have cn5 : ¬ c - lit = 0 := by omega
                  go_wp2
                  go_region_with (first
                    | (go_at_call 34; refine (HNC.out w3 _ g c R4.out (by first | exact Step.refl _ _ | exact (Step.refl _ _).drew | exact (Step.refl _ _).drewN _) R3.out).mono ?_; rintro e W5 ⟨R5, cc, rfl, R6⟩))
                  all_goals
                    go_wp2
                    go_ret2
                    unfold OwnE
                    rw [HR.out]
                    obtain ⟨d1, d2, b1, b2, n1, n2, q1, q2, q3, q4, q5, q6⟩ := R6.out
                    exact ⟨R5.out.1, gl, gd, cc, d1, d2, b1, b2, n1, n2, rfl, q1, R5.out.2, q2, q3, q4, q5, q6, by have := R4.out.2.2.2.2; omega⟩
                · have HR : Hid (ownP M m t = .error (newErr (A.drop lit)).toNat) := hidden (by rw [HOA.out]; unfold ownA; rw [if_neg ga, if_neg (fun h => h gl), if_pos gd])
                  have HPOS := hidden (newErr_pos _ gd)
                  have HNC : Hid (∀ (w3 W : World) (g c : Nat), (Str w3 p b s v M m u O most ∧ Ri w3 (.slice (some ⟨g, 0, none⟩) many c) A ∧ A.length = many ∧ (∀ y ∈ A, 0 ≤ y) ∧ t + 14 + 3 * (h4 + 4) ≤ u) → Step (fun _ => False) w3 W → Step (fun k => k = b) w w3 → Calls Tryd.prog 34 #[.slice (some ⟨g, 0, none⟩) lit c, .slice (some ⟨g, lit, none⟩) (many - lit) (c - lit)] W fun e w' => Hid (Step (fun k => k = b) w w') ∧ e = .returned (.tuple #[.pointer none, .int .i64 (newErr (A.drop lit))])) := hidden (fun w3 W g c h1 h2 h3 => (HNC0.out w3 W g c h1 h2 h3).mono fun e w' ⟨⟨_, hn⟩, hs, hst, hz⟩ => by
                    refine ⟨hidden hs, ?_⟩
                    rcases hn with ⟨hn, _⟩ | ⟨_, hn, he⟩ | ⟨_, hn, _⟩
                    · exact absurd gl hn
                    · exact he
                    · exact absurd hn gd)
                  generalize newErr (A.drop lit) = E at *
                  clear HNC0 ga ha0
                  go_enter Tryd.func24, Tryd.ntmps24
                  go_wp2_with fail
                  refine HG.out.mono ?_
                  rintro e w1 ⟨rfl, R1⟩
                  go_wp2_with fail
                  refine (HLC2.out _ R1.out.1 R1.out.2.1 R1.out.2.2).mono ?_
                  rintro e w2 ⟨d, rfl, R2⟩
                  go_wp2_with fail
                  refine (HLE.out _ d R2.out).mono ?_
                  rintro e w3 ⟨R3, g, c, rfl, cell, hcn, R4⟩
                  rw [HA0.out] at cell
                  have cn2 : lit ≤ c := by omega
                  have cn3 : (lit : Int) ≤ (c : Int) := by omega
                  have cn4 : ¬ c = lit := by omega
                  have cn5 : ¬ c - lit = 0 := by omega
                  go_wp2
                  go_region_with (first
                    | (go_at_call 34; refine (HNC.out w3 _ g c R4.out (by first | exact Step.refl _ _ | exact (Step.refl _ _).drew | exact (Step.refl _ _).drewN _) R3.out).mono ?_; rintro e W5 ⟨R5, rfl⟩))
                  all_goals
                    go_wp2
                    go_ret2
                    unfold OwnE
                    rw [HR.out]
                    refine ⟨R5.out, HPOS.out.2, ?_⟩
                    rw [← HPOS.out.1]
                    rfl
              · have HR : Hid (ownP M m t = .error (newErr (A.take lit)).toNat) := hidden (by rw [HOA.out]; unfold ownA; rw [if_neg ga, if_pos gl])
                have HPOS := hidden (newErr_pos _ gl)
                have HNC : Hid (∀ (w3 W : World) (g c : Nat), (Str w3 p b s v M m u O most ∧ Ri w3 (.slice (some ⟨g, 0, none⟩) many c) A ∧ A.length = many ∧ (∀ y ∈ A, 0 ≤ y) ∧ t + 14 + 3 * (h4 + 4) ≤ u) → Step (fun _ => False) w3 W → Step (fun k => k = b) w w3 → Calls Tryd.prog 34 #[.slice (some ⟨g, 0, none⟩) lit c, .slice (some ⟨g, lit, none⟩) (many - lit) (c - lit)] W fun e w' => Hid (Step (fun k => k = b) w w') ∧ e = .returned (.tuple #[.pointer none, .int .i64 (newErr (A.take lit))])) := hidden (fun w3 W g c h1 h2 h3 => (HNC0.out w3 W g c h1 h2 h3).mono fun e w' ⟨⟨_, hn⟩, hs, hst, hz⟩ => by
                  refine ⟨hidden hs, ?_⟩
                  rcases hn with ⟨hn, he⟩ | ⟨hn, _⟩ | ⟨hn, _⟩
                  · exact he
                  · exact absurd hn gl
                  · exact absurd hn gl)
                generalize newErr (A.take lit) = E at *
                clear HNC0 ga ha0
                go_enter Tryd.func24, Tryd.ntmps24
                go_wp2_with fail
                refine HG.out.mono ?_
                rintro e w1 ⟨rfl, R1⟩
                go_wp2_with fail
                refine (HLC2.out _ R1.out.1 R1.out.2.1 R1.out.2.2).mono ?_
                rintro e w2 ⟨d, rfl, R2⟩
                go_wp2_with fail
                refine (HLE.out _ d R2.out).mono ?_
                rintro e w3 ⟨R3, g, c, rfl, cell, hcn, R4⟩
                rw [HA0.out] at cell
                have cn2 : lit ≤ c := by omega
                have cn3 : (lit : Int) ≤ (c : Int) := by omega
                have cn4 : ¬ c = lit := by omega
                have cn5 : ¬ c - lit = 0 := by omega
                go_wp2
                go_region_with (first
                  | (go_at_call 34; refine (HNC.out w3 _ g c R4.out (by first | exact Step.refl _ _ | exact (Step.refl _ _).drew | exact (Step.refl _ _).drewN _) R3.out).mono ?_; rintro e W5 ⟨R5, rfl⟩))
                all_goals
                  go_wp2
                  go_ret2
                  unfold OwnE
                  rw [HR.out]
                  refine ⟨R5.out, HPOS.out.2, ?_⟩
                  rw [← HPOS.out.1]
                  rfl
        · have HR : Hid (ownP M m t = .error (newErr (clL M (t + 14) (h4 + 4))).toNat) := hidden (by rw [HP.out]; unfold ownC; rw [if_neg g2, if_pos g3, if_neg g4])
          have HPOS := hidden (newErr_pos _ g4)
          go_enter Tryd.func24, Tryd.ntmps24
          go_wp2_with fail
          refine HG.out.mono ?_
          rintro e w1 ⟨rfl, R1⟩
          go_wp2_with fail
          refine (HLC.out _ R1.out.1 R1.out.2.1).mono ?_
          rintro e w2 ⟨S2, hr⟩
          rw [if_pos g3, if_neg g4] at hr
          subst hr
          have HS2 := hidden S2
          generalize hE : newErr (clL M (t + 14) (h4 + 4)) = E at *
          have hne : (E != 0) = true := by rw [bne_iff_ne]; exact g4
          clear S2 hE
          go_wp2
          go_ret2
          unfold OwnE
          rw [HR.out]
          refine ⟨R1.out.2.2.trans HS2.out (fun i hi => .inl hi), HPOS.out.2, ?_⟩
          rw [← HPOS.out.1]
          rfl
      · have HR : Hid (ownP M m t = .error 2) := hidden (by rw [HP.out]; unfold ownC; rw [if_neg g2, if_neg g3])
        go_enter Tryd.func24, Tryd.ntmps24
        go_wp2_with fail
        refine HG.out.mono ?_
        rintro e w1 ⟨rfl, R1⟩
        go_wp2_with fail
        refine (HLC.out _ R1.out.1 R1.out.2.1).mono ?_
        rintro e w2 ⟨S2, hr⟩
        rw [if_neg g3] at hr
        subst hr
        have HS2 := hidden S2
        clear S2
        go_wp2
        go_ret2
        unfold OwnE
        rw [HR.out]
        exact ⟨R1.out.2.2.trans HS2.out (fun i hi => .inl hi), by omega, rfl⟩
  · have HR : Hid (ownP M m t = .error 2) := hidden (by unfold ownP; rw [if_neg g1])
    have HG : Hid (Calls Tryd.prog 20 #[.pointer (some ⟨b, 0, none⟩), .int .i64 (14 : Nat)] w fun e w' => e = .returned (.tuple #[.int .i64 0, .int .i64 2]) ∧ Hid (Step (fun j => j = b) w w')) :=
      hidden ((get_short b s M m t 14 w H0.out.rr (by omega) (by omega) (by omega)).mono fun e w' ⟨he, q, hq⟩ => by
        subst hq
        exact ⟨he, hidden ((Step.refl _ w).drewN q)⟩)
    go_enter Tryd.func24, Tryd.ntmps24
    go_wp2_with fail
    refine HG.out.mono ?_
    rintro e w1 ⟨rfl, R1⟩
    go_wp2
    go_ret2
    unfold OwnE
    rw [HR.out]
    exact ⟨R1.out, by omega, rfl⟩

end Go.Proofs.YtkaibpibnkmmbaaDoor
