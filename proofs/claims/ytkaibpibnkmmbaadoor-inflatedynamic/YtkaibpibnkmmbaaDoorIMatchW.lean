/-
  A match: bytes again.
-/
import Derived.Test.YtkaibpibnkmmbaaDoorIMatch
namespace Go.Proofs.YtkaibpibnkmmbaaDoor
open Go.RowKit
set_option maxRecDepth 100000
set_option linter.unusedVariables false

/-- One byte behind a row with room. -/
theorem own_push {w : World} {g cap : Nat} {O : List Nat} (h : w.ownsRow 0 5 1 (.slice (some ⟨g, 0, none⟩) O.length cap) O.length (u8s O)) (c : Nat) (hc : O.length + 1 ≤ cap) :
    (∃ u, w.cell? ⟨g, O.length, none⟩ = some u) ∧ w.frozen? ⟨g, O.length, none⟩ = false ∧
    (w.setCell ⟨g, O.length, none⟩ (.int .u8 (c : Int))).ownsRow 0 5 1 (.slice (some ⟨g, 0, none⟩) (O.length + 1) cap) (O.length + 1) (u8s (O ++ [c])) ∧
    w.grownBy (w.setCell ⟨g, O.length, none⟩ (.int .u8 (c : Int))) (some g) := by
  rcases h.2 with ⟨e1, _⟩ | ⟨g', cap', cur, e1, _, hg, h3, h4, h5, h6⟩
  · cases e1
  · injection e1 with e2 e3 e4
    injection e2 with e2
    injection e2 with e2
    subst e2
    subst e4
    rw [Nat.mul_one] at h5 h6
    have hlt : O.length < cur.size := by omega
    refine ⟨⟨cur[O.length], ?_⟩, h.frozenAt _, ⟨by rw [u8s_length]; simp, .inr ⟨g, cap, _, rfl, Nat.zero_le _, heap_setCell_same w g O.length cur 5 _ hg, hc, h4, by simp [h5], ?_⟩⟩, ⟨rfl, rfl, rfl, by simp [World.setCell], fun k _ hk => Below.heap_setCell w _ _ k (fun e => hk (by rw [e]))⟩⟩
    · simp [World.cell?, hg, hlt]
    · rw [Nat.mul_one, Array.toList_setIfInBounds, u8s_append, ← h6]
      have hl : O.length < cur.toList.length := by simpa using hlt
      apply List.ext_getElem?
      intro i
      by_cases hi : i < O.length
      · rw [List.getElem?_take_of_lt (by omega), List.getElem?_append_left (by simp; omega), List.getElem?_take_of_lt hi, List.getElem?_set_ne (by omega)]
      · by_cases hi2 : i = O.length
        · subst hi2
          rw [List.getElem?_take_of_lt (by omega), List.getElem?_set_self hl, List.getElem?_append_right (by simp; omega)]
          simp [u8s, Nat.min_eq_left (Nat.le_of_lt hlt)]
        · rw [List.getElem?_eq_none (by simp; omega), List.getElem?_eq_none (by simp [u8s]; omega)]

theorem disP_pos {D : List Int} {M m t d u : Nat} (h : disP D M m t = .ok (d, u)) : 1 ≤ d := by
  unfold disP at h
  cases hv : symV D M m t with
  | error x => rw [hv] at h; cases h
  | ok z =>
    obtain ⟨k, r⟩ := z
    rw [hv] at h
    simp only at h
    by_cases g1 : 30 ≤ k
    · rw [if_pos g1] at h; cases h
    · rw [if_neg g1] at h
      by_cases g2 : k < 4
      · rw [if_pos g2] at h
        injection h with h
        injection h with h1 h2
        omega
      · rw [if_neg g2] at h
        unfold numP at h
        by_cases g : r + (k / 2 - 1) ≤ 8 * m
        · rw [if_pos g] at h
          injection h with h
          injection h with h1 h2
          omega
        · rw [if_neg g] at h; cases h

/-- How match ends. -/
def MatchE (w : World) (p b : Nat) (s v : Value) (M m : Nat) (most : Int) (d : Nat) (L : List Int) (bs tot : Nat) (r : Except Nat (Nat × List Nat)) (e : Ending) (w' : World) : Prop :=
  Step (fun k => Sb p b v k ∨ k = d) w w' ∧ Keep p w w' ∧
  match r with
  | .error x => e = .returned (.int .i64 (x : Int))
  | .ok (t, O) => e = .returned (.int .i64 0) ∧ (∃ v', Str w' p b s v' M m t O most ∧ (v'.ownBlock = v.ownBlock ∨ ∃ k, v'.ownBlock = some k ∧ w.heap.size ≤ k)) ∧ Dec w' d L bs tot 0 0

set_option maxHeartbeats 8000000 in
/-- The bytes, one by one. -/
theorem match_loop (p b : Nat) (s v : Value) (M m t : Nat) (O : List Nat) (most : Int) (x n t1 d t2 dd : Nat) (D : List Int) (bs tot : Nat) (w : World) (h : Str w p b s v M m t O most) (hd : Dec w dd D bs tot 0 0) (hb : Bes p b s v dd bs D) (hm : m ≤ 1000000) (hL : newErr D = 0)
    (hx1 : 257 ≤ x) (hx2 : x ≤ 1000) (hO : O.length ≤ 10000000000) (h0 : 0 ≤ most) (h1 : most ≤ 9223372036854775807)
    (e1 : lenP M m x t = .ok (n, t1)) (e2 : disP D M m t1 = .ok (d, t2)) (e3 : d ≤ O.length) (e4 : (n : Int) ≤ most - (O.length : Int)) (hn : n ≤ 258) (hd1 : 1 ≤ d) :
    Calls Tryd.prog 31 #[.pointer (some ⟨p, 0, none⟩), .int .i64 x, .pointer (some ⟨dd, 0, none⟩)] w (MatchE w p b s v M m most dd D bs tot (.ok (t2, copyP O d n))) := by
  have HLEN : Hid (Calls Tryd.prog 38 #[.pointer (some ⟨p, 0, none⟩), .int .i64 x] w fun e w' => e = .returned (.tuple #[.int .i64 (n : Int), .int .i64 0]) ∧ Hid (Str w' p b s v M m t1 O most ∧ Dec w' dd D bs tot 0 0 ∧ Step (fun k => Sb p b v k ∨ k = dd) w w' ∧ Keep p w w')) :=
    hidden ((length_any p b s v M m t O most x w h hm hx1 hx2).mono fun e w' ⟨hst, hr⟩ => by
      rw [e1] at hr
      obtain ⟨he, hS⟩ := hr
      exact ⟨he, hS, hd.far hst hb.db (fun _ => hb.bb), hst.mono (fun i hi => .inl (.inr (.inl hi))), Keep.step hst (World.block_lt_of_cell? w _ h.ci) h.pb⟩)
  have HDIS : Hid (∀ w1, Str w1 p b s v M m t1 O most → Dec w1 dd D bs tot 0 0 → Calls Tryd.prog 39 #[.pointer (some ⟨p, 0, none⟩), .pointer (some ⟨dd, 0, none⟩)] w1 fun e w' => e = .returned (.tuple #[.int .i64 (d : Int), .int .i64 0]) ∧ Hid (Str w' p b s v M m t2 O most ∧ Dec w' dd D bs tot 0 0 ∧ Step (fun k => Sb p b v k ∨ k = dd) w1 w' ∧ Keep p w1 w')) :=
    hidden (fun w1 S1 D1 => (distance_any p b s v M m t1 O most dd D bs tot w1 S1 D1 hb hm hL).mono fun e w' ⟨⟨hst, hr⟩, _⟩ => by
      rw [e2] at hr
      obtain ⟨he, hS, hD⟩ := hr
      exact ⟨he, hS, hD, hst.mono (fun i hi => hi.elim (fun e => .inl (.inr (.inl e))) .inr), Keep.step hst (World.block_lt_of_cell? w1 _ S1.ci) (fun e => e.elim (fun e => S1.pb e) (fun e => hb.dp e.symm))⟩)
  have HR : Hid (∀ w1, Str w1 p b s v M m t2 O most → Dec w1 dd D bs tot 0 0 → Calls Tryd.prog 27 #[.pointer (some ⟨p, 0, none⟩), .int .i64 (n : Int)] w1 fun e w' => e = .returned (.int .i64 0) ∧ Hid (∃ v', Str w' p b s v' M m t2 O most ∧ O.length + n ≤ capOf v' ∧ Dec w' dd D bs tot 0 0 ∧ Bes p b s v' dd bs D ∧ Step (Sb p b v) w1 w' ∧ (v'.ownBlock = v.ownBlock ∨ ∃ k, v'.ownBlock = some k ∧ w1.heap.size ≤ k) ∧ Keep p w1 w')) :=
    hidden (fun w1 S1 D1 => (room_ok p v O most n w1 S1.ou (by omega) hO h0 h1 e4).mono fun e w' ⟨he, R⟩ => by
      obtain ⟨v', q1, q2, q3, q4, q5⟩ := S1.roomed R
      exact ⟨he, v', q1, q2, D1.beside hb q3, hb.grow D1 q4, q3, q4, q5⟩)
  obtain ⟨ao, cap, hs⟩ := own_slice h.ou.ow
  have HV := hidden hs
  have he3 : (d : Int) ≤ (O.length : Int) := by omega
  have HO : Hid (O.length + n ≤ 137438953600) := hidden (by omega)
  have HN : Hid (d ≤ O.length) := hidden e3
  clear h hd hb hL e1 e2 e3 e4 hs
  go_enter Tryd.func31, Tryd.ntmps31
  go_wp2_with fail
  refine HLEN.out.mono ?_
  rintro e w1 ⟨rfl, S1⟩
  go_wp2_with fail
  refine (HDIS.out _ S1.out.1 S1.out.2.1).mono ?_
  rintro e w2 ⟨rfl, S2⟩
  have c2 := S2.out.1.ou.co
  rw [HV.out] at c2
  generalize hOL : O.length = OL at *
  have HOL := hidden hOL
  clear hOL
  go_wp2_with fail
  refine (HR.out _ S2.out.1 S2.out.2.1).mono ?_
  rintro e w3 ⟨rfl, S3⟩
  obtain ⟨v', s1, s2, s3, s4, s5, s6, s7⟩ := S3.out
  have HS := hidden (And.intro s1 (And.intro s2 (And.intro s3 (And.intro s4 (And.intro s5 (And.intro s6 s7))))))
  clear s1 s2 s3 s4 s5 s6 s7 S3
  go_wp2
  go_loopw [43] (fun i wr => ∃ j : Nat, j ≤ n ∧ i = .int .i64 (j : Int) ∧ Hid (∃ v2, Str wr p b s v2 M m t2 (copyP O d j) most ∧ v2.ownBlock = v'.ownBlock ∧ capOf v2 = capOf v' ∧ Dec wr dd D bs tot 0 0 ∧ Step (Sb p b v') w3 wr ∧ Keep p w3 wr)) (fun i _ => n - (intOf i).toNat)
  case atStart => exact ⟨0, Nat.zero_le _, rfl, v', HS.out.1, rfl, rfl, HS.out.2.2.1, Step.refl _ _, Keep.refl _ _⟩
  case round =>
    obtain ⟨j, hj, rfl, HH⟩ := hrel
    by_cases hlt : j < n
    · obtain ⟨v2, r1, r2, r3, r4, r5, r6⟩ := HH.out
      have hlen := copyP_length O d j
      rw [HOL.out] at hlen
      obtain ⟨Q, hQ⟩ : ∃ Q, Q = copyP O d j := ⟨_, rfl⟩
      rw [← hQ] at r1 hlen
      have HQ := hidden hQ
      clear hQ
      have hcv : OL + n ≤ capOf v2 := by rw [r3]; exact HS.out.2.1
      obtain ⟨y, hy⟩ : ∃ y, y = Q.getD (Q.length - d) 0 := ⟨_, rfl⟩
      have hy256 : y < 256 := by
        have hl : Q.length - d < Q.length := by have := HN.out; omega
        have := r1.ou.by_ (Q[Q.length - d]) (List.getElem_mem hl)
        rw [hy]
        simpa [List.getD, hl] using this
      have hrd := Rd.of_own r1.ou.ow
      rcases r1.ou.ow.2 with ⟨q1, q2⟩ | ⟨g, cap2, cur, q1, _, hg, _⟩
      · rw [hlen] at q2; rw [q1] at hcv; have : OL + n ≤ 0 := hcv; omega
      · have hcell : wr.cell? ⟨g, Q.length - d, none⟩ = some (.int .u8 (y : Int)) := by
          obtain ⟨ao', c', e', _, h2⟩ := hrd
          rw [q1] at e'
          injection e' with e'
          obtain ⟨bb, off, ea, hc⟩ := h2 _ e'.symm (by intro e; rw [e] at hlen; simp at hlen; omega)
          injection ea with ea1 ea2
          subst ea1
          subst ea2
          have := hc (Q.length - d) (by have := HN.out; omega)
          rw [Nat.zero_add] at this
          rw [this, hy]
        have c3 := r1.ou.co
        have f3 := r1.ou.f1
        rw [q1] at c3
        have hpw : p < wr.heap.size := World.block_lt_of_cell? wr _ c3
        have hgw : g < wr.heap.size := (Array.getElem?_eq_some_iff.1 hg).1
        have hcap : Q.length + 1 ≤ cap2 := by rw [q1] at hcv; have : OL + n ≤ cap2 := hcv; omega
        have ho := r1.ou.ow
        rw [q1] at ho
        obtain ⟨⟨cu, hcu⟩, hfz, k1, k2⟩ := own_push ho y hcap
        have HK := hidden (r1.appended (B := [y]) (v1 := .slice (some ⟨g, 0, none⟩) (Q.length + 1) cap2) k1 (by rw [q1]; exact k2) (by rw [q1]; rfl) (by rw [q1]; rfl) (by intro z hz; simp at hz; subst hz; exact hy256))
        have HQ1 := hidden q1
        have hgp : ¬ g = p := by intro e; have := r1.ou.ne; rw [q1] at this; exact this (by rw [← e]; rfl)
        have hKb : Q.length ≤ 137438953600 := by have := HO.out; omega
        have HY := hidden hy
        clear k1 k2 hy ho
        have hlt' : (j : Int) < (n : Int) := by omega
        rw [hlen] at c3 hcell hKb hcap hcu hfz
        have HC := hidden hcv
        have hix : ((OL + j : Nat) : Int) - (d : Int) = ((OL + j - d : Nat) : Int) := by have := HN.out; omega
        have hix2 : ((OL + j - d : Nat) : Int) < ((OL + j : Nat) : Int) := by omega
        obtain ⟨K, hK⟩ : ∃ K, K = OL + j := ⟨_, rfl⟩
        rw [← hK] at c3 hix hix2 hcell hKb hcap hcu hfz
        obtain ⟨I, hI⟩ : ∃ I, I = K - d := ⟨_, rfl⟩
        rw [← hI] at hcell hix hix2
        have HKI := hidden (And.intro hK hI)
        have hIK : I < K := by omega
        have hIb : I ≤ 137438953600 := by omega
        have hwr : IntKind.i64.wrap ((K : Int) - (d : Int)) = (I : Int) := by rw [hix]; exact wrap_i64_nat I (by omega)
        have hI0 : (0 : Int) ≤ (I : Int) := by omega
        have hwr2 : IntKind.i64.wrap (I : Int) = (I : Int) := wrap_i64_nat I (by omega)
        clear hix
        clear hK hI hrd hg hcv q1 HH
        go_wp2
        go_region
        obtain ⟨W, hW⟩ : ∃ W, W = (((wr.setCell ⟨g, K, none⟩ (.int .u8 (y : Int))).setCell ⟨p, 1, none⟩ (.slice (some ⟨g, 0, none⟩) (K + 1) cap2)).alloc (.cells #[.int .u8 (y : Int)] 5)).drew := ⟨_, rfl⟩
        rw [← hW]
        have HW : Hid (∃ v2, Str W p b s v2 M m t2 (copyP O d (j + 1)) most ∧ v2.ownBlock = v'.ownBlock ∧ capOf v2 = capOf v' ∧ Dec W dd D bs tot 0 0 ∧ Step (Sb p b v') w3 W ∧ Keep p w3 W) := hidden (by
          have hk := HK.out
          rw [hlen, ← HKI.out.1] at hk
          obtain ⟨_, _, x1, x2, x3⟩ := hk
          have hfin : Step (fun _ => False) ((wr.setCell ⟨g, K, none⟩ (.int .u8 (y : Int))).setCell ⟨p, 1, none⟩ (.slice (some ⟨g, 0, none⟩) (K + 1) cap2)) W := by
            rw [hW]; exact ((Step.refl (fun _ => False) _).alloc _).drew
          have hcp : copyP O d (j + 1) = Q ++ [y] := by
            show copyP O d j ++ [(copyP O d j).getD ((copyP O d j).length - d) 0] = _
            rw [← HQ.out, ← HY.out]
          have r2' : Value.ownBlock (.slice (some ⟨g, 0, none⟩) (K + 1) cap2) = v'.ownBlock := by rw [← r2, HQ1.out]; rfl
          have r3' : capOf (.slice (some ⟨g, 0, none⟩) (K + 1) cap2) = capOf v' := by rw [← r3, HQ1.out]; rfl
          have hp2 : p < ((wr.setCell ⟨g, K, none⟩ (.int .u8 (y : Int))).setCell ⟨p, 1, none⟩ (.slice (some ⟨g, 0, none⟩) (K + 1) cap2)).heap.size := World.block_lt_of_cell? _ _ x1.ci
          have hb2 := HS.out.2.2.2.1.grow HS.out.2.2.1 (.inl r2)
          refine ⟨_, (by rw [hcp]; exact x1.made hfin), r2', r3', (r4.beside hb2 x2).made hfin, ?_, (r6.trans x3).trans (Keep.step hfin hp2 (fun h => h))⟩
          exact (Sb.trans r5 (.inl r2) x2).trans hfin (fun _ h => h.elim))
        clear hW r1 r2 r3 r4 r5 r6 c3 f3 hcell hcu hfz hcap HK HQ1
        go_wp2
        go_roundw
        case rel => exact ⟨j + 1, by omega, by go_num, HW.out⟩
        case measure => simp [intOf]; omega
    · have hjn : j = n := by omega
      subst hjn
      go_wp2
      go_ret
      obtain ⟨v2, r1, r2, r3, r4, r5, r6⟩ := HH.out
      obtain ⟨_, _, _, _, a5, a6, a7⟩ := HS.out
      have hz1 := S1.out.2.2.1.size
      have hz2 := S2.out.2.2.1.size
      have st : Step (fun k => Sb p b v k ∨ k = dd) w wr := (S1.out.2.2.1.trans S2.out.2.2.1 (fun i hi => .inl hi)).trans (Sb.trans a5 a6 r5) (fun i hi => .inl (.inl hi))
      refine ⟨st, ((S1.out.2.2.2.trans S2.out.2.2.2).trans a7).trans r6, rfl, ⟨v2, r1, ?_⟩, r4⟩
      rw [r2]
      rcases a6 with e | ⟨k, e, hk⟩
      · exact .inl e
      · exact .inr ⟨k, e, by omega⟩

set_option maxHeartbeats 8000000 in
theorem match_any (p b : Nat) (s v : Value) (M m t : Nat) (O : List Nat) (most : Int) (x dd : Nat) (D : List Int) (bs tot : Nat) (w : World) (h : Str w p b s v M m t O most) (hd : Dec w dd D bs tot 0 0) (hb : Bes p b s v dd bs D) (hm : m ≤ 1000000) (hL : newErr D = 0)
    (hx1 : 257 ≤ x) (hx2 : x ≤ 1000) (hO : O.length ≤ 10000000000) (h0 : 0 ≤ most) (h1 : most ≤ 9223372036854775807) :
    Calls Tryd.prog 31 #[.pointer (some ⟨p, 0, none⟩), .int .i64 x, .pointer (some ⟨dd, 0, none⟩)] w fun e w' => MatchE w p b s v M m most dd D bs tot (matchP D M m most x t O) e w' ∧ (∀ z, matchP D M m most x t O = .error z → 0 < z) := by
  have hlok := lenP_ok M m x t hx1 h.rr.le
  have HLEN : Hid (Calls Tryd.prog 38 #[.pointer (some ⟨p, 0, none⟩), .int .i64 x] w fun e w' => Hid (Step (fun k => Sb p b v k ∨ k = dd) w w' ∧ Keep p w w') ∧ match lenP M m x t with | .error z => e = .returned (.tuple #[.int .i64 0, .int .i64 (z : Int)]) | .ok (n, t1) => e = .returned (.tuple #[.int .i64 (n : Int), .int .i64 0]) ∧ Hid (Str w' p b s v M m t1 O most ∧ Dec w' dd D bs tot 0 0)) :=
    hidden ((length_any p b s v M m t O most x w h hm hx1 hx2).mono fun e w' ⟨hst, hr⟩ => by
      refine ⟨⟨hst.mono (fun i hi => .inl (.inr (.inl hi))), Keep.step hst (World.block_lt_of_cell? w _ h.ci) h.pb⟩, ?_⟩
      cases hq : lenP M m x t with
      | error z => rw [hq] at hr; exact hr
      | ok z => rw [hq] at hr; exact ⟨hr.1, hr.2, hd.far hst hb.db (fun _ => hb.bb)⟩)
  cases hq : lenP M m x t with
  | error z =>
    have HR : Hid (matchP D M m most x t O = .error z) := hidden (by unfold matchP; rw [hq])
    rw [hq] at HLEN hlok
    have hz0 : 0 < z := by rcases hlok with e | e <;> omega
    have hz : ((z : Int) != 0) = true := by rw [bne_iff_ne]; omega
    clear h hd hb hq hL hlok
    go_enter Tryd.func31, Tryd.ntmps31
    go_wp2_with fail
    refine HLEN.out.mono ?_
    rintro e w1 ⟨S1, rfl⟩
    go_wp2
    go_ret
    rw [HR.out]
    exact ⟨⟨S1.out.1, S1.out.2, rfl⟩, fun z' e => by injection e with e; omega⟩
  | ok z =>
    obtain ⟨n, t1⟩ := z
    rw [hq] at hlok HLEN
    obtain ⟨hn3, hn258, ht1, ht2⟩ := hlok
    have HDIS : Hid (∀ w1, Str w1 p b s v M m t1 O most → Dec w1 dd D bs tot 0 0 → Calls Tryd.prog 39 #[.pointer (some ⟨p, 0, none⟩), .pointer (some ⟨dd, 0, none⟩)] w1 fun e w' => Hid (Step (fun k => Sb p b v k ∨ k = dd) w1 w' ∧ Keep p w1 w' ∧ DisOk m t1 (disP D M m t1)) ∧ match disP D M m t1 with | .error z => e = .returned (.tuple #[.int .i64 0, .int .i64 (z : Int)]) | .ok (d, t2) => e = .returned (.tuple #[.int .i64 (d : Int), .int .i64 0]) ∧ Hid (Str w' p b s v M m t2 O most ∧ Dec w' dd D bs tot 0 0)) :=
      hidden (fun w1 S1 D1 => (distance_any p b s v M m t1 O most dd D bs tot w1 S1 D1 hb hm hL).mono fun e w' ⟨⟨hst, hr⟩, hok⟩ => by
        refine ⟨⟨hst.mono (fun i hi => hi.elim (fun e => .inl (.inr (.inl e))) .inr), Keep.step hst (World.block_lt_of_cell? w1 _ S1.ci) (fun e => e.elim (fun e => S1.pb e) (fun e => hb.dp e.symm)), hok⟩, ?_⟩
        cases hq : disP D M m t1 with
        | error z => rw [hq] at hr; exact hr
        | ok z => rw [hq] at hr; exact ⟨hr.1, hr.2.1, hr.2.2⟩)
    cases hq2 : disP D M m t1 with
    | error z =>
      have HR : Hid (matchP D M m most x t O = .error z) := hidden (by simp only [matchP, hq, hq2])
      rw [hq2] at HDIS
      clear h hd hb hq hL hq2
      go_enter Tryd.func31, Tryd.ntmps31
      go_wp2_with fail
      refine HLEN.out.mono ?_
      rintro e w1 ⟨S1, rfl, R1⟩
      go_wp2_with fail
      refine (HDIS.out _ R1.out.1 R1.out.2).mono ?_
      rintro e w2 ⟨S2, rfl⟩
      have hz0 : 0 < z := by rcases S2.out.2.2 with e | e <;> omega
      have hz : ((z : Int) != 0) = true := by rw [bne_iff_ne]; omega
      go_wp2
      go_ret
      rw [HR.out]
      exact ⟨⟨S1.out.1.trans S2.out.1 (fun i hi => .inl hi), S1.out.2.trans S2.out.2.1, rfl⟩, fun z' e => by injection e with e; omega⟩
    | ok z =>
      obtain ⟨d, t2⟩ := z
      have HRR : Hid (matchP D M m most x t O = if O.length < d then .error 22 else if (n : Int) ≤ most - (O.length : Int) then .ok (t2, copyP O d n) else .error 5) := hidden (by simp only [matchP, hq, hq2])
      by_cases g1 : O.length < d
      · rw [if_pos g1] at HRR
        rw [hq2] at HDIS
        obtain ⟨ao, cap, hs⟩ := own_slice h.ou.ow
        have HV := hidden hs
        clear h hd hb hq hL hq2 hs
        go_enter Tryd.func31, Tryd.ntmps31
        go_wp2_with fail
        refine HLEN.out.mono ?_
        rintro e w1 ⟨S1, rfl, R1⟩
        go_wp2_with fail
        refine (HDIS.out _ R1.out.1 R1.out.2).mono ?_
        rintro e w2 ⟨S2, rfl, R2⟩
        have c2 := R2.out.1.ou.co
        rw [HV.out] at c2
        have g1' : (O.length : Int) < (d : Int) := by omega
        go_wp2
        go_ret
        rw [HRR.out]
        exact ⟨⟨S1.out.1.trans S2.out.1 (fun i hi => .inl hi), S1.out.2.trans S2.out.2.1, rfl⟩, fun z' e => by injection e with e; omega⟩
      · rw [if_neg g1] at HRR
        by_cases g2 : (n : Int) ≤ most - (O.length : Int)
        · rw [if_pos g2] at HRR
          by_cases hd1 : 1 ≤ d
          · rw [HRR.out]
            exact (match_loop p b s v M m t O most x n t1 d t2 dd D bs tot w h hd hb hm hL hx1 hx2 hO h0 h1 hq hq2 (by omega) g2 hn258 hd1).mono fun e w' hh => ⟨hh, fun z' e => by cases e⟩
          · exact absurd (disP_pos hq2) hd1
        · rw [if_neg g2] at HRR
          have hR : Hid (∀ w1, Str w1 p b s v M m t2 O most → Calls Tryd.prog 27 #[.pointer (some ⟨p, 0, none⟩), .int .i64 (n : Int)] w1 fun e w' => e = .returned (.int .i64 5) ∧ Hid (Step (Sb p b v) w1 w' ∧ Keep p w1 w')) :=
            hidden (fun w1 S1 => (room_no p v O most n w1 S1.ou (by omega) hO h0 h1 (by omega)).mono fun e w' ⟨he, q, hq⟩ => by
              subst hq
              exact ⟨he, (Step.refl _ w1).drewN q, (Keep.refl p w1).drewN q⟩)
          rw [hq2] at HDIS
          obtain ⟨ao, cap, hs⟩ := own_slice h.ou.ow
          have HV := hidden hs
          clear h hd hb hq hL hq2 hs
          go_enter Tryd.func31, Tryd.ntmps31
          go_wp2_with fail
          refine HLEN.out.mono ?_
          rintro e w1 ⟨S1, rfl, R1⟩
          go_wp2_with fail
          refine (HDIS.out _ R1.out.1 R1.out.2).mono ?_
          rintro e w2 ⟨S2, rfl, R2⟩
          have c2 := R2.out.1.ou.co
          rw [HV.out] at c2
          have g1' : (d : Int) ≤ (O.length : Int) := by omega
          go_wp2_with fail
          refine (hR.out _ R2.out.1).mono ?_
          rintro e w3 ⟨rfl, S3⟩
          go_wp2
          go_ret
          rw [HRR.out]
          exact ⟨⟨(S1.out.1.trans S2.out.1 (fun i hi => .inl hi)).trans S3.out.1 (fun i hi => .inl (.inl hi)), (S1.out.2.trans S2.out.2.1).trans S3.out.2, rfl⟩, fun z' e => by injection e with e; omega⟩

end Go.Proofs.YtkaibpibnkmmbaaDoor
