/-
  Symbols up to the end of a block.
-/
import Derived.Test.YtkaibpibnkmmbaaDoorISymsN
namespace Go.Proofs.YtkaibpibnkmmbaaDoor
open Go.RowKit
set_option maxRecDepth 100000
set_option linter.unusedVariables false

/-- The codes of a block, in block c. -/
structure Cod (w : World) (c d1 d2 b1 b2 n1 n2 : Nat) (L D : List Int) : Prop where
  c1 : w.cell? ⟨c, 0, none⟩ = some (.pointer (some ⟨d1, 0, none⟩))
  c2 : w.cell? ⟨c, 1, none⟩ = some (.pointer (some ⟨d2, 0, none⟩))
  e1 : Dec w d1 L b1 n1 0 0
  e2 : Dec w d2 D b2 n2 0 0
  dd : d1 ≠ d2
  x12 : d1 ≠ b2
  x21 : d2 ≠ b1
  y1 : c ≠ d1
  y2 : c ≠ d2

/-- Beside a stream. -/
structure BesC (p b : Nat) (s v : Value) (c d1 d2 b1 b2 : Nat) (L D : List Int) : Prop where
  l : Bes p b s v d1 b1 L
  d : Bes p b s v d2 b2 D
  cp : c ≠ p
  cb : c ≠ b
  cv : v.ownBlock ≠ some c

theorem BesC.grow {w : World} {p b : Nat} {s v v' : Value} {c d1 d2 b1 b2 n1 n2 : Nat} {L D : List Int} (h : BesC p b s v c d1 d2 b1 b2 L D) (k : Cod w c d1 d2 b1 b2 n1 n2 L D) (hv : v'.ownBlock = v.ownBlock ∨ ∃ k, v'.ownBlock = some k ∧ w.heap.size ≤ k) : BesC p b s v' c d1 d2 b1 b2 L D := by
  refine ⟨h.l.grow k.e1 hv, h.d.grow k.e2 hv, h.cp, h.cb, ?_⟩
  rcases hv with e | ⟨j, e, hj⟩
  · rw [e]; exact h.cv
  · rw [e]; intro e2
    have := Option.some.inj e2
    have hlt : c < w.heap.size := World.block_lt_of_cell? w _ k.c1
    omega

theorem Cod.beside {w w' : World} {p b : Nat} {s v : Value} {c d1 d2 b1 b2 n1 n2 : Nat} {L D : List Int} (k : Cod w c d1 d2 b1 b2 n1 n2 L D) (h : BesC p b s v c d1 d2 b1 b2 L D) (hs : Step (Sb p b v) w w') : Cod w' c d1 d2 b1 b2 n1 n2 L D := by
  have hc : ¬ Sb p b v c := by
    rintro (e | e | e)
    · exact h.cp e
    · exact h.cb e
    · exact h.cv e
  exact ⟨hs.cell k.c1 hc, hs.cell k.c2 hc, k.e1.beside h.l hs, k.e2.beside h.d hs, k.dd, k.x12, k.x21, k.y1, k.y2⟩

/-- The blocks that are written. -/
def Sc (p b : Nat) (v : Value) (d1 d2 k : Nat) : Prop := Sb p b v k ∨ k = d1 ∨ k = d2

/-- How symbols ends. -/
def SymsE (w : World) (p b : Nat) (s v : Value) (M m : Nat) (most : Int) (c d1 d2 b1 b2 n1 n2 : Nat) (L D : List Int) (r : Except Nat (Nat × List Nat)) (e : Ending) (w' : World) : Prop :=
  Step (Sc p b v d1 d2) w w' ∧ Keep p w w' ∧
  match r with
  | .error x => 0 < x ∧ e = .returned (.int .i64 (x : Int))
  | .ok (t, O) => e = .returned (.int .i64 0) ∧ (∃ v', Str w' p b s v' M m t O most ∧ (v'.ownBlock = v.ownBlock ∨ ∃ k, v'.ownBlock = some k ∧ w.heap.size ≤ k)) ∧ Cod w' c d1 d2 b1 b2 n1 n2 L D ∧ O.length ≤ 258 * t

theorem Sc.trans {w w1 w2 : World} {p b d1 d2 : Nat} {v v1 : Value} (S1 : Step (Sc p b v d1 d2) w w1) (hv : v1.ownBlock = v.ownBlock ∨ ∃ k, v1.ownBlock = some k ∧ w.heap.size ≤ k) (S2 : Step (Sc p b v1 d1 d2) w1 w2) : Step (Sc p b v d1 d2) w w2 := by
  refine S1.trans S2 (fun i hi => ?_)
  rcases hi with (e | e | e) | e
  · exact .inl (.inl (.inl e))
  · exact .inl (.inl (.inr (.inl e)))
  · rcases hv with h | ⟨k, h, hk⟩
    · exact .inl (.inl (.inr (.inr (by rw [← h]; exact e))))
    · rw [h] at e; have := Option.some.inj e; exact .inr (by omega)
  · exact .inl (.inr e)

set_option maxHeartbeats 8000000 in
theorem symbols_any (p b : Nat) (s v : Value) (M m t : Nat) (O : List Nat) (most : Int) (c d1 d2 b1 b2 n1 n2 : Nat) (L D : List Int) (w : World) (h : Str w p b s v M m t O most) (hc : Cod w c d1 d2 b1 b2 n1 n2 L D) (hb : BesC p b s v c d1 d2 b1 b2 L D)
    (hm : m ≤ 1000000) (hL : newErr L = 0) (hD : newErr D = 0) (hO : O.length ≤ 258 * t) (h0 : 0 ≤ most) (h1 : most ≤ 9223372036854775807) :
    Calls Tryd.prog 22 #[.pointer (some ⟨p, 0, none⟩), .pointer (some ⟨c, 0, none⟩)] w fun e w' => SymsE w p b s v M m most c d1 d2 b1 b2 n1 n2 L D (symsV L D M m most t O) e w' := by
  have HL := hidden hL
  have HD := hidden hD
  have H0 := hidden (And.intro h (And.intro hc (And.intro hb hO)))
  have hle := h.rr.le
  have hLl := (newErr_ok hL).1
  clear h hc hb hO hL hD
  go_enter Tryd.func22, Tryd.ntmps22
  go_wp2
  go_loopg [] (8 * m + 1 - t) (fun k wr => ∃ u Q v1, k = 8 * m + 1 - u ∧ t ≤ u ∧ u ≤ 8 * m ∧ Hid ((∀ r, Syms L D M m most u Q r → Syms L D M m most t O r) ∧ Str wr p b s v1 M m u Q most ∧ Cod wr c d1 d2 b1 b2 n1 n2 L D ∧ BesC p b s v1 c d1 d2 b1 b2 L D ∧ Q.length ≤ 258 * u ∧ (v1.ownBlock = v.ownBlock ∨ ∃ k, v1.ownBlock = some k ∧ w.heap.size ≤ k) ∧ Step (Sc p b v d1 d2) w wr ∧ Keep p w wr))
  case atStart => exact ⟨t, O, v, rfl, Nat.le_refl _, hle, fun _ h => h, H0.out.1, H0.out.2.1, H0.out.2.2.1, H0.out.2.2.2, .inl rfl, Step.refl _ _, Keep.refl _ _⟩
  case round =>
    obtain ⟨u, Q, v1, hk, hu1, hu2, HH⟩ := hrel
    have HK := hidden hk
    clear hk
    have c0 := HH.out.2.2.1.c1
    have hQ : Q.length ≤ 10000000000 := by have := HH.out.2.2.2.2.1; omega
    have hS : Hid (Calls Tryd.prog 29 #[.pointer (some ⟨p, 0, none⟩), .pointer (some ⟨d1, 0, none⟩)] wr fun e w' => Hid (Step (Sc p b v1 d1 d2) wr w' ∧ Keep p wr w' ∧ SymOk L.length m u (symV L M m u)) ∧ match symV L M m u with | .error z => e = .returned (.tuple #[.int .i64 0, .int .i64 (z : Int)]) | .ok (i, u2) => e = .returned (.tuple #[.int .i64 (i : Int), .int .i64 0]) ∧ w'.cell? ⟨c, 1, none⟩ = some (.pointer (some ⟨d2, 0, none⟩)) ∧ Hid (Str w' p b s v1 M m u2 Q most ∧ Cod w' c d1 d2 b1 b2 n1 n2 L D)) := by
      obtain ⟨a1, a2, a3, a4, a5, a6, a7, a8⟩ := HH.out
      refine hidden ((symbol_any p b s v1 M m u Q most d1 L b1 n1 wr a2 a3.e1 a4.l hm HL.out).mono fun e w' ⟨⟨hst, hr⟩, hok⟩ => ?_)
      refine ⟨⟨hst.mono (fun i hi => hi.elim (fun e => .inl (.inr (.inl e))) (fun e => .inr (.inl e))), Keep.step hst (World.block_lt_of_cell? wr _ a2.ci) (fun e => e.elim (fun e => a2.pb e) (fun e => a4.l.dp e.symm)), hok⟩, ?_⟩
      cases hq : symV L M m u with
      | error z => rw [hq] at hr; exact hr
      | ok z =>
        rw [hq] at hr
        obtain ⟨h1, h2, h3⟩ := hr
        have hcc : ∀ i v', wr.cell? ⟨c, i, none⟩ = some v' → w'.cell? ⟨c, i, none⟩ = some v' := fun i v' hv => hst.cell hv (fun e => e.elim (fun e => a4.cb e) (fun e => a3.y1 e))
        refine ⟨h1, hcc 1 _ a3.c2, h2, hcc 0 _ a3.c1, hcc 1 _ a3.c2, h3, a3.e2.far hst (fun e => e.elim (fun e => a4.d.db e) (fun e => a3.dd e.symm)) (fun _ e => e.elim (fun e => a4.d.bb e) (fun e => a3.x12 e.symm)), a3.dd, a3.x12, a3.x21, a3.y1, a3.y2⟩
    cases hq : symV L M m u with
    | error z =>
      rw [hq] at hS
      have HQ := hidden hq
      clear hq
      go_wp2_with fail
      refine hS.out.mono ?_
      rintro e w1 ⟨S1, rfl⟩
      have hz0 : 0 < z := by have := S1.out.2.2; rcases this with e | e <;> omega
      have hz : ((z : Int) != 0) = true := by rw [bne_iff_ne]; omega
      go_wp2
      go_ret
      have hs := (HH.out.1 _ (Syms.bad HQ.out)).val
      obtain ⟨a1, a2, a3, a4, a5, a6, a7, a8⟩ := HH.out
      rw [hs]
      exact ⟨Sc.trans a7 a6 S1.out.1, a8.trans S1.out.2.1, hz0, rfl⟩
    | ok z =>
      obtain ⟨i, u2⟩ := z
      rw [hq] at hS
      have hok := (symV_spec HL.out M m u).fine
      rw [hq] at hok
      obtain ⟨hi, hu3, hu4⟩ := hok
      have HQ := hidden hq
      clear hq
      by_cases g1 : i = 256
      · subst g1
        go_wp2_with fail
        refine hS.out.mono ?_
        rintro e w1 ⟨S1, rfl, cc, R1⟩
        go_wp2
        go_ret
        have hs := (HH.out.1 _ (Syms.stop HQ.out)).val
        obtain ⟨a1, a2, a3, a4, a5, a6, a7, a8⟩ := HH.out
        rw [hs]
        refine ⟨Sc.trans a7 a6 S1.out.1, a8.trans S1.out.2.1, rfl, ⟨v1, R1.out.1, a6⟩, R1.out.2, by omega⟩
      · have hne : ((i : Int) == 256) = false := by rw [beq_eq_false_iff_ne]; omega
        by_cases g2 : i < 256
        · have hwr : IntKind.u8.wrap (i : Int) = (i : Int) := by simp [IntKind.wrap, IntKind.bits, IntKind.signed]; omega
          have hLT : Hid (∀ w1, Str w1 p b s v1 M m u2 Q most → Calls Tryd.prog 30 #[.pointer (some ⟨p, 0, none⟩), .int .u8 i] w1 (Ends w1 p b s v1 M m most (if 1 ≤ most - (Q.length : Int) then .ok (u2, Q ++ [i]) else .error 5))) :=
            hidden (fun w1 S1 => literal_any p b s v1 M m u2 Q most i w1 S1 g2 hQ h0 h1)
          by_cases g3 : 1 ≤ most - (Q.length : Int)
          · rw [if_pos g3] at hLT
            go_wp2_with fail
            refine hS.out.mono ?_
            rintro e w1 ⟨S1, rfl, cc, R1⟩
            go_wp2_with fail
            refine (hLT.out _ R1.out.1).mono ?_
            rintro e w2 ⟨rfl, hA⟩
            have HA := hidden hA
            clear hA
            go_wp2
            go_roundg (8 * m + 1 - u2)
            case measure => have := HK.out; omega
            case rel =>
              obtain ⟨a1, a2, a3, a4, a5, a6, a7, a8⟩ := HH.out
              obtain ⟨v2, x1, x2, x3, x4⟩ := HA.out
              have hz1 := a7.size
              have hz2 := S1.out.1.size
              refine ⟨u2, Q ++ [i], v2, rfl, by omega, hu4, fun r hr => a1 r (Syms.lit HQ.out g2 g3 hr), x1, R1.out.2.beside a4 x2, a4.grow R1.out.2 x3, by simp; omega, ?_, Sc.trans (Sc.trans a7 a6 S1.out.1) a6 (x2.mono (fun i hi => .inl hi)), (a8.trans S1.out.2.1).trans x4⟩
              rcases x3 with e | ⟨k, e, hk⟩
              · rw [e]; exact a6
              · exact .inr ⟨k, e, by omega⟩
          · rw [if_neg g3] at hLT
            go_wp2_with fail
            refine hS.out.mono ?_
            rintro e w1 ⟨S1, rfl, cc, R1⟩
            go_wp2_with fail
            refine (hLT.out _ R1.out.1).mono ?_
            rintro e w2 ⟨rfl, hA⟩
            have HA := hidden hA
            clear hA
            go_wp2
            go_ret
            have hs := (HH.out.1 _ (Syms.full HQ.out g2 (by omega))).val
            obtain ⟨a1, a2, a3, a4, a5, a6, a7, a8⟩ := HH.out
            rw [hs]
            exact ⟨Sc.trans (Sc.trans a7 a6 S1.out.1) a6 (HA.out.1.mono (fun i hi => .inl hi)), (a8.trans S1.out.2.1).trans HA.out.2, by omega, rfl⟩
        · have g2' : (256 : Int) ≤ (i : Int) := by omega
          have hMT : Hid (∀ w1, Str w1 p b s v1 M m u2 Q most → Cod w1 c d1 d2 b1 b2 n1 n2 L D → Calls Tryd.prog 31 #[.pointer (some ⟨p, 0, none⟩), .int .i64 i, .pointer (some ⟨d2, 0, none⟩)] w1 fun e w' => MatchE w1 p b s v1 M m most d2 D b2 n2 (matchP D M m most i u2 Q) e w' ∧ (∀ z, matchP D M m most i u2 Q = .error z → 0 < z)) :=
            hidden (fun w1 S1 C1 => match_any p b s v1 M m u2 Q most i d2 D b2 n2 w1 S1 C1.e2 HH.out.2.2.2.1.d hm HD.out (by omega) (by omega) hQ h0 h1)
          cases hq2 : matchP D M m most i u2 Q with
          | error z =>
            rw [hq2] at hMT
            have HQ2 := hidden hq2
            clear hq2
            go_wp2_with fail
            refine hS.out.mono ?_
            rintro e w1 ⟨S1, rfl, cc, R1⟩
            go_wp2_with fail
            refine (hMT.out _ R1.out.1 R1.out.2).mono ?_
            rintro e w2 ⟨⟨hA, hA2, rfl⟩, hz0⟩
            have hz1 := hz0 z rfl
            have hz : ((z : Int) != 0) = true := by rw [bne_iff_ne]; omega
            have HA := hidden (And.intro hA hA2)
            clear hA hA2 hz0
            go_wp2
            go_ret
            have hs := (HH.out.1 _ (Syms.none HQ.out (by omega) HQ2.out)).val
            obtain ⟨a1, a2, a3, a4, a5, a6, a7, a8⟩ := HH.out
            rw [hs]
            exact ⟨Sc.trans (Sc.trans a7 a6 S1.out.1) a6 (HA.out.1.mono (fun i hi => hi.elim .inl (fun e => .inr (.inr e)))), (a8.trans S1.out.2.1).trans HA.out.2, hz1, rfl⟩
          | ok z =>
            obtain ⟨u3, Q2⟩ := z
            have hmo := matchP_ok HD.out (show 257 ≤ i by omega) hu4 hq2
            rw [hq2] at hMT
            have HQ2 := hidden hq2
            clear hq2
            go_wp2_with fail
            refine hS.out.mono ?_
            rintro e w1 ⟨S1, rfl, cc, R1⟩
            go_wp2_with fail
            refine (hMT.out _ R1.out.1 R1.out.2).mono ?_
            rintro e w2 ⟨⟨hA, hA2, rfl, hA3, hA4⟩, _⟩
            have HA := hidden (And.intro hA (And.intro hA2 (And.intro hA3 hA4)))
            clear hA hA2 hA3 hA4
            go_wp2
            go_roundg (8 * m + 1 - u3)
            case measure => have := HK.out; omega
            case rel =>
              obtain ⟨a1, a2, a3, a4, a5, a6, a7, a8⟩ := HH.out
              obtain ⟨x2, x4, ⟨v2, x1, x3⟩, x5⟩ := HA.out
              have hz1 := a7.size
              have hz2 := S1.out.1.size
              have hnc : ¬ (Sb p b v1 c ∨ c = d2) := by
                rintro ((e | e | e) | e)
                · exact a4.cp e
                · exact a4.cb e
                · exact a4.cv e
                · exact a3.y2 e
              have hl : Dec w2 d1 L b1 n1 0 0 := R1.out.2.e1.far x2 (by
                rintro ((e | e | e) | e)
                · exact a4.l.dp e
                · exact a4.l.db e
                · exact a4.l.dv e
                · exact a3.dd e) (by
                intro hx
                rintro ((e | e | e) | e)
                · exact a4.l.bp e
                · exact a4.l.bb e
                · exact a4.l.bv hx e
                · exact a3.x21 e.symm)
              refine ⟨u3, Q2, v2, rfl, by omega, hmo.2.1, fun r hr => a1 r (Syms.mat HQ.out (by omega) HQ2.out hr), x1, ⟨x2.cell R1.out.2.c1 hnc, x2.cell R1.out.2.c2 hnc, hl, x5, a3.dd, a3.x12, a3.x21, a3.y1, a3.y2⟩, a4.grow R1.out.2 x3, by omega, ?_, Sc.trans (Sc.trans a7 a6 S1.out.1) a6 (x2.mono (fun i hi => hi.elim .inl (fun e => .inr (.inr e)))), (a8.trans S1.out.2.1).trans x4⟩
              rcases x3 with e | ⟨k, e, hk⟩
              · rw [e]; exact a6
              · exact .inr ⟨k, e, by omega⟩

end Go.Proofs.YtkaibpibnkmmbaaDoor
