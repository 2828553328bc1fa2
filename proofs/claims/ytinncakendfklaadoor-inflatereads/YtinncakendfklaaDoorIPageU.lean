/-
  The page's own stream: a symbol.
-/
import Derived.Test.YtinncakendfklaaDoorIPageT
import Derived.Test.YtinncakendfklaaDoorHRefNext
import Derived.Test.YtinncakendfklaaDoorISymsN
import Derived.Deep.LoopGhost
namespace Go.Proofs.YtinncakendfklaaDoor
open Go.RowKit
set_option maxRecDepth 100000
set_option linter.unusedVariables false

/-- A decoder of the page beside a stream that writes blocks of Z. -/
structure PB (Z : Nat → Prop) (r : Value) (d : Nat) (L : List Int) (vc vl : Value) : Prop where
  dz : ¬ Z d
  dr : ∀ a n c, r = .slice (some a) n c → a.block ≠ d
  cz : ∀ a n c, vc = .slice (some a) n c → codes L ≠ [] → ¬ Z a.block
  lz : ∀ a n c, vl = .slice (some a) n c → L ≠ [] → ¬ Z a.block

theorem RDec.farZ {S : Nat → Prop} {w w' : World} {d : Nat} {L : List Int} {vc vl : Value} {code n : Nat} (h : RDec w d L vc vl code n) (hs : Step S w w') (h1 : ¬ S d) (h2 : ∀ a n c, vc = .slice (some a) n c → codes L ≠ [] → ¬ S a.block) (h3 : ∀ a n c, vl = .slice (some a) n c → L ≠ [] → ¬ S a.block) : RDec w' d L vc vl code n := by
  have hd : d < w.heap.size := World.block_lt_of_cell? w _ h.c0
  exact ⟨hs.cell h.c0 h1, hs.cell h.c1 h1, hs.cell h.c2 h1, hs.cell h.c3 h1, h.rc.step hs h2, h.rl.step hs h3, (hs.frozen (p := ⟨d, 2, none⟩) hd h1).trans h.f2, (hs.frozen (p := ⟨d, 3, none⟩) hd h1).trans h.f3, h.nc, h.nl⟩

theorem PB.dec {Z : Nat → Prop} {r : Value} {d : Nat} {L : List Int} {vc vl : Value} (h : PB Z r d L vc vl) {w w' : World} {code n : Nat} (hd : RDec w d L vc vl code n) (hs : Step Z w w') : RDec w' d L vc vl code n := hd.farZ hs h.dz h.cz h.lz

theorem PS.far {S Z : Nat → Prop} {w w' : World} {p b : Nat} {r : Value} {M m t : Nat} {O : List Nat} {most : Int} {e : Nat} (h : PS w Z p b r M m t O most e) (hs : Step S w w') (h1 : ∀ k, S k → ¬ Z k) (h2 : ∀ a n c, r = .slice (some a) n c → bytesOf M m ≠ [] → ¬ S a.block) : PS w' Z p b r M m t O most e := by
  obtain ⟨v, x1, x2, x3, x4, x5⟩ := h
  exact ⟨v, x1.step hs (fun k => h1 p k x2) (fun k => h1 b k x3) (fun k hk s => h1 k s (x4 k hk)) h2, x2, x3, x4, x5⟩

/-- How the page's symbol ends. -/
def PSymE (w : World) (Z : Nat → Prop) (p b : Nat) (r : Value) (M m : Nat) (O : List Nat) (most : Int) (d : Nat) (L : List Int) (vc vl : Value) (x : Except Nat (Nat × Nat)) (e : Ending) (w' : World) : Prop :=
  Hid (Step (fun k => Z k ∨ k = d) w w') ∧
  match x with
  | .error y => e = .returned (.int .i64 (-1)) ∧ Hid (∃ t', PS w' Z p b r M m t' O most y)
  | .ok (i, u) => e = .returned (.int .i64 (i : Int)) ∧ Hid (PS w' Z p b r M m u O most 0 ∧ RDec w' d L vc vl 0 0)

set_option maxHeartbeats 4000000 in
theorem psymbol_any (Z : Nat → Prop) (p b : Nat) (r : Value) (M m t : Nat) (O : List Nat) (most : Int) (d : Nat) (L : List Int) (vc vl : Value) (w : World) (h : PS w Z p b r M m t O most 0) (hd : RDec w d L vc vl 0 0) (hb : PB Z r d L vc vl) (hm : m ≤ 1000000) (hL : newErr L = 0) :
    Calls Tryd.prog 53 #[.pointer (some ⟨p, 0, none⟩), .pointer (some ⟨d, 0, none⟩)] w fun e w' => PSymE w Z p b r M m O most d L vc vl (symV L M m t) e w' ∧ SymOk L.length m t (symV L M m t) := by
  obtain ⟨hL1, hL2⟩ := newErr_ok hL
  have HL1 := hidden hL1
  have HL2 := hidden hL2
  have HL0 := hidden hL
  have H0 := hidden (And.intro h hd)
  have hle : t ≤ 8 * m := by obtain ⟨v, hx, _⟩ := h; exact hx.rx.le
  have HB := hidden hb
  clear h hd hL hL1 hL2 hb
  go_enter Tryd.func53, Tryd.ntmps53
  go_wp2
  go_loopg [5, 6] (8 * m + 1 - t) (fun k _ _ wr => ∃ u code len : Nat, k = 8 * m + 1 - u ∧ t ≤ u ∧ u ≤ 8 * m ∧ Hid (Inv L code len ∧ (∀ r, Sym L M m code len u r → Sym L M m 0 0 t r) ∧ PS wr Z p b r M m u O most 0 ∧ RDec wr d L vc vl code len ∧ Step (fun k => Z k ∨ k = d) w wr))
  case atStart => exact ⟨t, 0, 0, rfl, Nat.le_refl _, hle, Inv.zero L, fun _ h => h, H0.out.1, H0.out.2, Step.refl _ _⟩
  case round =>
    obtain ⟨u, code, len, hk, hu1, hu2, HH⟩ := hrel
    have HK := hidden hk
    obtain ⟨_, _, c3, _, _⟩ := HH.out.2.2.1.cells
    clear hk
    by_cases hs : u + 1 ≤ 8 * m
    · obtain ⟨x, hx, hx2⟩ : ∃ x, x = M / 2 ^ u % 2 ^ 1 ∧ x < 2 := ⟨_, rfl, Nat.mod_lt _ (by omega)⟩
      have HX := hidden hx
      have hG : Hid (Calls Tryd.prog 32 #[.pointer (some ⟨p, 0, none⟩), .int .i64 (1 : Nat)] wr fun e w' => e = .returned (.int .i64 (x : Int)) ∧ (w'.cell? ⟨p, 3, none⟩ = some (.int .i64 0)) ∧ Hid (PS w' Z p b r M m (u + 1) O most 0 ∧ RDec w' d L vc vl code len ∧ Step (fun k => Z k ∨ k = d) w w')) :=
        hidden ((pg_ok Z p b r M m u O most 1 wr HH.out.2.2.1 hm (by omega) (by omega)).mono fun e w' ⟨he, T⟩ => by
          rw [← hx] at he
          exact ⟨he, T.out.1.cells.2.2.1, T.out.1, HB.out.dec HH.out.2.2.2.1 T.out.2, HH.out.2.2.2.2.trans T.out.2 (fun i hi => .inl (.inl hi))⟩)
      have hN : Hid (∀ w1, PS w1 Z p b r M m (u + 1) O most 0 → RDec w1 d L vc vl code len → Calls Tryd.prog 65 #[.pointer (some ⟨d, 0, none⟩), .int .i64 (x : Int)] w1 fun e w' => ∃ r' : Int, e = .returned (.int .i64 r') ∧ ((∃ i : Nat, r' = (i : Int)) ∨ r' = -1 ∨ r' = -2) ∧ (w'.cell? ⟨p, 3, none⟩ = some (.int .i64 0) ∧ w'.frozen? ⟨p, 3, none⟩ = false) ∧ Hid (∃ c l, NextR L (cmore M u code) (len + 1) r' c l ∧ PS w' Z p b r M m (u + 1) O most 0 ∧ RDec w' d L vc vl c l ∧ Step (fun k => Z k ∨ k = d) w1 w')) :=
        hidden (fun w1 S1 D1 => (refNext_any w1 d L vc vl code len x D1 HH.out.1.1 (HH.out.1.bit x).2.2 HL1.out HL2.out).mono fun e w' ⟨r', c, l, he, hr, hd, hst⟩ => by
          have hcm : 2 * code + bitOf (x : Int) = cmore M u code := by rw [bitOf_nat x hx2, HX.out]; rfl
          have hbit := HH.out.1.bit (x : Int)
          rw [hcm] at hr hbit
          have hnx : ∃ r2 c2 l2, NextR L (cmore M u code) (len + 1) r2 c2 l2 := by
            by_cases hlt : (cmore M u code : Int) < stf (cf L) (len + 1) + cf L (len + 1)
            · obtain ⟨i, hi, hiN, hir⟩ := rank_hit' L (len + 1) (by omega) ((cmore M u code : Int) - stf (cf L) (len + 1)) (by omega) (by omega)
              exact ⟨_, _, _, .inl ⟨i, hi, hiN, by rw [codeOf_eq L i (len + 1) hiN (by omega), hir]; omega, rfl, rfl, rfl⟩⟩
            · by_cases hp : plc (cf L) (len + 1 + 1) = plc (cf L) 16
              · exact ⟨_, _, _, .inr (.inl ⟨by omega, hp, rfl, rfl, rfl⟩)⟩
              · exact ⟨_, _, _, .inr (.inr ⟨by omega, hp, rfl, rfl, rfl⟩)⟩
          obtain ⟨r2, c2, l2, hn2⟩ := hnx
          obtain ⟨e1, e2, e3⟩ := agree HL2.out HL0.out (by omega) (by have := HH.out.1.1; omega) hbit.1 hn2 hr
          subst e1; subst e2; subst e3
          have hps := S1.far hst (fun k hk => by rw [hk]; exact HB.out.dz) (fun a n c e _ => HB.out.dr a n c e)
          refine ⟨r2, he, ?_, ⟨hps.cells.2.2.1, hps.cells.2.2.2.1⟩, c2, l2, hn2, hps, hd, hst.mono (fun i hi => .inr hi)⟩
          rcases hn2 with ⟨i, _, _, _, e, _⟩ | ⟨_, _, e, _⟩ | ⟨_, _, e, _⟩
          · exact .inl ⟨i, e⟩
          · exact .inr (.inr e)
          · exact .inr (.inl e))
      clear hx
      go_wp2_with (go_at_call 32; refine hG.out.mono ?_; rintro e w1 ⟨rfl, c31, S1⟩)
      refine (hN.out _ S1.out.1 S1.out.2.1).mono ?_
      rintro e w2 ⟨r', rfl, hr3, ⟨c32, f32⟩, S2⟩
      rcases hr3 with ⟨i, rfl⟩ | rfl | rfl
      · have hi1 : (0 : Int) ≤ (i : Int) := by omega
        have hi2 : ((i : Int) == -2) = false := by rw [beq_eq_false_iff_ne]; omega
        go_wp2
        go_ret
        obtain ⟨c, l, hr, s2, d2, st2⟩ := S2.out
        rcases hr with ⟨j, h1, h2, h3, h4, rfl, rfl⟩ | ⟨_, _, e, _⟩ | ⟨_, _, e, _⟩
        · have hij : i = j := by omega
          subst hij
          have hs0 := HH.out.2.1 _ (Sym.hit hs h1 h2 h3)
          have hsym := hs0.val
          refine ⟨⟨hidden (S1.out.2.2.trans st2 (fun i hi => .inl hi)), ?_⟩, by rw [hsym]; exact hs0.fine⟩
          rw [hsym]
          exact ⟨rfl, hidden ⟨s2, d2⟩⟩
        · omega
        · omega
      · go_wp2
        obtain ⟨c, l, hr, s2, d2, st2⟩ := S2.out
        rcases hr with ⟨j, h1, h2, h3, h4, _⟩ | ⟨_, _, e, _⟩ | ⟨h1, h2, _, rfl, rfl⟩
        · omega
        · omega
        · go_roundg (8 * m + 1 - (u + 1))
          case measure => have := HK.out; omega
          case rel =>
            have hbit := HH.out.1.bit (x : Int)
            rw [show 2 * code + bitOf (x : Int) = cmore M u code by rw [bitOf_nat x hx2, HX.out]; rfl] at hbit
            refine ⟨u + 1, _, _, rfl, by omega, by omega, ?_, fun r hr => HH.out.2.1 r (Sym.more hs h1 h2 hr), s2, d2, S1.out.2.2.trans st2 (fun i hi => .inl hi)⟩
            exact Inv.next HL2.out (by have := HH.out.1.1; omega) hbit.1 (r := -1) (.inr (.inr ⟨h1, h2, rfl, rfl, rfl⟩))
      · go_wp2
        go_ret
        obtain ⟨c, l, hr, s2, d2, st2⟩ := S2.out
        rcases hr with ⟨j, h1, h2, h3, h4, _⟩ | ⟨h1, h2, _⟩ | ⟨_, _, e, _⟩
        · omega
        · have hs0 := HH.out.2.1 _ (Sym.none hs h1 h2)
          have hsym := hs0.val
          have hz : Z p := by obtain ⟨_, _, hz, _⟩ := s2; exact hz
          refine ⟨⟨hidden ((S1.out.2.2.trans st2 (fun i hi => .inl hi)).setCell _ _ (.inl (.inl hz))), ?_⟩, by rw [hsym]; exact hs0.fine⟩
          rw [hsym]
          exact ⟨rfl, hidden ⟨_, (s2.err 3).1⟩⟩
        · omega
    · have hG : Hid (Calls Tryd.prog 32 #[.pointer (some ⟨p, 0, none⟩), .int .i64 (1 : Nat)] wr fun e w' => e = .returned (.int .i64 0) ∧ (w'.cell? ⟨p, 3, none⟩ = some (.int .i64 2)) ∧ Hid (PS w' Z p b r M m u O most 2 ∧ Step (fun k => Z k ∨ k = d) w w')) :=
        hidden ((pg_short Z p b r M m u O most 1 wr HH.out.2.2.1 hm (by omega) (by omega)).mono fun e w' ⟨he, T⟩ => ⟨he, T.out.1.cells.2.2.1, T.out.1, HH.out.2.2.2.2.trans T.out.2 (fun i hi => .inl (.inl hi))⟩)
      have b2 : ((2 : Int) != 0) = true := rfl
      go_wp2_with (go_at_call 32; refine hG.out.mono ?_; rintro e w1 ⟨rfl, c31, S1⟩)
      go_ret
      have hs0 := HH.out.2.1 _ (Sym.short (by omega))
      have hsym := hs0.val
      refine ⟨⟨hidden S1.out.2, ?_⟩, by rw [hsym]; exact hs0.fine⟩
      rw [hsym]
      exact ⟨rfl, hidden ⟨_, S1.out.1⟩⟩

/-- Behind an error there is none. -/
theorem psymbol_err (Z : Nat → Prop) (p b : Nat) (r : Value) (M m t : Nat) (O : List Nat) (most : Int) (e : Nat) (dv : Value) (w : World) (h : PS w Z p b r M m t O most e) (he : 0 < e) :
    Calls Tryd.prog 53 #[.pointer (some ⟨p, 0, none⟩), dv] w fun x w' => x = .returned (.int .i64 (-1)) ∧ w' = w := by
  obtain ⟨_, _, c3, _, _⟩ := h.cells
  have hb : ((e : Int) == 0) = false := by rw [beq_eq_false_iff_ne]; omega
  clear h
  go_enter Tryd.func53, Tryd.ntmps53
  go_wp2
  go_loopw [5, 6] (fun _ _ wr => wr = w) (fun _ _ _ => 0)
  case atStart => rfl
  case round =>
    obtain rfl := hrel
    go_wp2
    go_ret
    exact ⟨rfl, rfl⟩

end Go.Proofs.YtinncakendfklaaDoor
