/-
  A symbol, bit by bit; numbers behind it; how long a match is, and how far back.
-/
import Derived.Test.YtkaibpibnkmmbaaDoorIStr
import Derived.Test.YtkaibpibnkmmbaaDoorISymN
import Derived.Deep.LoopGhost
namespace Go.Proofs.YtkaibpibnkmmbaaDoor
open Go.RowKit
set_option maxRecDepth 100000
set_option linter.unusedVariables false

/-- A decoder beside a stream. -/
structure Bes (p b : Nat) (s v : Value) (d bs : Nat) (L : List Int) : Prop where
  dp : d ≠ p
  db : d ≠ b
  ds : s.ownBlock ≠ some d
  dv : v.ownBlock ≠ some d
  bp : bs ≠ p
  bb : bs ≠ b
  bv : (∃ i, i < L.length ∧ 0 < L.getD i 0) → v.ownBlock ≠ some bs

theorem Dec.far {S : Nat → Prop} {w w' : World} {d : Nat} {L : List Int} {bs tot code len : Nat} (h : Dec w d L bs tot code len) (hs : Step S w w') (h1 : ¬ S d) (h2 : (∃ i, i < L.length ∧ 0 < L.getD i 0) → ¬ S bs) : Dec w' d L bs tot code len :=
  ⟨fun k hk => hs.cell (h.cn k hk) h1, hs.cell h.cs h1, fun i a1 a2 => hs.cell (h.sy i a1 a2) (h2 ⟨i, a1, a2⟩), hs.cell h.c1 h1, hs.cell h.c2 h1, hs.cell h.c3 h1, hs.cell h.c4 h1,
    fun k a1 a2 => (hs.frozen (p := ⟨d, k, none⟩) (World.block_lt_of_cell? w ⟨d, 17, none⟩ h.c1) h1).trans (h.fz k a1 a2), h.to, h.ne⟩

theorem Bes.grow {w : World} {p b : Nat} {s v v' : Value} {d bs : Nat} {L : List Int} {tot code len : Nat} (h : Bes p b s v d bs L) (hd : Dec w d L bs tot code len) (hv : v'.ownBlock = v.ownBlock ∨ ∃ k, v'.ownBlock = some k ∧ w.heap.size ≤ k) : Bes p b s v' d bs L := by
  refine ⟨h.dp, h.db, h.ds, ?_, h.bp, h.bb, ?_⟩
  · rcases hv with e | ⟨k, e, hk⟩
    · rw [e]; exact h.dv
    · rw [e]; intro e2
      have := Option.some.inj e2
      have hlt : d < w.heap.size := World.block_lt_of_cell? w _ hd.c1
      omega
  · rintro ⟨i, h1, h2⟩
    rcases hv with e | ⟨k, e, hk⟩
    · rw [e]; exact h.bv ⟨i, h1, h2⟩
    · rw [e]; intro e2
      have := Option.some.inj e2
      have hlt : bs < w.heap.size := World.block_lt_of_cell? w _ (hd.sy i h1 h2)
      omega

theorem Dec.beside {w w' : World} {p b : Nat} {s v : Value} {d bs : Nat} {L : List Int} {tot code len : Nat} (hd : Dec w d L bs tot code len) (h : Bes p b s v d bs L) (hs : Step (Sb p b v) w w') : Dec w' d L bs tot code len := by
  refine hd.far hs ?_ ?_
  · rintro (e | e | e)
    · exact h.dp e
    · exact h.db e
    · exact h.dv e
  · intro hx
    rintro (e | e | e)
    · exact h.bp e
    · exact h.bb e
    · exact h.bv hx e

/-- How symbol ends. -/
def SymE (w : World) (p b : Nat) (s v : Value) (M m : Nat) (O : List Nat) (most : Int) (d : Nat) (L : List Int) (bs tot : Nat) (r : Except Nat (Nat × Nat)) (e : Ending) (w' : World) : Prop :=
  Step (fun k => k = b ∨ k = d) w w' ∧
  match r with
  | .error x => e = .returned (.tuple #[.int .i64 0, .int .i64 (x : Int)])
  | .ok (i, t) => e = .returned (.tuple #[.int .i64 (i : Int), .int .i64 0]) ∧ Str w' p b s v M m t O most ∧ Dec w' d L bs tot 0 0

set_option maxHeartbeats 4000000 in
theorem symbol_any (p b : Nat) (s v : Value) (M m t : Nat) (O : List Nat) (most : Int) (d : Nat) (L : List Int) (bs tot : Nat) (w : World) (h : Str w p b s v M m t O most) (hd : Dec w d L bs tot 0 0) (hb : Bes p b s v d bs L) (hm : m ≤ 1000000) (hL : newErr L = 0) :
    Calls Tryd.prog 29 #[.pointer (some ⟨p, 0, none⟩), .pointer (some ⟨d, 0, none⟩)] w fun e w' => SymE w p b s v M m O most d L bs tot (symV L M m t) e w' ∧ SymOk L.length m t (symV L M m t) := by
  obtain ⟨hL1, hL2⟩ := newErr_ok hL
  have HL1 := hidden hL1
  have HL2 := hidden hL2
  have H0 := hidden (And.intro h hd)
  have hle := h.rr.le
  have HB := hidden hb
  clear h hd hL hL1 hL2 hb
  go_enter Tryd.func29, Tryd.ntmps29
  go_wp2
  go_loopg [] (8 * m + 1 - t) (fun k wr => ∃ u code len : Nat, k = 8 * m + 1 - u ∧ t ≤ u ∧ u ≤ 8 * m ∧ Hid (Inv L code len ∧ (∀ r, Sym L M m code len u r → Sym L M m 0 0 t r) ∧ Str wr p b s v M m u O most ∧ Dec wr d L bs tot code len ∧ Step (fun k => k = b ∨ k = d) w wr))
  case atStart => exact ⟨t, 0, 0, rfl, Nat.le_refl _, hle, Inv.zero L, fun _ h => h, H0.out.1, H0.out.2, Step.refl _ _⟩
  case round =>
    obtain ⟨u, code, len, hk, hu1, hu2, HH⟩ := hrel
    have HK := hidden hk
    have c0 := HH.out.2.2.1.ci
    clear hk
    by_cases hs : u + 1 ≤ 8 * m
    · obtain ⟨x, hx, hx2⟩ : ∃ x, x = M / 2 ^ u % 2 ^ 1 ∧ x < 2 := ⟨_, rfl, Nat.mod_lt _ (by omega)⟩
      have HX := hidden hx
      have hG : Hid (Calls Tryd.prog 20 #[.pointer (some ⟨b, 0, none⟩), .int .i64 (1 : Nat)] wr fun e w' => e = .returned (.tuple #[.int .i64 (x : Int), .int .i64 0]) ∧ Hid (Str w' p b s v M m (u + 1) O most ∧ Dec w' d L bs tot code len ∧ Step (fun k => k = b ∨ k = d) w w')) :=
        hidden ((get_ok b s M m u 1 wr HH.out.2.2.1.rr (by omega) (by omega) (by omega)).mono fun e w' ⟨he, T⟩ => by
          rw [← hx] at he
          exact ⟨he, (HH.out.2.2.1.took T).1, HH.out.2.2.2.1.far T.2 HB.out.db (fun _ => HB.out.bb), HH.out.2.2.2.2.trans T.2 (fun i hi => .inl (.inl hi))⟩)
      have hN : Hid (∀ w1, Str w1 p b s v M m (u + 1) O most → Dec w1 d L bs tot code len → Calls Tryd.prog 37 #[.pointer (some ⟨d, 0, none⟩), .int .i64 (x : Int)] w1 fun e w' => ∃ r : Int, e = .returned (.int .i64 r) ∧ ((∃ i : Nat, r = (i : Int)) ∨ r = -1 ∨ r = -2) ∧ Hid (∃ c l, NextR L (2 * code + bitOf (x : Int)) (len + 1) r c l ∧ Str w' p b s v M m (u + 1) O most ∧ Dec w' d L bs tot c l ∧ Step (fun k => k = b ∨ k = d) w1 w')) :=
        hidden (fun w1 S1 D1 => (next_any w1 d L bs tot code len x D1 HH.out.1.1 (HH.out.1.bit x).2.2 HL1.out (HH.out.1.bit x).2.1).mono fun e w' ⟨r, c, l, he, hr, hd, hst⟩ => by
          refine ⟨r, he, ?_, c, l, hr, S1.step hst (fun e => HB.out.dp e.symm) (fun e => HB.out.db e.symm) (fun k hk e => HB.out.dv (by rw [hk, e])) (fun k hk e => HB.out.ds (by rw [hk, e])), hd, hst.mono (fun i hi => .inr hi)⟩
          rcases hr with ⟨i, _, _, _, e, _⟩ | ⟨_, _, e, _⟩ | ⟨_, _, e, _⟩
          · exact .inl ⟨i, e⟩
          · exact .inr (.inr e)
          · exact .inr (.inl e))
      clear hx
      go_wp2_with (go_at_call 20; refine hG.out.mono ?_; rintro e w1 ⟨rfl, S1⟩)
      refine (hN.out _ S1.out.1 S1.out.2.1).mono ?_
      rintro e w2 ⟨r, rfl, hr3, S2⟩
      have hcm : Hid (2 * code + bitOf (x : Int) = cmore M u code) := hidden (by rw [bitOf_nat x hx2, HX.out]; rfl)
      rcases hr3 with ⟨i, rfl⟩ | rfl | rfl
      · have hi1 : ((i : Int) == -1) = false := by rw [beq_eq_false_iff_ne]; omega
        have hi2 : ((i : Int) == -2) = false := by rw [beq_eq_false_iff_ne]; omega
        go_wp2
        go_ret2
        obtain ⟨c, l, hr, s2, d2, st2⟩ := S2.out
        rw [hcm.out] at hr
        rcases hr with ⟨j, h1, h2, h3, h4, rfl, rfl⟩ | ⟨_, _, e, _⟩ | ⟨_, _, e, _⟩
        · have hij : i = j := by omega
          subst hij
          have hs0 := HH.out.2.1 _ (Sym.hit hs h1 h2 h3)
          have hsym := hs0.val
          refine ⟨⟨S1.out.2.2.trans st2 (fun i hi => .inl hi), ?_⟩, by rw [hsym]; exact hs0.fine⟩
          rw [hsym]
          exact ⟨rfl, s2, d2⟩
        · omega
        · omega
      · go_wp2
        obtain ⟨c, l, hr, s2, d2, st2⟩ := S2.out
        rw [hcm.out] at hr
        rcases hr with ⟨j, h1, h2, h3, h4, _⟩ | ⟨_, _, e, _⟩ | ⟨h1, h2, _, rfl, rfl⟩
        · omega
        · omega
        · go_roundg (8 * m + 1 - (u + 1))
          case measure => have := HK.out; omega
          case rel =>
            have hbit := HH.out.1.bit (x : Int)
            rw [hcm.out] at hbit
            refine ⟨u + 1, _, _, rfl, by omega, by omega, ?_, fun r hr => HH.out.2.1 r (Sym.more hs h1 h2 hr), s2, d2, S1.out.2.2.trans st2 (fun i hi => .inl hi)⟩
            exact Inv.next HL2.out (by have := HH.out.1.1; omega) hbit.1 (r := -1) (.inr (.inr ⟨h1, h2, rfl, rfl, rfl⟩))
      · go_wp2
        go_ret2
        obtain ⟨c, l, hr, s2, d2, st2⟩ := S2.out
        rw [hcm.out] at hr
        rcases hr with ⟨j, h1, h2, h3, h4, _⟩ | ⟨h1, h2, _⟩ | ⟨_, _, e, _⟩
        · omega
        · have hs0 := HH.out.2.1 _ (Sym.none hs h1 h2)
          have hsym := hs0.val
          refine ⟨⟨S1.out.2.2.trans st2 (fun i hi => .inl hi), ?_⟩, by rw [hsym]; exact hs0.fine⟩
          rw [hsym]
          rfl
        · omega
    · have hG : Hid (Calls Tryd.prog 20 #[.pointer (some ⟨b, 0, none⟩), .int .i64 (1 : Nat)] wr fun e w' => e = .returned (.tuple #[.int .i64 0, .int .i64 2]) ∧ Hid (Step (fun k => k = b ∨ k = d) w w')) :=
        hidden ((get_short b s M m u 1 wr HH.out.2.2.1.rr (by omega) (by omega) (by omega)).mono fun e w' ⟨he, q, hq⟩ => by
          subst hq
          exact ⟨he, HH.out.2.2.2.2.drewN q⟩)
      go_wp2_with (go_at_call 20; refine hG.out.mono ?_; rintro e w1 ⟨rfl, S1⟩)
      go_ret2
      have hs0 := HH.out.2.1 _ (Sym.short (by omega))
      have hsym := hs0.val
      refine ⟨⟨S1.out, ?_⟩, by rw [hsym]; exact hs0.fine⟩
      rw [hsym]
      rfl

end Go.Proofs.YtkaibpibnkmmbaaDoor
