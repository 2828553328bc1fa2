/-
  lengthen and begin: one bit more; anew.
-/
import Derived.Test.YtkaibpibnkmmbaaDoorHNewW
import Derived.BigRegion
namespace Go.Proofs.YtkaibpibnkmmbaaDoor
open Go.RowKit
set_option maxRecDepth 100000
set_option linter.unusedVariables false

theorem oth {W : World} {b i j : Nat} {u v : Value} (h : W.cell? ⟨b, i, none⟩ = some v) (hij : j ≠ i) : (W.setCell ⟨b, j, none⟩ u).cell? ⟨b, i, none⟩ = some v := by
  rw [World.cell?_setCell_other (a := ⟨b, j, none⟩) (b := ⟨b, i, none⟩) _ _ (by intro e; injection e with _ e2; exact hij e2)]
  exact h
theorem sam {W : World} {b i : Nat} {u v : Value} (h : W.cell? ⟨b, i, none⟩ = some v) : (W.setCell ⟨b, i, none⟩ u).cell? ⟨b, i, none⟩ = some u := World.cell?_setCell_same' _ _ _ (by rw [h]; rfl)

/-- Whatever is written into the four last cells. -/
structure Four (w : World) (d : Nat) (x1 x2 x3 x4 : Int) (w' : World) : Prop where
  c1 : w'.cell? ⟨d, 17, none⟩ = some (.int .i64 x1)
  c2 : w'.cell? ⟨d, 18, none⟩ = some (.int .i64 x2)
  c3 : w'.cell? ⟨d, 19, none⟩ = some (.int .i64 x3)
  c4 : w'.cell? ⟨d, 20, none⟩ = some (.int .i64 x4)
  lo : ∀ k v, k < 17 → w.cell? ⟨d, k, none⟩ = some v → w'.cell? ⟨d, k, none⟩ = some v
  fz : ∀ k, w'.frozen? ⟨d, k, none⟩ = w.frozen? ⟨d, k, none⟩
  st : Step (fun k => k = d) w w'

theorem Four.refl {w : World} {d : Nat} {x1 x2 x3 x4 : Int} (h1 : w.cell? ⟨d, 17, none⟩ = some (.int .i64 x1)) (h2 : w.cell? ⟨d, 18, none⟩ = some (.int .i64 x2)) (h3 : w.cell? ⟨d, 19, none⟩ = some (.int .i64 x3)) (h4 : w.cell? ⟨d, 20, none⟩ = some (.int .i64 x4)) : Four w d x1 x2 x3 x4 w :=
  ⟨h1, h2, h3, h4, fun _ _ _ h => h, fun _ => rfl, Step.refl _ _⟩
theorem Four.drew {w : World} {d : Nat} {x1 x2 x3 x4 : Int} {w' : World} (h : Four w d x1 x2 x3 x4 w') : Four w d x1 x2 x3 x4 w'.drew := ⟨h.c1, h.c2, h.c3, h.c4, h.lo, h.fz, h.st.drew⟩
theorem Four.drewN {w : World} {d : Nat} {x1 x2 x3 x4 : Int} {w' : World} (h : Four w d x1 x2 x3 x4 w') (q : Nat) : Four w d x1 x2 x3 x4 (w'.drewN q) := ⟨h.c1, h.c2, h.c3, h.c4, h.lo, h.fz, h.st.drewN q⟩
theorem Four.s1 {w : World} {d : Nat} {x1 x2 x3 x4 : Int} {w' : World} (h : Four w d x1 x2 x3 x4 w') (y : Int) : Four w d y x2 x3 x4 (w'.setCell ⟨d, 17, none⟩ (.int .i64 y)) :=
  ⟨sam h.c1, oth h.c2 (by omega), oth h.c3 (by omega), oth h.c4 (by omega), fun k v hk hv => oth (h.lo k v hk hv) (by omega), fun k => by rw [World.frozen?_setCell]; exact h.fz k, h.st.setCell _ _ (.inl rfl)⟩
theorem Four.s2 {w : World} {d : Nat} {x1 x2 x3 x4 : Int} {w' : World} (h : Four w d x1 x2 x3 x4 w') (y : Int) : Four w d x1 y x3 x4 (w'.setCell ⟨d, 18, none⟩ (.int .i64 y)) :=
  ⟨oth h.c1 (by omega), sam h.c2, oth h.c3 (by omega), oth h.c4 (by omega), fun k v hk hv => oth (h.lo k v hk hv) (by omega), fun k => by rw [World.frozen?_setCell]; exact h.fz k, h.st.setCell _ _ (.inl rfl)⟩
theorem Four.s3 {w : World} {d : Nat} {x1 x2 x3 x4 : Int} {w' : World} (h : Four w d x1 x2 x3 x4 w') (y : Int) : Four w d x1 x2 y x4 (w'.setCell ⟨d, 19, none⟩ (.int .i64 y)) :=
  ⟨oth h.c1 (by omega), oth h.c2 (by omega), sam h.c3, oth h.c4 (by omega), fun k v hk hv => oth (h.lo k v hk hv) (by omega), fun k => by rw [World.frozen?_setCell]; exact h.fz k, h.st.setCell _ _ (.inl rfl)⟩
theorem Four.s4 {w : World} {d : Nat} {x1 x2 x3 x4 : Int} {w' : World} (h : Four w d x1 x2 x3 x4 w') (y : Int) : Four w d x1 x2 x3 y (w'.setCell ⟨d, 20, none⟩ (.int .i64 y)) :=
  ⟨oth h.c1 (by omega), oth h.c2 (by omega), oth h.c3 (by omega), sam h.c4, fun k v hk hv => oth (h.lo k v hk hv) (by omega), fun k => by rw [World.frozen?_setCell]; exact h.fz k, h.st.setCell _ _ (.inl rfl)⟩

theorem Dec.four {w w' : World} {d : Nat} {L : List Int} {bs tot code len code' len' : Nat} (h : Dec w d L bs tot code len) (f : Four w d (code' : Int) (len' : Int) (stf (cf L) len') (plc (cf L) len') w') : Dec w' d L bs tot code' len' :=
  ⟨fun k hk => f.lo k _ (by omega) (h.cn k hk), f.lo 16 _ (by omega) h.cs, fun i h1 h2 => f.st.cell (h.sy i h1 h2) h.ne, f.c1, f.c2, f.c3, f.c4, fun k h1 h2 => (f.fz k).trans (h.fz k h1 h2), h.to, h.ne⟩

/-- A bit as a number. -/
def bitOf (b : Int) : Nat := if b = 0 then 0 else 1

set_option maxHeartbeats 2000000 in
theorem begin_any (w : World) (d : Nat) (L : List Int) (bs tot code len : Nat) (h : Dec w d L bs tot code len) :
    Calls Tryd.prog 45 #[.pointer (some ⟨d, 0, none⟩)] w fun e w' => (∃ u, e = .returned u) ∧ Dec w' d L bs tot 0 0 ∧ Step (fun k => k = d) w w' := by
  have HD := hidden h
  obtain ⟨_, _, _, c1, c2, c3, c4, fz, _, _⟩ := h
  have f1 := fz 17 (by omega) (by omega)
  have f2 := fz 18 (by omega) (by omega)
  have f3 := fz 19 (by omega) (by omega)
  have f4 := fz 20 (by omega) (by omega)
  have HF := hidden (Four.refl c1 c2 c3 c4)
  clear fz
  go_enter Tryd.func45, Tryd.ntmps45
  go_wp2
  go_end0
  have hf := (((HF.out.s1 0).s2 0).s3 0).s4 0
  exact ⟨⟨_, rfl⟩, HD.out.four hf, hf.st⟩

set_option maxHeartbeats 4000000 in
theorem lengthen_any (w : World) (d : Nat) (L : List Int) (bs tot code len : Nat) (b : Int) (h : Dec w d L bs tot code len) (hl : len ≤ 14) (hc : code ≤ 100000) (hL : L.length ≤ 320) :
    Calls Tryd.prog 44 #[.pointer (some ⟨d, 0, none⟩), .int .i64 b] w fun e w' => (∃ u, e = .returned u) ∧ Dec w' d L bs tot (2 * code + bitOf b) (len + 1) ∧ Step (fun k => k = d) w w' := by
  have HD := hidden h
  obtain ⟨cn, _, _, c1, c2, c3, c4, fz, _, _⟩ := h
  have f1 := fz 17 (by omega) (by omega)
  have f2 := fz 18 (by omega) (by omega)
  have f3 := fz 19 (by omega) (by omega)
  have f4 := fz 20 (by omega) (by omega)
  have cl := cn len (by omega)
  have HF := hidden (Four.refl c1 c2 c3 c4)
  have b1 := stf_bd' (cf L) (fun k => (cf_get L k hL).1) (fun k => (cf_get L k hL).2) len (by omega)
  have b2 := cf_get L len hL
  have b3 := plc_bd L hL len (by omega)
  have HS := hidden (show (stf (cf L) len + cf L len) * 2 = stf (cf L) (len + 1) from rfl)
  have HP := hidden (show plc (cf L) len + cf L len = plc (cf L) (len + 1) from rfl)
  have hne : len ≠ 17 ∧ len ≠ 18 ∧ len ≠ 19 ∧ len ≠ 20 := by omega
  obtain ⟨n1, n2, n3, n4⟩ := hne
  have n1' : ¬ (17 : Nat) = len := by omega
  have n2' : ¬ (18 : Nat) = len := by omega
  have n3' : ¬ (19 : Nat) = len := by omega
  have n4' : ¬ (20 : Nat) = len := by omega
  have hlen16 : (len : Int) < 16 := by omega
  generalize stf (cf L) len = s at *
  generalize cf L len = c at *
  generalize plc (cf L) len = p at *
  clear fz cn
  by_cases hb : b = 0
  · subst hb
    have hbb : ((0 : Int) != 0) = false := rfl
    go_enter Tryd.func44, Tryd.ntmps44
    go_wp2
    go_region
    go_wp2
    go_region
    all_goals go_wp2
    go_end0
    have hf := ((((HF.out.s1 ((code : Int) * 2)).s3 ((s + c) * 2)).s4 (p + c)).s2 ((len : Int) + 1)).drew.drew
    refine ⟨⟨_, rfl⟩, HD.out.four (code' := 2 * code + bitOf 0) (len' := len + 1) ?_, hf.st⟩
    rw [← HS.out, ← HP.out, show ((2 * code + bitOf 0 : Nat) : Int) = (code : Int) * 2 by simp [bitOf]; omega, show ((len + 1 : Nat) : Int) = (len : Int) + 1 by omega]
    exact hf
  · have hbb : (b != 0) = true := by rw [bne_iff_ne]; exact hb
    have HBO := hidden (show bitOf b = 1 by simp [bitOf, hb])
    go_enter Tryd.func44, Tryd.ntmps44
    go_wp2
    go_region
    go_wp2
    go_region
    all_goals go_wp2
    go_end0
    have hf := (((((HF.out.s1 ((code : Int) * 2)).s1 ((code : Int) * 2 + 1)).s3 ((s + c) * 2)).s4 (p + c)).s2 ((len : Int) + 1)).drew.drew
    refine ⟨⟨_, rfl⟩, HD.out.four (code' := 2 * code + bitOf b) (len' := len + 1) ?_, hf.st⟩
    rw [← HS.out, ← HP.out, show ((2 * code + bitOf b : Nat) : Int) = (code : Int) * 2 + 1 by rw [HBO.out]; omega, show ((len + 1 : Nat) : Int) = (len : Int) + 1 by omega]
    exact hf

/-- What Next answers, and what it keeps. -/
def NextR (L : List Int) (code len : Nat) (r : Int) (c l : Nat) : Prop :=
  (∃ i : Nat, i < L.length ∧ L.getD i 0 = (len : Int) ∧ codeOf L i = (code : Int) ∧ r = (i : Int) ∧ c = 0 ∧ l = 0) ∨
  (stf (cf L) len + cf L len ≤ (code : Int) ∧ plc (cf L) (len + 1) = plc (cf L) 16 ∧ r = -2 ∧ c = 0 ∧ l = 0) ∨
  (stf (cf L) len + cf L len ≤ (code : Int) ∧ plc (cf L) (len + 1) ≠ plc (cf L) 16 ∧ r = -1 ∧ c = code ∧ l = len)

set_option maxHeartbeats 4000000 in
theorem next_any (w : World) (d : Nat) (L : List Int) (bs tot code len : Nat) (b : Int) (h : Dec w d L bs tot code len) (hl : len ≤ 14) (hc : code ≤ 100000) (hL : L.length ≤ 320) (hge : stf (cf L) (len + 1) ≤ ((2 * code + bitOf b : Nat) : Int)) :
    Calls Tryd.prog 37 #[.pointer (some ⟨d, 0, none⟩), .int .i64 b] w fun e w' => ∃ r c l, e = .returned (.int .i64 r) ∧ NextR L (2 * code + bitOf b) (len + 1) r c l ∧ Dec w' d L bs tot c l ∧ Step (fun k => k = d) w w' := by
  have HLE := hidden (lengthen_any w d L bs tot code len b h hl hc hL)
  have hcode : 2 * code + bitOf b ≤ 200001 := by unfold bitOf; split <;> omega
  generalize hC : 2 * code + bitOf b = C at *
  generalize hN : len + 1 = N at *
  have hN1 : 1 ≤ N := by omega
  have hN15 : N ≤ 15 := by omega
  have hTO := h.to
  clear h hC hN
  go_enter Tryd.func37, Tryd.ntmps37
  go_wp2_with (go_at_call 44; refine HLE.out.mono ?_; rintro e w1 ⟨⟨u, rfl⟩, hrest⟩; have HR := hidden hrest; clear hrest)
  obtain ⟨hd, hs⟩ := HR.out
  have HD := hidden hd
  have c1 := hd.c1
  have c2 := hd.c2
  have c3 := hd.c3
  have c4 := hd.c4
  have cs := hd.cs
  have cl := hd.cn N (by omega)
  have b1 := stf_bd' (cf L) (fun k => (cf_get L k hL).1) (fun k => (cf_get L k hL).2) N (by omega)
  have b2 := cf_get L N hL
  have b3 := plc_bd L hL N (by omega)
  have b4 := plc_bd L hL 16 (by omega)
  have hN16 : (N : Int) < 16 := by omega
  have HP := hidden (show plc (cf L) N + cf L N = plc (cf L) (N + 1) from rfl)
  have HTO := hidden hTO
  have HSD := hidden hs
  have htot : tot ≤ 5120 := by omega
  by_cases hlt : (C : Int) - stf (cf L) N < cf L N
  · obtain ⟨i, hi, hiN, hir⟩ := rank_hit' L N (by omega) ((C : Int) - stf (cf L) N) (by omega) hlt
    have hpe := pos_eq L i N hiN
    have hpl := pos_lt L i N hi hiN (by omega) hN15
    have hco := codeOf_eq L i N hiN (by omega)
    have hsy := hd.sy i hi (by omega)
    rw [hir] at hpe hco
    obtain ⟨p, hp⟩ := Int.eq_ofNat_of_zero_le hpl.1
    rw [hp, Int.toNat_natCast] at hsy
    have hpp : plc (cf L) N + ((C : Int) - stf (cf L) N) = (p : Int) := by rw [← hpe, hp]
    have hpt : (p : Int) < (tot : Int) := by omega
    have HRES := hidden (show NextR L C N (i : Int) 0 0 from .inl ⟨i, hi, hiN, by rw [hco]; omega, rfl, rfl, rfl⟩)
    have HBG := hidden (fun q => begin_any (w1.drewN q) d L bs tot C N ⟨hd.cn, hd.cs, hd.sy, hd.c1, hd.c2, hd.c3, hd.c4, hd.fz, hd.to, hd.ne⟩)
    generalize stf (cf L) N = s at *
    generalize cf L N = c at *
    generalize plc (cf L) N = pl at *
    have e1 : pl + ((C : Int) - s) = (p : Int) := hpp
    clear hd hs hi hiN hir hpe hpl hco hp hTO
    go_wp2
    go_quiet (fail)
    go_wp2
    go_quiet (fail)
    go_wp2
    go_quiet (fail)
    go_wp2_with fail
    refine (HBG.out _).mono ?_
    rintro e w2 ⟨⟨u2, rfl⟩, hrest2⟩
    have HR2 := hidden hrest2
    clear hrest2
    go_wp2
    go_ret
    exact ⟨_, 0, 0, rfl, HRES.out, HR2.out.1, (HSD.out.drewN _).trans HR2.out.2 (fun i hi => .inl hi)⟩
  · have hge2 : cf L N ≤ (C : Int) - stf (cf L) N := by omega
    have HGE := hidden hge2
    by_cases htt : plc (cf L) N + cf L N = (tot : Int)
    · have HRES := hidden (show NextR L C N (-2) 0 0 from .inr (.inl ⟨by omega, by rw [← HP.out, htt, HTO.out], rfl, rfl, rfl⟩))
      have HBG := hidden (fun q => begin_any (w1.drewN q) d L bs tot C N ⟨hd.cn, hd.cs, hd.sy, hd.c1, hd.c2, hd.c3, hd.c4, hd.fz, hd.to, hd.ne⟩)
      have hbe : (plc (cf L) N + cf L N == (tot : Int)) = true := by rw [beq_iff_eq]; exact htt
      generalize stf (cf L) N = s at *
      generalize cf L N = c at *
      generalize plc (cf L) N = pl at *
      clear hd hs hTO htt
      go_wp2
      go_quiet (fail)
      go_wp2
      go_quiet (fail)
      go_wp2
      go_quiet (fail)
      go_wp2_with fail
      refine (HBG.out _).mono ?_
      rintro e w2 ⟨⟨u2, rfl⟩, hrest2⟩
      have HR2 := hidden hrest2
      clear hrest2
      go_wp2
      go_ret
      exact ⟨_, 0, 0, rfl, HRES.out, HR2.out.1, (HSD.out.drewN _).trans HR2.out.2 (fun i hi => .inl hi)⟩
    · have HRES := hidden (show NextR L C N (-1) C N from .inr (.inr ⟨by omega, by rw [← HP.out, HTO.out]; exact htt, rfl, rfl, rfl⟩))
      have hbe : (plc (cf L) N + cf L N == (tot : Int)) = false := by rw [beq_eq_false_iff_ne]; exact htt
      have HDD := hidden (fun q => (⟨hd.cn, hd.cs, hd.sy, hd.c1, hd.c2, hd.c3, hd.c4, hd.fz, hd.to, hd.ne⟩ : Dec (w1.drewN q) d L bs tot C N))
      generalize stf (cf L) N = s at *
      generalize cf L N = c at *
      generalize plc (cf L) N = pl at *
      clear hd hs hTO htt
      go_wp2
      go_quiet (fail)
      go_wp2
      go_quiet (fail)
      go_wp2
      go_quiet (fail)
      go_wp2
      go_ret
      exact ⟨_, C, N, rfl, HRES.out, by rw [World.drewN_drewN]; exact HDD.out _, by rw [World.drewN_drewN]; exact HSD.out.drewN _⟩

end Go.Proofs.YtkaibpibnkmmbaaDoor
