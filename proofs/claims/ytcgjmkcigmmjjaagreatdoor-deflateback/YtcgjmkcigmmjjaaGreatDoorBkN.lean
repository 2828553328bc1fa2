/-
  DeflateBack's walk.
-/
import Derived.Test.YtcgjmkcigmmjjaaGreatDoorBkM

namespace Go.Proofs.YtcgjmkcigmmjjaaGreatDoor
open Go.RowKit
/-- The slice p has the bytes B and one mark; one more stands behind it. -/
structure Roomy (w : World) (g cap : Nat) (B : List Nat) : Prop where
  own : w.ownsRow 0 5 1 (.slice (some ⟨g, 0, none⟩) (B.length + 2) cap) (B.length + 2) (u8s (B ++ [171, 171]))
  room : B.length + 2 ≤ cap

theorem Roomy.step {S : Nat → Prop} {w w' : World} {g cap : Nat} {B : List Nat} (h : Roomy w g cap B) (hs : Step S w w') (hg : ¬ S g) : Roomy w' g cap B :=
  ⟨owns_step h.own hs (fun k hk => by simp [Value.ownBlock] at hk; subst hk; exact hg), h.room⟩

theorem Roomy.rd {w : World} {g cap : Nat} {B : List Nat} (h : Roomy w g cap B) : Rd w (.slice (some ⟨g, 0, none⟩) B.length cap) B := by
  refine ⟨some ⟨g, 0, none⟩, cap, rfl, fun h => (by cases h), fun a ha _ => ⟨g, 0, (Option.some.inj ha).symm, fun k hk => ?_⟩⟩
  rw [Nat.zero_add, h.own.cellAt k (by omega), u8s_get?, List.getElem?_append_left hk]
  simp [List.getD, hk]

theorem Roomy.mark {w : World} {g cap : Nat} {B : List Nat} (h : Roomy w g cap B) : w.cell? ⟨g, B.length, none⟩ = some (.int .u8 171) := by
  rw [h.own.cellAt B.length (by omega), u8s_get?]
  simp

set_option maxHeartbeats 400000 in
theorem stands_any (g cap : Nat) (vb : Value) (B : List Nat) (w : World) (h : Roomy w g cap B) (hb : Rd w vb B) (hl : B.length ≤ 10000) :
    Calls Tryz.prog 10 #[.slice (some ⟨g, 0, none⟩) (B.length + 1) cap, vb] w fun e w' => e = .returned (.bool true) ∧ ∃ n, w' = w.drewN n := by
  have hm := h.mark
  have HR := hidden h.rd
  have hroom := h.room
  have Hb := hidden hb
  obtain ⟨ao, cb, hvb, _⟩ := hb
  have Hvb := hidden hvb
  rw [hvb] at Hb ⊢
  have HS := hidden (same_any _ _ B B w HR.out Hb.out (by omega))
  rw [decide_eq_true rfl] at HS
  generalize B.length = n at *
  clear h hvb
  go_enter Tryz.func10, Tryz.ntmps10
  go_wp2_with (go_at_call 12; refine HS.out.mono ?_; rintro e w' ⟨rfl, q, rfl⟩)
  go_ret
  exact ⟨rfl, _, rfl⟩

end Go.Proofs.YtcgjmkcigmmjjaaGreatDoor

namespace Go.Proofs.YtcgjmkcigmmjjaaGreatDoor
open Go.RowKit
/-- What three appends, one behind the other, leave. -/
theorem roomy_close {w w1 w2 w3 : World} {o2 o3 : Obj} {v1 v2 v3 : Value} {B : List Nat} (S1 : Step (fun _ => False) w w1) (b1 : ∀ k, v1.ownBlock = some k → w.heap.size ≤ k)
    (g2 : (w1.alloc o2).grownBy w2 v1.ownBlock) (e2 : v2.ownBlock = v1.ownBlock ∨ v2.ownBlock = some (w1.heap.size + 1))
    (h3 : w3.ownsRow 0 5 1 v3 (B.length + 1 + 1) (u8s B ++ [.int .u8 171, .int .u8 171])) (g3 : (w2.alloc o3).grownBy w3 v2.ownBlock) (e3 : v3.ownBlock = v2.ownBlock ∨ v3.ownBlock = some (w2.heap.size + 1)) :
    ∃ g cap, v3 = .slice (some ⟨g, 0, none⟩) (B.length + 2) cap ∧ Roomy w3 g cap B ∧ w.heap.size ≤ g ∧ Step (fun _ => False) w w3 := by
  have b2 : ∀ k, v2.ownBlock = some k → w.heap.size ≤ k := by
    intro k hk
    rcases e2 with e | e
    · exact b1 k (by rw [← e]; exact hk)
    · rw [e] at hk; have := Option.some.inj hk; have := S1.size; omega
  have S2 : Step (fun _ => False) w w2 := (S1.alloc o2).grown g2 (fun k hk => .inr (b1 k hk))
  have S3 : Step (fun _ => False) w w3 := (S2.alloc o3).grown g3 (fun k hk => .inr (b2 k hk))
  have b3 : ∀ k, v3.ownBlock = some k → w.heap.size ≤ k := by
    intro k hk
    rcases e3 with e | e
    · exact b2 k (by rw [← e]; exact hk)
    · rw [e] at hk; have := Option.some.inj hk; have := S2.size; omega
  have hx : u8s B ++ [.int .u8 171, .int .u8 171] = u8s (B ++ [171, 171]) := by simp [u8s]
  rw [hx] at h3
  have h3c := h3
  rcases h3.2 with ⟨_, e⟩ | ⟨g, cap, cur, e, _, _, hc, _⟩
  · omega
  · rw [e] at h3c
    exact ⟨g, cap, e, ⟨h3c, hc⟩, b3 g (by rw [e]; rfl), S3⟩

set_option maxHeartbeats 1000000 in
theorem roomy_any (v : Value) (B : List Nat) (w : World) (h : Rd w v B) (hl : B.length ≤ 10000) :
    Calls Tryz.prog 8 #[v] w fun e w' => ∃ g cap, e = .returned (.slice (some ⟨g, 0, none⟩) (B.length + 1) cap) ∧ Roomy w' g cap B ∧ w.heap.size ≤ g ∧ Step (fun _ => False) w w' := by
  obtain ⟨i0, hi, hz0, hz1, hz2⟩ := info_parts Tryz.info5
  have h' := h
  obtain ⟨ao, cv, hv, h1, _⟩ := h
  rw [hv] at h' ⊢
  have hown := hidden (show (w.alloc (.cells #[] 5)).ownsRow 0 5 1 (.slice (some ⟨w.heap.size, 0, none⟩) 0 0) 0 [] by
    have := World.ownsRow_lit (base := 0) (e := 5) (size := 1) w #[] 0 (Nat.zero_le _) (Nat.zero_le _) rfl
    simpa using this)
  have hrd := h'.step ((Step.refl (fun _ => False) w).alloc (.cells #[] 5)) (fun _ _ _ _ _ h => h)
  cases ao with
  | none =>
    obtain ⟨rfl, rfl⟩ := h1 rfl
    clear h1 h' hrd hv
    go_enter Tryz.func8, Tryz.ntmps8
    go_wp2_with (at_builtin; refine wpList_append_stop rfl (.tmp 3) (.tmp 4) 22 rfl 5 i0 1 Tryz.underlying22 hi _ _ _ rfl hown.out rfl ?_)
    unfold Hid
    have HO1 := hidden (hown.out.alloc (.cells #[.int .u8 171] 5))
    go_wp2_with (at_builtin; refine wpList_append_at _ rfl (.tmp 5) (.tmp 6) 22 rfl 5 i0 (.int .u8 0) 1 1 Tryz.underlying22 hi hz0 hz1 hz2 rfl (by decide) _ _ _ rfl HO1.out ⟨w.heap.size + 1, 0, none⟩ 1 1 [.int .u8 171] rfl rfl ?d1 ?d2 ?d3 ?d4 ?_)
    case d1 => have := cell_one_new (w.alloc (.cells #[] 5)) (.int .u8 171) 5; simpa using this
    case d2 => intro u hu; simp at hu; subst hu; rfl
    case d3 => unfold maxLen; omega
    case d4 => omega
    intro v2 w2 hown2 hgrow2 hnil2 hb2
    have HO2 := hidden hown2
    have HG2 := hidden (And.intro hgrow2 hb2)
    clear hown2 hgrow2 hnil2 hb2
    go_wp2_with (at_builtin; refine wpList_append_at _ rfl (.tmp 7) (.tmp 8) 22 rfl 5 i0 (.int .u8 0) 1 1 Tryz.underlying22 hi hz0 hz1 hz2 rfl (by decide) _ _ _ rfl (HO2.out.alloc _) ⟨w2.heap.size, 0, none⟩ 1 1 [.int .u8 171] rfl rfl ?e1 ?e2 ?e3 ?e4 ?_)
    case e1 => exact cell_one_new _ _ _
    case e2 => intro u hu; simp at hu; subst hu; rfl
    case e3 => unfold maxLen; omega
    case e4 => omega
    intro v3 w3 hown3 hgrow3 hnil3 hb3
    have hfin := roomy_close (B := []) (w := w) (w1 := w.alloc (.cells #[] 5)) (v1 := .slice (some ⟨w.heap.size, 0, none⟩) 0 0) ((Step.refl _ _).alloc _) (fun k hk => by simp [Value.ownBlock] at hk; omega) HG2.out.1 (by simpa using HG2.out.2) (by simpa [u8s] using hown3) hgrow3 hb3
    obtain ⟨g, cap, hv3, HR, hg, hst⟩ := hfin
    have hcap : 2 ≤ cap := HR.room
    have hv3' : v3 = .slice (some ⟨g, 0, none⟩) 2 cap := hv3
    have HF := hidden (And.intro HR (And.intro hg hst))
    rw [hv3']
    clear hown3 hgrow3 hnil3 hb3 HR hg hst hv3 hv3'
    go_wp2
    go_ret
    exact ⟨g, cap, rfl, HF.out⟩
  | some a =>
    have hnews := hidden hrd.news
    have hm : B.length ≤ maxLen := by unfold maxLen; omega
    generalize hL : B.length = L at *
    have HL := hidden hL
    clear h1 h' hrd hv hL
    go_enter Tryz.func8, Tryz.ntmps8
    go_wp2_with (at_builtin; refine wpList_append_at _ rfl (.tmp 3) (.tmp 4) 22 rfl 5 i0 (.int .u8 0) 1 1 Tryz.underlying22 hi hz0 hz1 hz2 rfl (by decide) _ 0 [] rfl hown.out a L cv (u8s B) rfl ?c0 hnews.out (u8s_one _) ?c3 ?c4 ?_)
    case c0 => rw [u8s_length, HL.out]; omega
    case c3 => omega
    case c4 => omega
    intro v1 w1 hown1 hgrow1 hnil1 hb1
    have HO1 := hidden (show w1.ownsRow 0 5 1 v1 L (u8s B) by simpa using hown1)
    have HS1 := hidden (show Step (fun _ => False) w w1 from ((Step.refl _ _).alloc _).grown hgrow1 (fun k hk => .inr (by simp [Value.ownBlock] at hk; omega)))
    have HB1 := hidden (show ∀ k, v1.ownBlock = some k → w.heap.size ≤ k by
      intro k hk
      rcases hb1 with e | e
      · rw [e] at hk; simp [Value.ownBlock] at hk; omega
      · rw [e] at hk; have := Option.some.inj hk; omega)
    clear hown1 hgrow1 hnil1 hb1
    go_wp2_with (at_builtin; refine wpList_append_at _ rfl (.tmp 5) (.tmp 6) 22 rfl 5 i0 (.int .u8 0) 1 1 Tryz.underlying22 hi hz0 hz1 hz2 rfl (by decide) _ _ _ rfl (HO1.out.alloc _) ⟨w1.heap.size, 0, none⟩ 1 1 [.int .u8 171] rfl rfl ?d1 ?d2 ?d3 ?d4 ?_)
    case d1 => exact cell_one_new _ _ _
    case d2 => intro u hu; simp at hu; subst hu; rfl
    case d3 => unfold maxLen; omega
    case d4 => omega
    intro v2 w2 hown2 hgrow2 hnil2 hb2
    have HO2 := hidden hown2
    have HG2 := hidden (And.intro hgrow2 hb2)
    clear hown2 hgrow2 hnil2 hb2
    go_wp2_with (at_builtin; refine wpList_append_at _ rfl (.tmp 7) (.tmp 8) 22 rfl 5 i0 (.int .u8 0) 1 1 Tryz.underlying22 hi hz0 hz1 hz2 rfl (by decide) _ _ _ rfl (HO2.out.alloc _) ⟨w2.heap.size, 0, none⟩ 1 1 [.int .u8 171] rfl rfl ?e1 ?e2 ?e3 ?e4 ?_)
    case e1 => exact cell_one_new _ _ _
    case e2 => intro u hu; simp at hu; subst hu; rfl
    case e3 => unfold maxLen; omega
    case e4 => omega
    intro v3 w3 hown3 hgrow3 hnil3 hb3
    have hfin := roomy_close (B := B) HS1.out HB1.out HG2.out.1 HG2.out.2 (by rw [HL.out]; exact hown3) hgrow3 hb3
    obtain ⟨g, cap, hv3, HR, hg, hst⟩ := hfin
    have hcap := HR.room
    rw [HL.out] at hcap hv3
    have HF := hidden (And.intro HR (And.intro hg hst))
    rw [hv3]
    clear hown3 hgrow3 hnil3 hb3 HR hg hst hv3
    go_wp2
    go_ret
    exact ⟨g, cap, rfl, HF.out⟩

end Go.Proofs.YtcgjmkcigmmjjaaGreatDoor

namespace Go.Proofs.YtcgjmkcigmmjjaaGreatDoor
open Go.RowKit
set_option maxRecDepth 100000
set_option linter.unusedVariables false
set_option maxHeartbeats 4000000 in
theorem backlaw_in (aa : Option Addr) (ca : Nat) (A : List Nat) (w : World) (hT : TabD w) (hA : ∀ x ∈ A, x < 256) (ra : Rd w (.slice aa A.length ca) A) (hca : A.length ≤ ca) (hl : A.length ≤ 6000) :
    Calls Tryz.prog 3 #[.slice aa A.length ca] w fun e w' => e = .returned (.bool true) ∧ Step (fun _ => False) w w' := by
  have HRO := hidden (roomy_any _ A w ra (by omega))
  have HRA := hidden ra
  have HT := hidden hT
  have HA := hidden hA
  have HST := hidden (fun (g cap : Nat) (W : World) (h : Roomy W g cap A) (hb : Rd W (.slice aa A.length ca) A) => stands_any g cap (.slice aa A.length ca) A W h hb (by omega))
  have HB1 := hidden (fun (g cap : Nat) (W : World) (h : Roomy W g cap A) (ht : TabD W) => dbytes_any W (some ⟨g, 0, none⟩) cap A h.rd (by have := h.room; omega) hA (by omega) ht)
  have HB2 := hidden (fun (W : World) (h : Rd W (.slice aa A.length ca) A) (ht : TabD W) => dbytes_any W aa ca A h hca hA (by omega) ht)
  have HPS := hidden (fun (W : World) (h : Rd W (.slice aa A.length ca) A) => rstored_any aa ca A W h (by omega) hca)
  have HSL := hidden (show ∀ S, Sm A S → S.length ≤ A.length + 5 from fun S hS => by
    have h1 := (hS.told hA (by omega) (Int.le_refl _)).1
    rwa [(stPs_one A (by omega)).2.2] at h1)
  obtain ⟨m, hm⟩ : ∃ m, A.length = m := ⟨_, rfl⟩
  have Hm := hidden hm
  rw [hm] at HRO HRA HST HB1 HB2 HPS HSL hl ⊢
  have z1 : ¬ (6000 : Int) < (m : Int) := by omega
  clear ra hA hT hm hca
  go_enter Tryz.func3, Tryz.ntmps3
  go_wp2_with fail
  refine HRO.out.mono ?_
  rintro e w1 ⟨g, cap, rfl, R1, hg, S1⟩
  have HR1 := hidden R1
  have HS1 := hidden S1
  have hroom : m + 2 ≤ cap := by have := R1.room; have := Hm.out; omega
  have HBY := hidden (HB1.out g cap w1 R1 (HT.out.made S1))
  clear R1 S1 HRO
  go_wp2_with fail
  refine HBY.out.mono ?_
  rintro e w2 ⟨a2, c2, S, rfl, R2⟩
  have HS2 := hidden (HS1.out.made R2.out.2.2.1)
  have HSM := hidden R2.out.1
  have HSR := hidden R2.out.2.1
  have HSC := hidden R2.out.2.2.2
  have HSTD := hidden (HST.out g cap w2 (HR1.out.step R2.out.2.2.1 (fun h => h)) (HRA.out.step HS2.out (fun _ _ _ _ _ q => q)))
  obtain ⟨s, hs⟩ : ∃ s, S.length = s := ⟨_, rfl⟩
  have Hs := hidden hs
  rw [hs] at HSR HSC ⊢
  clear R2 HBY hs
  go_wp2_with fail
  refine HSTD.out.mono ?_
  rintro e w3 ⟨rfl, q3, rfl⟩
  have hsz : (s : Int) ≤ (m : Int) + 5 := by have := HSL.out S HSM.out; have := Hs.out; omega
  have HBK := hidden (fun q => back_any (w2.drewN q) a2 c2 A S HSM.out HA.out (by have := Hm.out; omega) (by rw [Hs.out]; exact HSR.out) (by rw [Hs.out]; exact HSC.out) (m : Int) (by have := Hm.out; omega) (by omega))
  rw [Hm.out, Hs.out] at HBK
  go_wp2_with fail
  refine (HBK.out _).mono ?_
  rintro e w4 ⟨a4, c4, rfl, R4⟩
  have HS4 := hidden (show Step (fun _ => False) w w4 from (HS2.out.drewN q3).made R4.out.2)
  have HSR4 := hidden (HSR.out.step ((Step.refl (fun _ => False) w2).drewN q3) (fun _ _ _ _ _ q => q) |>.step R4.out.2 (fun _ _ _ _ _ q => q))
  have HE1 := hidden (same_eq (.slice a4 m c4) (.slice aa m ca) A w4 R4.out.1 (HRA.out.step HS4.out (fun _ _ _ _ _ q => q)) (by have := Hm.out; omega))
  clear R4 HBK HSTD
  go_wp2_with fail
  refine HE1.out.mono ?_
  rintro e w5 ⟨rfl, S5⟩
  have HS5 := hidden (HS4.out.made S5.out)
  have HSR5 := hidden (HSR4.out.step S5.out (fun _ _ _ _ _ q => q))
  have HP5 := hidden (HPS.out w5 (HRA.out.step HS5.out (fun _ _ _ _ _ q => q)))
  clear S5 HE1 HSR4
  go_wp2_with fail
  refine HP5.out.mono ?_
  rintro e w6 ⟨a6, c6, rfl, R6⟩
  have HS6 := hidden (HS5.out.made R6.out.2.1)
  have HSR6 := hidden (HSR5.out.step R6.out.2.1 (fun _ _ _ _ _ q => q))
  have HB6 := hidden (HB2.out w6 (HRA.out.step HS6.out (fun _ _ _ _ _ q => q)) (HT.out.made HS6.out))
  clear R6 HP5 HSR5
  go_wp2_with fail
  refine HB6.out.mono ?_
  rintro e w7 ⟨a7, c7, S', rfl, R7⟩
  obtain rfl := HSM.out.uniq R7.out.1
  have HS7 := hidden (HS6.out.made R7.out.2.2.1)
  have HE2 := hidden (same_eq (.slice a2 s c2) (.slice a7 S.length c7) S w7 (HSR6.out.step R7.out.2.2.1 (fun _ _ _ _ _ q => q)) R7.out.2.1 (by have := HSL.out S HSM.out; omega))
  rw [Hs.out] at HE2 ⊢
  clear R7 HB6
  go_wp2_with fail
  refine HE2.out.mono ?_
  rintro e w8 ⟨rfl, S8⟩
  have HS8 := hidden (HS7.out.made S8.out)
  have HK := hidden (dknown_any w8 (HT.out.made HS8.out))
  go_wp2_with fail
  refine HK.out.mono ?_
  rintro e w9 ⟨rfl, S9⟩
  have HS9 := hidden (HS8.out.made S9)
  clear S9
  go_wp2
  go_ret
  exact ⟨rfl, HS9.out⟩

set_option maxHeartbeats 1000000 in
theorem backlaw_any (aa : Option Addr) (ca : Nat) (A : List Nat) (w : World) (hT : TabD w) (hA : ∀ x ∈ A, x < 256) (ra : Rd w (.slice aa A.length ca) A) (hca : A.length ≤ ca) (ma : A.length ≤ 140737488351232) :
    Calls Tryz.prog 3 #[.slice aa A.length ca] w fun e w' => e = .returned (.bool true) ∧ Step (fun _ => False) w w' := by
  by_cases hl : A.length ≤ 6000
  · exact backlaw_in aa ca A w hT hA ra hca hl
  · generalize A.length = m at *
    have z1 : (6000 : Int) < (m : Int) := by omega
    clear ra
    go_enter Tryz.func3, Tryz.ntmps3
    go_wp2
    go_ret
    exact ⟨rfl, Step.refl _ _⟩

end Go.Proofs.YtcgjmkcigmmjjaaGreatDoor
