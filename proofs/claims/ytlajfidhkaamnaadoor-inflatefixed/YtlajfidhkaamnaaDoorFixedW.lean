/-
  The walk of the law on the fixed codes.
-/
import Derived.Test.YtlajfidhkaamnaaDoorCutsW
import Derived.Test.YtlajfidhkaamnaaDoorAppRd
namespace Go.Proofs.YtlajfidhkaamnaaDoor
open Go.RowKit
set_option maxRecDepth 100000
set_option linter.unusedVariables false

/-- A stream as laid lays it, read with at most so many bytes. -/
theorem fixed_read (w : World) (P : List Nat) (long far : Nat) (most : Int) (hP : ∀ c ∈ P, c < 256) (hl : P.length ≤ 3000) (hlo : long = 0 ∨ (3 ≤ long ∧ long ≤ 10)) (hf1 : 1 ≤ far) (hf2 : far ≤ 4) (v : Value) (ps : List (Nat × Nat)) (hps : ps = laidP P long far) (G : Nat) (hG : (pcL ps + 7) / 8 = G) (hv : Rd w v (bytesOf (pcN ps) G)) (h0 : 0 ≤ most) (h1 : most ≤ 9223372036854775807) :
    Calls Tryd.prog 12 #[v, .int .i64 most] w (BytesE w (laidR P long far most (pcL ps))) := by
  subst hG
  subst hps
  have hL := laidP_len P long far
  have hT := laidT_len long far hlo
  have h9 := lits_len P
  have h19 : pcL (laidT long far) ≤ 19 := by rw [hT]; split <;> omega
  have hB := blk_laid (most := most) P long far 0 [] hP hlo hf1 hf2 (Bt.of 0 (by simp) (laidP_ok P long far) : Bt (pcN (laidP P long far)) ((pcL (laidP P long far) + 7) / 8) 0 _) (by omega) (by simpa using h0) 0
  rw [List.nil_append, Nat.zero_add] at hB
  exact bytes_any v _ _ most 0 _ w hv (by omega) h0 h1 hB

/-- All of it fits. -/
theorem fixed_ok (w : World) (P : List Nat) (long far : Nat) (hP : ∀ c ∈ P, c < 256) (hl : P.length ≤ 3000) (hlo : long = 0 ∨ (3 ≤ long ∧ long ≤ 10)) (hf1 : 1 ≤ far) (hf2 : far ≤ 4) (v : Value) (ps : List (Nat × Nat)) (hps : ps = laidP P long far) (G : Nat) (hG : (pcL ps + 7) / 8 = G) (hv : Rd w v (bytesOf (pcN ps) G)) (hfit : long = 0 ∨ far ≤ P.length) (z : Nat) (hz : z = P.length + long) :
    Calls Tryd.prog 12 #[v, .int .i64 6000] w fun e w' => ∃ ao c, e = .returned (.tuple #[.slice ao z c, .int .i64 (G : Int), .int .i64 0]) ∧ Hid (Rd w' (.slice ao z c) (copyP P far long) ∧ Step (fun _ => False) w w') := by
  refine (fixed_read w P long far 6000 hP hl hlo hf1 hf2 v ps hps G hG hv (by omega) (by omega)).mono fun e w' ⟨hs, h2⟩ => ?_
  have hR : laidR P long far 6000 (pcL ps) = .ok (pcL ps, copyP P far long) := by
    unfold laidR
    rw [if_neg (by omega)]
    by_cases g : long = 0
    · rw [if_pos g, g]; rfl
    · rw [if_neg g, if_neg (by omega), if_pos (by omega)]
  rw [hR] at h2
  obtain ⟨v', he, hr, _⟩ := h2
  obtain ⟨ao, c, hv', h3⟩ := id hr
  have hlen : (copyP P far long).length = z := by rw [copyP_length, hz]
  rw [hlen] at hv'
  subst hv'
  rw [hG] at he
  exact ⟨ao, c, he, hr, hs⟩

/-- One byte less than there is, is too few. -/
theorem fixed_no (w : World) (P : List Nat) (long far : Nat) (hP : ∀ c ∈ P, c < 256) (hl : P.length ≤ 3000) (hlo : long = 0 ∨ (3 ≤ long ∧ long ≤ 10)) (hf1 : 1 ≤ far) (hf2 : far ≤ 4) (ao : Option Addr) (n c : Nat) (ps : List (Nat × Nat)) (hps : ps = laidP P long far) (G : Nat) (hG : (pcL ps + 7) / 8 = G) (hv : Rd w (.slice ao n c) (bytesOf (pcN ps) G)) (hfit : long = 0 ∨ far ≤ P.length) (z : Nat) (hz : z = P.length + long) :
    Calls Tryd.prog 12 #[.slice ao n c, .int .i64 ((z : Int) - 1)] w fun e w' => ∃ x : Nat, e = .returned (.tuple #[.slice none 0 0, .int .i64 0, .int .i64 (x : Int)]) ∧ (z = 0 ∨ x = 5) ∧ Hid (Step (fun _ => False) w w') := by
  by_cases g0 : z = 0
  · exact (bytes_neg _ _ w (by omega) ao n c rfl).mono fun e w' ⟨hs, h1, h2⟩ => ⟨1, h2, .inl g0, hs⟩
  · refine (fixed_read w P long far ((z : Int) - 1) hP hl hlo hf1 hf2 _ ps hps G hG hv (by omega) (by omega)).mono fun e w' ⟨hs, h2⟩ => ?_
    have hR : laidR P long far ((z : Int) - 1) (pcL ps) = .error 5 := by
      unfold laidR
      by_cases g : long = 0
      · rw [if_pos (by omega)]
      · rw [if_neg (by omega), if_neg g, if_neg (by omega), if_neg (by omega)]
    rw [hR] at h2
    exact ⟨5, h2.2, .inr rfl, hs⟩

theorem fixed_far (w : World) (P : List Nat) (long far : Nat) (hP : ∀ c ∈ P, c < 256) (hl : P.length ≤ 3000) (hlo : 3 ≤ long ∧ long ≤ 10) (hf1 : 1 ≤ far) (hf2 : far ≤ 4) (v : Value) (ps : List (Nat × Nat)) (hps : ps = laidP P long far) (G : Nat) (hG : (pcL ps + 7) / 8 = G) (hv : Rd w v (bytesOf (pcN ps) G)) (hfit : P.length < far) :
    Calls Tryd.prog 12 #[v, .int .i64 6000] w fun e w' => e = .returned (.tuple #[.slice none 0 0, .int .i64 0, .int .i64 22]) ∧ Hid (Step (fun _ => False) w w') := by
  refine (fixed_read w P long far 6000 hP hl (.inr hlo) hf1 hf2 v ps hps G hG hv (by omega) (by omega)).mono fun e w' ⟨hs, h2⟩ => ?_
  have hR : laidR P long far 6000 (pcL ps) = .error 22 := by
    unfold laidR
    rw [if_neg (by omega), if_neg (by omega), if_pos hfit]
  rw [hR] at h2
  exact ⟨h2.2, hs⟩

set_option maxHeartbeats 4000000 in
theorem fixed0 (aa : Option Addr) (ca : Nat) (A : List Nat) (far : Nat) (w : World) (hA : ∀ x ∈ A, x < 256) (ra : Rd w (.slice aa A.length ca) A) (hl : A.length ≤ 3000) (hf1 : 1 ≤ far) (hf2 : far ≤ 4) :
    Calls Tryd.prog 5 #[.slice aa A.length ca, .int .i64 0, .int .i64 far] w fun e w' => e = .returned (.bool true) ∧ Step (fun _ => False) w w' := by
  obtain ⟨ps, hps⟩ : ∃ ps, ps = laidP A 0 far := ⟨_, rfl⟩
  obtain ⟨G, hG⟩ : ∃ G, (pcL ps + 7) / 8 = G := ⟨_, rfl⟩
  have HL := hidden (laid_any _ A 0 far w ra hA hl (.inl rfl) hf1 hf2 ps hps)
  rw [hG] at HL
  have HOK := hidden (fun W v z hv hfit hz => fixed_ok W A 0 far hA hl (.inl rfl) hf1 hf2 v ps hps G hG hv hfit z hz)
  have HNO := hidden (fun W ao n c z hv hfit hz => fixed_no W A 0 far hA hl (.inl rfl) hf1 hf2 ao n c ps hps G hG hv hfit z hz)
  have HBY : Hid (∀ k y, y ∈ copyP A far k → y < 256) := hidden (fun k => by
    induction k with
    | zero => exact fun y hy => hA y hy
    | succ k ih =>
      intro y hy
      rcases List.mem_append.1 hy with h | h
      · exact ih y h
      · simp only [List.mem_singleton] at h
        rw [h, List.getD_eq_getElem?_getD]
        cases hq : (copyP A far k)[(copyP A far k).length - far]? with
        | none => simp
        | some q => exact ih q (List.mem_of_getElem? hq))
  have HRa := hidden ra
  obtain ⟨m, hm⟩ : ∃ m, A.length = m := ⟨_, rfl⟩
  rw [hm] at HL HOK HNO HRa hl ⊢
  have Hm := hidden hm
  clear hA ra hm hps hG HBY
  go_enter Tryd.func5, Tryd.ntmps5
  go_wp2_with fail
  refine HL.out.mono ?_
  rintro e w1 ⟨ao1, c1, rfl, W1⟩
  have HRDB := hidden (Rd.of_own W1.out.1)
  have hown := hidden (show (w1.alloc (.cells #[] 5)).ownsRow 0 5 1 (.slice (some ⟨w1.heap.size, 0, none⟩) 0 0) 0 (u8s []) by
    have := World.ownsRow_lit (base := 0) (e := 5) (size := 1) w1 #[] 0 (Nat.zero_le _) (Nat.zero_le _) rfl
    simpa [u8s] using this)
  have HRa1 := hidden (HRa.out.step (W1.out.2.1.alloc (.cells #[] 5)) (fun _ _ _ _ _ h => h))
  go_wp2_with (at_builtin; refine append_bytes rfl (.tmp 44) (.tmp 45) rfl _ _ _ rfl hown.out _ A rfl HRa1.out ?b1 ?_)
  case b1 => have := Hm.out; omega
  intro v2 w2 ho2 hg2 hb2
  have S2 : Step (fun _ => False) w1 w2 := ((Step.refl _ _).alloc _).grown hg2 (fun k hk => .inr (by simp [Value.ownBlock] at hk; omega))
  have hn2 : ∀ g, v2.ownBlock = some g → w1.heap.size ≤ g := by
    intro g hg
    rcases hb2 with e | e
    · rw [e] at hg; simp [Value.ownBlock] at hg; omega
    · rw [e] at hg; have := Option.some.inj hg; simp at *; omega
  obtain ⟨aq2, cq2, hv2⟩ := own_slice ho2
  subst hv2
  have HO2 := hidden ho2
  have HN2 := hidden hn2
  have HS12 := hidden S2
  clear ho2 hg2 hb2 hn2 S2
  have HO3 : Hid (w2.ownsRow 0 5 1 (.slice aq2 m cq2) m (u8s A)) := hidden (by have := HO2.out; simp only [Hm.out] at this; simpa using this)
  have hA2 : A.length = m := Hm.out
  rw [hA2]
  clear HO2 hA2
  go_wp2
  go_loopw [8, 9] (fun u i wr => i = .int .i64 0 ∧ u = .slice aq2 m cq2 ∧ wr = w2) (fun _ i _ => 0)
  case atStart => exact ⟨rfl, rfl, rfl⟩
  case round =>
    obtain ⟨rfl, rfl, rfl⟩ := hrel
    have hfit : Hid (True ∨ far ≤ m) := hidden (.inl trivial)
    have hz2 : Hid (m = m + 0) := hidden rfl
    have HWT := hidden (show Rd wr (.slice aq2 m cq2) (copyP A far 0) from Rd.of_own HO3.out)
    have HS4 := hidden (W1.out.2.1.made HS12.out)
    have HB1 := hidden (HOK.out wr _ m (HRDB.out.step HS12.out (fun _ _ _ _ _ h => h)) hfit.out hz2.out)
    have hzb : m ≤ 4000 := by omega
    have HCL : Hid ((copyP A far 0).length ≤ 100000) := hidden (by rw [copyP_length, Hm.out]; omega)
    go_wp2_with fail
    refine HB1.out.mono ?_
    rintro e w5 ⟨ao5, c5, rfl, W5⟩
    have HB2 := hidden (HNO.out w5 ao1 G c1 m (HRDB.out.step (HS12.out.made W5.out.2) (fun _ _ _ _ _ h => h)) hfit.out hz2.out)
    go_wp2_with fail
    refine HB2.out.mono ?_
    rintro e w6 ⟨x6, rfl, hx6, W6⟩
    have HC := hidden (same_eq (.slice ao5 m c5) (.slice aq2 m cq2) (copyP A far 0) w6 (W5.out.1.step W6.out (fun _ _ _ _ _ h => h)) (HWT.out.step (W5.out.2.made W6.out) (fun _ _ _ _ _ h => h)) HCL.out)
    have HX6 := hidden hx6
    clear hx6
    go_wp2_with fail
    refine HC.out.mono ?_
    rintro e w7 ⟨rfl, W7⟩
    have HS7 := hidden (((HS4.out.made W5.out.2).made W6.out).made W7.out)
    by_cases z0 : m = 0
    · have z1 : ((m : Int) == 0) = true := by rw [z0]; rfl
      have HZ0 := hidden z0
      clear z0
      go_wp2_with fail
      refine (known_any w7).mono ?_
      rintro e w8 ⟨rfl, hk8⟩
      have HS8 := hidden (HS7.out.made hk8)
      clear hk8
      go_wp2
      go_ret
      exact ⟨rfl, HS8.out⟩
    · have z1 : ((m : Int) == 0) = false := by rw [beq_eq_false_iff_ne]; omega
      have x5 : ((x6 : Int) == 5) = true := by rcases HX6.out with h | h; exact absurd h z0; rw [h]; rfl
      go_wp2_with fail
      refine (known_any w7).mono ?_
      rintro e w8 ⟨rfl, hk8⟩
      have HS8 := hidden (HS7.out.made hk8)
      clear hk8
      go_wp2
      go_ret
      exact ⟨rfl, HS8.out⟩

set_option maxHeartbeats 8000000 in
theorem fixed3 (aa : Option Addr) (ca : Nat) (A : List Nat) (long far : Nat) (w : World) (hA : ∀ x ∈ A, x < 256) (ra : Rd w (.slice aa A.length ca) A) (hl : A.length ≤ 3000) (h3 : 3 ≤ long) (h4 : long ≤ 10) (hf1 : 1 ≤ far) (hf2 : far ≤ 4) :
    Calls Tryd.prog 5 #[.slice aa A.length ca, .int .i64 long, .int .i64 far] w fun e w' => e = .returned (.bool true) ∧ Step (fun _ => False) w w' := by
  have hlo : long = 0 ∨ (3 ≤ long ∧ long ≤ 10) := .inr ⟨h3, h4⟩
  obtain ⟨ps, hps⟩ : ∃ ps, ps = laidP A long far := ⟨_, rfl⟩
  obtain ⟨G, hG⟩ : ∃ G, (pcL ps + 7) / 8 = G := ⟨_, rfl⟩
  have HL := hidden (laid_any _ A long far w ra hA hl hlo hf1 hf2 ps hps)
  rw [hG] at HL
  have HOK := hidden (fun W v z hv hfit hz => fixed_ok W A long far hA hl hlo hf1 hf2 v ps hps G hG hv hfit z hz)
  have HNO := hidden (fun W ao n c z hv hfit hz => fixed_no W A long far hA hl hlo hf1 hf2 ao n c ps hps G hG hv hfit z hz)
  have HFAR := hidden (fun W v h3 hv hfit => fixed_far W A long far hA hl h3 hf1 hf2 v ps hps G hG hv hfit)
  have HBY : Hid (∀ k y, y ∈ copyP A far k → y < 256) := hidden (fun k => by
    induction k with
    | zero => exact fun y hy => hA y hy
    | succ k ih =>
      intro y hy
      rcases List.mem_append.1 hy with h | h
      · exact ih y h
      · simp only [List.mem_singleton] at h
        rw [h, List.getD_eq_getElem?_getD]
        cases hq : (copyP A far k)[(copyP A far k).length - far]? with
        | none => simp
        | some q => exact ih q (List.mem_of_getElem? hq))
  have HRa := hidden ra
  obtain ⟨m, hm⟩ : ∃ m, A.length = m := ⟨_, rfl⟩
  rw [hm] at HL HOK HNO HFAR HRa hl ⊢
  have Hm := hidden hm
  clear hA ra hm hps hG hlo
  have l0 : ((long : Int) != 0) = true := by rw [bne_iff_ne]; omega
  go_enter Tryd.func5, Tryd.ntmps5
  go_wp2_with fail
  refine HL.out.mono ?_
  rintro e w1 ⟨ao1, c1, rfl, W1⟩
  have HRDB := hidden (Rd.of_own W1.out.1)
  have hown := hidden (show (w1.alloc (.cells #[] 5)).ownsRow 0 5 1 (.slice (some ⟨w1.heap.size, 0, none⟩) 0 0) 0 (u8s []) by
    have := World.ownsRow_lit (base := 0) (e := 5) (size := 1) w1 #[] 0 (Nat.zero_le _) (Nat.zero_le _) rfl
    simpa [u8s] using this)
  have HRa1 := hidden (HRa.out.step (W1.out.2.1.alloc (.cells #[] 5)) (fun _ _ _ _ _ h => h))
  go_wp2_with (at_builtin; refine append_bytes rfl (.tmp 44) (.tmp 45) rfl _ _ _ rfl hown.out _ A rfl HRa1.out ?b1 ?_)
  case b1 => have := Hm.out; omega
  intro v2 w2 ho2 hg2 hb2
  have S2 : Step (fun _ => False) w1 w2 := ((Step.refl _ _).alloc _).grown hg2 (fun k hk => .inr (by simp [Value.ownBlock] at hk; omega))
  have hn2 : ∀ g, v2.ownBlock = some g → w1.heap.size ≤ g := by
    intro g hg
    rcases hb2 with e | e
    · rw [e] at hg; simp [Value.ownBlock] at hg; omega
    · rw [e] at hg; have := Option.some.inj hg; simp at *; omega
  obtain ⟨aq2, cq2, hv2⟩ := own_slice ho2
  subst hv2
  have HO2 := hidden ho2
  have HN2 := hidden hn2
  have HS12 := hidden S2
  clear ho2 hg2 hb2 hn2 S2
  obtain ⟨K, hK⟩ : ∃ K, K = if far ≤ m then long else 0 := ⟨_, rfl⟩
  have HK := hidden hK
  have HO3 : Hid (w2.ownsRow 0 5 1 (.slice aq2 m cq2) m (u8s A)) := hidden (by have := HO2.out; simp only [Hm.out] at this; simpa using this)
  have hA2 : A.length = m := Hm.out
  rw [hA2]
  clear hK HO2 hA2
  go_wp2
  go_loopw [8, 9] (fun u i wr => ∃ (k z cq : Nat) (aq : Option Addr), i = .int .i64 (k : Int) ∧ k ≤ K ∧ u = .slice aq z cq ∧ Hid (z = m + k ∧ wr.ownsRow 0 5 1 (.slice aq z cq) z (u8s (copyP A far k)) ∧ Step (fun _ => False) w wr ∧ (∀ j, (Value.slice aq z cq).ownBlock = some j → w.heap.size ≤ j) ∧ Step (fun _ => False) w1 wr ∧ (∀ j, (Value.slice aq z cq).ownBlock = some j → w1.heap.size ≤ j))) (fun _ i _ => K - (intOf i).toNat)
  case atStart => exact ⟨0, m, cq2, aq2, rfl, Nat.zero_le _, rfl, rfl, HO3.out, W1.out.2.1.made HS12.out, fun j hj => Nat.le_trans W1.out.2.1.size (HN2.out j (by rw [Hm.out]; exact hj)), HS12.out, fun j hj => HN2.out j (by rw [Hm.out]; exact hj)⟩
  case round =>
    obtain ⟨k, z, cq, aq, rfl, hk, rfl, HH⟩ := hrel
    have HS14 := hidden HH.out.2.2.2.2.1
    by_cases hlt : k < K
    · have hfm : far ≤ m := by
        apply Classical.byContradiction
        intro hc
        have := HK.out
        rw [if_neg hc] at this
        omega
      have hKl : K = long := by rw [HK.out, if_pos hfm]
      have hzk : z = m + k := HH.out.1
      have hkl : k < long := by omega
      have hrd := Rd.of_own HH.out.2.1
      have hcl : (copyP A far k).length = z := by rw [copyP_length, Hm.out, hzk]
      have hne : copyP A far k ≠ [] := by intro e; rw [e] at hcl; simp at hcl; omega
      obtain ⟨ar, cr, er, h1r, h2r⟩ := hrd
      injection er with er1 er2 er3
      subst er1
      cases aq with
      | none => exact absurd (h1r rfl).1 hne
      | some a =>
        obtain ⟨bq, oq, rfl, hcell⟩ := h2r a rfl hne
        obtain ⟨j, hj⟩ : ∃ j, j = z - far := ⟨_, rfl⟩
        have cx := hcell j (by omega)
        have hji : (z : Int) - (far : Int) = (j : Int) := by omega
        have hx256 : Hid ((copyP A far k).getD j 0 < 256) := hidden (HBY.out k _ (by
          have hjl : j < (copyP A far k).length := by omega
          simp [List.getD, hjl]))
        have hnx : Hid (copyP A far (k + 1) = copyP A far k ++ [(copyP A far k).getD j 0]) := hidden (by rw [hj, ← hcl]; rfl)
        generalize (copyP A far k).getD j 0 = x at *
        have j0 : (0 : Int) ≤ (j : Int) := by omega
        have j1 : (j : Int) < (z : Int) := by omega
        have HO := hidden (HH.out.2.1.alloc (.cells #[.int .u8 (x : Int)] 5))
        have HRX := hidden (Rd.lit' wr x)
        have HHH := hidden HH.out
        have hzb : z ≤ 4000 := by omega
        have hzA : m + k ≤ z := by omega
        have hzB : z ≤ m + k := by omega
        clear HH hcell h1r h2r hne hcl er2 er3 hj hKl hzk
        go_wp2_with (at_builtin; refine append_bytes rfl (.tmp 58) (.tmp 66) rfl _ _ _ rfl HO.out _ [x] rfl HRX.out ?d1 ?_)
        case d1 => omega
        intro v3 w3 ho3 hg3 hb3
        have HG3 := hidden (And.intro ho3 (And.intro hg3 hb3))
        obtain ⟨aq3, cq3, hv3⟩ := own_slice ho3
        subst hv3
        clear ho3 hg3 hb3
        go_wp2
        go_roundw
        case rel =>
          obtain ⟨y1, y2, y3, y4, y5, y6⟩ := HHH.out
          obtain ⟨x1, x2, x3⟩ := HG3.out
          have hal : (wr.alloc (.cells #[.int .u8 (x : Int)] 5)).heap.size = wr.heap.size + 1 := Array.size_push _
          have z1 := y3.size
          have z2 := y5.size
          refine ⟨k + 1, z + 1, cq3, aq3, by go_num, by omega, rfl, by omega, by rw [hnx.out]; exact x1, (y3.alloc _).grown x2 (fun q hq => .inr (y4 q hq)), fun q hq => ?_, (y5.alloc _).grown x2 (fun q hq => .inr (y6 q hq)), fun q hq => ?_⟩
          · rcases x3 with e | e
            · exact y4 q (by rw [← e]; exact hq)
            · have e2 := e.symm.trans hq; have := Option.some.inj e2; omega
          · rcases x3 with e | e
            · exact y6 q (by rw [← e]; exact hq)
            · have e2 := e.symm.trans hq; have := Option.some.inj e2; omega
        case measure => simp [intOf]; omega
    · have hkK : k = K := by omega
      by_cases hfm : far ≤ m
      · have hkl : k = long := by rw [hkK, HK.out, if_pos hfm]
        subst hkl
        have hbad : ¬ (k : Int) < (k : Int) := by omega
        have hfi : (far : Int) ≤ (m : Int) := by omega
        have hfit : Hid (k = 0 ∨ far ≤ m) := hidden (.inr hfm)
        clear hkK hlt hk
        have hz2 : Hid (z = m + k) := hidden (by rw [HH.out.1])
        have HWT := hidden (show Rd wr (.slice aq z cq) (copyP A far k) by have := Rd.of_own HH.out.2.1; exact this)
        have HS4 := hidden HH.out.2.2.1
        have HB1 := hidden (HOK.out wr _ z (HRDB.out.step HS14.out (fun _ _ _ _ _ h => h)) hfit.out hz2.out)
        have hzb : z ≤ 4000 := by have := hz2.out; omega
        have HCL : Hid ((copyP A far k).length ≤ 100000) := hidden (by rw [copyP_length, Hm.out]; omega)
        go_wp2_with fail
        refine HB1.out.mono ?_
        rintro e w5 ⟨ao5, c5, rfl, W5⟩
        have HB2 := hidden (HNO.out w5 ao1 G c1 z (HRDB.out.step (HS14.out.made W5.out.2) (fun _ _ _ _ _ h => h)) hfit.out hz2.out)
        go_wp2_with fail
        refine HB2.out.mono ?_
        rintro e w6 ⟨x6, rfl, hx6, W6⟩
        have HC := hidden (same_eq (.slice ao5 z c5) (.slice aq z cq) (copyP A far k) w6 (W5.out.1.step W6.out (fun _ _ _ _ _ h => h)) (HWT.out.step (W5.out.2.made W6.out) (fun _ _ _ _ _ h => h)) HCL.out)
        have HX6 := hidden hx6
        clear hx6
        go_wp2_with fail
        refine HC.out.mono ?_
        rintro e w7 ⟨rfl, W7⟩
        have HS7 := hidden (((HS4.out.made W5.out.2).made W6.out).made W7.out)
        by_cases z0 : z = 0
        · have z1 : ((z : Int) == 0) = true := by rw [z0]; rfl
          have HZ0 := hidden z0
          clear z0
          go_wp2_with fail
          refine (known_any w7).mono ?_
          rintro e w8 ⟨rfl, hk8⟩
          have HS8 := hidden (HS7.out.made hk8)
          clear hk8
          go_wp2
          go_ret
          exact ⟨rfl, HS8.out⟩
        · have z1 : ((z : Int) == 0) = false := by rw [beq_eq_false_iff_ne]; omega
          have x5 : ((x6 : Int) == 5) = true := by rcases HX6.out with h | h; exact absurd h z0; rw [h]; rfl
          go_wp2_with fail
          refine (known_any w7).mono ?_
          rintro e w8 ⟨rfl, hk8⟩
          have HS8 := hidden (HS7.out.made hk8)
          clear hk8
          go_wp2
          go_ret
          exact ⟨rfl, HS8.out⟩
      · have hK0 : K = 0 := by rw [HK.out, if_neg hfm]
        have hk0 : k = 0 := by omega
        subst hk0
        have hfi : ¬ (far : Int) ≤ (m : Int) := by omega
        have hfi2 : (m : Int) < (far : Int) := by omega
        have hl0 : (0 : Int) < (long : Int) := by omega
        have HB1 := hidden (HFAR.out wr (.slice ao1 G c1) ⟨h3, h4⟩ (HRDB.out.step HS14.out (fun _ _ _ _ _ h => h)) (by omega))
        have HS4 := hidden HH.out.2.2.1
        clear hkK hlt hk hK0
        go_wp2_with fail
        refine HB1.out.mono ?_
        rintro e w5 ⟨rfl, W5⟩
        go_wp2_with fail
        refine (known_any w5).mono ?_
        rintro e w8 ⟨rfl, hk8⟩
        have HS8 := hidden ((HS4.out.made W5.out).made hk8)
        clear hk8
        go_wp2
        go_ret
        exact ⟨rfl, HS8.out⟩

set_option maxHeartbeats 4000000 in
theorem fixed_out (aa : Option Addr) (m ca : Nat) (long far : Int) (w : World) (hm : m ≤ 140737488351232) (h : 3000 < m ∨ (long ≠ 0 ∧ long < 3) ∨ 10 < long ∨ far < 1 ∨ 4 < far) :
    Calls Tryd.prog 5 #[.slice aa m ca, .int .i64 long, .int .i64 far] w fun e w' => e = .returned (.bool true) ∧ Step (fun _ => False) w w' := by
  by_cases g1 : (3000 : Int) < (m : Int)
  · clear h
    go_enter Tryd.func5, Tryd.ntmps5
    go_wp2_with fail
    refine (known_any w).mono ?_
    rintro e w1 ⟨rfl, h1⟩
    have H1 := hidden h1
    clear h1
    go_wp2
    go_ret
    exact ⟨rfl, H1.out⟩
  · by_cases g2 : long = 0
    · subst g2
      by_cases g3 : far < 1
      · clear h
        go_enter Tryd.func5, Tryd.ntmps5
        go_wp2_with fail
        refine (known_any w).mono ?_
        rintro e w1 ⟨rfl, h1⟩
        have H1 := hidden h1
        clear h1
        go_wp2
        go_ret
        exact ⟨rfl, H1.out⟩
      · have g4 : 4 < far := by omega
        clear h
        go_enter Tryd.func5, Tryd.ntmps5
        go_wp2_with fail
        refine (known_any w).mono ?_
        rintro e w1 ⟨rfl, h1⟩
        have H1 := hidden h1
        clear h1
        go_wp2
        go_ret
        exact ⟨rfl, H1.out⟩
    · have l0 : (long != 0) = true := by rw [bne_iff_ne]; exact g2
      by_cases g3 : long < 3
      · clear h
        go_enter Tryd.func5, Tryd.ntmps5
        go_wp2_with fail
        refine (known_any w).mono ?_
        rintro e w1 ⟨rfl, h1⟩
        have H1 := hidden h1
        clear h1
        go_wp2
        go_ret
        exact ⟨rfl, H1.out⟩
      · by_cases g4 : 10 < long
        · clear h
          go_enter Tryd.func5, Tryd.ntmps5
          go_wp2_with fail
          refine (known_any w).mono ?_
          rintro e w1 ⟨rfl, h1⟩
          have H1 := hidden h1
          clear h1
          go_wp2
          go_ret
          exact ⟨rfl, H1.out⟩
        · by_cases g5 : far < 1
          · clear h
            go_enter Tryd.func5, Tryd.ntmps5
            go_wp2_with fail
            refine (known_any w).mono ?_
            rintro e w1 ⟨rfl, h1⟩
            have H1 := hidden h1
            clear h1
            go_wp2
            go_ret
            exact ⟨rfl, H1.out⟩
          · have g6 : 4 < far := by omega
            clear h
            go_enter Tryd.func5, Tryd.ntmps5
            go_wp2_with fail
            refine (known_any w).mono ?_
            rintro e w1 ⟨rfl, h1⟩
            have H1 := hidden h1
            clear h1
            go_wp2
            go_ret
            exact ⟨rfl, H1.out⟩

end Go.Proofs.YtlajfidhkaamnaaDoor
