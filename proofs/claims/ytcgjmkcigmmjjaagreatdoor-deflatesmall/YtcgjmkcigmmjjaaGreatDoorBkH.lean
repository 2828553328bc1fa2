/-
  What a block begins with; how many bytes it has as it is.
-/
import Derived.Test.YtcgjmkcigmmjjaaGreatDoorBkG
import Derived.StillTailTactics
import Derived.Deep.RegionLaw
import Derived.Lib.SmallJoins
import Derived.Deep.DeepCutAuto

namespace Go.Proofs.YtcgjmkcigmmjjaaGreatDoor
open Go.RowKit
set_option maxRecDepth 100000
theorem cd_facts {L : List Int} (h : codeErr L = 0) {s : Nat} (hp : 0 < L.getD s 0) : s < L.length ∧ ∃ nv cv : Nat, L.getD s 0 = (nv : Int) ∧ (codes L).getD s 0 = (cv : Int) ∧ nv ≤ 15 ∧ cv < 2 ^ nv ∧ cdP L s = (rv cv nv nv, nv) := by
  have hs := getD_pos_lt hp
  obtain ⟨h1, h2, _⟩ := codeErr_ok h
  have hb := ((okB_iff L).1 h1).2 (L.getD s 0) (by rw [getD_i L s hs]; exact List.getElem_mem hs)
  obtain ⟨nv, hn⟩ := Int.eq_ofNat_of_zero_le (show 0 ≤ L.getD s 0 by omega)
  obtain ⟨cv, hc⟩ := Int.eq_ofNat_of_zero_le (codeOf_nonneg L s)
  have hlt := (code_lt L s nv hs hn (by omega) (by omega) h2).2
  refine ⟨hs, nv, cv, hn, by rw [codes_getD L s hs, hc], by omega, ?_, ?_⟩
  · rw [hc] at hlt
    have : ((cv : Nat) : Int) < ((2 ^ nv : Nat) : Int) := by rw [Int.natCast_pow]; exact hlt
    omega
  · unfold cdP
    rw [hn, hc]
    simp

theorem lay_c (w : World) (b : Nat) (ps : List (Nat × Nat)) (G : Nat → Prop) (h : Wc w b ps G) (hG : ∀ k, G k → k < w.heap.size) (hL : pcL ps ≤ 900000000)
    (vl vn : Value) (L : List Int) (rl : Ri w vl L) (rn : Ri w vn (codes L)) (hc : codeErr L = 0) (hl : L.length ≤ 1000) (s m k : Nat) (hp : 0 < L.getD s 0) (hk : k ≤ 24) (hm : m < 2 ^ k) :
    Calls Tryz.prog 67 #[.agg #[vl, vn], .pointer (some ⟨b, 0, none⟩), spV s m k] w fun e w' => (∃ u, e = .returned u) ∧ Hid (Wc w' b (ps ++ [cdP L s, (m, k)]) G ∧ Step (fun k => ¬ G k) w w') := by
  obtain ⟨hs, nv, cv, e1, e2, h15, hcv, hcd⟩ := cd_facts hc hp
  obtain ⟨al, cl, e⟩ := Ri.slice rl
  subst e
  obtain ⟨an, cn, e⟩ := Ri.slice rn
  subst e
  rw [hcd]
  exact (clay_any w b ps G h hG hL al an _ _ cl cn L (codes L) rl rn s m k cv nv hs (by rw [codes_length]; exact hs) hl (by rw [codes_length]; exact hl) e1 e2 h15 hcv hk hm).mono fun e w' ⟨hu, h1, h2⟩ => ⟨hu, h1, h2⟩

/-- What is laid of a heading. -/
def hdP (C : List Int) (a d k : Nat) (xs : List Sp) : List (Nat × Nat) := (a - 257, 5) :: (d - 1, 5) :: (k - 4, 4) :: (orP C 0 k ++ spsP C xs)

theorem spsP_take (C : List Int) (xs : List Sp) (i : Nat) (x : Sp) (h : xs[i]? = some x) : spsP C (xs.take (i + 1)) = spsP C (xs.take i) ++ [cdP C x.s, (x.m, x.b)] := by
  rw [List.take_add_one, h]
  simp [spsP, spP]

theorem spsP_len (C : List Int) (xs : List Sp) (hC : ∀ i, C.getD i 0 ≤ 15) (hx : ∀ x ∈ xs, x.b ≤ 7) : ∀ i, pcL (spsP C (xs.take i)) ≤ 22 * i := by
  intro i
  induction i with
  | zero => simp [spsP, pcL]
  | succ i ih =>
    cases h : xs[i]? with
    | none =>
      have : xs.take (i + 1) = xs.take i := by rw [List.take_add_one, h]; simp
      rw [this]; omega
    | some x =>
      rw [spsP_take C xs i x h, pcL_append]
      have h1 := hx x (List.mem_of_getElem? h)
      have h2 := hC x.s
      have : pcL [cdP C x.s, (x.m, x.b)] = (C.getD x.s 0).toNat + (x.b + 0) := rfl
      omega

theorem orP_le (C : List Int) (k : Nat) : pcL (orP C 0 k) = 3 * k := orP_len C 0 k

theorem Hd.c {w : World} {p a d k : Nat} {xs : List Sp} {O C : List Int} (h : Hd w p a d k xs O C) : w.cell? ⟨p, 0, none⟩ = some (.int .i64 (a : Int)) ∧ w.cell? ⟨p, 1, none⟩ = some (.int .i64 (d : Int)) ∧ w.cell? ⟨p, 2, none⟩ = some (.int .i64 (k : Int)) := by
  obtain ⟨sv, ov, vl, vu, hv, _⟩ := h.at'
  exact ⟨(hv 0 _ rfl).1, (hv 1 _ rfl).1, (hv 2 _ rfl).1⟩

theorem Hd.r {w : World} {p a d k : Nat} {xs : List Sp} {O C : List Int} (h : Hd w p a d k xs O C) : ∃ sv al cl au cu, w.cell? ⟨p, 3, none⟩ = some sv ∧ w.ownsRow 0 89 3 sv xs.length (spCs xs) ∧ w.cell? ⟨p, 5, none⟩ = some (.slice al C.length cl) ∧ w.cell? ⟨p, 6, none⟩ = some (.slice au C.length cu) ∧ Ri w (.slice al C.length cl) C ∧ Ri w (.slice au C.length cu) (codes C) := by
  obtain ⟨sv, ov, vl, vu, hv, h1, _, h3, h4⟩ := h.at'
  obtain ⟨al, cl, e⟩ := Ri.slice h3
  subst e
  obtain ⟨au, cu, e⟩ := Ri.slice h4
  subst e
  rw [codes_length] at h4 hv
  exact ⟨sv, al, cl, au, cu, (hv 3 _ rfl).1, h1, (hv 5 _ rfl).1, (hv 6 _ rfl).1, h3, h4⟩

theorem Hd.same {w : World} {G : Nat → Prop} {p a d k : Nat} {xs : List Sp} {O C : List Int} (H : ∀ w', Step (fun k => ¬ G k) w w' → Hd w' p a d k xs O C) (hp : G p) : ∃ sv al cl au cu, ∀ w', Step (fun k => ¬ G k) w w' → w'.cell? ⟨p, 3, none⟩ = some sv ∧ w'.ownsRow 0 89 3 sv xs.length (spCs xs) ∧ w'.cell? ⟨p, 5, none⟩ = some (.slice al C.length cl) ∧ w'.cell? ⟨p, 6, none⟩ = some (.slice au C.length cu) ∧ Ri w' (.slice al C.length cl) C ∧ Ri w' (.slice au C.length cu) (codes C) := by
  obtain ⟨sv, al, cl, au, cu, c3, _, c5, c6, _⟩ := (H w (Step.refl _ w)).r
  refine ⟨sv, al, cl, au, cu, fun w' hs => ?_⟩
  obtain ⟨sv', al', cl', au', cu', d3, o3, d5, d6, r5, r6⟩ := (H w' hs).r
  have e3 := hs.cell c3 (fun q => q hp)
  have e5 := hs.cell c5 (fun q => q hp)
  have e6 := hs.cell c6 (fun q => q hp)
  rw [d3] at e3
  rw [d5] at e5
  rw [d6] at e6
  rw [Option.some.inj e3] at d3 o3
  rw [Option.some.inj e5] at d5 r5
  rw [Option.some.inj e6] at d6 r6
  exact ⟨d3, o3, d5, d6, r5, r6⟩

set_option maxHeartbeats 4000000 in
theorem hlay_any (w : World) (b : Nat) (ps : List (Nat × Nat)) (G : Nat → Prop) (h : Wc w b ps G) (hG : ∀ k, G k → k < w.heap.size) (hL : pcL ps ≤ 800000000) (p a d k : Nat) (xs : List Sp) (O C : List Int)
    (H : ∀ w', Step (fun k => ¬ G k) w w' → Hd w' p a d k xs O C ∧ TabD w') (hp : G p) (hc : codeErr C = 0) (lC : C.length = 19) (c7 : ∀ i, 0 ≤ C.getD i 0 ∧ C.getD i 0 ≤ 7)
    (a1 : 257 ≤ a) (a2 : a ≤ 286) (d1 : 1 ≤ d) (d2 : d ≤ 30) (k1 : 4 ≤ k) (k2 : k ≤ 19) (hxl : xs.length ≤ 400) (hx : ∀ x ∈ xs, x.m < 2 ^ x.b ∧ x.s < 19 ∧ x.b ≤ 7) (hxc : ∀ x ∈ xs, 0 < C.getD x.s 0) :
    Calls Tryz.prog 39 #[.pointer (some ⟨p, 0, none⟩), .pointer (some ⟨b, 0, none⟩)] w fun e w' => (∃ u, e = .returned u) ∧ Hid (Wc w' b (ps ++ hdP C a d k xs) G ∧ Step (fun k => ¬ G k) w w') := by
  obtain ⟨x1, hx1⟩ : ∃ x, a = x + 257 := ⟨a - 257, by omega⟩
  obtain ⟨x2, hx2⟩ : ∃ x, d = x + 1 := ⟨d - 1, by omega⟩
  obtain ⟨x3, hx3⟩ : ∃ x, k = x + 4 := ⟨k - 4, by omega⟩
  have s1 : (a : Int) - 257 = (x1 : Int) := by omega
  have s2 : (d : Int) - 1 = (x2 : Int) := by omega
  have s3 : (k : Int) - 4 = (x3 : Int) := by omega
  have HP1 := hidden (fun wx (hx : Wc wx b ps G) (hz : w.heap.size ≤ wx.heap.size) => put_c b ps G x1 5 wx hx (fun k hk => by have := hG k hk; omega) (by omega) (by show x1 < 32; omega) (by omega))
  have HP2 := hidden (fun wx (hx : Wc wx b (ps ++ [(x1, 5)]) G) (hz : w.heap.size ≤ wx.heap.size) => put_c b (ps ++ [(x1, 5)]) G x2 5 wx hx (fun k hk => by have := hG k hk; omega) (by omega) (by show x2 < 32; omega) (by rw [pcL_append]; simp [pcL]; omega))
  have HP3 := hidden (fun wx (hx : Wc wx b (ps ++ [(x1, 5)] ++ [(x2, 5)]) G) (hz : w.heap.size ≤ wx.heap.size) => put_c b (ps ++ [(x1, 5)] ++ [(x2, 5)]) G x3 4 wx hx (fun k hk => by have := hG k hk; omega) (by omega) (by show x3 < 16; omega) (by rw [pcL_append, pcL_append]; simp [pcL]; omega))
  obtain ⟨PS, hPS⟩ : ∃ PS, ps ++ [(x1, 5)] ++ [(x2, 5)] ++ [(x3, 4)] = PS := ⟨_, rfl⟩
  have HPS := hidden (show pcL PS = pcL ps + 14 by rw [← hPS, pcL_append, pcL_append, pcL_append]; simp [pcL])
  have HPE := hidden (show ps ++ hdP C a d k xs = PS ++ (orP C 0 k ++ spsP C xs) by
    rw [← hPS]; unfold hdP
    rw [show a - 257 = x1 by omega, show d - 1 = x2 by omega, show k - 4 = x3 by omega]
    simp)
  have HH := hidden H
  obtain ⟨c0, c1, c2⟩ := (H w (Step.refl _ w)).1.c
  obtain ⟨sv, al, cl, au, cu, hvv⟩ := Hd.same (fun w' hs => (H w' hs).1) hp
  obtain ⟨so, sc, hso⟩ := row3_form spC xs (hvv w (Step.refl _ w)).2.1
  subst hso
  have HV := hidden hvv
  have HG := hidden hG
  have HL := hidden hL
  have HX := hidden hx
  have HXC := hidden hxc
  have HC := hidden (And.intro hc (And.intro lC c7))
  have HW := hidden h
  have Hk := hidden hx3
  have Hadk := hidden (And.intro hx1 hx2)
  clear h hG hL H hvv hc lC c7 hx hxc hx1 hx2 hx3
  go_enter Tryz.func39, Tryz.ntmps39
  go_wp2_with fail
  refine (HP1.out w HW.out (Nat.le_refl _)).mono ?_
  rintro e w1 ⟨rfl, R1⟩
  obtain ⟨c0, c1, c2⟩ := (HH.out w1 R1.out.2).1.c
  go_wp2_with fail
  refine (HP2.out w1 R1.out.1 R1.out.2.size).mono ?_
  rintro e w2 ⟨rfl, R2⟩
  have HS2 := hidden (R1.out.2.trans R2.out.2 (fun i hi => .inl hi))
  obtain ⟨c0, c1, c2⟩ := (HH.out w2 HS2.out).1.c
  go_wp2_with fail
  refine (HP3.out w2 R2.out.1 HS2.out.size).mono ?_
  rintro e w3 ⟨rfl, R3⟩
  have HS3 := hidden (HS2.out.trans R3.out.2 (fun i hi => .inl hi))
  have HW3 := hidden (show Wc w3 b PS G by rw [← hPS]; exact R3.out.1)
  obtain ⟨c0, c1, c2⟩ := (HH.out w3 HS3.out).1.c
  clear R1 R2 R3 HS2 HP1 HP2 HP3 hPS
  go_wp2_with fail
  have Hk19 := hidden k2
  go_loopw [32] (fun iv wr => ∃ i : Nat, iv = .int .i64 (i : Int) ∧ i ≤ k ∧ Hid (Wc wr b (PS ++ orP C 0 i) G ∧ Step (fun k => ¬ G k) w wr)) (fun iv _ => k - (RowKit.intOf iv).toNat)
  case atStart => exact ⟨0, rfl, Nat.zero_le _, hidden ⟨by simpa [orP] using HW3.out, HS3.out⟩⟩
  case round =>
    obtain ⟨i, rfl, hi, HR⟩ := hrel
    obtain ⟨c3, o3, c5, c6, r5, r6⟩ := HV.out wr HR.out.2
    by_cases hik : i < k
    · have i1 : (i : Int) < (k : Int) := by omega
      have i0 : (0 : Int) ≤ (i : Int) := by omega
      have i19 : (i : Int) < 19 := by omega
      have eo := (HH.out wr HR.out.2).2 i (by omega)
      have o19 := ord_lt i
      obtain ⟨o, ho⟩ : ∃ o, ord i = o := ⟨_, rfl⟩
      obtain ⟨bv, ov, hav, _, ec⟩ := r5.at (k := o) (by rw [HC.out.2.1, ← ho]; exact o19)
      subst hav
      rw [ho] at eo o19
      have o0 : (0 : Int) ≤ (o : Int) := by omega
      have o1 : (o : Int) < 19 := by omega
      obtain ⟨z, hz⟩ : ∃ z : Nat, C.getD o 0 = (z : Int) := ⟨(C.getD o 0).toNat, by have := HC.out.2.2 o; omega⟩
      have hz7 : z ≤ 7 := by have := HC.out.2.2 o; omega
      rw [HC.out.2.1] at c5
      rw [hz] at ec
      have HOS := hidden (show orP C 0 (i + 1) = orP C 0 i ++ [(z, 3)] by rw [orP_snoc, Nat.zero_add, ho, hz]; rfl)
      have HPT := hidden (fun wx (hx : Step (fun _ => False) wr wx) => put_c b (PS ++ orP C 0 i) G z 3 wx ((HR.out.1.made hx).less (G := G) (fun k hk => .inl hk)) (fun k hk => by have := HG.out k hk; have := HR.out.2.size; have := hx.size; omega) (by omega) (by show z < 8; omega) (by rw [pcL_append, orP_le, HPS.out]; have := HL.out; have := Hk19.out; omega))
      clear c3 o3 c6 r5 r6 ho hz hz7
      go_upto_region 6 with fail
      refine wp_region_still_tail 11 Tryz.mixed (by kernel_rfl) ?_
      simp only [List.take_succ_cons, List.take_zero, List.drop_succ_cons, List.drop_zero]
      change wpStill _ _ (World.drew _) _ _ _
      iterate 11 still_step
      refine wpStill_nil ?_
      go_wp2_with fail
      refine (HPT.out _ ((Step.refl _ _).drew)).mono ?_
      rintro e w4 ⟨rfl, R4⟩
      have HW4 := hidden (show Wc w4 b (PS ++ orP C 0 (i + 1)) G ∧ Step (fun k => ¬ G k) w w4 from ⟨by rw [HOS.out, ← List.append_assoc]; exact R4.out.1, HR.out.2.trans (((Step.refl _ wr).drew).trans R4.out.2 (fun i hi => .inl hi)) (fun i hi => .inl hi)⟩)
      clear R4 HPT HR
      go_wp2_with fail
      go_roundw
      case rel => exact ⟨i + 1, by go_num, by omega, HW4.out⟩
      case measure => simp [RowKit.intOf]; omega
    · have hik2 : i = k := by omega
      have i1 : ¬ ((i : Int) < (k : Int)) := by omega
      subst hik2
      obtain ⟨n, hn⟩ : ∃ n, xs.length = n := ⟨_, rfl⟩
      have Hn := hidden hn
      rw [hn] at c3 hxl
      have HPS2 := hidden (show pcL (PS ++ orP C 0 i) ≤ pcL ps + 71 by rw [pcL_append, orP_le, HPS.out]; have := Hk19.out; omega)
      obtain ⟨PT, hPT⟩ : ∃ PT, PS ++ orP C 0 i = PT := ⟨_, rfl⟩
      rw [hPT] at HR HPS2
      have HPE2 := hidden (show ps ++ hdP C a d i xs = PT ++ spsP C xs by rw [HPE.out, ← hPT, List.append_assoc])
      clear o3 c5 c6 r5 r6 hn hik hPT HPS HPE HW3 HS3 HW
      go_wp2_with fail
      go_loopw [53] (fun jv wr => ∃ j : Nat, jv = .int .i64 (j : Int) ∧ j ≤ n ∧ Hid (Wc wr b (PT ++ spsP C (xs.take j)) G ∧ Step (fun k => ¬ G k) w wr)) (fun jv _ => n - (RowKit.intOf jv).toNat)
      case atStart =>
        refine ⟨0, rfl, Nat.zero_le _, hidden ⟨by simpa [spsP] using HR.out.1, ?_⟩⟩
        first | exact HR.out.2 | exact HR.out.2.drewN _
      case round =>
        obtain ⟨j, rfl, hj, HQ⟩ := hrel
        clear c0 c1 c2 c3
        by_cases hjn : j < n
        · have j1 : (j : Int) < (n : Int) := by omega
          have j0 : (0 : Int) ≤ (j : Int) := by omega
          obtain ⟨x, hx⟩ : ∃ x, xs[j]? = some x := ⟨xs[j]'(by rw [Hn.out]; exact hjn), List.getElem?_eq_getElem _⟩
          obtain ⟨c3, o3, c5, c6, r5, r6⟩ := HV.out wr HQ.out.2
          obtain ⟨gs, cap, hg, hr⟩ := row3_at spC spC_len xs o3 j x hx
          injection hg with hg1 hg2 hg3
          subst hg1
          subst hg3
          have HRG := hidden (show wr.rangeAt gs (3 * j) [.int .i64 (x.s : Int), .int .i64 (x.m : Int), .int .i64 (x.b : Int)] from hr)
          have HTK := hidden (spsP_take C xs j x hx)
          have HXM := hidden (And.intro (HX.out x (List.mem_of_getElem? hx)) (HXC.out x (List.mem_of_getElem? hx)))
          obtain ⟨W2, hW2⟩ : ∃ W2, wr.alloc (.cells #[.int .i64 0, .int .i64 0, .int .i64 0] 89) = W2 := ⟨_, rfl⟩
          obtain ⟨B2, hB2⟩ : ∃ B2, wr.heap.size = B2 := ⟨_, rfl⟩
          have HV2 := hidden (show Sv W2 B2 (spL 0 0 0) by rw [← hW2, ← hB2]; exact Sv.new wr _ _)
          have HS2 := hidden (show Step (fun _ => False) wr W2 by rw [← hW2]; exact (Step.refl _ _).alloc _)
          have HB2 := hidden hB2
          have t0 : wr.cell? ⟨gs, j * 3, none⟩ = some (.int .i64 (x.s : Int)) := by rw [Nat.mul_comm]; exact HRG.out 0 _ rfl
          have t1 : wr.cell? ⟨gs, j * 3 + 1, none⟩ = some (.int .i64 (x.m : Int)) := by rw [Nat.mul_comm]; exact HRG.out 1 _ rfl
          have t2 : wr.cell? ⟨gs, j * 3 + 2, none⟩ = some (.int .i64 (x.b : Int)) := by rw [Nat.mul_comm]; exact HRG.out 2 _ rfl
          have HLE := hidden (spsP_len C xs (fun i => by have := HC.out.2.2 i; omega) (fun x hx => (HX.out x hx).2.2) j)
          rw [HC.out.2.1] at c5 c6 r5 r6
          have HR56 := hidden (And.intro r5 r6)
          clear hr hx c3 o3 hg2 r5 r6
          go_wp2_with (refine store_sv B2 (spL 0 0 0) (spL x.s x.m x.b) rfl Tryz.infoSp (spL_one _ _ _) rfl rfl HV2.out ?_)
          intro w8 S8 V8
          have HS8 := hidden (HS2.out.trans S8 (fun i hi => .inr (by have := HB2.out; omega)))
          have u0 := (V8 0 _ rfl).1
          have u1 := (V8 1 _ rfl).1
          have u2 := (V8 2 _ rfl).1
          have c5 := HS8.out.cell c5 (fun h => h)
          have c6 := HS8.out.cell c6 (fun h => h)
          have HLY := hidden (fun wx (hx : Step (fun _ => False) w8 wx) => lay_c wx b (PT ++ spsP C (xs.take j)) G ((HQ.out.1.made (HS8.out.made hx)).less (G := G) (fun k hk => .inl hk)) (fun k hk => by have := HG.out k hk; have := HQ.out.2.size; have := HS8.out.size; have := hx.size; omega) (by rw [pcL_append]; have := HPS2.out; have := HLE.out; have := HL.out; omega) (.slice al 19 cl) (.slice au 19 cu) C (HR56.out.1.made (HS8.out.made hx)) (HR56.out.2.made (HS8.out.made hx)) HC.out.1 (by rw [HC.out.2.1]; omega) x.s x.m x.b HXM.out.2 (by have := HXM.out.1.2.2; omega) HXM.out.1.1)
          clear S8 V8 HV2 HS2 hW2 hB2 t0 t1 t2 HRG
          go_upto_region 11 with fail
          refine wp_region_still_tail 6 Tryz.mixed (by kernel_rfl) ?_
          simp only [List.take_succ_cons, List.take_zero, List.drop_succ_cons, List.drop_zero]
          change wpStill _ _ (World.drew _) _ _ _
          iterate 6 still_step
          refine wpStill_nil ?_
          go_wp2_with fail
          refine (HLY.out _ ((Step.refl _ _).drew)).mono ?_
          rintro e w9 ⟨⟨u9, rfl⟩, R9⟩
          have HW9 := hidden (show Wc w9 b (PT ++ spsP C (xs.take (j + 1))) G ∧ Step (fun k => ¬ G k) w w9 from ⟨by rw [HTK.out, ← List.append_assoc]; exact R9.out.1, HQ.out.2.trans ((((HS8.out.mono (fun _ q => q.elim)).trans ((Step.refl _ w8).drew) (fun i hi => .inl hi))).trans R9.out.2 (fun i hi => .inl hi)) (fun i hi => .inl hi)⟩)
          clear R9 HLY HQ HS8 u0 u1 u2 c5 c6
          go_wp2_with fail
          go_roundw
          case rel => exact ⟨j + 1, by go_num, by omega, HW9.out⟩
          case measure => simp [RowKit.intOf]; omega
        · have hjn2 : j = n := by omega
          have j1 : ¬ ((j : Int) < (n : Int)) := by omega
          have htk : xs.take j = xs := by rw [hjn2, ← Hn.out]; exact List.take_length
          have HF := hidden (show Wc wr b (ps ++ hdP C a d i xs) G ∧ Step (fun k => ¬ G k) w wr from ⟨by rw [HPE2.out, ← htk]; exact HQ.out.1, HQ.out.2⟩)
          clear HQ htk hjn2
          go_wp2
          go_end0
          exact ⟨⟨_, rfl⟩, HF.out⟩

end Go.Proofs.YtcgjmkcigmmjjaaGreatDoor

namespace Go.Proofs.YtcgjmkcigmmjjaaGreatDoor
open Go.RowKit
set_option maxRecDepth 100000
/-- The finder as a value. -/
abbrev fiV (pv : Value) (g1 g2 N sh : Nat) : Array Value := #[pv, .int .i64 0, .int .i64 0, .slice (some ⟨g1, 0, none⟩) N N, .slice (some ⟨g2, 0, none⟩) N N, .int .i64 (sh : Int)]

/-- What each operation of newFinder's region leaves. -/
def FF (pv : Value) (n N B : Nat) : Nat → World → Value → Prop
  | 0, _, v => v = pv
  | 1, u, v => ∃ g, v = .slice (some ⟨g, 0, none⟩) 1 1 ∧ u.cell? ⟨g, 0, none⟩ = some (.int .i64 (-32769))
  | 2, _, v => v = .int .i64 (n : Int)
  | 3, _, v => v = .int .i64 (N : Int)
  | 4, u, v => ∃ g, v = .slice (some ⟨g, 0, none⟩) N N ∧ B ≤ g ∧ Af u g N (fun _ => -32769)
  | 5, _, v => v = .int .i64 (n : Int)
  | 6, _, v => v = .int .i64 (N : Int)
  | 7, u, v => ∃ g, v = .slice (some ⟨g, 0, none⟩) N N ∧ B ≤ g ∧ Af u g N (fun _ => 0)
  | 8, _, v => v = .int .i64 (n : Int)
  | 9, _, v => v = .int .i64 ((32 - n : Nat) : Int)
  | 10, u, v => ∃ g1 g2, v = .agg (fiV pv g1 g2 N (32 - n)) ∧ B ≤ g1 ∧ B ≤ g2 ∧ Af u g1 N (fun _ => -32769) ∧ Af u g2 N (fun _ => 0)
  | _, u, v => ∃ f g1 g2, v = .pointer (some ⟨f, 0, none⟩) ∧ B ≤ f ∧ B ≤ g1 ∧ B ≤ g2 ∧ f ≠ g1 ∧ f ≠ g2 ∧ Sv u f (fiV pv g1 g2 N (32 - n)).toList ∧ Af u g1 N (fun _ => -32769) ∧ Af u g2 N (fun _ => 0)

theorem FF.mono {pv : Value} {n N B : Nat} : ∀ k u u' v, FF pv n N B k u v → Step (fun _ => False) u u' → FF pv n N B k u' v := by
  intro k u u' v h hs
  match k with
  | 0 | 2 | 3 | 5 | 6 | 8 | 9 => exact h
  | 1 => obtain ⟨g, e, hc⟩ := h; exact ⟨g, e, hs.cell hc (fun h => h)⟩
  | 4 => obtain ⟨g, e, hb, hc⟩ := h; exact ⟨g, e, hb, hc.made hs⟩
  | 7 => obtain ⟨g, e, hb, hc⟩ := h; exact ⟨g, e, hb, hc.made hs⟩
  | 10 => obtain ⟨g1, g2, e, h1, h2, h3, h4⟩ := h; exact ⟨g1, g2, e, h1, h2, h3.made hs, h4.made hs⟩
  | k + 11 => obtain ⟨f, g1, g2, e, h1, h2, h3, h4, h5, h6, h7, h8⟩ := h; exact ⟨f, g1, g2, e, h1, h2, h3, h4, h5, h6.made hs, h7.made hs, h8.made hs⟩

theorem builtFi (ao : Option Addr) (m cap : Nat) (g1 g2 N sh : Nat) : Tryz.prog.built 59 [(0, .slice ao m cap), (3, .slice (some ⟨g1, 0, none⟩) N N), (4, .slice (some ⟨g2, 0, none⟩) N N), (5, .int .i64 (sh : Int))] = some (fiV (.slice ao m cap) g1 g2 N sh) := by kernel_rfl

set_option maxHeartbeats 2000000 in
theorem newFinder_any (pv : Value) (P : List Nat) (w : World) (hr : Rd w pv P) (hl : P.length ≤ 30000) (hb : ∀ x ∈ P, x < 256) (hc : ∀ ao k c, pv = .slice ao k c → P.length ≤ c) :
    Calls Tryz.prog 17 #[pv] w fun e w' => ∃ f g1 g2, e = .returned (.pointer (some ⟨f, 0, none⟩)) ∧ Fi w' f pv P g1 g2 (bl P.length) 0 0 ∧ w.heap.size ≤ f ∧ w.heap.size ≤ g1 ∧ w.heap.size ≤ g2 ∧ Step (fun _ => False) w w' := by
  obtain ⟨m, hm⟩ : ∃ m, P.length = m := ⟨_, rfl⟩
  have HRD := hidden hr
  have Hm := hidden hm
  have HBY := hidden hb
  have HCP := hidden hc
  obtain ⟨ao, cap, hpv, _⟩ := id hr
  rw [hm] at hpv hl ⊢
  have HPV := hidden hpv
  have hbl := bl_lt m
  have hn15 := bl_le_of m 15 (by omega)
  have HLEN := hidden (len_bits m (by omega))
  obtain ⟨n, hn⟩ : ∃ n, bl m = n := ⟨_, rfl⟩
  rw [hn] at hbl hn15 HLEN ⊢
  have HBL := hidden hbl
  have hp24 := pow_le_24 n (by omega)
  obtain ⟨N, hN⟩ : ∃ N, 2 ^ n = N := ⟨_, rfl⟩
  have HN := hidden hN
  have hN1 : 1 ≤ N := by rw [← hN]; exact Nat.two_pow_pos n
  have hN2 : N ≤ 32768 := by rw [← hN]; exact Nat.pow_le_pow_right (n := 2) (by omega) hn15
  have mz : ¬ ((32767 : Int) < (m : Int)) := by omega
  have mz2 : (m : Int) < 32767 := by omega
  have m0 : (0 : Int) ≤ (m : Int) := by omega
  clear hr hm hb hc hn hN hbl hp24
  subst hpv
  go_enter Tryz.func17, Tryz.ntmps17
  go_wp2_with fail
  refine (HLEN.out _).mono ?_
  rintro e w1 ⟨rfl, rfl⟩
  go_wp2_with fail
  obtain ⟨i0, hi, hz0, hz1, hz2⟩ := info_parts Tryz.info3
  have hsh : IntKind.i64.wrap ((1 : Int) * 2 ^ n) = (N : Int) := by
    have e : ((2 ^ n : Nat) : Int) = (2 : Int) ^ n := by simp
    rw [Int.one_mul, ← e, HN.out]
    exact wrap_i64_id _ (by omega) (by omega)
  have hmk : ∀ W : World, Sem.run Tryz.prog (Instr.makeSlice 30 (.int .i64 (N : Int)) (.int .i64 (N : Int))) W = .ok (.slice (some ⟨W.heap.size, 0, none⟩) N N) (W.alloc (.cells (madeCells #[.int .i64 0] N) 3)) := by
    intro W
    have := run_make (P := Tryz.prog) W 30 3 i0 (.int .i64 0) Tryz.underlying30 hi hz0 .i64 .i64 (N : Int) (N : Int) (by omega) (by omega) (by rw [hz2]; omega) (by omega)
    rw [hz1, Nat.mul_one] at this
    exact this
  have HRP := hidden (fun g u (hc : World.cell? u ⟨g, 0, none⟩ = some (.int .i64 (-32769))) => srepeat_any g (-32769) N u hc hN1 (by omega))
  refine region_inv Tryz.mixed 21 (fun j => if j = 12 then 2 else 9 + j) [(0, .slice ao m cap), (3, .int .i64 (n : Int))] (FF (.slice ao m cap) n N w1.heap.size) (by kernel_rfl) FF.mono rfl rfl ?rbase ?rops ?rend
  case rbase => intro x hx; simp at hx; rcases hx with rfl | rfl <;> rfl
  case rops =>
    intro j o ho b u hn hs hb hdeps
    have b0 := hb (0, .slice ao m cap) (by simp)
    have b3 := hb (3, .int .i64 (n : Int)) (by simp)
    have hj : j < 13 := (Array.getElem?_eq_some_iff.1 ho).1
    have hws := hs.size
    have hjc : j = 0 ∨ j = 1 ∨ j = 2 ∨ j = 3 ∨ j = 4 ∨ j = 5 ∨ j = 6 ∨ j = 7 ∨ j = 8 ∨ j = 9 ∨ j = 10 ∨ j = 11 ∨ j = 12 := by omega
    rcases hjc with rfl | rfl | rfl | rfl | rfl | rfl | rfl | rfl | rfl | rfl | rfl | rfl | rfl
    · simp at ho
      subst ho
      exact ⟨rfl, wp_run (v := .slice ao m cap) (by simp [execOp, b0]) ⟨_, rfl, Step.refl _ _, rfl⟩⟩
    · simp at ho
      subst ho
      refine ⟨rfl, wp_run (v := .slice (some ⟨u.heap.size, 0, none⟩) 1 1) (w' := u.alloc (.cells #[.int .i64 (-32769)] 3)) ?_ ⟨_, rfl, (Step.refl _ _).alloc _, _, rfl, by simp⟩⟩
      simp [execOp, Act.eval]
      simp [go_sem]
    · simp at ho
      subst ho
      exact ⟨rfl, wp_run (v := .int .i64 (n : Int)) (by simp [execOp, b3]) ⟨_, rfl, Step.refl _ _, rfl⟩⟩
    · simp at ho
      subst ho
      have d0 : b.eval (.tmp 11) = _ := hdeps ⟨2, .data⟩ (by simp) rfl
      refine ⟨rfl, wp_run (v := .int .i64 (N : Int)) (w' := u) ?_ ⟨_, rfl, Step.refl _ _, rfl⟩⟩
      have c1 : b.eval (.const (.int .i64 1)) = .int .i64 1 := rfl
      simp only [execOp, d0, c1]
      simp [go_sem]
      simpa using hsh
    · simp at ho
      subst ho
      obtain ⟨g, d0, hc⟩ : ∃ g, b.eval (.tmp 10) = .slice (some ⟨g, 0, none⟩) 1 1 ∧ u.cell? ⟨g, 0, none⟩ = some _ := hdeps ⟨1, .data⟩ (by simp) rfl
      have d1 : b.eval (.tmp 12) = _ := hdeps ⟨3, .data⟩ (by simp) rfl
      refine ⟨rfl, wp_enter (run_call2 Tryz.func27 (by kernel_rfl) rfl _ _ u _ b 10 12 _ _ rfl d0 d1) ((HRP.out g u hc).mono ?_)⟩
      rintro e w' ⟨k, rfl, hk, hown, hst⟩
      refine ⟨_, rfl, _, rfl, hst, k, rfl, by omega, fun j hj => ⟨?_, hown.frozenAt j⟩⟩
      rw [hown.cellAt j (by omega), i64s_get?]
      simp [hj]
    · simp at ho
      subst ho
      exact ⟨rfl, wp_run (v := .int .i64 (n : Int)) (by simp [execOp, b3]) ⟨_, rfl, Step.refl _ _, rfl⟩⟩
    · simp at ho
      subst ho
      have d0 : b.eval (.tmp 14) = _ := hdeps ⟨5, .data⟩ (by simp) rfl
      refine ⟨rfl, wp_run (v := .int .i64 (N : Int)) (w' := u) ?_ ⟨_, rfl, Step.refl _ _, rfl⟩⟩
      have c1 : b.eval (.const (.int .i64 1)) = .int .i64 1 := rfl
      simp only [execOp, d0, c1]
      simp [go_sem]
      simpa using hsh
    · simp at ho
      subst ho
      have d0 : b.eval (.tmp 15) = _ := hdeps ⟨6, .data⟩ (by simp) rfl
      refine ⟨rfl, wp_run (v := .slice (some ⟨u.heap.size, 0, none⟩) N N) (w' := u.alloc (.cells (madeCells #[.int .i64 0] N) 3)) ?_ ⟨_, rfl, (Step.refl _ _).alloc _, _, rfl, by omega, Af.new _ _ _ _ _ (fun k hk => madeCells_get _ _ _ hk)⟩⟩
      simp [execOp, d0, hmk]
    · simp at ho
      subst ho
      exact ⟨rfl, wp_run (v := .int .i64 (n : Int)) (by simp [execOp, b3]) ⟨_, rfl, Step.refl _ _, rfl⟩⟩
    · simp at ho
      subst ho
      have d0 : b.eval (.tmp 17) = _ := hdeps ⟨8, .data⟩ (by simp) rfl
      refine ⟨rfl, wp_run (v := .int .i64 ((32 - n : Nat) : Int)) (w' := u) ?_ ⟨_, rfl, Step.refl _ _, rfl⟩⟩
      have e : (32 : Int) - (n : Int) = ((32 - n : Nat) : Int) := by omega
      have e2 : IntKind.i64.wrap ((32 : Int) - (n : Int)) = ((32 - n : Nat) : Int) := by rw [e]; exact wrap_i64_id _ (by omega) (by omega)
      have c1 : b.eval (.const (.int .i64 32)) = .int .i64 32 := rfl
      simp only [execOp, d0, c1]
      simp [go_sem]
      simpa using e2
    · simp at ho
      subst ho
      have d0 : b.eval (.tmp 9) = _ := hdeps ⟨0, .data⟩ (by simp) rfl
      obtain ⟨g1, d1, q1, q2⟩ : ∃ g, b.eval (.tmp 13) = .slice (some ⟨g, 0, none⟩) N N ∧ _ := hdeps ⟨4, .data⟩ (by simp) rfl
      obtain ⟨g2, d2, q3, q4⟩ : ∃ g, b.eval (.tmp 16) = .slice (some ⟨g, 0, none⟩) N N ∧ _ := hdeps ⟨7, .data⟩ (by simp) rfl
      have d3 : b.eval (.tmp 18) = _ := hdeps ⟨9, .data⟩ (by simp) rfl
      refine ⟨rfl, wp_run (v := .agg (fiV (.slice ao m cap) g1 g2 N (32 - n))) (w' := u) ?_ ⟨_, rfl, Step.refl _ _, g1, g2, rfl, q1, q3, q2, q4⟩⟩
      simp [execOp, d0, d1, d2, d3]
      rw [run_build u _ _ _ (builtFi ao m cap g1 g2 N (32 - n))]
      rfl
    · simp at ho
      subst ho
      obtain ⟨g1, g2, d1, q1, q2, q3, q4⟩ : ∃ g1 g2, b.eval (.tmp 19) = .agg (fiV (.slice ao m cap) g1 g2 N (32 - n)) ∧ _ := hdeps ⟨10, .data⟩ (by simp) rfl
      have l1 := q3.lt hN1
      have l2 := q4.lt hN1
      have hst : Step (fun _ => False) u (u.alloc (.cells (fiV (.slice ao m cap) g1 g2 N (32 - n)) 59)) := (Step.refl _ _).alloc _
      refine ⟨rfl, wp_run (v := .pointer (some ⟨u.heap.size, 0, none⟩)) (w' := u.alloc (.cells (fiV (.slice ao m cap) g1 g2 N (32 - n)) 59)) ?_ ⟨_, rfl, hst, u.heap.size, g1, g2, rfl, by omega, q1, q2, by omega, by omega, by simpa using Sv.new u (fiV (.slice ao m cap) g1 g2 N (32 - n)).toList 59, q3.made hst, q4.made hst⟩⟩
      simp only [execOp, d1, Instr.box, newVar, Value.cells]
      simp [go_sem]
    · simp at ho
      subst ho
      obtain ⟨f, g1, g2, d1, q⟩ : ∃ f g1 g2, b.eval (.tmp 20) = .pointer (some ⟨f, 0, none⟩) ∧ _ := hdeps ⟨11, .data⟩ (by simp) rfl
      exact ⟨rfl, wp_run (v := .pointer (some ⟨f, 0, none⟩)) (w' := u) (by simp [execOp, d1]) ⟨_, rfl, Step.refl _ _, f, g1, g2, rfl, q⟩⟩
  case rend =>
    intro b u hd hn hs hb hF
    obtain ⟨f, g1, g2, d1, q1, q2, q3, q4, q5, q6, q7, q8⟩ : ∃ f g1 g2, b.eval (.tmp 2) = .pointer (some ⟨f, 0, none⟩) ∧ _ := hF 12 (by decide)
    have HFIN := hidden (show Fi u f (.slice ao m cap) P g1 g2 n 0 0 from by
      have hN' := HN.out
      refine ⟨(q6 0 _ rfl).1, (q6 1 _ rfl).1, (q6 2 _ rfl).1, ?_, ?_, (q6 5 _ rfl).1, fun k hk => ?_, HRD.out.step hs (fun _ _ _ _ _ h => h), ?_, ⟨fun _ => 0, ?_, fun q hq => by omega⟩, ⟨q4, q5, ?_⟩, fun a k c e hP => ?_, ⟨by rw [Hm.out]; exact HBL.out, hn15⟩, HBY.out, HCP.out⟩
      · rw [hN']; exact (q6 3 _ rfl).1
      · rw [hN']; exact (q6 4 _ rfl).1
      · have : k = 0 ∨ k = 1 ∨ k = 2 ∨ k = 3 ∨ k = 4 ∨ k = 5 := by omega
        rcases this with rfl | rfl | rfl | rfl | rfl | rfl
        · exact (q6 0 _ rfl).2
        · exact (q6 1 _ rfl).2
        · exact (q6 2 _ rfl).2
        · exact (q6 3 _ rfl).2
        · exact (q6 4 _ rfl).2
        · exact (q6 5 _ rfl).2
      · rw [hN']; exact q7
      · rw [hN']; exact q8
      · intro e
        subst e
        have h1 := (q7 0 hN1).1
        rw [(q8 0 hN1).1] at h1
        simp at h1
      · obtain ⟨ao2, c2, e2, _, h2⟩ := HRD.out
        rw [e] at e2
        injection e2 with e3
        obtain ⟨b2, off, rfl, hc2⟩ := h2 a e3.symm hP
        have hh : b2 < w1.heap.size := World.block_lt_of_cell? w1 _ (hc2 0 (List.length_pos_iff.2 hP))
        have hq : b2 ≠ f ∧ b2 ≠ g1 ∧ b2 ≠ g2 := ⟨by omega, by omega, by omega⟩
        exact hq)
    have HS := hidden hs
    obtain ⟨tmps, defers⟩ := b
    simp only at hd
    subst hd
    have e1 : tmps.getD 2 undef = .pointer (some ⟨f, 0, none⟩) := d1
    clear hF hb hn hs d1
    go_wp2
    refine bodyPost_ret (results_tmp rfl _ _ _) rfl ?_
    rw [e1]
    first
    | exact ⟨f, rfl, g1, g2, HFIN.out, q1, q2, q3, HS.out⟩
    | exact ⟨f, rfl, g1, ⟨g2, HFIN.out, q1, q2, q3, HS.out⟩⟩

end Go.Proofs.YtcgjmkcigmmjjaaGreatDoor

namespace Go.Proofs.YtcgjmkcigmmjjaaGreatDoor
open Go.RowKit
theorem count_set_eq (listed : Array Bool) (i : Nat) (h : listed.getD i true = false) : (listed.setIfInBounds i true).toList.count false + 1 = listed.toList.count false := by
  have hi : i < listed.size := by
    rcases Nat.lt_or_ge i listed.size with h' | h'
    · exact h'
    · simp [Array.getElem?_eq_none h'] at h
  have hv : listed[i] = false := by simpa [hi] using h
  have hl : i < listed.toList.length := by simpa using hi
  have hc : 0 < listed.toList.count false := List.count_pos_iff.2 (by
    have := List.getElem_mem hl
    rwa [Array.getElem_toList, hv] at this)
  rw [Array.toList_setIfInBounds, List.count_set hl]
  have e : listed.toList[i] = false := by rw [Array.getElem_toList, hv]
  rw [e]
  simp only [beq_self_eq_true, if_true]
  have e2 : ((true : Bool) == false) = false := rfl
  rw [e2]
  simp only [Bool.false_eq_true, if_false, Nat.add_zero]
  omega

theorem wpAny_inv_tail {P : Program} {l : List Oper} {n : Nat} {Q : Exit → Act → World → Prop} (J : Array Bool → Act → World → Prop) (hs : Region.sinkB .any l.toArray n = true) (hc : Region.chainB .any l.toArray n = true) (hn : n < l.length) (hseq : Region.seqB .any l.toArray (l.drop n).length n (List.replicate n true ++ List.replicate (l.length - n) false).toArray = true)
    (haft : ∀ (k : Nat) (o : Oper), k < n → l[k]? = some o → ∀ e ∈ o.after, e.on < k)
    (hJ : ∀ listed a w, J listed a w → HeadInv .any l.toArray n listed)
    (hend : ∀ listed a w, J listed a w → (∀ i, i < n → listed.getD i false = true) → wpList P l.toArray Q (l.drop n) a w)
    (hstep : ∀ listed a w, J listed a w → ∀ i ∈ Region.ready .any l.toArray listed, i < n → wpOp P l.toArray Q i (J (listed.setIfInBounds i true)) a w) :
    ∀ fuel listed a w, listed.toList.count false = fuel → J listed a w → wpAny P .any l.toArray Q fuel listed a w := by
  intro fuel
  induction fuel with
  | zero =>
    intro listed a w hcf hj
    exfalso
    have inv := hJ _ _ _ hj
    have ht := inv.tail n (Nat.le_refl _) (by simpa using hn)
    have := count_set_eq listed n ht
    omega
  | succ fuel ih =>
    intro listed a w hcf hj
    have inv := hJ _ _ _ hj
    by_cases hall : ∀ i, i < n → listed.getD i false = true
    · have hsz : listed.size = l.length := by simpa using inv.size
      have e : listed = (List.replicate n true ++ List.replicate (l.length - n) false).toArray := by
        apply Array.ext
        · simp; omega
        · intro i h1 h2
          by_cases h : i < n
          · have := hall i h
            simp [h1] at this
            simp [h, this]
          · have := inv.tail i (by omega) (by simpa using (by omega : i < l.length))
            simp [h1] at this
            simp [List.getElem_append, h, this]
      have hlen : (l.drop n).length = fuel + 1 := by
        rw [e] at hcf
        simp [List.count_replicate] at hcf
        rw [List.length_drop]
        exact hcf
      have := wpAny_of_seq (md := .any) (Q' := Q) (P := P) (ops := l.toArray) (l.drop n) n listed a w (fun j => by simp [List.getElem?_drop]) (by rw [e]; exact hseq) (hend _ _ _ hj hall)
      rwa [hlen] at this
    · have hex : ∃ i, i < n ∧ listed.getD i false = false := by
        apply Classical.byContradiction
        intro hno
        apply hall
        intro i hi
        cases hb : listed.getD i false with
        | true => rfl
        | false => exact absurd ⟨i, hi, hb⟩ hno
      obtain ⟨i0, hi0, hb0⟩ := hex
      have hsz : listed.size = l.length := by simpa using inv.size
      have hfirst : ∃ i, i < n ∧ i ∈ Region.ready .any l.toArray listed := by
        apply Classical.byContradiction
        intro hno
        have all : ∀ k, k < n → listed.getD k false = true := by
          intro k
          induction k using Nat.strongRecOn with
          | _ k ihk =>
            intro hk
            cases hl : listed.getD k false with
            | true => rfl
            | false =>
              exfalso
              have hlk : k < l.length := by omega
              exact hno ⟨k, hk, mem_ready.2 ⟨getD_in (by omega) hl, l[k], by simp [hlk], fun e he _ => by
                have := haft k l[k] hk (by simp [hlk]) e he
                exact ihk e.on this (by omega)⟩⟩
        exact hall all
      obtain ⟨i1, hi1, hr1⟩ := hfirst
      refine ⟨fun h0 => (by rw [h0] at hr1; cases hr1), fun i hi => ?_⟩
      have hin : i < n := by
        rcases Nat.lt_or_ge i n with h | h
        · exact h
        · exact absurd hi (tail_waits hs hc (by simpa using hn) inv _ i0 rfl hi0 (getD_in (by omega) hb0) i h)
      refine wpOp_mono (fun a' w' h' => ih _ a' w' ?_ h') (hstep _ _ _ hj i hi hin)
      have := count_set_eq listed i (mem_ready.1 hi).1
      omega

/-- Each operation of the head has a slot of its own, none of those that are read as they were; it waits for earlier ones alone. -/
def headOk (l : List Oper) (m n : Nat) (dst : Nat → Nat) (base : List Nat) : Bool :=
  (List.range m).all fun k => match l[k]? with
    | none => false
    | some o => (o.dst == some (dst k)) && decide (dst k < n) && !base.contains (dst k) && (o.after.all fun e => decide (e.on < k)) && (List.range m).all fun j => j == k || dst j != dst k

structure HeadOk (l : List Oper) (m n : Nat) (dst : Nat → Nat) (base : List Nat) : Prop where
  slot : ∀ (k : Nat) (o : Oper), k < m → l[k]? = some o → o.dst = some (dst k)
  lt : ∀ k, k < m → dst k < n
  free : ∀ k, k < m → dst k ∉ base
  after : ∀ (k : Nat) (o : Oper), k < m → l[k]? = some o → ∀ e ∈ o.after, e.on < k
  inj : ∀ j k, j < m → k < m → j ≠ k → dst j ≠ dst k

theorem headOk_spec {l : List Oper} {m n : Nat} {dst : Nat → Nat} {base : List Nat} (h : headOk l m n dst base = true) : HeadOk l m n dst base := by
  have each : ∀ (k : Nat), k < m → ∃ o, l[k]? = some o ∧ o.dst = some (dst k) ∧ dst k < n ∧ dst k ∉ base ∧ (∀ e ∈ o.after, e.on < k) ∧ ∀ j, j < m → j = k ∨ dst j ≠ dst k := by
    intro k hk
    have := List.all_eq_true.1 h k (List.mem_range.2 hk)
    cases ho : l[k]? with
    | none => rw [ho] at this; cases this
    | some o =>
      simp only [ho, Bool.and_eq_true, beq_iff_eq, decide_eq_true_eq, Bool.not_eq_true', List.all_eq_true, List.mem_range, Bool.or_eq_true, bne_iff_ne, Array.all_eq_true_iff_forall_mem] at this
      obtain ⟨⟨⟨⟨h1, h2⟩, h3⟩, h4⟩, h5⟩ := this
      exact ⟨o, rfl, h1, h2, by simpa using h3, h4, h5⟩
  refine ⟨fun k o hk ho => ?_, fun k hk => ?_, fun k hk => ?_, fun k o hk ho => ?_, fun j k hj hk hne => ?_⟩
  · obtain ⟨o2, ho2, h⟩ := each k hk; rw [ho] at ho2; cases ho2; exact h.1
  · obtain ⟨o2, ho2, h⟩ := each k hk; exact h.2.1
  · obtain ⟨o2, ho2, h⟩ := each k hk; exact h.2.2.1
  · obtain ⟨o2, ho2, h⟩ := each k hk; rw [ho] at ho2; cases ho2; exact h.2.2.2.1
  · obtain ⟨o2, ho2, h⟩ := each k hk
    rcases h.2.2.2.2 j hj with e | e
    · exact absurd e hne
    · exact e

/-- What is known while the head runs. -/
structure RInvT (l : List Oper) (m n : Nat) (dst : Nat → Nat) (base : List (Nat × Value)) (w0 : World) (F : Nat → World → Value → Prop) (D : Nat → Nat → Value → Value → Prop) (listed : Array Bool) (a : Act) (w : World) : Prop where
  head : HeadInv .any l.toArray m listed
  defers : a.defers = []
  tmps : a.tmps.size = n
  step : Step (fun _ => False) w0 w
  base : ∀ x ∈ base, a.eval (.tmp x.1) = x.2
  fact : ∀ k, k < m → listed.getD k false = true → F k w (a.eval (.tmp (dst k)))
  pair : ∀ j k, j < m → k < m → j ≠ k → listed.getD j false = true → listed.getD k false = true → D j k (a.eval (.tmp (dst j))) (a.eval (.tmp (dst k)))

theorem region_inv_tail {P : Program} {l : List Oper} {Q : Exit → Act → World → Prop} {id : Nat} {a : Act} {w : World} (hm : P.follows .mixedOrders = true) (n m : Nat) (dst : Nat → Nat) (base : List (Nat × Value)) (F : Nat → World → Value → Prop) (D : Nat → Nat → Value → Value → Prop)
    (hok : headOk l m n dst (base.map (·.1)) = true) (hs : Region.sinkB .any l.toArray m = true) (hc : Region.chainB .any l.toArray m = true) (hml : m < l.length)
    (hseq : Region.seqB .any l.toArray (l.drop m).length m (List.replicate m true ++ List.replicate (l.length - m) false).toArray = true)
    (hmono : ∀ k u u' v, F k u v → Step (fun _ => False) u u' → F k u' v)
    (hd : a.defers = []) (hn : a.tmps.size = n) (hb : ∀ x ∈ base, a.eval (.tmp x.1) = x.2)
    (hops : ∀ (k : Nat) (o : Oper), k < m → l[k]? = some o → ∀ (b : Act) (u : World), b.tmps.size = n → Step (fun _ => False) w u → (∀ x ∈ base, b.eval (.tmp x.1) = x.2) → (∀ e ∈ o.after, Region.binds .any e = true → F e.on u (b.eval (.tmp (dst e.on)))) →
      Region.wanted o (yielded l.toArray b.tmps) = true ∧ o.wp P b u (fun b' u' => ∃ v, b' = b.put o.dst v ∧ Step (fun _ => False) u u' ∧ F k u' v ∧ ∀ k' v', k' < m → k' ≠ k → F k' u v' → D k k' v v' ∧ D k' k v' v) Q)
    (hend : ∀ (b : Act) (u : World), b.defers = [] → b.tmps.size = n → Step (fun _ => False) w u → (∀ x ∈ base, b.eval (.tmp x.1) = x.2) → (∀ k, k < m → F k u (b.eval (.tmp (dst k)))) → (∀ j k, j < m → k < m → j ≠ k → D j k (b.eval (.tmp (dst j))) (b.eval (.tmp (dst k)))) → wpList P l.toArray Q (l.drop m) b u) :
    (Code.region id l.toArray true).wp P Q a w := by
  have ok := headOk_spec hok
  refine wp_region_any hm ?_
  refine wpAny_inv_tail (RInvT l m n dst base w F D) hs hc hml hseq ok.after (fun _ _ _ h => h.head) ?_ ?_ _ _ _ _ ?_ ?_
  · intro listed b u h hall
    exact hend b u h.defers h.tmps h.step h.base (fun k hk => h.fact k hk (hall k hk)) (fun j k hj hk hne => h.pair j k hj hk hne (hall j hj) (hall k hk))
  · intro listed b u h i hi him
    obtain ⟨hun, o, ho, hall⟩ := mem_ready.1 hi
    have ho' : l[i]? = some o := by simpa using ho
    have haf := ok.after i o him ho'
    obtain ⟨hw, hwp⟩ := hops i o him ho' b u h.tmps h.step h.base (fun e he hbd => h.fact e.on (by have := haf e he; omega) (hall e he hbd))
    unfold wpOp
    simp only [ho, hw, if_true]
    refine .inl (Oper.wp_mono (fun b' u' hh => ?_) hwp)
    obtain ⟨v, rfl, hst, hf, hD⟩ := hh
    rw [ok.slot i o him ho']
    refine ⟨h.head.set hi him, ?_, ?_, h.step.trans hst (fun _ hx => .inl hx), fun x hx => ?_, fun k hkm hk => ?_, fun j k hjm hkm hne hj hk => ?_⟩
    · simpa [Act.put] using h.defers
    · simpa [Act.put] using h.tmps
    · rw [eval_put_other b _ _ v (fun e => ok.free i him (by rw [e]; exact List.mem_map.2 ⟨x, hx, rfl⟩))]
      exact h.base x hx
    · by_cases hki : i = k
      · subst hki
        rw [eval_put_same b _ v (by rw [h.tmps]; exact ok.lt i him)]
        exact hf
      · rw [getD_set_ne false hki] at hk
        rw [eval_put_other b _ _ v (ok.inj i k him hkm hki)]
        exact hmono k u u' _ (h.fact k hkm hk) hst
    · by_cases hji : i = j
      · subst hji
        rw [getD_set_ne false hne] at hk
        rw [eval_put_same b _ v (by rw [h.tmps]; exact ok.lt i him), eval_put_other b _ _ v (ok.inj i k him hkm hne)]
        exact (hD k _ hkm (fun e => hne e.symm) (h.fact k hkm hk)).1
      · rw [getD_set_ne false hji] at hj
        by_cases hki : i = k
        · subst hki
          rw [eval_put_same b _ v (by rw [h.tmps]; exact ok.lt i him), eval_put_other b _ _ v (ok.inj i j him hjm hji)]
          exact (hD j _ hjm hne (h.fact j hjm hj)).2
        · rw [getD_set_ne false hki] at hk
          rw [eval_put_other b _ _ v (ok.inj i k him hkm hki), eval_put_other b _ _ v (ok.inj i j him hjm hji)]
          exact h.pair j k hjm hkm hne hj hk
  · simp
  · refine ⟨⟨by simp, fun j oj _ hl => (by rw [getD_replicate_false] at hl; cases hl), fun t _ ht => getD_in (by simpa using ht) (getD_replicate_false _ _)⟩, hd, hn, (Step.refl (fun _ => False) w).drew, hb, fun k _ hk => ?_, fun j k _ _ _ hj _ => ?_⟩
    · rw [getD_replicate_false] at hk
      cases hk
    · rw [getD_replicate_false] at hj
      cases hj

end Go.Proofs.YtcgjmkcigmmjjaaGreatDoor

namespace Go.Proofs.YtcgjmkcigmmjjaaGreatDoor
open Go.RowKit
theorem run_enter {f : FuncId} {fn : Func} {c : Code} (hf : Tryz.prog.funcs[f]? = some fn) (hname : (fn.name == "runtime.NumGoroutine") = false) (hb : fn.body = some c) (args : Array Value) (u : World) :
    (callFunc f args).run Tryz.prog u = .ok (.enter f args) u := by
  have h1 : fn.name ≠ "runtime.NumGoroutine" := by simpa using hname
  simp [callFunc, hf, h1, hb]

theorem run_call1 {f : FuncId} {fn : Func} {c : Code} (hf : Tryz.prog.funcs[f]? = some fn) (hname : (fn.name == "runtime.NumGoroutine") = false) (hb : fn.body = some c) (v : Value) (u : World) (o : Oper) (b : Act) (p : Operand) (t : TypeId) (ho : o.op = .call { callee := .value (.func f), args := #[p], argTypes := #[t] }) (hp : b.eval p = v) :
    (execOp b.eval o).run Tryz.prog u = .ok (.enter f #[v]) u := by
  simp [execOp, ho]
  simp [go_sem, run_enter hf hname hb]
  cases p <;> simpa [Act.eval] using hp

theorem run_call0 {f : FuncId} {fn : Func} {c : Code} (hf : Tryz.prog.funcs[f]? = some fn) (hname : (fn.name == "runtime.NumGoroutine") = false) (hb : fn.body = some c) (u : World) (o : Oper) (b : Act) (ho : o.op = .call { callee := .value (.func f), args := #[], argTypes := #[] }) :
    (execOp b.eval o).run Tryz.prog u = .ok (.enter f #[]) u := by
  simp [execOp, ho]
  simp [go_sem, run_enter hf hname hb]

end Go.Proofs.YtcgjmkcigmmjjaaGreatDoor

namespace Go.Proofs.YtcgjmkcigmmjjaaGreatDoor
open Go.RowKit
set_option maxRecDepth 100000
theorem step_app_tok {w : World} {ops : Array Oper} {o : Oper} {a : Act} {K : Act → World → Prop} {Q : Exit → Act → World → Prop} {X : Prop} (hgd : o.guard = none) (s x : Operand)
    (ho : o.op = .call { callee := .builtin .append, args := #[s, x], argTypes := #[39, 39] })
    (v : Value) (n : Nat) (xs : List Value) (hs : a.eval s = v) (hown : w.ownsRow 0 62 3 v n xs) (ad : Addr) (c : Nat) (news : List Value) (hx : a.eval x = .slice (some ad) 1 c) (hl : news.length = 3) (hnews : ∀ j u, news[j]? = some u → w.cell? (ad.add j) = some u) (h1 : ∀ u ∈ news, u.oneCell' = true) (hb : n ≤ 1000000)
    (h : ∀ v' w', w'.ownsRow 0 62 3 v' (n + 1) (xs ++ news) → w.grownBy w' v.ownBlock → (v'.ownBlock = v.ownBlock ∨ v'.ownBlock = some w.heap.size) → K (a.put o.dst v') w') : if Region.wanted o (yielded ops a.tmps) = true then Oper.wp Tryz.prog o a w K Q else X := by
  have hw : Region.wanted o (yielded ops a.tmps) = true := by simp [Region.wanted, hgd]
  rw [if_pos hw]
  obtain ⟨i0, hi, hz0, hz1, hz2⟩ := info_parts Tryz.infoTk3
  obtain ⟨v', w', hr2, k1, k2, _, k4⟩ := append_own (P := Tryz.prog) w 39 o.type 62 i0 _ 3 24 Tryz.underlying39 hi hz0 hz1 hz2 rfl (by decide) v n xs hown ad 1 c news (by rw [hl]) hnews h1 (by unfold maxLen; omega) (by omega)
  unfold Oper.wp
  simp [execOp, ho, resolve, invoke, builtin, hs, hx, hr2, Result.andThen]
  exact h v' w' k1 k2 k4

theorem step_old {w w' : World} (h : Step (fun _ => False) w w') : (∀ p : Addr, p.block < w.heap.size → w'.cell? p = w.cell? p) ∧ (∀ p : Addr, p.block < w.heap.size → w'.frozen? p = w.frozen? p) ∧ (∀ k, k < w.heap.size → k < w'.heap.size) ∧ (∀ k, k < w.heap.size → (k = w'.heap.size) = False) ∧ (∀ k, k < w.heap.size → (w'.heap.size = k) = False) := by
  have hz := h.size
  refine ⟨fun p hp => h.cell' hp (fun h => h), fun p hp => h.frozen hp (fun h => h), fun k hk => by omega, fun k hk => by simp; omega, fun k hk => by simp; omega⟩

theorem act_lit67 (b : Act) (hd : b.defers = []) (hn : b.tmps.size = 67) : ∃ f : Nat → Value, (∀ t, f t = b.eval (.tmp t)) ∧ b = ⟨#[f 0, f 1, f 2, f 3, f 4, f 5, f 6, f 7, f 8, f 9, f 10, f 11, f 12, f 13, f 14, f 15, f 16, f 17, f 18, f 19, f 20, f 21, f 22, f 23, f 24, f 25, f 26, f 27, f 28, f 29, f 30, f 31, f 32, f 33, f 34, f 35, f 36, f 37, f 38, f 39, f 40, f 41, f 42, f 43, f 44, f 45, f 46, f 47, f 48, f 49, f 50, f 51, f 52, f 53, f 54, f 55, f 56, f 57, f 58, f 59, f 60, f 61, f 62, f 63, f 64, f 65, f 66], []⟩ := by
  refine ⟨fun t => b.eval (.tmp t), fun _ => rfl, ?_⟩
  obtain ⟨t, d⟩ := b
  simp only at hd hn
  subst hd
  congr 1
  have e : ∀ g : Nat → Value, #[g 0, g 1, g 2, g 3, g 4, g 5, g 6, g 7, g 8, g 9, g 10, g 11, g 12, g 13, g 14, g 15, g 16, g 17, g 18, g 19, g 20, g 21, g 22, g 23, g 24, g 25, g 26, g 27, g 28, g 29, g 30, g 31, g 32, g 33, g 34, g 35, g 36, g 37, g 38, g 39, g 40, g 41, g 42, g 43, g 44, g 45, g 46, g 47, g 48, g 49, g 50, g 51, g 52, g 53, g 54, g 55, g 56, g 57, g 58, g 59, g 60, g 61, g 62, g 63, g 64, g 65, g 66] = ((List.range 67).map g).toArray := fun g => rfl
  refine Eq.trans ?_ (e fun x => Act.eval ⟨t, []⟩ (.tmp x)).symm
  apply Array.ext
  · simp [hn]
  · intro i h1 h2
    simp [Act.eval, h1]

/-- What the operations ahead of the stores leave: two steps, and a block for each. -/
def FS (W B1 n d a1 a2 a3 b1 b2 b3 : Nat) : Nat → World → Value → Prop
  | 0, _, v => v = .pointer (some ⟨B1, 1, none⟩)
  | 1, _, v => v = .int .i64 (n : Int)
  | 2, _, v => v = spV a1 a2 a3
  | 3, _, v => v = .pointer (some ⟨B1, 2, none⟩)
  | 4, _, v => v = .int .i64 (d : Int)
  | 5, _, v => v = spV b1 b2 b3
  | _, u, v => ∃ A, v = .pointer (some ⟨A, 0, none⟩) ∧ W ≤ A ∧ Sv u A (spL 0 0 0)

theorem FS.mono {W B1 n d a1 a2 a3 b1 b2 b3 : Nat} : ∀ k u u' v, FS W B1 n d a1 a2 a3 b1 b2 b3 k u v → Step (fun _ => False) u u' → FS W B1 n d a1 a2 a3 b1 b2 b3 k u' v := by
  intro k u u' v h hs
  match k with
  | 0 | 1 | 2 | 3 | 4 | 5 => exact h
  | k + 6 => obtain ⟨A, e, hw, hv⟩ := h; exact ⟨A, e, hw, hv.made hs⟩

theorem num_take (a3 b3 m0 n : Nat) (h1 : a3 ≤ 5) (h2 : b3 ≤ 13) (h3 : m0 ≤ 18 * n) (h4 : n ≤ 100000) : ∃ ss mm : Nat, m0 + (a3 + b3) = mm ∧ (a3 : Int) + (b3 : Int) = (ss : Int) ∧ (m0 : Int) + (ss : Int) = (mm : Int) ∧ wrap64 (ss : Int) = (ss : Int) ∧ IntKind.i64.wrap (ss : Int) = (ss : Int) ∧ wrap64 (mm : Int) = (mm : Int) ∧ IntKind.i64.wrap (mm : Int) = (mm : Int) := by
  obtain ⟨ss, hs⟩ : ∃ z, a3 + b3 = z := ⟨_, rfl⟩
  obtain ⟨mm, hm⟩ : ∃ z, m0 + (a3 + b3) = z := ⟨_, rfl⟩
  have b1 : ss ≤ 18 := by omega
  have b2 : mm ≤ 1800018 := by omega
  refine ⟨ss, mm, hm, by omega, by omega, wrap64_id _ (by omega) (by omega), wrap_i64_id _ (by omega) (by omega), wrap64_id _ (by omega) (by omega), wrap_i64_id _ (by omega) (by omega)⟩

set_option maxHeartbeats 2000000 in
theorem take_any {B0 : Nat} {b : Nat} {tv rv : Value} {la : Bool} {g1 g2 : Nat} {ts : List Tk} (w : World) (h : Bk B0 w b tv rv la g1 g2 ts (cL ts) (cD ts) (mB ts)) (t : Tk) (ht : (t.n = 0 ∧ t.c < 256) ∨ (3 ≤ t.n ∧ t.n ≤ 258 ∧ 1 ≤ t.d ∧ t.d ≤ 32768)) (hl : ts.length ≤ 100000) (hm : mB ts ≤ 18 * ts.length) :
    Calls Tryz.prog 29 #[.pointer (some ⟨b, 0, none⟩), tkV t] w fun e w' => (∃ u, e = .returned u) ∧ (∃ tv', Bk B0 w' b tv' rv la g1 g2 (ts ++ [t]) (cL (ts ++ [t])) (cD (ts ++ [t])) (mB (ts ++ [t]))) ∧ Step (fun k => B0 ≤ k) w w' := by
  obtain ⟨W0, hW0⟩ : ∃ W0, w.alloc (.cells #[.int .u8 (t.c : Int), .int .i64 (t.n : Int), .int .i64 (t.d : Int)] 62) = W0 := ⟨_, rfl⟩
  obtain ⟨B1, hB1⟩ : ∃ B1, w.heap.size = B1 := ⟨_, rfl⟩
  have S0 : Step (fun _ => False) w W0 := by rw [← hW0]; exact (Step.refl _ _).alloc _
  have HV0 := hidden (show Sv W0 B1 (tkL t) by rw [← hW0, ← hB1]; exact Sv.new w _ _)
  have HK0 := hidden (h.made S0)
  have HS0 := hidden (S0.mono (T := fun k => B0 ≤ k) (fun _ h => h.elim))
  have HOB := hidden (show tv.ownBlock ≠ some B1 from fun e => by have := h.low.2.2.2 B1 e; omega)
  have HB1 := hidden (show b < B1 ∧ g1 < B1 ∧ g2 < B1 ∧ B0 ≤ B1 ∧ B1 < W0.heap.size by
    obtain ⟨l1, l2, l3, _⟩ := h.low
    have := h.hi.1
    have := HV0.out.lt (by simp [tkL])
    omega)
  have HL := hidden hl
  have HM := hidden hm
  have HT := hidden ht
  have c0 := HK0.out.c0
  have z0 := HK0.out.fz 0 (by omega)
  have c0' : (W0.alloc (.cells #[.int .u8 (t.c : Int), .int .i64 (t.n : Int), .int .i64 (t.d : Int)] 62)).cell? ⟨b, 0, none⟩ = some tv := ((Step.refl (fun _ => False) W0).alloc _).cell c0 (fun h => h)
  have s0 := (HV0.out 0 _ rfl).1
  have s1 := (HV0.out 1 _ rfl).1
  have s2 := (HV0.out 2 _ rfl).1
  clear h S0 hl hm ht
  go_enter Tryz.func29, Tryz.ntmps29
  go_upto_region 1 with fail
  go_cut [] (fun wx => Hid ((∃ tv', Bk B0 wx b tv' rv la g1 g2 (ts ++ [t]) (cL ts) (cD ts) (mB ts)) ∧ Sv wx B1 (tkL t) ∧ Step (fun k => B0 ≤ k) w wx))
  case first =>
    go_region_law? (refine step_app_tok rfl (.tmp 10) (.tmp 12) rfl _ ts.length (tkCs ts) rfl (by first | exact HK0.out.ow | exact (HK0.out.made ((Step.refl (fun _ => False) W0).alloc _).drew).ow | exact (HK0.out.made ((Step.refl (fun _ => False) W0).alloc _)).ow) _ _ (tkL t) rfl rfl (lit3_news _ _ _) (tkL_one _) (by have := HL.out; omega) ?_
                    intro v3 w3 k1 k2 k4
                    obtain ⟨g, cp, hv⟩ := Joins.ownsRow_form k1 (by omega)
                    have k5 := Bk.tok' (ts' := ts ++ [t]) HK0.out v3 (by rw [tkCs_snoc, List.length_append]; exact k1) k2 k4 (by first | exact ((Step.refl (fun _ => False) W0).alloc _).drew | exact ((Step.refl (fun _ => False) W0).drew).alloc _ | exact (Step.refl (fun _ => False) W0).alloc _)
                    have k6 := sv_tok (b := b) v3 k2 (by first | exact ((Step.refl (fun _ => False) W0).alloc _).drew | exact ((Step.refl (fun _ => False) W0).drew).alloc _ | exact (Step.refl (fun _ => False) W0).alloc _) HV0.out (by have := HB1.out; omega) HOB.out
                    have HK5 := hidden (And.intro k5.1 k6)
                    have q2 := k5.2.1
                    have q3 := k5.2.2
                    subst hv
                    clear k1 k2 k4 k5 k6)
    all_goals
      go_wp2_with fail
      go_meet
      first
        | exact ⟨⟨_, HK5.out.1.1⟩, HK5.out.2, HS0.out.trans HK5.out.1.2 (fun i hi => .inl hi)⟩
        | exact ⟨⟨_, HK5.out.1.1.made ((Step.refl _ _).drew)⟩, HK5.out.2.made ((Step.refl _ _).drew), (HS0.out.trans HK5.out.1.2 (fun i hi => .inl hi)).drew⟩
  case rest =>
  obtain ⟨w1, hw1⟩ : ∃ w1, wc = w1 := ⟨_, rfl⟩
  rw [hw1] at hcut ⊢
  clear hw1
  obtain ⟨⟨tv1, K1⟩, V1, S1⟩ := hcut
  have HK1 := hidden K1
  have HV1 := hidden V1
  have HS1 := hidden S1
  clear K1 V1 S1 HV0 HK0 HS0 HOB c0 z0 c0' s0 s1 s2 hW0 hB1 HB1
  have s0 := (HV1.out 0 _ rfl).1
  have s1 := (HV1.out 1 _ rfl).1
  have s2 := (HV1.out 2 _ rfl).1
  have c3 := HK1.out.c3
  by_cases h0 : t.n = 0
  · have hc : t.c < 256 := by have := HT.out; omega
    have HF := hidden (show Bk B0 (w1.setCell ⟨g1, t.c, none⟩ (.int .i64 (cL ts t.c + 1))) b tv1 rv la g1 g2 (ts ++ [t]) (cL (ts ++ [t])) (cD (ts ++ [t])) (mB (ts ++ [t])) by
      have e1 : sL t = t.c := by unfold sL; rw [if_pos h0]
      have e2 : mT t = 0 := by unfold mT; rw [if_pos h0]
      rw [cL_snoc, cD_lit ts t h0, mB_snoc, e1, e2]
      exact HK1.out.lit t.c _)
    obtain ⟨ce, cz⟩ := HK1.out.la' t.c (by omega)
    have hcb := cL_bd ts t.c
    have HG := hidden (show B0 ≤ g1 from HK1.out.hi.2.1)
    have hlb := HL.out
    have wz : wrap64 (cL ts t.c + 1) = cL ts t.c + 1 := wrap64_id _ (by omega) (by omega)
    have wz2 : IntKind.i64.wrap (cL ts t.c + 1) = cL ts t.c + 1 := wrap_i64_id _ (by omega) (by omega)
    have c1 : (t.c : Int) < 286 := by omega
    have c2 : (0 : Int) ≤ (t.c : Int) := by omega
    rw [h0] at s1
    generalize cL ts t.c = z at *
    clear hc hcb hlb
    go_wp2
    refine wp_region_still_tail 10 Tryz.mixed (by kernel_rfl) ?_
    simp only [List.take_succ_cons, List.take_zero, List.drop_succ_cons, List.drop_zero]
    change wpStill _ _ (World.drew _) _ _ _
    iterate 10 still_step
    refine wpStill_nil ?_
    go_wp2
    refine bodyPost_ret (results_none rfl _ _ _) rfl ?_
    exact ⟨⟨_, rfl⟩, ⟨tv1, HF.out.made ((Step.refl _ _).drew)⟩, (HS1.out.setCell _ _ (.inl HG.out)).drew⟩
  · have ht : 3 ≤ t.n ∧ t.n ≤ 258 ∧ 1 ≤ t.d ∧ t.d ≤ 32768 := by have := HT.out; omega
    have HLS := hidden (fun wx => lengthStep_any t.n ht.1 ht.2.1 wx)
    have HDS := hidden (fun wx => distanceStep_any t.d ht.2.2.1 ht.2.2.2 wx)
    have hz : ¬ (t.n : Int) = 0 := by omega
    have hB1 : B1 < w1.heap.size := HV1.out.lt (by simp [tkL])
    go_upto_region 4 with fail
    go_cut [4, 5] (fun s4 s5 wx => ∃ A5 A6, s4 = .pointer (some ⟨A5, 0, none⟩) ∧ s5 = .pointer (some ⟨A6, 0, none⟩) ∧ Hid (Sv wx A5 (spL (lnS t.n) (lnM t.n) (lnB t.n)) ∧ Sv wx A6 (spL (dsS t.d) (dsM t.d) (dsB t.d)) ∧ Step (fun _ => False) w1 wx ∧ w1.heap.size ≤ A5 ∧ w1.heap.size ≤ A6))
    case first =>
      generalize lnS t.n = a1 at *
      generalize lnM t.n = a2 at *
      generalize lnB t.n = a3 at *
      generalize dsS t.d = b1 at *
      generalize dsM t.d = b2 at *
      generalize dsB t.d = b3 at *
      clear HT ht HM HL c3 s0 HK1 HS1 HV1 h0
      refine region_inv_tail Tryz.mixed 67 8 (fun j => if j < 6 then 29 + j else if j = 6 then 4 else 5) [(0, .pointer (some ⟨b, 0, none⟩)), (1, tkV t), (2, undef), (3, .pointer (some ⟨B1, 0, none⟩))] (FS w1.heap.size B1 t.n t.d a1 a2 a3 b1 b2 b3) (fun j k v v' => j = 6 → k = 7 → v ≠ v') (by kernel_rfl) (by kernel_rfl) (by kernel_rfl) (by decide) (by kernel_rfl) FS.mono rfl rfl ?rbase ?rops ?rend
      case rbase => intro x hx; simp at hx; rcases hx with rfl | rfl | rfl | rfl <;> rfl
      case rops =>
        intro j o hj8 ho b u hn hs hb hdeps
        have b3' := hb (3, .pointer (some ⟨B1, 0, none⟩)) (by simp)
        have hjc : j = 0 ∨ j = 1 ∨ j = 2 ∨ j = 3 ∨ j = 4 ∨ j = 5 ∨ j = 6 ∨ j = 7 := by omega
        rcases hjc with rfl | rfl | rfl | rfl | rfl | rfl | rfl | rfl
        · simp at ho
          subst ho
          refine ⟨rfl, wp_run (v := .pointer (some ⟨B1, 1, none⟩)) (w' := u) ?_ ⟨_, rfl, Step.refl _ _, rfl, fun k' v' _ _ _ => ⟨fun e => absurd e (by decide), fun _ e => absurd e (by decide)⟩⟩⟩
          simp [execOp, b3']
          simp [go_sem]
        · simp at ho
          subst ho
          have d0 : b.eval (.tmp 29) = _ := hdeps ⟨0, .data⟩ (by simp) rfl
          refine ⟨rfl, wp_run (v := .int .i64 (t.n : Int)) (w' := u) ?_ ⟨_, rfl, Step.refl _ _, rfl, fun k' v' _ _ _ => ⟨fun e => absurd e (by decide), fun _ e => absurd e (by decide)⟩⟩⟩
          have c1 := hs.cell s1 (fun h => h)
          simp [execOp, d0]
          simp [go_sem, c1]
        · simp at ho
          subst ho
          have d0 : b.eval (.tmp 30) = _ := hdeps ⟨1, .data⟩ (by simp) rfl
          refine ⟨rfl, wp_enter (run_call1 Tryz.func54 (by kernel_rfl) rfl _ u _ b (.tmp 30) _ rfl d0) ((HLS.out u).mono ?_)⟩
          rintro e w' ⟨rfl, hst⟩
          exact ⟨_, rfl, _, rfl, hst, rfl, fun k' v' _ _ _ => ⟨fun e => absurd e (by decide), fun _ e => absurd e (by decide)⟩⟩
        · simp at ho
          subst ho
          refine ⟨rfl, wp_run (v := .pointer (some ⟨B1, 2, none⟩)) (w' := u) ?_ ⟨_, rfl, Step.refl _ _, rfl, fun k' v' _ _ _ => ⟨fun e => absurd e (by decide), fun _ e => absurd e (by decide)⟩⟩⟩
          simp [execOp, b3']
          simp [go_sem]
        · simp at ho
          subst ho
          have d0 : b.eval (.tmp 32) = _ := hdeps ⟨3, .data⟩ (by simp) rfl
          refine ⟨rfl, wp_run (v := .int .i64 (t.d : Int)) (w' := u) ?_ ⟨_, rfl, Step.refl _ _, rfl, fun k' v' _ _ _ => ⟨fun e => absurd e (by decide), fun _ e => absurd e (by decide)⟩⟩⟩
          have c1 := hs.cell s2 (fun h => h)
          simp [execOp, d0]
          simp [go_sem, c1]
        · simp at ho
          subst ho
          have d0 : b.eval (.tmp 33) = _ := hdeps ⟨4, .data⟩ (by simp) rfl
          refine ⟨rfl, wp_enter (run_call1 Tryz.func55 (by kernel_rfl) rfl _ u _ b (.tmp 33) _ rfl d0) ((HDS.out u).mono ?_)⟩
          rintro e w' ⟨rfl, hst⟩
          exact ⟨_, rfl, _, rfl, hst, rfl, fun k' v' _ _ _ => ⟨fun e => absurd e (by decide), fun _ e => absurd e (by decide)⟩⟩
        · simp at ho
          subst ho
          refine ⟨rfl, wp_run (v := .pointer (some ⟨u.heap.size, 0, none⟩)) (w' := u.alloc (.cells #[.int .i64 0, .int .i64 0, .int .i64 0] 89)) ?_ ⟨_, rfl, (Step.refl _ _).alloc _, ⟨_, rfl, hs.size, Sv.new u _ _⟩, fun k' v' hk' hne hf => ⟨fun _ e => ?_, fun e => absurd e (by omega)⟩⟩⟩
          · simp [execOp]
            simp [go_sem]
          · subst e
            obtain ⟨A, rfl, _, hA⟩ := hf
            have := hA.lt (by simp [spL])
            intro e
            have e2 := Value.pointer.inj e
            have e3 := congrArg Addr.block (Option.some.inj e2)
            simp only at e3
            omega
        · simp at ho
          subst ho
          refine ⟨rfl, wp_run (v := .pointer (some ⟨u.heap.size, 0, none⟩)) (w' := u.alloc (.cells #[.int .i64 0, .int .i64 0, .int .i64 0] 89)) ?_ ⟨_, rfl, (Step.refl _ _).alloc _, ⟨_, rfl, hs.size, Sv.new u _ _⟩, fun k' v' hk' hne hf => ⟨fun e => absurd e (by decide), fun e _ => ?_⟩⟩⟩
          · simp [execOp]
            simp [go_sem]
          · subst e
            obtain ⟨A, rfl, _, hA⟩ := hf
            have := hA.lt (by simp [spL])
            intro e
            have e2 := Value.pointer.inj e
            have e3 := congrArg Addr.block (Option.some.inj e2)
            simp only at e3
            omega
      case rend =>
        intro c u hd hn hs hb hf hD
        have q0 : c.eval (.tmp 0) = _ := hb (0, .pointer (some ⟨b, 0, none⟩)) (by simp)
        have q1 : c.eval (.tmp 1) = _ := hb (1, tkV t) (by simp)
        have q2 : c.eval (.tmp 2) = _ := hb (2, undef) (by simp)
        have q3 : c.eval (.tmp 3) = _ := hb (3, .pointer (some ⟨B1, 0, none⟩)) (by simp)
        have q31 : c.eval (.tmp 31) = spV a1 a2 a3 := hf 2 (by decide)
        have q34 : c.eval (.tmp 34) = spV b1 b2 b3 := hf 5 (by decide)
        obtain ⟨A5, q4, l5, hA5⟩ : ∃ A, c.eval (.tmp 4) = .pointer (some ⟨A, 0, none⟩) ∧ w1.heap.size ≤ A ∧ Sv u A (spL 0 0 0) := hf 6 (by decide)
        obtain ⟨A6, q5, l6, hA6⟩ : ∃ A, c.eval (.tmp 5) = .pointer (some ⟨A, 0, none⟩) ∧ w1.heap.size ≤ A ∧ Sv u A (spL 0 0 0) := hf 7 (by decide)
        have hne : A5 ≠ A6 := by
          intro e
          have := hD 6 7 (by decide) (by decide) (by decide) rfl rfl
          apply this
          show c.eval (.tmp 4) = c.eval (.tmp 5)
          rw [q4, q5, e]
        obtain ⟨f, hf2, hbf⟩ := act_lit67 c hd hn
        rw [← hf2] at q0 q1 q2 q3 q4 q5 q31 q34
        rw [q0, q1, q2, q3, q4, q5, q31, q34] at hbf
        rw [hbf]
        have HA5 := hidden hA5
        have HA6 := hidden hA6
        have HS := hidden hs
        clear hf hb hbf hf2 q0 q1 q2 q3 q4 q5 q31 q34 hd hn hs hA5 hA6
        simp only [List.drop_succ_cons, List.drop_zero]
        refine store_sv A5 (spL 0 0 0) (spL a1 a2 a3) rfl Tryz.infoSp (spL_one _ _ _) rfl rfl HA5.out ?_
        intro w5 S5 V5
        have HV5 := hidden V5
        have HA6' := hidden (HA6.out.step S5 (fun e => hne e.symm))
        refine store_sv A6 (spL 0 0 0) (spL b1 b2 b3) rfl Tryz.infoSp (spL_one _ _ _) rfl rfl HA6'.out ?_
        intro w6 S6 V6
        have HF := hidden (show Sv w6 A5 (spL a1 a2 a3) ∧ Sv w6 A6 (spL b1 b2 b3) ∧ Step (fun _ => False) w1 w6 from ⟨HV5.out.step S6 hne, V6, (HS.out.trans S5 (fun i hi => .inr (by omega))).trans S6 (fun i hi => .inr (by omega))⟩)
        clear S5 V5 S6 V6
        go_wp2_with fail
        go_meet
        exact ⟨A5, A6, rfl, rfl, HF.out.1, HF.out.2.1, HF.out.2.2, l5, l6⟩
    case rest =>
    obtain ⟨w2, hw2⟩ : ∃ w2, wc = w2 := ⟨_, rfl⟩
    rw [hw2] at hcut ⊢
    clear hw2
    obtain ⟨A5, A6, rfl, rfl, V5, V6, S2, l5, l6⟩ := hcut
    obtain ⟨o1, o2, o3, _⟩ := HK1.out.low
    have HNE := hidden (show (A5 ≠ b ∧ A5 ≠ g1 ∧ A5 ≠ g2) ∧ (A6 ≠ b ∧ A6 ≠ g1 ∧ A6 ≠ g2) from ⟨⟨by omega, by omega, by omega⟩, ⟨by omega, by omega, by omega⟩⟩)
    have HHI := hidden HK1.out.hi
    have HK2 := hidden (HK1.out.made S2)
    have HV5 := hidden V5
    have HV6 := hidden V6
    have HS2 := hidden (HS1.out.trans S2 (fun _ q => q.elim))
    clear S2 V5 V6 l5 l6 o1 o2 o3 HK1 HV1 HS1 s0 s1 s2 c3 hB1 HLS HDS
    have hb1 := lnS_bd t.n ht.1 ht.2.1
    have hb2 := dsS_lt t.d ht.2.2.1 ht.2.2.2
    have hb3 := lnB_le t.n ht.2.1
    have hb4 := dsB_le t.d ht.2.2.2 ht.2.2.1
    have HFIN := hidden (show ∀ wx, Bk B0 wx b tv1 rv la g1 g2 (ts ++ [t]) (upd (cL ts) (lnS t.n) (cL ts (lnS t.n) + 1)) (upd (cD ts) (dsS t.d) (cD ts (dsS t.d) + 1)) (mB ts + (lnB t.n + dsB t.d)) → Bk B0 wx b tv1 rv la g1 g2 (ts ++ [t]) (cL (ts ++ [t])) (cD (ts ++ [t])) (mB (ts ++ [t])) from fun wx hx => by
      have e1 : sL t = lnS t.n := by unfold sL; rw [if_neg h0]
      have e2 : mT t = lnB t.n + dsB t.d := by unfold mT; rw [if_neg h0]
      rw [cL_snoc, cD_mat ts t h0, mB_snoc, e1, e2]
      exact hx)
    generalize lnS t.n = a1 at *
    generalize lnM t.n = a2 at *
    generalize lnB t.n = a3 at *
    generalize dsS t.d = b1 at *
    generalize dsM t.d = b2 at *
    generalize dsB t.d = b3 at *
    have z1 : (a1 : Int) < 286 := by omega
    have z2 : (0 : Int) ≤ (a1 : Int) := by omega
    have z3 : (b1 : Int) < 30 := by omega
    have z4 : (0 : Int) ≤ (b1 : Int) := by omega
    have c3 := HK2.out.c3
    have c5 := HK2.out.c5
    have s0 := (HV5.out 0 _ rfl).1
    obtain ⟨ce, cz⟩ := HK2.out.la' a1 (by omega)
    have Hb2 := hidden hb2
    have hcb := cL_bd ts a1
    have hdb := cD_bd ts b1
    have hlb := HL.out
    have hmb := HM.out
    obtain ⟨zl, hzl⟩ : ∃ z, cL ts a1 = z := ⟨_, rfl⟩
    obtain ⟨zd, hzd⟩ : ∃ z, cD ts b1 = z := ⟨_, rfl⟩
    obtain ⟨m0, hm0⟩ : ∃ z, mB ts = z := ⟨_, rfl⟩
    obtain ⟨nn, hnn⟩ : ∃ z, ts.length = z := ⟨_, rfl⟩
    rw [hzl] at ce hcb HFIN
    rw [hzd] at hdb HFIN
    rw [hm0] at hmb HFIN c5
    rw [hnn] at hcb hdb hlb hmb
    obtain ⟨ss, mm, hmm, e1, e2, wx1, wx2, wv1, wv2⟩ := num_take a3 b3 m0 nn hb3 hb4 hmb hlb
    rw [hmm] at HFIN
    have HW := hidden (And.intro e1 (And.intro e2 (And.intro wx1 (And.intro wx2 (And.intro wv1 wv2)))))
    clear e1 e2 wx1 wx2 wv1 wv2 hmm
    have Hzd := hidden hzd
    have Hm0 := hidden hm0
    clear hzl hzd hm0 hnn HL HM HT
    have wz : wrap64 (zl + 1) = zl + 1 := wrap64_id _ (by omega) (by omega)
    have wz2 : IntKind.i64.wrap (zl + 1) = zl + 1 := wrap_i64_id _ (by omega) (by omega)
    have wy : wrap64 (zd + 1) = zd + 1 := wrap64_id _ (by omega) (by omega)
    have wy2 : IntKind.i64.wrap (zd + 1) = zd + 1 := wrap_i64_id _ (by omega) (by omega)
    clear hb1 hb2 hb3 hb4 hlb hmb hcb hdb
    have HS5 := hidden s0
    go_wp2
    refine wp_region_still_tail 10 Tryz.mixed (by kernel_rfl) ?_
    simp only [List.take_succ_cons, List.take_zero, List.drop_succ_cons, List.drop_zero]
    change wpStill _ _ (World.drew _) _ _ _
    iterate 10 still_step
    refine wpStill_nil ?_
    go_wp2
    obtain ⟨w3, hw3⟩ : ∃ w3, (w2.setCell ⟨g1, a1, none⟩ (.int .i64 (zl + 1))).drew = w3 := ⟨_, rfl⟩
    rw [hw3]
    have S3 : Step (fun k => k = g1) w2 w3 := by rw [← hw3]; exact ((Step.refl (fun k => k = g1) w2).setCell _ _ (.inl rfl)).drew
    have HK3 := hidden (show Bk B0 w3 b tv1 rv la g1 g2 (ts ++ [t]) (upd (cL ts) a1 (zl + 1)) (cD ts) (mB ts) by rw [← hw3]; exact (HK2.out.lit a1 (zl + 1)).made ((Step.refl _ _).drew))
    have HV53 := hidden (HV5.out.step S3 HNE.out.1.2.1)
    have HV63 := hidden (HV6.out.step S3 HNE.out.2.2.1)
    have HS3 := hidden (HS2.out.trans S3 (fun i hi => .inl (by rw [hi]; exact HHI.out.2.1)))
    clear S3 hw3 HS2 HK2 HV5 HV6 s0 ce cz c3 c5 HS5 wz wz2
    have c4 := HK3.out.c4
    have s0 := (HV63.out 0 _ rfl).1
    obtain ⟨ce, cz⟩ := HK3.out.da b1 Hb2.out
    rw [Hzd.out] at ce
    refine wp_region_still_tail 10 Tryz.mixed (by kernel_rfl) ?_
    simp only [List.take_succ_cons, List.take_zero, List.drop_succ_cons, List.drop_zero]
    change wpStill _ _ (World.drew _) _ _ _
    iterate 10 still_step
    refine wpStill_nil ?_
    go_wp2
    obtain ⟨w4, hw4⟩ : ∃ w4, (w3.setCell ⟨g2, b1, none⟩ (.int .i64 (zd + 1))).drew = w4 := ⟨_, rfl⟩
    rw [hw4]
    have S4 : Step (fun k => k = g2) w3 w4 := by rw [← hw4]; exact ((Step.refl (fun k => k = g2) w3).setCell _ _ (.inl rfl)).drew
    have HK4 := hidden (show Bk B0 w4 b tv1 rv la g1 g2 (ts ++ [t]) (upd (cL ts) a1 (zl + 1)) (upd (cD ts) b1 (zd + 1)) (mB ts) by rw [← hw4]; exact (HK3.out.dis b1 (zd + 1)).made ((Step.refl _ _).drew))
    have HV54 := hidden (HV53.out.step S4 HNE.out.1.2.2)
    have HV64 := hidden (HV63.out.step S4 HNE.out.2.2.2)
    have HS4 := hidden (HS3.out.trans S4 (fun i hi => .inl (by rw [hi]; exact HHI.out.2.2)))
    clear S4 hw4 HS3 HK3 HV53 HV63 s0 ce cz c4 wy wy2
    have c5 := HK4.out.c5
    have z5 := HK4.out.fz 5 (by omega)
    have s5 := (HV54.out 2 _ rfl).1
    have s6 := (HV64.out 2 _ rfl).1
    have HFN2 := hidden (HFIN.out _ (HK4.out.mor mm))
    rw [Hm0.out] at c5
    obtain ⟨e1, e2, wx1, wx2, wv1, wv2⟩ := HW.out
    refine wp_region_still_tail 12 Tryz.mixed (by kernel_rfl) ?_
    simp only [List.take_succ_cons, List.take_zero, List.drop_succ_cons, List.drop_zero]
    change wpStill _ _ (World.drew _) _ _ _
    iterate 12 still_step
    refine wpStill_nil ?_
    go_wp2
    go_end0
    exact ⟨⟨_, rfl⟩, ⟨tv1, HFN2.out.made ((Step.refl _ _).drew)⟩, (HS4.out.setCell _ _ (.inl HHI.out.1)).drew⟩

end Go.Proofs.YtcgjmkcigmmjjaaGreatDoor

namespace Go.Proofs.YtcgjmkcigmmjjaaGreatDoor
open Go.RowKit
set_option maxRecDepth 100000
def bookL (vl ul vd ud : Value) : List Value := [vl, ul, vd, ud]

/-- The codes of a block, in block k: lengths L and D, with their codes. -/
structure Book (w : World) (k : Nat) (L D : List Int) : Prop where
  at' : ∃ vl ul vd ud, Sv w k (bookL vl ul vd ud) ∧ Ri w vl L ∧ Ri w ul (codes L) ∧ Ri w vd D ∧ Ri w ud (codes D)

theorem Book.made {w w' : World} {k : Nat} {L D : List Int} (h : Book w k L D) (hs : Step (fun _ => False) w w') : Book w' k L D := by
  obtain ⟨vl, ul, vd, ud, h0, h1, h2, h3, h4⟩ := h.at'
  exact ⟨vl, ul, vd, ud, h0.made hs, h1.made hs, h2.made hs, h3.made hs, h4.made hs⟩

def FD0 : List Int := List.replicate 30 5

theorem FD0_len : FD0.length = 30 := by simp [FD0]

theorem FD0_code : codeErr FD0 = 0 := by kernel_rfl

theorem FL_code : codeErr FL = 0 := by kernel_rfl

theorem drepeat_any (x : Int) (n : Nat) (w : World) (h1 : 1 ≤ n) (hn : n ≤ 100000) :
    Calls Tryz.prog 61 #[.int .i64 x, .int .i64 n] w fun e w' => ∃ k, e = .returned (.slice (some ⟨k, 0, none⟩) n n) ∧ w.heap.size ≤ k ∧ w'.ownsRow 0 3 1 (.slice (some ⟨k, 0, none⟩) n n) n (i64s (List.replicate n x)) ∧ Step (fun _ => False) w w' := by
  have HC : Hid (∀ o, o = Obj.cells #[Value.int .i64 x] 3 → Calls Tryz.prog 27 #[.slice (some ⟨w.heap.size, 0, none⟩) 1 1, .int .i64 n] (w.alloc o) fun e w' => ∃ k, e = .returned (.slice (some ⟨k, 0, none⟩) n n) ∧ Hid (w.heap.size ≤ k ∧ w'.ownsRow 0 3 1 (.slice (some ⟨k, 0, none⟩) n n) n (i64s (List.replicate n x)) ∧ Step (fun _ => False) w w')) := hidden (fun o ho => by
    refine (srepeat_any w.heap.size x n (w.alloc o) (by rw [ho]; simp) h1 hn).mono fun e w' ⟨k, he, hk, ho, hs⟩ => ⟨k, he, ?_, ho, ((Step.refl _ w).alloc _).made hs⟩
    have : (w.alloc o).heap.size = w.heap.size + 1 := Array.size_push _
    omega)
  go_enter Tryz.func61, Tryz.ntmps61
  go_wp2_with (go_at_call 27; refine (HC.out _ rfl).mono ?_; rintro e w1 ⟨k, rfl, H⟩)
  go_ret
  exact ⟨k, rfl, H.out⟩

set_option maxHeartbeats 4000000 in
theorem fixedBook_any (w : World) :
    Calls Tryz.prog 31 #[] w fun e w' => ∃ k, e = .returned (.pointer (some ⟨k, 0, none⟩)) ∧ w.heap.size ≤ k ∧ Book w' k FL FD0 ∧ Step (fun _ => False) w w' := by
  have HR : Hid (∀ (x : Int) (n : Nat) (w1 : World), 1 ≤ n → n ≤ 100000 → Step (fun _ => False) w w1 → Calls Tryz.prog 61 #[.int .i64 x, .int .i64 n] w1 fun e w' => ∃ k, e = .returned (.slice (some ⟨k, 0, none⟩) n n) ∧ Hid (w.heap.size ≤ k ∧ Ri w' (.slice (some ⟨k, 0, none⟩) n n) (List.replicate n x) ∧ Step (fun _ => False) w1 w' ∧ Step (fun _ => False) w w')) :=
    hidden (fun x n w1 h1 hn S1 => (drepeat_any x n w1 h1 hn).mono fun e w' ⟨k, he, hk, ho, hs⟩ => ⟨k, he, Nat.le_trans S1.size hk, Ri.of_own ho, hs, S1.made hs⟩)
  go_enter Tryz.func31, Tryz.ntmps31
  go_wp2_with fail
  refine (HR.out 8 144 _ (by omega) (by omega) (Step.refl _ _)).mono ?_
  rintro e w1 ⟨k1, rfl, R1⟩
  go_wp2_with fail
  refine (HR.out 9 112 _ (by omega) (by omega) R1.out.2.2.2).mono ?_
  rintro e w2 ⟨k2, rfl, R2⟩
  go_wp2_with fail
  refine (HR.out 7 24 _ (by omega) (by omega) R2.out.2.2.2).mono ?_
  rintro e w3 ⟨k3, rfl, R3⟩
  go_wp2_with fail
  refine (HR.out 8 8 _ (by omega) (by omega) R3.out.2.2.2).mono ?_
  rintro e w4 ⟨k4, rfl, R4⟩
  have HC : Hid (Calls Tryz.prog 60 #[.slice (some ⟨w4.heap.size, 0, none⟩) 4 4] (w4.alloc (.cells #[.slice (some ⟨k1, 0, none⟩) 144 144, .slice (some ⟨k2, 0, none⟩) 112 112, .slice (some ⟨k3, 0, none⟩) 24 24, .slice (some ⟨k4, 0, none⟩) 8 8] 30))
      fun e w' => ∃ va vc, e = .returned (.slice va 288 vc) ∧ Hid (Ri w' (.slice va 288 vc) FL ∧ Step (fun _ => False) w w')) := hidden (by
    have S4 : Step (fun _ => False) w4 (w4.alloc (.cells #[.slice (some ⟨k1, 0, none⟩) 144 144, .slice (some ⟨k2, 0, none⟩) 112 112, .slice (some ⟨k3, 0, none⟩) 24 24, .slice (some ⟨k4, 0, none⟩) 8 8] 30)) := (Step.refl _ w4).alloc _
    refine (concat_any w4.heap.size _ 4 288 _ (Rws.four (by simp) (by simp) (by simp) (by simp) (((R1.out.2.1.made R2.out.2.2.1).made R3.out.2.2.1).made R4.out.2.2.1) ((R2.out.2.1.made R3.out.2.2.1).made R4.out.2.2.1) (R3.out.2.1.made R4.out.2.2.1) R4.out.2.1 _) rfl (by rw [FL_flat, FL_len]) (by omega) (by omega) (by omega)).mono ?_
    rintro e w' ⟨v', he, ho, hs, _⟩
    rw [FL_flat] at ho
    obtain ⟨va, vc, hv⟩ := own_slice ho
    subst hv
    exact ⟨va, vc, he, Ri.of_own ho, (R4.out.2.2.2.made S4).made hs⟩)
  go_wp2_with fail
  refine HC.out.mono ?_
  rintro e w5 ⟨va, vc, rfl, R5⟩
  have HNC := hidden (dnewCodes_any (.slice va 288 vc) FL w5 R5.out.1 (by rw [FL_len]; omega) FL_code)
  clear HC
  go_wp2_with fail
  refine HNC.out.mono ?_
  rintro e w6 ⟨u6, rfl, r6, _, S6⟩
  have H6 := hidden (And.intro (R5.out.1.made S6) (And.intro r6 (R5.out.2.made S6)))
  clear r6 S6 HNC
  go_wp2_with fail
  refine (HR.out 5 30 _ (by omega) (by omega) H6.out.2.2).mono ?_
  rintro e w7 ⟨k7, rfl, R7⟩
  have HND := hidden (dnewCodes_any _ FD0 w7 R7.out.2.1 (by rw [FD0_len]; omega) FD0_code)
  go_wp2_with fail
  refine HND.out.mono ?_
  rintro e w8 ⟨u8, rfl, r8, _, S8⟩
  have H8 := hidden (show Ri w8 (.slice va 288 vc) FL ∧ Ri w8 u6 (codes FL) ∧ Ri w8 (.slice (some ⟨k7, 0, none⟩) 30 30) FD0 ∧ Ri w8 u8 (codes FD0) ∧ Step (fun _ => False) w w8 from
    ⟨(H6.out.1.made R7.out.2.2.1).made S8, (H6.out.2.1.made R7.out.2.2.1).made S8, R7.out.2.1.made S8, r8, R7.out.2.2.2.made S8⟩)
  clear r8 S8 HND R1 R2 R3 R4 R5 H6 R7 HR
  obtain ⟨a6, c6, hu6⟩ := Ri.slice H8.out.2.1
  obtain ⟨a8, c8, hu8⟩ := Ri.slice H8.out.2.2.2.1
  subst hu6
  subst hu8
  generalize (codes FL).length = n6 at *
  generalize (codes FD0).length = n8 at *
  go_wp2
  go_ret
  obtain ⟨w9, hw9⟩ : ∃ w9, w8.alloc (.cells #[.slice va 288 vc, .slice a6 n6 c6, .slice (some ⟨k7, 0, none⟩) 30 30, .slice a8 n8 c8] 99) = w9 := ⟨_, rfl⟩
  rw [hw9]
  have S9 : Step (fun _ => False) w8 w9 := by rw [← hw9]; exact (Step.refl _ _).alloc _
  have V9 : Sv w9 w8.heap.size (bookL (.slice va 288 vc) (.slice a6 n6 c6) (.slice (some ⟨k7, 0, none⟩) 30 30) (.slice a8 n8 c8)) := by rw [← hw9]; exact Sv.new w8 _ _
  exact ⟨_, rfl, H8.out.2.2.2.2.size, ⟨⟨_, _, _, _, V9, H8.out.1.made S9, H8.out.2.1.made S9, H8.out.2.2.1.made S9, H8.out.2.2.2.1.made S9⟩⟩, H8.out.2.2.2.2.made S9⟩

end Go.Proofs.YtcgjmkcigmmjjaaGreatDoor

namespace Go.Proofs.YtcgjmkcigmmjjaaGreatDoor
open Go.RowKit
def tkIn (t : Tk) : Prop := (t.n = 0 ∧ t.c < 256) ∨ (3 ≤ t.n ∧ t.n ≤ 258 ∧ 1 ≤ t.d ∧ t.d ≤ 32768)

theorem tkIn_sL {t : Tk} (h : tkIn t) : sL t < 286 := by
  unfold sL
  split
  · rcases h with h | h <;> omega
  · have := lnS_bd t.n (by rcases h with h | h <;> omega) (by rcases h with h | h <;> omega)
    omega

theorem cL_pos {ts : List Tk} {t : Tk} (h : t ∈ ts) : 0 < cL ts (sL t) := by
  unfold cL
  have : 0 < (ts.map sL).count (sL t) := List.count_pos_iff.2 (List.mem_map.2 ⟨t, h, rfl⟩)
  omega

theorem cD_pos {ts : List Tk} {t : Tk} (h : t ∈ ts) (hn : ¬ t.n = 0) : 0 < cD ts (dsS t.d) := by
  unfold cD dL
  have : 0 < ((ts.filter fun t => t.n != 0).map fun t => dsS t.d).count (dsS t.d) := List.count_pos_iff.2 (List.mem_map.2 ⟨t, List.mem_filter.2 ⟨h, by simp [hn]⟩, rfl⟩)
  omega

theorem lcf_pos {ts : List Tk} {t : Tk} (h : t ∈ ts) : 0 < lcf ts (sL t) := by
  have h1 := cL_pos h
  have h2 := cL_bd ts 256
  unfold lcf upd
  split <;> omega

theorem lcf_end (ts : List Tk) : 0 < lcf ts 256 := by
  have h2 := cL_bd ts 256
  unfold lcf upd
  rw [if_pos rfl]
  omega

theorem own_coded {ts : List Tk} (hts : ∀ x ∈ ts, tkIn x) {D1 D2 : List Int} (U1 : Used (rowOf (lcf ts) 286) D1 15) (U2 : Used (rowOf (cD ts) 30) D2 15) :
    (∀ x ∈ ts, tkC (lensOf (rowOf (lcf ts) 286) D1 15) (lensOf (rowOf (cD ts) 30) D2 15) x) ∧ 0 < (lensOf (rowOf (lcf ts) 286) D1 15).getD 256 0 := by
  refine ⟨fun x hx => ?_, ?_⟩
  · have hs := tkIn_sL (hts x hx)
    have b1 := (U1.bounds (i := sL x) (by rw [rowOf_len]; exact hs)).2.2.1 (by rw [rowOf_getD _ _ _ hs]; exact lcf_pos hx)
    unfold tkC
    unfold sL at b1
    by_cases hn : x.n = 0
    · rw [if_pos hn] at b1 ⊢
      exact b1
    · rw [if_neg hn] at b1 ⊢
      have hd := dsS_lt x.d (by rcases hts x hx with h | h <;> omega) (by rcases hts x hx with h | h <;> omega)
      exact ⟨b1, (U2.bounds (i := dsS x.d) (by rw [rowOf_len]; exact hd)).2.2.1 (by rw [rowOf_getD _ _ _ hd]; exact cD_pos hx hn)⟩
  · exact (U1.bounds (i := 256) (by rw [rowOf_len]; omega)).2.2.1 (by rw [rowOf_getD _ _ _ (by omega)]; exact lcf_end ts)

theorem FL_pos (i : Nat) (h : i < 288) : 0 < FL.getD i 0 := by
  have := fix_facts i h
  rw [this.1]
  omega

theorem FD0_at (i : Nat) (h : i < 30) : FD0.getD i 0 = 5 := by
  unfold FD0
  rw [List.getD_eq_getElem?_getD, List.getElem?_replicate, if_pos h]
  rfl

theorem FD0_cd (i : Nat) (h : i < 30) : cdP FD0 i = cdP FD i := by
  have h2 : (List.range 30).all (fun i => decide (cdP FD0 i = cdP FD i)) = true := by decide +kernel
  have := List.all_eq_true.1 h2 i (List.mem_range.2 h)
  simpa using this

theorem fix_coded {ts : List Tk} (hts : ∀ x ∈ ts, tkIn x) : ∀ x ∈ ts, tkC FL FD0 x := by
  intro x hx
  have hs := tkIn_sL (hts x hx)
  unfold sL at hs
  unfold tkC
  by_cases hn : x.n = 0
  · rw [if_pos hn] at hs ⊢
    exact FL_pos _ (by omega)
  · rw [if_neg hn] at hs ⊢
    have hd := dsS_lt x.d (by rcases hts x hx with h | h <;> omega) (by rcases hts x hx with h | h <;> omega)
    refine ⟨FL_pos _ (by omega), ?_⟩
    rw [FD0_at _ hd]
    decide

end Go.Proofs.YtcgjmkcigmmjjaaGreatDoor

namespace Go.Proofs.YtcgjmkcigmmjjaaGreatDoor
open Go.RowKit
set_option maxRecDepth 100000
theorem act_lit56 (b : Act) (hd : b.defers = []) (hn : b.tmps.size = 56) : ∃ f : Nat → Value, (∀ t, f t = b.eval (.tmp t)) ∧ b = ⟨#[f 0, f 1, f 2, f 3, f 4, f 5, f 6, f 7, f 8, f 9, f 10, f 11, f 12, f 13, f 14, f 15, f 16, f 17, f 18, f 19, f 20, f 21, f 22, f 23, f 24, f 25, f 26, f 27, f 28, f 29, f 30, f 31, f 32, f 33, f 34, f 35, f 36, f 37, f 38, f 39, f 40, f 41, f 42, f 43, f 44, f 45, f 46, f 47, f 48, f 49, f 50, f 51, f 52, f 53, f 54, f 55], []⟩ := by
  refine ⟨fun t => b.eval (.tmp t), fun _ => rfl, ?_⟩
  obtain ⟨t, d⟩ := b
  simp only at hd hn
  subst hd
  congr 1
  have e : ∀ g : Nat → Value, #[g 0, g 1, g 2, g 3, g 4, g 5, g 6, g 7, g 8, g 9, g 10, g 11, g 12, g 13, g 14, g 15, g 16, g 17, g 18, g 19, g 20, g 21, g 22, g 23, g 24, g 25, g 26, g 27, g 28, g 29, g 30, g 31, g 32, g 33, g 34, g 35, g 36, g 37, g 38, g 39, g 40, g 41, g 42, g 43, g 44, g 45, g 46, g 47, g 48, g 49, g 50, g 51, g 52, g 53, g 54, g 55] = ((List.range 56).map g).toArray := fun g => rfl
  refine Eq.trans ?_ (e fun x => Act.eval ⟨t, []⟩ (.tmp x)).symm
  apply Array.ext
  · simp [hn]
  · intro i h1 h2
    simp [Act.eval, h1]

/-- What the operations ahead of a step's laying leave. -/
def FY (k o b B f x s m n : Nat) (vl vu : Value) : Nat → World → Value → Prop
  | 0, _, v => v = .pointer (some ⟨k, 0, none⟩)
  | 1, _, v => v = .pointer (some ⟨k, 0, none⟩)
  | 2, _, v => v = .pointer (some ⟨k, o, none⟩)
  | 3, _, v => v = .agg #[vl, vu]
  | 4, _, v => v = .pointer (some ⟨b, 0, none⟩)
  | 5, _, v => v = .pointer (some ⟨B, f, none⟩)
  | 6, _, v => v = .int .i64 (x : Int)
  | _, _, v => v = spV s m n

theorem FY.mono {k o b B f x s m n : Nat} {vl vu : Value} : ∀ j u u' v, FY k o b B f x s m n vl vu j u v → Step (fun _ => False) u u' → FY k o b B f x s m n vl vu j u' v := by
  intro j u u' v h hs
  match j with
  | 0 | 1 | 2 | 3 | 4 | 5 | 6 => exact h
  | j + 7 => exact h

theorem Book.same {w : World} {G : Nat → Prop} {k : Nat} {L D : List Int} (H : ∀ w', Step (fun k => ¬ G k) w w' → Book w' k L D) (hp : G k) : ∃ vl ul vd ud, ∀ w', Step (fun k => ¬ G k) w w' → Sv w' k (bookL vl ul vd ud) ∧ Ri w' vl L ∧ Ri w' ul (Go.Proofs.YtcgjmkcigmmjjaaGreatDoor.codes L) ∧ Ri w' vd D ∧ Ri w' ud (Go.Proofs.YtcgjmkcigmmjjaaGreatDoor.codes D) := by
  obtain ⟨vl, ul, vd, ud, hv, _⟩ := (H w (Step.refl _ w)).at'
  refine ⟨vl, ul, vd, ud, fun w' hs => ?_⟩
  obtain ⟨vl', ul', vd', ud', dv, r1, r2, r3, r4⟩ := (H w' hs).at'
  have e0 := hs.cell (hv 0 _ rfl).1 (fun q => q hp)
  have e1 := hs.cell (hv 1 _ rfl).1 (fun q => q hp)
  have e2 := hs.cell (hv 2 _ rfl).1 (fun q => q hp)
  have e3 := hs.cell (hv 3 _ rfl).1 (fun q => q hp)
  rw [(dv 0 _ rfl).1] at e0
  rw [(dv 1 _ rfl).1] at e1
  rw [(dv 2 _ rfl).1] at e2
  rw [(dv 3 _ rfl).1] at e3
  rw [← Option.some.inj e0, ← Option.some.inj e1, ← Option.some.inj e2, ← Option.some.inj e3]
  exact ⟨dv, r1, r2, r3, r4⟩

theorem tksP_take (L D : List Int) (ts : List Tk) (i : Nat) (t : Tk) (h : ts[i]? = some t) : tksP L D (ts.take (i + 1)) = tksP L D (ts.take i) ++ tkP L D t := by
  rw [List.take_add_one, h]
  simp [tksP]

theorem tkP_len {L D : List Int} (hL : ∀ i, L.getD i 0 ≤ 15) (hD : ∀ i, D.getD i 0 ≤ 15) {t : Tk} (h : tkIn t) : pcL (tkP L D t) ≤ 48 := by
  unfold tkP
  split
  · have := hL t.c
    have e : pcL [cdP L t.c, (0, 0)] = (L.getD t.c 0).toNat + (0 + 0) := rfl
    omega
  · have h1 := hL (lnS t.n)
    have h2 := hD (dsS t.d)
    have h3 := lnB_le t.n (by rcases h with h | h <;> omega)
    have h4 := dsB_le t.d (by rcases h with h | h <;> omega) (by rcases h with h | h <;> omega)
    have e : pcL [cdP L (lnS t.n), (lnM t.n, lnB t.n), cdP D (dsS t.d), (dsM t.d, dsB t.d)] = (L.getD (lnS t.n) 0).toNat + (lnB t.n + ((D.getD (dsS t.d) 0).toNat + (dsB t.d + 0))) := rfl
    omega

theorem tksP_len {L D : List Int} (hL : ∀ i, L.getD i 0 ≤ 15) (hD : ∀ i, D.getD i 0 ≤ 15) {ts : List Tk} (h : ∀ x ∈ ts, tkIn x) : ∀ i, pcL (tksP L D (ts.take i)) ≤ 48 * i := by
  intro i
  induction i with
  | zero => simp [tksP, pcL]
  | succ i ih =>
    cases hx : ts[i]? with
    | none =>
      have : ts.take (i + 1) = ts.take i := by rw [List.take_add_one, hx]; simp
      rw [this]; omega
    | some x =>
      rw [tksP_take L D ts i x hx, pcL_append]
      have := tkP_len hL hD (h x (List.mem_of_getElem? hx))
      omega

set_option maxHeartbeats 8000000 in
theorem dsymbols_any (w : World) (b : Nat) (ps : List (Nat × Nat)) (G : Nat → Prop) (h : Wc w b ps G) (hG : ∀ k, G k → k < w.heap.size) (hL : pcL ps ≤ 800000000) (p k : Nat) (tv : Value) (ts : List Tk) (L D : List Int)
    (H : ∀ w', Step (fun k => ¬ G k) w w' → (w'.cell? ⟨p, 0, none⟩ = some tv ∧ w'.ownsRow 0 62 3 tv ts.length (tkCs ts)) ∧ Book w' k L D) (hk : G k) (c1 : codeErr L = 0) (c2 : codeErr D = 0) (l1 : L.length ≤ 1000) (l2 : D.length ≤ 1000)
    (hts : ∀ x ∈ ts, tkIn x) (htc : ∀ x ∈ ts, tkC L D x) (hE : 0 < L.getD 256 0) (hn : ts.length ≤ 1000000) :
    Calls Tryz.prog 38 #[.pointer (some ⟨p, 0, none⟩), .pointer (some ⟨b, 0, none⟩), .pointer (some ⟨k, 0, none⟩)] w fun e w' => (∃ u, e = .returned u) ∧ Hid (Wc w' b (ps ++ (tksP L D ts ++ [cdP L 256, (0, 0)])) G ∧ Step (fun k => ¬ G k) w w') := by
  obtain ⟨vl, ul, vd, ud, hvv⟩ := Book.same (fun w' hs => (H w' hs).2) hk
  have q0 := hvv w (Step.refl _ w)
  obtain ⟨al, cl, e⟩ := Ri.slice q0.2.1
  subst e
  obtain ⟨au, cu, e⟩ := Ri.slice q0.2.2.1
  subst e
  obtain ⟨ad, cd, e⟩ := Ri.slice q0.2.2.2.1
  subst e
  obtain ⟨ae, ce, e⟩ := Ri.slice q0.2.2.2.2
  subst e
  obtain ⟨so, sc, hso⟩ := row3_form tkL ts (H w (Step.refl _ w)).1.2
  subst hso
  have c0 := (H w (Step.refl _ w)).1.1
  have HV := hidden hvv
  have HR0 := hidden (fun w' hs => (H w' hs).1.2)
  have bd : ∀ (M : List Int), codeErr M = 0 → ∀ i, M.getD i 0 ≤ 15 := fun M hM i => by
    by_cases hi : 0 < M.getD i 0
    · obtain ⟨_, nv, _, e, _, h15, _⟩ := cd_facts hM hi
      omega
    · omega
  have HB := hidden (tksP_len (bd L c1) (bd D c2) hts)
  have HBk := hidden (fun t ht => tkP_len (bd L c1) (bd D c2) (hts t ht))
  have HC := hidden (And.intro c1 (And.intro c2 (And.intro l1 l2)))
  have HT := hidden (And.intro hts htc)
  have HG := hidden hG
  have HL := hidden hL
  have HW := hidden h
  have HE := hidden hE
  have HY := hidden (fun wx (F : Nat → Prop) (vl vn : Value) (M : List Int) qs (hw : Wc wx b qs F) (hz : ∀ k, F k → k < wx.heap.size) (hq : pcL qs ≤ 900000000) (rl : Ri wx vl M) (rn : Ri wx vn (codes M)) (hc : codeErr M = 0) (hl : M.length ≤ 1000) s m kk (hp : 0 < M.getD s 0) (hk : kk ≤ 24) (hm : m < 2 ^ kk) => lay_c wx b qs F hw hz hq vl vn M rl rn hc hl s m kk hp hk hm)
  obtain ⟨n, hnn⟩ : ∃ n, ts.length = n := ⟨_, rfl⟩
  have Hn := hidden hnn
  rw [hnn] at c0 hn
  obtain ⟨nl, hnl⟩ : ∃ n, L.length = n := ⟨_, rfl⟩
  obtain ⟨nu, hnu⟩ : ∃ n, (codes L).length = n := ⟨_, rfl⟩
  obtain ⟨nd, hnd⟩ : ∃ n, D.length = n := ⟨_, rfl⟩
  obtain ⟨ne, hne⟩ : ∃ n, (codes D).length = n := ⟨_, rfl⟩
  rw [hnl, hnu, hnd, hne] at HV
  clear h hG hL H hvv hk c1 c2 l1 l2 hts htc hE bd q0 hnn hnl hnu hnd hne
  go_enter Tryz.func38, Tryz.ntmps38
  go_wp2_with fail
  go_loopw [13] (fun jv wr => ∃ j : Nat, jv = .int .i64 (j : Int) ∧ j ≤ n ∧ Hid (Wc wr b (ps ++ tksP L D (ts.take j)) G ∧ Step (fun k => ¬ G k) w wr)) (fun jv _ => n - (RowKit.intOf jv).toNat)
  case atStart =>
    refine ⟨0, rfl, Nat.zero_le _, hidden ⟨by simpa [tksP] using HW.out, ?_⟩⟩
    first | exact Step.refl _ _ | exact (Step.refl _ _).drewN _
  case round =>
    obtain ⟨j, rfl, hj, HQ⟩ := hrel
    clear c0 HW
    by_cases hjn : j < n
    · have j1 : (j : Int) < (n : Int) := by omega
      have j0 : (0 : Int) ≤ (j : Int) := by omega
      obtain ⟨t, ht⟩ : ∃ t, ts[j]? = some t := ⟨ts[j]'(by rw [Hn.out]; exact hjn), List.getElem?_eq_getElem _⟩
      have HRow := HR0.out wr HQ.out.2
      obtain ⟨gs, cap, hg, hr⟩ := row3_at tkL tkL_len ts HRow j t ht
      injection hg with hg1 hg2 hg3
      subst hg1
      subst hg3
      have HRG := hidden (show wr.rangeAt gs (3 * j) [.int .u8 (t.c : Int), .int .i64 (t.n : Int), .int .i64 (t.d : Int)] from hr)
      have HTK := hidden (tksP_take L D ts j t ht)
      have HTM := hidden (HBk.out t (List.mem_of_getElem? ht))
      have HTI := hidden (And.intro (HT.out.1 t (List.mem_of_getElem? ht)) (HT.out.2 t (List.mem_of_getElem? ht)))
      obtain ⟨W2, hW2⟩ : ∃ W2, wr.alloc (.cells #[.int .u8 0, .int .i64 0, .int .i64 0] 62) = W2 := ⟨_, rfl⟩
      obtain ⟨B2, hB2⟩ : ∃ B2, wr.heap.size = B2 := ⟨_, rfl⟩
      have HV2 := hidden (show Sv W2 B2 (tkL ⟨0, 0, 0⟩) by rw [← hW2, ← hB2]; exact Sv.new wr _ _)
      have HS2 := hidden (show Step (fun _ => False) wr W2 by rw [← hW2]; exact (Step.refl _ _).alloc _)
      have HB2 := hidden hB2
      have t0 : wr.cell? ⟨gs, j * 3, none⟩ = some (.int .u8 (t.c : Int)) := by rw [Nat.mul_comm]; exact HRG.out 0 _ rfl
      have t1 : wr.cell? ⟨gs, j * 3 + 1, none⟩ = some (.int .i64 (t.n : Int)) := by rw [Nat.mul_comm]; exact HRG.out 1 _ rfl
      have t2 : wr.cell? ⟨gs, j * 3 + 2, none⟩ = some (.int .i64 (t.d : Int)) := by rw [Nat.mul_comm]; exact HRG.out 2 _ rfl
      have HLQ := hidden (show pcL (ps ++ tksP L D (ts.take j)) ≤ 848000000 by rw [pcL_append]; have := HB.out j; have := HL.out; omega)
      clear hr ht hg2 HRow
      go_wp2_with (refine store_sv B2 (tkL ⟨0, 0, 0⟩) (tkL t) rfl Tryz.infoTk (tkL_one _) rfl rfl HV2.out ?_)
      intro w8 S8 V8
      have HS8 := hidden (HS2.out.trans S8 (fun i hi => .inr (by have := HB2.out; omega)))
      have u0 := (V8 0 _ rfl).1
      have u1 := (V8 1 _ rfl).1
      have u2 := (V8 2 _ rfl).1
      have HS9 := hidden (HQ.out.2.trans HS8.out (fun _ q => q.elim))
      have HW8 := hidden ((HQ.out.1.made HS8.out).less (G := G) (fun k hk => .inl hk))
      have HBo := hidden (HV.out w8 HS9.out)
      have HW82 := hidden ((HQ.out.1.made HS8.out).less (G := fun k => G k ∨ k = B2) (fun k hk => hk.elim .inl (fun e => .inr ⟨by have := HB2.out; omega, by rw [e]; exact World.block_lt_of_cell? w8 _ u0⟩)))
      clear S8 V8 HV2 HS2 hW2 hB2 t0 t1 t2 HRG
      by_cases h0 : t.n = 0
      · have hz : (t.n : Int) = 0 := by omega
        have hc : t.c < 256 := by have := HTI.out.1; unfold tkIn at this; omega
        have cw : IntKind.i64.wrap (t.c : Int) = (t.c : Int) := wrap_i64_id _ (by omega) (by omega)
        have cw2 : wrap64 (t.c : Int) = (t.c : Int) := wrap64_id _ (by omega) (by omega)
        have c00 := (HBo.out.1 0 _ rfl).1
        have c01 := (HBo.out.1 1 _ rfl).1
        have HPc := hidden (show 0 < L.getD t.c 0 by have := HTI.out.2; unfold tkC at this; rwa [if_pos h0] at this)
        have HTP := hidden (tk_lit (L := L) (D := D) h0)
        go_upto_region 4 with fail
        refine wp_region_still_tail 9 Tryz.mixed (by kernel_rfl) ?_
        simp only [List.take_succ_cons, List.take_zero, List.drop_succ_cons, List.drop_zero]
        change wpStill _ _ (World.drew _) _ _ _
        iterate 9 still_step
        refine wpStill_nil ?_
        go_wp2_with fail
        have S9 : Step (fun _ => False) w8 w8.drew := (Step.refl _ _).drew
        refine (HY.out w8.drew G _ _ L _ ((HW8.out.made S9).less (G := G) (fun k hk => .inl hk)) (fun k hk => by have := HG.out k hk; have := HS9.out.size; have : w8.drew.heap.size = w8.heap.size := rfl; omega) (by have := HLQ.out; omega) (HBo.out.2.1.made S9) (HBo.out.2.2.1.made S9) HC.out.1 HC.out.2.2.1 t.c 0 0 HPc.out (by omega) (by decide)).mono ?_
        rintro e w9 ⟨⟨u9, rfl⟩, R9⟩
        have HW9 := hidden (show Wc w9 b (ps ++ tksP L D (ts.take (j + 1))) G ∧ Step (fun k => ¬ G k) w w9 from ⟨by rw [HTK.out, HTP.out, ← List.append_assoc]; exact R9.out.1, (HS9.out.trans S9 (fun _ q => q.elim)).trans R9.out.2 (fun i hi => .inl hi)⟩)
        clear R9 HQ HS8 HW8 HBo u0 u1 u2 c00 c01 S9
        go_wp2_with fail
        go_roundw
        case rel => exact ⟨j + 1, by go_num, by omega, HW9.out⟩
        case measure => simp [RowKit.intOf]; omega
      · have hz : ¬ (t.n : Int) = 0 := by omega
        have htn : 3 ≤ t.n ∧ t.n ≤ 258 ∧ 1 ≤ t.d ∧ t.d ≤ 32768 := by have := HTI.out.1; unfold tkIn at this; omega
        have HLS := hidden (fun wx => lengthStep_any t.n htn.1 htn.2.1 wx)
        have HDS := hidden (fun wx => distanceStep_any t.d htn.2.2.1 htn.2.2.2 wx)
        have HPc := hidden (show 0 < L.getD (lnS t.n) 0 ∧ 0 < D.getD (dsS t.d) 0 by have := HTI.out.2; unfold tkC at this; rwa [if_neg h0] at this)
        have HTP := hidden (tk_mat (L := L) (D := D) h0)
        have HLN := hidden (And.intro (And.intro (lnB_le t.n htn.2.1) (lnM_lt t.n)) (And.intro (dsB_le t.d htn.2.2.2 htn.2.2.1) (dsM_lt t.d)))
        have HPL := hidden (show pcL (ps ++ tksP L D (ts.take j) ++ [cdP L (lnS t.n), (lnM t.n, lnB t.n)]) ≤ 900000000 by
          have h1 := HTM.out
          rw [HTP.out] at h1
          have h2 := HLQ.out
          rw [pcL_append]
          rw [show [cdP L (lnS t.n), (lnM t.n, lnB t.n), cdP D (dsS t.d), (dsM t.d, dsB t.d)] = [cdP L (lnS t.n), (lnM t.n, lnB t.n)] ++ [cdP D (dsS t.d), (dsM t.d, dsB t.d)] from rfl, pcL_append] at h1
          omega)
        clear htn
        obtain ⟨n0, hn0⟩ : ∃ z, t.n = z := ⟨_, rfl⟩
        obtain ⟨dd, hd0⟩ : ∃ z, t.d = z := ⟨_, rfl⟩
        have HD0 := hidden (And.intro hn0 hd0)
        rw [hn0] at u1 hz HLS HPc HTP HLN HPL
        rw [hd0] at u2 HDS HPc HTP HLN
        obtain ⟨s1, hs1⟩ : ∃ z, lnS n0 = z := ⟨_, rfl⟩
        obtain ⟨m1, hm1⟩ : ∃ z, lnM n0 = z := ⟨_, rfl⟩
        obtain ⟨z1, hz1⟩ : ∃ z, lnB n0 = z := ⟨_, rfl⟩
        obtain ⟨s2, hs2⟩ : ∃ z, dsS dd = z := ⟨_, rfl⟩
        obtain ⟨m2, hm2⟩ : ∃ z, dsM dd = z := ⟨_, rfl⟩
        obtain ⟨z2, hz2⟩ : ∃ z, dsB dd = z := ⟨_, rfl⟩
        rw [hs1, hm1, hz1] at HLS HTP HPL
        rw [hs2, hm2, hz2] at HDS HTP
        rw [hs1, hs2] at HPc
        rw [hm1, hz1, hm2, hz2] at HLN
        clear hn0 hd0 hs1 hm1 hz1 hs2 hm2 hz2
        go_upto_region 5 with fail
        refine region_inv_tail Tryz.mixed 56 8 (fun j => 30 + j) [(0, .pointer (some ⟨p, 0, none⟩)), (1, .pointer (some ⟨b, 0, none⟩)), (2, .pointer (some ⟨k, 0, none⟩)), (3, undef), (4, undef), (5, undef), (6, undef), (7, .pointer (some ⟨B2, 0, none⟩)), (8, .pointer (some ⟨p, 0, none⟩)), (9, .pointer (some ⟨p, 0, none⟩)), (10, .pointer (some ⟨p, 0, none⟩)), (11, .slice (some ⟨gs, 0, none⟩) n sc), (12, .int .i64 (n : Int)), (13, .int .i64 (j : Int)), (49, undef), (50, undef), (51, undef), (52, undef), (53, undef), (54, undef), (55, undef)] (FY k 0 b B2 1 n0 s1 m1 z1 (.slice al nl cl) (.slice au nu cu)) (fun _ _ _ _ => True) (by kernel_rfl) (by kernel_rfl) (by kernel_rfl) (by decide) (by kernel_rfl) FY.mono rfl rfl ?rbase1 ?rops1 ?rend1
        case rbase1 => intro x hx; simp at hx; rcases hx with rfl | rfl | rfl | rfl | rfl | rfl | rfl | rfl | rfl | rfl | rfl | rfl | rfl | rfl | rfl | rfl | rfl | rfl | rfl | rfl | rfl <;> rfl
        case rops1 =>
          intro i o hi8 ho c u hn hs hb hdeps
          have b0 := hb (0, .pointer (some ⟨p, 0, none⟩)) (by simp)
          have b1 := hb (1, .pointer (some ⟨b, 0, none⟩)) (by simp)
          have b2 := hb (2, .pointer (some ⟨k, 0, none⟩)) (by simp)
          have b7 := hb (7, .pointer (some ⟨B2, 0, none⟩)) (by simp)
          have hjc : i = 0 ∨ i = 1 ∨ i = 2 ∨ i = 3 ∨ i = 4 ∨ i = 5 ∨ i = 6 ∨ i = 7 := by omega
          rcases hjc with rfl | rfl | rfl | rfl | rfl | rfl | rfl | rfl
          · simp at ho
            subst ho
            refine ⟨rfl, wp_run (v := .pointer (some ⟨k, 0, none⟩)) (w' := u) ?_ ⟨_, rfl, Step.refl _ _, rfl, fun k' v' _ _ _ => ⟨trivial, trivial⟩⟩⟩
            simp [execOp, b2]
          · simp at ho
            subst ho
            have d0 : c.eval (.tmp 30) = _ := hdeps ⟨0, .data⟩ (by simp) rfl
            refine ⟨rfl, wp_run (v := .pointer (some ⟨k, 0, none⟩)) (w' := u) ?_ ⟨_, rfl, Step.refl _ _, rfl, fun k' v' _ _ _ => ⟨trivial, trivial⟩⟩⟩
            simp [execOp, d0]
            try simp [go_sem]
          · simp at ho
            subst ho
            have d0 : c.eval (.tmp 31) = _ := hdeps ⟨1, .data⟩ (by simp) rfl
            refine ⟨rfl, wp_run (v := .pointer (some ⟨k, 0, none⟩)) (w' := u) ?_ ⟨_, rfl, Step.refl _ _, rfl, fun k' v' _ _ _ => ⟨trivial, trivial⟩⟩⟩
            simp [execOp, d0]
            simp [go_sem]
          · simp at ho
            subst ho
            have d0 : c.eval (.tmp 32) = _ := hdeps ⟨2, .data⟩ (by simp) rfl
            refine ⟨rfl, wp_run (v := .agg #[(.slice al nl cl), (.slice au nu cu)]) (w' := u) ?_ ⟨_, rfl, Step.refl _ _, rfl, fun k' v' _ _ _ => ⟨trivial, trivial⟩⟩⟩
            have e1 := ((HBo.out.1.made hs) 0 _ rfl).1
            have e2 := ((HBo.out.1.made hs) 1 _ rfl).1
            simp [execOp, d0]
            simp [go_sem, e1, e2]
          · simp at ho
            subst ho
            refine ⟨rfl, wp_run (v := .pointer (some ⟨b, 0, none⟩)) (w' := u) ?_ ⟨_, rfl, Step.refl _ _, rfl, fun k' v' _ _ _ => ⟨trivial, trivial⟩⟩⟩
            simp [execOp, b1]
          · simp at ho
            subst ho
            refine ⟨rfl, wp_run (v := .pointer (some ⟨B2, 1, none⟩)) (w' := u) ?_ ⟨_, rfl, Step.refl _ _, rfl, fun k' v' _ _ _ => ⟨trivial, trivial⟩⟩⟩
            simp [execOp, b7]
            simp [go_sem]
          · simp at ho
            subst ho
            have d0 : c.eval (.tmp 35) = _ := hdeps ⟨5, .data⟩ (by simp) rfl
            refine ⟨rfl, wp_run (v := .int .i64 (n0 : Int)) (w' := u) ?_ ⟨_, rfl, Step.refl _ _, rfl, fun k' v' _ _ _ => ⟨trivial, trivial⟩⟩⟩
            have e1 := hs.cell u1 (fun h => h)
            simp [execOp, d0]
            simp [go_sem, e1]
          · simp at ho
            subst ho
            have d0 : c.eval (.tmp 36) = _ := hdeps ⟨6, .data⟩ (by simp) rfl
            refine ⟨rfl, wp_enter (run_call1 Tryz.func54 (by kernel_rfl) rfl _ u _ c (.tmp 36) _ rfl d0) ((HLS.out u).mono ?_)⟩
            rintro e w' ⟨rfl, hst⟩
            exact ⟨_, rfl, _, rfl, hst, rfl, fun k' v' _ _ _ => ⟨trivial, trivial⟩⟩
        case rend1 =>
          intro c u hd hn hs hb hf _
          have q0 : c.eval (.tmp 0) = _ := hb (0, .pointer (some ⟨p, 0, none⟩)) (by simp)
          have q1 : c.eval (.tmp 1) = _ := hb (1, .pointer (some ⟨b, 0, none⟩)) (by simp)
          have q2 : c.eval (.tmp 2) = _ := hb (2, .pointer (some ⟨k, 0, none⟩)) (by simp)
          have q3 : c.eval (.tmp 3) = _ := hb (3, undef) (by simp)
          have q4 : c.eval (.tmp 4) = _ := hb (4, undef) (by simp)
          have q5 : c.eval (.tmp 5) = _ := hb (5, undef) (by simp)
          have q6 : c.eval (.tmp 6) = _ := hb (6, undef) (by simp)
          have q7 : c.eval (.tmp 7) = _ := hb (7, .pointer (some ⟨B2, 0, none⟩)) (by simp)
          have q8 : c.eval (.tmp 8) = _ := hb (8, .pointer (some ⟨p, 0, none⟩)) (by simp)
          have q9 : c.eval (.tmp 9) = _ := hb (9, .pointer (some ⟨p, 0, none⟩)) (by simp)
          have q10 : c.eval (.tmp 10) = _ := hb (10, .pointer (some ⟨p, 0, none⟩)) (by simp)
          have q11 : c.eval (.tmp 11) = _ := hb (11, .slice (some ⟨gs, 0, none⟩) n sc) (by simp)
          have q12 : c.eval (.tmp 12) = _ := hb (12, .int .i64 (n : Int)) (by simp)
          have q13 : c.eval (.tmp 13) = _ := hb (13, .int .i64 (j : Int)) (by simp)
          have q49 : c.eval (.tmp 49) = _ := hb (49, undef) (by simp)
          have q50 : c.eval (.tmp 50) = _ := hb (50, undef) (by simp)
          have q51 : c.eval (.tmp 51) = _ := hb (51, undef) (by simp)
          have q52 : c.eval (.tmp 52) = _ := hb (52, undef) (by simp)
          have q53 : c.eval (.tmp 53) = _ := hb (53, undef) (by simp)
          have q54 : c.eval (.tmp 54) = _ := hb (54, undef) (by simp)
          have q55 : c.eval (.tmp 55) = _ := hb (55, undef) (by simp)
          have r3 : c.eval (.tmp 33) = .agg #[(.slice al nl cl), (.slice au nu cu)] := hf 3 (by decide)
          have r4 : c.eval (.tmp 34) = .pointer (some ⟨b, 0, none⟩) := hf 4 (by decide)
          have r7 : c.eval (.tmp 37) = spV s1 m1 z1 := hf 7 (by decide)
          obtain ⟨fr1, hf2, hbf⟩ := act_lit56 c hd hn
          rw [← hf2] at q0 q1 q2 q3 q4 q5 q6 q7 q8 q9 q10 q11 q12 q13 q49 q50 q51 q52 q53 q54 q55 r3 r4 r7
          rw [q0, q1, q2, q3, q4, q5, q6, q7, q8, q9, q10, q11, q12, q13, q49, q50, q51, q52, q53, q54, q55, r3, r4, r7] at hbf
          rw [hbf]
          have HST1 := hidden hs
          clear hf hb hbf hf2 q0 q1 q2 q3 q4 q5 q6 q7 q8 q9 q10 q11 q12 q13 q49 q50 q51 q52 q53 q54 q55 r3 r4 r7 hd hn hs
          simp only [List.drop_succ_cons, List.drop_zero]
          go_wp2_with fail
          have hz8 : B2 < w8.heap.size := World.block_lt_of_cell? w8 _ u2
          refine (HY.out u (fun k => G k ∨ k = B2) _ _ L _ ((HW82.out.made HST1.out).less (G := fun k => G k ∨ k = B2) (fun k hk => .inl hk)) (fun k hk => by
            have h1 := HS9.out.size
            have h2 := HST1.out.size
            rcases hk with hk | hk
            · have := HG.out k hk; omega
            · omega) (by have := HLQ.out; omega) (HBo.out.2.1.made HST1.out) (HBo.out.2.2.1.made HST1.out) HC.out.1 HC.out.2.2.1 s1 m1 z1 HPc.out.1 (by have := HLN.out.1.1; omega) HLN.out.1.2).mono ?_
          rintro e w9 ⟨⟨u9, rfl⟩, R9⟩
          have HS10 := hidden ((HS9.out.trans HST1.out (fun _ q => q.elim)).trans R9.out.2 (fun i hi => .inl (fun q => hi (.inl q))))
          have HW9 := hidden (R9.out.1.less (G := G) (fun k hk => .inl hk))
          have HB9 := hidden (HV.out w9 HS10.out)
          have u2 := R9.out.2.cell (HST1.out.cell u2 (fun h => h)) (fun q => q (.inr rfl))
          clear R9 HST1
          go_upto_region 6 with fail
          refine region_inv_tail Tryz.mixed 56 8 (fun j => 39 + j) [(0, .pointer (some ⟨p, 0, none⟩)), (1, .pointer (some ⟨b, 0, none⟩)), (2, .pointer (some ⟨k, 0, none⟩)), (3, undef), (4, undef), (5, undef), (6, undef), (7, .pointer (some ⟨B2, 0, none⟩)), (8, .pointer (some ⟨p, 0, none⟩)), (9, .pointer (some ⟨p, 0, none⟩)), (10, .pointer (some ⟨p, 0, none⟩)), (11, .slice (some ⟨gs, 0, none⟩) n sc), (12, .int .i64 (n : Int)), (13, .int .i64 (j : Int)), (49, undef), (50, undef), (51, undef), (52, undef), (53, undef), (54, undef), (55, undef)] (FY k 2 b B2 2 dd s2 m2 z2 (.slice ad nd cd) (.slice ae ne ce)) (fun _ _ _ _ => True) (by kernel_rfl) (by kernel_rfl) (by kernel_rfl) (by decide) (by kernel_rfl) FY.mono rfl rfl ?rbase2 ?rops2 ?rend2
          case rbase2 => intro x hx; simp at hx; rcases hx with rfl | rfl | rfl | rfl | rfl | rfl | rfl | rfl | rfl | rfl | rfl | rfl | rfl | rfl | rfl | rfl | rfl | rfl | rfl | rfl | rfl <;> rfl
          case rops2 =>
            intro i o hi8 ho c u hn hs hb hdeps
            have b0 := hb (0, .pointer (some ⟨p, 0, none⟩)) (by simp)
            have b1 := hb (1, .pointer (some ⟨b, 0, none⟩)) (by simp)
            have b2 := hb (2, .pointer (some ⟨k, 0, none⟩)) (by simp)
            have b7 := hb (7, .pointer (some ⟨B2, 0, none⟩)) (by simp)
            have hjc : i = 0 ∨ i = 1 ∨ i = 2 ∨ i = 3 ∨ i = 4 ∨ i = 5 ∨ i = 6 ∨ i = 7 := by omega
            rcases hjc with rfl | rfl | rfl | rfl | rfl | rfl | rfl | rfl
            · simp at ho
              subst ho
              refine ⟨rfl, wp_run (v := .pointer (some ⟨k, 0, none⟩)) (w' := u) ?_ ⟨_, rfl, Step.refl _ _, rfl, fun k' v' _ _ _ => ⟨trivial, trivial⟩⟩⟩
              simp [execOp, b2]
            · simp at ho
              subst ho
              have d0 : c.eval (.tmp 39) = _ := hdeps ⟨0, .data⟩ (by simp) rfl
              refine ⟨rfl, wp_run (v := .pointer (some ⟨k, 0, none⟩)) (w' := u) ?_ ⟨_, rfl, Step.refl _ _, rfl, fun k' v' _ _ _ => ⟨trivial, trivial⟩⟩⟩
              simp [execOp, d0]
              try simp [go_sem]
            · simp at ho
              subst ho
              have d0 : c.eval (.tmp 40) = _ := hdeps ⟨1, .data⟩ (by simp) rfl
              refine ⟨rfl, wp_run (v := .pointer (some ⟨k, 2, none⟩)) (w' := u) ?_ ⟨_, rfl, Step.refl _ _, rfl, fun k' v' _ _ _ => ⟨trivial, trivial⟩⟩⟩
              simp [execOp, d0]
              simp [go_sem]
            · simp at ho
              subst ho
              have d0 : c.eval (.tmp 41) = _ := hdeps ⟨2, .data⟩ (by simp) rfl
              refine ⟨rfl, wp_run (v := .agg #[(.slice ad nd cd), (.slice ae ne ce)]) (w' := u) ?_ ⟨_, rfl, Step.refl _ _, rfl, fun k' v' _ _ _ => ⟨trivial, trivial⟩⟩⟩
              have e1 := ((HB9.out.1.made hs) 2 _ rfl).1
              have e2 := ((HB9.out.1.made hs) 3 _ rfl).1
              simp [execOp, d0]
              simp [go_sem, e1, e2]
            · simp at ho
              subst ho
              refine ⟨rfl, wp_run (v := .pointer (some ⟨b, 0, none⟩)) (w' := u) ?_ ⟨_, rfl, Step.refl _ _, rfl, fun k' v' _ _ _ => ⟨trivial, trivial⟩⟩⟩
              simp [execOp, b1]
            · simp at ho
              subst ho
              refine ⟨rfl, wp_run (v := .pointer (some ⟨B2, 2, none⟩)) (w' := u) ?_ ⟨_, rfl, Step.refl _ _, rfl, fun k' v' _ _ _ => ⟨trivial, trivial⟩⟩⟩
              simp [execOp, b7]
              simp [go_sem]
            · simp at ho
              subst ho
              have d0 : c.eval (.tmp 44) = _ := hdeps ⟨5, .data⟩ (by simp) rfl
              refine ⟨rfl, wp_run (v := .int .i64 (dd : Int)) (w' := u) ?_ ⟨_, rfl, Step.refl _ _, rfl, fun k' v' _ _ _ => ⟨trivial, trivial⟩⟩⟩
              have e1 := hs.cell u2 (fun h => h)
              simp [execOp, d0]
              simp [go_sem, e1]
            · simp at ho
              subst ho
              have d0 : c.eval (.tmp 45) = _ := hdeps ⟨6, .data⟩ (by simp) rfl
              refine ⟨rfl, wp_enter (run_call1 Tryz.func55 (by kernel_rfl) rfl _ u _ c (.tmp 45) _ rfl d0) ((HDS.out u).mono ?_)⟩
              rintro e w' ⟨rfl, hst⟩
              exact ⟨_, rfl, _, rfl, hst, rfl, fun k' v' _ _ _ => ⟨trivial, trivial⟩⟩
          case rend2 =>
            intro c u hd hn hs hb hf _
            have q0 : c.eval (.tmp 0) = _ := hb (0, .pointer (some ⟨p, 0, none⟩)) (by simp)
            have q1 : c.eval (.tmp 1) = _ := hb (1, .pointer (some ⟨b, 0, none⟩)) (by simp)
            have q2 : c.eval (.tmp 2) = _ := hb (2, .pointer (some ⟨k, 0, none⟩)) (by simp)
            have q3 : c.eval (.tmp 3) = _ := hb (3, undef) (by simp)
            have q4 : c.eval (.tmp 4) = _ := hb (4, undef) (by simp)
            have q5 : c.eval (.tmp 5) = _ := hb (5, undef) (by simp)
            have q6 : c.eval (.tmp 6) = _ := hb (6, undef) (by simp)
            have q7 : c.eval (.tmp 7) = _ := hb (7, .pointer (some ⟨B2, 0, none⟩)) (by simp)
            have q8 : c.eval (.tmp 8) = _ := hb (8, .pointer (some ⟨p, 0, none⟩)) (by simp)
            have q9 : c.eval (.tmp 9) = _ := hb (9, .pointer (some ⟨p, 0, none⟩)) (by simp)
            have q10 : c.eval (.tmp 10) = _ := hb (10, .pointer (some ⟨p, 0, none⟩)) (by simp)
            have q11 : c.eval (.tmp 11) = _ := hb (11, .slice (some ⟨gs, 0, none⟩) n sc) (by simp)
            have q12 : c.eval (.tmp 12) = _ := hb (12, .int .i64 (n : Int)) (by simp)
            have q13 : c.eval (.tmp 13) = _ := hb (13, .int .i64 (j : Int)) (by simp)
            have q49 : c.eval (.tmp 49) = _ := hb (49, undef) (by simp)
            have q50 : c.eval (.tmp 50) = _ := hb (50, undef) (by simp)
            have q51 : c.eval (.tmp 51) = _ := hb (51, undef) (by simp)
            have q52 : c.eval (.tmp 52) = _ := hb (52, undef) (by simp)
            have q53 : c.eval (.tmp 53) = _ := hb (53, undef) (by simp)
            have q54 : c.eval (.tmp 54) = _ := hb (54, undef) (by simp)
            have q55 : c.eval (.tmp 55) = _ := hb (55, undef) (by simp)
            have r3 : c.eval (.tmp 42) = .agg #[(.slice ad nd cd), (.slice ae ne ce)] := hf 3 (by decide)
            have r4 : c.eval (.tmp 43) = .pointer (some ⟨b, 0, none⟩) := hf 4 (by decide)
            have r7 : c.eval (.tmp 46) = spV s2 m2 z2 := hf 7 (by decide)
            obtain ⟨fr2, hf2, hbf⟩ := act_lit56 c hd hn
            rw [← hf2] at q0 q1 q2 q3 q4 q5 q6 q7 q8 q9 q10 q11 q12 q13 q49 q50 q51 q52 q53 q54 q55 r3 r4 r7
            rw [q0, q1, q2, q3, q4, q5, q6, q7, q8, q9, q10, q11, q12, q13, q49, q50, q51, q52, q53, q54, q55, r3, r4, r7] at hbf
            rw [hbf]
            have HST2 := hidden hs
            clear hf hb hbf hf2 q0 q1 q2 q3 q4 q5 q6 q7 q8 q9 q10 q11 q12 q13 q49 q50 q51 q52 q53 q54 q55 r3 r4 r7 hd hn hs
            simp only [List.drop_succ_cons, List.drop_zero]
            go_wp2_with fail
            refine (HY.out u G _ _ D _ ((HW9.out.made HST2.out).less (G := G) (fun k hk => .inl hk)) (fun k hk => by have := HG.out k hk; have := HS10.out.size; have := HST2.out.size; omega) (by have := HPL.out; omega) (HB9.out.2.2.2.1.made HST2.out) (HB9.out.2.2.2.2.made HST2.out) HC.out.2.1 HC.out.2.2.2 s2 m2 z2 HPc.out.2 (by have := HLN.out.2.1; omega) HLN.out.2.2).mono ?_
            rintro e w10 ⟨⟨u10, rfl⟩, R10⟩
            have HF := hidden (show Wc w10 b (ps ++ tksP L D (ts.take (j + 1))) G ∧ Step (fun k => ¬ G k) w w10 from ⟨by have := R10.out.1; rw [HTK.out, HTP.out, ← List.append_assoc]; simpa using this, (HS10.out.trans HST2.out (fun _ q => q.elim)).trans R10.out.2 (fun i hi => .inl hi)⟩)
            clear R10 HST2 HW9 HB9 HW8 HBo
            go_wp2_with fail
            go_roundw
            case rel => exact ⟨j + 1, by go_num, by omega, HF.out⟩
            case measure => simp [RowKit.intOf]; omega
    · have hjn2 : j = n := by omega
      have j1 : ¬ ((j : Int) < (n : Int)) := by omega
      have htk : ts.take j = ts := by rw [hjn2, ← Hn.out]; exact List.take_length
      have HBo := hidden (HV.out wr HQ.out.2)
      have c00 := (HBo.out.1 0 _ rfl).1
      have c01 := (HBo.out.1 1 _ rfl).1
      rw [htk] at HQ
      have HLT := hidden (show pcL (ps ++ tksP L D ts) ≤ 848000000 by rw [pcL_append, ← htk]; have := HB.out j; have := HL.out; omega)
      clear htk hjn2
      go_wp2_with fail
      refine (HY.out _ G _ _ L _ (by first | exact HQ.out.1 | exact (HQ.out.1.made ((Step.refl _ _).drewN _)).less (G := G) (fun k hk => .inl hk)) (fun k hk => by have := HG.out k hk; have := HQ.out.2.size; first | omega | (show k < wr.heap.size; omega)) (by have := HLT.out; omega) (by first | exact HBo.out.2.1 | exact HBo.out.2.1.drewN _) (by first | exact HBo.out.2.2.1 | exact HBo.out.2.2.1.drewN _) HC.out.1 HC.out.2.2.1 256 0 0 HE.out (by omega) (by decide)).mono ?_
      rintro e w9 ⟨⟨u9, rfl⟩, R9⟩
      have HF := hidden (show Wc w9 b (ps ++ (tksP L D ts ++ [cdP L 256, (0, 0)])) G ∧ Step (fun k => ¬ G k) w w9 from ⟨by rw [← List.append_assoc]; exact R9.out.1, by first | exact HQ.out.2.trans R9.out.2 (fun i hi => .inl hi) | exact (HQ.out.2.drewN _).trans R9.out.2 (fun i hi => .inl hi)⟩)
      clear R9 HQ
      go_wp2
      go_end0
      exact ⟨⟨_, rfl⟩, HF.out⟩

end Go.Proofs.YtcgjmkcigmmjjaaGreatDoor

namespace Go.Proofs.YtcgjmkcigmmjjaaGreatDoor
open Go.RowKit
set_option maxRecDepth 100000
/-- Block b has two cells, a slice and a number. -/
structure W2 (w : World) (b : Nat) : Prop where
  c0 : w.cell? ⟨b, 0, none⟩ = some (.slice none 0 0)
  no : ∀ k, 2 ≤ k → w.cell? ⟨b, k, none⟩ = none
  wr : Wr w b (.slice none 0 0) 0 0

theorem Step.same {S : Nat → Prop} {w w' : World} (hs : Step S w w') {b k : Nat} (hb : b < w.heap.size) (hS : ¬ S b) : w'.cell? ⟨b, k, none⟩ = w.cell? ⟨b, k, none⟩ := hs.cell' (p := ⟨b, k, none⟩) hb hS

theorem W2.made {w w' : World} {b : Nat} (h : W2 w b) (hs : Step (fun _ => False) w w') : W2 w' b := by
  have hb := World.block_lt_of_cell? w _ h.c0
  exact ⟨hs.cell h.c0 (fun h => h), fun k hk => by rw [hs.same hb (fun h => h)]; exact h.no k hk, h.wr.step hs (fun h => h) (fun _ _ h => h)⟩

theorem W2.new (w : World) : Calls Tryz.prog 16 #[] w fun e w' => e = .returned (.pointer (some ⟨w.heap.size, 0, none⟩)) ∧ W2 w' w.heap.size ∧ Step (fun _ => False) w w' :=
  (wnew_any w).mono fun e w' ⟨h1, h2⟩ => by
    subst h2
    exact ⟨h1, ⟨(new_wr w).out, fun k hk => by
      rw [World.cell?_alloc_at _ _ _ _ rfl]
      match k, hk with
      | k + 2, _ => rfl, new_wr w⟩, (Step.refl _ _).alloc _⟩

/-- Beside: all blocks that there are but b. -/
def Bsd (w : World) (b : Nat) (k : Nat) : Prop := k < w.heap.size ∧ k ≠ b

theorem W2.wc {w : World} {b : Nat} (h : W2 w b) : Wc w b [] (Bsd w b) := ⟨.slice none 0 0, by simpa [pcN, pcL] using h.wr, fun q => q.2 rfl, fun k hk => by simp [Value.ownBlock] at hk⟩

theorem W2.ne2 {w : World} {b g : Nat} (h : W2 w b) {k : Nat} {v : Value} (hk : 2 ≤ k) (hv : w.cell? ⟨g, k, none⟩ = some v) : g ≠ b := by
  intro e
  subst e
  rw [h.no k hk] at hv
  cases hv

theorem W2.ri {w : World} {b : Nat} (h : W2 w b) {v : Value} {L : List Int} (hr : Ri w v L) (h2 : 2 ≤ L.length) : ∀ a n c, v = .slice (some a) n c → a.block ≠ b ∧ a.block < w.heap.size := by
  intro a n c e
  subst e
  obtain ⟨ao, cap, e, _, _, hc⟩ := hr
  injection e with e1 e2 e3
  obtain ⟨g, off, e, hcell⟩ := hc a e1.symm (by intro e; subst e; simp at h2)
  subst e
  refine ⟨fun e => ?_, World.block_lt_of_cell? w _ (hcell 0 (by omega))⟩
  simp only at e
  subst e
  have h1 := hcell 1 (by omega)
  by_cases ho : 1 ≤ off
  · rw [h.no (off + 1) (by omega)] at h1
    cases h1
  · have h0 := hcell 0 (by omega)
    rw [show off + 0 = 0 by omega, h.c0] at h0
    cases h0

theorem Ri.bes {w w' : World} {b : Nat} {v : Value} {L : List Int} (hr : Ri w v L) (h : W2 w b) (h2 : 2 ≤ L.length) (hs : Step (fun k => ¬ Bsd w b k) w w') : Ri w' v L :=
  hr.step hs (fun a n c e _ q => q ⟨(h.ri hr h2 a n c e).2, (h.ri hr h2 a n c e).1⟩)

theorem Sv.bes {w w' : World} {b p : Nat} {cs : List Value} (hv : Sv w p cs) (h : W2 w b) (h3 : 3 ≤ cs.length) (hs : Step (fun k => ¬ Bsd w b k) w w') : Sv w' p cs :=
  hv.step hs (fun q => q ⟨hv.lt (by omega), h.ne2 (k := 2) (by omega) (hv 2 cs[2] (List.getElem?_eq_getElem (by omega))).1⟩)

theorem Book.bes {w w' : World} {b k : Nat} {L D : List Int} (hb : Book w k L D) (h : W2 w b) (l1 : 2 ≤ L.length) (l2 : 2 ≤ D.length) (hs : Step (fun k => ¬ Bsd w b k) w w') : Book w' k L D := by
  obtain ⟨vl, ul, vd, ud, hv, r1, r2, r3, r4⟩ := hb.at'
  exact ⟨vl, ul, vd, ud, hv.bes h (by simp [bookL]) hs, r1.bes h l1 hs, r2.bes h (by rw [codes_length]; exact l1) hs, r3.bes h l2 hs, r4.bes h (by rw [codes_length]; exact l2) hs⟩

theorem Book.mem {w : World} {b k : Nat} {L D : List Int} (hb : Book w k L D) (h : W2 w b) : Bsd w b k := by
  obtain ⟨vl, ul, vd, ud, hv, _⟩ := hb.at'
  exact ⟨hv.lt (by simp [bookL]), h.ne2 (k := 2) (by omega) (hv 2 _ rfl).1⟩

theorem TabD.bes {w w' : World} {b : Nat} (ht : TabD w) (h : W2 w b) (hs : Step (fun k => ¬ Bsd w b k) w w') : TabD w' :=
  ht.step hs (fun q => q ⟨ht.lt, h.ne2 (k := 2) (by omega) (ht 2 (by omega))⟩)

theorem Hd.bes {w w' : World} {b p a d k : Nat} {xs : List Sp} {O C : List Int} (hd : Hd w p a d k xs O C) (h : W2 w b) (hx : 1 ≤ xs.length) (l1 : 2 ≤ O.length) (l2 : 2 ≤ C.length) (hs : Step (fun k => ¬ Bsd w b k) w w') : Hd w' p a d k xs O C := by
  obtain ⟨sv, ov, vl, vu, h0, h1, h2, h3, h4⟩ := hd.at'
  refine ⟨sv, ov, vl, vu, h0.bes h (by simp) hs, own3_keep h1 hs (fun k hk q => q ⟨own3_lt h1 k hk, ?_⟩), h2.bes h l1 hs, h3.bes h l2 hs, h4.bes h (by rw [codes_length]; exact l2) hs⟩
  obtain ⟨g, cap, e, hr⟩ := row3_at (T := 89) spC spC_len xs h1 0 xs[0] (List.getElem?_eq_getElem (by omega))
  subst e
  have : g = k := by simpa [Value.ownBlock] using hk
  subst this
  exact h.ne2 (k := 2) (by omega) (by have := hr 2 _ rfl; simpa using this)

theorem Hd.mem {w : World} {b p a d k : Nat} {xs : List Sp} {O C : List Int} (hd : Hd w p a d k xs O C) (h : W2 w b) : Bsd w b p := by
  obtain ⟨sv, ov, vl, vu, h0, _⟩ := hd.at'
  exact ⟨h0.lt (by simp), h.ne2 (k := 2) (by omega) (h0 2 _ rfl).1⟩

end Go.Proofs.YtcgjmkcigmmjjaaGreatDoor

namespace Go.Proofs.YtcgjmkcigmmjjaaGreatDoor
open Go.RowKit
set_option maxRecDepth 100000
theorem up8_ge (L : Nat) : L ≤ up8 L := by unfold up8; omega

theorem align_c (b : Nat) (ps : List (Nat × Nat)) (G : Nat → Prop) (w : World) (h : Wc w b ps G) (hG : ∀ k, G k → k < w.heap.size) :
    Calls Tryz.prog 48 #[.pointer (some ⟨b, 0, none⟩)] w fun e w' => e = .returned (.tuple #[]) ∧ Hid (Wc w' b (ps ++ [(0, up8 (pcL ps) - pcL ps)]) G ∧ Step (fun k => ¬ G k) w w') := by
  obtain ⟨s, h1, h2, h3⟩ := h
  refine (align_any b s _ _ w h1).mono fun e w' ⟨he, hw⟩ => ⟨he, Wc.wrote hG h2 h3 ?_⟩
  have := up8_ge (pcL ps)
  rw [Nat.zero_mul, Nat.add_zero, show pcL ps + (up8 (pcL ps) - pcL ps) = up8 (pcL ps) by omega]
  exact hw

/-- One row of bytes, in block q. -/
theorem raw_c (b q : Nat) (ps : List (Nat × Nat)) (G : Nat → Prop) (v : Value) (B : List Nat) (w : World) (h : Wc w b ps G) (hG : ∀ k, G k → k < w.heap.size) (h8 : pcL ps % 8 = 0) (hc : w.cell? ⟨q, 0, none⟩ = some v) (hq : G q) (hv : Rd w v B)
    (hoff : ∀ a n c, v = .slice (some a) n c → B ≠ [] → G a.block) (hb : ∀ x ∈ B, x < 256) (hL : pcL ps + 8 * B.length ≤ 1000000000) :
    Calls Tryz.prog 50 #[.pointer (some ⟨b, 0, none⟩), .slice (some ⟨q, 0, none⟩) 1 1] w fun e w' => e = .returned (.int .i64 0) ∧ Hid (Wc w' b (ps ++ [(numOf B, 8 * B.length)]) G ∧ Step (fun k => ¬ G k) w w') := by
  obtain ⟨s, h1, h2, h3⟩ := h
  have hf : flat (fun _ => B) 1 = B := by simp [flat]
  have ho : ∀ k, G k → ¬ Of b s k := fun k hk e => by
    rcases e with e | e
    · rw [e] at hk; exact h2 hk
    · exact h3 k e hk
  have := raw_ok b q 1 s _ _ (fun _ => v) (fun _ => B) w h1 h8 (ho q hq) (fun i hi => by rw [show i = 0 by omega]; exact hc) (fun i _ => ⟨hv, fun a n c e hB => ho _ (hoff a n c e hB), hb⟩) (by omega) (by rw [hf]; omega)
  rw [hf] at this
  exact this.mono fun e w' ⟨he, hw⟩ => ⟨he, Wc.wrote hG h2 h3 hw⟩

end Go.Proofs.YtcgjmkcigmmjjaaGreatDoor

namespace Go.Proofs.YtcgjmkcigmmjjaaGreatDoor
open Go.RowKit
set_option maxRecDepth 100000
theorem dbegin_any (w : World) (b : Nat) (ps : List (Nat × Nat)) (G : Nat → Prop) (h : Wc w b ps G) (hG : ∀ k, G k → k < w.heap.size) (hL : pcL ps ≤ 900000000) (last : Bool) (kind : Nat) (hk : kind < 4) :
    Calls Tryz.prog 37 #[.pointer (some ⟨b, 0, none⟩), .bool last, .int .i64 (kind : Int)] w fun e w' => (∃ u, e = .returned u) ∧ Wc w' b (ps ++ [(if last then 1 else 0, 1), (kind, 2)]) G ∧ Step (fun k => ¬ G k) w w' := by
  cases last with
  | true =>
    have HP := hidden (put_c b ps G 1 1 w h hG (by omega) (by omega) (by omega))
    have HQ := hidden (fun wx (hx : Wc wx b (ps ++ [(1, 1)]) G) (hz : w.heap.size ≤ wx.heap.size) => put_c b (ps ++ [(1, 1)]) G kind 2 wx hx (fun k hk => by have := hG k hk; omega) (by omega) (by omega) (by rw [pcL_append]; simp [pcL]; omega))
    clear h
    go_enter Tryz.func37, Tryz.ntmps37
    go_wp2_with fail
    refine HP.out.mono ?_
    rintro e w1 ⟨rfl, R1⟩
    have HR1 := hidden R1.out.2
    have HQ2 := hidden (HQ.out w1 R1.out.1 R1.out.2.size)
    clear R1
    go_wp2_with fail
    refine HQ2.out.mono ?_
    rintro e w2 ⟨rfl, R2⟩
    have HR2 := hidden (show Wc w2 b (ps ++ [((if true then 1 else 0 : Nat), 1), (kind, 2)]) G ∧ Step (fun k => ¬ G k) w w2 from ⟨by have := R2.out.1; rwa [List.append_assoc] at this, HR1.out.trans R2.out.2 (fun i hi => .inl hi)⟩)
    clear R2
    go_wp2
    go_end0
    exact ⟨⟨_, rfl⟩, HR2.out⟩
  | false =>
    have HP := hidden (put_c b ps G 0 1 w h hG (by omega) (by omega) (by omega))
    have HQ := hidden (fun wx (hx : Wc wx b (ps ++ [(0, 1)]) G) (hz : w.heap.size ≤ wx.heap.size) => put_c b (ps ++ [(0, 1)]) G kind 2 wx hx (fun k hk => by have := hG k hk; omega) (by omega) (by omega) (by rw [pcL_append]; simp [pcL]; omega))
    clear h
    go_enter Tryz.func37, Tryz.ntmps37
    go_wp2_with fail
    refine HP.out.mono ?_
    rintro e w1 ⟨rfl, R1⟩
    have HR1 := hidden R1.out.2
    have HQ2 := hidden (HQ.out w1 R1.out.1 R1.out.2.size)
    clear R1
    go_wp2_with fail
    refine HQ2.out.mono ?_
    rintro e w2 ⟨rfl, R2⟩
    have HR2 := hidden (show Wc w2 b (ps ++ [((if false then 1 else 0 : Nat), 1), (kind, 2)]) G ∧ Step (fun k => ¬ G k) w w2 from ⟨by have := R2.out.1; rwa [List.append_assoc] at this, HR1.out.trans R2.out.2 (fun i hi => .inl hi)⟩)
    clear R2
    go_wp2
    go_end0
    exact ⟨⟨_, rfl⟩, HR2.out⟩

/-- How many blocks of kind 0 so many bytes need. -/
def stB (n : Nat) : Nat := max 1 ((n + 65534) / 65535)

theorem storedBlocks_any (n : Nat) (hn : n ≤ 1000000000) (w : World) :
    Calls Tryz.prog 41 #[.int .i64 (n : Int)] w fun e w' => e = .returned (.int .i64 ((stB n : Nat) : Int)) ∧ w' = w := by
  obtain ⟨q, hq⟩ : ∃ q, (n + 65534) / 65535 = q := ⟨_, rfl⟩
  have hd : Int.tdiv ((n : Int) + 65535 - 1) 65535 = (q : Int) := by
    rw [Int.tdiv_eq_ediv_of_nonneg (by omega)]
    omega
  have hqb : q ≤ 20000 := by omega
  by_cases h : 1 < q
  · have hz : (1 : Int) < (q : Int) := by omega
    have HE := hidden (show stB n = q by unfold stB; omega)
    clear hq
    go_enter Tryz.func41, Tryz.ntmps41
    go_wp2
    go_ret
    exact ⟨by rw [HE.out]; rfl, rfl⟩
  · have hz : ¬ (1 : Int) < (q : Int) := by omega
    have HE := hidden (show stB n = 1 by unfold stB; omega)
    clear hq
    go_enter Tryz.func41, Tryz.ntmps41
    go_wp2
    go_ret
    exact ⟨by rw [HE.out]; rfl, rfl⟩

def stS (n : Nat) : Nat := n + 5 * stB n

theorem storedSize_any (n : Nat) (hn : n ≤ 1000000000) (w : World) :
    Calls Tryz.prog 21 #[.int .i64 (n : Int)] w fun e w' => e = .returned (.int .i64 ((stS n : Nat) : Int)) ∧ w' = w := by
  have HB := hidden (storedBlocks_any n hn w)
  have hb : stB n ≤ 20000 := by unfold stB; omega
  obtain ⟨s, hs⟩ : ∃ s, stS n = s := ⟨_, rfl⟩
  have he : (n : Int) + 5 * ((stB n : Nat) : Int) = (s : Int) := by rw [← hs]; unfold stS; omega
  rw [hs]
  generalize stB n = q at *
  clear hs
  go_enter Tryz.func21, Tryz.ntmps21
  go_wp2_with fail
  refine HB.out.mono ?_
  rintro e w2 ⟨rfl, rfl⟩
  go_wp2
  go_ret
  exact ⟨rfl, rfl⟩

end Go.Proofs.YtcgjmkcigmmjjaaGreatDoor
