/-
  A heading that is being made, in memory; the table of its order.
-/
import Derived.Test.YtcgjmkcigmmjjaaGreatDoorBkC
import Derived.StillTailTactics
import Derived.Deep.RegionHeld3
import Derived.Deep.DeepCutAuto
import Derived.Lib.SmallJoins

namespace Go.Proofs.YtcgjmkcigmmjjaaGreatDoor
open Go.RowKit
def spC (x : Sp) : List Value := spL x.s x.m x.b

def spCs (xs : List Sp) : List Value := xs.flatMap spC

theorem spCs_snoc (xs : List Sp) (x : Sp) : spCs (xs ++ [x]) = spCs xs ++ spC x := by simp [spCs]

/-- From place p on the lengths L are told by these steps: each tells as many as it can. -/
inductive Gps (L : List Int) : Nat → List Sp → Prop
  | done {p : Nat} : L.length ≤ p → Gps L p []
  | step {p t x : Nat} {again : Bool} {xs : List Sp} : p < L.length → L.getD p 0 = (x : Int) → 1 ≤ t → p + t ≤ L.length → (∀ j, j < t → L.getD (p + j) 0 = (x : Int)) → (p + t < L.length → L.getD (p + t) 0 ≠ (x : Int)) → (again = true ↔ 0 < p ∧ L.getD (p - 1) 0 = (x : Int)) → Gps L (p + lstN x t again) xs → Gps L p (lstS x t again :: xs)

theorem Gps.det {L : List Int} {p : Nat} {xs ys : List Sp} (h : Gps L p xs) (h' : Gps L p ys) : xs = ys := by
  induction h generalizing ys with
  | done h1 =>
    cases h' with
    | done _ => rfl
    | step h2 => omega
  | @step p t x again xs a1 a2 a3 a4 a5 a6 a7 _ ih =>
    cases h' with
    | done h2 => omega
    | @step _ t' x' again' ys b1 b2 b3 b4 b5 b6 b7 b8 =>
      have ex : x = x' := by rw [a2] at b2; omega
      subst ex
      have et : t = t' := by
        rcases Nat.lt_trichotomy t t' with h | h | h
        · exact absurd (b5 t h) (a6 (by omega))
        · exact h
        · exact absurd (a5 t' h) (b6 (by omega))
      subst et
      have ea : again = again' := by
        cases again <;> cases again' <;> first | rfl | (exfalso; simp at a7 b7; have := a7 b7.1; first | exact this b7.2 | exact b7.1 this) | (exfalso; simp at a7 b7; exact b7 a7.1 a7.2)
      subst ea
      rw [ih b8]

theorem draws_step (w : World) (n : Nat) : Step (fun _ => False) w (w.drewN n) := ⟨rfl, rfl, rfl, Nat.le_refl _, fun _ _ _ => rfl⟩

set_option maxRecDepth 100000 in
set_option maxHeartbeats 8000000 in
theorem steps_any (ao : Option Addr) (n cap : Nat) (L : List Int) (w : World) (h : Ri w (.slice ao n cap) L) (hl : L.length ≤ 400) (hb : ∀ i, i < L.length → 0 ≤ L.getD i 0 ∧ L.getD i 0 ≤ 15) :
    Calls Tryz.prog 65 #[.slice ao n cap] w fun e w' => ∃ v xs, e = .returned v ∧ O3 89 w w' v xs.length (spCs xs) ∧ Sps [] xs L ∧ Gps L 0 xs := by
  by_cases h0 : L.length = 0
  · have hn0 : n = 0 := by
      obtain ⟨ao2, c2, e, _⟩ := h
      injection e with e1 e2 e3
      omega
    have hL : L = [] := List.eq_nil_of_length_eq_zero h0
    have HO := hidden (show O3 89 w w (.slice none 0 0) ([] : List Sp).length (spCs []) from O3.nil 89 w)
    subst hL
    subst hn0
    clear h hl hb h0
    go_enter Tryz.func65, Tryz.ntmps65
    go_wp2
    go_loopw [3, 4] (fun sv av wr => wr = w ∧ sv = .slice none 0 0 ∧ av = .int .i64 0) (fun _ _ _ => 0)
    case atStart => exact ⟨rfl, rfl, rfl⟩
    case round =>
      obtain ⟨rfl, rfl, rfl⟩ := hrel
      go_wp2
      go_ret
      exact ⟨.slice none 0 0, [], rfl, HO.out, Sps.nil, Gps.done (Nat.zero_le _)⟩
  obtain ⟨hn, b, off, rfl, hc⟩ := h.cell (k := 0) (by omega)
  have Hc := hidden hc
  have Hb := hidden hb
  have Hn := hidden hn
  have hnb : n ≤ 400 := by omega
  have HO0 := hidden (O3.nil 89 w)
  have hcap : n ≤ cap := by
    obtain ⟨ao2, c2, e, hcc, _⟩ := h
    injection e with e1 e2 e3
    omega
  clear h hl hb h0 hc hn
  go_enter Tryz.func65, Tryz.ntmps65
  go_wp2
  go_loopw [3, 4] (fun sv av wr => ∃ (p : Nat) (xs : List Sp), av = .int .i64 (p : Int) ∧ p ≤ n ∧ Hid (O3 89 w wr sv xs.length (spCs xs)) ∧ Hid (Sps [] xs (L.take p)) ∧ Hid (∀ ys, Gps L p ys → Gps L 0 (xs ++ ys))) (fun _ av _ => n - (RowKit.intOf av).toNat)
  case atStart => exact ⟨0, [], rfl, Nat.zero_le _, HO0.out, Sps.nil, hidden (fun ys h => h)⟩
  case round =>
    obtain ⟨p, xs, rfl, hp, HO, HP, HGC⟩ := hrel
    by_cases hpn : p < n
    · have p0 : (0 : Int) ≤ (p : Int) := by omega
      have p1 : (p : Int) < (n : Int) := by omega
      have cp := HO.out.st.cell (Hc.out p (by have := Hn.out; omega)) (fun h => h)
      obtain ⟨hx0, hx1⟩ := Hb.out p (by have := Hn.out; omega)
      obtain ⟨x, hx⟩ : ∃ x : Nat, L.getD p 0 = (x : Int) := ⟨(L.getD p 0).toNat, by omega⟩
      have Hx := hidden hx
      rw [hx] at cp hx0 hx1
      have hx15 : x ≤ 15 := by omega
      clear hx hx0 hx1
      go_wp2
      go_loopw [5] (fun tv wv => ∃ t : Nat, tv = .int .i64 (t : Int) ∧ 1 ≤ t ∧ p + t ≤ n ∧ Hid (∀ j, j < t → L.getD (p + j) 0 = (x : Int)) ∧ ∃ nq, wv = wr.drewN nq) (fun tv _ => n - (RowKit.intOf tv).toNat)
      case atStart => exact ⟨1, rfl, by omega, by omega, hidden (fun j hj => by rw [show j = 0 by omega, Nat.add_zero]; exact Hx.out), 0, rfl⟩
      case round =>
        obtain ⟨t, rfl, ht1, htn, HT, nq, rfl⟩ := hrel
        have t0 : (0 : Int) ≤ (t : Int) := by omega
        obtain ⟨q, hq⟩ : ∃ q, q = p + t := ⟨_, rfl⟩
        have iw : IntKind.i64.wrap ((p : Int) + (t : Int)) = (q : Int) := by simp [IntKind.wrap, IntKind.bits, IntKind.signed]; omega
        have q0 : (0 : Int) ≤ (q : Int) := by omega
        have Hq := hidden hq
        have HRun := hidden (fun (k : Nat) (hk : k ≤ t) => take_same L p t k (x : Int) hk (by have := Hn.out; omega) HT.out)
        by_cases hqn : q < n
        · have q1 : (q : Int) < (n : Int) := by omega
          have cq := HO.out.st.cell (Hc.out q (by have := Hn.out; omega)) (fun h => h)
          by_cases hy : L.getD q 0 = (x : Int)
          · rw [hy] at cq
            have HT2 := hidden (show ∀ j, j < t + 1 → L.getD (p + j) 0 = (x : Int) from fun j hj => by
              by_cases e : j = t
              · rw [e, ← Hq.out]; exact hy
              · exact HT.out j (by omega))
            clear hy hq
            go_wp2
            go_quiet (fail)
            go_wp2
            go_roundw
            case rel => exact ⟨t + 1, by go_num, by omega, by have := Hq.out; omega, HT2.out, ⟨_, rfl⟩⟩
            case measure => simp [RowKit.intOf]; have := Hq.out; omega
          · obtain ⟨y, hye⟩ : ∃ y, y = L.getD q 0 := ⟨_, rfl⟩
            rw [← hye] at cq hy
            have gy : (y == (x : Int)) = false := by rw [beq_eq_false_iff_ne]; exact hy
            have HMX := hidden (show p + t < L.length → L.getD (p + t) 0 ≠ (x : Int) from fun _ => by rw [← Hq.out, ← hye]; exact hy)
            clear hy hye hq
            go_wp2
            go_quiet (fail)
            by_cases hp0 : p = 0
            · have zd : decide (0 < p) = false := by rw [decide_eq_false_iff_not]; omega
              have zn : (0 < p) = False := by simp; omega
              have HL := hidden (lst_ok (L.take p) x t false hx15 ht1 (by intro h; cases h))
              have HG := hidden (fun wx => lst_go x t false hx15 ht1 (by omega) wx)
              have HGQ := hidden (fun ys (h : Gps L (p + lstN x t false) ys) => show Gps L 0 ((xs ++ [lstS x t false]) ++ ys) by
                rw [List.append_assoc]
                exact HGC.out _ (Gps.step (by have := Hn.out; omega) Hx.out ht1 (by have := Hn.out; omega) HT.out HMX.out (by simp; omega) h))
              clear hp0
              go_wp2
              go_quiet (fail)
              generalize lstS x t false = sp at *
              generalize lstN x t false = m at *
              go_wp2_with fail
              refine Calls.mono (HG.out _) ?_
              rintro e w2 ⟨rfl, S2⟩
              have HO2 := hidden ((HO.out.keep (by first | exact draws_step wr _ | exact (draws_step wr _).drew | exact (draws_step wr _).made (draws_step _ _))).keep S2)
              clear S2
              obtain ⟨W2, hW2⟩ : ∃ W2, w2.alloc (.cells #[.int .i64 0, .int .i64 0, .int .i64 0] 89) = W2 := ⟨_, rfl⟩
              obtain ⟨B2, hB2⟩ : ∃ B2, w2.heap.size = B2 := ⟨_, rfl⟩
              have HV2 := hidden (show Sv W2 B2 (spL 0 0 0) by rw [← hW2, ← hB2]; exact Sv.new w2 _ _)
              have HS2 := hidden (show Step (fun _ => False) w2 W2 by rw [← hW2]; exact (Step.refl _ _).alloc _)
              have HB2 := hidden hB2
              go_wp2_with (refine store_sv B2 (spL 0 0 0) (spL sp.s sp.m sp.b) rfl Tryz.infoSp (spL_one _ _ _) rfl rfl HV2.out ?_)
              intro w3 S3 V3
              have HO3 := hidden (HO2.out.keep (show Step (fun _ => False) w2 w3 from HS2.out.trans S3 (fun i hi => .inr (by have := HB2.out; omega))))
              have HV3 := hidden V3
              clear S3 V3 hW2 hB2
              go_wp2_with (first | (refine load_sv _ Tryz.underlying89 rfl B2 [.int .i64 (sp.s : Int), .int .i64 (sp.m : Int), .int .i64 (sp.b : Int)] Tryz.infoSp rfl HV3.out ?_) | (at_builtin; refine app_step rfl (.tmp 58) (.tmp 60) rfl _ xs.length (spCs xs) rfl (HO3.out.alloc _) _ _ (spC sp) rfl rfl (lit3_news w3 [.int .i64 (sp.s : Int), .int .i64 (sp.m : Int), .int .i64 (sp.b : Int)] _) (spL_one _ _ _) (by have := HP.out.len; simp at this; omega) ?_))
              intro v4 w4 h4
              have HO4 := hidden h4
              clear h4
              have HF := hidden (show Sps [] (xs ++ [sp]) (L.take (p + m)) by
                rw [HRun.out m HL.out.2.2]
                exact HP.out.snoc HL.out.1)
              have hm1 := HL.out.2.1
              have hm2 := HL.out.2.2
              go_wp2
              go_roundw
              case rel => exact ⟨p + m, xs ++ [sp], by go_num, by omega, by rw [List.length_append, spCs_snoc]; exact HO4.out, HF.out, HGQ⟩
              case measure => simp [RowKit.intOf]; omega
            · have zd : decide (0 < p) = true := by rw [decide_eq_true_iff]; omega
              have zn : (0 < p) = True := by simp; omega
              obtain ⟨r, hr⟩ : ∃ r, p = r + 1 := ⟨p - 1, by omega⟩
              have irw : IntKind.i64.wrap ((p : Int) - 1) = (r : Int) := by simp [IntKind.wrap, IntKind.bits, IntKind.signed]; omega
              have r0 : (0 : Int) ≤ (r : Int) := by omega
              have r1 : (r : Int) < (n : Int) := by omega
              have cr := HO.out.st.cell (Hc.out r (by have := Hn.out; omega)) (fun h => h)
              have Hr := hidden hr
              by_cases hz : L.getD r 0 = (x : Int)
              · have HL := hidden (lst_ok (L.take p) x t true hx15 ht1 (fun _ => by
                  have hlen : (L.take p).length = p := by rw [List.length_take]; have := Hn.out; omega
                  refine ⟨by omega, ?_⟩
                  rw [hlen, show p - 1 = r by omega, ← hz]
                  simp only [List.getD]
                  rw [List.getElem?_take_of_lt (by omega)]))
                have HG := hidden (fun wx => lst_go x t true hx15 ht1 (by omega) wx)
                have HGQ := hidden (fun ys (h : Gps L (p + lstN x t true) ys) => show Gps L 0 ((xs ++ [lstS x t true]) ++ ys) by
                  rw [List.append_assoc]
                  exact HGC.out _ (Gps.step (by have := Hn.out; omega) Hx.out ht1 (by have := Hn.out; omega) HT.out HMX.out (⟨fun _ => ⟨by omega, by rw [show p - 1 = r by omega]; exact hz⟩, fun _ => rfl⟩) h))
                rw [hz] at cr
                clear hz hr hp0
                go_wp2
                go_quiet (fail)
                generalize lstS x t true = sp at *
                generalize lstN x t true = m at *
                go_wp2_with fail
                refine Calls.mono (HG.out _) ?_
                rintro e w2 ⟨rfl, S2⟩
                have HO2 := hidden ((HO.out.keep (by first | exact draws_step wr _ | exact (draws_step wr _).drew | exact (draws_step wr _).made (draws_step _ _))).keep S2)
                clear S2
                obtain ⟨W2, hW2⟩ : ∃ W2, w2.alloc (.cells #[.int .i64 0, .int .i64 0, .int .i64 0] 89) = W2 := ⟨_, rfl⟩
                obtain ⟨B2, hB2⟩ : ∃ B2, w2.heap.size = B2 := ⟨_, rfl⟩
                have HV2 := hidden (show Sv W2 B2 (spL 0 0 0) by rw [← hW2, ← hB2]; exact Sv.new w2 _ _)
                have HS2 := hidden (show Step (fun _ => False) w2 W2 by rw [← hW2]; exact (Step.refl _ _).alloc _)
                have HB2 := hidden hB2
                go_wp2_with (refine store_sv B2 (spL 0 0 0) (spL sp.s sp.m sp.b) rfl Tryz.infoSp (spL_one _ _ _) rfl rfl HV2.out ?_)
                intro w3 S3 V3
                have HO3 := hidden (HO2.out.keep (show Step (fun _ => False) w2 w3 from HS2.out.trans S3 (fun i hi => .inr (by have := HB2.out; omega))))
                have HV3 := hidden V3
                clear S3 V3 hW2 hB2
                go_wp2_with (first | (refine load_sv _ Tryz.underlying89 rfl B2 [.int .i64 (sp.s : Int), .int .i64 (sp.m : Int), .int .i64 (sp.b : Int)] Tryz.infoSp rfl HV3.out ?_) | (at_builtin; refine app_step rfl (.tmp 58) (.tmp 60) rfl _ xs.length (spCs xs) rfl (HO3.out.alloc _) _ _ (spC sp) rfl rfl (lit3_news w3 [.int .i64 (sp.s : Int), .int .i64 (sp.m : Int), .int .i64 (sp.b : Int)] _) (spL_one _ _ _) (by have := HP.out.len; simp at this; omega) ?_))
                intro v4 w4 h4
                have HO4 := hidden h4
                clear h4
                have HF := hidden (show Sps [] (xs ++ [sp]) (L.take (p + m)) by
                  rw [HRun.out m HL.out.2.2]
                  exact HP.out.snoc HL.out.1)
                have hm1 := HL.out.2.1
                have hm2 := HL.out.2.2
                go_wp2
                go_roundw
                case rel => exact ⟨p + m, xs ++ [sp], by go_num, by omega, by rw [List.length_append, spCs_snoc]; exact HO4.out, HF.out, HGQ⟩
                case measure => simp [RowKit.intOf]; omega
              · have HL := hidden (lst_ok (L.take p) x t false hx15 ht1 (by intro h; cases h))
                have HG := hidden (fun wx => lst_go x t false hx15 ht1 (by omega) wx)
                have HGQ := hidden (fun ys (h : Gps L (p + lstN x t false) ys) => show Gps L 0 ((xs ++ [lstS x t false]) ++ ys) by
                  rw [List.append_assoc]
                  exact HGC.out _ (Gps.step (by have := Hn.out; omega) Hx.out ht1 (by have := Hn.out; omega) HT.out HMX.out (⟨fun h => (by cases h), fun h => absurd (by have := h.2; rwa [show p - 1 = r by omega] at this) hz⟩) h))
                obtain ⟨z, hze⟩ : ∃ z, z = L.getD r 0 := ⟨_, rfl⟩
                rw [← hze] at cr hz
                have gz : (z == (x : Int)) = false := by rw [beq_eq_false_iff_ne]; exact hz
                clear hz hze hr hp0
                go_wp2
                go_quiet (fail)
                generalize lstS x t false = sp at *
                generalize lstN x t false = m at *
                go_wp2_with fail
                refine Calls.mono (HG.out _) ?_
                rintro e w2 ⟨rfl, S2⟩
                have HO2 := hidden ((HO.out.keep (by first | exact draws_step wr _ | exact (draws_step wr _).drew | exact (draws_step wr _).made (draws_step _ _))).keep S2)
                clear S2
                obtain ⟨W2, hW2⟩ : ∃ W2, w2.alloc (.cells #[.int .i64 0, .int .i64 0, .int .i64 0] 89) = W2 := ⟨_, rfl⟩
                obtain ⟨B2, hB2⟩ : ∃ B2, w2.heap.size = B2 := ⟨_, rfl⟩
                have HV2 := hidden (show Sv W2 B2 (spL 0 0 0) by rw [← hW2, ← hB2]; exact Sv.new w2 _ _)
                have HS2 := hidden (show Step (fun _ => False) w2 W2 by rw [← hW2]; exact (Step.refl _ _).alloc _)
                have HB2 := hidden hB2
                go_wp2_with (refine store_sv B2 (spL 0 0 0) (spL sp.s sp.m sp.b) rfl Tryz.infoSp (spL_one _ _ _) rfl rfl HV2.out ?_)
                intro w3 S3 V3
                have HO3 := hidden (HO2.out.keep (show Step (fun _ => False) w2 w3 from HS2.out.trans S3 (fun i hi => .inr (by have := HB2.out; omega))))
                have HV3 := hidden V3
                clear S3 V3 hW2 hB2
                go_wp2_with (first | (refine load_sv _ Tryz.underlying89 rfl B2 [.int .i64 (sp.s : Int), .int .i64 (sp.m : Int), .int .i64 (sp.b : Int)] Tryz.infoSp rfl HV3.out ?_) | (at_builtin; refine app_step rfl (.tmp 58) (.tmp 60) rfl _ xs.length (spCs xs) rfl (HO3.out.alloc _) _ _ (spC sp) rfl rfl (lit3_news w3 [.int .i64 (sp.s : Int), .int .i64 (sp.m : Int), .int .i64 (sp.b : Int)] _) (spL_one _ _ _) (by have := HP.out.len; simp at this; omega) ?_))
                intro v4 w4 h4
                have HO4 := hidden h4
                clear h4
                have HF := hidden (show Sps [] (xs ++ [sp]) (L.take (p + m)) by
                  rw [HRun.out m HL.out.2.2]
                  exact HP.out.snoc HL.out.1)
                have hm1 := HL.out.2.1
                have hm2 := HL.out.2.2
                go_wp2
                go_roundw
                case rel => exact ⟨p + m, xs ++ [sp], by go_num, by omega, by rw [List.length_append, spCs_snoc]; exact HO4.out, HF.out, HGQ⟩
                case measure => simp [RowKit.intOf]; omega
        · have q1 : ¬ ((q : Int) < (n : Int)) := by omega
          have q2 : decide (q < n) = false := by rw [decide_eq_false_iff_not]; omega
          have q3 : (q < n) = False := by simp; omega
          have q4 : decide ((q : Int) < (n : Int)) = false := by rw [decide_eq_false_iff_not]; omega
          have HMX := hidden (show p + t < L.length → L.getD (p + t) 0 ≠ (x : Int) from fun h => by have := Hq.out; have := Hn.out; omega)
          clear hq hqn
          go_wp2
          go_quiet (fail)
          by_cases hp0 : p = 0
          · have zd : decide (0 < p) = false := by rw [decide_eq_false_iff_not]; omega
            have zn : (0 < p) = False := by simp; omega
            have HL := hidden (lst_ok (L.take p) x t false hx15 ht1 (by intro h; cases h))
            have HG := hidden (fun wx => lst_go x t false hx15 ht1 (by omega) wx)
            have HGQ := hidden (fun ys (h : Gps L (p + lstN x t false) ys) => show Gps L 0 ((xs ++ [lstS x t false]) ++ ys) by
              rw [List.append_assoc]
              exact HGC.out _ (Gps.step (by have := Hn.out; omega) Hx.out ht1 (by have := Hn.out; omega) HT.out HMX.out (by simp; omega) h))
            clear hp0
            go_wp2
            go_quiet (fail)
            generalize lstS x t false = sp at *
            generalize lstN x t false = m at *
            go_wp2_with fail
            refine Calls.mono (HG.out _) ?_
            rintro e w2 ⟨rfl, S2⟩
            have HO2 := hidden ((HO.out.keep (by first | exact draws_step wr _ | exact (draws_step wr _).drew | exact (draws_step wr _).made (draws_step _ _))).keep S2)
            clear S2
            obtain ⟨W2, hW2⟩ : ∃ W2, w2.alloc (.cells #[.int .i64 0, .int .i64 0, .int .i64 0] 89) = W2 := ⟨_, rfl⟩
            obtain ⟨B2, hB2⟩ : ∃ B2, w2.heap.size = B2 := ⟨_, rfl⟩
            have HV2 := hidden (show Sv W2 B2 (spL 0 0 0) by rw [← hW2, ← hB2]; exact Sv.new w2 _ _)
            have HS2 := hidden (show Step (fun _ => False) w2 W2 by rw [← hW2]; exact (Step.refl _ _).alloc _)
            have HB2 := hidden hB2
            go_wp2_with (refine store_sv B2 (spL 0 0 0) (spL sp.s sp.m sp.b) rfl Tryz.infoSp (spL_one _ _ _) rfl rfl HV2.out ?_)
            intro w3 S3 V3
            have HO3 := hidden (HO2.out.keep (show Step (fun _ => False) w2 w3 from HS2.out.trans S3 (fun i hi => .inr (by have := HB2.out; omega))))
            have HV3 := hidden V3
            clear S3 V3 hW2 hB2
            go_wp2_with (first | (refine load_sv _ Tryz.underlying89 rfl B2 [.int .i64 (sp.s : Int), .int .i64 (sp.m : Int), .int .i64 (sp.b : Int)] Tryz.infoSp rfl HV3.out ?_) | (at_builtin; refine app_step rfl (.tmp 58) (.tmp 60) rfl _ xs.length (spCs xs) rfl (HO3.out.alloc _) _ _ (spC sp) rfl rfl (lit3_news w3 [.int .i64 (sp.s : Int), .int .i64 (sp.m : Int), .int .i64 (sp.b : Int)] _) (spL_one _ _ _) (by have := HP.out.len; simp at this; omega) ?_))
            intro v4 w4 h4
            have HO4 := hidden h4
            clear h4
            have HF := hidden (show Sps [] (xs ++ [sp]) (L.take (p + m)) by
              rw [HRun.out m HL.out.2.2]
              exact HP.out.snoc HL.out.1)
            have hm1 := HL.out.2.1
            have hm2 := HL.out.2.2
            go_wp2
            go_roundw
            case rel => exact ⟨p + m, xs ++ [sp], by go_num, by omega, by rw [List.length_append, spCs_snoc]; exact HO4.out, HF.out, HGQ⟩
            case measure => simp [RowKit.intOf]; omega
          · have zd : decide (0 < p) = true := by rw [decide_eq_true_iff]; omega
            have zn : (0 < p) = True := by simp; omega
            obtain ⟨r, hr⟩ : ∃ r, p = r + 1 := ⟨p - 1, by omega⟩
            have irw : IntKind.i64.wrap ((p : Int) - 1) = (r : Int) := by simp [IntKind.wrap, IntKind.bits, IntKind.signed]; omega
            have r0 : (0 : Int) ≤ (r : Int) := by omega
            have r1 : (r : Int) < (n : Int) := by omega
            have cr := HO.out.st.cell (Hc.out r (by have := Hn.out; omega)) (fun h => h)
            have Hr := hidden hr
            by_cases hz : L.getD r 0 = (x : Int)
            · have HL := hidden (lst_ok (L.take p) x t true hx15 ht1 (fun _ => by
                have hlen : (L.take p).length = p := by rw [List.length_take]; have := Hn.out; omega
                refine ⟨by omega, ?_⟩
                rw [hlen, show p - 1 = r by omega, ← hz]
                simp only [List.getD]
                rw [List.getElem?_take_of_lt (by omega)]))
              have HG := hidden (fun wx => lst_go x t true hx15 ht1 (by omega) wx)
              have HGQ := hidden (fun ys (h : Gps L (p + lstN x t true) ys) => show Gps L 0 ((xs ++ [lstS x t true]) ++ ys) by
                rw [List.append_assoc]
                exact HGC.out _ (Gps.step (by have := Hn.out; omega) Hx.out ht1 (by have := Hn.out; omega) HT.out HMX.out (⟨fun _ => ⟨by omega, by rw [show p - 1 = r by omega]; exact hz⟩, fun _ => rfl⟩) h))
              rw [hz] at cr
              clear hz hr hp0
              go_wp2
              go_quiet (fail)
              generalize lstS x t true = sp at *
              generalize lstN x t true = m at *
              go_wp2_with fail
              refine Calls.mono (HG.out _) ?_
              rintro e w2 ⟨rfl, S2⟩
              have HO2 := hidden ((HO.out.keep (by first | exact draws_step wr _ | exact (draws_step wr _).drew | exact (draws_step wr _).made (draws_step _ _))).keep S2)
              clear S2
              obtain ⟨W2, hW2⟩ : ∃ W2, w2.alloc (.cells #[.int .i64 0, .int .i64 0, .int .i64 0] 89) = W2 := ⟨_, rfl⟩
              obtain ⟨B2, hB2⟩ : ∃ B2, w2.heap.size = B2 := ⟨_, rfl⟩
              have HV2 := hidden (show Sv W2 B2 (spL 0 0 0) by rw [← hW2, ← hB2]; exact Sv.new w2 _ _)
              have HS2 := hidden (show Step (fun _ => False) w2 W2 by rw [← hW2]; exact (Step.refl _ _).alloc _)
              have HB2 := hidden hB2
              go_wp2_with (refine store_sv B2 (spL 0 0 0) (spL sp.s sp.m sp.b) rfl Tryz.infoSp (spL_one _ _ _) rfl rfl HV2.out ?_)
              intro w3 S3 V3
              have HO3 := hidden (HO2.out.keep (show Step (fun _ => False) w2 w3 from HS2.out.trans S3 (fun i hi => .inr (by have := HB2.out; omega))))
              have HV3 := hidden V3
              clear S3 V3 hW2 hB2
              go_wp2_with (first | (refine load_sv _ Tryz.underlying89 rfl B2 [.int .i64 (sp.s : Int), .int .i64 (sp.m : Int), .int .i64 (sp.b : Int)] Tryz.infoSp rfl HV3.out ?_) | (at_builtin; refine app_step rfl (.tmp 58) (.tmp 60) rfl _ xs.length (spCs xs) rfl (HO3.out.alloc _) _ _ (spC sp) rfl rfl (lit3_news w3 [.int .i64 (sp.s : Int), .int .i64 (sp.m : Int), .int .i64 (sp.b : Int)] _) (spL_one _ _ _) (by have := HP.out.len; simp at this; omega) ?_))
              intro v4 w4 h4
              have HO4 := hidden h4
              clear h4
              have HF := hidden (show Sps [] (xs ++ [sp]) (L.take (p + m)) by
                rw [HRun.out m HL.out.2.2]
                exact HP.out.snoc HL.out.1)
              have hm1 := HL.out.2.1
              have hm2 := HL.out.2.2
              go_wp2
              go_roundw
              case rel => exact ⟨p + m, xs ++ [sp], by go_num, by omega, by rw [List.length_append, spCs_snoc]; exact HO4.out, HF.out, HGQ⟩
              case measure => simp [RowKit.intOf]; omega
            · have HL := hidden (lst_ok (L.take p) x t false hx15 ht1 (by intro h; cases h))
              have HG := hidden (fun wx => lst_go x t false hx15 ht1 (by omega) wx)
              have HGQ := hidden (fun ys (h : Gps L (p + lstN x t false) ys) => show Gps L 0 ((xs ++ [lstS x t false]) ++ ys) by
                rw [List.append_assoc]
                exact HGC.out _ (Gps.step (by have := Hn.out; omega) Hx.out ht1 (by have := Hn.out; omega) HT.out HMX.out (⟨fun h => (by cases h), fun h => absurd (by have := h.2; rwa [show p - 1 = r by omega] at this) hz⟩) h))
              obtain ⟨z, hze⟩ : ∃ z, z = L.getD r 0 := ⟨_, rfl⟩
              rw [← hze] at cr hz
              have gz : (z == (x : Int)) = false := by rw [beq_eq_false_iff_ne]; exact hz
              clear hz hze hr hp0
              go_wp2
              go_quiet (fail)
              generalize lstS x t false = sp at *
              generalize lstN x t false = m at *
              go_wp2_with fail
              refine Calls.mono (HG.out _) ?_
              rintro e w2 ⟨rfl, S2⟩
              have HO2 := hidden ((HO.out.keep (by first | exact draws_step wr _ | exact (draws_step wr _).drew | exact (draws_step wr _).made (draws_step _ _))).keep S2)
              clear S2
              obtain ⟨W2, hW2⟩ : ∃ W2, w2.alloc (.cells #[.int .i64 0, .int .i64 0, .int .i64 0] 89) = W2 := ⟨_, rfl⟩
              obtain ⟨B2, hB2⟩ : ∃ B2, w2.heap.size = B2 := ⟨_, rfl⟩
              have HV2 := hidden (show Sv W2 B2 (spL 0 0 0) by rw [← hW2, ← hB2]; exact Sv.new w2 _ _)
              have HS2 := hidden (show Step (fun _ => False) w2 W2 by rw [← hW2]; exact (Step.refl _ _).alloc _)
              have HB2 := hidden hB2
              go_wp2_with (refine store_sv B2 (spL 0 0 0) (spL sp.s sp.m sp.b) rfl Tryz.infoSp (spL_one _ _ _) rfl rfl HV2.out ?_)
              intro w3 S3 V3
              have HO3 := hidden (HO2.out.keep (show Step (fun _ => False) w2 w3 from HS2.out.trans S3 (fun i hi => .inr (by have := HB2.out; omega))))
              have HV3 := hidden V3
              clear S3 V3 hW2 hB2
              go_wp2_with (first | (refine load_sv _ Tryz.underlying89 rfl B2 [.int .i64 (sp.s : Int), .int .i64 (sp.m : Int), .int .i64 (sp.b : Int)] Tryz.infoSp rfl HV3.out ?_) | (at_builtin; refine app_step rfl (.tmp 58) (.tmp 60) rfl _ xs.length (spCs xs) rfl (HO3.out.alloc _) _ _ (spC sp) rfl rfl (lit3_news w3 [.int .i64 (sp.s : Int), .int .i64 (sp.m : Int), .int .i64 (sp.b : Int)] _) (spL_one _ _ _) (by have := HP.out.len; simp at this; omega) ?_))
              intro v4 w4 h4
              have HO4 := hidden h4
              clear h4
              have HF := hidden (show Sps [] (xs ++ [sp]) (L.take (p + m)) by
                rw [HRun.out m HL.out.2.2]
                exact HP.out.snoc HL.out.1)
              have hm1 := HL.out.2.1
              have hm2 := HL.out.2.2
              go_wp2
              go_roundw
              case rel => exact ⟨p + m, xs ++ [sp], by go_num, by omega, by rw [List.length_append, spCs_snoc]; exact HO4.out, HF.out, HGQ⟩
              case measure => simp [RowKit.intOf]; omega
    · have p1 : ¬ ((p : Int) < (n : Int)) := by omega
      have HF := hidden (show Sps [] xs L by
        have h := HP.out
        rwa [List.take_of_length_le (by have := Hn.out; omega)] at h)
      have HGF := hidden (show Gps L 0 xs by
        have h := HGC.out [] (Gps.done (by have := Hn.out; omega))
        rwa [List.append_nil] at h)
      go_wp2
      go_ret
      first | exact ⟨_, xs, rfl, HO.out, HF.out, HGF.out⟩ | exact ⟨_, rfl, xs, HO.out, HF.out, HGF.out⟩

end Go.Proofs.YtcgjmkcigmmjjaaGreatDoor

namespace Go.Proofs.YtcgjmkcigmmjjaaGreatDoor
open Go.RowKit
set_option maxRecDepth 100000
theorem fsame_any (w : World) (f : Nat) (pv : Value) (P : List Nat) (g1 g2 n at' kn : Nat) (h : Fi w f pv P g1 g2 n at' kn) (a b most : Nat) (ha : a + most ≤ P.length) (hb : b + most ≤ P.length) :
    Calls Tryz.prog 85 #[.pointer (some ⟨f, 0, none⟩), .int .i64 (a : Int), .int .i64 (b : Int), .int .i64 (most : Int)] w fun e w' => e = .returned (.int .i64 ((smL P a b most : Nat) : Int)) ∧ Step (fun _ => False) w w' := by
  have c0 := h.c0
  obtain ⟨ao, cap, rfl, h1, h2⟩ := h.rd
  have hl := h.len
  have hp := pow_le_24 n (by omega)
  obtain ⟨N, hN⟩ : ∃ N, smL P a b most = N := ⟨_, rfl⟩
  rw [hN]
  have HN := hidden (show smG P a b (most - 0) 0 = N from hN)
  obtain ⟨m, hm⟩ : ∃ m, P.length = m := ⟨_, rfl⟩
  rw [hm] at c0 ha hb
  have hlz : m ≤ 16777216 := by omega
  have HC := hidden (show ∀ k, k < m → ∃ g off, ao = some ⟨g, off, none⟩ ∧ w.cell? ⟨g, off + k, none⟩ = some (.int .u8 ((P.getD k 0 : Nat) : Int)) ∧ w.cell? ⟨f, 0, none⟩ = some (.slice (some ⟨g, off, none⟩) m cap) from fun k hk => by
    have hne : P ≠ [] := by intro e; subst e; simp at hm; omega
    cases ao with
    | none => exact absurd (h1 rfl).1 hne
    | some q =>
      obtain ⟨g, off, rfl, hc⟩ := h2 q rfl hne
      exact ⟨g, off, rfl, hc k (by omega), c0⟩)
  clear h h1 h2 hl hN hm hp
  go_enter Tryz.func85, Tryz.ntmps85
  go_wp2
  go_loopw [9] (fun iv wr => ∃ i : Nat, iv = .int .i64 (i : Int) ∧ i ≤ most ∧ Hid (Step (fun _ => False) w wr) ∧ Hid (smG P a b (most - i) i = N)) (fun iv _ => most - (intOf iv).toNat)
  case atStart => exact ⟨0, rfl, Nat.zero_le _, Step.refl _ _, HN.out⟩
  case round =>
    obtain ⟨i, rfl, hi, HS, HM⟩ := hrel
    by_cases him : i < most
    · obtain ⟨g, off, rfl, ca, c1⟩ := HC.out (a + i) (by omega)
      obtain ⟨g', off', e, cb, _⟩ := HC.out (b + i) (by omega)
      injection e with e
      injection e with e1 e2
      subst e1
      subst e2
      have d0 := HS.out.cell c1 (fun h => h)
      have da := HS.out.cell ca (fun h => h)
      have db := HS.out.cell cb (fun h => h)
      have hz : decide ((i : Int) < (most : Int)) = true := decide_eq_true (by omega)
      have hz' : (i : Int) < (most : Int) := by omega
      have n0 : (0 : Int) ≤ (a : Int) + (i : Int) := by omega
      have n1 : (a : Int) + (i : Int) < (m : Int) := by omega
      have n2 : (0 : Int) ≤ (b : Int) + (i : Int) := by omega
      have n3 : (b : Int) + (i : Int) < (m : Int) := by omega
      have hst : most - i = (most - (i + 1)) + 1 := by omega
      have HM2 := hidden (show (if P.getD (a + i) 0 = P.getD (b + i) 0 then smG P a b (most - (i + 1)) (i + 1) else i) = N by
        have := HM.out
        rw [hst] at this
        exact this)
      clear c0 c1 ca cb hst
      generalize P.getD (a + i) 0 = x at *
      generalize P.getD (b + i) 0 = y at *
      by_cases hxy : x = y
      · have hE : ((x : Int) == (y : Int)) = true := by simp [hxy]
        have HM3 := hidden (show smG P a b (most - (i + 1)) (i + 1) = N by have := HM2.out; rwa [if_pos hxy] at this)
        subst hxy
        go_wp2
        go_quiet (fail)
        go_wp2
        go_roundw
        case rel => exact ⟨i + 1, by go_num, by omega, HS.out.drewN _, HM3.out⟩
        case measure => simp [intOf]; omega
      · have hE : ((x : Int) == (y : Int)) = false := by simp; omega
        have HM3 := hidden (show i = N by have := HM2.out; rwa [if_neg hxy] at this)
        go_wp2
        go_quiet (fail)
        go_wp2
        go_ret
        exact ⟨by rw [← HM3.out]; rfl, HS.out.drewN _⟩
    · have hz : decide ((i : Int) < (most : Int)) = false := decide_eq_false (by omega)
      have hz' : ¬ (i : Int) < (most : Int) := by omega
      have HE := hidden (show i = N by
        have := HM.out
        rwa [show most - i = 0 by omega] at this)
      clear c0
      go_wp2
      go_quiet (fail)
      go_wp2
      go_ret
      exact ⟨by rw [← HE.out]; rfl, HS.out.drewN _⟩

end Go.Proofs.YtcgjmkcigmmjjaaGreatDoor

namespace Go.Proofs.YtcgjmkcigmmjjaaGreatDoor
open Go.RowKit
set_option maxRecDepth 100000
theorem mtc_zero (P : List Nat) (n a most : Nat) (z : Int) (l d : Nat) : mtc P n a most 0 z l d = (l, d) := rfl

theorem mtc_stop (P : List Nat) (n a most k : Nat) (z : Int) (l d : Nat) (h : ¬ ((a : Int) - z ≤ 32768 ∧ l < most)) : mtc P n a most k z l d = (l, d) := by
  cases k with
  | zero => rfl
  | succ k => unfold mtc; rw [if_neg h]

theorem mtc_more (P : List Nat) (n a most k q : Nat) (l d : Nat) (h : (a : Int) - (q : Int) ≤ 32768 ∧ l < most) (hs : l < smL P q a most) : mtc P n a most (k + 1) (q : Int) l d = mtc P n a most k (pre P n (chn P n q) q) (smL P q a most) (a - q) := by
  conv => lhs; unfold mtc
  rw [if_pos h]
  simp only [Int.toNat_natCast]
  rw [if_pos hs]

theorem mtc_less (P : List Nat) (n a most k q : Nat) (l d : Nat) (h : (a : Int) - (q : Int) ≤ 32768 ∧ l < most) (hs : ¬ l < smL P q a most) : mtc P n a most (k + 1) (q : Int) l d = mtc P n a most k (pre P n (chn P n q) q) l d := by
  conv => lhs; unfold mtc
  rw [if_pos h]
  simp only [Int.toNat_natCast]
  rw [if_neg hs]

theorem mat_small (P : List Nat) (n a : Nat) (h : min 258 (P.length - a) < 3) : mat P n a = ⟨P.getD a 0, 0, 0⟩ := by unfold mat; rw [if_pos h]

theorem mat_none (P : List Nat) (n a : Nat) (h : ¬ min 258 (P.length - a) < 3) {l : Nat} (hr : mtc P n a (min 258 (P.length - a)) 128 (pre P n (chn P n a) a) 2 0 = (l, 0)) : mat P n a = ⟨P.getD a 0, 0, 0⟩ := by
  unfold mat
  rw [if_neg h, hr, if_pos rfl]

theorem mat_some (P : List Nat) (n a : Nat) (h : ¬ min 258 (P.length - a) < 3) {l d : Nat} (hr : mtc P n a (min 258 (P.length - a)) 128 (pre P n (chn P n a) a) 2 0 = (l, d)) (hd : d ≠ 0) : mat P n a = ⟨0, l, d⟩ := by
  unfold mat
  rw [if_neg h, hr, if_neg hd]

set_option maxHeartbeats 4000000 in
theorem fmatch_any (w : World) (f : Nat) (pv : Value) (P : List Nat) (g1 g2 n at' kn : Nat) (h : Fi w f pv P g1 g2 n at' kn) (a : Nat) (ha : a < P.length) (hk : a + 3 ≤ P.length → kn = a) :
    Calls Tryz.prog 56 #[.pointer (some ⟨f, 0, none⟩), .int .i64 (a : Int)] w fun e w' => e = .returned (tkV (mat P n a)) ∧ Step (fun _ => False) w w' := by
  have c0 := h.c0
  obtain ⟨ao, cap, hpv, _⟩ := id h.rd
  rw [hpv] at c0
  have hl := h.len
  have hp := pow_le_24 n (by omega)
  obtain ⟨m, hm⟩ : ∃ m, P.length = m := ⟨_, rfl⟩
  rw [hm] at c0 ha hk
  have hlz : m ≤ 16777216 := by omega
  have hfl := World.block_lt_of_cell? w _ c0
  obtain ⟨R, hR⟩ : ∃ R, mat P n a = R := ⟨_, rfl⟩
  rw [hR]
  have Hm := hidden hm
  have HR := hidden hR
  obtain ⟨x0, hx0⟩ : ∃ x0, P.getD a 0 = x0 := ⟨_, rfl⟩
  have Hx0 := hidden hx0
  obtain ⟨W0, hW0⟩ : ∃ W0, w.alloc (.cells #[.int .u8 0, .int .i64 0, .int .i64 0] 62) = W0 := ⟨_, rfl⟩
  obtain ⟨B, hB⟩ : ∃ B, w.heap.size = B := ⟨_, rfl⟩
  have HS0 := hidden (show Step (fun _ => False) w W0 by rw [← hW0]; exact (Step.refl _ _).alloc _)
  have HV0 := hidden (show Sv W0 B (tkL ⟨0, 0, 0⟩) by rw [← hW0, ← hB]; exact Sv.new w _ _)
  have HF0 := hidden (h.made HS0.out)
  have hB0 := hidden (show B < W0.heap.size from HV0.out.lt (by simp [tkL]))
  have HB := hidden hB
  have d0 := HS0.out.cell c0 (fun h => h)
  clear c0
  clear h hl hR hm hpv hx0
  by_cases h3 : m - a < 3
  · have z1 : (m : Int) - (a : Int) < 3 := by omega
    have z2 : (m : Int) - (a : Int) < 258 := by omega
    have HE := hidden (show R = ⟨x0, 0, 0⟩ by rw [← HR.out, ← Hx0.out]; exact mat_small P n a (by have := Hm.out; omega))
    have Hsg := hidden (single_any HF0.out a (by have := Hm.out; omega))
    rw [Hx0.out] at Hsg
    go_enter Tryz.func56, Tryz.ntmps56
    go_wp2_with fail
    refine Hsg.out.mono ?_
    rintro e w2 ⟨rfl, S2⟩
    have HS2 := hidden (HS0.out.made S2)
    have HV2 := hidden (HV0.out.made S2)
    clear S2
    go_wp2_with (refine store_sv B (tkL ⟨0, 0, 0⟩) (tkL ⟨x0, 0, 0⟩) rfl Tryz.infoTk (tkL_one _) rfl rfl HV2.out ?_)
    intro w3 S3 V3
    have HS3 := hidden (HS2.out.trans S3 (fun i hi => .inr (by have := HB.out; omega)))
    have HV3 := hidden V3
    clear S3 V3
    go_wp2
    refine bodyPost_ret (v := tkV ⟨x0, 0, 0⟩) ?_ rfl ⟨by rw [HE.out], HS3.out⟩
    have := tk_load HV3.out
    simp [results, Tryz.results56, asAddr, this]
  · obtain ⟨mo, hmo⟩ : ∃ mo, min 258 (m - a) = mo := ⟨_, rfl⟩
    have hif : (if (m : Int) - (a : Int) < 258 then (m : Int) - (a : Int) else 258) = (mo : Int) := by split <;> omega
    have hif2 : (if (258 : Int) < (m : Int) - (a : Int) then 258 else (m : Int) - (a : Int)) = (mo : Int) := by split <;> omega
    have m3 : ¬ (mo : Int) < 3 := by omega
    have hk1 : kn = a := hk (by omega)
    subst hk1
    have hmo2 : mo ≤ 258 ∧ kn + mo ≤ m := by omega
    have Hmo := hidden (show ¬ min 258 (P.length - kn) < 3 ∧ min 258 (P.length - kn) = mo by rw [Hm.out]; exact ⟨by omega, hmo⟩)
    obtain ⟨z0, hz0⟩ : ∃ z0, pre P n (chn P n kn) kn = z0 := ⟨_, rfl⟩
    have Hz0 := hidden hz0
    have hz0b : z0 = -32769 ∨ (0 ≤ z0 ∧ z0 < (kn : Int)) := by rw [← hz0]; exact pre_bd P n _ kn
    have HCH := hidden (fun q => chain_any (HF0.out.made ((Step.refl _ _).drewN q)) kn (by have := Hm.out; omega))
    have hcl := chn_lt P n kn (by have := HF0.out.len; omega)
    have hhd : W0.cell? ⟨g1, chn P n kn, none⟩ = some (.int .i64 z0) := by rw [← hz0]; exact (HF0.out.hd (chn P n kn) hcl).1
    have c3 := HF0.out.c3
    obtain ⟨ch, hch⟩ : ∃ ch, chn P n kn = ch := ⟨_, rfl⟩
    rw [hch] at hhd hcl HCH
    have hp24 := pow_le_24 n (by have := HF0.out.len; omega)
    have HN := hidden (rfl : 2 ^ n = 2 ^ n)
    have HSL := hidden (fun (wx : World) (hs : Step (fun _ => False) W0 wx) (q : Nat) (hq : q < kn) => slot_any (HF0.out.made hs) q (by have := HF0.out.len; have := Hm.out; omega))
    have HAH := hidden HF0.out.ah
    have hnN : (2 ^ n : Nat) ≤ 16777216 := hp24
    generalize hNN : (2 ^ n : Nat) = N at *
    have hcN : ((ch : Nat) : Int) < (N : Int) := by omega
    have HNN := hidden hNN
    clear hz0 hmo hNN hch
    go_enter Tryz.func56, Tryz.ntmps56
    go_wp2
    go_quiet ((go_at_call 84; exact Calls.quiet_of (HCH.out _)))
    go_wp2
    go_loopw [6, 7, 8, 9] (fun lv dv zv sv wr => ∃ (s l d : Nat) (z : Int), lv = .int .i64 (l : Int) ∧ dv = .int .i64 (d : Int) ∧ zv = .int .i64 z ∧ sv = .int .i64 (s : Int) ∧ s ≤ 128 ∧ l ≤ 258 ∧ d ≤ kn ∧ Hid (Step (fun _ => False) W0 wr) ∧ Hid ((z = -32769 ∨ (0 ≤ z ∧ z < (kn : Int))) ∧ mtc P n kn mo (128 - s) z l d = mtc P n kn mo 128 z0 2 0)) (fun _ _ _ sv _ => 128 - (intOf sv).toNat)
    case atStart => exact ⟨0, 2, 0, z0, rfl, rfl, rfl, rfl, by omega, by omega, by omega, (Step.refl _ _).drewN _, hz0b, rfl⟩
    case round =>
      obtain ⟨s, l, d, z, rfl, rfl, rfl, rfl, hs, hl, hd, HS, HM⟩ := hrel
      by_cases hc : s < 128 ∧ (kn : Int) - z ≤ 32768 ∧ l < mo
      · obtain ⟨hs1, hz1, hl1⟩ := hc
        have hzz : 0 ≤ z ∧ z < (kn : Int) := by have := HM.out.1; omega
        obtain ⟨q, rfl⟩ := Int.eq_ofNat_of_zero_le hzz.1
        have hq : q < kn := by omega
        have c1 : (s : Int) < 128 := by omega
        have c2 : (l : Int) < (mo : Int) := by omega
        have c3' : (kn : Int) - ((q : Nat) : Int) ≤ 32768 := hz1
        have HF := hidden (HF0.out.made HS.out)
        have HSA := hidden (fsame_any wr f pv P g1 g2 n at' kn HF.out q kn mo (by have := Hm.out; omega) (by have := Hm.out; omega))
        have hsle := smG_le P q kn mo 0
        obtain ⟨N1, hN1⟩ : ∃ N1, smL P q kn mo = N1 := ⟨_, rfl⟩
        rw [hN1] at HSA
        have hN1b : N1 ≤ 258 := by rw [← hN1]; unfold smL; omega
        have HN1 := hidden hN1
        obtain ⟨af, haf, hafq⟩ := HAH.out
        have e4 := HF.out.c4
        obtain ⟨zn, hzn⟩ : ∃ zn, pre P n (chn P n q) q = zn := ⟨_, rfl⟩
        have hznb := pre_bd P n (chn P n q) q
        rw [hzn] at hznb
        have Hzn := hidden hzn
        have Hzb := hidden (show zn = -32769 ∨ (0 ≤ zn ∧ zn < (kn : Int)) by omega)
        have hqN : q < N := by
          have := HF0.out.len
          have := Hm.out
          have := HNN.out
          omega
        have hca : W0.cell? ⟨g2, q, none⟩ = some (.int .i64 zn) := by
          have := (haf q hqN).1
          rwa [hafq q hq, hzn] at this
        have hqz : ((q : Nat) : Int) < (N : Int) := by omega
        have hst : 128 - s = (128 - (s + 1)) + 1 := by omega
        have hM2 := HM.out.2
        rw [hst] at hM2
        rw [HNN.out] at e4
        clear haf hafq hN1 hsle hzn hznb hzz
        by_cases hln : l < N1
        · have HM3 := hidden (show mtc P n kn mo (128 - (s + 1)) zn N1 (kn - q) = mtc P n kn mo 128 z0 2 0 by
            rw [← hM2, mtc_more P n kn mo (128 - (s + 1)) q l d ⟨hz1, hl1⟩ (by rw [HN1.out]; exact hln), HN1.out, Hzn.out])
          have hlnz : (l : Int) < (N1 : Int) := by omega
          have hdz : (kn : Int) - ((q : Nat) : Int) = ((kn - q : Nat) : Int) := by omega
          have hdd : kn - q ≤ kn := by omega
          generalize kn - q = dd at *
          clear hM2 hst
          go_wp2_with fail
          refine HSA.out.mono ?_
          rintro e w2 ⟨rfl, S2⟩
          have HS2 := hidden (HS.out.made S2)
          have HSL2 := hidden (fun k => HSL.out (w2.drewN k) (HS2.out.drewN k) q hq)
          have f4 := S2.cell e4 (fun h => h)
          have f5 := HS2.out.cell hca (fun h => h)
          clear S2 e4 hca
          go_wp2
          go_quiet ((go_at_call 86; exact Calls.quiet_of_same (HSL2.out _)))
          go_wp2
          go_roundw
          case rel => exact ⟨s + 1, N1, dd, zn, rfl, rfl, rfl, by go_num, by omega, hN1b, hdd, HS2.out.drewN _, Hzb.out, HM3.out⟩
          case measure => simp [intOf]; omega
        · have HM3 := hidden (show mtc P n kn mo (128 - (s + 1)) zn l d = mtc P n kn mo 128 z0 2 0 by
            rw [← hM2, mtc_less P n kn mo (128 - (s + 1)) q l d ⟨hz1, hl1⟩ (by rw [HN1.out]; exact hln), Hzn.out])
          have hlnz : ¬ (l : Int) < (N1 : Int) := by omega
          clear hM2 hst
          go_wp2_with fail
          refine HSA.out.mono ?_
          rintro e w2 ⟨rfl, S2⟩
          have HS2 := hidden (HS.out.made S2)
          have HSL2 := hidden (fun k => HSL.out (w2.drewN k) (HS2.out.drewN k) q hq)
          have f4 := S2.cell e4 (fun h => h)
          have f5 := HS2.out.cell hca (fun h => h)
          clear S2 e4 hca
          go_wp2
          go_quiet ((go_at_call 86; exact Calls.quiet_of_same (HSL2.out _)))
          go_wp2
          go_roundw
          case rel => exact ⟨s + 1, l, d, zn, rfl, rfl, rfl, by go_num, by omega, hl, hd, HS2.out.drewN _, Hzb.out, HM3.out⟩
          case measure => simp [intOf]; omega
      · have HM2 := hidden (show mtc P n kn mo 128 z0 2 0 = (l, d) by
          rw [← HM.out.2]
          by_cases hs1 : s < 128
          · exact mtc_stop _ _ _ _ _ _ _ _ (fun q => hc ⟨hs1, q.1, q.2⟩)
          · rw [show 128 - s = 0 by omega]; rfl)
        have HE := hidden (show (d = 0 → R = ⟨x0, 0, 0⟩) ∧ (d ≠ 0 → R = ⟨0, l, d⟩) by
          have h1 := Hmo.out
          have h2 := HM2.out
          rw [← h1.2, ← Hz0.out] at h2
          refine ⟨fun e => ?_, fun e => ?_⟩
          · subst e
            rw [← HR.out, ← Hx0.out]
            exact mat_none P n kn h1.1 h2
          · rw [← HR.out]
            exact mat_some P n kn h1.1 h2 e)
        have HF := hidden (HF0.out.made HS.out)
        have HV := hidden (HV0.out.made HS.out)
        obtain ⟨zb1, zb2⟩ : -32769 ≤ z ∧ z < (kn : Int) := by have := HM.out.1; omega
        have hcc : (¬ (s : Int) < 128) ∨ ((s : Int) < 128 ∧ ¬ ((kn : Int) - z ≤ 32768)) ∨ ((s : Int) < 128 ∧ (kn : Int) - z ≤ 32768 ∧ ¬ ((l : Int) < (mo : Int))) := by omega
        by_cases hd0 : d = 0
        · subst hd0
          have Hsg := hidden (single_any HF.out kn (by have := Hm.out; omega))
          rw [Hx0.out] at Hsg
          have HE2 := hidden (HE.out.1 rfl)
          clear HE
          rcases hcc with k1 | ⟨k1, k2⟩ | ⟨k1, k2, k3⟩
          all_goals
            go_wp2_with fail
            refine Hsg.out.mono ?_
            rintro e w2 ⟨rfl, S2⟩
            have HS2 := hidden ((HS0.out.made HS.out).made S2)
            have HV2 := hidden (HV.out.made S2)
            clear S2
            go_wp2_with (refine store_sv B (tkL ⟨0, 0, 0⟩) (tkL ⟨x0, 0, 0⟩) rfl Tryz.infoTk (tkL_one _) rfl rfl HV2.out ?_)
            intro w3 S3 V3
            have HS3 := hidden (HS2.out.trans S3 (fun i hi => .inr (by have := HB.out; omega)))
            have HV3 := hidden V3
            clear S3 V3
            go_wp2
            refine bodyPost_ret (v := tkV ⟨x0, 0, 0⟩) ?_ rfl ⟨by rw [HE2.out], HS3.out⟩
            have := tk_load HV3.out
            simp [results, Tryz.results56, asAddr, this]
        · have hdz : ¬ (d : Int) = 0 := by omega
          have HE2 := hidden (HE.out.2 hd0)
          clear HE
          rcases hcc with k1 | ⟨k1, k2⟩ | ⟨k1, k2, k3⟩
          all_goals
            go_wp2_with (refine store_sv B (tkL ⟨0, 0, 0⟩) (tkL ⟨0, l, d⟩) rfl Tryz.infoTk (tkL_one _) rfl rfl HV.out ?_)
            intro w3 S3 V3
            have HS3 := hidden ((HS0.out.made HS.out).trans S3 (fun i hi => .inr (by have := HB.out; omega)))
            have HV3 := hidden V3
            clear S3 V3
            go_wp2
            refine bodyPost_ret (v := tkV ⟨0, l, d⟩) ?_ rfl ⟨by rw [HE2.out], HS3.out⟩
            have := tk_load HV3.out
            simp [results, Tryz.results56, asAddr, this]

end Go.Proofs.YtcgjmkcigmmjjaaGreatDoor

namespace Go.Proofs.YtcgjmkcigmmjjaaGreatDoor
open Go.RowKit
set_option maxRecDepth 100000
/-- The blocks that the finder writes. -/
def Fs (f g1 g2 : Nat) (k : Nat) : Prop := k = f ∨ k = g1 ∨ k = g2

def knOf (f : Nat) (w : World) : Nat := match w.cell? ⟨f, 2, none⟩ with
  | some (.int _ z) => z.toNat
  | _ => 0

theorem knOf_eq {w : World} {f : Nat} {k : Nat} (h : w.cell? ⟨f, 2, none⟩ = some (.int .i64 (k : Int))) : knOf f w = k := by unfold knOf; rw [h]; simp

/-- One place more stands in its chain. -/
theorem Fi.more {w : World} {f : Nat} {pv : Value} {P : List Nat} {g1 g2 n at' kn : Nat} (h : Fi w f pv P g1 g2 n at' kn) (hk : kn < P.length) :
    Fi (((w.setCell ⟨g2, kn, none⟩ (.int .i64 (pre P n (chn P n kn) kn))).setCell ⟨g1, chn P n kn, none⟩ (.int .i64 (kn : Int))).setCell ⟨f, 2, none⟩ (.int .i64 ((kn + 1 : Nat) : Int))) f pv P g1 g2 n at' (kn + 1) := by
  obtain ⟨n1, n2, n3⟩ := h.ne
  obtain ⟨a, ha, hq⟩ := h.ah
  have hf : f < w.heap.size := World.block_lt_of_cell? w _ h.c0
  have hc := chn_lt P n kn (by have := h.len; omega)
  have hkn : kn < 2 ^ n := by have := h.len; omega
  have S1 : Step (fun k => k = g2) w (w.setCell ⟨g2, kn, none⟩ (.int .i64 (pre P n (chn P n kn) kn))) := (Step.refl _ _).setCell _ _ (.inl rfl)
  have A1 := ha.set kn (pre P n (chn P n kn) kn)
  have H1 := h.hd.step S1 (fun e => n3 e)
  obtain ⟨w1, hw1⟩ : ∃ w1, w.setCell ⟨g2, kn, none⟩ (.int .i64 (pre P n (chn P n kn) kn)) = w1 := ⟨_, rfl⟩
  rw [hw1] at S1 A1 H1 ⊢
  have S2 : Step (fun k => k = g1) w1 (w1.setCell ⟨g1, chn P n kn, none⟩ (.int .i64 (kn : Int))) := (Step.refl _ _).setCell _ _ (.inl rfl)
  have H2 := H1.set (chn P n kn) (kn : Int)
  have A2 := A1.step S2 (fun e => n3 e.symm)
  obtain ⟨w2, hw2⟩ : ∃ w2, w1.setCell ⟨g1, chn P n kn, none⟩ (.int .i64 (kn : Int)) = w2 := ⟨_, rfl⟩
  rw [hw2] at S2 A2 H2 ⊢
  have S3 : Step (fun k => k = f) w2 (w2.setCell ⟨f, 2, none⟩ (.int .i64 ((kn + 1 : Nat) : Int))) := (Step.refl _ _).setCell _ _ (.inl rfl)
  have S12 : Step (fun k => k = g1 ∨ k = g2) w w2 := (S1.mono (fun _ e => .inr e)).trans (S2.mono (fun _ e => .inl e)) (fun i hi => .inl hi)
  have nf : ¬ (f = g1 ∨ f = g2) := by omega
  have k0 := S12.cell h.c0 nf
  have k1 := S12.cell h.c1 nf
  have k2 := S12.cell h.c2 nf
  have k3 := S12.cell h.c3 nf
  have k4 := S12.cell h.c4 nf
  have k5 := S12.cell h.c5 nf
  have S123 : Step (fun k => k = f ∨ k = g1 ∨ k = g2) w (w2.setCell ⟨f, 2, none⟩ (.int .i64 ((kn + 1 : Nat) : Int))) := (S12.mono (fun _ e => by rcases e with e | e <;> omega)).trans (S3.mono (fun _ e => .inl e)) (fun i hi => .inl hi)
  have oth : ∀ j v, j ≠ 2 → w2.cell? ⟨f, j, none⟩ = some v → (w2.setCell ⟨f, 2, none⟩ (.int .i64 ((kn + 1 : Nat) : Int))).cell? ⟨f, j, none⟩ = some v := fun j v hj hv => by
    rw [World.cell?_setCell_other _ _ _ _ (by intro e; apply hj; injection e with _ e2; omega)]; exact hv
  refine ⟨oth 0 _ (by omega) k0, oth 1 _ (by omega) k1, World.cell?_setCell_same _ _ _ k2, oth 3 _ (by omega) k3, oth 4 _ (by omega) k4, oth 5 _ (by omega) k5, fun k hk => by rw [World.frozen?_setCell]; exact (S12.frozen (p := ⟨f, k, none⟩) hf nf).trans (h.fz k hk), h.rd.step S123 (fun a k c e hP => by have := h.off a k c e hP; omega), ?_, ⟨_, A2.step S3 (fun e => n2 e.symm), fun q hqq => ?_⟩, h.ne, h.off, h.len, h.byte, h.cp⟩
  · refine (H2.step S3 (fun e => n1 e.symm)).congr fun c hcc => ?_
    unfold upd
    by_cases e : c = chn P n kn
    · rw [if_pos e]; unfold pre; rw [if_pos e.symm]
    · rw [if_neg e]; conv => rhs; unfold pre
      rw [if_neg (fun e2 => e e2.symm)]
  · unfold upd
    by_cases e : q = kn
    · rw [if_pos e, e]
    · rw [if_neg e]; exact hq q (by omega)

theorem Fi.drewN {w : World} {f : Nat} {pv : Value} {P : List Nat} {g1 g2 n at' kn : Nat} (h : Fi w f pv P g1 g2 n at' kn) (q : Nat) : Fi (w.drewN q) f pv P g1 g2 n at' kn := h.made ((Step.refl _ _).drewN q)

set_option maxHeartbeats 2000000 in
theorem learn_any (w : World) (f : Nat) (pv : Value) (P : List Nat) (g1 g2 n at' kn : Nat) (h : Fi w f pv P g1 g2 n at' kn) (e : Nat) (he : e ≤ P.length) (hk : kn ≤ min e (P.length - 2)) :
    Calls Tryz.prog 57 #[.pointer (some ⟨f, 0, none⟩), .int .i64 (e : Int)] w fun x w' => (∃ u, x = .returned u) ∧ Fi w' f pv P g1 g2 n at' (min e (P.length - 2)) ∧ Step (Fs f g1 g2) w w' := by
  have c0 := h.c0
  obtain ⟨ao, cap, hpv, _⟩ := id h.rd
  rw [hpv] at c0
  have hl := h.len
  have hp := pow_le_24 n (by omega)
  obtain ⟨m, hm⟩ : ∃ m, P.length = m := ⟨_, rfl⟩
  rw [hm] at c0 he hk ⊢
  have hlz : m ≤ 16777216 := by omega
  obtain ⟨E, hE⟩ : ∃ E : Int, min (e : Int) ((m : Int) - 3 + 1) = E := ⟨_, rfl⟩
  have hif : (if (m : Int) - 3 + 1 < (e : Int) then (m : Int) - 3 + 1 else (e : Int)) = E := by split <;> omega
  have hif2 : (if (e : Int) < (m : Int) - 3 + 1 then (e : Int) else (m : Int) - 3 + 1) = E := by split <;> omega
  obtain ⟨K, hK⟩ : ∃ K, min e (m - 2) = K := ⟨_, rfl⟩
  rw [hK] at hk ⊢
  have hEK : E = (K : Int) ∨ (E < 0 ∧ K = 0) := by omega
  have hKm : K + 2 ≤ m ∨ K = 0 := by omega
  have Hm := hidden hm
  have HF := hidden h
  clear h hl hm hpv hE hK
  go_enter Tryz.func57, Tryz.ntmps57
  go_wp2
  go_loopw [] (fun wr => ∃ k, kn ≤ k ∧ k ≤ K ∧ Hid (Fi wr f pv P g1 g2 n at' k ∧ Step (Fs f g1 g2) w wr)) (fun wr => K - knOf f wr)
  case atStart => exact ⟨kn, Nat.le_refl _, hk, HF.out, Step.refl _ _⟩
  case round =>
    obtain ⟨k, hk1, hk2, HS⟩ := hrel
    have c2 := HS.out.1.c2
    by_cases hkK : k < K
    · have z1 : (k : Int) < E := by omega
      have HCH := hidden (chain_any HS.out.1 k (by have := Hm.out; omega))
      obtain ⟨ch, hch⟩ : ∃ ch, chn P n k = ch := ⟨_, rfl⟩
      rw [hch] at HCH
      go_wp2_with fail
      refine HCH.out.mono ?_
      rintro x w2 ⟨rfl, q, hw2⟩
      have HT := hidden (show Fi w2 f pv P g1 g2 n at' k ∧ Step (Fs f g1 g2) w w2 by rw [hw2]; exact ⟨HS.out.1.drewN q, HS.out.2.drewN q⟩)
      have HK := hidden (show knOf f wr = k from knOf_eq c2)
      clear hw2 HCH HS c2
      have c2 := HT.out.1.c2
      have hkN : k < 2 ^ n := by have := HT.out.1.len; have := Hm.out; omega
      have HSL := hidden (slot_any (HT.out.1.made ((Step.refl _ _).drew)) k hkN)
      have hcl := chn_lt P n k (by have := HT.out.1.len; omega)
      have c3 := HT.out.1.c3
      have c4 := HT.out.1.c4
      have cz := HT.out.1.fz 2 (by omega)
      obtain ⟨ch1, ch2⟩ := HT.out.1.hd (chn P n k) hcl
      obtain ⟨a, ha, _⟩ := HT.out.1.ah
      obtain ⟨ca1, ca2⟩ := ha k hkN
      obtain ⟨n1, n2, n3⟩ := HT.out.1.ne
      have n1' : ¬ g1 = f := fun e => n1 e.symm
      have n2' : ¬ g2 = f := fun e => n2 e.symm
      have n3' : ¬ g2 = g1 := fun e => n3 e.symm
      have n1'' : ¬ f = g1 := n1
      have n2'' : ¬ f = g2 := n2
      have HM := hidden (HT.out.1.more (by have := Hm.out; omega))
      obtain ⟨z, hz⟩ : ∃ z, pre P n ch k = z := ⟨_, rfl⟩
      replace ch1 : w2.cell? ⟨g1, ch, none⟩ = some (.int .i64 z) := by rw [← hz, ← hch]; exact ch1
      rw [hch] at hcl ch2 HM
      rw [hz] at HM
      generalize a k = ak at *
      generalize (2 : Nat) ^ n = N at *
      have zc : (ch : Int) < (N : Int) := by omega
      have zk : (k : Int) < (N : Int) := by omega
      clear ha hch hz
      go_wp2
      refine wp_region_still_tail 18 Tryz.mixed (by kernel_rfl) ?_
      simp only [List.take_succ_cons, List.take_zero, List.drop_succ_cons, List.drop_zero]
      change wpStill _ _ (World.drew _) _ _ _
      iterate 9 still_step
      still_call (HSL.out)
      iterate 8 still_step
      refine wpStill_nil ?_
      go_wp2
      obtain ⟨w3, hw3⟩ : ∃ w3, (w2.setCell ⟨g2, k, none⟩ (.int .i64 z)).drew = w3 := ⟨_, rfl⟩
      have S3 : Step (fun i => i = g2) w2 w3 := by rw [← hw3]; exact ((Step.refl (fun i => i = g2) w2).setCell ⟨g2, k, none⟩ (.int .i64 z) (.inl rfl)).drew
      rw [hw3]
      have hfl := World.block_lt_of_cell? w2 _ c2
      have hgl := World.block_lt_of_cell? w2 _ ch1
      have d2 := S3.cell c2 n2''
      have d3 := S3.cell c3 n2''
      have e1 := S3.cell ch1 n3
      have e2 := (S3.frozen (p := ⟨g1, ch, none⟩) hgl n3).trans ch2
      have ez := (S3.frozen (p := ⟨f, 2, none⟩) hfl n2'').trans cz
      have HM2 := hidden (show Fi ((w3.setCell ⟨g1, ch, none⟩ (.int .i64 (k : Int))).setCell ⟨f, 2, none⟩ (.int .i64 ((k + 1 : Nat) : Int))) f pv P g1 g2 n at' (k + 1) by
        rw [← hw3]; exact HM.out.drewN 1)
      have HT3 := hidden (show Step (Fs f g1 g2) w w3 from HT.out.2.trans S3 (fun i hi => .inl (.inr (.inr hi))))
      clear hw3 S3 c2 c3 c4 ch1 ch2 cz ca1 ca2 HM HT HSL
      refine wp_region_still_tail 10 Tryz.mixed (by kernel_rfl) ?_
      simp only [List.take_succ_cons, List.take_zero, List.drop_succ_cons, List.drop_zero]
      change wpStill _ _ (World.drew _) _ _ _
      iterate 10 still_step
      refine wpStill_nil ?_
      go_wp2
      have ec : (k : Int) + 1 = ((k + 1 : Nat) : Int) := by omega
      rw [ec]
      refine ⟨⟨k + 1, by omega, by omega, hidden ⟨HM2.out.drewN 1, ?_⟩⟩, ?_⟩
      · exact ((HT3.out.setCell _ _ (.inl (.inr (.inl rfl)))).setCell _ _ (.inl (.inl rfl))).drew
      · have hk9 : knOf f ((w3.setCell ⟨g1, ch, none⟩ (.int .i64 (k : Int))).setCell ⟨f, 2, none⟩ (.int .i64 ((k + 1 : Nat) : Int))).drew = k + 1 := knOf_eq (HM2.out.drewN 1).c2
        rw [HK.out, hk9]
        omega
    · have z1 : ¬ (k : Int) < E := by omega
      have hkk : k = K := by omega
      subst hkk
      go_wp2
      go_end0
      exact ⟨⟨_, rfl⟩, HS.out⟩

end Go.Proofs.YtcgjmkcigmmjjaaGreatDoor

namespace Go.Proofs.YtcgjmkcigmmjjaaGreatDoor
open Go.RowKit
set_option maxRecDepth 100000
theorem Fi.low {w : World} {f : Nat} {pv : Value} {P : List Nat} {g1 g2 n at' kn : Nat} (h : Fi w f pv P g1 g2 n at' kn) :
    f < w.heap.size ∧ g1 < w.heap.size ∧ g2 < w.heap.size ∧ ∀ a k c, pv = .slice (some a) k c → P ≠ [] → a.block < w.heap.size := by
  obtain ⟨a, ha, _⟩ := h.ah
  refine ⟨World.block_lt_of_cell? w _ h.c0, h.hd.lt (Nat.two_pow_pos n), ha.lt (Nat.two_pow_pos n), fun x k c e hP => ?_⟩
  obtain ⟨ao, cap, e2, _, h2⟩ := h.rd
  rw [e] at e2
  injection e2 with e3
  obtain ⟨b, off, rfl, hc⟩ := h2 x e3.symm hP
  exact World.block_lt_of_cell? w _ (hc 0 (List.length_pos_iff.2 hP))

/-- A new block may be written beside the finder. -/
theorem Fi.new {w w1 w2 : World} {f : Nat} {pv : Value} {P : List Nat} {g1 g2 n at' kn at2 kn2 : Nat} (h : Fi w f pv P g1 g2 n at' kn) (h1 : Fi w1 f pv P g1 g2 n at2 kn2) {B : Nat} (hB : w.heap.size ≤ B) (hs : Step (fun k => k = B) w1 w2) : Fi w2 f pv P g1 g2 n at2 kn2 := by
  obtain ⟨l1, l2, l3, l4⟩ := h.low
  exact h1.step hs (by omega) (by omega) (by omega) (fun a k c e hP => by have := l4 a k c e hP; omega)

theorem Fi.told {w : World} {f : Nat} {pv : Value} {P : List Nat} {g1 g2 n at' kn : Nat} (h : Fi w f pv P g1 g2 n at' kn) (k : Nat) : Fi (w.setCell ⟨f, 1, none⟩ (.int .i64 (k : Int))) f pv P g1 g2 n k kn := by
  obtain ⟨n1, n2, n3⟩ := h.ne
  obtain ⟨a, ha, hq⟩ := h.ah
  have S : Step (fun k => k = f) w (w.setCell ⟨f, 1, none⟩ (.int .i64 (k : Int))) := (Step.refl _ _).setCell _ _ (.inl rfl)
  have oth : ∀ j v, j ≠ 1 → w.cell? ⟨f, j, none⟩ = some v → (w.setCell ⟨f, 1, none⟩ (.int .i64 (k : Int))).cell? ⟨f, j, none⟩ = some v := fun j v hj hv => by
    rw [World.cell?_setCell_other _ _ _ _ (by intro e; apply hj; injection e with _ e2; omega)]; exact hv
  exact ⟨oth 0 _ (by omega) h.c0, World.cell?_setCell_same _ _ _ h.c1, oth 2 _ (by omega) h.c2, oth 3 _ (by omega) h.c3, oth 4 _ (by omega) h.c4, oth 5 _ (by omega) h.c5, fun j hj => by rw [World.frozen?_setCell]; exact h.fz j hj,
    h.rd.step S (fun a k c e hP => by have := h.off a k c e hP; omega), h.hd.step S (fun e => n1 e.symm), ⟨a, ha.step S (fun e => n2 e.symm), hq⟩, h.ne, h.off, h.len, h.byte, h.cp⟩

theorem KD {w3 wx : World} {B1 f : Nat} {x y : Value} (h : Step (fun _ => False) w3 wx ∧ wx.cell? ⟨B1, 1, none⟩ = some x ∧ wx.cell? ⟨f, 1, none⟩ = some y) : Step (fun _ => False) w3 wx.drew ∧ wx.drew.cell? ⟨B1, 1, none⟩ = some x ∧ wx.drew.cell? ⟨f, 1, none⟩ = some y := ⟨h.1.drew, h.2.1, h.2.2⟩

theorem run_fieldTk (t : Tk) (u : World) : (Instr.field 62 (tkV t) 1).run Tryz.prog u = .ok (.int .i64 (t.n : Int)) u := by
  first
  | rfl
  | simp [Instr.field, go_sem, Tryz.underlying62]
  | (simp [Instr.field, go_sem]; done)

theorem KM {w3 wx wy : World} {B1 f : Nat} {x y : Value} (h : Step (fun _ => False) w3 wx ∧ wx.cell? ⟨B1, 1, none⟩ = some x ∧ wx.cell? ⟨f, 1, none⟩ = some y) (hs : Step (fun _ => False) wx wy) : Step (fun _ => False) w3 wy ∧ wy.cell? ⟨B1, 1, none⟩ = some x ∧ wy.cell? ⟨f, 1, none⟩ = some y := ⟨h.1.made hs, hs.cell h.2.1 (fun h => h), hs.cell h.2.2 (fun h => h)⟩

set_option maxHeartbeats 8000000 in
theorem fnext_any (w : World) (f : Nat) (pv : Value) (P : List Nat) (g1 g2 n at' : Nat) (h : Fi w f pv P g1 g2 n at' (min at' (P.length - 2))) (ha : at' < P.length) :
    Calls Tryz.prog 30 #[.pointer (some ⟨f, 0, none⟩)] w fun e w' => e = .returned (tkV (nxt P n at')) ∧ Fi w' f pv P g1 g2 n (at' + max 1 (nxt P n at').n) (min (at' + max 1 (nxt P n at').n) (P.length - 2)) ∧ Step (Fs f g1 g2) w w' := by
  have hl := h.len
  have hp := pow_le_24 n (by omega)
  have HLOW := hidden h.low
  have H := hidden h
  have HAT := hidden (nxt_at P n at' ha h.byte)
  have hT := mat_n P n at'
  obtain ⟨T, hT0⟩ : ∃ T, mat P n at' = T := ⟨_, rfl⟩
  have HT0 := hidden hT0
  obtain ⟨R, hR⟩ : ∃ R, nxt P n at' = R := ⟨_, rfl⟩
  rw [hT0] at hT
  have HR := hidden hR
  rw [hR] at HAT ⊢
  obtain ⟨m, hm⟩ : ∃ m, P.length = m := ⟨_, rfl⟩
  have Hm := hidden hm
  rw [hm] at ha hT ⊢
  have HAT2 := hidden (show at' + max 1 R.n ≤ m by have := HAT.out.2.2; rw [Hm.out] at this; exact this)
  have HSZ := hidden (fun wx => size_any R wx)
  obtain ⟨sz, hsz⟩ : ∃ sz, max 1 R.n = sz := ⟨_, rfl⟩
  rw [hsz] at HSZ HAT2 ⊢
  have a2m := HAT2.out
  have szp : 1 ≤ sz := by omega
  clear hsz
  have hlz : m ≤ 16777216 := by omega
  obtain ⟨W0, hW0⟩ : ∃ W0, w.alloc (.cells #[.int .u8 0, .int .i64 0, .int .i64 0] 62) = W0 := ⟨_, rfl⟩
  obtain ⟨B0, hB0⟩ : ∃ B0, w.heap.size = B0 := ⟨_, rfl⟩
  have S0 : Step (fun _ => False) w W0 := by rw [← hW0]; exact (Step.refl _ _).alloc _
  have HS0 := hidden S0
  have HV0 := hidden (show Sv W0 B0 (tkL ⟨0, 0, 0⟩) by rw [← hW0, ← hB0]; exact Sv.new w _ _)
  have HF0 := hidden (h.made S0)
  have hz0 : B0 < W0.heap.size := HV0.out.lt (by simp [tkL])
  have HM := hidden (fmatch_any W0 f pv P g1 g2 n at' _ HF0.out at' (by omega) (by omega))
  rw [hT0] at HM
  have c1 := h.c1
  have d1 := S0.cell c1 (fun h => h)
  have hfl := h.low.1
  have HB0 := hidden hB0
  rw [hB0] at hfl
  clear h hl hR S0 hT0 c1 hm
  go_enter Tryz.func30, Tryz.ntmps30
  go_wp2_with fail
  refine HM.out.mono ?_
  rintro e w1 ⟨rfl, S1⟩
  obtain ⟨W1, hW1⟩ : ∃ W1, w1.alloc (.cells #[.int .u8 0, .int .i64 0, .int .i64 0] 62) = W1 := ⟨_, rfl⟩
  obtain ⟨B1, hB1⟩ : ∃ B1, w1.heap.size = B1 := ⟨_, rfl⟩
  have S1' : Step (fun _ => False) w1 W1 := by rw [← hW1]; exact (Step.refl _ _).alloc _
  have HV1 := hidden (show Sv W1 B1 (tkL ⟨0, 0, 0⟩) by rw [← hW1, ← hB1]; exact Sv.new w1 _ _)
  have HS1 := hidden (S1.made S1')
  have hz1 : B0 < B1 := by have := S1.size; omega
  have HF1 := hidden (HF0.out.made HS1.out)
  have HV01 := hidden (HV0.out.made HS1.out)
  clear S1 S1' HM
  go_wp2_with (refine store_sv B1 (tkL ⟨0, 0, 0⟩) (tkL T) rfl Tryz.infoTk (tkL_one _) rfl rfl HV1.out ?_)
  intro w2 S2 V2
  have HV2 := hidden V2
  have HF2 := hidden (H.out.new HF1.out (by omega) S2)
  have HV02 := hidden (HV01.out.step S2 (by omega))
  have HS2 := hidden (show Step (Fs f g1 g2) w w2 from ((HS0.out.made HS1.out).mono (fun _ q => q.elim)).trans S2 (fun i hi => .inr (by have := HB0.out; omega)))
  have HL := hidden (learn_any w2 f pv P g1 g2 n at' _ HF2.out (at' + 1) (by have := Hm.out; omega) (by omega))
  have e1 : ((at' + 1 : Nat) : Int) = (at' : Int) + 1 := by omega
  rw [e1] at HL
  have d2 := HF2.out.c1
  clear S2 V2 hW1 hB1 hW0 hB0
  go_wp2_with fail
  refine HL.out.mono ?_
  rintro e w3 ⟨⟨u3, rfl⟩, F3, S3⟩
  have HF3 := hidden F3
  have HS3 := hidden (HS2.out.trans S3 (fun i hi => .inl hi))
  obtain ⟨l1, l2, l3, _⟩ := HLOW.out
  have nB1 : ¬ Fs f g1 g2 B1 := by unfold Fs; have := HB0.out; omega
  have nB0 : ¬ Fs f g1 g2 B0 := by unfold Fs; have := HB0.out; omega
  have HNB := hidden (And.intro nB0 nB1)
  have HV3 := hidden (HV2.out.step S3 nB1)
  have HV03 := hidden (HV02.out.step S3 nB0)
  have hz3 := S3.size
  have d3 := F3.c1
  have s0 := (HV3.out 0 _ rfl).1
  have s1 := (HV3.out 1 _ rfl).1
  have s2 := (HV3.out 2 _ rfl).1
  have HNX := hidden (show R = (if 0 < T.n ∧ T.n < 258 ∧ T.n < (mat P n (at' + 1)).n then ⟨P.getD at' 0, 0, 0⟩ else T) by rw [← HR.out, ← HT0.out]; rfl)
  clear F3 S3 nB1 nB0 l1 l2 l3 HL e1
  obtain ⟨M2, hM2⟩ : ∃ M2, (mat P n (at' + 1)).n = M2 := ⟨_, rfl⟩
  obtain ⟨D, hD⟩ : ∃ D, decide (0 < T.n ∧ T.n < 258 ∧ T.n < M2) = D := ⟨_, rfl⟩
  have HD := hidden hD
  have HNX2 := hidden (show (D = true → R = ⟨P.getD at' 0, 0, 0⟩) ∧ (D = false → R = T) by
    have h := HNX.out
    rw [hM2] at h
    refine ⟨fun e => ?_, fun e => ?_⟩
    · rw [e] at hD
      rw [h, if_pos (of_decide_eq_true hD)]
    · rw [e] at hD
      rw [h, if_neg (of_decide_eq_false hD)])
  have HM2 := hidden (fun (hz : 0 < T.n) => (fmatch_any w3 f pv P g1 g2 n at' _ HF3.out (at' + 1) (by have := Hm.out; omega) (by omega)))
  have HMX := hidden (show ∀ wx, Step (fun _ => False) w3 wx → 0 < T.n → Calls Tryz.prog 56 #[.pointer (some ⟨f, 0, none⟩), .int .i64 ((at' : Int) + 1)] wx fun e w' => e = .returned (tkV (mat P n (at' + 1))) ∧ Step (fun _ => False) wx w' from fun wx hs hz => by
    have := fmatch_any wx f pv P g1 g2 n at' _ (HF3.out.made hs) (at' + 1) (by have := Hm.out; omega) (by omega)
    rwa [show ((at' + 1 : Nat) : Int) = (at' : Int) + 1 by omega] at this)
  clear HM2 HNX hD d1 d2
  obtain ⟨T2, hT2⟩ : ∃ T2, mat P n (at' + 1) = T2 := ⟨_, rfl⟩
  rw [hT2] at HMX hM2
  clear hT2
  subst hM2
  go_upto_region 3 with fail
  go_cut [37] (fun s37 wx => s37 = .bool D ∧ Hid (Step (fun _ => False) w3 wx))
  case first =>
    clear HLOW H HT0 HAT HR hT HAT2 HSZ a2m szp HS0 HV0 HF0 hz0 hfl HB0 HV1 HS1 hz1 HF1 HV01 HV2 HF2 HV02 HS2 HF3 HS3 HNB HV3 HV03 hz3 HNX2 Hm
    by_cases hn0 : T.n = 0
    · skip
      have HDf := hidden (show D = false by rw [← HD.out]; exact decide_eq_false (by omega))
      have hd : decide ((0 : Int) < (T.n : Int)) = false := decide_eq_false (by omega)
      have hd' : ¬ (0 : Int) < (T.n : Int) := by omega
      go_wp2_with fail
      go_quiet (fail)
      go_wp2_with fail
      go_meet
      case rel => exact ⟨by rw [HDf.out], (Step.refl _ _).drewN _⟩
    · by_cases hn1 : T.n < 258
      · have hd : (0 : Int) < (T.n : Int) := by omega
        have hd2 : (T.n : Int) < 258 := by omega
        have HMY := hidden (fun wx hs => HMX.out wx hs (by omega))
        by_cases hn2 : T.n < T2.n
        · skip
          have HDt := hidden (show D = true by rw [← HD.out]; exact decide_eq_true ⟨by omega, hn1, hn2⟩)
          have hd3 : (T.n : Int) < (T2.n : Int) := by omega
          have e0 : decide (0 < T.n) = true := decide_eq_true (by omega)
          have e1 : decide (T.n < 258) = true := decide_eq_true hn1
          have e2 : decide (T.n < T2.n) = true := decide_eq_true hn2
          have e0' : 0 < T.n := by omega
          clear HMX HD hn0
          have k0 : Step (fun _ => False) w3 w3 := Step.refl _ _
          have hfd : ∀ u, (Instr.field 62 (tkV T2) 1).run Tryz.prog u = .ok (.int .i64 (T2.n : Int)) u := fun u => run_fieldTk T2 u
          have hwr : IntKind.i64.wrap ((at' : Int) + 1) = (at' : Int) + 1 := wrap_i64_id _ (by omega) (by omega)
          go_wp2_with fail
          go_region_held3 (fun wx => Step (fun _ => False) w3 wx ∧ wx.cell? ⟨B1, 1, none⟩ = some (.int .i64 (T.n : Int)) ∧ wx.cell? ⟨f, 1, none⟩ = some (.int .i64 (at' : Int))) (first | assumption | exact ⟨by assumption, by assumption, by assumption⟩ | exact KD ⟨by assumption, by assumption, by assumption⟩ | exact KD (by assumption)) (first | (go_at_call 56; with_reducible refine Calls.mono (HMY.out _ ?_) ?_; (first | assumption | exact And.left (by assumption)); rintro e w4 ⟨rfl, S4⟩; have hk4 := KM (by first | assumption | exact ⟨by assumption, by assumption, by assumption⟩) S4; clear S4; obtain ⟨k41, k42, k43⟩ := hk4))
          all_goals
            go_wp2_with fail
            go_meet
            case rel => exact ⟨by rw [HDt.out], by assumption⟩
        · skip
          have HDt := hidden (show D = false by rw [← HD.out]; exact decide_eq_false (by omega))
          have hd3 : ¬ (T.n : Int) < (T2.n : Int) := by omega
          have e0 : decide (0 < T.n) = true := decide_eq_true (by omega)
          have e1 : decide (T.n < 258) = true := decide_eq_true hn1
          have e2 : decide (T.n < T2.n) = false := decide_eq_false hn2
          have e0' : 0 < T.n := by omega
          clear HMX HD hn0
          have k0 : Step (fun _ => False) w3 w3 := Step.refl _ _
          have hfd : ∀ u, (Instr.field 62 (tkV T2) 1).run Tryz.prog u = .ok (.int .i64 (T2.n : Int)) u := fun u => run_fieldTk T2 u
          have hwr : IntKind.i64.wrap ((at' : Int) + 1) = (at' : Int) + 1 := wrap_i64_id _ (by omega) (by omega)
          go_wp2_with fail
          go_region_held3 (fun wx => Step (fun _ => False) w3 wx ∧ wx.cell? ⟨B1, 1, none⟩ = some (.int .i64 (T.n : Int)) ∧ wx.cell? ⟨f, 1, none⟩ = some (.int .i64 (at' : Int))) (first | assumption | exact ⟨by assumption, by assumption, by assumption⟩ | exact KD ⟨by assumption, by assumption, by assumption⟩ | exact KD (by assumption)) (first | (go_at_call 56; with_reducible refine Calls.mono (HMY.out _ ?_) ?_; (first | assumption | exact And.left (by assumption)); rintro e w4 ⟨rfl, S4⟩; have hk4 := KM (by first | assumption | exact ⟨by assumption, by assumption, by assumption⟩) S4; clear S4; obtain ⟨k41, k42, k43⟩ := hk4))
          all_goals
            go_wp2_with fail
            go_meet
            case rel => exact ⟨by rw [HDt.out], by assumption⟩
      · skip
        have HDf := hidden (show D = false by rw [← HD.out]; exact decide_eq_false (by omega))
        have hd : decide ((0 : Int) < (T.n : Int)) = true := decide_eq_true (by omega)
        have hd' : (0 : Int) < (T.n : Int) := by omega
        have hd2 : decide ((T.n : Int) < 258) = false := decide_eq_false (by omega)
        have hd2' : ¬ (T.n : Int) < 258 := by omega
        have hd4 : decide (T.n < 258) = false := decide_eq_false hn1
        have hd5 : decide (0 < T.n) = true := decide_eq_true (by omega)
        go_wp2_with fail
        go_quiet (fail)
        go_wp2_with fail
        go_meet
        case rel => exact ⟨by rw [HDf.out], (Step.refl _ _).drewN _⟩
  case rest =>
  obtain ⟨rfl, S4⟩ := hcut
  obtain ⟨w4, hw4⟩ : ∃ w4, wc = w4 := ⟨_, rfl⟩
  rw [hw4] at S4 ⊢
  clear hw4
  have HF4 := hidden (HF3.out.made S4)
  have HV4 := hidden (HV3.out.made S4)
  have HV04 := hidden (HV03.out.made S4)
  have HS4 := hidden (HS3.out.trans S4 (fun _ q => q.elim))
  clear S4 s0 s1 s2 d3 HMX HD
  cases D with
  | true =>
    have HRL := hidden (HNX2.out.1 rfl)
    have HSG := hidden (single_any HF4.out at' (by have := Hm.out; omega))
    obtain ⟨x0, hx0⟩ : ∃ x0, P.getD at' 0 = x0 := ⟨_, rfl⟩
    rw [hx0] at HSG HRL
    have q1 := HF4.out.c1
    clear hx0
    go_wp2_with fail
    refine HSG.out.mono ?_
    rintro e w5 ⟨rfl, S5⟩
    have HV5 := hidden (HV4.out.made S5)
    have HF5 := hidden (HF4.out.made S5)
    have HV05 := hidden (HV04.out.made S5)
    have HS5' := hidden (HS4.out.trans S5 (fun _ q => q.elim))
    clear S5 q1
    go_wp2_with (refine store_sv B1 (tkL T) (tkL ⟨x0, 0, 0⟩) rfl Tryz.infoTk (tkL_one _) rfl rfl HV5.out ?_)
    intro w6 S6 V6
    have HV6' := hidden (show Sv w6 B1 (tkL R) by rw [HRL.out]; exact V6)
    have HF6' := hidden (H.out.new HF5.out (by have := HB0.out; omega) S6)
    have HV06' := hidden (HV05.out.step S6 (by omega))
    have HS6' := hidden (HS5'.out.trans S6 (fun i hi => .inr (by have := HB0.out; omega)))
    clear S6 V6 HRL HV5 HF5 HV05 HS5' HF4 HV4 HV04 HS4
    have t0 := (HV6'.out 0 _ rfl).1
    have t1 := (HV6'.out 1 _ rfl).1
    have t2 := (HV6'.out 2 _ rfl).1
    have x1 := HF6'.out.c1
    have xz := HF6'.out.fz 1 (by omega)
    have xl := HF6'.out.low.1
    have HX := hidden (And.intro HF6'.out (And.intro HV6'.out (And.intro HV06'.out HS6'.out)))
    have nf1 : ¬ B1 = f := fun e => HNB.out.2 (.inl e)
    have nf0 : ¬ B0 = f := fun e => HNB.out.1 (.inl e)
    go_upto_region 5 with fail
    go_cut [] (fun wx => Hid (Fi wx f pv P g1 g2 n (at' + sz) (min (at' + 1) (P.length - 2)) ∧ Sv wx B1 (tkL R) ∧ Sv wx B0 (tkL ⟨0, 0, 0⟩) ∧ Step (Fs f g1 g2) w wx))
    case first =>
      go_region_with (first | (go_at_call 59; refine (HSZ.out _).mono ?_; rintro e w5 ⟨rfl, S5⟩; have HS5 := hidden S5; have y1 := S5.cell x1 (fun h => h); have yz := (S5.frozen (p := ⟨f, 1, none⟩) xl (fun h => h)).trans xz; clear S5))
      all_goals
        rw [wrap_i64_id _ (by omega) (by omega), show (at' : Int) + (sz : Int) = ((at' + sz : Nat) : Int) by omega]
        have S45 : Step (fun _ => False) w6 w5 := ⟨HS5.out.os, HS5.out.tape, HS5.out.output, HS5.out.size, HS5.out.block⟩
        have S56 : Step (fun k => k = f) w5 (w5.setCell ⟨f, 1, none⟩ (.int .i64 ((at' + sz : Nat) : Int))) := (Step.refl (fun k => k = f) w5).setCell ⟨f, 1, none⟩ _ (.inl rfl)
        have HK := hidden (show Fi (w5.setCell ⟨f, 1, none⟩ (.int .i64 ((at' + sz : Nat) : Int))) f pv P g1 g2 n (at' + sz) (min (at' + 1) (P.length - 2)) ∧ Sv (w5.setCell ⟨f, 1, none⟩ (.int .i64 ((at' + sz : Nat) : Int))) B1 (tkL R) ∧ Sv (w5.setCell ⟨f, 1, none⟩ (.int .i64 ((at' + sz : Nat) : Int))) B0 (tkL ⟨0, 0, 0⟩) ∧ Step (Fs f g1 g2) w (w5.setCell ⟨f, 1, none⟩ (.int .i64 ((at' + sz : Nat) : Int))) from
          ⟨(HX.out.1.made S45).told (at' + sz), (HX.out.2.1.made S45).step S56 nf1, (HX.out.2.2.1.made S45).step S56 nf0, (HX.out.2.2.2.trans S45 (fun _ q => q.elim)).trans S56 (fun i hi => .inl (.inl hi))⟩)
        go_wp2_with fail
        go_meet
        exact HK.out
    case rest =>
    have HF6 := hidden hcut.1
    have HV6 := hidden hcut.2.1
    have HV06 := hidden hcut.2.2.1
    have HS6 := hidden hcut.2.2.2
    clear hcut t0 t1 t2 x1 xz xl HX
    have HL2 := hidden (learn_any wc f pv P g1 g2 n (at' + sz) _ HF6.out (at' + sz) (by have := Hm.out; omega) (by omega))
    have z1 := HF6.out.c1
    go_wp2_with fail
    refine HL2.out.mono ?_
    rintro e w7 ⟨⟨u7, rfl⟩, F7, S7⟩
    have HF7 := hidden F7
    have HV7 := hidden (HV6.out.step S7 HNB.out.2)
    have HV07 := hidden (HV06.out.step S7 HNB.out.1)
    have HS7 := hidden (HS6.out.trans S7 (fun i hi => .inl hi))
    clear F7 S7 HL2 z1
    go_wp2_with (first | (refine load_sv _ Tryz.underlying62 rfl B1 (tkL R) Tryz.infoTk rfl HV7.out ?_) | (refine store_sv B0 (tkL ⟨0, 0, 0⟩) (tkL R) rfl Tryz.infoTk (tkL_one _) rfl rfl HV07.out ?_))
    intro w8 S8 V8
    have HS8 := hidden (HS7.out.trans S8 (fun i hi => .inr (by have := HB0.out; omega)))
    have HF8 := hidden (H.out.new HF7.out (by have := HB0.out; omega) S8)
    have HV8 := hidden V8
    clear S8 V8
    go_wp2
    refine bodyPost_ret (v := tkV R) ?_ rfl ⟨rfl, by have := HF8.out; rwa [Hm.out] at this, HS8.out⟩
    have := tk_load HV8.out
    simp [results, Tryz.results30, asAddr, Act.put, this]
  | false =>
    have HRL := hidden (HNX2.out.2 rfl)
    have HV4' := hidden (show Sv w4 B1 (tkL R) by rw [HRL.out]; exact HV4.out)
    clear HRL HV4
    have t0 := (HV4'.out 0 _ rfl).1
    have t1 := (HV4'.out 1 _ rfl).1
    have t2 := (HV4'.out 2 _ rfl).1
    have x1 := HF4.out.c1
    have xz := HF4.out.fz 1 (by omega)
    have xl := HF4.out.low.1
    have HX := hidden (And.intro HF4.out (And.intro HV4'.out (And.intro HV04.out HS4.out)))
    have nf1 : ¬ B1 = f := fun e => HNB.out.2 (.inl e)
    have nf0 : ¬ B0 = f := fun e => HNB.out.1 (.inl e)
    go_upto_region 5 with fail
    go_cut [] (fun wx => Hid (Fi wx f pv P g1 g2 n (at' + sz) (min (at' + 1) (P.length - 2)) ∧ Sv wx B1 (tkL R) ∧ Sv wx B0 (tkL ⟨0, 0, 0⟩) ∧ Step (Fs f g1 g2) w wx))
    case first =>
      go_region_with (first | (go_at_call 59; refine (HSZ.out _).mono ?_; rintro e w5 ⟨rfl, S5⟩; have HS5 := hidden S5; have y1 := S5.cell x1 (fun h => h); have yz := (S5.frozen (p := ⟨f, 1, none⟩) xl (fun h => h)).trans xz; clear S5))
      all_goals
        rw [wrap_i64_id _ (by omega) (by omega), show (at' : Int) + (sz : Int) = ((at' + sz : Nat) : Int) by omega]
        have S45 : Step (fun _ => False) w4 w5 := ⟨HS5.out.os, HS5.out.tape, HS5.out.output, HS5.out.size, HS5.out.block⟩
        have S56 : Step (fun k => k = f) w5 (w5.setCell ⟨f, 1, none⟩ (.int .i64 ((at' + sz : Nat) : Int))) := (Step.refl (fun k => k = f) w5).setCell ⟨f, 1, none⟩ _ (.inl rfl)
        have HK := hidden (show Fi (w5.setCell ⟨f, 1, none⟩ (.int .i64 ((at' + sz : Nat) : Int))) f pv P g1 g2 n (at' + sz) (min (at' + 1) (P.length - 2)) ∧ Sv (w5.setCell ⟨f, 1, none⟩ (.int .i64 ((at' + sz : Nat) : Int))) B1 (tkL R) ∧ Sv (w5.setCell ⟨f, 1, none⟩ (.int .i64 ((at' + sz : Nat) : Int))) B0 (tkL ⟨0, 0, 0⟩) ∧ Step (Fs f g1 g2) w (w5.setCell ⟨f, 1, none⟩ (.int .i64 ((at' + sz : Nat) : Int))) from
          ⟨(HX.out.1.made S45).told (at' + sz), (HX.out.2.1.made S45).step S56 nf1, (HX.out.2.2.1.made S45).step S56 nf0, (HX.out.2.2.2.trans S45 (fun _ q => q.elim)).trans S56 (fun i hi => .inl (.inl hi))⟩)
        go_wp2_with fail
        go_meet
        exact HK.out
    case rest =>
    have HF6 := hidden hcut.1
    have HV6 := hidden hcut.2.1
    have HV06 := hidden hcut.2.2.1
    have HS6 := hidden hcut.2.2.2
    clear hcut t0 t1 t2 x1 xz xl HX
    have HL2 := hidden (learn_any wc f pv P g1 g2 n (at' + sz) _ HF6.out (at' + sz) (by have := Hm.out; omega) (by omega))
    have z1 := HF6.out.c1
    go_wp2_with fail
    refine HL2.out.mono ?_
    rintro e w7 ⟨⟨u7, rfl⟩, F7, S7⟩
    have HF7 := hidden F7
    have HV7 := hidden (HV6.out.step S7 HNB.out.2)
    have HV07 := hidden (HV06.out.step S7 HNB.out.1)
    have HS7 := hidden (HS6.out.trans S7 (fun i hi => .inl hi))
    clear F7 S7 HL2 z1
    go_wp2_with (first | (refine load_sv _ Tryz.underlying62 rfl B1 (tkL R) Tryz.infoTk rfl HV7.out ?_) | (refine store_sv B0 (tkL ⟨0, 0, 0⟩) (tkL R) rfl Tryz.infoTk (tkL_one _) rfl rfl HV07.out ?_))
    intro w8 S8 V8
    have HS8 := hidden (HS7.out.trans S8 (fun i hi => .inr (by have := HB0.out; omega)))
    have HF8 := hidden (H.out.new HF7.out (by have := HB0.out; omega) S8)
    have HV8 := hidden V8
    clear S8 V8
    go_wp2
    refine bodyPost_ret (v := tkV R) ?_ rfl ⟨rfl, by have := HF8.out; rwa [Hm.out] at this, HS8.out⟩
    have := tk_load HV8.out
    simp [results, Tryz.results30, asAddr, Act.put, this]

end Go.Proofs.YtcgjmkcigmmjjaaGreatDoor

namespace Go.Proofs.YtcgjmkcigmmjjaaGreatDoor
open Go.RowKit
def tkCs (ts : List Tk) : List Value := ts.flatMap tkL

theorem tkCs_snoc (ts : List Tk) (t : Tk) : tkCs (ts ++ [t]) = tkCs ts ++ tkL t := by simp [tkCs]

/-- A token's symbol; the bits behind its symbols. -/
def sL (t : Tk) : Nat := if t.n = 0 then t.c else lnS t.n

def mT (t : Tk) : Nat := if t.n = 0 then 0 else lnB t.n + dsB t.d

def dL (ts : List Tk) : List Nat := (ts.filter fun t => t.n != 0).map fun t => dsS t.d

/-- How often each symbol comes. -/
def cL (ts : List Tk) (k : Nat) : Int := ((ts.map sL).count k : Int)

def cD (ts : List Tk) (k : Nat) : Int := ((dL ts).count k : Int)

def mB (ts : List Tk) : Nat := (ts.map mT).sum

theorem cnt_snoc (l : List Nat) (x k : Nat) : (((l ++ [x]).count k : Nat) : Int) = upd (fun k => (l.count k : Int)) x ((l.count x : Int) + 1) k := by
  unfold upd
  rw [List.count_append, List.count_singleton]
  by_cases e : k = x
  · subst e; simp
  · have e2 : ¬ x = k := fun h => e h.symm
    simp [e, e2]

theorem cL_snoc (ts : List Tk) (t : Tk) : cL (ts ++ [t]) = upd (cL ts) (sL t) (cL ts (sL t) + 1) := by
  funext k
  unfold cL
  rw [List.map_append]
  exact cnt_snoc _ _ k

theorem cD_lit (ts : List Tk) (t : Tk) (h : t.n = 0) : cD (ts ++ [t]) = cD ts := by
  funext k
  simp [cD, dL, h]

theorem cD_mat (ts : List Tk) (t : Tk) (h : ¬ t.n = 0) : cD (ts ++ [t]) = upd (cD ts) (dsS t.d) (cD ts (dsS t.d) + 1) := by
  funext k
  unfold cD
  have e : dL (ts ++ [t]) = dL ts ++ [dsS t.d] := by simp [dL, h]
  rw [e]
  exact cnt_snoc _ _ k

theorem mB_snoc (ts : List Tk) (t : Tk) : mB (ts ++ [t]) = mB ts + mT t := by simp [mB]

theorem cL_bd (ts : List Tk) (k : Nat) : 0 ≤ cL ts k ∧ cL ts k ≤ ts.length := by
  unfold cL
  have := List.count_le_length (a := k) (l := ts.map sL)
  rw [List.length_map] at this
  omega

theorem cD_bd (ts : List Tk) (k : Nat) : 0 ≤ cD ts k ∧ cD ts k ≤ ts.length := by
  unfold cD dL
  have h1 := List.count_le_length (a := k) (l := (ts.filter fun t => t.n != 0).map fun t => dsS t.d)
  have h2 := List.length_filter_le (fun t : Tk => t.n != 0) ts
  rw [List.length_map] at h1
  omega

/-- The block of tokens in block b: its row of tokens tv, its bytes rv, is it the last; its counts in g1 and g2; the bits behind symbols. All of it is at B0 or above. -/
structure Bk (B0 : Nat) (w : World) (b : Nat) (tv rv : Value) (la : Bool) (g1 g2 : Nat) (ts : List Tk) (fl fd : Nat → Int) (m : Nat) : Prop where
  c0 : w.cell? ⟨b, 0, none⟩ = some tv
  c1 : w.cell? ⟨b, 1, none⟩ = some rv
  c2 : w.cell? ⟨b, 2, none⟩ = some (.bool la)
  c3 : w.cell? ⟨b, 3, none⟩ = some (.slice (some ⟨g1, 0, none⟩) 286 286)
  c4 : w.cell? ⟨b, 4, none⟩ = some (.slice (some ⟨g2, 0, none⟩) 30 30)
  c5 : w.cell? ⟨b, 5, none⟩ = some (.int .i64 (m : Int))
  fz : ∀ k, k < 6 → w.frozen? ⟨b, k, none⟩ = false
  ow : w.ownsRow 0 62 3 tv ts.length (tkCs ts)
  la' : Af w g1 286 fl
  da : Af w g2 30 fd
  ne : b ≠ g1 ∧ b ≠ g2 ∧ g1 ≠ g2
  off : ∀ k, tv.ownBlock = some k → k ≠ b ∧ k ≠ g1 ∧ k ≠ g2 ∧ B0 ≤ k
  hi : B0 ≤ b ∧ B0 ≤ g1 ∧ B0 ≤ g2

theorem Bk.step {B0 : Nat} {S : Nat → Prop} {w w' : World} {b : Nat} {tv rv : Value} {la : Bool} {g1 g2 : Nat} {ts : List Tk} {fl fd : Nat → Int} {m : Nat} (h : Bk B0 w b tv rv la g1 g2 ts fl fd m) (hs : Step S w w') (hS : ∀ k, B0 ≤ k → ¬ S k) : Bk B0 w' b tv rv la g1 g2 ts fl fd m := by
  have h1 := hS b h.hi.1
  have hb := World.block_lt_of_cell? w _ h.c0
  exact ⟨hs.cell h.c0 h1, hs.cell h.c1 h1, hs.cell h.c2 h1, hs.cell h.c3 h1, hs.cell h.c4 h1, hs.cell h.c5 h1, fun k hk => (hs.frozen (p := ⟨b, k, none⟩) hb h1).trans (h.fz k hk),
    own3_keep h.ow hs (fun k hk => hS k (h.off k hk).2.2.2), h.la'.step hs (hS g1 h.hi.2.1), h.da.step hs (hS g2 h.hi.2.2), h.ne, h.off, h.hi⟩

theorem Bk.made {B0 : Nat} {w w' : World} {b : Nat} {tv rv : Value} {la : Bool} {g1 g2 : Nat} {ts : List Tk} {fl fd : Nat → Int} {m : Nat} (h : Bk B0 w b tv rv la g1 g2 ts fl fd m) (hs : Step (fun _ => False) w w') : Bk B0 w' b tv rv la g1 g2 ts fl fd m := h.step hs (fun _ _ h => h)

theorem Bk.low {B0 : Nat} {w : World} {b : Nat} {tv rv : Value} {la : Bool} {g1 g2 : Nat} {ts : List Tk} {fl fd : Nat → Int} {m : Nat} (h : Bk B0 w b tv rv la g1 g2 ts fl fd m) : b < w.heap.size ∧ g1 < w.heap.size ∧ g2 < w.heap.size ∧ (∀ k, tv.ownBlock = some k → k < w.heap.size) := by
  refine ⟨World.block_lt_of_cell? w _ h.c0, h.la'.lt (by omega), h.da.lt (by omega), fun k hk => ?_⟩
  rcases h.ow.2 with ⟨e, _⟩ | ⟨g, cap, cur, e, hb, hgg, rest⟩
  · subst e; simp [Value.ownBlock] at hk
  · subst e
    have : g = k := by simpa [Value.ownBlock] using hk
    subst this
    exact (Array.getElem?_eq_some_iff.1 hgg).1

/-- A count of literals is stored. -/
theorem Bk.lit {B0 : Nat} {w : World} {b : Nat} {tv rv : Value} {la : Bool} {g1 g2 : Nat} {ts : List Tk} {fl fd : Nat → Int} {m : Nat} (h : Bk B0 w b tv rv la g1 g2 ts fl fd m) (j : Nat) (x : Int) : Bk B0 (w.setCell ⟨g1, j, none⟩ (.int .i64 x)) b tv rv la g1 g2 ts (upd fl j x) fd m := by
  obtain ⟨n1, n2, n3⟩ := h.ne
  have hb := World.block_lt_of_cell? w _ h.c0
  have S1 : Step (fun k => k = g1) w (w.setCell ⟨g1, j, none⟩ (.int .i64 x)) := (Step.refl _ _).setCell _ _ (.inl rfl)
  exact ⟨S1.cell h.c0 n1, S1.cell h.c1 n1, S1.cell h.c2 n1, S1.cell h.c3 n1, S1.cell h.c4 n1, S1.cell h.c5 n1, fun k hk => (S1.frozen (p := ⟨b, k, none⟩) hb n1).trans (h.fz k hk),
    own3_keep h.ow S1 (fun k hk => (h.off k hk).2.1), h.la'.set j x, h.da.step S1 (fun e => n3 e.symm), h.ne, h.off, h.hi⟩

/-- A count of distances is stored. -/
theorem Bk.dis {B0 : Nat} {w : World} {b : Nat} {tv rv : Value} {la : Bool} {g1 g2 : Nat} {ts : List Tk} {fl fd : Nat → Int} {m : Nat} (h : Bk B0 w b tv rv la g1 g2 ts fl fd m) (j : Nat) (x : Int) : Bk B0 (w.setCell ⟨g2, j, none⟩ (.int .i64 x)) b tv rv la g1 g2 ts fl (upd fd j x) m := by
  obtain ⟨n1, n2, n3⟩ := h.ne
  have hb := World.block_lt_of_cell? w _ h.c0
  have S1 : Step (fun k => k = g2) w (w.setCell ⟨g2, j, none⟩ (.int .i64 x)) := (Step.refl _ _).setCell _ _ (.inl rfl)
  exact ⟨S1.cell h.c0 n2, S1.cell h.c1 n2, S1.cell h.c2 n2, S1.cell h.c3 n2, S1.cell h.c4 n2, S1.cell h.c5 n2, fun k hk => (S1.frozen (p := ⟨b, k, none⟩) hb n2).trans (h.fz k hk),
    own3_keep h.ow S1 (fun k hk => (h.off k hk).2.2.1), h.la'.step S1 n3, h.da.set j x, h.ne, h.off, h.hi⟩

/-- A field is stored. -/
theorem fld {w : World} {b : Nat} (i : Nat) (x : Value) {j : Nat} {v : Value} (hj : j ≠ i) (h : w.cell? ⟨b, j, none⟩ = some v) : (w.setCell ⟨b, i, none⟩ x).cell? ⟨b, j, none⟩ = some v := by
  rw [World.cell?_setCell_other _ _ _ _ (by intro e; apply hj; injection e with _ e2; omega)]; exact h

theorem Bk.mor {B0 : Nat} {w : World} {b : Nat} {tv rv : Value} {la : Bool} {g1 g2 : Nat} {ts : List Tk} {fl fd : Nat → Int} {m : Nat} (h : Bk B0 w b tv rv la g1 g2 ts fl fd m) (x : Nat) : Bk B0 (w.setCell ⟨b, 5, none⟩ (.int .i64 (x : Int))) b tv rv la g1 g2 ts fl fd x := by
  obtain ⟨n1, n2, n3⟩ := h.ne
  have S1 : Step (fun k => k = b) w (w.setCell ⟨b, 5, none⟩ (.int .i64 (x : Int))) := (Step.refl _ _).setCell _ _ (.inl rfl)
  exact ⟨fld _ _ (by omega) h.c0, fld _ _ (by omega) h.c1, fld _ _ (by omega) h.c2, fld _ _ (by omega) h.c3, fld _ _ (by omega) h.c4, World.cell?_setCell_same _ _ _ h.c5, fun k hk => by rw [World.frozen?_setCell]; exact h.fz k hk,
    own3_keep h.ow S1 (fun k hk => (h.off k hk).1), h.la'.step S1 (fun e => n1 e.symm), h.da.step S1 (fun e => n2 e.symm), h.ne, h.off, h.hi⟩

theorem Bk.raw {B0 : Nat} {w : World} {b : Nat} {tv rv : Value} {la : Bool} {g1 g2 : Nat} {ts : List Tk} {fl fd : Nat → Int} {m : Nat} (h : Bk B0 w b tv rv la g1 g2 ts fl fd m) (x : Value) : Bk B0 (w.setCell ⟨b, 1, none⟩ x) b tv x la g1 g2 ts fl fd m := by
  obtain ⟨n1, n2, n3⟩ := h.ne
  have S1 : Step (fun k => k = b) w (w.setCell ⟨b, 1, none⟩ x) := (Step.refl _ _).setCell _ _ (.inl rfl)
  exact ⟨fld _ _ (by omega) h.c0, World.cell?_setCell_same _ _ _ h.c1, fld _ _ (by omega) h.c2, fld _ _ (by omega) h.c3, fld _ _ (by omega) h.c4, fld _ _ (by omega) h.c5, fun k hk => by rw [World.frozen?_setCell]; exact h.fz k hk,
    own3_keep h.ow S1 (fun k hk => (h.off k hk).1), h.la'.step S1 (fun e => n1 e.symm), h.da.step S1 (fun e => n2 e.symm), h.ne, h.off, h.hi⟩

theorem Bk.las {B0 : Nat} {w : World} {b : Nat} {tv rv : Value} {la : Bool} {g1 g2 : Nat} {ts : List Tk} {fl fd : Nat → Int} {m : Nat} (h : Bk B0 w b tv rv la g1 g2 ts fl fd m) (x : Bool) : Bk B0 (w.setCell ⟨b, 2, none⟩ (.bool x)) b tv rv x g1 g2 ts fl fd m := by
  obtain ⟨n1, n2, n3⟩ := h.ne
  have S1 : Step (fun k => k = b) w (w.setCell ⟨b, 2, none⟩ (.bool x)) := (Step.refl _ _).setCell _ _ (.inl rfl)
  exact ⟨fld _ _ (by omega) h.c0, fld _ _ (by omega) h.c1, World.cell?_setCell_same _ _ _ h.c2, fld _ _ (by omega) h.c3, fld _ _ (by omega) h.c4, fld _ _ (by omega) h.c5, fun k hk => by rw [World.frozen?_setCell]; exact h.fz k hk,
    own3_keep h.ow S1 (fun k hk => (h.off k hk).1), h.la'.step S1 (fun e => n1 e.symm), h.da.step S1 (fun e => n2 e.symm), h.ne, h.off, h.hi⟩

/-- The row of tokens has grown, and is stored. -/
theorem Bk.tok {B0 : Nat} {w w1 : World} {b : Nat} {tv rv : Value} {la : Bool} {g1 g2 : Nat} {ts ts' : List Tk} {fl fd : Nat → Int} {m : Nat} (h : Bk B0 w b tv rv la g1 g2 ts fl fd m) (v : Value) (hown : w1.ownsRow 0 62 3 v ts'.length (tkCs ts')) (hg : w.grownBy w1 tv.ownBlock) (hv : v.ownBlock = tv.ownBlock ∨ v.ownBlock = some w.heap.size) : Bk B0 (w1.setCell ⟨b, 0, none⟩ v) b v rv la g1 g2 ts' fl fd m ∧ w1.cell? ⟨b, 0, none⟩ = some tv ∧ w1.frozen? ⟨b, 0, none⟩ = false ∧ Step (fun k => B0 ≤ k) w (w1.setCell ⟨b, 0, none⟩ v) := by
  obtain ⟨n1, n2, n3⟩ := h.ne
  obtain ⟨l1, l2, l3, l4⟩ := h.low
  obtain ⟨i1, i2, i3⟩ := h.hi
  have S0 : Step (fun k => tv.ownBlock = some k) w w1 := (Step.refl _ w).grown hg (fun k hk => .inl hk)
  have hb : ¬ tv.ownBlock = some b := fun e => (h.off b e).1 rfl
  have hg1 : ¬ tv.ownBlock = some g1 := fun e => (h.off g1 e).2.1 rfl
  have hg2 : ¬ tv.ownBlock = some g2 := fun e => (h.off g2 e).2.2.1 rfl
  have S1 : Step (fun k => k = b) w1 (w1.setCell ⟨b, 0, none⟩ v) := (Step.refl _ _).setCell _ _ (.inl rfl)
  have hof : ∀ k, v.ownBlock = some k → k ≠ b ∧ k ≠ g1 ∧ k ≠ g2 ∧ B0 ≤ k := by
    intro k hk
    rcases hv with e | e
    · exact h.off k (by rw [← e]; exact hk)
    · rw [e] at hk
      have := Option.some.inj hk
      omega
  have c0 := S0.cell h.c0 hb
  refine ⟨⟨World.cell?_setCell_same _ _ _ c0, fld _ _ (by omega) (S0.cell h.c1 hb), fld _ _ (by omega) (S0.cell h.c2 hb), fld _ _ (by omega) (S0.cell h.c3 hb), fld _ _ (by omega) (S0.cell h.c4 hb), fld _ _ (by omega) (S0.cell h.c5 hb),
    fun k hk => by rw [World.frozen?_setCell]; exact (S0.frozen (p := ⟨b, k, none⟩) l1 hb).trans (h.fz k hk),
    own3_keep hown S1 (fun k hk => (hof k hk).1), (h.la'.step S0 hg1).step S1 (fun e => n1 e.symm), (h.da.step S0 hg2).step S1 (fun e => n2 e.symm), h.ne, hof, h.hi⟩, c0, (S0.frozen (p := ⟨b, 0, none⟩) l1 hb).trans (h.fz 0 (by omega)), ?_⟩
  exact (S0.mono (fun k hk => (h.off k hk).2.2.2)).trans (S1.mono (fun k hk => by omega)) (fun i hi => .inl hi)

/-- As 'tok', in the world that the row grew in. -/
theorem Bk.tok' {B0 : Nat} {w0 w w1 : World} {b : Nat} {tv rv : Value} {la : Bool} {g1 g2 : Nat} {ts ts' : List Tk} {fl fd : Nat → Int} {m : Nat} (h : Bk B0 w0 b tv rv la g1 g2 ts fl fd m) (v : Value) (hown : w1.ownsRow 0 62 3 v ts'.length (tkCs ts')) (hg : w.grownBy w1 tv.ownBlock) (hv : v.ownBlock = tv.ownBlock ∨ v.ownBlock = some w.heap.size) (hs : Step (fun _ => False) w0 w) : (Bk B0 (w1.setCell ⟨b, 0, none⟩ v) b v rv la g1 g2 ts' fl fd m ∧ Step (fun k => B0 ≤ k) w0 (w1.setCell ⟨b, 0, none⟩ v)) ∧ w1.cell? ⟨b, 0, none⟩ = some tv ∧ w1.frozen? ⟨b, 0, none⟩ = false := by
  obtain ⟨a1, a2, a3, a4⟩ := (h.made hs).tok v hown hg hv
  exact ⟨⟨a1, (hs.mono (fun _ h => h.elim)).trans a4 (fun i hi => .inl hi)⟩, a2, a3⟩

/-- Other blocks stand beside. -/
theorem sv_tok {w0 w w1 : World} {b : Nat} {tv : Value} (v : Value) (hg : w.grownBy w1 tv.ownBlock) (hs : Step (fun _ => False) w0 w) {B1 : Nat} {cs : List Value} (hV : Sv w0 B1 cs) (h1 : B1 ≠ b) (h2 : tv.ownBlock ≠ some B1) : Sv (w1.setCell ⟨b, 0, none⟩ v) B1 cs := by
  have S0 : Step (fun k => tv.ownBlock = some k) w w1 := (Step.refl _ w).grown hg (fun k hk => .inl hk)
  have S1 : Step (fun k => k = b) w1 (w1.setCell ⟨b, 0, none⟩ v) := (Step.refl _ _).setCell _ _ (.inl rfl)
  exact ((hV.made hs).step S0 h2).step S1 h1

end Go.Proofs.YtcgjmkcigmmjjaaGreatDoor

namespace Go.Proofs.YtcgjmkcigmmjjaaGreatDoor
open Go.RowKit
theorem flat3_len {α : Type} (f : α → List Value) (hf : ∀ x, (f x).length = 3) : ∀ xs : List α, (xs.flatMap f).length = 3 * xs.length
  | [] => rfl
  | x :: xs => by rw [List.flatMap_cons, List.length_append, hf, flat3_len f hf xs, List.length_cons]; omega

theorem flat3_get {α : Type} (f : α → List Value) (hf : ∀ x, (f x).length = 3) : ∀ (xs : List α) (i : Nat) (x : α) (j : Nat), xs[i]? = some x → j < 3 → (xs.flatMap f)[3 * i + j]? = (f x)[j]?
  | [], i, x, j, h, _ => by simp at h
  | y :: xs, 0, x, j, h, hj => by
    have e : y = x := by simpa using h
    subst e
    rw [List.flatMap_cons, List.getElem?_append_left (by rw [hf]; omega), show 3 * 0 + j = j by omega]
  | y :: xs, i + 1, x, j, h, hj => by
    have e : xs[i]? = some x := by simpa using h
    rw [List.flatMap_cons, List.getElem?_append_right (by rw [hf]; omega), hf, show 3 * (i + 1) + j - 3 = 3 * i + j by omega]
    exact flat3_get f hf xs i x j e hj

theorem spC_len (x : Sp) : (spC x).length = 3 := rfl

theorem tkL_len (t : Tk) : (tkL t).length = 3 := rfl

/-- Where a row of such items lies, and each of them. -/
theorem row3_at {α : Type} {w : World} {T : TypeId} {v : Value} (f : α → List Value) (hf : ∀ x, (f x).length = 3) (xs : List α) (h : w.ownsRow 0 T 3 v xs.length (xs.flatMap f)) (i : Nat) (x : α) (hx : xs[i]? = some x) :
    ∃ g cap, v = .slice (some ⟨g, 0, none⟩) xs.length cap ∧ w.rangeAt g (3 * i) (f x) := by
  have hi : i < xs.length := (List.getElem?_eq_some_iff.1 hx).1
  obtain ⟨g, cap, e⟩ := Joins.ownsRow_form h (by omega)
  subst e
  refine ⟨g, cap, rfl, fun j u hu => ?_⟩
  have hj : j < 3 := by rw [← hf x]; exact (List.getElem?_eq_some_iff.1 hu).1
  rw [h.cellAt (3 * i + j) (by omega), flat3_get f hf xs i x j hx hj]
  exact hu

theorem row3_form {α : Type} {w : World} {T : TypeId} {v : Value} (f : α → List Value) (xs : List α) (h : w.ownsRow 0 T 3 v xs.length (xs.flatMap f)) : ∃ ao cap, v = .slice ao xs.length cap := by
  rcases Joins.ownsRow_forms h with ⟨e, e0⟩ | ⟨g, cap, e⟩
  · exact ⟨none, 0, by rw [e, e0]⟩
  · exact ⟨_, cap, e⟩

/-- A heading in memory: how many lengths it tells, how many of the order; its steps xs, how often they need each symbol, their codes. -/
structure Hd (w : World) (p : Nat) (a d k : Nat) (xs : List Sp) (O C : List Int) : Prop where
  at' : ∃ sv ov vl vu, Sv w p [.int .i64 (a : Int), .int .i64 (d : Int), .int .i64 (k : Int), sv, ov, vl, vu] ∧ w.ownsRow 0 89 3 sv xs.length (spCs xs) ∧ Ri w ov O ∧ Ri w vl C ∧ Ri w vu (codes C)

theorem Hd.made {w w' : World} {p a d k : Nat} {xs : List Sp} {O C : List Int} (h : Hd w p a d k xs O C) (hs : Step (fun _ => False) w w') : Hd w' p a d k xs O C := by
  obtain ⟨sv, ov, vl, vu, h0, h1, h2, h3, h4⟩ := h.at'
  exact ⟨sv, ov, vl, vu, h0.made hs, own3_keep h1 hs (fun _ _ h => h), h2.made hs, h3.made hs, h4.made hs⟩

/-- The bits behind the symbols of steps. -/
def spB (xs : List Sp) : Nat := (xs.map fun x => x.b).sum

theorem spB_take (xs : List Sp) (i : Nat) (x : Sp) (h : xs[i]? = some x) : spB (xs.take (i + 1)) = spB (xs.take i) + x.b := by
  rw [List.take_add_one, h]
  simp [spB]

end Go.Proofs.YtcgjmkcigmmjjaaGreatDoor

namespace Go.Proofs.YtcgjmkcigmmjjaaGreatDoor
def swp (D : List Int) (i j : Nat) : List Int := (D.set i (D.getD j 0)).set j (D.getD i 0)

theorem swp_length (D : List Int) (i j : Nat) : (swp D i j).length = D.length := by simp [swp]

theorem getD_set (D : List Int) (i k : Nat) (x : Int) (hi : i < D.length) : (D.set i x).getD k 0 = if k = i then x else D.getD k 0 := by
  by_cases e : k = i
  · subst e; simp [List.getD, hi]
  · simp [List.getD, e, Ne.symm e]

theorem swp_getD (D : List Int) (i j k : Nat) (hi : i < D.length) (hj : j < D.length) : (swp D i j).getD k 0 = if k = j then D.getD i 0 else if k = i then D.getD j 0 else D.getD k 0 := by
  unfold swp
  rw [getD_set _ _ _ _ (by simpa using hj), getD_set _ _ _ _ hi]

theorem swp_perm (D : List Int) (i j : Nat) (hi : i < D.length) (hj : j < D.length) : List.Perm (swp D i j) D := by
  rw [List.perm_iff_count]
  intro a
  unfold swp
  have e1 : D.getD i 0 = D[i] := by simp [List.getD, hi]
  have e2 : D.getD j 0 = D[j] := by simp [List.getD, hj]
  rw [e1, e2, List.count_set (by simpa using hj), List.count_set hi]
  have h1 : D[i] = a → 0 < D.count a := fun e => List.count_pos_iff.2 (by rw [← e]; exact List.getElem_mem hi)
  have h2 : D[j] = a → 0 < D.count a := fun e => List.count_pos_iff.2 (by rw [← e]; exact List.getElem_mem hj)
  by_cases eij : i = j
  · subst eij
    simp only [List.getElem_set_self]
    by_cases p : D[i] = a <;> simp [p]
    have := h1 p
    omega
  · rw [List.getElem_set_ne eij]
    by_cases p : D[i] = a <;> by_cases q : D[j] = a <;> simp [p, q]
    · have := h1 p; omega
    · have := h1 p; omega

/-- How often the symbol x comes. -/
def key (O : List Int) (x : Int) : Int := O.getD x.toNat 0

/-- From place a up to b the symbols come more and more often. -/
def Sr (O D : List Int) (a b : Nat) : Prop := ∀ p q, a ≤ p → p < q → q < b → key O (D.getD p 0) ≤ key O (D.getD q 0)

/-- All are symbols. -/
def InO (O D : List Int) : Prop := ∀ x ∈ D, 0 ≤ x ∧ x.toNat < O.length

theorem InO.at {O D : List Int} (h : InO O D) {k : Nat} (hk : k < D.length) : ∃ n : Nat, D.getD k 0 = (n : Int) ∧ n < O.length := by
  have hm : D.getD k 0 ∈ D := by rw [getD_i D k hk]; exact List.getElem_mem hk
  have := h _ hm
  exact ⟨(D.getD k 0).toNat, by omega, this.2⟩

theorem InO.perm {O D D' : List Int} (h : InO O D) (p : List.Perm D' D) : InO O D' := fun x hx => h x (p.mem_iff.1 hx)

/-- Of those that come as often the one with the smaller number stands ahead. -/
def EqA (O D : List Int) : Prop := ∀ p q, p < q → q < D.length → key O (D.getD p 0) = key O (D.getD q 0) → D.getD p 0 < D.getD q 0

/-- Places are turned; two that change their order have unlike keys. -/
theorem eqA_map {O D D' : List Int} (f : Nat → Nat) (hl : D'.length = D.length) (H : ∀ k, k < D.length → D'.getD k 0 = D.getD (f k) 0) (hf : ∀ k, k < D.length → f k < D.length) (hm : ∀ p q, p < q → q < D.length → f p < f q ∨ key O (D.getD (f p) 0) ≠ key O (D.getD (f q) 0)) (h : EqA O D) : EqA O D' := by
  intro p q hpq hq he
  rw [hl] at hq
  rw [H p (by omega), H q hq] at he ⊢
  rcases hm p q hpq hq with h1 | h1
  · exact h _ _ h1 (hf q hq) he
  · exact absurd he h1

/-- D' is D, from place a up to b sorted anew. -/
structure Srt (O D : List Int) (a b : Nat) (D' : List Int) : Prop where
  perm : List.Perm D' D
  out : ∀ k, k < a ∨ b ≤ k → D'.getD k 0 = D.getD k 0
  sr : Sr O D' a b
  stb : EqA O D → EqA O D'

/-- D' is D but for places from a up to b. -/
structure Mix (O D : List Int) (a b : Nat) (D' : List Int) : Prop where
  perm : List.Perm D' D
  out : ∀ k, k < a ∨ b ≤ k → D'.getD k 0 = D.getD k 0
  stb : EqA O D → EqA O D'

theorem Mix.refl (O D : List Int) (a b : Nat) : Mix O D a b D := ⟨List.Perm.refl _, fun _ _ => rfl, fun h => h⟩

theorem Mix.trans {O D D' D'' : List Int} {a b : Nat} (h : Mix O D a b D') (h2 : Mix O D' a b D'') : Mix O D a b D'' := ⟨h2.perm.trans h.perm, fun k hk => (h2.out k hk).trans (h.out k hk), fun q => h2.stb (h.stb q)⟩

theorem Mix.wide {O D D' : List Int} {a b a' b' : Nat} (h : Mix O D a b D') (ha : a' ≤ a) (hb : b ≤ b') : Mix O D a' b' D' := ⟨h.perm, fun k hk => h.out k (by omega), h.stb⟩

/-- Two neighbours change places. -/
def swJ (j k : Nat) : Nat := if k = j - 1 then j else if k = j then j - 1 else k

theorem Mix.swp {O D : List Int} {a b j : Nat} (hj : j < D.length) (h1 : a < j ∧ j < b) (hk : key O (D.getD j 0) < key O (D.getD (j - 1) 0)) : Mix O D a b (swp D j (j - 1)) :=
  ⟨swp_perm D j (j - 1) hj (by omega), fun k hk => by rw [swp_getD D j (j - 1) k hj (by omega), if_neg (by omega), if_neg (by omega)], by
    refine eqA_map (swJ j) (swp_length _ _ _) (fun k _ => ?_) (fun k hk => ?_) (fun p q hpq hq => ?_)
    · rw [swp_getD D j (j - 1) k hj (by omega)]
      unfold swJ
      repeat' split
      all_goals rfl
    · unfold swJ
      repeat' split
      all_goals omega
    · by_cases e : p = j - 1 ∧ q = j
      · right
        have e1 : swJ j p = j := by unfold swJ; rw [if_pos e.1]
        have e2 : swJ j q = j - 1 := by unfold swJ; rw [if_neg (by omega), if_pos e.2]
        rw [e1, e2]
        omega
      · left
        unfold swJ
        repeat' split
        all_goals omega⟩

/-- The first of the loop within: all is sorted but for what stands at j. -/
def Sunk (O D : List Int) (a i j : Nat) : Prop := ∀ p q, a ≤ p → p < q → q ≤ i → q ≠ j → key O (D.getD p 0) ≤ key O (D.getD q 0)

theorem Sunk.start {O D : List Int} {a i : Nat} (h : Sr O D a i) : Sunk O D a i i := fun p q h1 h2 h3 h4 => h p q h1 h2 (by omega)

theorem Sunk.stop {O D : List Int} {a i : Nat} (h : Sunk O D a i a) : Sr O D a (i + 1) := fun p q h1 h2 h3 => h p q h1 h2 (by omega) (by omega)

theorem Sunk.stop' {O D : List Int} {a i j : Nat} (h : Sunk O D a i j) (hj : a < j) (hk : key O (D.getD (j - 1) 0) ≤ key O (D.getD j 0)) : Sr O D a (i + 1) := by
  intro p q h1 h2 h3
  by_cases e : q = j
  · subst e
    by_cases e2 : p = q - 1
    · subst e2; exact hk
    · exact Int.le_trans (h p (q - 1) h1 (by omega) (by omega) (by omega)) hk
  · exact h p q h1 h2 (by omega) e

theorem Sunk.next {O D : List Int} {a i j : Nat} (h : Sunk O D a i j) (hj : a < j) (hji : j ≤ i) (hi : i < D.length) (hk : key O (D.getD j 0) < key O (D.getD (j - 1) 0)) : Sunk O (swp D j (j - 1)) a i (j - 1) := by
  intro p q h1 h2 h3 h4
  rw [swp_getD _ _ _ _ (by omega) (by omega), swp_getD _ _ _ _ (by omega) (by omega)]
  rw [if_neg h4]
  by_cases eq : q = j
  · subst eq
    rw [if_pos rfl]
    by_cases ep : p = q - 1
    · rw [if_pos ep]; omega
    · rw [if_neg ep, if_neg (by omega)]
      exact h p (q - 1) h1 (by omega) (by omega) (by omega)
  · rw [if_neg eq]
    by_cases ep : p = j - 1
    · rw [if_pos ep]; exact h j q (by omega) (by omega) h3 eq
    · rw [if_neg ep]
      by_cases ep2 : p = j
      · rw [if_pos ep2]; exact h (j - 1) q (by omega) (by omega) h3 eq
      · rw [if_neg ep2]; exact h p q h1 h2 h3 eq

end Go.Proofs.YtcgjmkcigmmjjaaGreatDoor

namespace Go.Proofs.YtcgjmkcigmmjjaaGreatDoor
def posTo (O : List Int) (k : Nat) : List Int := ((List.range k).filter fun i => decide (0 < O.getD i 0)).map fun (i : Nat) => (i : Int)

theorem posTo_zero (O : List Int) : posTo O 0 = [] := rfl

theorem posTo_yes (O : List Int) (k : Nat) (h : 0 < O.getD k 0) : posTo O (k + 1) = posTo O k ++ [(k : Int)] := by
  unfold posTo
  rw [List.range_succ, List.filter_append, List.map_append]
  simp only [List.filter_cons, List.filter_nil, decide_eq_true h, if_true, List.map_cons, List.map_nil]

theorem posTo_no (O : List Int) (k : Nat) (h : ¬ 0 < O.getD k 0) : posTo O (k + 1) = posTo O k := by
  unfold posTo
  rw [List.range_succ, List.filter_append, List.map_append]
  simp only [List.filter_cons, List.filter_nil, decide_eq_false h, Bool.false_eq_true, if_false, List.map_nil, List.append_nil]

theorem posTo_length (O : List Int) (k : Nat) : (posTo O k).length ≤ k := by
  unfold posTo
  rw [List.length_map]
  exact Nat.le_trans (List.length_filter_le _ _) (by simp)

theorem posTo_mem (O : List Int) (k : Nat) (x : Int) : x ∈ posTo O k ↔ ∃ i : Nat, x = (i : Int) ∧ i < k ∧ 0 < O.getD i 0 := by
  unfold posTo
  simp only [List.mem_map, List.mem_filter, List.mem_range, decide_eq_true_eq]
  constructor
  · rintro ⟨i, ⟨h1, h2⟩, rfl⟩; exact ⟨i, rfl, h1, h2⟩
  · rintro ⟨i, rfl, h1, h2⟩; exact ⟨i, ⟨h1, h2⟩, rfl⟩

theorem posTo_in (O : List Int) (k : Nat) (h : k ≤ O.length) : InO O (posTo O k) := by
  intro x hx
  obtain ⟨i, rfl, h1, _⟩ := (posTo_mem O k x).1 hx
  exact ⟨by omega, by omega⟩

/-- Each is 0 to 2^20. -/
def oftB (O : List Int) : Bool := O.all fun x => decide (0 ≤ x) && decide (x ≤ 1048576)

theorem oftB_iff (O : List Int) : oftB O = true ↔ ∀ x ∈ O, 0 ≤ x ∧ x ≤ 1048576 := by
  unfold oftB
  simp [List.all_eq_true]

/-- May lengths be asked for? -/
def mayB (O : List Int) (m : Int) : Bool := decide (O.length ≤ 320) && decide (1 ≤ m) && decide (m ≤ 15) && oftB O && decide ((posTo O O.length).length ≤ 2 ^ m.toNat)

theorem mayB_iff (O : List Int) (m : Int) : mayB O m = true ↔ O.length ≤ 320 ∧ 1 ≤ m ∧ m ≤ 15 ∧ oftB O = true ∧ (posTo O O.length).length ≤ 2 ^ m.toNat := by
  unfold mayB
  simp [and_assoc]

theorem mayB_not {O : List Int} {m : Int} (h : ¬ (O.length ≤ 320 ∧ 1 ≤ m ∧ m ≤ 15 ∧ oftB O = true ∧ (posTo O O.length).length ≤ 2 ^ m.toNat)) : mayB O m = false := by
  cases e : mayB O m with
  | false => rfl
  | true => exact absurd ((mayB_iff O m).1 e) h

theorem oft_bad {O : List Int} {k : Nat} (hk : k < O.length) (h : ¬ (0 ≤ O.getD k 0 ∧ O.getD k 0 ≤ 1048576)) : ¬ oftB O = true := by
  intro e
  refine h ((oftB_iff O).1 e (O.getD k 0) ?_)
  rw [getD_i O k hk]
  exact List.getElem_mem hk

def oftTo (O : List Int) (k : Nat) : Prop := ∀ j, j < k → 0 ≤ O.getD j 0 ∧ O.getD j 0 ≤ 1048576

theorem oftTo_all {O : List Int} (h : oftTo O O.length) : oftB O = true := by
  rw [oftB_iff]
  intro x hx
  obtain ⟨j, hj, rfl⟩ := List.mem_iff_getElem.1 hx
  have := h j hj
  rwa [getD_i O j hj] at this

theorem oftTo_succ {O : List Int} {k : Nat} (h : oftTo O k) (h2 : 0 ≤ O.getD k 0 ∧ O.getD k 0 ≤ 1048576) : oftTo O (k + 1) := by
  intro j hj
  by_cases e : j = k
  · rw [e]; exact h2
  · exact h j (by omega)

end Go.Proofs.YtcgjmkcigmmjjaaGreatDoor

namespace Go.Proofs.YtcgjmkcigmmjjaaGreatDoor
/-- How many bits the first k take. -/
def csum (A B : List Int) : Nat → Int
  | 0 => 0
  | k + 1 => csum A B k + A.getD k 0 * B.getD k 0

theorem prod_bd (x y : Int) (h1 : -1073741824 ≤ x) (h2 : x ≤ 1073741824) (h3 : -1048576 ≤ y) (h4 : y ≤ 1048576) : -1125899906842624 ≤ x * y ∧ x * y ≤ 1125899906842624 := by
  have p1 : 0 ≤ (1073741824 - x) * (1048576 - y) := Int.mul_nonneg (by omega) (by omega)
  have p2 : 0 ≤ (1073741824 + x) * (1048576 + y) := Int.mul_nonneg (by omega) (by omega)
  have p3 : 0 ≤ (1073741824 - x) * (1048576 + y) := Int.mul_nonneg (by omega) (by omega)
  have p4 : 0 ≤ (1073741824 + x) * (1048576 - y) := Int.mul_nonneg (by omega) (by omega)
  simp only [Int.add_mul, Int.sub_mul, Int.mul_add, Int.mul_sub] at p1 p2 p3 p4
  generalize x * y = z at *
  omega

/-- Bounds of both rows. -/
def Cb (A B : List Int) : Prop := (∀ k, k < A.length → -1073741824 ≤ A.getD k 0 ∧ A.getD k 0 ≤ 1073741824) ∧ (∀ k, k < B.length → -1048576 ≤ B.getD k 0 ∧ B.getD k 0 ≤ 1048576)

theorem csum_bd (A B : List Int) (h : Cb A B) : ∀ k, k ≤ A.length → k ≤ B.length → -1125899906842624 * (k : Int) ≤ csum A B k ∧ csum A B k ≤ 1125899906842624 * (k : Int)
  | 0, _, _ => by simp [csum]
  | k + 1, h1, h2 => by
    have ih := csum_bd A B h k (by omega) (by omega)
    have a := h.1 k (by omega)
    have b := h.2 k (by omega)
    have p := prod_bd _ _ a.1 a.2 b.1 b.2
    simp only [csum]
    generalize A.getD k 0 * B.getD k 0 = z at *
    omega

end Go.Proofs.YtcgjmkcigmmjjaaGreatDoor

namespace Go.Proofs.YtcgjmkcigmmjjaaGreatDoor
open Go.RowKit
/-- Counts as a row. -/
def rowOf (f : Nat → Int) (n : Nat) : List Int := (List.range n).map f

theorem rowOf_len (f : Nat → Int) (n : Nat) : (rowOf f n).length = n := by simp [rowOf]

theorem rowOf_getD (f : Nat → Int) (n k : Nat) (h : k < n) : (rowOf f n).getD k 0 = f k := by
  simp [rowOf, List.getD, h]

theorem rowOf_mem {f : Nat → Int} {n : Nat} {x : Int} (h : x ∈ rowOf f n) : ∃ k, k < n ∧ x = f k := by
  simp only [rowOf, List.mem_map, List.mem_range] at h
  obtain ⟨k, hk, e⟩ := h
  exact ⟨k, hk, e.symm⟩

/-- The counts of literals, the block's end among them. -/
def lcf (ts : List Tk) : Nat → Int := upd (cL ts) 256 (cL ts 256 + 1)

theorem lcf_bd (ts : List Tk) (k : Nat) : 0 ≤ lcf ts k ∧ lcf ts k ≤ ts.length + 1 := by
  have h1 := cL_bd ts k
  have h2 := cL_bd ts 256
  unfold lcf upd
  split
  · exact ⟨by omega, by omega⟩
  · exact ⟨by omega, by omega⟩

theorem may_row (f : Nat → Int) (n m : Nat) (B : Int) (hn : n ≤ 320) (h0 : ∀ k, k < n → 0 ≤ f k ∧ f k ≤ B) (hB : B ≤ 1000000) (m1 : 1 ≤ m) (m2 : m ≤ 15) (hp : n ≤ 2 ^ m) : mayB (rowOf f n) (m : Int) = true := by
  rw [mayB_iff, rowOf_len]
  refine ⟨hn, by omega, by omega, ?_, ?_⟩
  · rw [oftB_iff]
    intro x hx
    obtain ⟨k, hk, rfl⟩ := rowOf_mem hx
    have := h0 k hk
    omega
  · have := posTo_length (rowOf f n) n
    rw [Int.toNat_natCast]
    omega

theorem lit_may (ts : List Tk) (h : ts.length ≤ 900000) : mayB (rowOf (lcf ts) 286) 15 = true :=
  may_row (lcf ts) 286 15 (ts.length + 1) (by omega) (fun k _ => lcf_bd ts k) (by omega) (by omega) (by omega) (by decide)

theorem dis_may (ts : List Tk) (h : ts.length ≤ 900000) : mayB (rowOf (cD ts) 30) 15 = true :=
  may_row (cD ts) 30 15 ts.length (by omega) (fun k _ => cD_bd ts k) (by omega) (by omega) (by omega) (by decide)

/-- What counts and lengths cost may be reckoned. -/
theorem cb_row (f : Nat → Int) (n : Nat) (B : Int) (L : List Int) (h0 : ∀ k, k < n → 0 ≤ f k ∧ f k ≤ B) (hB : B ≤ 1000000) (hL : ∀ k, k < L.length → 0 ≤ L.getD k 0 ∧ L.getD k 0 ≤ 15) : Cb (rowOf f n) L := by
  refine ⟨fun k hk => ?_, fun k hk => ?_⟩
  · rw [rowOf_len] at hk
    rw [rowOf_getD f n k hk]
    have := h0 k hk
    omega
  · have := hL k hk
    omega

/-- A cost is at most 15 bits for each that comes. -/
theorem csum_le (A L : List Int) (B : Int) (hA : ∀ k, 0 ≤ A.getD k 0 ∧ A.getD k 0 ≤ B) (hL : ∀ k, 0 ≤ L.getD k 0 ∧ L.getD k 0 ≤ 15) : ∀ k : Nat, 0 ≤ csum A L k ∧ csum A L k ≤ 15 * B * (k : Int)
  | 0 => by simp [csum]
  | k + 1 => by
    have ih := csum_le A L B hA hL k
    have a := hA k
    have l := hL k
    have p1 : 0 ≤ A.getD k 0 * L.getD k 0 := Int.mul_nonneg a.1 l.1
    have p2 : A.getD k 0 * L.getD k 0 ≤ B * 15 := Int.mul_le_mul a.2 l.2 l.1 (by omega)
    have e : 15 * B * ((k + 1 : Nat) : Int) = 15 * B * (k : Int) + B * 15 := by
      rw [Int.natCast_add, Int.mul_add]
      simp only [Int.natCast_one, Int.mul_one]
      omega
    unfold csum
    rw [e]
    omega

end Go.Proofs.YtcgjmkcigmmjjaaGreatDoor

namespace Go.Proofs.YtcgjmkcigmmjjaaGreatDoor
open Go.RowKit
set_option maxRecDepth 100000
/-- The code's table of the order lies where the program laid it. -/
def TabD (w : World) : Prop := ∀ k, k < 19 → w.cell? ⟨0, k, none⟩ = some (.int .i64 ((ord k : Nat) : Int))

theorem TabD.step {S : Nat → Prop} {w w' : World} (h : TabD w) (hs : Step S w w') (h0 : ¬ S 0) : TabD w' := fun k hk => hs.cell (h k hk) h0

theorem TabD.made {w w' : World} (h : TabD w) (hs : Step (fun _ => False) w w') : TabD w' := h.step hs (fun h => h)

theorem TabD.lt {w : World} (h : TabD w) : 0 < w.heap.size := World.block_lt_of_cell? w _ (h 0 (by omega))

/-- One cell of a struct is stored. -/
theorem Sv.put {w : World} {b : Nat} {cs : List Value} (h : Sv w b cs) (i : Nat) (x : Value) : Sv (w.setCell ⟨b, i, none⟩ x) b (cs.set i x) := fun k v hv => by
  have hk : k < cs.length := by simpa using (List.getElem?_eq_some_iff.1 hv).1
  have h0 := h k cs[k] (List.getElem?_eq_getElem hk)
  refine ⟨?_, by rw [World.frozen?_setCell]; exact h0.2⟩
  by_cases e : k = i
  · subst e
    rw [World.cell?_setCell_same _ _ _ h0.1]
    simpa [hk] using hv
  · rw [World.cell?_setCell_other _ _ _ _ (by intro e2; apply e; injection e2 with _ e3; omega)]
    rw [h0.1]
    simpa [List.getElem?_set, Ne.symm e, hk] using hv

/-- Some cells of a struct, side by side, are stored. -/
theorem setCells_svo {w : World} {b : Nat} {cs : List Value} (h : Sv w b cs) (o : Nat) (ds cs' : List Value) (ho : o + ds.length ≤ cs.length) (e : cs' = cs.take o ++ (ds ++ cs.drop (o + ds.length))) : Sv (w.setCells b o ds) b cs' := fun k v hv => by
  have hl : cs'.length = cs.length := by rw [e]; simp; omega
  have hk : k < cs.length := by rw [← hl]; exact (List.getElem?_eq_some_iff.1 hv).1
  have h0 := h k cs[k] (List.getElem?_eq_getElem hk)
  refine ⟨?_, by rw [World.frozen?_setCells]; exact h0.2⟩
  rw [e] at hv
  by_cases h1 : k < o
  · rw [World.cell?_setCells_out b ds o w _ (fun _ _ => .inl h1), h0.1]
    rw [List.getElem?_append_left (by simp; omega)] at hv
    simpa [h1, List.getElem?_take, hk] using hv
  · by_cases h2 : k < o + ds.length
    · have h3 := World.cell?_setCells_in b ds o w (fun j hj => by
        have := h (o + j) cs[o + j] (List.getElem?_eq_getElem (by omega))
        rw [this.1]; rfl) (k - o) (by omega)
      rw [show o + (k - o) = k by omega] at h3
      rw [h3]
      rw [List.getElem?_append_right (by simp; omega), List.length_take, show min o cs.length = o by omega, List.getElem?_append_left (by omega), List.getElem?_eq_getElem (by omega)] at hv
      exact hv
    · rw [World.cell?_setCells_out b ds o w _ (fun _ _ => .inr (by show o + ds.length ≤ k; omega)), h0.1]
      rw [List.getElem?_append_right (by simp; omega), List.length_take, show min o cs.length = o by omega, List.getElem?_append_right (by omega), List.getElem?_drop, show o + ds.length + (k - o - ds.length) = k by omega, List.getElem?_eq_getElem hk] at hv
      exact hv

theorem store_svo {ops : Array Oper} {rest : List Oper} {a : Act} {w : World} {Q : Exit → Act → World → Prop} {p x : Operand} {ty ty' : TypeId} {pos : String} {aft : Array Edge}
    (b o : Nat) (cs ds cs' : List Value) (ho : o + ds.length ≤ cs.length) (e : cs' = cs.take o ++ (ds ++ cs.drop (o + ds.length))) (hi : (Tryz.prog.info? ty).map (·.size) = some ds.length) (h1 : ∀ v ∈ ds, v.oneCell' = true) (hp : a.eval p = .pointer (some ⟨b, o, none⟩)) (hx : a.eval x = .agg ds.toArray) (hA : Sv w b cs)
    (h : ∀ w', Step (fun k => k = b) w w' → Sv w' b cs' → wpList Tryz.prog ops Q rest a w') :
    wpList Tryz.prog ops Q (⟨none, .store ty p x, ty', pos, aft, none⟩ :: rest) a w := by
  refine wpList_store_mid rfl ty p x rfl b o ds.toArray hp hx (fun j hj => ?_) (by rw [List.size_toArray]; exact hi) (all_oneCell_toArray h1) ?_
  · rw [List.size_toArray] at hj
    have := hA (o + j) cs[o + j] (List.getElem?_eq_getElem (by omega))
    rw [this.1]
    exact ⟨rfl, this.2⟩
  · exact h _ (setCells_step b _ _ _) (setCells_svo hA o ds cs' ho e)

def hwL (a d k : Nat) (sv : Value) (go : Nat) (vl vu : Value) : List Value := [.int .i64 (a : Int), .int .i64 (d : Int), .int .i64 (k : Int), sv, .slice (some ⟨go, 0, none⟩) 19 19, vl, vu]

/-- How often steps need each symbol. -/
def cS (xs : List Sp) (k : Nat) : Int := ((xs.map (·.s)).count k : Int)

theorem cS_snoc (xs : List Sp) (x : Sp) : cS (xs ++ [x]) = upd (cS xs) x.s (cS xs x.s + 1) := by
  funext k
  unfold cS
  rw [List.map_append]
  exact cnt_snoc _ _ k

theorem cS_bd (xs : List Sp) (k : Nat) : 0 ≤ cS xs k ∧ cS xs k ≤ xs.length := by
  unfold cS
  have := List.count_le_length (a := k) (l := xs.map (·.s))
  rw [List.length_map] at this
  omega

theorem cS_pos {xs : List Sp} {x : Sp} (h : x ∈ xs) : 0 < cS xs x.s := by
  unfold cS
  have := List.count_pos_iff.2 (List.mem_map.2 ⟨x, h, rfl⟩ : x.s ∈ xs.map (·.s))
  omega

theorem ord_may (xs : List Sp) (h : xs.length ≤ 900000) : mayB (rowOf (cS xs) 19) 7 = true :=
  may_row _ 19 7 (xs.length : Int) (by omega) (fun k _ => cS_bd xs k) (by omega) (by omega) (by omega) (by decide)

theorem own3_lt {w : World} {v : Value} {n : Nat} {xs : List Value} {T : TypeId} (h : w.ownsRow 0 T 3 v n xs) : ∀ k, v.ownBlock = some k → k < w.heap.size := by
  intro k hk
  rcases h.2 with ⟨e, _⟩ | ⟨g, cap, cur, e, hb, hgg, rest⟩
  · subst e; simp [Value.ownBlock] at hk
  · subst e
    have : g = k := by simpa [Value.ownBlock] using hk
    subst this
    exact (Array.getElem?_eq_some_iff.1 hgg).1

/-- The heading in block p while it is made, its counts in block g. -/
structure Hw (B0 : Nat) (w : World) (p g : Nat) (a d k : Nat) (sv vl vu : Value) (xs : List Sp) (f : Nat → Int) : Prop where
  s : Sv w p (hwL a d k sv g vl vu)
  ow : w.ownsRow 0 89 3 sv xs.length (spCs xs)
  of : Af w g 19 f
  ne : p ≠ g
  off : ∀ k, sv.ownBlock = some k → k ≠ p ∧ k ≠ g ∧ B0 ≤ k
  hi : B0 ≤ p ∧ B0 ≤ g

theorem Hw.step {B0 : Nat} {S : Nat → Prop} {w w' : World} {p g a d k : Nat} {sv vl vu : Value} {xs : List Sp} {f : Nat → Int} (h : Hw B0 w p g a d k sv vl vu xs f) (hs : Step S w w') (hS : ∀ k, B0 ≤ k → ¬ S k) : Hw B0 w' p g a d k sv vl vu xs f :=
  ⟨h.s.step hs (hS p h.hi.1), own3_keep h.ow hs (fun k hk => hS k (h.off k hk).2.2), h.of.step hs (hS g h.hi.2), h.ne, h.off, h.hi⟩

theorem Hw.made {B0 : Nat} {w w' : World} {p g a d k : Nat} {sv vl vu : Value} {xs : List Sp} {f : Nat → Int} (h : Hw B0 w p g a d k sv vl vu xs f) (hs : Step (fun _ => False) w w') : Hw B0 w' p g a d k sv vl vu xs f := h.step hs (fun _ _ h => h)

/-- A count is stored. -/
theorem Hw.cnt {B0 : Nat} {w : World} {p g a d k : Nat} {sv vl vu : Value} {xs : List Sp} {f : Nat → Int} (h : Hw B0 w p g a d k sv vl vu xs f) (j : Nat) (x : Int) : Hw B0 (w.setCell ⟨g, j, none⟩ (.int .i64 x)) p g a d k sv vl vu xs (upd f j x) := by
  have S1 : Step (fun k => k = g) w (w.setCell ⟨g, j, none⟩ (.int .i64 x)) := (Step.refl _ _).setCell _ _ (.inl rfl)
  exact ⟨h.s.step S1 h.ne, own3_keep h.ow S1 (fun k hk => (h.off k hk).2.1), h.of.set j x, h.ne, h.off, h.hi⟩

/-- How many of the order are told is stored. -/
theorem Hw.ord {B0 : Nat} {w : World} {p g a d k : Nat} {sv vl vu : Value} {xs : List Sp} {f : Nat → Int} (h : Hw B0 w p g a d k sv vl vu xs f) (j : Nat) : Hw B0 (w.setCell ⟨p, 2, none⟩ (.int .i64 (j : Int))) p g a d j sv vl vu xs f := by
  have S1 : Step (fun k => k = p) w (w.setCell ⟨p, 2, none⟩ (.int .i64 (j : Int))) := (Step.refl _ _).setCell _ _ (.inl rfl)
  exact ⟨h.s.put 2 _, own3_keep h.ow S1 (fun k hk => (h.off k hk).1), h.of.step S1 (fun e => h.ne e.symm), h.ne, h.off, h.hi⟩

theorem bd_take {L : List Int} {a : Nat} (h : ∀ i, 0 ≤ L.getD i 0 ∧ L.getD i 0 ≤ 15) (i : Nat) : 0 ≤ (L.take a).getD i 0 ∧ (L.take a).getD i 0 ≤ 15 := by
  have := h i
  rw [List.getD_eq_getElem?_getD] at this ⊢
  rw [List.getElem?_take]
  split
  · exact this
  · simp

theorem bd_app {L1 L2 : List Int} (h1 : ∀ i, 0 ≤ L1.getD i 0 ∧ L1.getD i 0 ≤ 15) (h2 : ∀ i, 0 ≤ L2.getD i 0 ∧ L2.getD i 0 ≤ 15) (i : Nat) : 0 ≤ (L1 ++ L2).getD i 0 ∧ (L1 ++ L2).getD i 0 ≤ 15 := by
  rw [List.getD_eq_getElem?_getD, List.getElem?_append]
  split
  · rw [← List.getD_eq_getElem?_getD]; exact h1 i
  · rw [← List.getD_eq_getElem?_getD]; exact h2 _

theorem Sps.in' {A B : List Int} {xs : List Sp} (h : Sps A xs B) : ∀ x ∈ xs, x.m < 2 ^ x.b ∧ x.s < 19 ∧ x.b ≤ 7 := by
  induction h with
  | nil => intro x hx; cases hx
  | cons h1 h2 ih =>
    intro x hx
    rcases List.mem_cons.1 hx with rfl | hx
    · exact h1.lt
    · exact ih x hx

end Go.Proofs.YtcgjmkcigmmjjaaGreatDoor
