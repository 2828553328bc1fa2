/-
  paired and rows.
-/
import Derived.Test.YtkglackbbcfhbaaHMerge
namespace Go.Proofs.Ytkglackbbcfhbaa
open Go.RowKit
set_option maxRecDepth 100000

theorem hs_cell2 {w w' : World} (h : Step (fun _ => False) w w') {p : Addr} {v : Value} (hc : w.cell? p = some v) : w'.cell? p = some v := h.cell hc (fun h => h)

set_option maxHeartbeats 1000000 in
theorem paired_any (v : Value) (R : List Int) (w : World) (h : Ri w v R) (hl : R.length ≤ 100000) (hb : ∀ x ∈ R, 0 ≤ x ∧ x ≤ 1000000000000) :
    Calls Try.prog 34 #[v] w fun e w' => ∃ u, e = .returned u ∧ Ri w' u (pairs R) ∧ (∀ a n c, u = .slice (some a) n c → w.heap.size ≤ a.block) ∧ Step (fun _ => False) w w' := by
  have HR := hidden h
  have HB := hidden hb
  obtain ⟨ao, ca, rfl, hca, r1, r2⟩ := h
  have H1 := hidden r1
  have H2 := hidden r2
  obtain ⟨n, hn⟩ : ∃ n, n = R.length := ⟨_, rfl⟩
  have Hn := hidden hn
  rw [← hn] at hl hca HR ⊢
  clear hn r1 r2 hb
  have hq : Int.tdiv (n : Int) 2 = ((n / 2 : Nat) : Int) := by rw [Int.tdiv_eq_ediv_of_nonneg (by omega)]; omega
  obtain ⟨m, hm⟩ : ∃ m, m = n / 2 := ⟨_, rfl⟩
  have Hm := hidden hm
  rw [← hm] at hq
  have hm2 : 2 * m ≤ n := by omega
  have HP := hidden (show (pairs R).length = m by rw [pairs_length, ← Hn.out, hm])
  have HG := hidden (fun i (hi : i < m) => pairs_getD R i (by rw [← Hn.out, ← hm]; exact hi))
  clear hm
  go_enter Try.func34, Try.ntmps34
  go_wp2_with (refine makeInts m _ rfl rfl (by omega) (by omega) ?_)
  intro w1 hs1 hz1 ha1
  have HS := hidden hs1
  have HA := hidden ha1
  clear hs1 ha1 hq
  go_wp2
  go_loopw [4, 11] (fun _ i wr => ∃ k : Nat, k ≤ m ∧ i = .int .i64 k ∧ Hid (Af wr w.heap.size m (fun j => if j < k then (pairs R).getD j 0 else 0) ∧ Step (fun _ => False) w wr)) (fun _ i _ => m - (intOf i).toNat)
  case atStart => exact ⟨0, Nat.zero_le _, rfl, HA.out.congr (fun j _ => by simp), HS.out⟩
  case round =>
    obtain ⟨k, hk, rfl, hrest⟩ := hrel
    obtain ⟨q1, q2⟩ := hrest.out
    have HQ := hidden (And.intro q1 q2)
    clear hrest
    by_cases hlt : k < m
    · cases ao with
      | none => have := (H1.out rfl).1; have := Hn.out; subst R; simp at this; omega
      | some p =>
        obtain ⟨b1, o1, rfl, hc⟩ := H2.out p rfl (by intro e; have := Hn.out; subst e; simp at this; omega)
        have c1 := hs_cell2 q2 (hc (2 * k) (by have := Hn.out; omega))
        have c2 := hs_cell2 q2 (hc (2 * k + 1) (by have := Hn.out; omega))
        obtain ⟨f1, f2⟩ := q1 k hlt
        have hp := HG.out k hlt
        have m1 : R.getD (2 * k) 0 ∈ R := by rw [getD_i R _ (by have := Hn.out; omega)]; exact List.getElem_mem _
        have m2 : R.getD (2 * k + 1) 0 ∈ R := by rw [getD_i R _ (by have := Hn.out; omega)]; exact List.getElem_mem _
        have x1 := HB.out _ m1
        have x2 := HB.out _ m2
        have HP1 := hidden hp
        clear hc q1 q2 m1 m2 hp
        generalize R.getD (2 * k) 0 = x at *
        generalize R.getD (2 * k + 1) 0 = y at *
        have k1 : (k : Int) < (m : Int) := by omega
        have k2 : 2 * (k : Int) < (n : Int) := by omega
        have k3 : 2 * (k : Int) + 1 < (n : Int) := by omega
        have t1 : (2 * (k : Int)).toNat = 2 * k := by omega
        have t2 : (2 * (k : Int) + 1).toNat = 2 * k + 1 := by omega
        go_wp2
        go_region
        all_goals go_wp2
        all_goals go_roundw
        case rel =>
          refine ⟨k + 1, by omega, by go_num, ?_, (HQ.out.2.setCell _ _ (.inr (Nat.le_refl _))).drew⟩
          refine Af.congr (HQ.out.1.set k _) (fun j _ => ?_)
          unfold upd
          by_cases e : j = k
          · subst e; rw [if_pos rfl, if_pos (Nat.lt_succ_self _), HP1.out]
          · by_cases e2 : j < k
            · simp [e, e2, show j < k + 1 by omega]
            · simp [e, e2, show ¬ j < k + 1 by omega]
        case measure => simp [intOf]; omega
    · have e : k = m := by omega
      subst e
      go_wp2
      go_ret
      exact ⟨_, rfl, HQ.out.1.ri HP.out (Nat.le_refl _) (fun j hj => by simp [hj]), (fun a n c h => by injection h with h1; have := Option.some.inj h1; subst this; exact Nat.le_refl _), HQ.out.2⟩

/-- The rows of things, the longest codes first. -/
def rowN (W : List Int) : Nat → List (Int × Bool)
  | 0 => mrg W []
  | k + 1 => mrg W (pairs ((rowN W k).map (·.1)))

/-- The pairs that go into row k. -/
def prs (W : List Int) : Nat → List Int
  | 0 => []
  | k + 1 => pairs ((rowN W k).map (·.1))

theorem rowN_prs (W : List Int) (k : Nat) : rowN W k = mrg W (prs W k) := by cases k <;> rfl

theorem prs_length (W : List Int) : ∀ k, (prs W k).length ≤ W.length
  | 0 => by simp [prs]
  | k + 1 => by
    have := prs_length W k
    show (pairs ((rowN W k).map (·.1))).length ≤ W.length
    rw [pairs_length, List.length_map, rowN_prs, mrg_length]
    omega
theorem rowN_length (W : List Int) (k : Nat) : (rowN W k).length ≤ 2 * W.length := by
  have := prs_length W k
  rw [rowN_prs, mrg_length]
  omega

theorem mem_mrgN {P : Int → Prop} : ∀ (n : Nat) (A B : List Int), n ≤ A.length + B.length → (∀ x ∈ A, P x) → (∀ x ∈ B, P x) → ∀ x ∈ mrgN n A B, P x.1
  | 0, _, _, _, _, _, x, hx => by simp [mrgN] at hx
  | n + 1, A, B, hn, hA, hB, x, hx => by
    unfold mrgN at hx
    by_cases hs : sg A B = true
    · rw [if_pos hs] at hx
      cases A with
      | nil =>
        exfalso
        cases B with
        | nil => simp at hn
        | cons b B => simp [sg] at hs
      | cons a A =>
        rcases List.mem_cons.1 hx with rfl | hx
        · exact hA a (by simp)
        · exact mem_mrgN n A B (by simp at hn; omega) (fun y hy => hA y (by simp [hy])) hB x hx
    · rw [if_neg hs] at hx
      cases B with
      | nil => simp [sg] at hs
      | cons b B =>
        rcases List.mem_cons.1 hx with rfl | hx
        · exact hB b (by simp)
        · exact mem_mrgN n A B (by simp at hn; omega) hA (fun y hy => hB y (by simp [hy])) x hx

theorem mem_pairs {m : Int} : ∀ (R : List Int), (∀ x ∈ R, 0 ≤ x ∧ x ≤ m) → ∀ x ∈ pairs R, 0 ≤ x ∧ x ≤ 2 * m
  | [], _, x, hx => by simp [pairs] at hx
  | [_], _, x, hx => by simp [pairs] at hx
  | a :: b :: t, h, x, hx => by
    simp only [pairs] at hx
    rcases List.mem_cons.1 hx with rfl | hx
    · have h1 := h a (by simp)
      have h2 := h b (by simp)
      omega
    · exact mem_pairs t (fun y hy => h y (by simp [hy])) x hx

theorem rowN_mem (W : List Int) (h : ∀ x ∈ W, 0 ≤ x ∧ x ≤ 1048576) : ∀ k, ∀ x ∈ (rowN W k).map (·.1), 0 ≤ x ∧ x ≤ 1048576 * 2 ^ k
  | 0, x, hx => by
    obtain ⟨y, hy, rfl⟩ := List.mem_map.1 hx
    have := mem_mrgN (P := fun x => 0 ≤ x ∧ x ≤ 1048576) _ W [] (Nat.le_refl _) h (by simp) y hy
    simpa using this
  | k + 1, x, hx => by
    obtain ⟨y, hy, rfl⟩ := List.mem_map.1 hx
    have ih := rowN_mem W h k
    have hp := mem_pairs _ ih
    have p1 : (1 : Int) ≤ 2 ^ k := ipow_pos k
    refine mem_mrgN (P := fun x => 0 ≤ x ∧ x ≤ 1048576 * 2 ^ (k + 1)) _ W _ (Nat.le_refl _) (fun z hz => ?_) (fun z hz => ?_) y hy
    · have := h z hz
      rw [Int.pow_succ]
      omega
    · have := hp z hz
      rw [Int.pow_succ]
      omega

theorem rowN_bd (W : List Int) (h : ∀ x ∈ W, 0 ≤ x ∧ x ≤ 1048576) (k : Nat) (hk : k ≤ 15) : ∀ x ∈ (rowN W k).map (·.1), 0 ≤ x ∧ x ≤ 1000000000000 := fun x hx => by
  have h1 := rowN_mem W h k x hx
  have h2 := ipow_le_24 15 (by omega)
  have : (2 ^ k : Nat) ≤ 2 ^ 15 := Nat.pow_le_pow_right (by omega) hk
  have e : ((2 ^ k : Nat) : Int) = (2 : Int) ^ k := by simp
  omega

/-- The rows that lie in block T. -/
def Told (w : World) (T m : Nat) (W : List Int) (base : Nat) : Prop := ∀ j, j < m → ∃ u, w.cell? ⟨T, j, none⟩ = some u ∧ Rb w u ((rowN W j).map (·.2)) ∧ ∀ a n c, u = .slice (some a) n c → base ≤ a.block

theorem Told.made {w w' : World} {T m : Nat} {W : List Int} {base : Nat} (h : Told w T m W base) (hs : Step (fun _ => False) w w') : Told w' T m W base := fun j hj => by
  obtain ⟨u, h1, h2, h3⟩ := h j hj
  exact ⟨u, hs_cell2 hs h1, h2.made hs, h3⟩

theorem Told.set {w : World} {T m : Nat} {W : List Int} {base : Nat} (h : Told w T m W base) (hT : T < base) {u : Value} (hu : Rb w u ((rowN W m).map (·.2))) (hub : ∀ a n c, u = .slice (some a) n c → base ≤ a.block) (hc : (w.cell? ⟨T, m, none⟩).isSome = true) :
    Told (w.setCell ⟨T, m, none⟩ u) T (m + 1) W base := fun j hj => by
  have hst : Step (fun k => k = T) w (w.setCell ⟨T, m, none⟩ u) := (Step.refl _ w).setCell _ _ (.inl rfl)
  by_cases e : j = m
  · subst e
    exact ⟨u, World.cell?_setCell_same' _ _ _ hc, hu.step hst (fun a n c e _ => by have := hub a n c e; omega), hub⟩
  · obtain ⟨x, h1, h2, h3⟩ := h j (by omega)
    refine ⟨x, ?_, h2.step hst (fun a n c e _ => by have := h3 a n c e; omega), h3⟩
    rw [World.cell?_setCell_other (a := ⟨T, m, none⟩) (b := ⟨T, j, none⟩) _ _ (by intro e2; apply e; injection e2 with _ e3; omega)]
    exact h1

theorem Try.infoR : (Try.prog.info? 46).map (fun i => (i.zero, i.size, i.bytes)) = some (some (.slice none 0 0), 1, 24) := by kernel_rfl

set_option maxHeartbeats 2000000 in
theorem rows_any (v : Value) (W : List Int) (m : Nat) (w : World) (h : Ri w v W) (hl : W.length ≤ 10000) (hm : m ≤ 15) (hb : ∀ x ∈ W, 0 ≤ x ∧ x ≤ 1048576) :
    Calls Try.prog 19 #[v, .int .i64 (m : Int)] w fun e w' => ∃ T, e = .returned (.slice (some ⟨T, 0, none⟩) m m) ∧ w.heap.size ≤ T ∧ T < w'.heap.size ∧ Told w' T m W w.heap.size ∧ Step (fun _ => False) w w' := by
  have HR := hidden h
  have HB := hidden hb
  clear h hb
  go_enter Try.func19, Try.ntmps19
  go_wp2_with (refine makeRow 46 (.slice none 0 0) 24 Try.underlying45 Try.infoR rfl m _ rfl rfl rfl (by omega) (by omega) ?_)
  intro w1 hs1 hz1 ha1
  have HS := hidden hs1
  have HA := hidden ha1
  clear hs1 ha1
  go_wp2
  go_loopw [6, 7, 8, 9, 14] (fun p _ _ _ i wr => ∃ k : Nat, k ≤ m ∧ i = .int .i64 k ∧ Hid (Ri wr p (prs W k) ∧ Told wr w.heap.size k W (w.heap.size + 1) ∧ (∀ j, j < m → (wr.cell? ⟨w.heap.size, j, none⟩).isSome = true ∧ wr.frozen? ⟨w.heap.size, j, none⟩ = false) ∧ Step (fun _ => False) w wr ∧ w1.heap.size ≤ wr.heap.size)) (fun _ _ _ _ i _ => m - (intOf i).toNat)
  case atStart => exact ⟨0, Nat.zero_le _, rfl, ri_nil _, (fun j hj => by omega), (fun j hj => ⟨by rw [(HA.out j hj).1]; rfl, (HA.out j hj).2⟩), HS.out, Nat.le_refl _⟩
  case round =>
    obtain ⟨k, hk, rfl, hrest⟩ := hrel
    by_cases hlt : k < m
    · have k1 : (k : Int) < (m : Int) := by omega
      obtain ⟨q1, q2, q3, q4, q5⟩ := hrest.out
      have HQ := hidden (And.intro q2 (And.intro q3 (And.intro q4 q5)))
      have HM := hidden (merge_any v _ W (prs W k) wr (HR.out.made q4) q1 (by omega) (by have := prs_length W k; omega))
      have HRW := hidden (rowN_prs W k)
      clear q1 q2 q3 q4 q5 hrest
      go_wp2_with (go_at_call 33; refine HM.out.mono ?_)
      rintro e w2 ⟨v2, u2, rfl, r1, r2, r3, r4, r5⟩
      rw [← HRW.out] at r1 r2
      have hw0 : w.heap.size < wr.heap.size := by have := HQ.out.2.2.2; omega
      have HC := hidden (And.intro r1 (And.intro r2 (And.intro r3 (And.intro r4 r5))))
      have q3 := HQ.out.2.1 k hlt
      obtain ⟨cv, hcv⟩ := Option.isSome_iff_exists.1 q3.1
      have c1 := hs_cell2 r5 hcv
      have c2 : w2.frozen? ⟨w.heap.size, k, none⟩ = false := (r5.frozen (p := ⟨w.heap.size, k, none⟩) hw0 (fun h => h)).trans q3.2
      obtain ⟨bu, hu, _⟩ := r2
      clear q3 hcv r1 r3 r4 r5
      subst hu
      have HPA := hidden (fun (w3 : World) (h : Ri w3 v2 ((rowN W k).map (·.1))) => paired_any v2 ((rowN W k).map (·.1)) w3 h (by have := rowN_length W k; simp; omega) (rowN_bd W HB.out k (by omega)))
      have HC2 : Hid (Ri (w2.setCell ⟨w.heap.size, k, none⟩ (.slice (some ⟨bu, 0, none⟩) ((rowN W k).map (·.2)).length ((rowN W k).map (·.2)).length)) v2 ((rowN W k).map (·.1))) := HC.out.1.far _ _ (fun p n c _ e => by have := HC.out.2.2.1 p n c e; show p.block ≠ w.heap.size; omega)
      have HC3 := hidden (Told.set (T := w.heap.size) (base := w.heap.size + 1) (HQ.out.1.made HC.out.2.2.2.2) (by omega) HC.out.2.1 (fun a n c e => by have := HC.out.2.2.2.1 a n c e; omega) (by rw [c1]; rfl))
      generalize ((rowN W k).map (·.2)).length = len at *
      go_wp2_with (go_at_call 34; refine (HPA.out _ HC2.out).mono ?_)
      rintro e w4 ⟨u4, rfl, p1, p2, p3⟩
      have HP := hidden (And.intro p1 p3)
      clear p1 p2 p3
      go_wp2
      go_roundw
      case rel =>
        have hst : Step (fun k => k = w.heap.size) w2 (w2.setCell ⟨w.heap.size, k, none⟩ (.slice (some ⟨bu, 0, none⟩) len len)) := (Step.refl _ w2).setCell _ _ (.inl rfl)
        refine ⟨k + 1, by omega, by go_num, HP.out.1, HC3.out.made HP.out.2, fun j hj => ?_, ?_, ?_⟩
        · have q := HQ.out.2.1 j hj
          obtain ⟨cv2, hcv2⟩ := Option.isSome_iff_exists.1 q.1
          have c3 := hs_cell2 HC.out.2.2.2.2 hcv2
          have f3 : w2.frozen? ⟨w.heap.size, j, none⟩ = false := (HC.out.2.2.2.2.frozen (p := ⟨w.heap.size, j, none⟩) hw0 (fun h => h)).trans q.2
          have c4 : ((w2.setCell ⟨w.heap.size, k, none⟩ (.slice (some ⟨bu, 0, none⟩) len len)).cell? ⟨w.heap.size, j, none⟩).isSome = true := by
            by_cases e : j = k
            · subst e; rw [World.cell?_setCell_same' _ _ _ (by rw [c1]; rfl)]; rfl
            · rw [World.cell?_setCell_other (a := ⟨w.heap.size, k, none⟩) (b := ⟨w.heap.size, j, none⟩) _ _ (by intro e2; apply e; injection e2 with _ e3; omega), c3]; rfl
          obtain ⟨cv5, hcv5⟩ := Option.isSome_iff_exists.1 c4
          refine ⟨by rw [hs_cell2 HP.out.2 hcv5]; rfl, ?_⟩
          rw [HP.out.2.frozen (p := ⟨w.heap.size, j, none⟩) (World.block_lt_of_cell? _ _ hcv5) (fun h => h), World.frozen?_setCell]
          exact f3
        · exact ((HQ.out.2.2.1.made HC.out.2.2.2.2).setCell _ _ (.inr (Nat.le_refl _))).made HP.out.2
        · have h1 := HQ.out.2.2.2
          have h2 := HC.out.2.2.2.2.size
          have h3 := HP.out.2.size
          have h4 := hst.size
          omega
      case measure => simp [intOf]; omega
    · have e : k = m := by omega
      subst e
      go_wp2
      go_ret
      obtain ⟨q1, q2, q3, q4, q5⟩ := hrest.out
      exact ⟨w.heap.size, rfl, Nat.le_refl _, by omega, fun j hj => by obtain ⟨u, h1, h2, h3⟩ := q2 j hj; exact ⟨u, h1, h2, fun a n c e => by have := h3 a n c e; omega⟩, q4⟩

end Go.Proofs.Ytkglackbbcfhbaa
