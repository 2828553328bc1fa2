/-
  Two rows compared; a row copied.
-/
import Derived.Test.YtkglackbbcfhbaaHInt
namespace Go.Proofs.Ytkglackbbcfhbaa
open Go.RowKit
set_option maxRecDepth 100000

theorem eq_of_getD_i {A B : List Int} (hl : A.length = B.length) (h : ∀ j, j < A.length → A.getD j 0 = B.getD j 0) : A = B := by
  apply List.ext_getElem hl
  intro j h1 h2
  have := h j h1
  simpa [List.getD, h1, h2] using this

set_option maxHeartbeats 1000000 in
theorem ints_any (va vb : Value) (A B : List Int) (w : World) (ha : Ri w va A) (hb : Ri w vb B) (hA : A.length ≤ 9223372036854775807):
    Calls Try.prog 10 #[va, vb] w fun e w' => e = .returned (.bool (decide (A = B))) ∧ ∃ n, w' = w.drewN n := by
  obtain ⟨ao, ca, rfl, _, a1, a2⟩ := ha
  obtain ⟨bo, cb, rfl, _, b1, b2⟩ := hb
  by_cases hl : A.length = B.length
  · obtain ⟨n, hn⟩ : ∃ n, n = A.length := ⟨_, rfl⟩
    have hn2 : n ≤ 9223372036854775807 := by omega
    rw [← hl, ← hn]
    have Hn := hidden hn
    have Hl := hidden hl
    have a2' := hidden a2
    have b2' := hidden b2
    have a1' := hidden a1
    have b1' := hidden b1
    clear a1 a2 b1 b2 hl hn hA
    go_enter Try.func10, Try.ntmps10
    go_wp2
    go_loopw [5] (fun i wr => ∃ k : Nat, k ≤ n ∧ i = .int .i64 k ∧ (∃ nq, wr = w.drewN nq) ∧ Hid (∀ j, j < k → A.getD j 0 = B.getD j 0)) (fun i _ => n - (intOf i).toNat)
    case atStart => exact ⟨0, Nat.zero_le _, rfl, ⟨0, rfl⟩, fun j hj => by omega⟩
    case round =>
      obtain ⟨k, hk, rfl, ⟨nq, rfl⟩, hpre⟩ := hrel
      by_cases hlt : k < n
      · have hne : A ≠ [] := by intro e; have := Hn.out; subst e; simp at this; omega
        have hne' : B ≠ [] := by intro e; have := Hn.out; have := Hl.out; subst e; simp_all
        cases ao with
        | none => exact absurd (a1'.out rfl).1 hne
        | some a =>
          cases bo with
          | none => exact absurd (b1'.out rfl).1 hne'
          | some b =>
            obtain ⟨ba, oa, rfl, ka⟩ := a2'.out a rfl hne
            obtain ⟨bb, ob, rfl, kb⟩ := b2'.out b rfl hne'
            have ca' := ka k (by have := Hn.out; omega)
            have cb' := kb k (by have := Hn.out; have := Hl.out; omega)
            clear ka kb
            generalize hx : A.getD k 0 = x at *
            generalize hy : B.getD k 0 = y at *
            have Hx := hidden hx
            have Hy := hidden hy
            have k0 : (0 : Int) ≤ (k : Int) := by omega
            have k1 : (k : Int) < (n : Int) := by omega
            clear hx hy hne hne'
            by_cases hxy : x = y
            · have hd : (x != y) = false := by simp [hxy]
              have Hxy := hidden hxy
              clear hxy
              go_wp2
              go_quiet (fail)
              go_wp2
              go_roundw
              case rel =>
                refine ⟨k + 1, by omega, by go_num, ⟨_, rfl⟩, fun j hj => ?_⟩
                by_cases e : j = k
                · rw [e, Hx.out, Hy.out, Hxy.out]
                · exact hpre.out j (by omega)
              case measure => simp [intOf]; omega
            · have hd : (x != y) = true := by rw [bne_iff_ne]; exact hxy
              have hfin := hidden (show decide (A = B) = false by
                rw [decide_eq_false_iff_not]
                intro e
                exact hxy (by rw [← Hx.out, ← Hy.out, e]))
              go_wp2
              go_quiet (fail)
              go_wp2
              go_ret
              exact ⟨by rw [hfin.out]; rfl, _, World.drewN_drewN _ _ _⟩
      · have hfin := hidden (show decide (A = B) = true by
          rw [decide_eq_true_eq]
          exact eq_of_getD_i Hl.out (fun j hj => hpre.out j (by have := Hn.out; omega)))
        go_wp2
        go_ret
        exact ⟨by rw [hfin.out]; rfl, _, rfl⟩
  · have hfin := hidden (show decide (A = B) = false by
      rw [decide_eq_false_iff_not]
      exact fun e => hl (by rw [e]))
    have hl' : ((A.length : Int) != (B.length : Int)) = true := by rw [bne_iff_ne]; omega
    generalize A.length = n at *
    generalize B.length = m at *
    clear hl a1 a2 b1 b2
    go_enter Try.func10, Try.ntmps10
    go_wp2
    go_ret
    exact ⟨by rw [hfin.out]; rfl, 0, rfl⟩

set_option maxHeartbeats 1000000 in
theorem own_any (v : Value) (L : List Int) (w : World) (h : Ri w v L) (hl : L.length ≤ 100000) :
    Calls Try.prog 6 #[v] w fun e w' => ∃ u, e = .returned u ∧ w'.ownsRow 0 3 1 u L.length (i64s L) ∧ (∀ k, u.ownBlock = some k → w.heap.size ≤ k) ∧ Step (fun _ => False) w w' := by
  obtain ⟨i0, hi, hz0, hz1, hz2⟩ := info_parts Try.info3
  have h' := h
  obtain ⟨ao, cv, hv, _, h1, _⟩ := h
  rw [hv] at h' ⊢
  have hown := hidden (show (w.alloc (.cells #[] 3)).ownsRow 0 3 1 (.slice (some ⟨w.heap.size, 0, none⟩) 0 0) 0 [] by
    have := World.ownsRow_lit (base := 0) (e := 3) (size := 1) w #[] 0 (Nat.zero_le _) (Nat.zero_le _) rfl
    simpa using this)
  have hrd := h'.made ((Step.refl (fun _ => False) w).alloc (.cells #[] 3))
  cases ao with
  | none =>
    obtain ⟨rfl, rfl⟩ := h1 rfl
    clear h1 h' hrd hv
    go_enter Try.func6, Try.ntmps6
    go_wp2_with (at_builtin; refine wpList_append_stop rfl (.tmp 3) (.tmp 4) 22 rfl 3 i0 1 Try.underlying22 hi _ _ _ rfl hown.out rfl ?_)
    unfold Hid
    go_wp2
    go_ret
    exact ⟨_, rfl, hown.out, fun k hk => by simp [Value.ownBlock] at hk; omega, (Step.refl _ _).alloc _⟩
  | some a =>
    have hnews := hidden hrd.news
    have hm : L.length ≤ maxLen := by unfold maxLen; omega
    generalize hL : L.length = n at *
    have HL := hidden hL
    clear h1 h' hrd hv hL
    go_enter Try.func6, Try.ntmps6
    go_wp2_with (at_builtin; refine wpList_append_at _ rfl (.tmp 3) (.tmp 4) 22 rfl 3 i0 (.int .i64 0) 1 8 Try.underlying22 hi hz0 hz1 hz2 rfl (by decide) _ 0 [] rfl hown.out a n cv (i64s L) rfl ?c0 hnews.out (i64s_one _) ?c3 ?c4 ?_)
    case c0 => rw [i64s_length, HL.out]; omega
    case c3 => omega
    case c4 => omega
    intro v1 w1 hown1 hgrow1 hnil1 hb1
    have HO1 := hidden (show w1.ownsRow 0 3 1 v1 n (i64s L) by simpa using hown1)
    have HS1 := hidden (show Step (fun _ => False) w w1 from ((Step.refl _ _).alloc _).grown hgrow1 (fun k hk => .inr (by simp [Value.ownBlock] at hk; omega)))
    have HB1 := hidden (show ∀ k, v1.ownBlock = some k → w.heap.size ≤ k by
      intro k hk
      rcases hb1 with e | e
      · rw [e] at hk; simp [Value.ownBlock] at hk; omega
      · rw [e] at hk; have := Option.some.inj hk; omega)
    clear hown1 hgrow1 hnil1 hb1
    go_wp2
    go_ret
    exact ⟨_, rfl, HO1.out, HB1.out, HS1.out⟩

end Go.Proofs.Ytkglackbbcfhbaa
