/-
  The page's merge: two rising rows as one.
-/
import Derived.Test.YtkglackbbcfhbaaHRows
import Derived.BigQuiet
namespace Go.Proofs.Ytkglackbbcfhbaa
open Go.RowKit
set_option maxRecDepth 100000
set_option linter.unusedVariables false

/-- Two rows as one. -/
def mg (A B : List Int) : List Int := (mrg A B).map (·.1)
theorem mg_length (A B : List Int) : (mg A B).length = A.length + B.length := by simp [mg, mrg_length]

theorem mg_snoc {A B : List Int} {t : Nat} {x : Int} {b : Bool} (h : (mrg A B).getD t (0, false) = (x, b)) (ht : t < A.length + B.length) : (mg A B).take (t + 1) = (mg A B).take t ++ [x] := by
  have hl : t < (mg A B).length := by rw [mg_length]; exact ht
  have hl2 : t < (mrg A B).length := by rw [mrg_length]; exact ht
  rw [List.take_succ_eq_append_getElem hl]
  have : (mg A B)[t] = x := by
    have h2 : (mrg A B)[t] = (x, b) := by simpa [List.getD, hl2] using h
    simp [mg, h2]
  rw [this]

theorem drop_at (A : List Int) (i : Nat) (h : i < A.length) : A.drop i = A.getD i 0 :: A.drop (i + 1) := by
  rw [List.drop_eq_getElem_cons h, getD_i A i h]
theorem drop_out (A : List Int) (i : Nat) (h : A.length ≤ i) : A.drop i = [] := List.drop_of_length_le h

theorem left_single {A B : List Int} {i k : Nat} (h : Left A B (i + k) (A.drop i) (B.drop k)) (hi : i < A.length) (hk : k ≤ B.length) (hs : B.length ≤ k ∨ A.getD i 0 ≤ B.getD k 0) : (mg A B).take (i + 1 + k) = (mg A B).take (i + k) ++ [A.getD i 0] ∧ Left A B (i + 1 + k) (A.drop (i + 1)) (B.drop k) := by
  rw [drop_at A i hi] at h
  have hg : sg (A.getD i 0 :: A.drop (i + 1)) (B.drop k) = true := by
    by_cases e : B.length ≤ k
    · rw [drop_out B k e]; rfl
    · rw [drop_at B k (by omega), sg_both]
      exact decide_eq_true (by omega)
  obtain ⟨h1, h2⟩ := h.single hg
  rw [show i + 1 + k = i + k + 1 by omega]
  exact ⟨mg_snoc h1 (by omega), h2⟩
theorem left_pair {A B : List Int} {i k : Nat} (h : Left A B (i + k) (A.drop i) (B.drop k)) (hi : i ≤ A.length) (hk : k < B.length) (hs : A.length ≤ i ∨ ¬ A.getD i 0 ≤ B.getD k 0) : (mg A B).take (i + (k + 1)) = (mg A B).take (i + k) ++ [B.getD k 0] ∧ Left A B (i + (k + 1)) (A.drop i) (B.drop (k + 1)) := by
  rw [drop_at B k hk] at h
  have hg : sg (A.drop i) (B.getD k 0 :: B.drop (k + 1)) = false := by
    by_cases e : A.length ≤ i
    · rw [drop_out A i e]; rfl
    · rw [drop_at A i (by omega), sg_both]
      exact decide_eq_false (by omega)
  obtain ⟨h1, h2⟩ := h.pair hg
  rw [show i + (k + 1) = i + k + 1 by omega]
  exact ⟨mg_snoc h1 (by omega), h2⟩

/-- What is known of merge's row between two rounds. -/
def MgI (A B : List Int) (w : World) (i k : Nat) (u : Value) (n : Nat) (wr : World) : Prop :=
  wr.ownsRow 0 3 1 u n (i64s ((mg A B).take (i + k))) ∧ n = i + k ∧ (∀ j, u.ownBlock = some j → w.heap.size ≤ j) ∧ Step (fun _ => False) w wr ∧ Left A B (i + k) (A.drop i) (B.drop k)

set_option maxHeartbeats 4000000 in
theorem refMerge_any (va vb : Value) (A B : List Int) (w : World) (ha : Ri w va A) (hb : Ri w vb B) (hA : A.length ≤ 10000) (hB : B.length ≤ 10000) :
    Calls Try.prog 21 #[va, vb] w fun e w' => ∃ u, e = .returned u ∧ w'.ownsRow 0 3 1 u (A.length + B.length) (i64s (mg A B)) ∧ (∀ j, u.ownBlock = some j → w.heap.size ≤ j) ∧ Step (fun _ => False) w w' := by
  obtain ⟨i0, hi, hz0, hz1, hz2⟩ := info_parts Try.info3
  obtain ⟨ao, ca, rfl, _, a1, a2⟩ := ha
  obtain ⟨bo, cb, rfl, _, b1, b2⟩ := hb
  have A1 := hidden a1
  have A2 := hidden a2
  have B1 := hidden b1
  have B2 := hidden b2
  obtain ⟨n, hn⟩ : ∃ n, n = A.length := ⟨_, rfl⟩
  obtain ⟨m, hm⟩ : ∃ m, m = B.length := ⟨_, rfl⟩
  have Hn := hidden hn
  have Hm := hidden hm
  rw [← hn] at hA ⊢
  rw [← hm] at hB ⊢
  clear hn hm a1 a2 b1 b2
  go_enter Try.func21, Try.ntmps21
  go_wp2
  go_loopw [5, 6, 7] (fun u iv kv wr => ∃ i k : Nat, i ≤ n ∧ k ≤ m ∧ iv = .int .i64 (i : Int) ∧ kv = .int .i64 (k : Int) ∧ ∃ uo un uc, u = .slice uo un uc ∧ Hid (MgI A B w i k (.slice uo un uc) un wr)) (fun _ iv kv _ => (n + m) - ((intOf iv).toNat + (intOf kv).toNat))
  case atStart => exact ⟨0, 0, Nat.zero_le _, Nat.zero_le _, rfl, rfl, none, 0, 0, rfl, World.ownsRow_nil _ _ _ _, rfl, (fun j h => by simp [Value.ownBlock] at h), Step.refl _ _, Left.start A B⟩
  case round =>
    obtain ⟨i, k, hin, hkm, rfl, rfl, uo, un, uc, rfl, hrest⟩ := hrel
    obtain ⟨q1, q2, q3, q4, q5⟩ := hrest.out
    have HQ1 := hidden q1
    have HQ3 := hidden q3
    have HQ4 := hidden q4
    have HQ5 := hidden q5
    have hun : un ≤ 20000 := by omega
    have HUN := hidden q2
    clear hrest q1 q2 q3 q4 q5
    have HFIN := hidden (fun (x : Int) (i' k' : Nat) (hik : i' + k' = i + k + 1) (ht : (mg A B).take (i' + k') = (mg A B).take (i + k) ++ [x]) (hL : Left A B (i' + k') (A.drop i') (B.drop k')) (nq : Nat) (v' : Value) (w' : World) (hown : w'.ownsRow 0 3 1 v' (un + 1) (i64s ((mg A B).take (i + k)) ++ [.int .i64 x])) (hg : ((wr.drewN nq).alloc (.cells #[.int .i64 x] 3)).grownBy w' (Value.slice uo un uc).ownBlock) (hbk : v'.ownBlock = (Value.slice uo un uc).ownBlock ∨ v'.ownBlock = some (wr.heap.size + 1)) =>
      show ∃ uo un uc, v' = .slice uo un uc ∧ Hid (MgI A B w i' k' (.slice uo un uc) un w') by
        obtain ⟨ao', cap', rfl⟩ := own_slice hown
        refine ⟨ao', _, cap', rfl, ?_, ?_, ?_, ?_, hL⟩
        · rw [ht, i64s_append]; exact hown
        · have := HUN.out; omega
        · intro j hj
          rcases hbk with e | e
          · rw [e] at hj; exact HQ3.out j hj
          · rw [e] at hj; have := Option.some.inj hj; have := HQ4.out.size; omega
        · exact ((HQ4.out.drewN nq).alloc _).grown hg (fun j hj => .inr (HQ3.out j hj)))
    by_cases hi' : i < n
    · have hiA : i < A.length := by have := Hn.out; omega
      have i1 : (i : Int) < (n : Int) := by omega
      cases ao with
      | none => have := (A1.out rfl).1; subst this; simp at hiA
      | some a =>
        obtain ⟨ba, oa, rfl, ka⟩ := A2.out a rfl (by intro e; subst e; simp at hiA)
        have cA := HQ4.out.cell (ka i hiA) (fun h => h)
        have HIA := hidden hiA
        clear ka hiA
        by_cases hk' : k < m
        · have hkB : k < B.length := by have := Hm.out; omega
          have k1 : (k : Int) < (m : Int) := by omega
          have kne : ((k : Int) == (m : Int)) = false := by rw [beq_eq_false_iff_ne]; omega
          cases bo with
          | none => have := (B1.out rfl).1; subst this; simp at hkB
          | some b =>
            obtain ⟨bb, ob, rfl, kb⟩ := B2.out b rfl (by intro e; subst e; simp at hkB)
            have cB := HQ4.out.cell (kb k hkB) (fun h => h)
            have HKB := hidden hkB
            clear kb hkB
            by_cases hxy : A.getD i 0 ≤ B.getD k 0
            · have hd : decide (A.getD i 0 ≤ B.getD k 0) = true := decide_eq_true hxy
              have HL := hidden (left_single HQ5.out HIA.out (Nat.le_of_lt HKB.out) (.inr hxy))
              have HF := hidden (HFIN.out (A.getD i 0) (i + 1) k (by omega) HL.out.1 HL.out.2)
              generalize A.getD i 0 = x at *
              generalize B.getD k 0 = y at *
              clear hxy
              go_wp2
              go_quiet (fail)
              go_wp2_with (at_builtin; refine wpList_append_at _ rfl (.tmp 39) (.tmp 44) 22 rfl 3 i0 (.int .i64 0) 1 8 Try.underlying22 hi hz0 hz1 hz2 rfl (by decide) _ _ _ rfl (HQ1.out.alloc _) ⟨wr.heap.size, 0, none⟩ 1 1 [.int .i64 x] rfl rfl ?d1 ?d2 ?d3 ?d4 ?_)
              case d1 => exact cell_one_new _ _ _
              case d2 => intro u hu; simp at hu; subst hu; rfl
              case d3 => unfold maxLen; omega
              case d4 => omega
              intro v' w' hown' hgrow' _ hb'
              obtain ⟨ao', uc', rfl⟩ := own_slice hown'
              have HN := hidden (HF.out _ _ w' hown' hgrow' (by simpa using hb'))
              clear hown' hgrow' hb'
              go_wp2
              go_roundw
              case rel => exact ⟨i + 1, k, by omega, by omega, by go_num, rfl, HN.out⟩
              case measure => simp [intOf]; omega
            · have hd : decide (A.getD i 0 ≤ B.getD k 0) = false := decide_eq_false hxy
              have HL := hidden (left_pair HQ5.out (Nat.le_of_lt HIA.out) HKB.out (.inr hxy))
              have HF := hidden (HFIN.out (B.getD k 0) i (k + 1) (by omega) HL.out.1 HL.out.2)
              generalize A.getD i 0 = x at *
              generalize B.getD k 0 = y at *
              clear hxy
              go_wp2
              go_quiet (fail)
              go_wp2_with (at_builtin; refine wpList_append_at _ rfl (.tmp 48) (.tmp 53) 22 rfl 3 i0 (.int .i64 0) 1 8 Try.underlying22 hi hz0 hz1 hz2 rfl (by decide) _ _ _ rfl (HQ1.out.alloc _) ⟨wr.heap.size, 0, none⟩ 1 1 [.int .i64 y] rfl rfl ?d1 ?d2 ?d3 ?d4 ?_)
              case d1 => exact cell_one_new _ _ _
              case d2 => intro u hu; simp at hu; subst hu; rfl
              case d3 => unfold maxLen; omega
              case d4 => omega
              intro v' w' hown' hgrow' _ hb'
              obtain ⟨ao', uc', rfl⟩ := own_slice hown'
              have HN := hidden (HF.out _ _ w' hown' hgrow' (by simpa using hb'))
              clear hown' hgrow' hb'
              go_wp2
              go_roundw
              case rel => exact ⟨i, k + 1, by omega, by omega, rfl, by go_num, HN.out⟩
              case measure => simp [intOf]; omega
        · have e : k = m := by omega
          subst e
          have keq : ((k : Int) == (k : Int)) = true := by simp
          have HL := hidden (left_single HQ5.out HIA.out (by have := Hm.out; omega) (.inl (by have := Hm.out; omega)))
          have HF := hidden (HFIN.out (A.getD i 0) (i + 1) k (by omega) HL.out.1 HL.out.2)
          generalize A.getD i 0 = x at *
          go_wp2
          go_quiet (fail)
          go_wp2_with (at_builtin; refine wpList_append_at _ rfl (.tmp 39) (.tmp 44) 22 rfl 3 i0 (.int .i64 0) 1 8 Try.underlying22 hi hz0 hz1 hz2 rfl (by decide) _ _ _ rfl (HQ1.out.alloc _) ⟨wr.heap.size, 0, none⟩ 1 1 [.int .i64 x] rfl rfl ?d1 ?d2 ?d3 ?d4 ?_)
          case d1 => exact cell_one_new _ _ _
          case d2 => intro u hu; simp at hu; subst hu; rfl
          case d3 => unfold maxLen; omega
          case d4 => omega
          intro v' w' hown' hgrow' _ hb'
          obtain ⟨ao', uc', rfl⟩ := own_slice hown'
          have HN := hidden (HF.out _ _ w' hown' hgrow' (by simpa using hb'))
          clear hown' hgrow' hb'
          go_wp2
          go_roundw
          case rel => exact ⟨i + 1, k, by omega, by omega, by go_num, rfl, HN.out⟩
          case measure => simp [intOf]; omega
    · have e : i = n := by omega
      subst e
      by_cases hk' : k < m
      · have hkB : k < B.length := by have := Hm.out; omega
        have k1 : (k : Int) < (m : Int) := by omega
        have kne : ((k : Int) == (m : Int)) = false := by rw [beq_eq_false_iff_ne]; omega
        have dlt : decide ((i : Int) < (i : Int)) = false := by simp
        cases bo with
        | none => have := (B1.out rfl).1; subst this; simp at hkB
        | some b =>
          obtain ⟨bb, ob, rfl, kb⟩ := B2.out b rfl (by intro e; subst e; simp at hkB)
          have cB := HQ4.out.cell (kb k hkB) (fun h => h)
          have HKB := hidden hkB
          clear kb hkB
          have HL := hidden (left_pair HQ5.out (by have := Hn.out; omega) HKB.out (.inl (by have := Hn.out; omega)))
          have HF := hidden (HFIN.out (B.getD k 0) i (k + 1) (by omega) HL.out.1 HL.out.2)
          generalize B.getD k 0 = y at *
          go_wp2
          go_quiet (fail)
          go_wp2_with (at_builtin; refine wpList_append_at _ rfl (.tmp 48) (.tmp 53) 22 rfl 3 i0 (.int .i64 0) 1 8 Try.underlying22 hi hz0 hz1 hz2 rfl (by decide) _ _ _ rfl (HQ1.out.alloc _) ⟨wr.heap.size, 0, none⟩ 1 1 [.int .i64 y] rfl rfl ?d1 ?d2 ?d3 ?d4 ?_)
          case d1 => exact cell_one_new _ _ _
          case d2 => intro u hu; simp at hu; subst hu; rfl
          case d3 => unfold maxLen; omega
          case d4 => omega
          intro v' w' hown' hgrow' _ hb'
          obtain ⟨ao', uc', rfl⟩ := own_slice hown'
          have HN := hidden (HF.out _ _ w' hown' hgrow' (by simpa using hb'))
          clear hown' hgrow' hb'
          go_wp2
          go_roundw
          case rel => exact ⟨i, k + 1, by omega, by omega, rfl, by go_num, HN.out⟩
          case measure => simp [intOf]; omega
      · have e : k = m := by omega
        subst e
        have dlt : decide ((i : Int) < (i : Int)) = false := by simp
        have dlt2 : decide ((k : Int) < (k : Int)) = false := by simp
        go_wp2
        go_ret
        refine ⟨_, rfl, ?_, HQ3.out, HQ4.out⟩
        have := HQ1.out
        rw [List.take_of_length_le (by rw [mg_length, ← Hn.out, ← Hm.out]; omega)] at this
        rw [← HUN.out]
        exact this

end Go.Proofs.Ytkglackbbcfhbaa
