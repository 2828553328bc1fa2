/-
  rarestFirst: the symbols that come at all, the rarest first.
-/
import Derived.Test.YtkglackbbcfhbaaHSortS
import Derived.Test.YtkglackbbcfhbaaHRareN
namespace Go.Proofs.Ytkglackbbcfhbaa
open Go.RowKit
set_option maxRecDepth 100000

theorem ins_nil (B : Nat) (w : World) : Calls Try.prog 37 #[.slice none 0 0, .int .i64 0, .int .i64 0, cmpV B] w fun e w' => (∃ u, e = .returned u) ∧ w' = w := by
  go_enter Try.func37, Try.ntmps37
  go_wp2
  go_loopw [8] (fun i wr => i = .int .i64 1 ∧ wr = w) (fun _ _ => 0)
  case atStart => exact ⟨rfl, rfl⟩
  case round =>
    obtain ⟨rfl, rfl⟩ := hrel
    go_wp2
    go_end0
    exact ⟨⟨_, rfl⟩, rfl⟩

theorem stable_nil (B : Nat) (w : World) : Calls Try.prog 35 #[.slice none 0 0, .int .i64 0, cmpV B] w fun e w' => (∃ u, e = .returned u) ∧ w' = w := by
  go_enter Try.func35, Try.ntmps35
  go_wp2
  go_loopw [7, 8] (fun a b wr => a = .int .i64 0 ∧ b = .int .i64 20 ∧ wr = w) (fun _ _ _ => 0)
  case atStart => exact ⟨rfl, rfl, rfl⟩
  case round =>
    obtain ⟨rfl, rfl, rfl⟩ := hrel
    go_wp2_with (go_at_call 37; refine (ins_nil B _).mono ?_)
    rintro e w2 ⟨⟨u, rfl⟩, rfl⟩
    go_wp2
    go_loopw [6, 7, 8, 9] (fun s _ _ _ wr => s = .int .i64 20 ∧ wr = w2) (fun _ _ _ _ _ => 0)
    case atStart => exact ⟨rfl, rfl⟩
    case round =>
      obtain ⟨rfl, rfl⟩ := hrel
      go_wp2
      go_end0
      exact ⟨⟨_, rfl⟩, rfl⟩

theorem sort_nil (B : Nat) (w : World) : Calls Try.prog 29 #[.slice none 0 0, cmpV B] w fun e w' => (∃ u, e = .returned u) ∧ w' = w := by
  go_enter Try.func29, Try.ntmps29
  go_wp2_with (go_at_call 35; refine (stable_nil B _).mono ?_)
  rintro e w2 ⟨⟨u, rfl⟩, rfl⟩
  go_wp2
  go_end0
  exact ⟨⟨_, rfl⟩, rfl⟩

/-- What rarestFirst leaves. -/
def RareP (O : List Int) (m : Int) (w : World) (e : Ending) (w' : World) : Prop :=
  (mayB O m = false ∧ e = .returned (.tuple #[.slice none 0 0, .bool false]) ∧ Step (fun _ => False) w w') ∨
  (mayB O m = true ∧ ∃ u D, e = .returned (.tuple #[u, .bool true]) ∧ List.Perm D (posTo O O.length) ∧ Sr O D 0 D.length ∧ Ri w' u D ∧ (∀ a n c, u = .slice (some a) n c → w.heap.size ≤ a.block) ∧ Step (fun _ => False) w w')

theorem row_of_own {w : World} {g n cap : Nat} {D : List Int} (h : w.ownsRow 0 3 1 (.slice (some ⟨g, 0, none⟩) n cap) n (i64s D)) : Row w g D ∧ n = D.length := by
  have hl := h.1
  rw [i64s_length, Nat.mul_one] at hl
  refine ⟨fun k hk => ?_, hl.symm⟩
  rcases h.2 with ⟨h', _⟩ | ⟨g', cap', cur, e, _, hg, _⟩
  · cases h'
  · injection e with e1
    have e2 := Option.some.inj e1
    injection e2 with e3
    subst e3
    refine ⟨?_, ?_⟩
    · rw [h.cellAt k (by omega), i64s_get?]
      simp [List.getD, hk]
    · unfold World.frozen?
      rw [hg]
      simp

set_option maxHeartbeats 2000000 in
theorem rare_any (v : Value) (O : List Int) (m : Int) (w : World) (h : Ri w v O) (hl : O.length ≤ 9223372036854775807) (hS : ∀ n, n = (posTo O O.length).length → SortOk n) :
    Calls Try.prog 17 #[v, .int .i64 m] w (RareP O m w) := by
  obtain ⟨i0, hi, hz0, hz1, hz2⟩ := info_parts Try.info3
  have HR := hidden h
  obtain ⟨ao, cap, rfl, hcap, r1, r2⟩ := h
  have H1 := hidden r1
  have H2 := hidden r2
  have HS := hidden hS
  obtain ⟨n, hn⟩ : ∃ n, n = O.length := ⟨_, rfl⟩
  have Hn := hidden hn
  rw [← hn] at hl hcap HR ⊢
  clear hn r1 r2 hS
  by_cases hin : n ≤ 320 ∧ 1 ≤ m ∧ m ≤ 15
  · obtain ⟨h320, hm1, hm15⟩ := hin
    go_enter Try.func17, Try.ntmps17
    go_wp2
    go_loopw [6, 7, 8, 22] (fun u _ _ i wr => ∃ k : Nat, k ≤ n ∧ i = .int .i64 k ∧ ∃ uo un uc, u = .slice uo un uc ∧ Hid (wr.ownsRow 0 3 1 (.slice uo un uc) un (i64s (posTo O k)) ∧ un = (posTo O k).length ∧ (∀ j, (Value.slice uo un uc).ownBlock = some j → w.heap.size < j) ∧ wr.cell? ⟨w.heap.size, 0, none⟩ = some (.slice ao n cap) ∧ w.heap.size < wr.heap.size ∧ Step (fun _ => False) w wr ∧ oftTo O k)) (fun _ _ _ i _ => n - (intOf i).toNat)
    case atStart => exact ⟨0, Nat.zero_le _, rfl, none, 0, 0, rfl, World.ownsRow_nil _ _ _ _, rfl, (fun j h => by simp [Value.ownBlock] at h), by simp, by simp, (Step.refl _ _).alloc _, fun j hj => by omega⟩
    case round =>
      obtain ⟨k, hk, rfl, uo, un, uc, rfl, hrest⟩ := hrel
      obtain ⟨q1, q2, q3, q4, q5, q6, q7⟩ := hrest.out
      have HQ1 := hidden q1
      have HQ2 := hidden q2
      have HQ3 := hidden q3
      have HQ6 := hidden q6
      have HQ7 := hidden q7
      clear hrest q1 q2 q3 q6 q7
      by_cases hlt : k < n
      · cases ao with
        | none => have := (H1.out rfl).1; have := Hn.out; subst O; simp at this; omega
        | some a =>
          obtain ⟨ba, oa, rfl, ka⟩ := H2.out a rfl (by intro e; have := Hn.out; subst e; simp at this; omega)
          have hkO : k < O.length := by have := Hn.out; omega
          have ca := HQ6.out.cell (ka k hkO) (fun h => h)
          have k1 : (k : Int) < (n : Int) := by omega
          clear ka
          by_cases hok : 0 ≤ O.getD k 0 ∧ O.getD k 0 ≤ 1048576
          · have HO := hidden (oftTo_succ HQ7.out hok)
            by_cases hpos : 0 < O.getD k 0
            · have HP := hidden (posTo_yes O k hpos)
              have hun : un ≤ 320 := by have := HQ2.out; have := posTo_length O k; omega
              obtain ⟨h0, h20⟩ := hok
              generalize O.getD k 0 = x at *
              go_wp2_with (at_builtin; refine wpList_append_at _ rfl (.tmp 35) (.tmp 37) 22 rfl 3 i0 (.int .i64 0) 1 8 Try.underlying22 hi hz0 hz1 hz2 rfl (by decide) _ _ _ rfl (HQ1.out.alloc _) ⟨wr.heap.size, 0, none⟩ 1 1 [.int .i64 (k : Int)] rfl rfl ?d1 ?d2 ?d3 ?d4 ?_)
              case d1 => exact cell_one_new _ _ _
              case d2 => intro u hu; simp at hu; subst hu; rfl
              case d3 => unfold maxLen; omega
              case d4 => omega
              intro v' w' hown' hgrow' _ hb'
              obtain ⟨ao', cap', rfl⟩ := own_slice hown'
              have HOW := hidden hown'
              have HG := hidden hgrow'
              have HB := hidden hb'
              clear hown' hgrow' hb'
              go_wp2
              go_roundw
              case rel =>
                have hst : Step (fun _ => False) w w' := (HQ6.out.alloc _).grown HG.out (fun j hj => .inr (by have := HQ3.out j hj; omega))
                have hsz : wr.heap.size < w'.heap.size := by have := HG.out.size; simp at this; omega
                refine ⟨k + 1, by omega, by go_num, _, _, _, rfl, ?_, ?_, fun j hj => ?_, ?_, by omega, hst, HO.out⟩
                · rw [HP.out, i64s_append]; exact HOW.out
                · rw [HP.out, List.length_append, HQ2.out]; rfl
                · rcases HB.out with e | e
                  · rw [e] at hj; exact HQ3.out j hj
                  · rw [e] at hj; have := Option.some.inj hj; omega
                · rw [World.cell?_of_block (HG.out.block w.heap.size (by simp; omega) (fun e => by have := HQ3.out w.heap.size e.symm; omega))]
                  rw [World.cell?_alloc_past _ _ _ q5]
                  exact q4
              case measure => simp [intOf]; omega
            · have HP := hidden (posTo_no O k hpos)
              have hz : O.getD k 0 = 0 := by omega
              rw [hz] at ca
              clear hok hpos hz
              go_wp2
              go_roundw
              case rel => exact ⟨k + 1, by omega, by go_num, _, _, _, rfl, by rw [HP.out]; exact HQ1.out, by rw [HP.out]; exact HQ2.out, HQ3.out, q4, q5, HQ6.out, HO.out⟩
              case measure => simp [intOf]; omega
          · have HM := hidden (mayB_not (O := O) (m := m) (fun h => oft_bad hkO hok h.2.2.2.1))
            generalize O.getD k 0 = x at *
            by_cases hneg : x < 0
            · go_wp2
              go_ret2
              exact .inl ⟨HM.out, rfl, HQ6.out⟩
            · have hbig : 1048576 < x := by omega
              have hpos : 0 ≤ x := by omega
              go_wp2
              go_ret2
              exact .inl ⟨HM.out, rfl, HQ6.out⟩
      · have e : k = n := by omega
        subst e
        have HO := hidden (show oftB O = true from oftTo_all (by rw [← Hn.out]; exact HQ7.out))
        obtain ⟨M, rfl⟩ := Int.eq_ofNat_of_zero_le (show 0 ≤ m by omega)
        have hp24 := ipow_le_24 M (by omega)
        have hp1 := ipow_pos M
        have hun : un ≤ 320 := by have := HQ2.out; have := posTo_length O k; omega
        by_cases hmany : (2 : Int) ^ M < (un : Int)
        · have HM := hidden (mayB_not (O := O) (m := (M : Int)) (fun h => by
            have h5 := h.2.2.2.2
            rw [← Hn.out, ← HQ2.out] at h5
            have e : ((2 ^ M : Nat) : Int) = (2 : Int) ^ M := by simp
            simp only [Int.toNat_natCast] at h5
            omega))
          go_wp2
          go_ret2
          exact .inl ⟨HM.out, rfl, HQ6.out⟩
        · have HM := hidden (show mayB O (M : Int) = true by
            rw [mayB_iff]
            refine ⟨by have := Hn.out; omega, by omega, by omega, HO.out, ?_⟩
            rw [← Hn.out, ← HQ2.out]
            have e : ((2 ^ M : Nat) : Int) = (2 : Int) ^ M := by simp
            simp only [Int.toNat_natCast]
            omega)
          have hmany' : (un : Int) ≤ (2 : Int) ^ M := by omega
          have hw : wrap64 ((2 : Int) ^ M) = (2 : Int) ^ M := wrap64_id _ (by omega) (by omega)
          cases uo with
          | none =>
            have hz : un = 0 ∧ uc = 0 ∧ posTo O k = [] := by
              rcases HQ1.out.2 with ⟨e, h0⟩ | ⟨g, c, cur, e, _⟩
              · injection e with _ _ e3
                have : (posTo O k).length = 0 := by have := HQ2.out; omega
                exact ⟨h0, e3, List.eq_nil_of_length_eq_zero this⟩
              · injection e with e1; cases e1
            obtain ⟨rfl, rfl, hpe⟩ := hz
            have HPE := hidden hpe
            clear hpe
            go_wp2_with (go_at_call 29; refine (sort_nil _ _).mono ?_; rintro e w2 ⟨⟨u, rfl⟩, rfl⟩)
            go_ret2
            exact .inr ⟨HM.out, .slice none 0 0, [], rfl, by rw [← Hn.out, HPE.out], (fun p q _ _ h => by simp at h), ri_nil _, (fun a n c h => by cases h), HQ6.out⟩
          | some p =>
            have hg : ∃ g, p = ⟨g, 0, none⟩ := by
              rcases HQ1.out.2 with ⟨e, h0⟩ | ⟨g, c, cur, e, _⟩
              · injection e with e1; cases e1
              · injection e with e1; exact ⟨g, Option.some.inj e1⟩
            obtain ⟨g, rfl⟩ := hg
            have hgb : w.heap.size < g := HQ3.out g rfl
            obtain ⟨hrow, hlen⟩ := row_of_own HQ1.out
            have hE : Env wr w.heap.size g (.slice ao k cap) O := ⟨q4, HR.out.made HQ6.out, by omega, fun a n c e ne => by
              obtain ⟨ao2, c2, e2, _, _, h2⟩ := HR.out
              rw [e2] at e
              injection e with e3
              obtain ⟨b, o, rfl, hc⟩ := h2 a e3 ne
              have := World.block_lt_of_cell? w _ (hc 0 (by cases O; exact absurd rfl ne; simp))
              show b ≠ g
              have : b < w.heap.size := this
              omega⟩
            have hso := HS.out (posTo O k).length (by rw [Hn.out]) O _ w.heap.size g (posTo O k) uc wr hE hrow (posTo_in O k (by have := Hn.out; omega)) rfl (by have := Hn.out; omega)
            rw [← hlen] at hso
            have HSO := hidden hso
            have HLN := hidden hlen
            have hcap2 : un ≤ uc := by
              rcases HQ1.out.2 with ⟨e, h0⟩ | ⟨g', c, cur, e, _, _, hc, _⟩
              · omega
              · injection e with _ _ e3; omega
            clear hE hrow hso hlen
            go_wp2_with (go_at_call 29; refine HSO.out.mono ?_; rintro e w2 ⟨⟨u, rfl⟩, hrest⟩; have HF := hidden hrest; clear hrest)
            go_ret2
            obtain ⟨D', f1, f2, f3⟩ := HF.out
            have hl' : D'.length = un := by rw [f1.perm.length_eq, HLN.out]
            have hri : Ri w2 (.slice (some ⟨g, 0, none⟩) un uc) D' := by
              have := f2.ri (cap := uc) rfl (by omega) (fun _ _ => rfl)
              rwa [hl'] at this
            have hfr : ∀ a n c, (Value.slice (some ⟨g, 0, none⟩) un uc) = .slice (some a) n c → w.heap.size ≤ a.block := by
              intro a n c h
              injection h with h1
              have := Option.some.inj h1
              subst this
              show w.heap.size ≤ g
              omega
            exact .inr ⟨HM.out, .slice (some ⟨g, 0, none⟩) un uc, D', rfl, by rw [← Hn.out]; exact f1.perm, by rw [hl']; exact f1.sr, hri, hfr, HQ6.out.trans f3 (fun i hi => .inr (by omega))⟩
  · have HM := hidden (mayB_not (O := O) (m := m) (fun h => hin ⟨by rw [Hn.out]; exact h.1, h.2.1, h.2.2.1⟩))
    by_cases h1 : n ≤ 320
    · by_cases h2 : 1 ≤ m
      · have h3 : 15 < m := by omega
        clear hin
        go_enter Try.func17, Try.ntmps17
        go_wp2
        go_ret2
        exact .inl ⟨HM.out, rfl, (Step.refl _ _).alloc _⟩
      · have h3 : m < 1 := by omega
        clear hin
        go_enter Try.func17, Try.ntmps17
        go_wp2
        go_ret2
        exact .inl ⟨HM.out, rfl, (Step.refl _ _).alloc _⟩
    · have h3 : (320 : Int) < (n : Int) := by omega
      clear hin
      go_enter Try.func17, Try.ntmps17
      go_wp2
      go_ret2
      exact .inl ⟨HM.out, rfl, (Step.refl _ _).alloc _⟩

end Go.Proofs.Ytkglackbbcfhbaa
