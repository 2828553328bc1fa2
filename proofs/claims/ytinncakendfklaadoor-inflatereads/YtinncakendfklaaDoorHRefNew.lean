/-
  The page's New.
-/
import Derived.Test.YtinncakendfklaaDoorHBackN
import Derived.Test.YtinncakendfklaaDoorHRef
namespace Go.Proofs.YtinncakendfklaaDoor
open Go.RowKit
set_option maxRecDepth 100000
set_option linter.unusedVariables false

/-- The page's decoder in block d. -/
structure RDec (w : World) (d : Nat) (L : List Int) (vc vl : Value) (code n : Nat) : Prop where
  c0 : w.cell? ⟨d, 0, none⟩ = some vc
  c1 : w.cell? ⟨d, 1, none⟩ = some vl
  c2 : w.cell? ⟨d, 2, none⟩ = some (.int .i64 (code : Int))
  c3 : w.cell? ⟨d, 3, none⟩ = some (.int .i64 (n : Int))
  rc : Ri w vc (codes L)
  rl : Ri w vl L
  f2 : w.frozen? ⟨d, 2, none⟩ = false
  f3 : w.frozen? ⟨d, 3, none⟩ = false
  nc : ∀ a n c, vc = .slice (some a) n c → codes L ≠ [] → a.block < d
  nl : ∀ a n c, vl = .slice (some a) n c → L ≠ [] → a.block < d

/-- What the page's New leaves. -/
def RNewP (L : List Int) (w : World) (e : Ending) (w' : World) : Prop :=
  (newErr L ≠ 0 ∧ e = .returned (.tuple #[.pointer none, .int .i64 (newErr L)]) ∧ Step (fun _ => False) w w') ∨
  (newErr L = 0 ∧ ∃ d vc vl, e = .returned (.tuple #[.pointer (some ⟨d, 0, none⟩), .int .i64 0]) ∧ w.heap.size ≤ d ∧ RDec w' d L vc vl 0 0 ∧ (∀ a n c, vc = .slice (some a) n c → w.heap.size ≤ a.block) ∧ (∀ a n c, vl = .slice (some a) n c → w.heap.size ≤ a.block) ∧ Step (fun _ => False) w w')

theorem ri_block {w : World} {a : Addr} {n c : Nat} {L : List Int} (h : Ri w (.slice (some a) n c) L) (hne : L ≠ []) : a.block < w.heap.size := by
  obtain ⟨ao, c', e, _, _, h2⟩ := h
  injection e with e1
  obtain ⟨b, o, rfl, hc⟩ := h2 a e1.symm hne
  exact World.block_lt_of_cell? w _ (hc 0 (by cases L; exact absurd rfl hne; simp))

theorem rdec_new {w : World} {L : List Int} {a1 a2 : Option Addr} {n1 n2 k1 k2 : Nat} (r1 : Ri w (.slice a1 n1 k1) (codes L)) (r2 : Ri w (.slice a2 n2 k2) L) (t : TypeId) :
    RDec (w.alloc (.cells #[.slice a1 n1 k1, .slice a2 n2 k2, .int .i64 0, .int .i64 0] t)) w.heap.size L (.slice a1 n1 k1) (.slice a2 n2 k2) 0 0 := by
  have hc : ∀ k v, (#[Value.slice a1 n1 k1, .slice a2 n2 k2, .int .i64 0, .int .i64 0])[k]? = some v → (w.alloc (.cells #[.slice a1 n1 k1, .slice a2 n2 k2, .int .i64 0, .int .i64 0] t)).cell? ⟨w.heap.size, k, none⟩ = some v := fun k v h => by rw [World.cell?_alloc_at _ _ _ _ rfl]; exact h
  exact ⟨hc 0 _ rfl, hc 1 _ rfl, hc 2 _ rfl, hc 3 _ rfl, r1.made ((Step.refl _ w).alloc _), r2.made ((Step.refl _ w).alloc _), World.frozen?_alloc_at _ _ _ _ rfl, World.frozen?_alloc_at _ _ _ _ rfl,
    fun a n c e ne => by injection e with e1; subst e1; exact ri_block r1 ne, fun a n c e ne => by injection e with e1; subst e1; exact ri_block r2 ne⟩

set_option maxHeartbeats 4000000 in
theorem refNew_any (v : Value) (L : List Int) (w : World) (h : Ri w v L) (hl : L.length ≤ 9223372036854775807) :
    Calls Tryd.prog 14 #[v] w (RNewP L w) := by
  obtain ⟨i0, hi, hz0, hz1, hz2⟩ := info_parts Tryd.info3
  have HI := hidden (is_any v L w h hl)
  have HFi := hidden (fun (h1 : L.length ≤ 400) (h2 : ∀ x ∈ L, 0 ≤ x ∧ x ≤ 15) => refFill_any v L w h h1 h2)
  have HCO := hidden (refCodes_any v L w h hl)
  have HR := hidden h
  obtain ⟨ao, cap, rfl, hcap, r1, r2⟩ := h
  have H1 := hidden r1
  have H2 := hidden r2
  obtain ⟨n, hn⟩ : ∃ n, n = L.length := ⟨_, rfl⟩
  have Hn := hidden hn
  rw [← hn] at hl hcap HI HFi HCO HR ⊢
  clear hn r1 r2
  cases hok : okB L with
  | false =>
    have X := hidden (show newErr L = 1 by simp [newErr, hok])
    rw [hok] at HI
    clear hok
    go_enter Tryd.func14, Tryd.ntmps14
    go_wp2_with (go_at_call 19; refine HI.out.mono ?_; rintro e w1 ⟨rfl, hw⟩; rw [hw]; clear hw w1)
    go_ret2
    exact .inl ⟨by rw [X.out]; omega, by rw [X.out]; rfl, Step.refl _ _⟩
  | true =>
    have E := hidden hok
    have HL := hidden ((okB_iff L).1 hok)
    have h320 : n ≤ 320 := by rw [Hn.out]; exact HL.out.1
    have HF := hidden (HFi.out (by omega) HL.out.2)
    rw [hok] at HI
    clear hok
    go_enter Tryd.func14, Tryd.ntmps14
    go_wp2_with (go_at_call 19; refine HI.out.mono ?_; rintro e w1 ⟨rfl, hw⟩; rw [hw]; clear hw w1)
    go_loopw [4, 5, 6] (fun m o i wr => ∃ k : Nat, k ≤ n ∧ i = .int .i64 (k : Int) ∧ m = .int .i64 (mny L k) ∧ o = .int .i64 (onl L k) ∧ wr = w) (fun _ _ i _ => n - (intOf i).toNat)
    case atStart => exact ⟨0, Nat.zero_le _, rfl, rfl, rfl, rfl⟩
    case round =>
      obtain ⟨k, hk, rfl, rfl, rfl, hww⟩ := hrel
      subst hww
      by_cases hlt : k < n
      · have hkL : k < L.length := by have := Hn.out; omega
        cases ao with
        | none => have := (H1.out rfl).1; subst this; simp at hkL
        | some a =>
          obtain ⟨ba, oa, rfl, ka⟩ := H2.out a rfl (by intro e; subst e; simp at hkL)
          have ca := ka k hkL
          have k1 : (k : Int) < (n : Int) := by omega
          have mb := mny_bd L k
          have HM := hidden (show mny L (k + 1) = if 0 < L.getD k 0 then mny L k + 1 else mny L k from rfl)
          have HN := hidden (show onl L (k + 1) = if 0 < L.getD k 0 then L.getD k 0 else onl L k from rfl)
          clear ka hkL
          generalize L.getD k 0 = x at *
          generalize mny L k = mk at *
          generalize onl L k = ok at *
          by_cases hx : 0 < x
          · rw [if_pos hx] at HM HN
            go_wp2
            go_roundw
            case rel => exact ⟨k + 1, by omega, by go_num, by rw [HM.out], by rw [HN.out], by trivial⟩
            case measure => simp [intOf]; omega
          · rw [if_neg hx] at HM HN
            go_wp2
            go_roundw
            case rel => exact ⟨k + 1, by omega, by go_num, by rw [HM.out], by rw [HN.out], by trivial⟩
            case measure => simp [intOf]; omega
      · have e : k = n := by omega
        subst e
        have HFW := hidden (few_iff L HL.out.2)
        rw [← Hn.out] at HFW
        generalize hM : mny L k = M at *
        generalize hO : onl L k = O at *
        clear hM hO
        by_cases hbad : ¬ fl (cf L) 16 = 32768 ∧ ¬ M = 0 ∧ (¬ M = 1 ∨ ¬ O = 1)
        · have X := hidden (show newErr L = 21 by
            unfold newErr
            rw [if_pos E.out, if_neg]
            rintro (h | h)
            · exact hbad.1 h
            · have := HFW.out.1 h; omega)
          obtain ⟨q1, q2, q3⟩ := hbad
          have b1 : (fl (cf L) 16 != 32768) = true := by rw [bne_iff_ne]; exact q1
          have b2 : (M != 0) = true := by rw [bne_iff_ne]; exact q2
          generalize fl (cf L) 16 = F at *
          clear q1 q2
          by_cases h1 : M = 1
          · have h2 : ¬ O = 1 := by omega
            have b3 : (M != 1) = false := by simp [h1]
            have b4 : (O != 1) = true := by rw [bne_iff_ne]; exact h2
            clear q3 h1 h2
            go_wp2_with (go_at_call 20; refine HF.out.mono ?_; rintro e w1 ⟨rfl, hw⟩; rw [hw]; clear hw w1)
            go_ret2
            exact .inl ⟨by rw [X.out]; omega, by rw [X.out]; rfl, Step.refl _ _⟩
          · have b3 : (M != 1) = true := by rw [bne_iff_ne]; exact h1
            clear q3 h1
            go_wp2_with (go_at_call 20; refine HF.out.mono ?_; rintro e w1 ⟨rfl, hw⟩; rw [hw]; clear hw w1)
            go_ret2
            exact .inl ⟨by rw [X.out]; omega, by rw [X.out]; rfl, Step.refl _ _⟩
        · have X := hidden (show newErr L = 0 by
            unfold newErr
            rw [if_pos E.out, if_pos]
            by_cases h : fl (cf L) 16 = 32768
            · exact .inl h
            · exact .inr (HFW.out.2 (by omega)))
          have HCE := hidden (And.intro (newErr_codes L X.out).1 (codeErr_ok (newErr_codes L X.out).1).2.2)
          by_cases hF : fl (cf L) 16 = 32768
          · have b1 : (fl (cf L) 16 != 32768) = false := by simp [hF]
            generalize fl (cf L) 16 = F at *
            clear hF hbad
            go_wp2_with (first | (go_at_call 20; refine HF.out.mono ?_; rintro e w1 ⟨rfl, hw⟩; rw [hw]; clear hw w1) | fail)
            refine HCO.out.mono ?_
            rintro e w2 ⟨v2, rfl, rr, fr, hs2⟩
            rw [HCE.out.1]
            rw [HCE.out.2] at rr
            have RR := hidden rr
            have FR := hidden fr
            have S2 := hidden hs2
            obtain ⟨a2, k2, rfl, _⟩ := rr
            clear fr hs2
            have hown := hidden (show (w2.alloc (.cells #[] 3)).ownsRow 0 3 1 (.slice (some ⟨w2.heap.size, 0, none⟩) 0 0) 0 [] by
              have := World.ownsRow_lit (base := 0) (e := 3) (size := 1) w2 #[] 0 (Nat.zero_le _) (Nat.zero_le _) rfl
              simpa using this)
            have hrd := (HR.out.made S2.out).made ((Step.refl (fun _ => False) w2).alloc (.cells #[] 3))
            generalize (codes L).length = cl at *
            cases ao with
            | none =>
              obtain ⟨hLe, hce⟩ := H1.out rfl
              have hk0 : k = 0 := by have := Hn.out; rw [hLe] at this; simpa using this
              subst hk0
              subst hce
              clear hrd
              have HLE := hidden hLe
              clear hLe
              go_wp2_with (at_builtin; refine wpList_append_stop rfl (.tmp 50) (.tmp 51) 25 rfl 3 i0 1 Tryd.underlying25 hi _ _ _ rfl hown.out rfl ?_)
              unfold Hid
              go_wp2
              go_ret2
              have r0 : Ri (w2.alloc (.cells #[] 3)) (.slice (some ⟨w2.heap.size, 0, none⟩) 0 0) L := by
                rw [HLE.out]; exact ⟨_, 0, rfl, by simp, (fun h => by cases h), fun a ha hne => absurd rfl hne⟩
              have rd := rdec_new (RR.out.made ((Step.refl _ w2).alloc (.cells #[] 3))) r0 59
              rw [World.size_alloc] at rd
              exact .inr ⟨X.out, w2.heap.size + 1, _, .slice (some ⟨w2.heap.size, 0, none⟩) 0 0, rfl, by have := S2.out.size; omega, rd, FR.out, (fun a n c h => by injection h with h1; have := Option.some.inj h1; subst this; exact S2.out.size), (S2.out.alloc _).alloc _⟩
            | some a =>
              have hnews := hidden hrd.news
              have HLL : Hid ((i64s L).length = k * 1) := by unfold Hid; rw [i64s_length, ← Hn.out]; omega
              clear hrd
              go_wp2_with (at_builtin; refine wpList_append_at _ rfl (.tmp 50) (.tmp 51) 25 rfl 3 i0 (.int .i64 0) 1 8 Tryd.underlying25 hi hz0 hz1 hz2 rfl (by decide) _ 0 [] rfl hown.out a k cap (i64s L) rfl HLL.out hnews.out (i64s_one _) ?c3 ?c4 ?_)
              case c3 => unfold maxLen; omega
              case c4 => omega
              intro v3 w3 hown3 hgrow3 hnil3 hb3
              have HO3 := hidden (show w3.ownsRow 0 3 1 v3 k (i64s L) by simpa using hown3)
              have HS3 := hidden (show Step (fun _ => False) w2 w3 from ((Step.refl _ _).alloc _).grown hgrow3 (fun k hk => .inr (by simp [Value.ownBlock] at hk; omega)))
              have HB3 := hidden (show ∀ k, v3.ownBlock = some k → w2.heap.size ≤ k by
                intro k hk
                rcases hb3 with e | e
                · rw [e] at hk; simp [Value.ownBlock] at hk; omega
                · rw [e] at hk; have := Option.some.inj hk; omega)
              obtain ⟨a3, k3, rfl⟩ := own_slice HO3.out
              clear hown3 hgrow3 hnil3 hb3
              go_wp2
              go_ret2
              refine .inr ⟨X.out, _, _, _, rfl, by have := S2.out.size; have := HS3.out.size; omega, rdec_new (RR.out.made HS3.out) (Ri.of_own HO3.out) _, FR.out, (fun a n c h => ?_), (S2.out.made HS3.out).alloc _⟩
              injection h with h1
              subst h1
              rcases HO3.out.2 with ⟨e, _⟩ | ⟨g, c, cur, e, _⟩
              · injection e with e1; cases e1
              · injection e with e1
                have e2 := Option.some.inj e1
                subst e2
                have := HB3.out g rfl
                have := S2.out.size
                show wr.heap.size ≤ g
                omega
          · have b1 : (fl (cf L) 16 != 32768) = true := by rw [bne_iff_ne]; exact hF
            generalize fl (cf L) 16 = F at *
            by_cases hM0 : M = 0
            · have b2 : (M != 0) = false := by simp [hM0]
              clear hF hbad hM0
              go_wp2_with (first | (go_at_call 20; refine HF.out.mono ?_; rintro e w1 ⟨rfl, hw⟩; rw [hw]; clear hw w1) | fail)
              refine HCO.out.mono ?_
              rintro e w2 ⟨v2, rfl, rr, fr, hs2⟩
              rw [HCE.out.1]
              rw [HCE.out.2] at rr
              have RR := hidden rr
              have FR := hidden fr
              have S2 := hidden hs2
              obtain ⟨a2, k2, rfl, _⟩ := rr
              clear fr hs2
              have hown := hidden (show (w2.alloc (.cells #[] 3)).ownsRow 0 3 1 (.slice (some ⟨w2.heap.size, 0, none⟩) 0 0) 0 [] by
                have := World.ownsRow_lit (base := 0) (e := 3) (size := 1) w2 #[] 0 (Nat.zero_le _) (Nat.zero_le _) rfl
                simpa using this)
              have hrd := (HR.out.made S2.out).made ((Step.refl (fun _ => False) w2).alloc (.cells #[] 3))
              generalize (codes L).length = cl at *
              cases ao with
              | none =>
                obtain ⟨hLe, hce⟩ := H1.out rfl
                have hk0 : k = 0 := by have := Hn.out; rw [hLe] at this; simpa using this
                subst hk0
                subst hce
                clear hrd
                have HLE := hidden hLe
                clear hLe
                go_wp2_with (at_builtin; refine wpList_append_stop rfl (.tmp 50) (.tmp 51) 25 rfl 3 i0 1 Tryd.underlying25 hi _ _ _ rfl hown.out rfl ?_)
                unfold Hid
                go_wp2
                go_ret2
                have r0 : Ri (w2.alloc (.cells #[] 3)) (.slice (some ⟨w2.heap.size, 0, none⟩) 0 0) L := by
                  rw [HLE.out]; exact ⟨_, 0, rfl, by simp, (fun h => by cases h), fun a ha hne => absurd rfl hne⟩
                have rd := rdec_new (RR.out.made ((Step.refl _ w2).alloc (.cells #[] 3))) r0 59
                rw [World.size_alloc] at rd
                exact .inr ⟨X.out, w2.heap.size + 1, _, .slice (some ⟨w2.heap.size, 0, none⟩) 0 0, rfl, by have := S2.out.size; omega, rd, FR.out, (fun a n c h => by injection h with h1; have := Option.some.inj h1; subst this; exact S2.out.size), (S2.out.alloc _).alloc _⟩
              | some a =>
                have hnews := hidden hrd.news
                have HLL : Hid ((i64s L).length = k * 1) := by unfold Hid; rw [i64s_length, ← Hn.out]; omega
                clear hrd
                go_wp2_with (at_builtin; refine wpList_append_at _ rfl (.tmp 50) (.tmp 51) 25 rfl 3 i0 (.int .i64 0) 1 8 Tryd.underlying25 hi hz0 hz1 hz2 rfl (by decide) _ 0 [] rfl hown.out a k cap (i64s L) rfl HLL.out hnews.out (i64s_one _) ?c3 ?c4 ?_)
                case c3 => unfold maxLen; omega
                case c4 => omega
                intro v3 w3 hown3 hgrow3 hnil3 hb3
                have HO3 := hidden (show w3.ownsRow 0 3 1 v3 k (i64s L) by simpa using hown3)
                have HS3 := hidden (show Step (fun _ => False) w2 w3 from ((Step.refl _ _).alloc _).grown hgrow3 (fun k hk => .inr (by simp [Value.ownBlock] at hk; omega)))
                have HB3 := hidden (show ∀ k, v3.ownBlock = some k → w2.heap.size ≤ k by
                  intro k hk
                  rcases hb3 with e | e
                  · rw [e] at hk; simp [Value.ownBlock] at hk; omega
                  · rw [e] at hk; have := Option.some.inj hk; omega)
                obtain ⟨a3, k3, rfl⟩ := own_slice HO3.out
                clear hown3 hgrow3 hnil3 hb3
                go_wp2
                go_ret2
                refine .inr ⟨X.out, _, _, _, rfl, by have := S2.out.size; have := HS3.out.size; omega, rdec_new (RR.out.made HS3.out) (Ri.of_own HO3.out) _, FR.out, (fun a n c h => ?_), (S2.out.made HS3.out).alloc _⟩
                injection h with h1
                subst h1
                rcases HO3.out.2 with ⟨e, _⟩ | ⟨g, c, cur, e, _⟩
                · injection e with e1; cases e1
                · injection e with e1
                  have e2 := Option.some.inj e1
                  subst e2
                  have := HB3.out g rfl
                  have := S2.out.size
                  show wr.heap.size ≤ g
                  omega
            · have hM1 : M = 1 := by omega
              have hO1 : O = 1 := by omega
              have b2 : (M != 0) = true := by rw [bne_iff_ne]; exact hM0
              have b3 : (M != 1) = false := by simp [hM1]
              have b4 : (O != 1) = false := by simp [hO1]
              clear hF hbad hM0 hM1 hO1
              go_wp2_with (first | (go_at_call 20; refine HF.out.mono ?_; rintro e w1 ⟨rfl, hw⟩; rw [hw]; clear hw w1) | fail)
              refine HCO.out.mono ?_
              rintro e w2 ⟨v2, rfl, rr, fr, hs2⟩
              rw [HCE.out.1]
              rw [HCE.out.2] at rr
              have RR := hidden rr
              have FR := hidden fr
              have S2 := hidden hs2
              obtain ⟨a2, k2, rfl, _⟩ := rr
              clear fr hs2
              have hown := hidden (show (w2.alloc (.cells #[] 3)).ownsRow 0 3 1 (.slice (some ⟨w2.heap.size, 0, none⟩) 0 0) 0 [] by
                have := World.ownsRow_lit (base := 0) (e := 3) (size := 1) w2 #[] 0 (Nat.zero_le _) (Nat.zero_le _) rfl
                simpa using this)
              have hrd := (HR.out.made S2.out).made ((Step.refl (fun _ => False) w2).alloc (.cells #[] 3))
              generalize (codes L).length = cl at *
              cases ao with
              | none =>
                obtain ⟨hLe, hce⟩ := H1.out rfl
                have hk0 : k = 0 := by have := Hn.out; rw [hLe] at this; simpa using this
                subst hk0
                subst hce
                clear hrd
                have HLE := hidden hLe
                clear hLe
                go_wp2_with (at_builtin; refine wpList_append_stop rfl (.tmp 50) (.tmp 51) 25 rfl 3 i0 1 Tryd.underlying25 hi _ _ _ rfl hown.out rfl ?_)
                unfold Hid
                go_wp2
                go_ret2
                have r0 : Ri (w2.alloc (.cells #[] 3)) (.slice (some ⟨w2.heap.size, 0, none⟩) 0 0) L := by
                  rw [HLE.out]; exact ⟨_, 0, rfl, by simp, (fun h => by cases h), fun a ha hne => absurd rfl hne⟩
                have rd := rdec_new (RR.out.made ((Step.refl _ w2).alloc (.cells #[] 3))) r0 59
                rw [World.size_alloc] at rd
                exact .inr ⟨X.out, w2.heap.size + 1, _, .slice (some ⟨w2.heap.size, 0, none⟩) 0 0, rfl, by have := S2.out.size; omega, rd, FR.out, (fun a n c h => by injection h with h1; have := Option.some.inj h1; subst this; exact S2.out.size), (S2.out.alloc _).alloc _⟩
              | some a =>
                have hnews := hidden hrd.news
                have HLL : Hid ((i64s L).length = k * 1) := by unfold Hid; rw [i64s_length, ← Hn.out]; omega
                clear hrd
                go_wp2_with (at_builtin; refine wpList_append_at _ rfl (.tmp 50) (.tmp 51) 25 rfl 3 i0 (.int .i64 0) 1 8 Tryd.underlying25 hi hz0 hz1 hz2 rfl (by decide) _ 0 [] rfl hown.out a k cap (i64s L) rfl HLL.out hnews.out (i64s_one _) ?c3 ?c4 ?_)
                case c3 => unfold maxLen; omega
                case c4 => omega
                intro v3 w3 hown3 hgrow3 hnil3 hb3
                have HO3 := hidden (show w3.ownsRow 0 3 1 v3 k (i64s L) by simpa using hown3)
                have HS3 := hidden (show Step (fun _ => False) w2 w3 from ((Step.refl _ _).alloc _).grown hgrow3 (fun k hk => .inr (by simp [Value.ownBlock] at hk; omega)))
                have HB3 := hidden (show ∀ k, v3.ownBlock = some k → w2.heap.size ≤ k by
                  intro k hk
                  rcases hb3 with e | e
                  · rw [e] at hk; simp [Value.ownBlock] at hk; omega
                  · rw [e] at hk; have := Option.some.inj hk; omega)
                obtain ⟨a3, k3, rfl⟩ := own_slice HO3.out
                clear hown3 hgrow3 hnil3 hb3
                go_wp2
                go_ret2
                refine .inr ⟨X.out, _, _, _, rfl, by have := S2.out.size; have := HS3.out.size; omega, rdec_new (RR.out.made HS3.out) (Ri.of_own HO3.out) _, FR.out, (fun a n c h => ?_), (S2.out.made HS3.out).alloc _⟩
                injection h with h1
                subst h1
                rcases HO3.out.2 with ⟨e, _⟩ | ⟨g, c, cur, e, _⟩
                · injection e with e1; cases e1
                · injection e with e1
                  have e2 := Option.some.inj e1
                  subst e2
                  have := HB3.out g rfl
                  have := S2.out.size
                  show wr.heap.size ≤ g
                  omega

end Go.Proofs.YtinncakendfklaaDoor
