/-
  The page's Writer beside rows that stand; a block's lengths, laid.
-/
import Derived.Test.YtkaibpibnkmmbaaDoorILay
import Derived.Test.YtkaibpibnkmmbaaDoorIDynN
import Derived.Test.YtkaibpibnkmmbaaDoorHApp
namespace Go.Proofs.YtkaibpibnkmmbaaDoor
open Go.RowKit
set_option maxRecDepth 100000
set_option linter.unusedVariables false

/-- The page's Writer in block b, with these numbers; the blocks of G are none of its. -/
def Wo (w : World) (b : Nat) (ps : List (Nat × Nat)) (G : Nat → Prop) : Prop := ∃ s, Wx w b s (pcN ps) (pcL ps) ∧ ¬ G b ∧ ∀ k, s.ownBlock = some k → ¬ G k

theorem Wo.wrote {w w' : World} {b : Nat} {ps : List (Nat × Nat)} {G : Nat → Prop} {s : Value} {x n : Nat} (hG : ∀ k, G k → k < w.heap.size) (h1 : ¬ G b) (h2 : ∀ k, s.ownBlock = some k → ¬ G k) (h : WroteX w w' b s (pcN ps + x * 2 ^ pcL ps) (pcL ps + n)) : Wo w' b (ps ++ [(x, n)]) G ∧ Step (fun k => ¬ G k) w w' := by
  obtain ⟨s', a1, a2, a3⟩ := h
  refine ⟨⟨s', by rw [pcN_snoc, pcL_snoc]; exact a1, h1, fun k hk => ?_⟩, a2.mono (fun i hi => ?_)⟩
  · rcases a3 with e | ⟨j, e, hj⟩
    · exact h2 k (by rw [← e]; exact hk)
    · rw [e] at hk; have := Option.some.inj hk; intro hg; have := hG k hg; omega
  · rcases hi with e | e
    · rw [e]; exact h1
    · exact h2 i e
theorem put_o (b : Nat) (ps : List (Nat × Nat)) (G : Nat → Prop) (v n : Nat) (w : World) (h : Wo w b ps G) (hG : ∀ k, G k → k < w.heap.size) (hn : n ≤ 24) (hv : v < 2 ^ n) (hL : pcL ps ≤ 1000000000) :
    Calls Tryd.prog 5 #[.pointer (some ⟨b, 0, none⟩), .int .i64 v, .int .i64 n] w fun e w' => e = .returned (.int .i64 0) ∧ Hid (Wo w' b (ps ++ [(v, n)]) G ∧ Step (fun k => ¬ G k) w w') := by
  obtain ⟨s, h1, h2, h3⟩ := h
  exact (xput_ok b s _ _ v n w h1 hn hv hL).mono fun e w' ⟨he, hw⟩ => ⟨he, Wo.wrote hG h2 h3 hw⟩
theorem code_o (b : Nat) (ps : List (Nat × Nat)) (G : Nat → Prop) (v n : Nat) (w : World) (h : Wo w b ps G) (hG : ∀ k, G k → k < w.heap.size) (hn : n ≤ 15) (hv : v < 2 ^ n) (hL : pcL ps ≤ 1000000000) :
    Calls Tryd.prog 8 #[.pointer (some ⟨b, 0, none⟩), .int .i64 v, .int .i64 n] w fun e w' => e = .returned (.int .i64 0) ∧ Hid (Wo w' b (ps ++ [(rv v n n, n)]) G ∧ Step (fun k => ¬ G k) w w') := by
  obtain ⟨s, h1, h2, h3⟩ := h
  exact (xcode_ok b s _ _ v n w h1 hn hv hL).mono fun e w' ⟨he, hw⟩ => ⟨he, Wo.wrote hG h2 h3 hw⟩
theorem bytes_o (b : Nat) (ps : List (Nat × Nat)) (G : Nat → Prop) (w : World) (h : Wo w b ps G) (hL : pcL ps ≤ 1000000000) :
    Calls Tryd.prog 9 #[.pointer (some ⟨b, 0, none⟩)] w fun e w' => ∃ ao c, e = .returned (.slice ao ((pcL ps + 7) / 8) c) ∧ Hid (Rd w' (.slice ao ((pcL ps + 7) / 8) c) (bytesOf (pcN ps) ((pcL ps + 7) / 8)) ∧ Step (fun _ => False) w w') := by
  obtain ⟨s, h1, h2, h3⟩ := h
  refine (xbytes_any b s _ _ w h1 hL).mono fun e w' ⟨v', he, a1, a2, a3⟩ => ?_
  obtain ⟨ao, c, hv⟩ := own_slice a1
  subst hv
  exact ⟨ao, c, he, hidden ⟨Rd.of_own a1, a2⟩⟩
theorem Wo.new (w : World) (t : TypeId) : Wo (w.alloc (.cells #[.slice none 0 0] t)) w.heap.size [] (fun k => k < w.heap.size) :=
  ⟨.slice none 0 0, ⟨by rw [World.cell?_alloc_at _ _ _ _ rfl]; rfl, World.frozen?_alloc_at _ _ _ _ rfl, World.ownsRow_nil _ _ _ _, by simp [Value.ownBlock], by simp [pcN, pcL]⟩, by omega, fun k hk => by simp [Value.ownBlock] at hk⟩
/-- New blocks stand, too. -/
theorem Wo.made {w w' : World} {b : Nat} {ps : List (Nat × Nat)} {G : Nat → Prop} (h : Wo w b ps G) (hs : Step (fun _ => False) w w') : Wo w' b ps (fun k => G k ∨ (w.heap.size ≤ k ∧ k < w'.heap.size)) := by
  obtain ⟨s, h1, h2, h3⟩ := h
  have hb : b < w.heap.size := World.block_lt_of_cell? w _ h1.out
  refine ⟨s, h1.step hs (fun q => q) (fun _ _ q => q), fun q => q.elim h2 (fun q => by omega), fun k hk q => q.elim (h3 k hk) (fun q => ?_)⟩
  have := (h1.own.lt _ hk).2
  omega

theorem Wo.less {w : World} {b : Nat} {ps : List (Nat × Nat)} {G H : Nat → Prop} (h : Wo w b ps H) (hG : ∀ k, G k → H k) : Wo w b ps G := by
  obtain ⟨s, h1, h2, h3⟩ := h
  exact ⟨s, h1, fun q => h2 (hG _ q), fun k hk q => h3 k hk (hG _ q)⟩
theorem Rd.getAt {w : World} {ao : Option Addr} {n cap : Nat} {B : List Nat} (h : Rd w (.slice ao n cap) B) {k : Nat} (hk : k < B.length) : ∃ g off, ao = some ⟨g, off, none⟩ ∧ ∀ k, k < B.length → w.cell? ⟨g, off + k, none⟩ = some (.int .u8 (B.getD k 0)) := by
  obtain ⟨ao', cap', e, h1, h2⟩ := h
  injection e with e1 e2 e3
  subst e1
  cases ao with
  | none => have := (h1 rfl).1; subst this; simp at hk
  | some a =>
    obtain ⟨b, off, rfl, hc⟩ := h2 a rfl (by intro e; subst e; simp at hk)
    exact ⟨b, off, rfl, hc⟩
theorem clPs_snoc : ∀ (n k : Nat), clPs k (n + 1) = clPs k n ++ [clP (k + n)]
  | 0, k => rfl
  | n + 1, k => by
    show clP k :: clPs (k + 1) (n + 1) = clP k :: (clPs (k + 1) n ++ [clP (k + (n + 1))])
    rw [clPs_snoc n (k + 1), show k + 1 + n = k + (n + 1) by omega]

theorem ord_lit (w : World) (k : Nat) (hk : k < 19) : (w.alloc (.cells #[.int .i64 16, .int .i64 17, .int .i64 18, .int .i64 0, .int .i64 8, .int .i64 7, .int .i64 9, .int .i64 6, .int .i64 10, .int .i64 5, .int .i64 11, .int .i64 4, .int .i64 12, .int .i64 3, .int .i64 13, .int .i64 2, .int .i64 14, .int .i64 1, .int .i64 15] 3)).cell? ⟨w.heap.size, k, none⟩ = some (.int .i64 ((ord k : Nat) : Int)) := by
  rw [World.cell?_alloc_at _ _ _ _ rfl]
  have : ∀ k, k < 19 → (#[Value.int .i64 16, .int .i64 17, .int .i64 18, .int .i64 0, .int .i64 8, .int .i64 7, .int .i64 9, .int .i64 6, .int .i64 10, .int .i64 5, .int .i64 11, .int .i64 4, .int .i64 12, .int .i64 3, .int .i64 13, .int .i64 2, .int .i64 14, .int .i64 1, .int .i64 15] : Array Value)[k]? = some (.int .i64 ((ord k : Nat) : Int)) := by
    intro k hk
    rcases k with _ | _ | _ | _ | _ | _ | _ | _ | _ | _ | _ | _ | _ | _ | _ | _ | _ | _ | _ | k
    all_goals first | rfl | omega
  exact this k hk

set_option maxHeartbeats 4000000 in
theorem lens_any (b : Nat) (ps : List (Nat × Nat)) (G : Nat → Prop) (v : Value) (R : List Nat) (w : World) (h : Wo w b ps G) (hG : ∀ k, G k → k < w.heap.size) (hv : Ri w v (R.map (fun (x : Nat) => (x : Int)))) (hvG : ∀ a n c, v = .slice (some a) n c → G a.block) (hR : R.length = 258) (h16 : ∀ x ∈ R, x < 16) (hL : pcL ps ≤ 1000) :
    Calls Tryd.prog 6 #[.pointer (some ⟨b, 0, none⟩), v, .int .i64 257] w fun e w' => e = .returned (.tuple #[]) ∧ Hid (Wo w' b (ps ++ [(0, 5)] ++ [(0, 5)] ++ [(15, 4)] ++ clPs 0 19 ++ R.map lnP) G ∧ Step (fun k => ¬ G k) w w') := by
  have HRV := hidden hv
  have HVG := hidden hvG
  have HR := hidden hR
  have H16 := hidden h16
  have hG1 := hidden (put_o b ps G 0 5 w h hG (by omega) (by decide) (by omega))
  have hG2 := hidden (fun W (hW : Wo W b (ps ++ [(0, 5)]) G) (hs : w.heap.size ≤ W.heap.size) => put_o b _ G 0 5 W hW (fun k hk => by have := hG k hk; omega) (by omega) (by decide) (by rw [pcL_snoc]; omega))
  have hG3 := hidden (fun W (hW : Wo W b (ps ++ [(0, 5)] ++ [(0, 5)]) G) (hs : w.heap.size ≤ W.heap.size) => put_o b _ G 15 4 W hW (fun k hk => by have := hG k hk; omega) (by omega) (by decide) (by rw [pcL_snoc, pcL_snoc]; omega))
  obtain ⟨P1, hP1⟩ : ∃ P1, P1 = ps ++ [(0, 5)] ++ [(0, 5)] ++ [(15, 4)] := ⟨_, rfl⟩
  have HP1 := hidden hP1
  have hP1l : pcL P1 ≤ 1014 := by rw [hP1, pcL_snoc, pcL_snoc, pcL_snoc]; omega
  have HGW := hidden hG
  obtain ⟨ao, cap, hve, _⟩ := id hv
  rw [List.length_map, hR] at hve
  subst hve
  rw [← hP1] 
  clear h hG hv hvG hR h16 hP1
  go_enter Tryd.func6, Tryd.ntmps6
  go_wp2_with fail
  refine hG1.out.mono ?_
  rintro e w1 ⟨rfl, R1⟩
  go_wp2_with fail
  refine (hG2.out _ R1.out.1 R1.out.2.size).mono ?_
  rintro e w2 ⟨rfl, R2⟩
  go_wp2_with fail
  refine (hG3.out _ R2.out.1 (by have := R1.out.2.size; have := R2.out.2.size; omega)).mono ?_
  rintro e w3 ⟨rfl, R3⟩
  have HS3 := hidden (show Step (fun k => ¬ G k) w w3 from (R1.out.2.trans R2.out.2 (fun i hi => .inl hi)).trans R3.out.2 (fun i hi => .inl hi))
  have HW3 := hidden (show Wo w3 b P1 G by rw [HP1.out]; exact R3.out.1)
  clear R1 R2 R3 hG1 hG2 hG3
  have HORD := hidden (fun k hk => ord_lit w3 k hk)
  obtain ⟨w4, hw4⟩ : ∃ w4, w4 = w3.alloc (.cells #[.int .i64 16, .int .i64 17, .int .i64 18, .int .i64 0, .int .i64 8, .int .i64 7, .int .i64 9, .int .i64 6, .int .i64 10, .int .i64 5, .int .i64 11, .int .i64 4, .int .i64 12, .int .i64 3, .int .i64 13, .int .i64 2, .int .i64 14, .int .i64 1, .int .i64 15] 3) := ⟨_, rfl⟩
  have HS34 := hidden (show Step (fun _ => False) w3 w4 by rw [hw4]; exact (Step.refl _ _).alloc _)
  have HW4 := hidden (show Wo w4 b P1 (fun k => G k ∨ (w3.heap.size ≤ k ∧ k < w4.heap.size)) from HW3.out.made HS34.out)
  have hsz4 : w4.heap.size = w3.heap.size + 1 := by rw [hw4]; simp
  rw [← hw4] at HORD
  go_wp2
  rw [← hw4]
  obtain ⟨ob, hob⟩ : ∃ ob, ob = w3.heap.size := ⟨_, rfl⟩
  rw [← hob] at HORD HW4 hsz4 ⊢
  have HOB := hidden hob
  clear hw4 hob
  go_loopw [7] (fun iv W => ∃ i : Nat, i ≤ 19 ∧ iv = .int .i64 (i : Int) ∧ Hid (Wo W b (P1 ++ clPs 0 i) (fun k => G k ∨ (ob ≤ k ∧ k < w4.heap.size)) ∧ Step (fun k => ¬ (G k ∨ (ob ≤ k ∧ k < w4.heap.size))) w4 W)) (fun iv _ => 19 - (intOf iv).toNat)
  case atStart => exact ⟨0, by omega, rfl, hidden ⟨by simpa [clPs] using HW4.out, Step.refl _ _⟩⟩
  case round =>
    obtain ⟨i, hi, rfl, HH⟩ := hrel
    by_cases hi19 : i < 19
    · have i1 : (i : Int) < 19 := by omega
      have co := HH.out.2.cell (HORD.out i hi19) (fun q => q (.inr ⟨Nat.le_refl _, by show ob < w4.heap.size; omega⟩))
      have hP := hidden (fun (x : Nat) (hx : x < 8) => put_o b (P1 ++ clPs 0 i) (fun k => G k ∨ (ob ≤ k ∧ k < w4.heap.size)) x 3 wr HH.out.1 (fun k hk => by
        have s1 := HH.out.2.size
        rcases hk with q | q
        · have := HGW.out k q; have := HS3.out.size; have := HOB.out; omega
        · omega) (by omega) hx (by rw [pcL_append, clPs_len]; omega))
      have HSN := hidden (show clPs 0 (i + 1) = clPs 0 i ++ [clP i] by rw [clPs_snoc, Nat.zero_add])
      by_cases ho : 15 < ord i
      · have ho' : (15 : Int) < ((ord i : Nat) : Int) := by omega
        have HCP := hidden (show clP i = (0, 3) by unfold clP; rw [if_pos ho])
        have hP0 := hidden (hP.out 0 (by omega))
        clear ho
        generalize ord i = oi at *
        go_wp2_with fail
        refine hP0.out.mono ?_
        rintro e w5 ⟨rfl, R5⟩
        go_wp2
        go_roundw
        case rel => exact ⟨i + 1, by omega, by go_num, hidden ⟨by rw [HSN.out, HCP.out, ← List.append_assoc]; exact R5.out.1, HH.out.2.trans R5.out.2 (fun i hi => .inl hi)⟩⟩
        case measure => simp [intOf]; omega
      · have ho' : ¬ (15 : Int) < ((ord i : Nat) : Int) := by omega
        have HCP := hidden (show clP i = (4, 3) by unfold clP; rw [if_neg ho])
        have hP4 := hidden (hP.out 4 (by omega))
        clear ho
        generalize ord i = oi at *
        go_wp2_with fail
        refine hP4.out.mono ?_
        rintro e w5 ⟨rfl, R5⟩
        go_wp2
        go_roundw
        case rel => exact ⟨i + 1, by omega, by go_num, hidden ⟨by rw [HSN.out, HCP.out, ← List.append_assoc]; exact R5.out.1, HH.out.2.trans R5.out.2 (fun i hi => .inl hi)⟩⟩
        case measure => simp [intOf]; omega
    · have e : i = 19 := by omega
      have HW5 := hidden HH.out
      rw [e] at HW5
      have i1 : ¬ (i : Int) < 19 := by omega
      clear e
      go_wp2
      go_loopw [8] (fun jv W => ∃ j : Nat, j ≤ 258 ∧ jv = .int .i64 (j : Int) ∧ Hid (Wo W b (P1 ++ clPs 0 19 ++ (R.take j).map lnP) (fun k => G k ∨ (ob ≤ k ∧ k < w4.heap.size)) ∧ Step (fun k => ¬ (G k ∨ (ob ≤ k ∧ k < w4.heap.size))) w4 W)) (fun jv _ => 258 - (intOf jv).toNat)
      case atStart => exact ⟨0, by omega, rfl, hidden ⟨by simpa using HW5.out.1, HW5.out.2⟩⟩
      case round =>
        obtain ⟨j, hj, rfl, HJ⟩ := hrel
        by_cases hj2 : j < 258
        · have j1 : (j : Int) < 258 := by omega
          have hjR : j < R.length := by have := HR.out; omega
          obtain ⟨hnr, g, off, hao, hcA⟩ := HRV.out.cell (k := j) (by simpa using hjR)
          subst hao
          clear hnr
          have hcj := hcA j (by simpa using hjR)
          have hgd : (R.map (fun (x : Nat) => (x : Int))).getD j 0 = ((R[j] : Nat) : Int) := by simp [List.getD, hjR]
          rw [hgd] at hcj
          have hgG := HVG.out _ _ _ rfl
          have cl := HJ.out.2.cell (HS34.out.cell (HS3.out.cell hcj (fun q => q hgG)) (fun q => q)) (fun q => q (.inl hgG))
          have hx16 := H16.out R[j] (List.getElem_mem hjR)
          have HTK := hidden (show (R.take (j + 1)).map lnP = (R.take j).map lnP ++ [lnP R[j]] by rw [List.take_succ_eq_append_getElem hjR, List.map_append]; rfl)
          have hlm : ∀ Q : List Nat, pcL (Q.map lnP) = 4 * Q.length := by
            intro Q
            induction Q with
            | nil => rfl
            | cons x Q ih => show 4 + pcL (Q.map lnP) = _; rw [ih]; simp; omega
          have hCD := hidden (code_o b (P1 ++ clPs 0 19 ++ (R.take j).map lnP) (fun k => G k ∨ (ob ≤ k ∧ k < w4.heap.size)) R[j] 4 wr HJ.out.1 (fun k hk => by
            have s1 := HJ.out.2.size
            rcases hk with q | q
            · have := HGW.out k q; have := HS3.out.size; have := HOB.out; omega
            · omega) (by omega) hx16 (by rw [pcL_append, pcL_append, clPs_len, hlm, List.length_take]; omega))
          clear hcA hcj hgd hlm
          generalize R[j] = x at *
          go_wp2_with fail
          refine hCD.out.mono ?_
          rintro e w6 ⟨rfl, R6⟩
          go_wp2
          go_roundw
          case rel => exact ⟨j + 1, by omega, by go_num, hidden ⟨by rw [HTK.out, ← List.append_assoc]; exact R6.out.1, HJ.out.2.trans R6.out.2 (fun i hi => .inl hi)⟩⟩
          case measure => simp [intOf]; omega
        · have e : j = 258 := by omega
          have j1 : ¬ (j : Int) < 258 := by omega
          have HFW := hidden (show Wo wr b (P1 ++ clPs 0 19 ++ R.map lnP) G by
            have := HJ.out.1.less (G := G) (fun k hk => .inl hk)
            rwa [List.take_of_length_le (by rw [HR.out]; omega)] at this)
          clear e
          go_wp2
          go_end0
          refine ⟨rfl, hidden ⟨by first | exact HFW.out | (rw [← List.append_assoc]; exact HFW.out), ?_⟩⟩
          exact (HS3.out.trans HS34.out (fun _ q => q.elim)).trans HJ.out.2 (fun k hk => .inl (fun q => hk (.inl q)))

end Go.Proofs.YtkaibpibnkmmbaaDoor
