/-
  What the laws lay: known, laid.
-/
import Derived.Test.YtlajfidhkaamnabDoorILawN
import Derived.Test.YtlajfidhkaamnabDoorIBytes
import Derived.Test.YtlajfidhkaamnabDoorIWriteB
import Derived.Test.YtlajfidhkaamnabDoorLSame
import Derived.Lib.SlBytesConst
namespace Go.Proofs.YtlajfidhkaamnabDoor
open Go.RowKit
set_option maxRecDepth 100000
set_option linter.unusedVariables false

/-- The page's Writer in block b, made since w0, with these numbers. -/
def Wp (w0 w : World) (b : Nat) (ps : List (Nat × Nat)) : Prop := ∃ s, Wx w b s (pcN ps) (pcL ps) ∧ w0.heap.size ≤ b ∧ (∀ k, s.ownBlock = some k → w0.heap.size ≤ k) ∧ Step (fun _ => False) w0 w

theorem Wp.wrote {w0 w w' : World} {b : Nat} {ps : List (Nat × Nat)} {s : Value} {x n : Nat} (hb : w0.heap.size ≤ b) (hv : ∀ k, s.ownBlock = some k → w0.heap.size ≤ k) (hs : Step (fun _ => False) w0 w) (h : WroteX w w' b s (pcN ps + x * 2 ^ pcL ps) (pcL ps + n)) : Wp w0 w' b (ps ++ [(x, n)]) := by
  obtain ⟨s', h1, h2, h3⟩ := h
  refine ⟨s', by rw [pcN_snoc, pcL_snoc]; exact h1, hb, fun k hk => ?_, hs.trans h2 (fun i hi => .inr ?_)⟩
  · rcases h3 with e | ⟨j, e, hj⟩
    · exact hv k (by rw [← e]; exact hk)
    · rw [e] at hk; have := Option.some.inj hk; have := hs.size; omega
  · rcases hi with e | e
    · rw [e]; exact hb
    · exact hv i e

theorem put_p (w0 : World) (b : Nat) (ps : List (Nat × Nat)) (v n : Nat) (w : World) (h : Wp w0 w b ps) (hn : n ≤ 24) (hv : v < 2 ^ n) (hL : pcL ps ≤ 1000000000) :
    Calls Tryd.prog 10 #[.pointer (some ⟨b, 0, none⟩), .int .i64 v, .int .i64 n] w fun e w' => e = .returned (.int .i64 0) ∧ Hid (Wp w0 w' b (ps ++ [(v, n)])) := by
  obtain ⟨s, h1, h2, h3, h4⟩ := h
  exact (xput_ok b s _ _ v n w h1 hn hv hL).mono fun e w' ⟨he, hw⟩ => ⟨he, Wp.wrote h2 h3 h4 hw⟩
theorem code_p (w0 : World) (b : Nat) (ps : List (Nat × Nat)) (v n : Nat) (w : World) (h : Wp w0 w b ps) (hn : n ≤ 15) (hv : v < 2 ^ n) (hL : pcL ps ≤ 1000000000) :
    Calls Tryd.prog 14 #[.pointer (some ⟨b, 0, none⟩), .int .i64 v, .int .i64 n] w fun e w' => e = .returned (.int .i64 0) ∧ Hid (Wp w0 w' b (ps ++ [(rv v n n, n)])) := by
  obtain ⟨s, h1, h2, h3, h4⟩ := h
  exact (xcode_ok b s _ _ v n w h1 hn hv hL).mono fun e w' ⟨he, hw⟩ => ⟨he, Wp.wrote h2 h3 h4 hw⟩
theorem bytes_p (w0 : World) (b : Nat) (ps : List (Nat × Nat)) (w : World) (h : Wp w0 w b ps) (hL : pcL ps ≤ 1000000000) :
    Calls Tryd.prog 13 #[.pointer (some ⟨b, 0, none⟩)] w fun e w' => ∃ ao c, e = .returned (.slice ao ((pcL ps + 7) / 8) c) ∧ Hid (w'.ownsRow 0 5 1 (.slice ao ((pcL ps + 7) / 8) c) ((pcL ps + 7) / 8) (u8s (bytesOf (pcN ps) ((pcL ps + 7) / 8))) ∧ Step (fun _ => False) w0 w' ∧ (∀ k, (Value.slice ao ((pcL ps + 7) / 8) c).ownBlock = some k → w0.heap.size ≤ k)) := by
  obtain ⟨s, h1, h2, h3, h4⟩ := h
  refine (xbytes_any b s _ _ w h1 hL).mono fun e w' ⟨v', he, a1, a2, a3⟩ => ?_
  obtain ⟨ao, c, hv⟩ := own_slice a1
  subst hv
  exact ⟨ao, c, he, a1, h4.made a2, fun k hk => Nat.le_trans h4.size (a3 k hk)⟩

theorem Wp.new (w : World) (t : TypeId) : Wp w (w.alloc (.cells #[.slice none 0 0] t)) w.heap.size [] :=
  ⟨.slice none 0 0, ⟨by rw [World.cell?_alloc_at _ _ _ _ rfl]; rfl, World.frozen?_alloc_at _ _ _ _ rfl, World.ownsRow_nil _ _ _ _, by simp [Value.ownBlock], by simp [pcN, pcL]⟩, Nat.le_refl _, fun k hk => by simp [Value.ownBlock] at hk, (Step.refl _ w).alloc _⟩

set_option maxHeartbeats 4000000 in
theorem laid_any (va : Value) (P : List Nat) (long far : Nat) (w : World) (ha : Rd w va P) (hP : ∀ c ∈ P, c < 256) (hl : P.length ≤ 3000) (hlo : long = 0 ∨ (3 ≤ long ∧ long ≤ 10)) (hf1 : 1 ≤ far) (hf2 : far ≤ 4) (ps : List (Nat × Nat)) (hps : ps = laidP P long far) :
    Calls Tryd.prog 7 #[va, .int .i64 long, .int .i64 far] w fun e w' => ∃ ao c, e = .returned (.slice ao ((pcL ps + 7) / 8) c) ∧ Hid (w'.ownsRow 0 5 1 (.slice ao ((pcL ps + 7) / 8) c) ((pcL ps + 7) / 8) (u8s (bytesOf (pcN ps) ((pcL ps + 7) / 8))) ∧ Step (fun _ => False) w w' ∧ (∀ k, (Value.slice ao ((pcL ps + 7) / 8) c).ownBlock = some k → w.heap.size ≤ k)) := by
  have HA := hidden ha
  obtain ⟨ao, ca, rfl, a1, a2⟩ := ha
  have HP := hidden hP
  have Hps := hidden hps
  obtain ⟨m, hm⟩ : ∃ m, P.length = m := ⟨_, rfl⟩
  rw [hm] at HA hl ⊢
  have Hm := hidden hm
  have HLO := hidden hlo
  clear a1 a2 hP hps hm hlo
  obtain ⟨G, hG⟩ : ∃ G, (pcL ps + 7) / 8 = G := ⟨_, rfl⟩
  rw [hG]
  have HG := hidden hG
  clear hG
  have HPUT : Hid (∀ (v n : Nat) b qs w1, Wp w w1 b qs → n ≤ 24 → v < 2 ^ n → pcL qs ≤ 1000000000 → Calls Tryd.prog 10 #[.pointer (some ⟨b, 0, none⟩), .int .i64 v, .int .i64 n] w1 fun e w' => e = .returned (.int .i64 0) ∧ Hid (Wp w w' b (qs ++ [(v, n)]))) := hidden (fun v n b qs w1 h1 h2 h3 h4 => put_p w b qs v n w1 h1 h2 h3 h4)
  have HCODE : Hid (∀ (z : Int) (v n : Nat) b qs w1, z = (v : Int) → Wp w w1 b qs → n ≤ 15 → v < 2 ^ n → pcL qs ≤ 1000000000 → Calls Tryd.prog 14 #[.pointer (some ⟨b, 0, none⟩), .int .i64 z, .int .i64 n] w1 fun e w' => e = .returned (.int .i64 0) ∧ Hid (Wp w w' b (qs ++ [(rv v n n, n)]))) := hidden (fun z v n b qs w1 hz h1 h2 h3 h4 => by subst hz; exact code_p w b qs v n w1 h1 h2 h3 h4)
  go_enter Tryd.func7, Tryd.ntmps7
  go_wp2_with fail
  refine (HPUT.out 1 1 _ _ _ (Wp.new w _) (by omega) (by omega) (by simp [pcL])).mono ?_
  rintro e w1 ⟨rfl, W1⟩
  go_wp2_with fail
  refine (HPUT.out 1 2 _ _ _ W1.out (by omega) (by omega) (by simp [pcL])).mono ?_
  rintro e w2 ⟨rfl, W2⟩
  go_wp2
  go_loopw [8] (fun i wr => ∃ k : Nat, i = .int .i64 (k : Int) ∧ k ≤ m ∧ Hid (Wp w wr w.heap.size ((1, 1) :: (1, 2) :: (P.take k).map fixP))) (fun i _ => m - (intOf i).toNat)
  case atStart => exact ⟨0, rfl, Nat.zero_le _, hidden (by simpa using W2.out)⟩
  case round =>
    obtain ⟨k, rfl, hk, HW⟩ := hrel
    have hLb : Hid (pcL ((1, 1) :: (1, 2) :: (P.take k).map fixP) ≤ 1000000000) := hidden (by
      have := lits_len (P.take k)
      have h2 : (P.take k).length ≤ k := by simp; omega
      show 1 + (2 + pcL ((P.take k).map fixP)) ≤ _
      omega)
    by_cases hlt : k < m
    · obtain ⟨s0, q1, q2, q3, q4⟩ := HW.out
      have hRk := HA.out.step q4 (fun _ _ _ _ _ h => h)
      have hne : P ≠ [] := by intro e; have := Hm.out; subst e; simp at this; omega
      obtain ⟨ao1, ca1, e1, e2, e3⟩ := hRk
      injection e1 with x1 x2 x3
      subst x1
      cases ao with
      | none => exact absurd (e2 rfl).1 hne
      | some a =>
        obtain ⟨ba, oa, rfl, hcell⟩ := e3 a rfl hne
        have c0 := hcell k (by rw [Hm.out]; exact hlt)
        have hc256 : P.getD k 0 < 256 := HP.out _ (by simp [List.getD, show k < P.length by rw [Hm.out]; exact hlt])
        have hnext : Hid ((P.take (k + 1)).map fixP = (P.take k).map fixP ++ [fixP (P.getD k 0)]) := hidden (by
          have hkP : k < P.length := by rw [Hm.out]; exact hlt
          rw [List.take_succ_eq_append_getElem hkP, List.map_append]
          simp [List.getD, hkP])
        generalize P.getD k 0 = c at *
        clear q1 q2 q3 q4 e2 e3 hcell hne x2 x3
        by_cases g : c < 144
        · have hg : (c : Int) < 144 := by omega
          have hfx : Hid (fixP c = (rv (48 + c) 8 8, 8)) := hidden (by simp only [fixP, fixC, fixN, if_pos g])
          have hC := hidden (HCODE.out (48 + (c : Int)) (48 + c) 8 _ _ _ (by omega) HW.out (by omega) (by omega) hLb.out)
          go_wp2_with fail
          refine hC.out.mono ?_
          rintro e w3 ⟨rfl, W3⟩
          go_wp2
          go_roundw
          case rel => exact ⟨k + 1, by go_num, by omega, hidden (by rw [hnext.out, hfx.out]; exact W3.out)⟩
          case measure => simp [intOf]; omega
        · have hg : ¬ (c : Int) < 144 := by omega
          have hfx : Hid (fixP c = (rv (256 + c) 9 9, 9)) := hidden (by simp only [fixP, fixC, fixN, if_neg g, if_pos hc256])
          have hC := hidden (HCODE.out (256 + (c : Int)) (256 + c) 9 _ _ _ (by omega) HW.out (by omega) (by omega) hLb.out)
          go_wp2_with fail
          refine hC.out.mono ?_
          rintro e w3 ⟨rfl, W3⟩
          go_wp2
          go_roundw
          case rel => exact ⟨k + 1, by go_num, by omega, hidden (by rw [hnext.out, hfx.out]; exact W3.out)⟩
          case measure => simp [intOf]; omega
    · have hkk : k = m := by omega
      subst hkk
      have hbad : ¬ (k : Int) < (k : Int) := by omega
      have hfull : Hid (P.take k = P) := hidden (List.take_of_length_le (by rw [Hm.out]; exact Nat.le_refl _))
      have HBY : Hid (∀ w1 qs, Wp w w1 w.heap.size qs → qs = ps → Calls Tryd.prog 13 #[.pointer (some ⟨w.heap.size, 0, none⟩)] w1 fun e w' => ∃ ao c, e = .returned (.slice ao G c) ∧ Hid (w'.ownsRow 0 5 1 (.slice ao G c) G (u8s (bytesOf (pcN ps) G)) ∧ Step (fun _ => False) w w' ∧ (∀ k, (Value.slice ao G c).ownBlock = some k → w.heap.size ≤ k))) :=
        hidden (fun w1 qs h1 h2 => by
          subst h2
          have hb := bytes_p w w.heap.size _ w1 h1 ?_
          · rw [HG.out] at hb; exact hb
          rw [Hps.out, laidP_len, laidT_len long far HLO.out]
          have := lits_len P
          have := Hm.out
          split <;> omega)
      have hps2 : Hid (ps = ((1, 1) :: (1, 2) :: (P.take k).map fixP) ++ laidT long far) := hidden (by rw [Hps.out, hfull.out]; rfl)
      by_cases g : long = 0
      · subst g
        have hC := hidden (HCODE.out 0 0 7 _ _ _ rfl HW.out (by omega) (by omega) hLb.out)
        go_wp2_with fail
        refine hC.out.mono ?_
        rintro e w3 ⟨rfl, W3⟩
        go_wp2_with fail
        refine (HBY.out _ _ W3.out (by rw [hps2.out]; rfl)).mono ?_
        rintro e w4 ⟨ao4, c4, rfl, W4⟩
        go_wp2
        go_ret
        exact ⟨ao4, c4, rfl, W4⟩
      · have hpos : (0 : Int) < (long : Int) := by omega
        have hlo := HLO.out
        have hps3 : Hid (ps = (((((1, 1) :: (1, 2) :: (P.take k).map fixP) ++ [(rv (long - 2) 7 7, 7)]) ++ [(rv (far - 1) 5 5, 5)]) ++ [(rv 0 7 7, 7)])) := hidden (by
          rw [hps2.out]
          unfold laidT
          rw [if_neg g]
          have hN : fixN (long + 254) = 7 := by
            unfold fixN
            rw [if_neg (by omega), if_neg (by omega), if_pos (by omega)]
          have hC : fixC (long + 254) = long - 2 := by
            unfold fixC
            rw [if_neg (by omega), if_neg (by omega), if_pos (by omega)]
            omega
          have e1 : fixP (long + 254) = (rv (long - 2) 7 7, 7) := by unfold fixP; rw [hN, hC]
          rw [e1, List.append_assoc, List.append_assoc]
          rfl)
        have hb2 : Hid (∀ x, pcL (((1, 1) :: (1, 2) :: (P.take k).map fixP) ++ [(x, 7)]) ≤ 1000000000) := hidden (fun x => by
          rw [pcL_snoc]
          have := lits_len (P.take k)
          have h2 : (P.take k).length ≤ k := by simp; omega
          show 1 + (2 + pcL ((P.take k).map fixP)) + 7 ≤ _
          omega)
        have hb3 : Hid (∀ x y, pcL ((((1, 1) :: (1, 2) :: (P.take k).map fixP) ++ [(x, 7)]) ++ [(y, 5)]) ≤ 1000000000) := hidden (fun x y => by
          rw [pcL_snoc, pcL_snoc]
          have := lits_len (P.take k)
          have h2 : (P.take k).length ≤ k := by simp; omega
          show 1 + (2 + pcL ((P.take k).map fixP)) + 7 + 5 ≤ _
          omega)
        have hC := hidden (HCODE.out ((long : Int) - 2) (long - 2) 7 _ _ _ (by omega) HW.out (by omega) (by omega) hLb.out)
        have l3 : 3 ≤ long := by omega
        have l10 : long ≤ 10 := by omega
        clear hlo
        go_wp2_with fail
        refine hC.out.mono ?_
        rintro e w3 ⟨rfl, W3⟩
        have hC2 := hidden (HCODE.out ((far : Int) - 1) (far - 1) 5 _ _ _ (by omega) W3.out (by omega) (by omega) (hb2.out _))
        go_wp2_with fail
        refine hC2.out.mono ?_
        rintro e w4 ⟨rfl, W4⟩
        have hC3 := hidden (HCODE.out 0 0 7 _ _ _ rfl W4.out (by omega) (by omega) (hb3.out _ _))
        go_wp2_with fail
        refine hC3.out.mono ?_
        rintro e w5 ⟨rfl, W5⟩
        go_wp2_with fail
        refine (HBY.out _ _ W5.out hps3.out.symm).mono ?_
        rintro e w6 ⟨ao6, c6, rfl, W6⟩
        go_wp2
        go_ret
        exact ⟨ao6, c6, rfl, W6⟩

/-- A literal of bytes reads as them. -/
theorem Rd.lits (w : World) (B : List Nat) (fr : Nat × Nat) : Rd (w.alloc (.cells (u8s B).toArray 5 fr)) (.slice (some ⟨w.heap.size, 0, none⟩) B.length B.length) B := by
  refine ⟨some ⟨w.heap.size, 0, none⟩, B.length, rfl, fun h => (by cases h), fun a ha _ => ⟨w.heap.size, 0, (Option.some.inj ha).symm, fun k hk => ?_⟩⟩
  have h1 : (u8s B)[k]? = some (.int .u8 ((B.getD k 0 : Nat) : Int)) := by rw [u8s_get?]; simp [List.getD, hk]
  rw [Nat.zero_add, World.cell?_alloc_mark, ← h1]
  simp

theorem blk_known : Blks (numOf [1, 2, 0, 253, 255, 97, 98]) 7 2 0 0 [] (.ok (56, [97, 98])) := by
  have e : storedP (numOf [1, 2, 0, 253, 255, 97, 98]) 7 2 3 [] = .ok (56, [97, 98]) := by kernel_rfl
  refine Blks.last (by decide) (by decide) ?_
  unfold blkP
  rw [if_pos (by omega), if_pos (by decide)]
  exact e

set_option maxHeartbeats 2000000 in
theorem known_any (w : World) : Calls Tryd.prog 5 #[] w fun e w' => e = .returned (.bool true) ∧ Step (fun _ => False) w w' := by
  have HB : Hid (∀ o, o = Obj.cells (u8s [1, 2, 0, 253, 255, 97, 98]).toArray 5 → Calls Tryd.prog 8 #[.slice (some ⟨w.heap.size, 0, none⟩) 7 7, .int .i64 2] (w.alloc o) fun e w' => ∃ ao c, e = .returned (.tuple #[.slice ao 2 c, .int .i64 7, .int .i64 0]) ∧ Hid (Rd w' (.slice ao 2 c) [97, 98] ∧ Step (fun _ => False) w w')) := hidden (fun o ho => by
    subst ho
    refine (bytes_any _ (numOf [1, 2, 0, 253, 255, 97, 98]) 7 2 0 _ _ (by
      have := bytesOf_numOf [1, 2, 0, 253, 255, 97, 98] (by decide)
      rw [show [1, 2, 0, 253, 255, 97, 98].length = 7 from rfl] at this
      rw [this]
      exact Rd.lits w [1, 2, 0, 253, 255, 97, 98] (0, 0)) (by omega) (by omega) (by omega) blk_known).mono fun e w' ⟨hs, v, he, hr, _⟩ => ?_
    obtain ⟨ao, c, rfl, h2⟩ := id hr
    exact ⟨ao, c, he, hr, ((Step.refl _ w).alloc _).made hs⟩)
  have HSM : Hid (∀ w1 o ao c, Rd w1 (.slice ao 2 c) [97, 98] → o = Obj.cells (u8s [97, 98]).toArray 5 (2, 3) → Calls Tryd.prog 9 #[.slice ao 2 c, .slice (some ⟨w1.heap.size, 0, none⟩) 2 2] (w1.alloc o) fun e w' => e = .returned (.bool true) ∧ Hid (Step (fun _ => False) w1 w')) := hidden (fun w1 o ao c h1 ho => by
    subst ho
    have hs : Step (fun _ => False) w1 (w1.alloc (.cells (u8s [97, 98]).toArray 5 (2, 3))) := (Step.refl _ w1).alloc _
    refine (same_any _ _ [97, 98] [97, 98] _ (h1.step hs (fun _ _ _ _ _ h => h)) (Rd.lits w1 [97, 98] (2, 3)) (by decide)).mono fun e w' ⟨he, n, hn⟩ => ?_
    subst hn
    exact ⟨by rw [he, decide_eq_true rfl], hs.drewN n⟩)
  have kc := fun (w : World) (C : Array Value) (n c : Nat) => Lib.run_convert_bytes_const (P := Tryd.prog) w 22 5 C n c Tryd.underlying22 Tryd.underlying5
  go_enter Tryd.func5, Tryd.ntmps5
  go_wp2_with fail
  refine (HB.out _ rfl).mono ?_
  rintro e w1 ⟨ao, c, rfl, W1⟩
  go_wp2_with fail
  refine (HSM.out w1 _ ao c W1.out.1 rfl).mono ?_
  rintro e w2 ⟨rfl, W2⟩
  go_wp2
  go_ret
  exact ⟨rfl, W1.out.2.made W2.out⟩

theorem same_eq (va vb : Value) (A : List Nat) (w : World) (ha : Rd w va A) (hb : Rd w vb A) (hA : A.length ≤ 100000) :
    Calls Tryd.prog 9 #[va, vb] w fun e w' => e = .returned (.bool true) ∧ Hid (Step (fun _ => False) w w') :=
  (same_any va vb A A w ha hb (by omega)).mono fun e w' ⟨he, n, hn⟩ => ⟨by rw [he, decide_eq_true rfl], by subst hn; exact (Step.refl _ w).drewN n⟩

end Go.Proofs.YtlajfidhkaamnabDoor
