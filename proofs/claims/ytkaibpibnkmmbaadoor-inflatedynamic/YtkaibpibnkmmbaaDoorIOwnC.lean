/-
  The codes by which lengths are told: lengthsCodes.
-/
import Derived.Test.YtkaibpibnkmmbaaDoorIOwn
namespace Go.Proofs.YtkaibpibnkmmbaaDoor
open Go.RowKit
set_option maxRecDepth 100000
set_option linter.unusedVariables false

/-- The table lies where the program laid it. -/
def Tab (w : World) : Prop := ∀ k, k < 19 → w.cell? ⟨0, k, none⟩ = some (.int .i64 ((ord k : Nat) : Int))
theorem Tab.step {S : Nat → Prop} {w w' : World} (h : Tab w) (hs : Step S w w') (h0 : ¬ S 0) : Tab w' := fun k hk => hs.cell (h k hk) h0
theorem Tab.pos {w : World} (h : Tab w) : 0 < w.heap.size := World.block_lt_of_cell? w _ (h 0 (by omega))

/-- How lengthsCodes ends. -/
def LcE (w : World) (p b : Nat) (s v : Value) (M m t : Nat) (O : List Nat) (most : Int) (many : Nat) (e : Ending) (w' : World) : Prop :=
  Step (fun k => k = b) w w' ∧
  if t + 3 * many ≤ 8 * m then
    if newErr (clL M t many) = 0 then ∃ d bs tot, e = .returned (.tuple #[.pointer (some ⟨d, 0, none⟩), .int .i64 0]) ∧ Str w' p b s v M m (t + 3 * many) O most ∧ Dec w' d (clL M t many) bs tot 0 0 ∧ w.heap.size ≤ d ∧ w.heap.size ≤ bs
    else e = .returned (.tuple #[.pointer none, .int .i64 (newErr (clL M t many))])
  else e = .returned (.tuple #[.pointer none, .int .i64 2])

set_option maxHeartbeats 8000000 in
theorem lengthsCodes_any (p b : Nat) (s v : Value) (M m t : Nat) (O : List Nat) (most : Int) (many : Nat) (w : World) (T : Tab w) (h : Str w p b s v M m t O most) (hm : m ≤ 1000000) (hmany : many ≤ 19) (hb0 : b ≠ 0) :
    Calls Tryd.prog 35 #[.pointer (some ⟨p, 0, none⟩), .int .i64 many] w (LcE w p b s v M m t O most many) := by
  have HT := hidden T
  have H0 := hidden h
  have hbw : Hid (b < w.heap.size) := hidden (World.block_lt_of_cell? w _ h.rr.ins)
  have hpw : Hid (p < w.heap.size) := hidden (World.block_lt_of_cell? w _ h.ci)
  have hvw : Hid (∀ k, v.ownBlock = some k → k < w.heap.size) := hidden (fun k hk => (h.ou.ow.lt _ hk).2)
  have hsw : Hid (∀ k, s.ownBlock = some k → k < w.heap.size) := hidden (fun k hk => (h.rr.own.lt _ hk).2)
  have h0w := hidden T.pos
  have hle := h.rr.le
  clear T h
  go_enter Tryd.func35, Tryd.ntmps35
  go_wp2
  go_loopw [7, 8, 9, 11] (fun _ _ _ i wr => ∃ k : Nat, i = .int .i64 (k : Int) ∧ k ≤ many ∧ t + 3 * k ≤ 8 * m ∧ Hid (Str wr p b s v M m (t + 3 * k) O most ∧ Af wr w.heap.size 19 (clF M t k) ∧ Tab wr ∧ Step (fun j => j = b) w wr)) (fun _ _ _ i _ => many - (intOf i).toNat)
  case atStart =>
    refine ⟨0, rfl, Nat.zero_le _, by omega, hidden ⟨H0.out.made ((Step.refl (fun _ => False) w).alloc _), ?_, HT.out.step ((Step.refl (fun _ => False) w).alloc _) (fun h => h), (Step.refl (fun j => j = b) w).alloc _⟩⟩
    refine Af.new w _ _ 19 _ (fun k hk => ?_)
    have h19 : k = 0 ∨ k = 1 ∨ k = 2 ∨ k = 3 ∨ k = 4 ∨ k = 5 ∨ k = 6 ∨ k = 7 ∨ k = 8 ∨ k = 9 ∨ k = 10 ∨ k = 11 ∨ k = 12 ∨ k = 13 ∨ k = 14 ∨ k = 15 ∨ k = 16 ∨ k = 17 ∨ k = 18 := by omega
    rcases h19 with rfl | rfl | rfl | rfl | rfl | rfl | rfl | rfl | rfl | rfl | rfl | rfl | rfl | rfl | rfl | rfl | rfl | rfl | rfl <;> rfl
  case round =>
    obtain ⟨k, rfl, hk, hkt, HH⟩ := hrel
    have c0 := HH.out.1.ci
    by_cases hlt : k < many
    · by_cases hs : t + 3 * k + 3 ≤ 8 * m
      · obtain ⟨n, hn, hn8⟩ : ∃ n, n = M / 2 ^ (t + 3 * k) % 2 ^ 3 ∧ n < 8 := ⟨_, rfl, Nat.mod_lt _ (by omega)⟩
        have HN : Hid (M / 2 ^ (t + 3 * k) % 8 = n) := hidden hn.symm
        obtain ⟨q, hq⟩ : ∃ q, q = ord k := ⟨_, rfl⟩
        have HQ := hidden hq
        have hq19 : q < 19 := by rw [hq]; exact ord_lt k
        have hk19 : k < 19 := by omega
        have HG : Hid (Calls Tryd.prog 20 #[.pointer (some ⟨b, 0, none⟩), .int .i64 (3 : Nat)] wr fun e w' => e = .returned (.tuple #[.int .i64 (n : Int), .int .i64 0]) ∧ (w'.cell? ⟨0, k, none⟩ = some (.int .i64 (q : Int)) ∧ w'.cell? ⟨w.heap.size, q, none⟩ = some (.int .i64 (clF M t k q)) ∧ w'.frozen? ⟨w.heap.size, q, none⟩ = false) ∧ Hid (Str w' p b s v M m (t + 3 * k + 3) O most ∧ Af w' w.heap.size 19 (clF M t k) ∧ Tab w' ∧ Step (fun j => j = b) w w')) := by
          obtain ⟨b1, b2, b3, b4⟩ := HH.out
          refine hidden ((get_ok b s M m (t + 3 * k) 3 wr b1.rr (by omega) (by omega) (by omega)).mono fun e w' ⟨he, Tk⟩ => ?_)
          rw [← hn] at he
          have hA : Af w' w.heap.size 19 (clF M t k) := b2.step Tk.2 (by have := hbw.out; omega)
          have hT : Tab w' := b3.step Tk.2 (fun e => hb0 e.symm)
          exact ⟨he, ⟨by rw [hq]; exact hT k hk19, (hA q hq19).1, (hA q hq19).2⟩, hidden ⟨(b1.took Tk).1, hA, hT, b4.trans Tk.2 (fun i hi => .inl hi)⟩⟩
        have k1 : (k : Int) < 19 := by omega
        have q1 : (q : Int) < 19 := by omega
        generalize clF M t k q = old at HG
        clear hn hq HH
        go_wp2_with fail
        refine HG.out.mono ?_
        rintro e w1 ⟨rfl, ⟨cT, cA, fA⟩, R1⟩
        go_wp2
        go_roundw
        case rel =>
          obtain ⟨b1, b2, b3, b4⟩ := R1.out
          have S2 : Step (fun j => j = w.heap.size) w1 (w1.setCell ⟨w.heap.size, q, none⟩ (.int .i64 (n : Int))) := (Step.refl (fun j => j = w.heap.size) w1).setCell ⟨w.heap.size, q, none⟩ _ (.inl rfl)
          refine ⟨k + 1, by go_num, by omega, by omega, hidden ⟨?_, ?_, b3.step S2 (by have := h0w.out; omega), b4.trans S2 (fun i hi => .inr (by omega))⟩⟩
          · rw [show t + 3 * (k + 1) = t + 3 * k + 3 by omega]
            exact b1.step S2 (by have := hpw.out; omega) (by have := hbw.out; omega) (fun j hj => by have := hvw.out j hj; omega) (fun j hj => by have := hsw.out j hj; omega)
          · refine (b2.set q (n : Int)).congr (fun j hj => ?_)
            unfold upd
            simp only [clF]
            rw [HN.out, ← HQ.out]
        case measure => simp [intOf]; omega
      · have HG : Hid (Calls Tryd.prog 20 #[.pointer (some ⟨b, 0, none⟩), .int .i64 (3 : Nat)] wr fun e w' => e = .returned (.tuple #[.int .i64 0, .int .i64 2]) ∧ Hid (Step (fun j => j = b) w w')) := by
          obtain ⟨b1, b2, b3, b4⟩ := HH.out
          exact hidden ((get_short b s M m (t + 3 * k) 3 wr b1.rr (by omega) (by omega) (by omega)).mono fun e w' ⟨he, q, hq⟩ => by
            subst hq
            exact ⟨he, hidden (b4.drewN q)⟩)
        have HN : Hid (¬ t + 3 * many ≤ 8 * m) := hidden (by omega)
        clear HH
        go_wp2_with fail
        refine HG.out.mono ?_
        rintro e w1 ⟨rfl, R1⟩
        go_wp2
        go_ret2
        unfold LcE
        rw [if_neg HN.out]
        exact ⟨R1.out, rfl⟩
    · have hkk : k = many := by omega
      subst hkk
      have hbad : ¬ (k : Int) < (k : Int) := by omega
      have HN : Hid (t + 3 * k ≤ 8 * m) := hidden hkt
      have HNEW : Hid (Calls Tryd.prog 42 #[.slice (some ⟨w.heap.size, 0, none⟩) 19 19] wr (NewP (clL M t k) wr)) := hidden (new_any _ _ wr (HH.out.2.1.ri (L := clL M t k) (cap := 19) (clL_length M t k) (by omega) (fun j hj => clL_getD M t k j hj)) (by rw [clL_length]; omega))
      have HF := hidden HH.out
      clear HH
      go_wp2_with fail
      refine HNEW.out.mono ?_
      rintro e w1 (⟨g1, rfl, S1⟩ | ⟨g1, d, bs, tot, rfl, k1, k2, D1, S1⟩)
      · have HG := hidden g1
        have HS := hidden S1
        generalize hE : newErr (clL M t k) = E at *
        have HE := hidden hE
        clear g1 S1 hE
        go_wp2
        go_ret2
        unfold LcE
        rw [if_pos HN.out, HE.out, if_neg HG.out]
        exact ⟨HF.out.2.2.2.trans HS.out (fun _ h => h.elim), rfl⟩
      · have HS := hidden (And.intro S1 (And.intro D1 (And.intro k1 k2)))
        have HG := hidden g1
        clear S1 D1 k1 k2 g1
        go_wp2
        go_ret2
        unfold LcE
        rw [if_pos HN.out, if_pos HG.out]
        obtain ⟨b1, b2, b3, b4⟩ := HF.out
        obtain ⟨S1, D1, k1, k2⟩ := HS.out
        have z := b4.size
        exact ⟨b4.trans S1 (fun _ h => h.elim), d, bs, tot, rfl, b1.made S1, D1, by omega, by omega⟩

end Go.Proofs.YtkaibpibnkmmbaaDoor
