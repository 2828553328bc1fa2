/-
  InflateDynamic: for every list of numbers and every list of bytes the law answers true: a block with lengths of its own, laid by the page's writer, is read as the bytes, with no error; lists that are too long are not looked at. No condition, but that the table of the order of lengths is laid as the program's text lays it (the card ties it).
-/
import Derived.Test.YtkaibpibnkmmbaaDoorIBlockF
import Derived.BigRegion
import Derived.OwnWalk
import Derived.Test.YtkaibpibnkmmbaaDoorRow
import Derived.Test.YtkaibpibnkmmbaaDoorIBytes
import Derived.Lib.SlBytesConst
import Derived.Test.YtkaibpibnkmmbaaDoorHCodeN
import Derived.Test.YtkaibpibnkmmbaaDoorHInt
import Derived.Test.YtkaibpibnkmmbaaDoorHRefN
import Derived.Test.YtkaibpibnkmmbaaDoorHCount
import Derived.Test.YtkaibpibnkmmbaaDoorHBackN
import Derived.Test.YtkaibpibnkmmbaaDoorIDynO
import Derived.Test.YtkaibpibnkmmbaaDoorIDynW
import Derived.Deep.RegionHeld3
import Derived.OpenShut
import Derived.WalkKit
import Derived.ProofKit
import Derived.SizedLaws
import Derived.ChangeArms
import Derived.Test.YtkaibpibnkmmbaaDoorTie
import Derived.Test.YtkaibpibnkmmbaaDoorCards
import Derived.Lib.LaidTab
import Derived.MakeChecks
import Derived.LaidMore
import Derived.Test.YtkaibpibnkmmbaaDoorIOwnC
import Derived.Test.YtkaibpibnkmmbaaDoorRows
import Derived.ShutString
import Derived.ChangeOld
import Derived.Below
import Derived.Stop.Joined

namespace Go.Proofs.YtkaibpibnkmmbaaDoor
open Go.RowKit
set_option maxRecDepth 100000
set_option linter.unusedVariables false

set_option maxHeartbeats 4000000 in
theorem bytes_full (vb : Value) (M m : Nat) (most : Int) (n : Nat) (r : Except Nat (Nat × List Nat)) (w : World) (T : Tab w) (h : Rd w vb (bytesOf M m)) (hm : m ≤ 1000000) (h0 : 0 ≤ most) (h1 : most ≤ 9223372036854775807) (hr : BlksF M m most n 0 [] r) :
    Calls Tryd.prog 10 #[vb, .int .i64 most] w (BytesE w r) := by
  have HR := hidden hr
  have HTB := hidden T
  have HO : Hid (Calls Tryd.prog 16 #[vb] w fun e w' => ∃ b, e = .returned (.pointer (some ⟨b, 0, none⟩)) ∧ Hid (∃ s, Rr w' b s M m 0 ∧ Step (fun _ => False) w w' ∧ w.heap.size ≤ b)) := hidden ((of_any vb M m w h (by omega)).mono fun e w' ⟨b, s, he, h1, h2, h3, _⟩ => ⟨b, he, s, h1, h2, h3⟩)
  obtain ⟨ao, cap, rfl, _, _⟩ := h
  have HBK : Hid (∀ w1 p b s v t O, St w1 w.heap.size p b s v M m t O most → Step (fun _ => False) w w1 → Calls Tryd.prog 17 #[.pointer (some ⟨p, 0, none⟩)] w1 (BlkE w1 w.heap.size p b s M m most (decide (M / 2 ^ t % 2 = 1)) (blkF M m most t O))) :=
    hidden (fun w1 p b s v t O S1 hS => block_full w.heap.size p b s v M m t O most w1 (HTB.out.step hS (fun h => h)) S1 hm hS.size HTB.out.pos h0 h1)
  clear hr T
  go_enter Tryd.func10, Tryd.ntmps10
  go_wp2_with fail
  refine HO.out.mono ?_
  rintro e w1 ⟨b, rfl, S1⟩
  obtain ⟨s, r1, r2, r3⟩ := S1.out
  have HS0 := hidden (St.new most r1 r2 r3 50)
  have HW0 := hidden (r2.alloc (.cells #[.pointer (some ⟨b, 0, none⟩), .slice none 0 0, .int .i64 most, .pointer none] 50))
  generalize hp : w1.heap.size = p at *
  clear S1 r1 r2 r3 HO
  go_wp2
  go_loopg [8, 9] (n + 1) (fun k l e wr => Hid (Step (fun _ => False) w wr) ∧ ((l = .bool false ∧ ∃ u Q v k', k = k' + 1 ∧ Hid (BlksF M m most k' u Q r ∧ St wr w.heap.size p b s v M m u Q most)) ∨ (l = .bool true ∧ ∃ u Q v, Hid (r = .ok (u, Q) ∧ St wr w.heap.size p b s v M m u Q most))))
  case atStart => exact ⟨HW0.out, .inl ⟨rfl, 0, [], _, n, rfl, HR.out, HS0.out⟩⟩
  case round =>
    obtain ⟨HS, hq⟩ := hrel
    rcases hq with ⟨rfl, u, Q, v, k', rfl, HH⟩ | ⟨rfl, u, Q, v, HH⟩
    · obtain ⟨hb, hst⟩ := HH.out
      have HST := hidden hst
      have HB := hidden hb
      clear hst HH
      cases hb with
      | @bad _ _ x _ hx =>
        have HC := hidden (HBK.out _ p b s v u Q HST.out HS.out)
        rw [hx] at HC
        clear hx
        go_wp2_with fail
        refine HC.out.mono ?_
        rintro e w2 ⟨S2, hz, q, rfl⟩
        have HS2 := hidden S2
        have hb : ((x : Int) != 0) = true := by rw [bne_iff_ne]; omega
        clear S2
        go_wp2
        go_ret3
        exact ⟨(HS.out.trans HS2.out (fun i hi => .inr hi)), hz, rfl⟩
      | @last _ _ u2 _ Q2 hl hx =>
        have HC := hidden (HBK.out _ p b s v u Q HST.out HS.out)
        rw [hx, decide_eq_true hl] at HC
        clear hx hl
        go_wp2_with fail
        refine HC.out.mono ?_
        rintro e w2 ⟨S2, rfl, v2, hv2⟩
        have HS2 := hidden (And.intro S2 hv2)
        clear S2 hv2
        go_wp2
        go_roundg 0
        case measure => omega
        case rel => exact ⟨(HS.out.trans HS2.out.1 (fun i hi => .inr hi)), .inr ⟨rfl, u2, Q2, v2, rfl, HS2.out.2⟩⟩
      | @more k2 _ u2 _ Q2 _ hl hx hn =>
        have HC := hidden (HBK.out _ p b s v u Q HST.out HS.out)
        rw [hx, decide_eq_false (by omega)] at HC
        have HN := hidden hn
        clear hx hl hn
        go_wp2_with fail
        refine HC.out.mono ?_
        rintro e w2 ⟨S2, rfl, v2, hv2⟩
        have HS2 := hidden (And.intro S2 hv2)
        clear S2 hv2
        go_wp2
        go_roundg (k2 + 1)
        case measure => omega
        case rel => exact ⟨(HS.out.trans HS2.out.1 (fun i hi => .inr hi)), .inl ⟨rfl, u2, Q2, v2, k2, rfl, HN.out, HS2.out.2⟩⟩
    · have HST := hidden HH.out.2
      have HRR := hidden HH.out.1
      have ca := HH.out.2.str.ci
      have cb := HH.out.2.str.ou.co
      obtain ⟨va, vc, hv⟩ := own_slice HH.out.2.str.ou.ow
      subst hv
      have HAL : Hid (∀ W, Step (fun _ => False) wr W → Calls Tryd.prog 18 #[.pointer (some ⟨b, 0, none⟩)] W fun e w' => e = .returned (.int .i64 (((u + 7) / 8 : Nat) : Int)) ∧ w'.cell? ⟨p, 1, none⟩ = some (.slice va Q.length vc) ∧ Hid (Step (fun _ => False) w w' ∧ Rd w' (.slice va Q.length vc) Q)) :=
        hidden (fun W hW => (ralign_any b s M m u W (HST.out.str.made hW).rr (by omega)).mono fun e w' ⟨he, T⟩ => by
          have S2 := (HST.out.str.made hW).took T
          exact ⟨he, S2.1.ou.co, (HS.out.made hW).trans T.2 (fun i hi => .inr (by rw [hi]; exact HST.out.bb)), Rd.of_own S2.1.ou.ow⟩)
      clear HH
      generalize hql : Q.length = ql at *
      go_wp2
      go_region_with (first
        | (go_at_call 18; refine (HAL.out _ (by first | exact Step.refl _ _ | exact (Step.refl _ _).drew | exact (Step.refl _ _).drewN _)).mono ?_; rintro e W1 ⟨rfl, cb2, X1⟩))
      all_goals
        go_wp2
        go_ret3
        rw [HRR.out]
        have hle := HST.out.str.rr.le
        refine ⟨X1.out.1, _, rfl, X1.out.2, HST.out.str.ou.by_, fun a n c e => ?_, HST.out.ol, by omega⟩
        injection e with e1
        subst e1
        exact HST.out.bv _ rfl

end Go.Proofs.YtkaibpibnkmmbaaDoor

namespace Go.Proofs.YtkaibpibnkmmbaaDoor
open Go.RowKit

set_option maxHeartbeats 1000000 in
theorem same_any (va vb : Value) (A B : List Nat) (w : World) (ha : Rd w va A) (hb : Rd w vb B) (hA : A.length ≤ 137438953600) :
    Calls Tryd.prog 13 #[va, vb] w fun e w' => e = .returned (.bool (decide (A = B))) ∧ ∃ n, w' = w.drewN n := by
  obtain ⟨ao, ca, rfl, a1, a2⟩ := ha
  obtain ⟨bo, cb, rfl, b1, b2⟩ := hb
  by_cases hl : A.length = B.length
  · obtain ⟨n, hn⟩ : ∃ n, n = A.length := ⟨_, rfl⟩
    have hn2 : n ≤ 137438953600 := by omega
    rw [← hl, ← hn]
    have Hn := hidden hn
    have Hl := hidden hl
    have a2' := hidden a2
    have b2' := hidden b2
    have a1' := hidden a1
    have b1' := hidden b1
    clear a1 a2 b1 b2 hl hn hA
    go_enter Tryd.func13, Tryd.ntmps13
    go_wp2
    go_loopw [5] (fun i wr => ∃ k : Nat, k ≤ n ∧ i = .int .i64 k ∧ (∃ nq, wr = w.drewN nq) ∧ Hid (∀ j, j < k → A.getD j 0 = B.getD j 0)) (fun i _ => n - (intOf i).toNat)
    case atStart => exact ⟨0, Nat.zero_le _, rfl, ⟨0, rfl⟩, fun j hj => by omega⟩
    case round =>
      obtain ⟨k, hk, rfl, ⟨nq, rfl⟩, hpre⟩ := hrel
      by_cases hlt : k < n
      · have hne : A ≠ [] := by intro e; have := Hn.out; subst e; simp at this; omega
        have hne' : B ≠ [] := by intro e; have := Hn.out; have := Hl.out; subst e; simp_all
        cases ao with
        | none => exact absurd (a1'.out rfl).1 hne
        | some a =>
          cases bo with
          | none => exact absurd (b1'.out rfl).1 hne'
          | some b =>
            obtain ⟨ba, oa, rfl, ka⟩ := a2'.out a rfl hne
            obtain ⟨bb, ob, rfl, kb⟩ := b2'.out b rfl hne'
            have ca' := ka k (by have := Hn.out; omega)
            have cb' := kb k (by have := Hn.out; have := Hl.out; omega)
            clear ka kb
            generalize hx : A.getD k 0 = x at *
            generalize hy : B.getD k 0 = y at *
            have Hx := hidden hx
            have Hy := hidden hy
            have k0 : (0 : Int) ≤ (k : Int) := by omega
            have k1 : (k : Int) < (n : Int) := by omega
            clear hx hy hne hne'
            by_cases hxy : x = y
            · have hd : ((x : Int) != (y : Int)) = false := by simp [hxy]
              go_wp2
              go_quiet (fail)
              go_wp2
              go_roundw
              case rel =>
                refine ⟨k + 1, by omega, by go_num, ⟨_, rfl⟩, fun j hj => ?_⟩
                by_cases e : j = k
                · rw [e, Hx.out, Hy.out, hxy]
                · exact hpre.out j (by omega)
              case measure => simp [intOf]; omega
            · have hd : ((x : Int) != (y : Int)) = true := by rw [bne_iff_ne]; omega
              have hfin := hidden (show decide (A = B) = false by
                rw [decide_eq_false_iff_not]
                intro e
                exact hxy (by rw [← Hx.out, ← Hy.out, e]))
              go_wp2
              go_quiet (fail)
              go_wp2
              go_ret
              exact ⟨by rw [hfin.out]; rfl, _, World.drewN_drewN _ _ _⟩
      · have hfin := hidden (show decide (A = B) = true by
          rw [decide_eq_true_eq]
          exact eq_of_getD Hl.out (fun j hj => hpre.out j (by have := Hn.out; omega)))
        go_wp2
        go_ret
        exact ⟨by rw [hfin.out]; rfl, _, rfl⟩
  · have hfin := hidden (show decide (A = B) = false by
      rw [decide_eq_false_iff_not]
      exact fun e => hl (by rw [e]))
    have hl' : ((A.length : Int) != (B.length : Int)) = true := by rw [bne_iff_ne]; omega
    clear hl
    go_enter Tryd.func13, Tryd.ntmps13
    go_wp2
    go_ret
    exact ⟨by rw [hfin.out]; rfl, 0, rfl⟩

end Go.Proofs.YtkaibpibnkmmbaaDoor

namespace Go.Proofs.YtkaibpibnkmmbaaDoor
open Go.RowKit
set_option maxRecDepth 100000
set_option linter.unusedVariables false

/-- A literal of bytes reads as them. -/
theorem Rd.lits (w : World) (B : List Nat) (fr : Nat × Nat) : Rd (w.alloc (.cells (u8s B).toArray 5 fr)) (.slice (some ⟨w.heap.size, 0, none⟩) B.length B.length) B := by
  refine ⟨some ⟨w.heap.size, 0, none⟩, B.length, rfl, fun h => (by cases h), fun a ha _ => ⟨w.heap.size, 0, (Option.some.inj ha).symm, fun k hk => ?_⟩⟩
  have h1 : (u8s B)[k]? = some (.int .u8 ((B.getD k 0 : Nat) : Int)) := by rw [u8s_get?]; simp [List.getD, hk]
  rw [Nat.zero_add, World.cell?_alloc_mark, ← h1]
  simp

theorem blk_known : Blks (numOf [1, 2, 0, 253, 255, 97, 98]) 7 2 0 0 [] (.ok (56, [97, 98])) := by
  have e : storedP (numOf [1, 2, 0, 253, 255, 97, 98]) 7 2 3 [] = .ok (56, [97, 98]) := by kernel_rfl
  refine Blks.last (by decide) (by decide) ?_
  unfold blkP
  rw [if_pos (by omega), if_pos (by decide)]
  exact e

set_option maxHeartbeats 2000000 in
theorem known_any (w : World) : Calls Tryd.prog 12 #[] w fun e w' => e = .returned (.bool true) ∧ Step (fun _ => False) w w' := by
  have HB : Hid (∀ o, o = Obj.cells (u8s [1, 2, 0, 253, 255, 97, 98]).toArray 5 → Calls Tryd.prog 10 #[.slice (some ⟨w.heap.size, 0, none⟩) 7 7, .int .i64 2] (w.alloc o) fun e w' => ∃ ao c, e = .returned (.tuple #[.slice ao 2 c, .int .i64 7, .int .i64 0]) ∧ Hid (Rd w' (.slice ao 2 c) [97, 98] ∧ Step (fun _ => False) w w')) := hidden (fun o ho => by
    subst ho
    refine (bytes_any _ (numOf [1, 2, 0, 253, 255, 97, 98]) 7 2 0 _ _ (by
      have := bytesOf_numOf [1, 2, 0, 253, 255, 97, 98] (by decide)
      rw [show [1, 2, 0, 253, 255, 97, 98].length = 7 from rfl] at this
      rw [this]
      exact Rd.lits w [1, 2, 0, 253, 255, 97, 98] (0, 0)) (by omega) (by omega) (by omega) blk_known).mono fun e w' ⟨hs, v, he, hr, _⟩ => ?_
    obtain ⟨ao, c, rfl, h2⟩ := id hr
    exact ⟨ao, c, he, hr, ((Step.refl _ w).alloc _).made hs⟩)
  have HSM : Hid (∀ w1 o ao c, Rd w1 (.slice ao 2 c) [97, 98] → o = Obj.cells (u8s [97, 98]).toArray 5 (2, 3) → Calls Tryd.prog 13 #[.slice ao 2 c, .slice (some ⟨w1.heap.size, 0, none⟩) 2 2] (w1.alloc o) fun e w' => e = .returned (.bool true) ∧ Hid (Step (fun _ => False) w1 w')) := hidden (fun w1 o ao c h1 ho => by
    subst ho
    have hs : Step (fun _ => False) w1 (w1.alloc (.cells (u8s [97, 98]).toArray 5 (2, 3))) := (Step.refl _ w1).alloc _
    refine (same_any _ _ [97, 98] [97, 98] _ (h1.step hs (fun _ _ _ _ _ h => h)) (Rd.lits w1 [97, 98] (2, 3)) (by decide)).mono fun e w' ⟨he, n, hn⟩ => ?_
    subst hn
    exact ⟨by rw [he, decide_eq_true rfl], hs.drewN n⟩)
  have kc := fun (w : World) (C : Array Value) (n c : Nat) => Lib.run_convert_bytes_const (P := Tryd.prog) w 23 5 C n c Tryd.underlying23 Tryd.underlying5
  go_enter Tryd.func12, Tryd.ntmps12
  go_wp2_with fail
  refine (HB.out _ rfl).mono ?_
  rintro e w1 ⟨ao, c, rfl, W1⟩
  go_wp2_with fail
  refine (HSM.out w1 _ ao c W1.out.1 rfl).mono ?_
  rintro e w2 ⟨rfl, W2⟩
  go_wp2
  go_ret
  exact ⟨rfl, W1.out.2.made W2.out⟩

theorem same_eq (va vb : Value) (A : List Nat) (w : World) (ha : Rd w va A) (hb : Rd w vb A) (hA : A.length ≤ 100000) :
    Calls Tryd.prog 13 #[va, vb] w fun e w' => e = .returned (.bool true) ∧ Hid (Step (fun _ => False) w w') :=
  (same_any va vb A A w ha hb (by omega)).mono fun e w' ⟨he, n, hn⟩ => ⟨by rw [he, decide_eq_true rfl], by subst hn; exact (Step.refl _ w).drewN n⟩

end Go.Proofs.YtkaibpibnkmmbaaDoor

namespace Go.Proofs.YtkaibpibnkmmbaaDoor
open Go.RowKit

/-- What Codes leaves. -/
def CodesP (L : List Int) (w : World) (e : Ending) (w' : World) : Prop :=
  ∃ v, e = .returned (.tuple #[v, .int .i64 (codeErr L)]) ∧ Ri w' v (codesR L) ∧ (∀ a n c, v = .slice (some a) n c → w.heap.size ≤ a.block) ∧ Step (fun _ => False) w w'

theorem codeErr_ok {L : List Int} (h : codeErr L = 0) : okB L = true ∧ fl (cf L) 16 ≤ 32768 ∧ codesR L = codes L := by
  unfold codeErr at h
  unfold codesR
  by_cases h1 : okB L = true
  · rw [if_pos h1] at h
    by_cases h2 : fl (cf L) 16 ≤ 32768
    · exact ⟨h1, h2, by rw [if_pos h1, if_pos h2]⟩
    · rw [if_neg h2] at h; omega
  · rw [if_neg h1] at h; omega
theorem codeErr_not {L : List Int} (h : codeErr L ≠ 0) : codesR L = [] := by
  unfold codeErr at h
  unfold codesR
  by_cases h1 : okB L = true
  · rw [if_pos h1] at h ⊢
    by_cases h2 : fl (cf L) 16 ≤ 32768
    · rw [if_pos h2] at h; exact absurd rfl h
    · rw [if_neg h2]
  · rw [if_neg h1]

theorem Ri.far {w : World} {v : Value} {L : List Int} (h : Ri w v L) (q : Addr) (u : Value) (hq : ∀ p n c, L ≠ [] → v = .slice (some p) n c → p.block ≠ q.block) : Ri (w.setCell q u) v L :=
  h.step (S := fun k => k = q.block) ((Step.refl _ w).setCell q u (.inl rfl)) (fun a n c e ne => hq a n c ne e)

end Go.Proofs.YtkaibpibnkmmbaaDoor

namespace Go.Proofs.YtkaibpibnkmmbaaDoor
open Go.RowKit
set_option maxRecDepth 100000
set_option linter.unusedVariables false

set_option maxHeartbeats 1000000 in
theorem refFill_any (v : Value) (L : List Int) (w : World) (h : Ri w v L) (hl : L.length ≤ 400) (hok : ∀ x ∈ L, 0 ≤ x ∧ x ≤ 15) :
    Calls Tryd.prog 15 #[v] w fun e w' => e = .returned (.int .i64 (fl (cf L) 16)) ∧ w' = w := by
  have HE := hidden (flt_all L hok)
  have HO := hidden hok
  obtain ⟨ao, cap, rfl, hcap, h1, h2⟩ := h
  have H1 := hidden h1
  have H2 := hidden h2
  obtain ⟨n, hn⟩ : ∃ n, n = L.length := ⟨_, rfl⟩
  have Hn := hidden hn
  rw [← hn] at hl hcap HE ⊢
  clear h1 h2 hn hok
  go_enter Tryd.func15, Tryd.ntmps15
  go_wp2
  go_loopw [3, 4] (fun s i wr => ∃ k : Nat, k ≤ n ∧ i = .int .i64 k ∧ s = .int .i64 (flt L k) ∧ wr = w) (fun _ i _ => n - (intOf i).toNat)
  case atStart => exact ⟨0, Nat.zero_le _, rfl, rfl, rfl⟩
  case round =>
    obtain ⟨k, hk, rfl, rfl, rfl⟩ := hrel
    by_cases hlt : k < n
    · have hkL : k < L.length := by have := Hn.out; omega
      cases ao with
      | none => have := (H1.out rfl).1; subst this; simp at hkL
      | some a =>
        obtain ⟨ba, oa, rfl, ka⟩ := H2.out a rfl (by intro e; subst e; simp at hkL)
        have ca := ka k hkL
        have k1 : (k : Int) < (n : Int) := by omega
        have hin := HO.out (L.getD k 0) (by rw [getD_i L k hkL]; exact List.getElem_mem hkL)
        have fb := flt_bd L k
        have fb2 := flt_bd L (k + 1)
        have HF := hidden (show flt L (k + 1) = flt L k + if 0 < L.getD k 0 then 2 ^ (15 - (L.getD k 0).toNat) else 0 from rfl)
        clear ka hkL
        obtain ⟨x, hx⟩ := Int.eq_ofNat_of_zero_le hin.1
        have hx15 := hin.2
        rw [hx] at ca hx15 HF
        clear hin hx
        rw [Int.toNat_natCast] at HF
        by_cases hz : x = 0
        · subst hz
          have HF' := hidden (show flt L (k + 1) = flt L k by rw [HF.out, if_neg (by simp)]; omega)
          go_wp2
          go_roundw
          case rel => exact ⟨k + 1, by omega, by go_num, by rw [HF'.out], by trivial⟩
          case measure => simp [intOf]; omega
        · have hx0 : (0 : Int) < (x : Int) := by omega
          have hp := ipow_pos (15 - x)
          have HF' := hidden (show flt L k + 2 ^ (15 - x) = flt L (k + 1) by rw [HF.out, if_pos hx0])
          have e15 : ((15 : Int) - (x : Int)).toNat = 15 - x := by omega
          have hlim : (2 : Int) ^ (15 - x) ≤ 32768 := by
            have : (2 ^ (15 - x) : Nat) ≤ 2 ^ 15 := Nat.pow_le_pow_right (by omega) (by omega)
            have e : ((2 ^ (15 - x) : Nat) : Int) = (2 : Int) ^ (15 - x) := by simp
            omega
          have k400 : (k : Int) ≤ 400 := by omega
          go_wp2
          go_roundw
          case rel => exact ⟨k + 1, by omega, by go_num, by rw [HF'.out], by trivial⟩
          case measure => simp [intOf]; omega
    · have e : k = n := by omega
      subst e
      go_wp2
      go_ret
      exact ⟨by rw [← HE.out]; rfl, rfl⟩

end Go.Proofs.YtkaibpibnkmmbaaDoor

namespace Go.Proofs.YtkaibpibnkmmbaaDoor
open Go.RowKit
set_option maxRecDepth 100000
set_option linter.unusedVariables false

set_option maxHeartbeats 1000000 in
theorem is_any (v : Value) (L : List Int) (w : World) (h : Ri w v L) (hl : L.length ≤ 9223372036854775807) :
    Calls Tryd.prog 14 #[v] w fun e w' => e = .returned (.bool (okB L)) ∧ w' = w := by
  obtain ⟨ao, cap, rfl, hcap, h1, h2⟩ := h
  have H1 := hidden h1
  have H2 := hidden h2
  obtain ⟨n, hn⟩ : ∃ n, n = L.length := ⟨_, rfl⟩
  have Hn := hidden hn
  rw [← hn] at hl hcap ⊢
  clear h1 h2 hn
  by_cases h320 : n ≤ 320
  · go_enter Tryd.func14, Tryd.ntmps14
    go_wp2
    go_loopw [3] (fun i wr => ∃ k : Nat, k ≤ n ∧ i = .int .i64 k ∧ wr = w ∧ Hid (okTo L k)) (fun i _ => n - (intOf i).toNat)
    case atStart => exact ⟨0, Nat.zero_le _, rfl, rfl, fun j hj => by omega⟩
    case round =>
      obtain ⟨k, hk, rfl, rfl, hok⟩ := hrel
      by_cases hlt : k < n
      · have hkL : k < L.length := by have := Hn.out; omega
        cases ao with
        | none => have := (H1.out rfl).1; subst this; simp at hkL
        | some a =>
          obtain ⟨ba, oa, rfl, ka⟩ := H2.out a rfl (by intro e; subst e; simp at hkL)
          have ca := ka k hkL
          have k1 : (k : Int) < (n : Int) := by omega
          have HKL := hidden hkL
          clear ka hkL
          by_cases hin : 0 ≤ L.getD k 0 ∧ L.getD k 0 ≤ 15
          · have HO := hidden (okTo_succ hok.out hin)
            obtain ⟨x0, x1⟩ := hin
            generalize L.getD k 0 = x at *
            go_wp2
            go_roundw
            case rel => exact ⟨k + 1, by omega, by go_num, by trivial, HO.out⟩
            case measure => simp [intOf]; omega
          · have HB := hidden (okB_bad HKL.out hin)
            generalize L.getD k 0 = x at *
            by_cases hneg : x < 0
            · go_wp2
              go_ret
              exact ⟨by rw [HB.out]; rfl, rfl⟩
            · have hpos : 0 ≤ x := by omega
              have hbig : 15 < x := by omega
              go_wp2
              go_ret
              exact ⟨by rw [HB.out]; rfl, rfl⟩
      · have ek : k = L.length := by have := Hn.out; omega
        have HB := hidden (okTo_all (L := L) (ek ▸ hok.out) (by have := Hn.out; omega))
        clear ek
        go_wp2
        go_ret
        exact ⟨by rw [HB.out]; rfl, rfl⟩
  · have HB := hidden (show okB L = false by
      cases e : okB L with
      | false => rfl
      | true => exact absurd ((okB_iff L).1 e).1 (by have := Hn.out; omega))
    have h3 : (320 : Int) < (n : Int) := by omega
    go_enter Tryd.func14, Tryd.ntmps14
    go_wp2
    go_ret
    exact ⟨by rw [HB.out]; rfl, rfl⟩

set_option maxHeartbeats 2000000 in
theorem refCodes_any (v : Value) (L : List Int) (w : World) (h : Ri w v L) (hl : L.length ≤ 9223372036854775807) :
    Calls Tryd.prog 7 #[v] w (CodesP L w) := by
  have HI := hidden (is_any v L w h hl)
  have HFi := hidden (fun (h1 : L.length ≤ 400) (h2 : ∀ x ∈ L, 0 ≤ x ∧ x ≤ 15) => refFill_any v L w h h1 h2)
  have HR := hidden h
  obtain ⟨ao, cap, rfl, hcap, r1, r2⟩ := h
  have H1 := hidden r1
  have H2 := hidden r2
  obtain ⟨n, hn⟩ : ∃ n, n = L.length := ⟨_, rfl⟩
  have Hn := hidden hn
  rw [← hn] at hl hcap HI HFi HR ⊢
  clear hn r1 r2
  cases hok : okB L with
  | false =>
    have E := hidden hok
    rw [hok] at HI
    clear hok
    go_enter Tryd.func7, Tryd.ntmps7
    go_wp2_with (go_at_call 14; refine HI.out.mono ?_; rintro e w1 ⟨rfl, hw⟩; rw [hw]; clear hw w1)
    go_ret2
    exact ⟨.slice none 0 0, by rw [show codeErr L = 1 by simp [codeErr, E.out]]; rfl, by rw [show codesR L = [] by simp [codesR, E.out]]; exact ri_nil _, (fun a n c h => by cases h), Step.refl _ _⟩
  | true =>
    have E := hidden hok
    have hL := (okB_iff L).1 hok
    have HL := hidden hL
    have h320 : n ≤ 320 := by rw [Hn.out]; exact hL.1
    have HF := hidden (HFi.out (by omega) hL.2)
    have hb := fun k => cf_get L k hL.1
    have HB := hidden hb
    rw [hok] at HI
    clear hok hL hb
    by_cases hfull : fl (cf L) 16 ≤ 32768
    · have X1 := hidden (show codeErr L = 0 by simp [codeErr, E.out, hfull])
      have X2 := hidden (show codesR L = codes L by simp [codesR, E.out, hfull])
      have hf2 : ¬ 32768 < fl (cf L) 16 := by omega
      clear hfull
      generalize fl (cf L) 16 = F at *
      go_enter Tryd.func7, Tryd.ntmps7
      go_wp2_with (first | (go_at_call 14; refine HI.out.mono ?_; rintro e w1 ⟨rfl, hw⟩; rw [hw]; clear hw w1) | (go_at_call 15; refine HF.out.mono ?_; rintro e w1 ⟨rfl, hw⟩; rw [hw]; clear hw w1) | (refine makeInts n _ rfl rfl rfl (by omega) ?_))
      intro w2 hs2 hz2 ha2
      have HS2 := hidden hs2
      have HA2 := hidden ha2
      clear hs2 ha2
      go_wp2
      go_loopw [5, 6, 7] (fun x nv _ wr => ∃ N : Nat, 1 ≤ N ∧ N ≤ 16 ∧ nv = .int .i64 (N : Int) ∧ x = .int .i64 (stf (cf L) (N - 1) + cf L (N - 1)) ∧ Hid (Step (fun _ => False) w wr ∧ Af wr w.heap.size n (laid L N 0))) (fun _ nv _ _ => 17 - (intOf nv).toNat)
      case atStart => exact ⟨1, by omega, by omega, rfl, by simp [stf, cf], HS2.out, HA2.out.congr (fun j hj => (laid_start L HL.out.2 j (by have := Hn.out; omega)).symm)⟩
      case round =>
        obtain ⟨N, hN1, hN16, rfl, rfl, hrest⟩ := hrel
        by_cases hlt : N ≤ 15
        · have sb := stf_bd' (cf L) (fun k => (HB.out k).1) (fun k => (HB.out k).2) (N - 1) (by omega)
          have cb := HB.out (N - 1)
          have HST := hidden (stf_succ (cf L) N hN1)
          have hN15 : (N : Int) ≤ 15 := by omega
          generalize stf (cf L) (N - 1) = s1 at *
          generalize cf L (N - 1) = c1 at *
          go_wp2
          go_loopw [5, 7] (fun x iv wr => ∃ i : Nat, i ≤ n ∧ iv = .int .i64 (i : Int) ∧ x = .int .i64 (stf (cf L) N + cf (L.take i) N) ∧ Hid (Step (fun _ => False) w wr ∧ Af wr w.heap.size n (laid L N i))) (fun _ iv _ => n - (intOf iv).toNat)
          case atStart => exact ⟨0, Nat.zero_le _, rfl, by rw [HST.out]; simp [cf_nil], hrest.out⟩
          case round =>
            obtain ⟨i, hi, rfl, rfl, hrest2⟩ := hrel
            by_cases hin : i < n
            · have hkL : i < L.length := by have := Hn.out; omega
              cases ao with
              | none => have := (H1.out rfl).1; subst this; simp at hkL
              | some a =>
                obtain ⟨ba, oa, rfl, ka⟩ := H2.out a rfl (by intro e; subst e; simp at hkL)
                have ca := hs_cell hrest2.out.1 (ka i hkL)
                have k1 : (i : Int) < (n : Int) := by omega
                obtain ⟨g1, g2⟩ := hrest2.out.2 i hin
                have sb2 := stf_bd' (cf L) (fun k => (HB.out k).1) (fun k => (HB.out k).2) N (by omega)
                have cb2 := cf_bd (L.take i) N
                have cb3 : (L.take i).length ≤ 320 := by simp; omega
                have HKL := hidden hkL
                clear ka hkL
                by_cases heq : L.getD i 0 = (N : Int)
                · have HY := hidden (fun j => laid_yes L N i j (by omega) heq)
                  have HCY := hidden (cf_take_yes L N i (by omega) HKL.out heq)
                  rw [heq] at ca
                  have hbe : ((N : Int) == (N : Int)) = true := by simp
                  have hv0 : 0 ≤ stf (cf L) N + cf (L.take i) N := by omega
                  have hv1 : stf (cf L) N + cf (L.take i) N ≤ 50000000 := by omega
                  generalize hv : stf (cf L) N + cf (L.take i) N = x at *
                  have HV := hidden hv
                  clear sb2 cb2 heq hv
                  go_wp2
                  go_roundw
                  case rel =>
                    refine ⟨i + 1, by omega, by go_num, by rw [HCY.out, ← Int.add_assoc, HV.out], hrest2.out.1.setCell _ _ (.inr (Nat.le_refl _)), ?_⟩
                    refine Af.congr (hrest2.out.2.set i x) (fun j _ => ?_)
                    rw [HY.out]
                  case measure => simp [intOf]; omega
                · have HY := hidden (fun j => laid_no L N i j heq)
                  have HCY := hidden (cf_take_not L N i HKL.out heq)
                  have hbe : (L.getD i 0 == (N : Int)) = false := by rw [beq_eq_false_iff_ne]; exact heq
                  generalize L.getD i 0 = y at *
                  generalize hv : stf (cf L) N + cf (L.take i) N = x at *
                  have HV := hidden hv
                  clear sb2 cb2 heq hv
                  go_wp2
                  go_roundw
                  case rel => exact ⟨i + 1, by omega, by go_num, by rw [HCY.out, HV.out], hrest2.out.1, hrest2.out.2.congr (fun j _ => (HY.out j).symm)⟩
                  case measure => simp [intOf]; omega
            · have ei : i = L.length := by have := Hn.out; omega
              have HTK := hidden (show L.take i = L from List.take_of_length_le (by omega))
              have HEI := hidden ei
              clear ei
              go_wp2
              go_roundw
              case rel =>
                refine ⟨N + 1, by omega, by omega, by go_num, by rw [HTK.out, Nat.add_sub_cancel], hrest2.out.1, hrest2.out.2.congr (fun j hj => ?_)⟩
                rw [laid_next L HL.out.2 N j (by omega) (by have := Hn.out; omega), HEI.out]
              case measure => simp [intOf]; omega
        · have e : N = 16 := by omega
          subst e
          go_wp2
          go_ret2
          refine ⟨.slice (some ⟨w.heap.size, 0, none⟩) n n, by rw [X1.out]; rfl, ?_, ?_, hrest.out.1⟩
          · rw [X2.out]
            exact hrest.out.2.ri (by rw [codes_length, Hn.out]) (Nat.le_refl _) (fun j hj => by rw [codes_getD L j (by have := Hn.out; omega), laid_end L HL.out.2 j (by have := Hn.out; omega)])
          · intro a n c h
            injection h with h1
            have := Option.some.inj h1
            subst this
            exact Nat.le_refl _
    · have X1 := hidden (show codeErr L = 21 by simp [codeErr, E.out, hfull])
      have X2 := hidden (show codesR L = [] by simp [codesR, hfull])
      have hf2 : 32768 < fl (cf L) 16 := by omega
      clear hfull
      generalize fl (cf L) 16 = F at *
      go_enter Tryd.func7, Tryd.ntmps7
      go_wp2_with (first | (go_at_call 14; refine HI.out.mono ?_; rintro e w1 ⟨rfl, hw⟩; rw [hw]; clear hw w1) | (go_at_call 15; refine HF.out.mono ?_; rintro e w1 ⟨rfl, hw⟩; rw [hw]; clear hw w1))
      go_ret2
      exact ⟨.slice none 0 0, by rw [X1.out]; rfl, by rw [X2.out]; exact ri_nil _, (fun a n c h => by cases h), Step.refl _ _⟩

end Go.Proofs.YtkaibpibnkmmbaaDoor

namespace Go.Proofs.YtkaibpibnkmmbaaDoor
open Go.RowKit
set_option maxRecDepth 100000
set_option linter.unusedVariables false

/-- The page's decoder in block d. -/
structure RDec (w : World) (d : Nat) (L : List Int) (vc vl : Value) (code n : Nat) : Prop where
  c0 : w.cell? ⟨d, 0, none⟩ = some vc
  c1 : w.cell? ⟨d, 1, none⟩ = some vl
  c2 : w.cell? ⟨d, 2, none⟩ = some (.int .i64 (code : Int))
  c3 : w.cell? ⟨d, 3, none⟩ = some (.int .i64 (n : Int))
  rc : Ri w vc (codes L)
  rl : Ri w vl L
  f2 : w.frozen? ⟨d, 2, none⟩ = false
  f3 : w.frozen? ⟨d, 3, none⟩ = false
  nc : ∀ a n c, vc = .slice (some a) n c → codes L ≠ [] → a.block < d
  nl : ∀ a n c, vl = .slice (some a) n c → L ≠ [] → a.block < d

/-- What the page's New leaves. -/
def RNewP (L : List Int) (w : World) (e : Ending) (w' : World) : Prop :=
  (newErr L ≠ 0 ∧ e = .returned (.tuple #[.pointer none, .int .i64 (newErr L)]) ∧ Step (fun _ => False) w w') ∨
  (newErr L = 0 ∧ ∃ d vc vl, e = .returned (.tuple #[.pointer (some ⟨d, 0, none⟩), .int .i64 0]) ∧ w.heap.size ≤ d ∧ RDec w' d L vc vl 0 0 ∧ (∀ a n c, vc = .slice (some a) n c → w.heap.size ≤ a.block) ∧ (∀ a n c, vl = .slice (some a) n c → w.heap.size ≤ a.block) ∧ Step (fun _ => False) w w')

theorem ri_block {w : World} {a : Addr} {n c : Nat} {L : List Int} (h : Ri w (.slice (some a) n c) L) (hne : L ≠ []) : a.block < w.heap.size := by
  obtain ⟨ao, c', e, _, _, h2⟩ := h
  injection e with e1
  obtain ⟨b, o, rfl, hc⟩ := h2 a e1.symm hne
  exact World.block_lt_of_cell? w _ (hc 0 (by cases L; exact absurd rfl hne; simp))

theorem rdec_new {w : World} {L : List Int} {a1 a2 : Option Addr} {n1 n2 k1 k2 : Nat} (r1 : Ri w (.slice a1 n1 k1) (codes L)) (r2 : Ri w (.slice a2 n2 k2) L) (t : TypeId) :
    RDec (w.alloc (.cells #[.slice a1 n1 k1, .slice a2 n2 k2, .int .i64 0, .int .i64 0] t)) w.heap.size L (.slice a1 n1 k1) (.slice a2 n2 k2) 0 0 := by
  have hc : ∀ k v, (#[Value.slice a1 n1 k1, .slice a2 n2 k2, .int .i64 0, .int .i64 0])[k]? = some v → (w.alloc (.cells #[.slice a1 n1 k1, .slice a2 n2 k2, .int .i64 0, .int .i64 0] t)).cell? ⟨w.heap.size, k, none⟩ = some v := fun k v h => by rw [World.cell?_alloc_at _ _ _ _ rfl]; exact h
  exact ⟨hc 0 _ rfl, hc 1 _ rfl, hc 2 _ rfl, hc 3 _ rfl, r1.made ((Step.refl _ w).alloc _), r2.made ((Step.refl _ w).alloc _), World.frozen?_alloc_at _ _ _ _ rfl, World.frozen?_alloc_at _ _ _ _ rfl,
    fun a n c e ne => by injection e with e1; subst e1; exact ri_block r1 ne, fun a n c e ne => by injection e with e1; subst e1; exact ri_block r2 ne⟩

set_option maxHeartbeats 4000000 in
theorem refNew_any (v : Value) (L : List Int) (w : World) (h : Ri w v L) (hl : L.length ≤ 9223372036854775807) :
    Calls Tryd.prog 11 #[v] w (RNewP L w) := by
  obtain ⟨i0, hi, hz0, hz1, hz2⟩ := info_parts Tryd.info3
  have HI := hidden (is_any v L w h hl)
  have HFi := hidden (fun (h1 : L.length ≤ 400) (h2 : ∀ x ∈ L, 0 ≤ x ∧ x ≤ 15) => refFill_any v L w h h1 h2)
  have HCO := hidden (refCodes_any v L w h hl)
  have HR := hidden h
  obtain ⟨ao, cap, rfl, hcap, r1, r2⟩ := h
  have H1 := hidden r1
  have H2 := hidden r2
  obtain ⟨n, hn⟩ : ∃ n, n = L.length := ⟨_, rfl⟩
  have Hn := hidden hn
  rw [← hn] at hl hcap HI HFi HCO HR ⊢
  clear hn r1 r2
  cases hok : okB L with
  | false =>
    have X := hidden (show newErr L = 1 by simp [newErr, hok])
    rw [hok] at HI
    clear hok
    go_enter Tryd.func11, Tryd.ntmps11
    go_wp2_with (go_at_call 14; refine HI.out.mono ?_; rintro e w1 ⟨rfl, hw⟩; rw [hw]; clear hw w1)
    go_ret2
    exact .inl ⟨by rw [X.out]; omega, by rw [X.out]; rfl, Step.refl _ _⟩
  | true =>
    have E := hidden hok
    have HL := hidden ((okB_iff L).1 hok)
    have h320 : n ≤ 320 := by rw [Hn.out]; exact HL.out.1
    have HF := hidden (HFi.out (by omega) HL.out.2)
    rw [hok] at HI
    clear hok
    go_enter Tryd.func11, Tryd.ntmps11
    go_wp2_with (go_at_call 14; refine HI.out.mono ?_; rintro e w1 ⟨rfl, hw⟩; rw [hw]; clear hw w1)
    go_loopw [4, 5, 6] (fun m o i wr => ∃ k : Nat, k ≤ n ∧ i = .int .i64 (k : Int) ∧ m = .int .i64 (mny L k) ∧ o = .int .i64 (onl L k) ∧ wr = w) (fun _ _ i _ => n - (intOf i).toNat)
    case atStart => exact ⟨0, Nat.zero_le _, rfl, rfl, rfl, rfl⟩
    case round =>
      obtain ⟨k, hk, rfl, rfl, rfl, hww⟩ := hrel
      subst hww
      by_cases hlt : k < n
      · have hkL : k < L.length := by have := Hn.out; omega
        cases ao with
        | none => have := (H1.out rfl).1; subst this; simp at hkL
        | some a =>
          obtain ⟨ba, oa, rfl, ka⟩ := H2.out a rfl (by intro e; subst e; simp at hkL)
          have ca := ka k hkL
          have k1 : (k : Int) < (n : Int) := by omega
          have mb := mny_bd L k
          have HM := hidden (show mny L (k + 1) = if 0 < L.getD k 0 then mny L k + 1 else mny L k from rfl)
          have HN := hidden (show onl L (k + 1) = if 0 < L.getD k 0 then L.getD k 0 else onl L k from rfl)
          clear ka hkL
          generalize L.getD k 0 = x at *
          generalize mny L k = mk at *
          generalize onl L k = ok at *
          by_cases hx : 0 < x
          · rw [if_pos hx] at HM HN
            go_wp2
            go_roundw
            case rel => exact ⟨k + 1, by omega, by go_num, by rw [HM.out], by rw [HN.out], by trivial⟩
            case measure => simp [intOf]; omega
          · rw [if_neg hx] at HM HN
            go_wp2
            go_roundw
            case rel => exact ⟨k + 1, by omega, by go_num, by rw [HM.out], by rw [HN.out], by trivial⟩
            case measure => simp [intOf]; omega
      · have e : k = n := by omega
        subst e
        have HFW := hidden (few_iff L HL.out.2)
        rw [← Hn.out] at HFW
        generalize hM : mny L k = M at *
        generalize hO : onl L k = O at *
        clear hM hO
        by_cases hbad : ¬ fl (cf L) 16 = 32768 ∧ ¬ M = 0 ∧ (¬ M = 1 ∨ ¬ O = 1)
        · have X := hidden (show newErr L = 21 by
            unfold newErr
            rw [if_pos E.out, if_neg]
            rintro (h | h)
            · exact hbad.1 h
            · have := HFW.out.1 h; omega)
          obtain ⟨q1, q2, q3⟩ := hbad
          have b1 : (fl (cf L) 16 != 32768) = true := by rw [bne_iff_ne]; exact q1
          have b2 : (M != 0) = true := by rw [bne_iff_ne]; exact q2
          generalize fl (cf L) 16 = F at *
          clear q1 q2
          by_cases h1 : M = 1
          · have h2 : ¬ O = 1 := by omega
            have b3 : (M != 1) = false := by simp [h1]
            have b4 : (O != 1) = true := by rw [bne_iff_ne]; exact h2
            clear q3 h1 h2
            go_wp2_with (go_at_call 15; refine HF.out.mono ?_; rintro e w1 ⟨rfl, hw⟩; rw [hw]; clear hw w1)
            go_ret2
            exact .inl ⟨by rw [X.out]; omega, by rw [X.out]; rfl, Step.refl _ _⟩
          · have b3 : (M != 1) = true := by rw [bne_iff_ne]; exact h1
            clear q3 h1
            go_wp2_with (go_at_call 15; refine HF.out.mono ?_; rintro e w1 ⟨rfl, hw⟩; rw [hw]; clear hw w1)
            go_ret2
            exact .inl ⟨by rw [X.out]; omega, by rw [X.out]; rfl, Step.refl _ _⟩
        · have X := hidden (show newErr L = 0 by
            unfold newErr
            rw [if_pos E.out, if_pos]
            by_cases h : fl (cf L) 16 = 32768
            · exact .inl h
            · exact .inr (HFW.out.2 (by omega)))
          have HCE := hidden (And.intro (newErr_codes L X.out).1 (codeErr_ok (newErr_codes L X.out).1).2.2)
          by_cases hF : fl (cf L) 16 = 32768
          · have b1 : (fl (cf L) 16 != 32768) = false := by simp [hF]
            generalize fl (cf L) 16 = F at *
            clear hF hbad
            go_wp2_with (first | (go_at_call 15; refine HF.out.mono ?_; rintro e w1 ⟨rfl, hw⟩; rw [hw]; clear hw w1) | fail)
            refine HCO.out.mono ?_
            rintro e w2 ⟨v2, rfl, rr, fr, hs2⟩
            rw [HCE.out.1]
            rw [HCE.out.2] at rr
            have RR := hidden rr
            have FR := hidden fr
            have S2 := hidden hs2
            obtain ⟨a2, k2, rfl, _⟩ := rr
            clear fr hs2
            have hown := hidden (show (w2.alloc (.cells #[] 3)).ownsRow 0 3 1 (.slice (some ⟨w2.heap.size, 0, none⟩) 0 0) 0 [] by
              have := World.ownsRow_lit (base := 0) (e := 3) (size := 1) w2 #[] 0 (Nat.zero_le _) (Nat.zero_le _) rfl
              simpa using this)
            have hrd := (HR.out.made S2.out).made ((Step.refl (fun _ => False) w2).alloc (.cells #[] 3))
            generalize (codes L).length = cl at *
            cases ao with
            | none =>
              obtain ⟨hLe, hce⟩ := H1.out rfl
              have hk0 : k = 0 := by have := Hn.out; rw [hLe] at this; simpa using this
              subst hk0
              subst hce
              clear hrd
              have HLE := hidden hLe
              clear hLe
              go_wp2_with (at_builtin; refine wpList_append_stop rfl (.tmp 50) (.tmp 51) 22 rfl 3 i0 1 Tryd.underlying22 hi _ _ _ rfl hown.out rfl ?_)
              unfold Hid
              go_wp2
              go_ret2
              have r0 : Ri (w2.alloc (.cells #[] 3)) (.slice (some ⟨w2.heap.size, 0, none⟩) 0 0) L := by
                rw [HLE.out]; exact ⟨_, 0, rfl, by simp, (fun h => by cases h), fun a ha hne => absurd rfl hne⟩
              have rd := rdec_new (RR.out.made ((Step.refl _ w2).alloc (.cells #[] 3))) r0 55
              rw [World.size_alloc] at rd
              exact .inr ⟨X.out, w2.heap.size + 1, _, .slice (some ⟨w2.heap.size, 0, none⟩) 0 0, rfl, by have := S2.out.size; omega, rd, FR.out, (fun a n c h => by injection h with h1; have := Option.some.inj h1; subst this; exact S2.out.size), (S2.out.alloc _).alloc _⟩
            | some a =>
              have hnews := hidden hrd.news
              have HLL : Hid ((i64s L).length = k * 1) := by unfold Hid; rw [i64s_length, ← Hn.out]; omega
              clear hrd
              go_wp2_with (at_builtin; refine wpList_append_at _ rfl (.tmp 50) (.tmp 51) 22 rfl 3 i0 (.int .i64 0) 1 8 Tryd.underlying22 hi hz0 hz1 hz2 rfl (by decide) _ 0 [] rfl hown.out a k cap (i64s L) rfl HLL.out hnews.out (i64s_one _) ?c3 ?c4 ?_)
              case c3 => unfold maxLen; omega
              case c4 => omega
              intro v3 w3 hown3 hgrow3 hnil3 hb3
              have HO3 := hidden (show w3.ownsRow 0 3 1 v3 k (i64s L) by simpa using hown3)
              have HS3 := hidden (show Step (fun _ => False) w2 w3 from ((Step.refl _ _).alloc _).grown hgrow3 (fun k hk => .inr (by simp [Value.ownBlock] at hk; omega)))
              have HB3 := hidden (show ∀ k, v3.ownBlock = some k → w2.heap.size ≤ k by
                intro k hk
                rcases hb3 with e | e
                · rw [e] at hk; simp [Value.ownBlock] at hk; omega
                · rw [e] at hk; have := Option.some.inj hk; omega)
              obtain ⟨a3, k3, rfl⟩ := own_slice HO3.out
              clear hown3 hgrow3 hnil3 hb3
              go_wp2
              go_ret2
              refine .inr ⟨X.out, _, _, _, rfl, by have := S2.out.size; have := HS3.out.size; omega, rdec_new (RR.out.made HS3.out) (Ri.of_own HO3.out) _, FR.out, (fun a n c h => ?_), (S2.out.made HS3.out).alloc _⟩
              injection h with h1
              subst h1
              rcases HO3.out.2 with ⟨e, _⟩ | ⟨g, c, cur, e, _⟩
              · injection e with e1; cases e1
              · injection e with e1
                have e2 := Option.some.inj e1
                subst e2
                have := HB3.out g rfl
                have := S2.out.size
                show wr.heap.size ≤ g
                omega
          · have b1 : (fl (cf L) 16 != 32768) = true := by rw [bne_iff_ne]; exact hF
            generalize fl (cf L) 16 = F at *
            by_cases hM0 : M = 0
            · have b2 : (M != 0) = false := by simp [hM0]
              clear hF hbad hM0
              go_wp2_with (first | (go_at_call 15; refine HF.out.mono ?_; rintro e w1 ⟨rfl, hw⟩; rw [hw]; clear hw w1) | fail)
              refine HCO.out.mono ?_
              rintro e w2 ⟨v2, rfl, rr, fr, hs2⟩
              rw [HCE.out.1]
              rw [HCE.out.2] at rr
              have RR := hidden rr
              have FR := hidden fr
              have S2 := hidden hs2
              obtain ⟨a2, k2, rfl, _⟩ := rr
              clear fr hs2
              have hown := hidden (show (w2.alloc (.cells #[] 3)).ownsRow 0 3 1 (.slice (some ⟨w2.heap.size, 0, none⟩) 0 0) 0 [] by
                have := World.ownsRow_lit (base := 0) (e := 3) (size := 1) w2 #[] 0 (Nat.zero_le _) (Nat.zero_le _) rfl
                simpa using this)
              have hrd := (HR.out.made S2.out).made ((Step.refl (fun _ => False) w2).alloc (.cells #[] 3))
              generalize (codes L).length = cl at *
              cases ao with
              | none =>
                obtain ⟨hLe, hce⟩ := H1.out rfl
                have hk0 : k = 0 := by have := Hn.out; rw [hLe] at this; simpa using this
                subst hk0
                subst hce
                clear hrd
                have HLE := hidden hLe
                clear hLe
                go_wp2_with (at_builtin; refine wpList_append_stop rfl (.tmp 50) (.tmp 51) 22 rfl 3 i0 1 Tryd.underlying22 hi _ _ _ rfl hown.out rfl ?_)
                unfold Hid
                go_wp2
                go_ret2
                have r0 : Ri (w2.alloc (.cells #[] 3)) (.slice (some ⟨w2.heap.size, 0, none⟩) 0 0) L := by
                  rw [HLE.out]; exact ⟨_, 0, rfl, by simp, (fun h => by cases h), fun a ha hne => absurd rfl hne⟩
                have rd := rdec_new (RR.out.made ((Step.refl _ w2).alloc (.cells #[] 3))) r0 55
                rw [World.size_alloc] at rd
                exact .inr ⟨X.out, w2.heap.size + 1, _, .slice (some ⟨w2.heap.size, 0, none⟩) 0 0, rfl, by have := S2.out.size; omega, rd, FR.out, (fun a n c h => by injection h with h1; have := Option.some.inj h1; subst this; exact S2.out.size), (S2.out.alloc _).alloc _⟩
              | some a =>
                have hnews := hidden hrd.news
                have HLL : Hid ((i64s L).length = k * 1) := by unfold Hid; rw [i64s_length, ← Hn.out]; omega
                clear hrd
                go_wp2_with (at_builtin; refine wpList_append_at _ rfl (.tmp 50) (.tmp 51) 22 rfl 3 i0 (.int .i64 0) 1 8 Tryd.underlying22 hi hz0 hz1 hz2 rfl (by decide) _ 0 [] rfl hown.out a k cap (i64s L) rfl HLL.out hnews.out (i64s_one _) ?c3 ?c4 ?_)
                case c3 => unfold maxLen; omega
                case c4 => omega
                intro v3 w3 hown3 hgrow3 hnil3 hb3
                have HO3 := hidden (show w3.ownsRow 0 3 1 v3 k (i64s L) by simpa using hown3)
                have HS3 := hidden (show Step (fun _ => False) w2 w3 from ((Step.refl _ _).alloc _).grown hgrow3 (fun k hk => .inr (by simp [Value.ownBlock] at hk; omega)))
                have HB3 := hidden (show ∀ k, v3.ownBlock = some k → w2.heap.size ≤ k by
                  intro k hk
                  rcases hb3 with e | e
                  · rw [e] at hk; simp [Value.ownBlock] at hk; omega
                  · rw [e] at hk; have := Option.some.inj hk; omega)
                obtain ⟨a3, k3, rfl⟩ := own_slice HO3.out
                clear hown3 hgrow3 hnil3 hb3
                go_wp2
                go_ret2
                refine .inr ⟨X.out, _, _, _, rfl, by have := S2.out.size; have := HS3.out.size; omega, rdec_new (RR.out.made HS3.out) (Ri.of_own HO3.out) _, FR.out, (fun a n c h => ?_), (S2.out.made HS3.out).alloc _⟩
                injection h with h1
                subst h1
                rcases HO3.out.2 with ⟨e, _⟩ | ⟨g, c, cur, e, _⟩
                · injection e with e1; cases e1
                · injection e with e1
                  have e2 := Option.some.inj e1
                  subst e2
                  have := HB3.out g rfl
                  have := S2.out.size
                  show wr.heap.size ≤ g
                  omega
            · have hM1 : M = 1 := by omega
              have hO1 : O = 1 := by omega
              have b2 : (M != 0) = true := by rw [bne_iff_ne]; exact hM0
              have b3 : (M != 1) = false := by simp [hM1]
              have b4 : (O != 1) = false := by simp [hO1]
              clear hF hbad hM0 hM1 hO1
              go_wp2_with (first | (go_at_call 15; refine HF.out.mono ?_; rintro e w1 ⟨rfl, hw⟩; rw [hw]; clear hw w1) | fail)
              refine HCO.out.mono ?_
              rintro e w2 ⟨v2, rfl, rr, fr, hs2⟩
              rw [HCE.out.1]
              rw [HCE.out.2] at rr
              have RR := hidden rr
              have FR := hidden fr
              have S2 := hidden hs2
              obtain ⟨a2, k2, rfl, _⟩ := rr
              clear fr hs2
              have hown := hidden (show (w2.alloc (.cells #[] 3)).ownsRow 0 3 1 (.slice (some ⟨w2.heap.size, 0, none⟩) 0 0) 0 [] by
                have := World.ownsRow_lit (base := 0) (e := 3) (size := 1) w2 #[] 0 (Nat.zero_le _) (Nat.zero_le _) rfl
                simpa using this)
              have hrd := (HR.out.made S2.out).made ((Step.refl (fun _ => False) w2).alloc (.cells #[] 3))
              generalize (codes L).length = cl at *
              cases ao with
              | none =>
                obtain ⟨hLe, hce⟩ := H1.out rfl
                have hk0 : k = 0 := by have := Hn.out; rw [hLe] at this; simpa using this
                subst hk0
                subst hce
                clear hrd
                have HLE := hidden hLe
                clear hLe
                go_wp2_with (at_builtin; refine wpList_append_stop rfl (.tmp 50) (.tmp 51) 22 rfl 3 i0 1 Tryd.underlying22 hi _ _ _ rfl hown.out rfl ?_)
                unfold Hid
                go_wp2
                go_ret2
                have r0 : Ri (w2.alloc (.cells #[] 3)) (.slice (some ⟨w2.heap.size, 0, none⟩) 0 0) L := by
                  rw [HLE.out]; exact ⟨_, 0, rfl, by simp, (fun h => by cases h), fun a ha hne => absurd rfl hne⟩
                have rd := rdec_new (RR.out.made ((Step.refl _ w2).alloc (.cells #[] 3))) r0 55
                rw [World.size_alloc] at rd
                exact .inr ⟨X.out, w2.heap.size + 1, _, .slice (some ⟨w2.heap.size, 0, none⟩) 0 0, rfl, by have := S2.out.size; omega, rd, FR.out, (fun a n c h => by injection h with h1; have := Option.some.inj h1; subst this; exact S2.out.size), (S2.out.alloc _).alloc _⟩
              | some a =>
                have hnews := hidden hrd.news
                have HLL : Hid ((i64s L).length = k * 1) := by unfold Hid; rw [i64s_length, ← Hn.out]; omega
                clear hrd
                go_wp2_with (at_builtin; refine wpList_append_at _ rfl (.tmp 50) (.tmp 51) 22 rfl 3 i0 (.int .i64 0) 1 8 Tryd.underlying22 hi hz0 hz1 hz2 rfl (by decide) _ 0 [] rfl hown.out a k cap (i64s L) rfl HLL.out hnews.out (i64s_one _) ?c3 ?c4 ?_)
                case c3 => unfold maxLen; omega
                case c4 => omega
                intro v3 w3 hown3 hgrow3 hnil3 hb3
                have HO3 := hidden (show w3.ownsRow 0 3 1 v3 k (i64s L) by simpa using hown3)
                have HS3 := hidden (show Step (fun _ => False) w2 w3 from ((Step.refl _ _).alloc _).grown hgrow3 (fun k hk => .inr (by simp [Value.ownBlock] at hk; omega)))
                have HB3 := hidden (show ∀ k, v3.ownBlock = some k → w2.heap.size ≤ k by
                  intro k hk
                  rcases hb3 with e | e
                  · rw [e] at hk; simp [Value.ownBlock] at hk; omega
                  · rw [e] at hk; have := Option.some.inj hk; omega)
                obtain ⟨a3, k3, rfl⟩ := own_slice HO3.out
                clear hown3 hgrow3 hnil3 hb3
                go_wp2
                go_ret2
                refine .inr ⟨X.out, _, _, _, rfl, by have := S2.out.size; have := HS3.out.size; omega, rdec_new (RR.out.made HS3.out) (Ri.of_own HO3.out) _, FR.out, (fun a n c h => ?_), (S2.out.made HS3.out).alloc _⟩
                injection h with h1
                subst h1
                rcases HO3.out.2 with ⟨e, _⟩ | ⟨g, c, cur, e, _⟩
                · injection e with e1; cases e1
                · injection e with e1
                  have e2 := Option.some.inj e1
                  subst e2
                  have := HB3.out g rfl
                  have := S2.out.size
                  show wr.heap.size ≤ g
                  omega

end Go.Proofs.YtkaibpibnkmmbaaDoor

namespace Go.Proofs.YtkaibpibnkmmbaaDoor
open Go.RowKit
set_option maxRecDepth 100000
set_option linter.unusedVariables false

theorem and_1023 (z : Int) : ∃ y : Nat, y ≤ 1023 ∧ bits .and .i64 z 1023 = (y : Int) := by
  have h : (BitVec.ofInt 64 z &&& BitVec.ofInt 64 1023).toNat ≤ 1023 := by
    rw [BitVec.toNat_and]
    have : (BitVec.ofInt 64 1023).toNat = 1023 := by decide
    rw [this]
    exact Nat.and_le_right
  refine ⟨(BitVec.ofInt 64 z &&& BitVec.ofInt 64 1023).toNat, h, ?_⟩
  show IntKind.i64.wrap ((BitVec.ofInt 64 z &&& BitVec.ofInt 64 1023).toNat : Int) = _
  exact wrap_i64_nat _ (by omega)

theorem pn_pos (C : List Int) (i : Nat) (h : ¬ C.getD i 0 = 0) : 1 ≤ pn C (i + 1) := by
  simp only [pn]
  rw [if_neg h]
  omega

theorem Bt.whole {ps : List (Nat × Nat)} (hp : pcOk ps) : Bt (pcN ps) ((pcL ps + 7) / 8) 0 ps := Bt.of 0 (by simp) hp

theorem dynP_ok (LN : List Nat) (L : List Int) (P : List Nat) : pcOk (dynP LN L P) := by
  intro q hq
  unfold dynP at hq
  have hcl : ∀ n k, ∀ q ∈ clPs k n, q.1 < 2 ^ q.2 := by
    intro n
    induction n with
    | zero => intro k q hq; cases hq
    | succ n ih =>
      intro k q hq
      rcases List.mem_cons.1 hq with h | h
      · subst h; exact clP_ok k
      · exact ih (k + 1) q h
  simp only [List.mem_cons, List.mem_append, List.mem_map, List.not_mem_nil, or_false] at hq
  rcases hq with h | h | h | h | h | h | h | h | h
  · subst h; decide
  · subst h; decide
  · subst h; decide
  · subst h; decide
  · subst h; decide
  · exact hcl 19 0 q h
  · obtain ⟨x, _, rfl⟩ := h; exact rv_full _ _
  · obtain ⟨x, _, rfl⟩ := h; exact rv_full _ _
  · subst h; exact rv_full _ _

/-- The counts: those that came in, by 1023, and one more for each byte; at the end one more of 256. -/
def CI (W : World) (cb : Nat) (P : List Nat) (j : Nat) : Prop := ∃ f : Nat → Int, Af W cb 257 f ∧ (∀ q, q < 257 → 0 ≤ f q ∧ f q ≤ 2000 + j) ∧ 0 < f 256 ∧ ∀ i, i < j → i < P.length → 0 < f (P.getD i 0)

theorem CI.step {W : World} {cb : Nat} {P : List Nat} {j : Nat} {f : Nat → Int} (h : Af W cb 257 f) (h1 : ∀ q, q < 257 → 0 ≤ f q ∧ f q ≤ 2000 + j) (h2 : 0 < f 256) (h3 : ∀ i, i < j → i < P.length → 0 < f (P.getD i 0)) (hp : ∀ i, i < P.length → P.getD i 0 < 256) (hj : j < P.length) : CI (W.setCell ⟨cb, P.getD j 0, none⟩ (.int .i64 (f (P.getD j 0) + 1))) cb P (j + 1) := by
  refine ⟨_, h.set (P.getD j 0) _, fun q hq => ?_, ?_, fun i hi hiP => ?_⟩
  · unfold upd
    have := h1 q hq
    split
    · rename_i e; subst e; omega
    · omega
  · unfold upd
    rw [if_neg (by have := hp j hj; omega)]
    exact h2
  · unfold upd
    by_cases e : P.getD i 0 = P.getD j 0
    · rw [if_pos e]
      have := h1 (P.getD j 0) (by have := hp j hj; omega)
      omega
    · rw [if_neg e]
      exact h3 i (by
        rcases Nat.lt_or_ge i j with h | h
        · exact h
        · have : i = j := by omega
          subst this
          exact absurd rfl e) hiP

end Go.Proofs.YtkaibpibnkmmbaaDoor

namespace Go.Proofs.YtkaibpibnkmmbaaDoor
open Go.RowKit
set_option maxRecDepth 100000
set_option linter.unusedVariables false

theorem dyn_assoc (K R S : List (Nat × Nat)) (e : Nat × Nat) : [(1, 1), (2, 2)] ++ [(0, 5)] ++ [(0, 5)] ++ [(15, 4)] ++ K ++ R ++ S ++ [e] = (1, 1) :: (2, 2) :: (0, 5) :: (0, 5) :: (15, 4) :: (K ++ (R ++ (S ++ [e]))) := by simp

set_option maxHeartbeats 3000000 in
theorem inDyn_any (ao : Option Addr) (an ac : Nat) (A : List Int) (ab : Option Addr) (cb0 : Nat) (P : List Nat) (w : World) (T : Tab w) (ra : Ri w (.slice ao an ac) A) (ha : A.length ≤ 9223372036854775807) (rb : Rd w (.slice ab P.length cb0) P) (hB : ∀ y ∈ P, y < 256) (hl : P.length ≤ 140737488351232) :
    Calls Tryd.prog 3 #[.slice ao an ac, .slice ab P.length cb0] w fun e w' => e = .returned (.bool true) ∧ Step (fun _ => False) w w' := by
  have han : an = A.length := by obtain ⟨_, _, e, _⟩ := ra; injection e
  by_cases h1 : an ≤ 257
  · by_cases h2 : P.length ≤ 500
    · have HRA := hidden ra
      have HRB := hidden rb
      have HT := hidden T
      have HAN := hidden han
      have HPB := hidden (show ∀ i, i < P.length → P.getD i 0 < 256 from fun i hi => hB _ (by rw [List.getD_eq_getElem?_getD, List.getElem?_eq_getElem hi]; exact List.getElem_mem hi))
      obtain ⟨pl, hpl⟩ : ∃ pl, pl = P.length := ⟨_, rfl⟩
      have HPL := hidden hpl
      rw [← hpl] at HRB h2 ⊢
      clear ra rb T han hB hl ha hpl
      go_enter Tryd.func3, Tryd.ntmps3
      go_wp2_with (refine makeInts 257 _ rfl rfl rfl (by omega) ?_)
      intro w1 hs1 hz1 ha1
      obtain ⟨cb, hcb⟩ : ∃ cb, cb = w.heap.size := ⟨_, rfl⟩
      rw [← hcb] at ha1 ⊢
      have HS1 := hidden hs1
      have HA1 := hidden ha1
      have HCB := hidden (And.intro (show w.heap.size ≤ cb by omega) (show cb < w1.heap.size by omega))
      clear hs1 ha1 hz1 hcb
      go_wp2
      go_loopw [6] (fun iv W => ∃ i : Nat, i ≤ an ∧ iv = .int .i64 (i : Int) ∧ Hid ((∃ f : Nat → Int, Af W cb 257 f ∧ ∀ q, q < 257 → 0 ≤ f q ∧ f q ≤ 1023) ∧ Step (fun _ => False) w W ∧ w1.heap.size ≤ W.heap.size)) (fun iv _ => an - (intOf iv).toNat)
      case atStart => exact ⟨0, by omega, rfl, hidden ⟨⟨_, HA1.out, fun q _ => ⟨by omega, by omega⟩⟩, HS1.out, Nat.le_refl _⟩⟩
      case round =>
        obtain ⟨i, hi, rfl, HH⟩ := hrel
        by_cases hin : i < an
        · have i1 : (i : Int) < (an : Int) := by omega
          obtain ⟨hnr, g, off, hao, hcA⟩ := HRA.out.cell (k := i) (by have := HAN.out; omega)
          clear hnr
          subst hao
          have ca := HH.out.2.1.cell (hcA i (by have := HAN.out; omega)) (fun q => q)
          obtain ⟨f, hf, hf2⟩ := HH.out.1
          obtain ⟨cc, cz⟩ := hf i (by omega)
          obtain ⟨y, hy, hyy⟩ := and_1023 (A.getD i 0)
          have i2 : (i : Int) < 257 := by omega
          have HN : Hid ((∃ f : Nat → Int, Af (wr.setCell ⟨cb, i, none⟩ (.int .i64 (y : Int))) cb 257 f ∧ ∀ q, q < 257 → 0 ≤ f q ∧ f q ≤ 1023) ∧ Step (fun _ => False) w (wr.setCell ⟨cb, i, none⟩ (.int .i64 (y : Int))) ∧ w1.heap.size ≤ (wr.setCell ⟨cb, i, none⟩ (.int .i64 (y : Int))).heap.size) := hidden (by
            refine ⟨⟨_, hf.set i (y : Int), fun q hq => ?_⟩, HH.out.2.1.setCell _ _ (.inr HCB.out.1), by simpa [World.setCell] using HH.out.2.2⟩
            unfold upd
            split
            · omega
            · exact hf2 q hq)
          clear hcA hf hf2
          generalize A.getD i 0 = z at *
          generalize f i = fi at *
          go_wp2
          go_roundw
          case rel => exact ⟨i + 1, by omega, by go_num, HN.out⟩
          case measure => simp [intOf]; omega
        · have i1 : ¬ (i : Int) < (an : Int) := by omega
          obtain ⟨f, hf, hf2⟩ := HH.out.1
          obtain ⟨cc, cz⟩ := hf 256 (by omega)
          have hfb := hf2 256 (by omega)
          have HC0 := hidden (show CI (wr.setCell ⟨cb, 256, none⟩ (.int .i64 (f 256 + 1))) cb P 0 from ⟨_, hf.set 256 (f 256 + 1), fun q hq => by
            unfold upd
            have := hf2 q hq
            split
            · omega
            · omega, by unfold upd; rw [if_pos rfl]; omega, fun i hi => by omega⟩)
          have HS2 := hidden (show Step (fun _ => False) w (wr.setCell ⟨cb, 256, none⟩ (.int .i64 (f 256 + 1))) from HH.out.2.1.setCell _ _ (.inr HCB.out.1))
          have HZ2 := hidden (show w1.heap.size ≤ (wr.setCell ⟨cb, 256, none⟩ (.int .i64 (f 256 + 1))).heap.size by simpa [World.setCell] using HH.out.2.2)
          generalize f 256 = fe at *
          clear hf hf2
          go_wp2
          go_loopw [7] (fun jv W => ∃ j : Nat, j ≤ pl ∧ jv = .int .i64 (j : Int) ∧ Hid (CI W cb P j ∧ Step (fun _ => False) w W ∧ w1.heap.size ≤ W.heap.size)) (fun jv _ => pl - (intOf jv).toNat)
          case atStart => exact ⟨0, by omega, rfl, hidden ⟨HC0.out, HS2.out, HZ2.out⟩⟩
          case round =>
            obtain ⟨j, hj, rfl, HJ⟩ := hrel
            by_cases hjp : j < pl
            · have j1 : (j : Int) < (pl : Int) := by omega
              have hjP : j < P.length := by have := HPL.out; omega
              obtain ⟨g, off, hab, hcp0⟩ := HRB.out.getAt hjP
              have hcp := hcp0 j hjP
              subst hab
              have cp := HJ.out.2.1.cell hcp (fun q => q)
              have hc256 := HPB.out j hjP
              obtain ⟨f, hf, hf2, hf3, hf4⟩ := HJ.out.1
              obtain ⟨cc, cz⟩ := hf (P.getD j 0) (by omega)
              have hfb := hf2 (P.getD j 0) (by omega)
              have HN := hidden (CI.step hf hf2 hf3 hf4 HPB.out hjP)
              have HS3 := hidden (show Step (fun _ => False) w (wr.setCell ⟨cb, P.getD j 0, none⟩ (.int .i64 (f (P.getD j 0) + 1))) from HJ.out.2.1.setCell _ _ (.inr HCB.out.1))
              have HZ3 := hidden (show w1.heap.size ≤ (wr.setCell ⟨cb, P.getD j 0, none⟩ (.int .i64 (f (P.getD j 0) + 1))).heap.size by simpa [World.setCell] using HJ.out.2.2)
              have c257 : ((P.getD j 0 : Nat) : Int) < 257 := by omega
              clear hf hf2 hf3 hf4 hcp hcp0
              generalize f (P.getD j 0) = fi at *
              generalize P.getD j 0 = c at *
              go_wp2
              go_roundw
              case rel => exact ⟨j + 1, by omega, by go_num, hidden ⟨HN.out, HS3.out, HZ3.out⟩⟩
              case measure => simp [intOf]; omega
            · have j1 : ¬ (j : Int) < (pl : Int) := by omega
              obtain ⟨f, hf, hf2, hf3, hf4⟩ := HJ.out.1
              have hjpl : j = pl := by omega
              obtain ⟨C, hC⟩ : ∃ C, C = (List.range 257).map f := ⟨_, rfl⟩
              have hCl : C.length = 257 := by rw [hC]; simp
              have hCg : ∀ q, q < 257 → C.getD q 0 = f q := fun q hq => by rw [hC]; simp [List.getD, hq]
              have HRC := hidden (show Ri wr (.slice (some ⟨cb, 0, none⟩) 257 257) C from hf.ri hCl (Nat.le_refl _) hCg)
              have HCN := hidden (show ∀ x ∈ C, 0 ≤ x from fun x hx => by
                rw [hC] at hx
                obtain ⟨q, hq, rfl⟩ := List.mem_map.1 hx
                exact (hf2 q (by simpa using hq)).1)
              have HC256 := hidden (show ¬ C.getD 256 0 = 0 by rw [hCg 256 (by omega)]; omega)
              have HCP := hidden (show ∀ i, i < P.length → ¬ C.getD (P.getD i 0) 0 = 0 from fun i hi => by
                have h1 := HPB.out i hi
                rw [hCg _ (by omega)]
                have := hf4 i (by have := HPL.out; omega) hi
                omega)
              have HPN := hidden (show 1 ≤ pn C C.length by
                rw [hCl]
                exact pn_pos C 256 HC256.out)
              have hRL := hidden (rlens_any _ C wr HRC.out (by omega) HCN.out HPN.out)
              have HCL := hidden hCl
              rw [hCl] at hRL
              have HSJ := hidden HJ.out.2.1
              clear hf hf2 hf3 hf4 hC hCl hCg HJ
              go_wp2_with fail
              refine hRL.out.mono ?_
              rintro e w5 ⟨b1, rfl, k, S, R5⟩
              obtain ⟨L, hL⟩ : ∃ L, L = lnI C k S := ⟨_, rfl⟩
              obtain ⟨LN, hLN⟩ : ∃ LN, LN = lnL C k S := ⟨_, rfl⟩
              have HLI := hidden (show L = LN.map (fun (x : Nat) => (x : Int)) by rw [hL, hLN]; rfl)
              have HLL := hidden (show LN.length = 257 by rw [hLN, lnL_length]; exact HCL.out)
              have HLl := hidden (show L.length = 257 by rw [hL, lnI_length]; exact HCL.out)
              have HL16 := hidden (show ∀ x ∈ LN, x < 16 by rw [hLN]; exact lnL_lt C k S R5.out.2.2.2.1)
              have HNE := hidden (show newErr L = 0 by rw [hL]; exact R5.out.2.2.2.2.1)
              have HPOS := hidden (show 0 < L.getD 256 0 ∧ ∀ i, i < P.length → 0 < L.getD (P.getD i 0) 0 from ⟨by rw [hL]; exact lnI_pos C k S 256 (by have := HCL.out; omega) R5.out.2.2.1 HC256.out, fun i hi => by rw [hL]; exact lnI_pos C k S _ (by have := HCL.out; have := HPB.out i hi; omega) R5.out.2.2.1 (HCP.out i hi)⟩)
              have HRL := hidden (show Ri w5 (.slice (some ⟨b1, 0, none⟩) 257 257) L by rw [hL]; exact R5.out.1)
              have HS5 := hidden (show Step (fun _ => False) w w5 from HSJ.out.made R5.out.2.2.2.2.2)
              have hb1 : b1 < w5.heap.size := by
                obtain ⟨_, b, off, e, hc⟩ := HRL.out.cell (k := 0) (by have := HLl.out; omega)
                have := World.block_lt_of_cell? w5 _ (hc 0 (by have := HLl.out; omega))
                have e1 := Option.some.inj e
                injection e1 with e2
                subst e2
                exact this
              clear R5 hRL hL hLN HRC HCN HC256 HCP HPN HCL
              have HWN := hidden (Wo.new w5 27)
              have hP1 := hidden (fun W (hW : Wo W w5.heap.size [] (fun k => k < w5.heap.size)) (hs : w5.heap.size ≤ W.heap.size) => put_o w5.heap.size [] (fun k => k < w5.heap.size) 1 1 W hW (fun k hk => by omega) (by omega) (by decide) (by decide))
              have hP2 := hidden (fun W (hW : Wo W w5.heap.size ([] ++ [(1, 1)]) (fun k => k < w5.heap.size)) (hs : w5.heap.size ≤ W.heap.size) => put_o w5.heap.size ([] ++ [(1, 1)]) (fun k => k < w5.heap.size) 2 2 W hW (fun k hk => by omega) (by omega) (by decide) (by decide))
              obtain ⟨wb, hwb⟩ : ∃ wb, wb = w5.heap.size := ⟨_, rfl⟩
              have HWB := hidden hwb
              go_wp2_with fail
              rw [← hwb]
              rw [← hwb] at HWN hP1 hP2
              clear hwb
              refine (hP1.out _ HWN.out (by rw [HWB.out]; simp)).mono ?_
              rintro e w6 ⟨rfl, R6⟩
              have hz6 : wb < w6.heap.size := by have := R6.out.2.size; have := HWB.out; simp at *; omega
              go_wp2_with fail
              refine (hP2.out _ R6.out.1 (by omega)).mono ?_
              rintro e w7 ⟨rfl, R7⟩
              have HS7 := hidden (show Step (fun k => ¬ k < wb) w5 w7 from (((Step.refl _ w5).alloc _).trans R6.out.2 (fun i hi => .inl hi)).trans R7.out.2 (fun i hi => .inl hi))
              have HW7 := hidden (show Wo w7 wb [(1, 1), (2, 2)] (fun k => k < wb) from R7.out.1)
              have HR7 := hidden (show Ri w7 (.slice (some ⟨b1, 0, none⟩) 257 257) L from HRL.out.step HS7.out (fun a n c e _ q => q (by
                injection e with e1
                have := Option.some.inj e1
                subst this
                show b1 < wb
                have := HWB.out
                omega)))
              have hz7 : wb < w7.heap.size := by have := R7.out.2.size; omega
              clear R6 R7 hP1 hP2 HWN
              have hLb : L.length ≤ 257 := by have := HLl.out; omega
              go_wp2_with (at_builtin; refine wpList_append_ri rfl (.tmp 71) (.tmp 72) rfl _ 0 [] rfl (own_empty' _ _ rfl) _ L rfl (HR7.out.made ((Step.refl _ _).alloc _)) ?rl ?_)
              case rl => omega
              intro v1 w8 k1 k2 k3
              have HG1 := hidden ((Grew.empty _ rfl (Step.refl _ w7)).more k1 k2 (by simpa using k3))
              obtain ⟨ao1, cap1, rfl⟩ := own_slice k1
              clear k1 k2 k3
              go_wp2_with (at_builtin; refine wpList_append_ri rfl (.tmp 73) (.tmp 74) rfl _ _ _ rfl (HG1.out.own.alloc _) _ [0] rfl (ri_one' _ _ _ rfl) ?rl ?_)
              case rl => first | omega | (simp; omega)
              intro v2 w9 k1 k2 k3
              have HG2 := hidden ((HG1.out.alloc _).more k1 k2 (by simpa using k3))
              obtain ⟨ao2, cap2, rfl⟩ := own_slice k1
              clear k1 k2 k3
              have HW9 := hidden (HW7.out.made HG2.out.st)
              have hz9 := HG2.out.st.size
              have HLN := hidden (lens_any wb [(1, 1), (2, 2)] (fun k => k < wb ∨ (w7.heap.size ≤ k ∧ k < w9.heap.size)) (.slice ao2 (L.length + 1) cap2) (LN ++ [0]) w9 HW9.out (fun k hk => by rcases hk with q | q <;> omega) (by
                  have h := Ri.of_own HG2.out.own
                  have e : (LN ++ [0]).map (fun (x : Nat) => (x : Int)) = L ++ [0] := by rw [HLI.out]; simp
                  rw [e]
                  exact h) (fun a n c e => by
                  right
                  injection e with e1
                  subst e1
                  rcases HG2.out.own.2 with ⟨h, _⟩ | ⟨g2, _, _, e2, _, hg2, _⟩
                  · cases h
                  · injection e2 with e3
                    have e4 := Option.some.inj e3
                    subst e4
                    refine ⟨HG2.out.blk g2 rfl, ?_⟩
                    rcases Nat.lt_or_ge g2 w9.heap.size with h | h
                    · exact h
                    · rw [Array.getElem?_eq_none h] at hg2; cases hg2) (by have := HLL.out; simp; omega) (fun x hx => by
                  rcases List.mem_append.1 hx with h | h
                  · exact HL16.out x h
                  · simp at h; omega) (by decide))
              go_wp2_with fail
              refine HLN.out.mono ?_
              rintro e w10 ⟨rfl, R10⟩
              obtain ⟨Q, hQ⟩ : ∃ Q, Q = [(1, 1), (2, 2)] ++ [(0, 5)] ++ [(0, 5)] ++ [(15, 4)] ++ clPs 0 19 ++ (LN ++ [0]).map lnP := ⟨_, rfl⟩
              have HQ := hidden hQ
              have HQL := hidden (show pcL Q ≤ 2000 by
                have hlm : ∀ Q : List Nat, pcL (Q.map lnP) = 4 * Q.length := by
                  intro Q
                  induction Q with
                  | nil => rfl
                  | cons x Q ih => show 4 + pcL (Q.map lnP) = _; rw [ih]; simp; omega
                have h258 : (LN ++ [0]).length = 258 := by have := HLL.out; simp; omega
                rw [hQ, pcL_append, pcL_append, pcL_snoc, pcL_snoc, pcL_snoc, clPs_len, hlm, h258]
                show 1 + (2 + 0) + 5 + 5 + 4 + 3 * 19 + 4 * 258 ≤ 2000
                omega)
              have HW10 := hidden (show Wo w10 wb Q (fun k => k < wb ∨ (w7.heap.size ≤ k ∧ k < w9.heap.size)) by rw [hQ]; exact R10.out.1)
              have HS10 := hidden (show Step (fun k => ¬ k < wb) w5 w10 from (HS7.out.trans HG2.out.st (fun _ q => q.elim)).trans R10.out.2 (fun k hk => .inl (fun q => hk (.inl q))))
              have HR10 := hidden (show Ri w10 (.slice (some ⟨b1, 0, none⟩) 257 257) L from HRL.out.step HS10.out (fun a n c e _ q => q (by
                injection e with e1
                have := Option.some.inj e1
                subst this
                show b1 < wb
                have := HWB.out
                omega)))
              have hz10 := R10.out.2.size
              have hCO := hidden (refCodes_any _ L w10 HR10.out (by have := HLl.out; omega))
              obtain ⟨hce, hok, hful⟩ := newErr_codes L HNE.out
              have HCE := hidden hce
              have HCR := hidden (codeErr_ok hce).2.2
              have HOK := hidden ((okB_iff L).1 hok).2
              have HFUL := hidden hful
              clear R10 HW7 HW9 HG1 HG2 HLN HR7 hQ hce hok hful
              go_wp2_with fail
              refine hCO.out.mono ?_
              rintro e w11 ⟨u, rfl, ru, hub, hs11⟩
              rw [HCE.out]
              rw [HCR.out] at ru
              have HRU := hidden ru
              have HUB := hidden hub
              have HS11 := hidden hs11
              have hz11 := hs11.size
              have HW11 := hidden (HW10.out.made hs11)
              obtain ⟨uo, uc, hue, _⟩ := id ru
              have hcl : (codes L).length = 257 := by rw [codes_length]; exact HLl.out
              rw [hcl] at hue
              subst hue
              have HR11 := hidden (HR10.out.made hs11)
              obtain ⟨hnA, gc, oc, huo, hcC⟩ := ru.cell (k := 0) (by omega)
              clear hnA
              subst huo
              have HCC := hidden (show ∀ k, k < 257 → w11.cell? ⟨gc, oc + k, none⟩ = some (.int .i64 (codeOf L k)) from fun k hk => by
                have := hcC k (by omega)
                rwa [codes_getD L k (by have := HLl.out; omega)] at this)
              have HGC := hidden (show w10.heap.size ≤ gc ∧ gc < w11.heap.size from ⟨hub _ _ _ rfl, World.block_lt_of_cell? w11 _ (HCC.out 0 (by omega))⟩)
              obtain ⟨hnB, gl, ol, hlo, hcL⟩ := HR11.out.cell (k := 0) (by have := HLl.out; omega)
              clear hnB
              have hlo1 := Option.some.inj hlo
              injection hlo1 with hl1 hl2
              subst hl1
              subst hl2
              have HLC := hidden (show ∀ k, k < 257 → w11.cell? ⟨b1, 0 + k, none⟩ = some (.int .i64 (L.getD k 0)) from fun k hk => hcL k (by have := HLl.out; omega))
              clear ru hub hs11 hcC hcL hlo hCO HW10 hcl
              obtain ⟨G2, hG2⟩ : ∃ G2 : Nat → Prop, G2 = fun k => (k < wb ∨ (w7.heap.size ≤ k ∧ k < w9.heap.size)) ∨ (w10.heap.size ≤ k ∧ k < w11.heap.size) := ⟨_, rfl⟩
              rw [← hG2] at HW11
              have HGO := hidden (show ∀ k, k < wb → G2 k by rw [hG2]; exact fun k hk => .inl (.inl hk))
              have HGK := hidden (show G2 gc by rw [hG2]; exact .inr HGC.out)
              have HGL := hidden (show ∀ k, G2 k → k < w11.heap.size by
                rw [hG2]
                intro k hk
                rcases hk with (q | q) | q <;> omega)
              have HCDL := hidden (show ∀ X : List Nat, pcL (X.map (cdP L)) ≤ 15 * X.length by
                have h15 : ∀ i, (L.getD i 0).toNat ≤ 15 := fun i => by
                  by_cases hi : i < L.length
                  · have := HOK.out (L.getD i 0) (by rw [getD_i L i hi]; exact List.getElem_mem hi); omega
                  · simp [List.getD, List.getElem?_eq_none (Nat.le_of_not_lt hi)]
                intro X
                induction X with
                | nil => simp [pcL]
                | cons x X ih =>
                  have := h15 x
                  show (L.getD x 0).toNat + pcL (X.map (cdP L)) ≤ _
                  rw [List.length_cons]
                  omega)
              have HCOD := hidden (show ∀ c, c < 257 → 0 < L.getD c 0 → ∃ cv nv : Nat, codeOf L c = (cv : Int) ∧ L.getD c 0 = (nv : Int) ∧ nv ≤ 15 ∧ cv < 2 ^ nv ∧ cdP L c = (rv cv nv nv, nv) from fun c hc h0 => by
                have hcL : c < L.length := by have := HLl.out; omega
                obtain ⟨nv, hn⟩ := Int.eq_ofNat_of_zero_le (show 0 ≤ L.getD c 0 by omega)
                obtain ⟨cv, hcv⟩ := Int.eq_ofNat_of_zero_le (codeOf_nonneg L c)
                have h15 := HOK.out (L.getD c 0) (by rw [getD_i L c hcL]; exact List.getElem_mem hcL)
                have hlt := (code_lt L c nv hcL hn (by omega) (by omega) HFUL.out).2
                rw [hcv] at hlt
                have e : ((2 ^ nv : Nat) : Int) = (2 : Int) ^ nv := by simp
                exact ⟨cv, nv, hcv, hn, by omega, by omega, by unfold cdP; rw [hn, hcv]; simp⟩)
              have HS511 := hidden (show Step (fun k => ¬ k < wb) w5 w11 from HS10.out.trans HS11.out (fun _ q => q.elim))
              clear hG2
              go_wp2
              go_loopw [12] (fun iv W => ∃ i : Nat, i ≤ pl ∧ iv = .int .i64 (i : Int) ∧ Hid (Wo W wb (Q ++ (P.take i).map (cdP L)) G2 ∧ Step (fun k => ¬ G2 k) w11 W)) (fun iv _ => pl - (intOf iv).toNat)
              case atStart => exact ⟨0, by omega, rfl, hidden ⟨by simpa using HW11.out, Step.refl _ _⟩⟩
              case round =>
                obtain ⟨i, hi, rfl, HI⟩ := hrel
                by_cases hip : i < pl
                · have i1 : (i : Int) < (pl : Int) := by omega
                  have hiP : i < P.length := by have := HPL.out; omega
                  obtain ⟨g, off, hab, hcp0⟩ := HRB.out.getAt hiP
                  subst hab
                  have hg0 : g < w.heap.size := World.block_lt_of_cell? w _ (hcp0 i hiP)
                  have hw5 := HS5.out.size
                  have hgw : g < wb := by have := HWB.out; omega
                  have cp := HI.out.2.cell (HS511.out.cell (HS5.out.cell (hcp0 i hiP) (fun q => q)) (fun q => q hgw)) (fun q => q (HGO.out g hgw))
                  have hc256 := HPB.out i hiP
                  have HTK := hidden (show (P.take (i + 1)).map (cdP L) = (P.take i).map (cdP L) ++ [cdP L (P.getD i 0)] by
                    rw [List.take_succ_eq_append_getElem hiP, List.map_append, List.getD_eq_getElem?_getD, List.getElem?_eq_getElem hiP]; rfl)
                  have hpos := HPOS.out.2 i hiP
                  have HTL := hidden (show (P.take i).length ≤ 500 by have := HPL.out; simp; omega)
                  generalize P.getD i 0 = c at *
                  obtain ⟨cv, nv, e1, e2, e3, e4, e5⟩ := HCOD.out c (by omega) hpos
                  have cc := HI.out.2.cell (HCC.out c (by omega)) (fun q => q HGK.out)
                  have cl := HI.out.2.cell (HLC.out c (by omega)) (fun q => q (HGO.out b1 (by have := HWB.out; omega)))
                  rw [e1] at cc
                  rw [e2, Nat.zero_add] at cl
                  rw [e5] at HTK
                  have hCD := hidden (fun (W : World) (hs : Step (fun _ => False) wr W) => (code_o wb (Q ++ (P.take i).map (cdP L)) G2 cv nv W ((HI.out.1.made hs).less (fun k hk => .inl hk)) (fun k hk => by have := HGL.out k hk; have := HI.out.2.size; have := hs.size; omega) e3 e4 (by rw [pcL_append]; have := HCDL.out (P.take i); have := HTL.out; have := HQL.out; omega)).mono fun e w' ⟨he, hq⟩ => (⟨he, hidden ⟨hq.out.1, (show Step (fun k => ¬ G2 k) wr w' from (hs.mono (fun _ q => q.elim)).trans hq.out.2 (fun i hi => .inl hi))⟩⟩ : e = Ending.returned (Value.int .i64 0) ∧ Hid (Wo w' wb (Q ++ (P.take i).map (cdP L) ++ [(rv cv nv nv, nv)]) G2 ∧ Step (fun k => ¬ G2 k) wr w')))
                  have c257 : (c : Int) < 257 := by omega
                  clear hcp0 hpos e1 e2 e5
                  go_wp2
                  go_region_with (first
                    | (go_at_call 8; refine (hCD.out _ (by first | exact Step.refl _ _ | exact (Step.refl _ _).drew | exact (Step.refl _ _).drewN _)).mono ?_; rintro e w12 ⟨rfl, R12⟩))
                  all_goals
                    go_wp2
                    go_roundw
                    case rel => exact ⟨i + 1, by omega, by go_num, hidden ⟨by rw [HTK.out, ← List.append_assoc]; exact R12.out.1, HI.out.2.trans R12.out.2 (fun i hi => .inl hi)⟩⟩
                    case measure => simp [intOf]; omega
                · have i1 : ¬ (i : Int) < (pl : Int) := by omega
                  obtain ⟨cv, nv, e1, e2, e3, e4, e5⟩ := HCOD.out 256 (by omega) HPOS.out.1
                  have cc := HI.out.2.cell (HCC.out 256 (by omega)) (fun q => q HGK.out)
                  have cl := HI.out.2.cell (HLC.out 256 (by omega)) (fun q => q (HGO.out b1 (by have := HWB.out; omega)))
                  rw [e1] at cc
                  rw [e2, Nat.zero_add] at cl
                  have HWI := hidden (show Wo wr wb (Q ++ P.map (cdP L)) G2 by
                    have := HI.out.1
                    rwa [List.take_of_length_le (by have := HPL.out; omega)] at this)
                  obtain ⟨D, hD⟩ : ∃ D, D = dynP LN L P := ⟨_, rfl⟩
                  have HD := hidden hD
                  clear hD
                  have HPS := hidden (show Q ++ P.map (cdP L) ++ [(rv cv nv nv, nv)] = D by rw [HD.out, HQ.out, ← e5]; exact dyn_assoc (clPs 0 19) ((LN ++ [0]).map lnP) (P.map (cdP L)) (cdP L 256))
                  have HPLN := hidden (show pcL (D) ≤ 10000 by rw [← HPS.out, pcL_snoc, pcL_append]; have := HCDL.out P; have := HPL.out; have := HQL.out; omega)
                  have hCD := hidden (fun (W : World) (hs : Step (fun _ => False) wr W) => (code_o wb (Q ++ P.map (cdP L)) G2 cv nv W ((HWI.out.made hs).less (fun k hk => .inl hk)) (fun k hk => by have := HGL.out k hk; have := HI.out.2.size; have := hs.size; omega) e3 e4 (by rw [pcL_append]; have := HCDL.out P; have := HPL.out; have := HQL.out; omega)).mono fun e w' ⟨he, hq⟩ => (⟨he, hidden ⟨by have := hq.out.1; rwa [HPS.out] at this, (show Step (fun k => ¬ G2 k) wr w' from (hs.mono (fun _ q => q.elim)).trans hq.out.2 (fun i hi => .inl hi))⟩⟩ : e = Ending.returned (Value.int .i64 0) ∧ Hid (Wo w' wb (D) G2 ∧ Step (fun k => ¬ G2 k) wr w')))
                  clear e1 e2 e5
                  go_wp2
                  go_region_with (first
                    | (go_at_call 8; refine (hCD.out _ (by first | exact Step.refl _ _ | exact (Step.refl _ _).drew | exact (Step.refl _ _).drewN _)).mono ?_; rintro e w12 ⟨rfl, R12⟩))
                  all_goals
                    have hBY := hidden (bytes_o wb (D) G2 w12 R12.out.1 (by have := HPLN.out; omega))
                    have HS12 := hidden (show Step (fun _ => False) w w12 from HS5.out.trans ((HS511.out.trans HI.out.2 (fun k hk => .inl (fun q => hk (HGO.out k q)))).trans R12.out.2 (fun k hk => .inl (fun q => hk (HGO.out k q)))) (fun k hk => .inr (by have := HWB.out; have := HS5.out.size; omega)))
                    have HR12 := hidden (show Ri w12 (.slice (some ⟨b1, 0, none⟩) 257 257) L from HRL.out.step ((HS511.out.trans HI.out.2 (fun k hk => .inl (fun q => hk (HGO.out k q)))).trans R12.out.2 (fun k hk => .inl (fun q => hk (HGO.out k q)))) (fun a n c e _ q => q (by
                      injection e with e1
                      have := Option.some.inj e1
                      subst this
                      show b1 < wb
                      have := HWB.out
                      omega)))
                    obtain ⟨BL, hBL⟩ : ∃ BL, BL = (pcL (D) + 7) / 8 := ⟨_, rfl⟩
                    have HBL := hidden hBL
                    rw [← hBL] at hBY
                    clear hBL hCD
                    go_wp2_with fail
                    refine hBY.out.mono ?_
                    rintro e w13 ⟨yo, yc, rfl, R13⟩
                    have hDR : BlksF (pcN D) BL 1000 0 0 [] (.ok (pcL D, P)) := by
                      rw [HD.out]
                      exact dyn_read HLI.out HLL.out HL16.out HNE.out HPOS.out.1 (fun c hc => by
                        obtain ⟨q, hq, rfl⟩ := List.mem_iff_getElem.1 hc
                        have e : P.getD q 0 = P[q] := by rw [List.getD_eq_getElem?_getD, List.getElem?_eq_getElem hq]; rfl
                        exact ⟨by rw [← e]; exact HPB.out q hq, by rw [← e]; exact HPOS.out.2 q hq⟩) (by rw [HBL.out, HD.out]; exact Bt.whole (dynP_ok LN L P)) (by have h1 := HBL.out; rw [HD.out] at h1; omega) (by have := HPL.out; omega) 0
                    have HDR := hidden hDR
                    clear hDR
                    have hBF := hidden (bytes_full (.slice yo BL yc) (pcN (D)) BL 1000 0 _ w13 ((HT.out.step HS12.out (fun q => q)).step R13.out.2 (fun q => q)) R13.out.1 (by have := HBL.out; have := HPLN.out; omega) (by omega) (by omega) HDR.out)
                    go_wp2_with fail
                    refine hBF.out.mono ?_
                    rintro e w14 ⟨hs14, vx, rfl, hrx, _⟩
                    obtain ⟨xo, xc, rfl, _⟩ := id hrx
                    rw [← HPL.out, ← HBL.out]
                    have HRX := hidden (show Rd w14 (.slice xo pl xc) P by have := hrx; rwa [← HPL.out] at this)
                    have HS14 := hidden (show Step (fun _ => False) w w14 from (HS12.out.made R13.out.2).made hs14)
                    have hNW := hidden (refNew_any _ L w14 ((HR12.out.made R13.out.2).made hs14) (by have := HLl.out; omega))
                    clear hs14 hrx hBF hBY
                    go_wp2_with fail
                    refine hNW.out.mono ?_
                    rintro e w15 (⟨hn, _⟩ | ⟨_, d, vc, vl, rfl, _, _, _, _, hs15⟩)
                    · exact absurd HNE.out hn
                    have HS15 := hidden (HS14.out.made hs15)
                    have hSM := hidden (same_eq (.slice xo pl xc) (.slice ab pl cb0) P w15 (HRX.out.step hs15 (fun _ _ _ _ _ q => q)) (HRB.out.step HS15.out (fun _ _ _ _ _ q => q)) (by have := HPL.out; omega))
                    have bb : ((BL : Int) == (BL : Int)) = true := by simp
                    have b00 : ((0 : Int) == 0) = true := rfl
                    have b01 : ((0 : Int) != 0) = false := rfl
                    clear hs15 hNW
                    go_wp2_with fail
                    refine hSM.out.mono ?_
                    rintro e w16 ⟨rfl, S16⟩
                    go_wp2_with fail
                    refine (known_any _).mono ?_
                    rintro e w17 ⟨rfl, hs17⟩
                    have HS17 := hidden ((HS15.out.made S16.out).made hs17)
                    clear hs17
                    go_wp2
                    go_ret
                    exact ⟨rfl, HS17.out⟩
    · have h2' : (500 : Int) < (P.length : Int) := by omega
      clear ra rb
      generalize P.length = pl at *
      go_enter Tryd.func3, Tryd.ntmps3
      go_wp2
      go_ret
      exact ⟨rfl, Step.refl _ _⟩
  · have h1' : (257 : Int) < (an : Int) := by omega
    clear ra rb han
    generalize P.length = pl at *
    go_enter Tryd.func3, Tryd.ntmps3
    go_wp2
    go_ret
    exact ⟨rfl, Step.refl _ _⟩

end Go.Proofs.YtkaibpibnkmmbaaDoor

namespace Go.Proofs.YtkaibpibnkmmbaaDoor
open Go.RowKit

theorem ri_of_ints {w : World} {x : Addr} {len cap : Nat} {zs : List Int} (hl : len ≤ cap) (hz : zs.length = cap) (hc : ∀ i, i < zs.length → w.cell? (x.add i) = some (.int .i64 (zs.getD i 0))) : Ri w (.slice (some x) len cap) (zs.take len) := by
  have hlen : (zs.take len).length = len := by simp; omega
  refine ⟨some x, cap, by rw [hlen], by omega, fun h => (by cases h), fun a ha hne => ?_⟩
  have hp : 0 < len := by
    rcases Nat.eq_zero_or_pos len with h | h
    · exact absurd (List.eq_nil_of_length_eq_zero (by omega)) hne
    · exact h
  obtain ⟨b, off, rfl, hcl⟩ := ints_at hc (by omega)
  refine ⟨b, off, (Option.some.inj ha).symm, fun k hk => ?_⟩
  rw [hlen] at hk
  rw [hcl k (by omega)]
  have hk2 : k < zs.length := by omega
  simp [List.getD, hk2, hk]

end Go.Proofs.YtkaibpibnkmmbaaDoor

namespace Go.Proofs.YtkaibpibnkmmbaaDoor
open Go.RowKit Go.ChangeShapes Go.WideShapes Go.ChangeAt

theorem row_of {H : Type} {enc : TypeId × Value → H} {W : World} {fuel : Nat} {v : Value} {d : DataW H} {p : List MemPlace} (h : DataW.trod enc Tryd.prog W 0 (fun _ => true) true fuel 23 [v] = some (d, p))
    (hs : ∀ n ∈ d.weights Tryd.prog 23, n ≤ reachBytes) :
    ∃ (a : Option Addr) (cap : Nat) (B : List Nat), v = .slice a B.length cap ∧ Rd W v B ∧ (∀ z ∈ B, z < 256) ∧ B.length ≤ cap ∧ B.length ≤ 140737488351232 := by
  rcases open_ints Tryd.underlying23 Tryd.underlying5 (by kernel_rfl) h with ⟨hcs, _⟩ | ⟨x, l, c, zs, hcs, _, hl, hm, hz, hx, hcell, hwz⟩
  · simp at hcs
    subst hcs
    exact ⟨none, 0, [], rfl, rd_none W, by simp, by simp, by simp⟩
  · simp at hcs
    subst hcs
    simp only [if_true] at hz
    obtain ⟨B, h1, h2, h3, _⟩ := rd_of_ints hl hz hcell hwz
    simp only [Prod.mk.injEq] at hx
    have hb : Tryd.prog.bytesOf 5 = 1 := by kernel_rfl
    have hw := hs zs.length (by
      rw [hx.1]
      simp only [DataW.weights, Tryd.underlying23, hb, Nat.mul_one, lits, List.length_map, List.length_take, List.length_drop]
      rw [show min l zs.length + (zs.length - l) = zs.length by omega]
      exact List.mem_cons_self)
    refine ⟨some x, c, B, by rw [h1], by rw [← h1]; exact h2, h3, by omega, ?_⟩
    have : reachBytes = 140737488351232 := rfl
    omega

end Go.Proofs.YtkaibpibnkmmbaaDoor

namespace Go.Proofs.YtkaibpibnkmmbaaDoor
open Go.ChangeShapes Go.WideShapes Go.ChangeAt Go.RowKit

def doorLaid : List (String × DataW Unit) := [("rubricator/inflate.lengthsOrder", Rows.laid_rubricator_inflate_lengthsOrder)]

theorem own : ownKnob Tryd.prog.godebug = none := by kernel_rfl
theorem laidOut : laidOutB Tryd.prog = true := by kernel_rfl

theorem door_met (os : Os) (args : Array Value) : laidMetH Tryd.prog doorLaid ((World.doorLaid Tryd.prog 14 os).forCall (fun _ _ => 0) ⟨#[], args, []⟩).memory :=
  laidMetH_of_parts3 (fuel := 8) (laidMet_of_run' 8 (by kernel_rfl) (by kernel_rfl)) (by kernel_rfl) (by kernel_rfl)

end Go.Proofs.YtkaibpibnkmmbaaDoor

namespace Go.Proofs.YtkaibpibnkmmbaaDoor
open Go.ChangeShapes Go.WideShapes Go.ChangeAt Go.RowKit

theorem gOrder : Tryd.prog.globalNamed "rubricator/inflate.lengthsOrder" = some 0 := by kernel_rfl
theorem tOrder : (Tryd.prog.globals[0]?).map (·.type) = some 86 := by kernel_rfl
theorem cOrder : Tryd.prog.cellsOf 86 = 19 := by kernel_rfl
theorem cInt : Tryd.prog.cellsOf 3 = 1 := by kernel_rfl

theorem of_laid {W : World} (h : laidMetH Tryd.prog doorLaid W) : Tab W := by
  rw [MakeChecks.laidMetH_plain _ _ _ (by kernel_rfl)] at h
  have hT := Lib.tabIs_of_head (k := .i64) (zs := ordL.map fun (x : Nat) => (x : Int)) gOrder tOrder Tryd.underlying86 Tryd.underlying3 cInt cOrder h
  intro k hk
  have hl : ordL.length = 19 := rfl
  have := hT.cell gOrder k (by simpa [hl] using hk)
  rw [this]
  unfold ord
  simp [List.getD, hl, hk]

end Go.Proofs.YtkaibpibnkmmbaaDoor

namespace Go.Proofs.YtkaibpibnkmmbaaDoor.inflateDynamic
open Go.ChangeShapes Go.WideShapes Go.ChangeAt Go.RowKit
open Go.ChangeMaps (open_string shut_string)
set_option linter.unusedVariables false

theorem walk (w : World) (T : Tab w) (a0 : Option Addr) (l0 c0 : Nat) (z0 : List Int) (r0 : Ri w (.slice a0 l0 c0) z0) (m0 : z0.length ≤ 9223372036854775807) (a1 : Option Addr) (c1 : Nat) (B1 : List Nat) (r1 : Rd w (.slice a1 B1.length c1) B1) (b1 : ∀ y ∈ B1, y < 256) (l1 : B1.length ≤ c1) (m1 : B1.length ≤ 140737488351232) :
    Calls Tryd.prog 3 #[.slice a0 l0 c0, .slice a1 B1.length c1] w fun e w' => e = .returned (.bool true) ∧ Step (fun _ => False) w w' := by
  exact inDyn_any a0 l0 c0 z0 a1 c1 B1 w T r0 m0 r1 b1 m1

set_option maxRecDepth 100000 in
theorem lifted (os : Os) (started : os.Started) (H : Type) (enc : TypeId × Value → H) :
    ReturnsInHanded {} Tryd.checked os 3 .any (fun w args => (Rows.inflateDynamicSpec.pre enc Tryd.prog Tryd.f3 [] false w args ∧ laidMetH Tryd.prog doorLaid w) ∧ sizedMet enc Tryd.prog Tryd.f3 (OpenSpec.ofChange Rows.inflateDynamicSpec) false w args)
      (Rows.inflateDynamicSpec.post enc Tryd.prog Tryd.f3 false true false false) := by
  refine returnsInHanded_of_change_and (C := Tryd.checked) (X := fun w _ => laidMetH Tryd.prog doorLaid w) (fun _ _ _ hh h => h.of_heap hh) own started (by kernel_rfl) Tryd.func3
    (ChangeSpec.witness_shaped (enc := enc) (C := Tryd.checked) (os := os) (X := fun w _ => laidMetH Tryd.prog doorLaid w) false (World.doorLaid Tryd.prog 14 os) #[.slice none 0 0, .slice none 0 0] 8 rfl (World.shaped_of_RefB (by kernel_rfl) (by kernel_rfl)) (by kernel_rfl) (by kernel_rfl) (by kernel_rfl) (door_met os _)) ?_
  intro W base args ds gs before hval0 hW _ hsz hL _
  have hval : ∀ (j : Nat) t v, Tryd.f3.params[j]? = some t → args[j]? = some v → Value.okWide Tryd.prog W .any base t v := hval0
  have hW' := hW
  obtain ⟨p, q, hA0, hV, rfl, hfz, hnd⟩ := hW
  have hA : DataW.TrodAll enc Tryd.prog W 0 (fun _ => true) true Tryd.f3.params.toList args.toList ds p := hA0
  rw [Tryd.params3] at hA hval hsz
  obtain ⟨v0, vs0, d0, ds0, p0, q0, hargs, rfl, rfl, h0, t0⟩ := trodAll_cons hA
  obtain ⟨v1, vs1, d1, ds1, p1, q1, rfl, rfl, rfl, h1, t1⟩ := trodAll_cons t0
  obtain ⟨rfl, rfl, rfl⟩ := trodAll_nil t1
  obtain rfl : args = #[v0, v1] := by cases args; simp_all
  obtain ⟨rfl, rfl⟩ := trodVars_none hV
  obtain ⟨a0, len0, cap0, rfl⟩ := okWide_slice Tryd.underlying22 (hval 0 22 v0 rfl rfl)
  have k0 := h0
  have lt0 : ∀ x ∈ p0, x.block < W.heap.size := by obtain ⟨m, hm⟩ := k0; exact DataW.trod_lt m _ _ _ hm
  obtain ⟨z0, r0, m0⟩ : ∃ zs : List Int, Ri W (.slice a0 len0 cap0) zs ∧ zs.length ≤ 9223372036854775807 := by
    obtain ⟨fuel, hf⟩ := h0
    rcases open_ints Tryd.underlying22 Tryd.underlying3 (by kernel_rfl) hf with ⟨hcs, _⟩ | ⟨x, l, c, zs, hcs, _, hl, hm, hz, _, hcell, hwz⟩
    · simp [Value.cells] at hcs
      obtain ⟨rfl, rfl, rfl⟩ := hcs
      exact ⟨[], ri_none W, by simp⟩
    · simp [Value.cells] at hcs
      obtain ⟨rfl, rfl, rfl⟩ := hcs
      exact ⟨zs.take len0, ri_of_ints hl (by simpa using hz) hcell, by unfold maxLen at hm; simp; omega⟩
  obtain ⟨a1, len1, cap1, rfl⟩ := okWide_slice Tryd.underlying23 (hval 1 23 v1 rfl rfl)
  have k1 := h1
  have lt1 : ∀ x ∈ p1, x.block < W.heap.size := by obtain ⟨m, hm⟩ := k1; exact DataW.trod_lt m _ _ _ hm
  have sz1 : ∀ n ∈ d1.weights Tryd.prog 23, n ≤ reachBytes := fun n hn => by simpa using List.all_eq_true.1 hsz n (DataW.weights_mem_each (j := 1) rfl rfl n hn)
  obtain ⟨B1, e1, r1, b1, l1, m1⟩ : ∃ B : List Nat, B.length = len1 ∧ Rd W (.slice a1 B.length cap1) B ∧ (∀ y ∈ B, y < 256) ∧ B.length ≤ cap1 ∧ B.length ≤ 140737488351232 := by
    obtain ⟨fuel, hf⟩ := h1
    obtain ⟨a, c, B, e, h1, h2, h3, h4⟩ := row_of (by simpa [Value.cells] using hf) sz1
    injection e with e1 e2 e3
    subst e1; subst e3
    refine ⟨B, e2.symm, ?_, h2, h3, h4⟩
    rw [← e2]; exact h1
  subst e1
  clear hA0 hval0
  refine (walk W (of_laid hL) a0 len0 cap0 z0 r0 m0 a1 cap1 B1 r1 b1 l1 m1).mono fun e W' ⟨he, hst⟩ => ?_
  have bel : Below W.heap.size W W' := hst.below _ (Nat.le_refl _) (fun _ h => h.elim)
  subst he
  exact ⟨_, rfl, _, _, _, [], _, [], hW', trodAll_mk1 (shut_bool Tryd.underlying4 _), (trodAll_cons_mk (Below.trod laidOut (by kernel_rfl) (of_decide_eq_true (by kernel_rfl)) k0 bel lt0) (trodAll_cons_mk (Below.trod laidOut (by kernel_rfl) (of_decide_eq_true (by kernel_rfl)) k1 bel lt1) trodAll_mk0)), rfl, bel.frame _, fun h => by cases h⟩

theorem over : Rows.inflateDynamicRow.holds Tryd.pinned (OpenSpec.ofChange Rows.inflateDynamicSpec) :=
  OpenClaim.holds_of_wide 3 Tryd.f3 rfl rfl rfl rfl rfl rfl rfl ⟨rfl, rfl, rfl, rfl, rfl⟩ rfl rfl rfl rfl rfl (by kernel_rfl) Tryd.func3 (by kernel_rfl)
    (of_decide_eq_true (by kernel_rfl)) (by unfold Func.isWrapper; first | (rw [if_pos (by decide +kernel)]; kernel_rfl) | (rw [if_neg (by decide +kernel)]; exact ⟨rfl, rfl⟩))
    (fun os started H enc _ => lifted os started H enc)

theorem proved : Rows.InflateDynamicCardSaid :=
  Claim7.holds_tied_plain_at .later [] [.data] true Rows.inflateDynamicCard.stood.harness false
    over (fun _ h => by cases h) (by kernel_rfl) (fun _ h => by cases h) inflateDynamic_row_tie rfl ⟨rfl, rfl⟩ (by kernel_rfl) rfl
    (fun f fn hf hfn => by
      obtain rfl : f = 3 := Option.some.inj ((show Tryd.prog.funcNamed "rubricator/rubricatorlaw4.InflateDynamic" = some 3 by kernel_rfl).symm.trans hf) |>.symm
      obtain rfl : fn = Tryd.f3 := (Option.some.inj (Tryd.func3.symm.trans hfn)).symm
      exact ⟨by kernel_rfl, fun j t ht => by
        rw [Tryd.params3] at ht
        have hm : t ∈ [22, 23] := by simpa using Array.mem_of_getElem? ht
        have hall : ([22, 23].all fun u => !Tryd.prog.wantsStandIn u) = true := by kernel_rfl
        exact (show Tryd.prog.wantsStandIn t = false by simpa using List.all_eq_true.1 hall t hm)⟩)
    (by kernel_rfl)
#print axioms proved
end Go.Proofs.YtkaibpibnkmmbaaDoor.inflateDynamic
