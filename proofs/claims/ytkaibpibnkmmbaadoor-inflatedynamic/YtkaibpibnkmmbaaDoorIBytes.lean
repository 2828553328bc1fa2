/-
  All of a stream: Bytes.
-/
import Derived.Test.YtkaibpibnkmmbaaDoorIBlock
import Derived.BigRegion
import Derived.OwnWalk
namespace Go.Proofs.YtkaibpibnkmmbaaDoor
open Go.RowKit
set_option maxRecDepth 100000
set_option linter.unusedVariables false

theorem Step.fresh {w w' : World} (h : Step (fun k => w.heap.size ≤ k) w w') : Step (fun _ => False) w w' := (Step.refl (fun _ => False) w).trans h (fun _ hi => .inr hi)

/-- A new stream. -/
theorem St.new {w w1 : World} {b : Nat} {s : Value} {M m : Nat} (most : Int) (hr : Rr w1 b s M m 0) (hs : Step (fun _ => False) w w1) (hb : w.heap.size ≤ b) (t : TypeId) :
    St (w1.alloc (.cells #[.pointer (some ⟨b, 0, none⟩), .slice none 0 0, .int .i64 most, .pointer none] t)) w.heap.size w1.heap.size b s (.slice none 0 0) M m 0 [] most := by
  have hS : Step (fun _ => False) w1 (w1.alloc (.cells #[.pointer (some ⟨b, 0, none⟩), .slice none 0 0, .int .i64 most, .pointer none] t)) := (Step.refl _ w1).alloc _
  have hbl : b < w1.heap.size := World.block_lt_of_cell? w1 _ hr.ins
  have hc : ∀ k u, #[Value.pointer (some ⟨b, 0, none⟩), .slice none 0 0, .int .i64 most, .pointer none][k]? = some u → (w1.alloc (.cells #[.pointer (some ⟨b, 0, none⟩), .slice none 0 0, .int .i64 most, .pointer none] t)).cell? ⟨w1.heap.size, k, none⟩ = some u := fun k u h => by rw [World.cell?_alloc_at _ _ _ _ rfl]; exact h
  refine ⟨⟨hc 0 _ rfl, hr.step hS (fun h => h) (fun _ _ h => h), ⟨hc 1 _ rfl, hc 2 _ rfl, World.frozen?_alloc_at _ _ _ _ rfl, World.ownsRow_nil _ _ _ _, by simp [Value.ownBlock], by simp [capOf], fun _ h => by cases h⟩, by omega, ?_, by simp [Value.ownBlock], fun k hk => by simp [Value.ownBlock] at hk⟩, World.frozen?_alloc_at _ _ _ _ rfl, .inl (hc 3 _ rfl), hs.size, hb, fun k hk => by simp [Value.ownBlock] at hk, by simp⟩
  intro e
  have := (hr.own.lt _ e).2
  omega

/-- What Bytes answers. -/
def BytesE (w : World) (r : Except Nat (Nat × List Nat)) (e : Ending) (w' : World) : Prop :=
  Step (fun _ => False) w w' ∧
  match r with
  | .error x => 0 < x ∧ e = .returned (.tuple #[.slice none 0 0, .int .i64 0, .int .i64 (x : Int)])
  | .ok (u, Q) => ∃ v, e = .returned (.tuple #[v, .int .i64 (((u + 7) / 8 : Nat) : Int), .int .i64 0]) ∧ Rd w' v Q ∧ (∀ y ∈ Q, y < 256) ∧ (∀ a n c, v = .slice (some a) n c → w.heap.size ≤ a.block) ∧ Q.length ≤ 258 * u ∧ u ≤ 8000000

set_option maxHeartbeats 1000000 in
theorem bytes_neg (v : Value) (most : Int) (w : World) (h : most < 0) (ao : Option Addr) (n c : Nat) (hv : v = .slice ao n c) : Calls Tryd.prog 10 #[v, .int .i64 most] w (BytesE w (.error 1)) := by
  subst hv
  go_enter Tryd.func10, Tryd.ntmps10
  go_wp2
  go_ret3
  exact ⟨Step.refl _ _, by omega, rfl⟩

set_option maxHeartbeats 4000000 in
theorem bytes_any (vb : Value) (M m : Nat) (most : Int) (n : Nat) (r : Except Nat (Nat × List Nat)) (w : World) (h : Rd w vb (bytesOf M m)) (hm : m ≤ 1000000) (h0 : 0 ≤ most) (h1 : most ≤ 9223372036854775807) (hr : Blks M m most n 0 [] r) :
    Calls Tryd.prog 10 #[vb, .int .i64 most] w (BytesE w r) := by
  have HR := hidden hr
  have HO : Hid (Calls Tryd.prog 16 #[vb] w fun e w' => ∃ b, e = .returned (.pointer (some ⟨b, 0, none⟩)) ∧ Hid (∃ s, Rr w' b s M m 0 ∧ Step (fun _ => False) w w' ∧ w.heap.size ≤ b)) := hidden ((of_any vb M m w h (by omega)).mono fun e w' ⟨b, s, he, h1, h2, h3, _⟩ => ⟨b, he, s, h1, h2, h3⟩)
  obtain ⟨ao, cap, rfl, _, _⟩ := h
  have HBK : Hid (∀ w1 p b s v t O, St w1 w.heap.size p b s v M m t O most → w.heap.size ≤ w1.heap.size → (t + 3 ≤ 8 * m → M / 2 ^ (t + 1) % 4 ≠ 2) → Calls Tryd.prog 17 #[.pointer (some ⟨p, 0, none⟩)] w1 (BlkE w1 w.heap.size p b s M m most (decide (M / 2 ^ t % 2 = 1)) (blkP M m most t O))) :=
    hidden (fun w1 p b s v t O S1 hB hk => block_any w.heap.size p b s v M m t O most w1 S1 hm hB h0 h1 hk)
  clear hr
  go_enter Tryd.func10, Tryd.ntmps10
  go_wp2_with fail
  refine HO.out.mono ?_
  rintro e w1 ⟨b, rfl, S1⟩
  obtain ⟨s, r1, r2, r3⟩ := S1.out
  have HS0 := hidden (St.new most r1 r2 r3 50)
  have HW0 := hidden (r2.alloc (.cells #[.pointer (some ⟨b, 0, none⟩), .slice none 0 0, .int .i64 most, .pointer none] 50))
  generalize hp : w1.heap.size = p at *
  clear S1 r1 r2 r3 HO
  go_wp2
  go_loopg [8, 9] (n + 1) (fun k l e wr => Hid (Step (fun _ => False) w wr) ∧ ((l = .bool false ∧ ∃ u Q v k', k = k' + 1 ∧ Hid (Blks M m most k' u Q r ∧ St wr w.heap.size p b s v M m u Q most)) ∨ (l = .bool true ∧ ∃ u Q v, Hid (r = .ok (u, Q) ∧ St wr w.heap.size p b s v M m u Q most))))
  case atStart => exact ⟨HW0.out, .inl ⟨rfl, 0, [], _, n, rfl, HR.out, HS0.out⟩⟩
  case round =>
    obtain ⟨HS, hq⟩ := hrel
    rcases hq with ⟨rfl, u, Q, v, k', rfl, HH⟩ | ⟨rfl, u, Q, v, HH⟩
    · obtain ⟨hb, hst⟩ := HH.out
      have HST := hidden hst
      have HB := hidden hb
      clear hst HH
      cases hb with
      | @bad _ _ x _ hk hx =>
        have HC := hidden (HBK.out _ p b s v u Q HST.out HS.out.size hk)
        rw [hx] at HC
        clear hk hx
        go_wp2_with fail
        refine HC.out.mono ?_
        rintro e w2 ⟨S2, hz, q, rfl⟩
        have HS2 := hidden S2
        have hb : ((x : Int) != 0) = true := by rw [bne_iff_ne]; omega
        clear S2
        go_wp2
        go_ret3
        exact ⟨(HS.out.trans HS2.out (fun i hi => .inr hi)), hz, rfl⟩
      | @last _ _ u2 _ Q2 hk hl hx =>
        have HC := hidden (HBK.out _ p b s v u Q HST.out HS.out.size (fun _ => hk))
        rw [hx, decide_eq_true hl] at HC
        clear hk hx hl
        go_wp2_with fail
        refine HC.out.mono ?_
        rintro e w2 ⟨S2, rfl, v2, hv2⟩
        have HS2 := hidden (And.intro S2 hv2)
        clear S2 hv2
        go_wp2
        go_roundg 0
        case measure => omega
        case rel => exact ⟨(HS.out.trans HS2.out.1 (fun i hi => .inr hi)), .inr ⟨rfl, u2, Q2, v2, rfl, HS2.out.2⟩⟩
      | @more k2 _ u2 _ Q2 _ hk hl hx hn =>
        have HC := hidden (HBK.out _ p b s v u Q HST.out HS.out.size (fun _ => hk))
        rw [hx, decide_eq_false (by omega)] at HC
        have HN := hidden hn
        clear hk hx hl hn
        go_wp2_with fail
        refine HC.out.mono ?_
        rintro e w2 ⟨S2, rfl, v2, hv2⟩
        have HS2 := hidden (And.intro S2 hv2)
        clear S2 hv2
        go_wp2
        go_roundg (k2 + 1)
        case measure => omega
        case rel => exact ⟨(HS.out.trans HS2.out.1 (fun i hi => .inr hi)), .inl ⟨rfl, u2, Q2, v2, k2, rfl, HN.out, HS2.out.2⟩⟩
    · have HST := hidden HH.out.2
      have HRR := hidden HH.out.1
      have ca := HH.out.2.str.ci
      have cb := HH.out.2.str.ou.co
      obtain ⟨va, vc, hv⟩ := own_slice HH.out.2.str.ou.ow
      subst hv
      have HAL : Hid (∀ W, Step (fun _ => False) wr W → Calls Tryd.prog 18 #[.pointer (some ⟨b, 0, none⟩)] W fun e w' => e = .returned (.int .i64 (((u + 7) / 8 : Nat) : Int)) ∧ w'.cell? ⟨p, 1, none⟩ = some (.slice va Q.length vc) ∧ Hid (Step (fun _ => False) w w' ∧ Rd w' (.slice va Q.length vc) Q)) :=
        hidden (fun W hW => (ralign_any b s M m u W (HST.out.str.made hW).rr (by omega)).mono fun e w' ⟨he, T⟩ => by
          have S2 := (HST.out.str.made hW).took T
          exact ⟨he, S2.1.ou.co, (HS.out.made hW).trans T.2 (fun i hi => .inr (by rw [hi]; exact HST.out.bb)), Rd.of_own S2.1.ou.ow⟩)
      clear HH
      generalize hql : Q.length = ql at *
      go_wp2
      go_region_with (first
        | (go_at_call 18; refine (HAL.out _ (by first | exact Step.refl _ _ | exact (Step.refl _ _).drew | exact (Step.refl _ _).drewN _)).mono ?_; rintro e W1 ⟨rfl, cb2, X1⟩))
      all_goals
        go_wp2
        go_ret3
        rw [HRR.out]
        have hle := HST.out.str.rr.le
        refine ⟨X1.out.1, _, rfl, X1.out.2, HST.out.str.ou.by_, fun a n c e => ?_, HST.out.ol, by omega⟩
        injection e with e1
        subst e1
        exact HST.out.bv _ rfl

end Go.Proofs.YtkaibpibnkmmbaaDoor
