/-
  merge: singles and pairs in one order.
-/
import Derived.Test.YtkglackbbcfhbaaHCodeP
import Derived.Test.YtkglackbbcfhbaaHArr
import Derived.Test.YtkglackbbcfhbaaHMergeN
import Derived.BigRegion
namespace Go.Proofs.Ytkglackbbcfhbaa
open Go.RowKit
set_option maxRecDepth 100000

theorem Try.infoB : (Try.prog.info? 4).map (fun i => (i.zero, i.size, i.bytes)) = some (some (.bool false), 1, 1) := by kernel_rfl

/-- The slice v reads as the bools L. -/
def Rb (w : World) (v : Value) (L : List Bool) : Prop :=
  ∃ b, v = .slice (some ⟨b, 0, none⟩) L.length L.length ∧ ∀ k, k < L.length → w.cell? ⟨b, k, none⟩ = some (.bool (L.getD k false))

theorem Rb.step {S : Nat → Prop} {w w' : World} {v : Value} {L : List Bool} (h : Rb w v L) (hs : Step S w w') (hS : ∀ a n c, v = .slice (some a) n c → L ≠ [] → ¬ S a.block) : Rb w' v L := by
  obtain ⟨b, rfl, hc⟩ := h
  exact ⟨b, rfl, fun k hk => hs.cell (hc k hk) (hS ⟨b, 0, none⟩ _ _ rfl (by intro e; subst e; simp at hk))⟩
theorem Rb.made {w w' : World} {v : Value} {L : List Bool} (h : Rb w v L) (hs : Step (fun _ => False) w w') : Rb w' v L := h.step hs (fun _ _ _ _ _ h => h)

/-- Between two rounds of merge. -/
structure MI (A B A' B' : List Int) (w w1 : World) (N k : Nat) (x y : Value) (wr : World) : Prop where
  left : Left A B k A' B'
  rx : Ri wr x A'
  ry : Ri wr y B'
  af : Af wr w.heap.size N (fun j => if j < k then ((mrg A B).getD j (0, false)).1 else 0)
  vf : Vf wr w1.heap.size N (fun j => .bool (if j < k then ((mrg A B).getD j (0, false)).2 else false))
  st : Step (fun _ => False) w wr
  px : ∀ p n c, A' ≠ [] → x = .slice (some p) n c → p.block < w.heap.size
  py : ∀ p n c, B' ≠ [] → y = .slice (some p) n c → p.block < w.heap.size

theorem MI.drew {A B A' B' : List Int} {w w1 : World} {N k : Nat} {x y : Value} {wr : World} (h : MI A B A' B' w w1 N k x y wr) : MI A B A' B' w w1 N k x y wr.drew :=
  ⟨h.left, h.rx, h.ry, h.af, h.vf, h.st.drew, h.px, h.py⟩

theorem Ri.slot {w : World} {ao : Option Addr} {n cap : Nat} {L : List Int} (h : Ri w (.slice ao n cap) L) : n = L.length := by
  obtain ⟨_, _, h, _⟩ := h
  injection h

theorem Ri.tail {w : World} {b o n c : Nat} {a : Int} {L : List Int} (h : Ri w (.slice (some ⟨b, o, none⟩) n c) (a :: L)) : Ri w (.slice (if c = 1 then some ⟨b, o, none⟩ else some ⟨b, o + 1, none⟩) (n - 1) (c - 1)) L := by
  obtain ⟨ao1, cap1, e, hcap, h1, h2⟩ := h
  injection e with e1 e2 e3
  subst e1
  subst e2
  subst e3
  obtain ⟨b', off, e, hc⟩ := h2 _ rfl (by simp)
  cases e
  simp only [List.length_cons] at hcap ⊢
  refine ⟨_, _, by rw [show L.length + 1 - 1 = L.length by omega], by omega, fun h => (by split at h <;> cases h), fun a ha _ => ?_⟩
  by_cases e : c = 1
  · rw [if_pos e] at ha
    exact ⟨b, o, (Option.some.inj ha).symm, fun k hk => by omega⟩
  · rw [if_neg e] at ha
    refine ⟨b, o + 1, (Option.some.inj ha).symm, fun k hk => ?_⟩
    have := hc (k + 1) (by simp; omega)
    rw [show o + 1 + k = o + (k + 1) by omega, this]
    simp

theorem MI.rows {A B A' B' : List Int} {w w1 : World} {N k : Nat} {x y : Value} {wr : World} (h : MI A B A' B' w w1 N k x y wr) (hz : w.heap.size < w1.heap.size) (z : Int) (t : Bool) (hM : (mrg A B).getD k (0, false) = (z, t)) :
    let W := (wr.setCell ⟨w1.heap.size, k, none⟩ (.bool t)).setCell ⟨w.heap.size, k, none⟩ (.int .i64 z)
    Ri W x A' ∧ Ri W y B' ∧ Af W w.heap.size N (fun j => if j < k + 1 then ((mrg A B).getD j (0, false)).1 else 0) ∧ Vf W w1.heap.size N (fun j => .bool (if j < k + 1 then ((mrg A B).getD j (0, false)).2 else false)) ∧ Step (fun _ => False) w W := by
  intro W
  refine ⟨(h.rx.far _ _ ?_).far _ _ ?_, (h.ry.far _ _ ?_).far _ _ ?_, ?_, ?_, (h.st.setCell _ _ (.inr ?_)).setCell _ _ (.inr ?_)⟩
  · intro p n c ne e
    have := h.px p n c ne e
    show p.block ≠ w1.heap.size
    omega
  · intro p n c ne e
    have := h.px p n c ne e
    show p.block ≠ w.heap.size
    omega
  · intro p n c ne e
    have := h.py p n c ne e
    show p.block ≠ w1.heap.size
    omega
  · intro p n c ne e
    have := h.py p n c ne e
    show p.block ≠ w.heap.size
    omega
  · refine ((h.af.far _ _ (by show w1.heap.size ≠ w.heap.size; omega)).set k z).congr (fun j _ => ?_)
    unfold upd
    by_cases e : j = k
    · subst e; rw [if_pos rfl, if_pos (Nat.lt_succ_self _), hM]
    · by_cases e2 : j < k
      · simp [e, e2, show j < k + 1 by omega]
      · simp [e, e2, show ¬ j < k + 1 by omega]
  · refine ((h.vf.set k (.bool t)).far _ _ (by show w.heap.size ≠ w1.heap.size; omega)).congr (fun j _ => ?_)
    by_cases e : j = k
    · subst e; rw [if_pos rfl, if_pos (Nat.lt_succ_self _), hM]
    · by_cases e2 : j < k
      · simp [e, e2, show j < k + 1 by omega]
      · simp [e, e2, show ¬ j < k + 1 by omega]
  · show w.heap.size ≤ w1.heap.size
    omega
  · exact Nat.le_refl _

theorem MI.single {A B A' B' : List Int} {a : Int} {w w1 : World} {N k b o n c : Nat} {y : Value} {wr : World} (h : MI A B (a :: A') B' w w1 N k (.slice (some ⟨b, o, none⟩) n c) y wr) (hz : w.heap.size < w1.heap.size) (hs : sg (a :: A') B' = true) :
    MI A B A' B' w w1 N (k + 1) (.slice (if c = 1 then some ⟨b, o, none⟩ else some ⟨b, o + 1, none⟩) (n - 1) (c - 1)) y ((wr.setCell ⟨w1.heap.size, k, none⟩ (.bool true)).setCell ⟨w.heap.size, k, none⟩ (.int .i64 a)) := by
  obtain ⟨r1, r2⟩ := h.left.single hs
  obtain ⟨q1, q2, q3, q4, q5⟩ := h.rows hz a true r1
  refine ⟨r2, q1.tail, q2, q3, q4, q5, fun p n' c' ne e => ?_, h.py⟩
  have hb : b < w.heap.size := h.px ⟨b, o, none⟩ _ _ (by simp) rfl
  injection e with e1
  split at e1 <;> (have := Option.some.inj e1; subst this; exact hb)

theorem MI.pair {A B A' B' : List Int} {a : Int} {w w1 : World} {N k b o n c : Nat} {x : Value} {wr : World} (h : MI A B A' (a :: B') w w1 N k x (.slice (some ⟨b, o, none⟩) n c) wr) (hz : w.heap.size < w1.heap.size) (hs : sg A' (a :: B') = false) :
    MI A B A' B' w w1 N (k + 1) x (.slice (if c = 1 then some ⟨b, o, none⟩ else some ⟨b, o + 1, none⟩) (n - 1) (c - 1)) ((wr.setCell ⟨w1.heap.size, k, none⟩ (.bool false)).setCell ⟨w.heap.size, k, none⟩ (.int .i64 a)) := by
  obtain ⟨r1, r2⟩ := h.left.pair hs
  obtain ⟨q1, q2, q3, q4, q5⟩ := h.rows hz a false r1
  refine ⟨r2, q1, q2.tail, q3, q4, q5, h.px, fun p n' c' ne e => ?_⟩
  have hb : b < w.heap.size := h.py ⟨b, o, none⟩ _ _ (by simp) rfl
  injection e with e1
  split at e1 <;> (have := Option.some.inj e1; subst this; exact hb)

theorem Ri.head {w : World} {ao : Option Addr} {n c : Nat} {a : Int} {L : List Int} (h : Ri w (.slice ao n c) (a :: L)) : ∃ b o, ao = some ⟨b, o, none⟩ ∧ w.cell? ⟨b, o, none⟩ = some (.int .i64 a) ∧ 0 < n ∧ n ≤ c := by
  obtain ⟨ao1, cap1, e, hcap, h1, h2⟩ := h
  injection e with e1 e2 e3
  subst e1
  subst e2
  subst e3
  cases ao with
  | none => have := (h1 rfl).1; cases this
  | some p =>
    obtain ⟨b, off, rfl, hc⟩ := h2 p rfl (by simp)
    have := hc 0 (by simp)
    exact ⟨b, off, rfl, by simpa using this, by simp, hcap⟩

set_option maxHeartbeats 2000000 in
theorem merge_any (va vb : Value) (A B : List Int) (w : World) (ha : Ri w va A) (hb : Ri w vb B) (hA : A.length ≤ 100000) (hB : B.length ≤ 100000) :
    Calls Try.prog 33 #[va, vb] w fun e w' => ∃ v u, e = .returned (.tuple #[v, u]) ∧ Ri w' v ((mrg A B).map (·.1)) ∧ Rb w' u ((mrg A B).map (·.2)) ∧ (∀ a n c, v = .slice (some a) n c → w.heap.size ≤ a.block) ∧ (∀ a n c, u = .slice (some a) n c → w.heap.size ≤ a.block) ∧ Step (fun _ => False) w w' := by
  have HA := hidden ha
  have HB := hidden hb
  obtain ⟨ao, ca, rfl, _, _, _⟩ := ha
  obtain ⟨bo, cb, rfl, _, _, _⟩ := hb
  obtain ⟨n, hn⟩ : ∃ n, n = A.length := ⟨_, rfl⟩
  obtain ⟨m, hm⟩ : ∃ m, m = B.length := ⟨_, rfl⟩
  have Hn := hidden hn
  have Hm := hidden hm
  rw [← hn] at hA HA ⊢
  rw [← hm] at hB HB ⊢
  clear hn hm
  go_enter Try.func33, Try.ntmps33
  go_wp2_with (refine makeInts (n + m) _ rfl rfl (by omega) (by omega) ?_)
  intro w1 hs1 hz1 ha1
  go_wp2_with (refine makeRow 4 (.bool false) 1 Try.underlying46 Try.infoB rfl (n + m) _ rfl rfl (by omega) (by omega) (by omega) ?_)
  intro w2 hs2 hz2 ha2
  have HR := hidden (And.intro (hs1.made hs2) (And.intro (ha1.made hs2) ha2))
  clear hs1 hs2 ha1 ha2
  obtain ⟨N, hN⟩ : ∃ N, N = n + m := ⟨_, rfl⟩
  rw [← hN] at HR ⊢
  have hN2 : N ≤ 200000 := by omega
  have HN := hidden hN
  clear hN
  have HM := hidden (show (mrg A B).length = N by rw [mrg_length, HN.out, Hn.out, Hm.out])
  have HL0 := hidden (Left.start A B)
  go_wp2
  go_loopw [0, 1, 8, 20] (fun x y _ i wr => ∃ k : Nat, k ≤ N ∧ i = .int .i64 k ∧ ∃ xo xn xc yo yn yc, x = .slice xo xn xc ∧ y = .slice yo yn yc ∧ Hid (∃ A' B', MI A B A' B' w w1 N k (.slice xo xn xc) (.slice yo yn yc) wr)) (fun _ _ _ i _ => N - (intOf i).toNat)
  case atStart =>
    refine ⟨0, Nat.zero_le _, rfl, _, _, _, _, _, _, rfl, rfl, A, B, HL0.out, HA.out.made HR.out.1, HB.out.made HR.out.1, HR.out.2.1.congr (fun j _ => by simp), HR.out.2.2.congr (fun j _ => by simp), HR.out.1, ?_, ?_⟩
    · intro p n c ne e
      obtain ⟨ao1, ca1, e2, _, _, h2⟩ := HA.out
      rw [e2] at e
      injection e with e3
      obtain ⟨b, o, rfl, hc⟩ := h2 p e3 ne
      exact World.block_lt_of_cell? w _ (hc 0 (by cases A; exact absurd rfl ne; simp))
    · intro p n c ne e
      obtain ⟨ao1, ca1, e2, _, _, h2⟩ := HB.out
      rw [e2] at e
      injection e with e3
      obtain ⟨b, o, rfl, hc⟩ := h2 p e3 ne
      exact World.block_lt_of_cell? w _ (hc 0 (by cases B; exact absurd rfl ne; simp))
  case round =>
    obtain ⟨k, hk, rfl, xo, xn, xc, yo, yn, yc, rfl, rfl, hrest⟩ := hrel
    obtain ⟨A', B', hq⟩ := hrest.out
    have HQ := hidden hq
    clear hq hrest
    by_cases hlt : k < N
    · have hlt' : (k : Int) < (N : Int) := by omega
      obtain ⟨f1, f2⟩ := HQ.out.af k hlt
      obtain ⟨g1, g2⟩ := HQ.out.vf k hlt
      have hne : w.heap.size ≠ w1.heap.size := by omega
      cases B' with
      | nil =>
        cases A' with
        | nil => have := HQ.out.left.2; simp at this; have := HN.out; have := Hn.out; have := Hm.out; omega
        | cons a A'' =>
            obtain ⟨b1, o1, rfl, c1, hxn, hxc⟩ := HQ.out.rx.head
            have hyn : yn = 0 := HQ.out.ry.slot
            subst hyn
            have HSG := hidden (sg_nil (a :: A''))
            have hbe : ((0 : Int) == 0) = true := rfl
            have hbN : b1 < w.heap.size := HQ.out.px _ _ _ (by simp) rfl
            go_wp2
            go_region
            go_wp2
            go_region
            all_goals go_wp2
            all_goals go_roundw
            all_goals first
              | exact ⟨k + 1, by omega, by go_num, _, _, _, _, _, _, rfl, rfl, _, _, (HQ.out.single hz1 HSG.out).drew.drew⟩
              | (simp [intOf]; omega)
      | cons b B'' =>
        obtain ⟨b2, o2, rfl, c2, hyn, hyc⟩ := HQ.out.ry.head
        have hb2N : b2 < w.heap.size := HQ.out.py _ _ _ (by simp) rfl
        have hbe : ((yn : Int) == 0) = false := by rw [beq_eq_false_iff_ne]; omega
        cases A' with
        | nil =>
            have hxn : xn = 0 := HQ.out.rx.slot
            subst hxn
            have HSG := hidden (sg_right b B'')
            have b1 := b2
            have hd : decide ((0 : Int) < 0) = false := rfl
            have hbN : b2 < w.heap.size := HQ.out.py _ _ _ (by simp) rfl
            go_wp2
            go_region
            go_wp2
            go_region
            all_goals go_wp2
            all_goals go_roundw
            all_goals first
              | exact ⟨k + 1, by omega, by go_num, _, _, _, _, _, _, rfl, rfl, _, _, (HQ.out.pair hz1 HSG.out).drew.drew⟩
              | (simp [intOf]; omega)
        | cons a A'' =>
            obtain ⟨b1, o1, rfl, c1, hxn, hxc⟩ := HQ.out.rx.head
            have hxn' : (0 : Int) < (xn : Int) := by omega
            by_cases hab : a ≤ b
            · have HSG := hidden (show sg (a :: A'') (b :: B'') = true by rw [sg_both]; simpa using hab)
              have hbN : b1 < w.heap.size := HQ.out.px _ _ _ (by simp) rfl
              go_wp2
              go_region
              go_wp2
              go_region
              all_goals go_wp2
              all_goals go_roundw
              all_goals first
                | exact ⟨k + 1, by omega, by go_num, _, _, _, _, _, _, rfl, rfl, _, _, (HQ.out.single hz1 HSG.out).drew.drew⟩
                | (simp [intOf]; omega)
            · have HSG := hidden (show sg (a :: A'') (b :: B'') = false by rw [sg_both]; simpa using hab)
              have hab' : decide (a ≤ b) = false := by simpa using hab
              have hab'' : b < a := by omega
              have hbN : b1 < w.heap.size := HQ.out.px _ _ _ (by simp) rfl
              go_wp2
              go_region
              go_wp2
              go_region
              all_goals go_wp2
              all_goals go_roundw
              all_goals first
                | exact ⟨k + 1, by omega, by go_num, _, _, _, _, _, _, rfl, rfl, _, _, (HQ.out.pair hz1 HSG.out).drew.drew⟩
                | (simp [intOf]; omega)
    · have e : k = N := by omega
      subst e
      go_wp2
      go_ret2
      refine ⟨_, _, rfl, HQ.out.af.ri (by rw [List.length_map, HM.out]) (Nat.le_refl _) (fun j hj => ?_), ⟨w1.heap.size, ?_, fun j hj => ?_⟩, ?_, ?_, HQ.out.st⟩
      · have hj2 : j < (mrg A B).length := by rw [HM.out]; exact hj
        simp [List.getD, hj, hj2]
      · rw [List.length_map, HM.out]; rfl
      · rw [List.length_map] at hj
        rw [(HQ.out.vf j (by rw [← HM.out]; exact hj)).1]
        simp [List.getD, hj]
        intro h
        have := HM.out
        omega
      · intro a n c h
        injection h with h1
        have := Option.some.inj h1
        subst this
        exact Nat.le_refl _
      · intro a n c h
        injection h with h1
        have := Option.some.inj h1
        subst this
        show w.heap.size ≤ w1.heap.size
        omega

end Go.Proofs.Ytkglackbbcfhbaa
