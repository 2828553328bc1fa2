/-
  The codes of a block: newCodes; the fixed ones.
-/
import Derived.Test.YtkaibpibnkmmbaaDoorIConc
import Derived.Test.YtkaibpibnkmmbaaDoorISyms
import Derived.Test.YtkaibpibnkmmbaaDoorIBlkN
namespace Go.Proofs.YtkaibpibnkmmbaaDoor
open Go.RowKit
set_option maxRecDepth 100000
set_option linter.unusedVariables false

theorem Ri.own {w : World} {v : Value} {n : Nat} {L : List Int} (h : w.ownsRow 0 3 1 v n (i64s L)) (e : L.length = n) : Ri w v L := Ri.of_own h

/-- What newCodes leaves. -/
def NewC (L D : List Int) (w : World) (e : Ending) (w' : World) : Prop :=
  Step (fun _ => False) w w' ∧
  ((newErr L ≠ 0 ∧ e = .returned (.tuple #[.pointer none, .int .i64 (newErr L)])) ∨
   (newErr L = 0 ∧ newErr D ≠ 0 ∧ e = .returned (.tuple #[.pointer none, .int .i64 (newErr D)])) ∨
   (newErr L = 0 ∧ newErr D = 0 ∧ ∃ c d1 d2 b1 b2 n1 n2, e = .returned (.tuple #[.pointer (some ⟨c, 0, none⟩), .int .i64 0]) ∧ Cod w' c d1 d2 b1 b2 n1 n2 L D ∧ w.heap.size ≤ c ∧ w.heap.size ≤ d1 ∧ w.heap.size ≤ d2 ∧ w.heap.size ≤ b1 ∧ w.heap.size ≤ b2))

theorem Cod.new {w : World} {d1 d2 b1 b2 n1 n2 : Nat} {L D : List Int} (e1 : Dec w d1 L b1 n1 0 0) (e2 : Dec w d2 D b2 n2 0 0) (dd : d1 ≠ d2) (x12 : d1 ≠ b2) (x21 : d2 ≠ b1) (t : TypeId) :
    Cod (w.alloc (.cells #[.pointer (some ⟨d1, 0, none⟩), .pointer (some ⟨d2, 0, none⟩)] t)) w.heap.size d1 d2 b1 b2 n1 n2 L D := by
  have hs : Step (fun _ => False) w (w.alloc (.cells #[.pointer (some ⟨d1, 0, none⟩), .pointer (some ⟨d2, 0, none⟩)] t)) := (Step.refl _ w).alloc _
  have l1 : d1 < w.heap.size := World.block_lt_of_cell? w _ e1.c1
  have l2 : d2 < w.heap.size := World.block_lt_of_cell? w _ e2.c1
  refine ⟨?_, ?_, e1.made hs, e2.made hs, dd, x12, x21, by omega, by omega⟩
  · rw [World.cell?_alloc_at _ _ _ _ rfl]; rfl
  · rw [World.cell?_alloc_at _ _ _ _ rfl]; rfl

set_option maxHeartbeats 2000000 in
theorem newCodes_any (u v : Value) (L D : List Int) (w : World) (hu : Ri w u L) (hv : Ri w v D) (hl : L.length ≤ 100000) (hd : D.length ≤ 100000) (hx : ∃ i, i < L.length ∧ 0 < L.getD i 0) :
    Calls Tryd.prog 34 #[u, v] w (NewC L D w) := by
  have HU := hidden hu
  have HV := hidden hv
  have HX := hidden hx
  obtain ⟨ua, uc, rfl, _, _, _⟩ := hu
  obtain ⟨va, vc, rfl, _, _, _⟩ := hv
  generalize hln : L.length = ln at *
  generalize hdn : D.length = dn at *
  have HLN := hidden (And.intro hln hdn)
  have HN1 := hidden (new_any _ L w HU.out (by omega))
  have HN2 : Hid (∀ w1, Ri w1 (.slice va dn vc) D → Calls Tryd.prog 42 #[.slice va dn vc] w1 (NewP D w1)) := hidden (fun w1 h1 => new_any _ D w1 h1 (by omega))
  clear hx hln hdn
  go_enter Tryd.func34, Tryd.ntmps34
  go_wp2_with fail
  refine HN1.out.mono ?_
  rintro e w1 (⟨g1, rfl, S1⟩ | ⟨g1, d1, b1, n1, rfl, k1, k2, D1, S1⟩)
  · have HG := hidden g1
    have hne : (newErr L != 0) = true := by rw [bne_iff_ne]; exact g1
    have HS := hidden S1
    clear g1 S1
    generalize hE : newErr L = E at *
    have HE := hidden hE
    clear hE
    go_wp2
    go_ret2
    exact ⟨HS.out, .inl ⟨by rw [HE.out]; exact HG.out, by rw [HE.out]; rfl⟩⟩
  · have HS1 := hidden (And.intro S1 (And.intro D1 (And.intro k1 k2)))
    have HRV := hidden (HV.out.made S1)
    have HE1 := hidden g1
    clear S1 D1 k1 k2 g1
    go_wp2_with fail
    refine (HN2.out _ HRV.out).mono ?_
    rintro e w2 (⟨g2, rfl, S2⟩ | ⟨g2, d2, b2, n2, rfl, k3, k4, D2, S2⟩)
    · have HG := hidden g2
      have hne : (newErr D != 0) = true := by rw [bne_iff_ne]; exact g2
      have HS := hidden S2
      clear g2 S2
      generalize hE : newErr D = E at *
      have HE := hidden hE
      clear hE
      go_wp2
      go_ret2
      exact ⟨HS1.out.1.made HS.out, .inr (.inl ⟨HE1.out, by rw [HE.out]; exact HG.out, by rw [HE.out]; rfl⟩)⟩
    · have HS2 := hidden (And.intro S2 (And.intro D2 (And.intro k3 k4)))
      have HE2 := hidden g2
      clear S2 D2 k3 k4 g2
      go_wp2
      go_ret2
      obtain ⟨S1, D1, k1, k2⟩ := HS1.out
      obtain ⟨S2, D2, k3, k4⟩ := HS2.out
      have l1 : d1 < w1.heap.size := World.block_lt_of_cell? w1 _ D1.c1
      have l2 : b1 < w1.heap.size := by
        obtain ⟨i, h1, h2⟩ := HX.out
        exact World.block_lt_of_cell? w1 _ (D1.sy i (by rw [HLN.out.1]; exact h1) h2)
      have z1 := S1.size
      have z2 := S2.size
      refine ⟨(S1.made S2).alloc _, .inr (.inr ⟨HE1.out, HE2.out, _, d1, d2, b1, b2, n1, n2, rfl, Cod.new (D1.made S2) D2 (by omega) (by omega) (by omega) _, ?_, k1, ?_, k2, ?_⟩)⟩
      · omega
      · omega
      · omega

theorem Str.set3 {w : World} {p b : Nat} {s v : Value} {M m t : Nat} {O : List Nat} {most : Int} (h : Str w p b s v M m t O most) (u : Value) : Str (w.setCell ⟨p, 3, none⟩ u) p b s v M m t O most := by
  have S : Step (fun k => k = p) w (w.setCell ⟨p, 3, none⟩ u) := (Step.refl (fun k => k = p) w).setCell ⟨p, 3, none⟩ u (.inl rfl)
  have hne : ∀ j u', j ≠ 3 → w.cell? ⟨p, j, none⟩ = some u' → (w.setCell ⟨p, 3, none⟩ u).cell? ⟨p, j, none⟩ = some u' := fun j u' hj hu => by
    rw [World.cell?_setCell_other (a := ⟨p, 3, none⟩) (b := ⟨p, j, none⟩) _ _ (by intro e; injection e with _ e2; exact hj e2.symm)]; exact hu
  refine ⟨hne 0 _ (by omega) h.ci, h.rr.step S (fun e => h.pb e.symm) (fun k hk e => h.sp (by rw [hk, e])), ⟨hne 1 _ (by omega) h.ou.co, hne 2 _ (by omega) h.ou.cm, ?_, owns_step h.ou.ow S (fun k hk e => h.ou.ne (by rw [hk, e])), h.ou.ne, h.ou.ca, h.ou.by_⟩, h.pb, h.sp, h.vb, h.vs⟩
  rw [World.frozen?_setCell]; exact h.ou.f1

theorem Cod.far {S : Nat → Prop} {w w' : World} {c d1 d2 b1 b2 n1 n2 : Nat} {L D : List Int} (k : Cod w c d1 d2 b1 b2 n1 n2 L D) (hs : Step S w w') (h0 : ¬ S c) (h1 : ¬ S d1) (h2 : ¬ S d2) (h3 : ¬ S b1) (h4 : ¬ S b2) : Cod w' c d1 d2 b1 b2 n1 n2 L D :=
  ⟨hs.cell k.c1 h0, hs.cell k.c2 h0, k.e1.far hs h1 (fun _ => h3), k.e2.far hs h2 (fun _ => h4), k.dd, k.x12, k.x21, k.y1, k.y2⟩

/-- The fixed codes, if they were made already. -/
def Fx (w : World) (B p b : Nat) (s v : Value) : Prop :=
  w.cell? ⟨p, 3, none⟩ = some (.pointer none) ∨ ∃ c d1 d2 b1 b2 n1 n2, w.cell? ⟨p, 3, none⟩ = some (.pointer (some ⟨c, 0, none⟩)) ∧ Cod w c d1 d2 b1 b2 n1 n2 FL FD ∧ BesC p b s v c d1 d2 b1 b2 FL FD ∧ B ≤ d1 ∧ B ≤ d2

theorem FL_flat : [List.replicate 144 (8 : Int), List.replicate 112 9, List.replicate 24 7, List.replicate 8 8].flatten = FL := by
  simp only [List.flatten_cons, List.flatten_nil, List.append_nil, FL, List.append_assoc]

/-- What fixedCodes leaves. -/
def FixE (w : World) (B p b : Nat) (s v : Value) (M m t : Nat) (O : List Nat) (most : Int) (e : Ending) (w' : World) : Prop :=
  ∃ c d1 d2 b1 b2 n1 n2, e = .returned (.pointer (some ⟨c, 0, none⟩)) ∧ w'.cell? ⟨p, 3, none⟩ = some (.pointer (some ⟨c, 0, none⟩)) ∧ w'.frozen? ⟨p, 3, none⟩ = false ∧
    Cod w' c d1 d2 b1 b2 n1 n2 FL FD ∧ BesC p b s v c d1 d2 b1 b2 FL FD ∧ B ≤ d1 ∧ B ≤ d2 ∧ Str w' p b s v M m t O most ∧ Step (fun k => k = p) w w'

/-- Four rows in a new block. -/
theorem Rws.four {w : World} {k1 k2 k3 k4 n1 n2 n3 n4 : Nat} {L1 L2 L3 L4 : List Int} (e1 : L1.length = n1) (e2 : L2.length = n2) (e3 : L3.length = n3) (e4 : L4.length = n4)
    (h1 : Ri w (.slice (some ⟨k1, 0, none⟩) n1 n1) L1) (h2 : Ri w (.slice (some ⟨k2, 0, none⟩) n2 n2) L2) (h3 : Ri w (.slice (some ⟨k3, 0, none⟩) n3 n3) L3) (h4 : Ri w (.slice (some ⟨k4, 0, none⟩) n4 n4) L4) (t : TypeId) :
    Rws (w.alloc (.cells #[.slice (some ⟨k1, 0, none⟩) n1 n1, .slice (some ⟨k2, 0, none⟩) n2 n2, .slice (some ⟨k3, 0, none⟩) n3 n3, .slice (some ⟨k4, 0, none⟩) n4 n4] t)) w.heap.size [L1, L2, L3, L4] := by
  have hs : Step (fun _ => False) w (w.alloc (.cells #[.slice (some ⟨k1, 0, none⟩) n1 n1, .slice (some ⟨k2, 0, none⟩) n2 n2, .slice (some ⟨k3, 0, none⟩) n3 n3, .slice (some ⟨k4, 0, none⟩) n4 n4] t)) := (Step.refl _ w).alloc _
  subst e1; subst e2; subst e3; subst e4
  refine ⟨fun k hk => ?_⟩
  have hk4 : k = 0 ∨ k = 1 ∨ k = 2 ∨ k = 3 := by simp at hk; omega
  rcases hk4 with rfl | rfl | rfl | rfl
  · exact ⟨k1, 0, _, (World.cell?_alloc_at _ _ _ _ rfl).trans rfl, h1.made hs⟩
  · exact ⟨k2, 0, _, (World.cell?_alloc_at _ _ _ _ rfl).trans rfl, h2.made hs⟩
  · exact ⟨k3, 0, _, (World.cell?_alloc_at _ _ _ _ rfl).trans rfl, h3.made hs⟩
  · exact ⟨k4, 0, _, (World.cell?_alloc_at _ _ _ _ rfl).trans rfl, h4.made hs⟩

set_option maxHeartbeats 4000000 in
theorem fixed_any (B p b : Nat) (s v : Value) (M m t : Nat) (O : List Nat) (most : Int) (w : World) (h : Str w p b s v M m t O most) (f3 : w.frozen? ⟨p, 3, none⟩ = false) (fx : Fx w B p b s v) (hB : B ≤ w.heap.size) :
    Calls Tryd.prog 23 #[.pointer (some ⟨p, 0, none⟩)] w (FixE w B p b s v M m t O most) := by
  rcases fx with c3 | ⟨c, d1, d2, b1, b2, n1, n2, c3, hcod, hbes, hb1, hb2⟩
  · have H := hidden h
    have HF3 := hidden f3
    have hp : p < w.heap.size := World.block_lt_of_cell? w _ h.ci
    have HR : Hid (∀ (x : Int) (n : Nat) (w1 : World), 1 ≤ n → n ≤ 100000 → Step (fun _ => False) w w1 → Calls Tryd.prog 33 #[.int .i64 x, .int .i64 n] w1 fun e w' => ∃ k, e = .returned (.slice (some ⟨k, 0, none⟩) n n) ∧ Hid (w.heap.size ≤ k ∧ Ri w' (.slice (some ⟨k, 0, none⟩) n n) (List.replicate n x) ∧ Step (fun _ => False) w1 w' ∧ Step (fun _ => False) w w')) :=
      hidden (fun x n w1 h1 hn S1 => (repeat_any x n w1 h1 hn).mono fun e w' ⟨k, he, hk, ho, hs⟩ => ⟨k, he, Nat.le_trans S1.size hk, Ri.of_own ho, hs, S1.made hs⟩)
    clear h f3
    go_enter Tryd.func23, Tryd.ntmps23
    go_wp2_with fail
    refine (HR.out 8 144 _ (by omega) (by omega) (Step.refl _ _)).mono ?_
    rintro e w1 ⟨k1, rfl, R1⟩
    go_wp2_with fail
    refine (HR.out 9 112 _ (by omega) (by omega) R1.out.2.2.2).mono ?_
    rintro e w2 ⟨k2, rfl, R2⟩
    go_wp2_with fail
    refine (HR.out 7 24 _ (by omega) (by omega) R2.out.2.2.2).mono ?_
    rintro e w3 ⟨k3, rfl, R3⟩
    go_wp2_with fail
    refine (HR.out 8 8 _ (by omega) (by omega) R3.out.2.2.2).mono ?_
    rintro e w4 ⟨k4, rfl, R4⟩
    have HC : Hid (Calls Tryd.prog 32 #[.slice (some ⟨w4.heap.size, 0, none⟩) 4 4] (w4.alloc (.cells #[.slice (some ⟨k1, 0, none⟩) 144 144, .slice (some ⟨k2, 0, none⟩) 112 112, .slice (some ⟨k3, 0, none⟩) 24 24, .slice (some ⟨k4, 0, none⟩) 8 8] 22))
        fun e w' => ∃ va vc, e = .returned (.slice va 288 vc) ∧ Hid (Ri w' (.slice va 288 vc) FL ∧ Step (fun _ => False) w w')) := hidden (by
      have S4 : Step (fun _ => False) w4 (w4.alloc (.cells #[.slice (some ⟨k1, 0, none⟩) 144 144, .slice (some ⟨k2, 0, none⟩) 112 112, .slice (some ⟨k3, 0, none⟩) 24 24, .slice (some ⟨k4, 0, none⟩) 8 8] 22)) := (Step.refl _ w4).alloc _
      refine (concat_any w4.heap.size _ 4 288 _ (Rws.four (by simp) (by simp) (by simp) (by simp) (((R1.out.2.1.made R2.out.2.2.1).made R3.out.2.2.1).made R4.out.2.2.1) ((R2.out.2.1.made R3.out.2.2.1).made R4.out.2.2.1) (R3.out.2.1.made R4.out.2.2.1) R4.out.2.1 _) rfl (by rw [FL_flat, FL_len]) (by omega) (by omega) (by omega)).mono ?_
      rintro e w' ⟨v', he, ho, hs, _⟩
      rw [FL_flat] at ho
      obtain ⟨va, vc, hv⟩ := own_slice ho
      subst hv
      exact ⟨va, vc, he, Ri.of_own ho, (R4.out.2.2.2.made S4).made hs⟩)
    go_wp2_with fail
    refine HC.out.mono ?_
    rintro e w5 ⟨va, vc, rfl, R5⟩
    clear HC
    go_wp2_with fail
    refine (HR.out 5 32 _ (by omega) (by omega) R5.out.2).mono ?_
    rintro e w6 ⟨k6, rfl, R6⟩
    have HNC : Hid (Calls Tryd.prog 34 #[.slice va 288 vc, .slice (some ⟨k6, 0, none⟩) 32 32] w6 fun e w' => ∃ c d1 d2 b1 b2 n1 n2, e = .returned (.tuple #[.pointer (some ⟨c, 0, none⟩), .int .i64 0]) ∧ (w'.cell? ⟨p, 3, none⟩ = some (.pointer none) ∧ w'.frozen? ⟨p, 3, none⟩ = false) ∧ Hid (Cod w' c d1 d2 b1 b2 n1 n2 FL FD ∧ (w.heap.size ≤ c ∧ w.heap.size ≤ d1 ∧ w.heap.size ≤ d2 ∧ w.heap.size ≤ b1 ∧ w.heap.size ≤ b2) ∧ Step (fun _ => False) w w')) := hidden (by
      refine (newCodes_any _ _ FL FD w6 (R5.out.1.made R6.out.2.2.1) R6.out.2.1 (by rw [FL_len]; omega) (by rw [FD_len]; omega) ⟨0, by rw [FL_len]; omega, by have := (fix_facts 0 (by omega)).1; rw [this]; decide⟩).mono ?_
      rintro e w' ⟨hs, h1 | h2 | ⟨_, _, c, d1, d2, b1, b2, n1, n2, he, hc, x0, x1, x2, x3, x4⟩⟩
      · exact absurd FL_ok h1.1
      · exact absurd FD_ok h2.2.1
      · have S6 := R6.out.2.2.2.made hs
        have z := R6.out.2.2.2.size
        exact ⟨c, d1, d2, b1, b2, n1, n2, he, ⟨S6.cell c3 (fun h => h), (S6.frozen (p := ⟨p, 3, none⟩) hp (fun h => h)).trans HF3.out⟩, hc, ⟨by omega, by omega, by omega, by omega, by omega⟩, S6⟩)
    clear c3
    go_wp2_with fail
    refine HNC.out.mono ?_
    rintro e w7 ⟨c, d1, d2, b1, b2, n1, n2, rfl, ⟨c7, f7⟩, R7⟩
    clear HNC
    go_wp2
    go_ret
    obtain ⟨hc, ⟨x0, x1, x2, x3, x4⟩, S7⟩ := R7.out
    have hb : b < w.heap.size := World.block_lt_of_cell? w _ H.out.rr.ins
    have hv : ∀ k, v.ownBlock = some k → k < w.heap.size := fun k hk => (H.out.ou.ow.lt _ hk).2
    have hsx : ∀ k, s.ownBlock = some k → k < w.heap.size := fun k hk => (H.out.rr.own.lt _ hk).2
    have S8 : Step (fun k => k = p) w7 (w7.setCell ⟨p, 3, none⟩ (.pointer (some ⟨c, 0, none⟩))) := (Step.refl (fun k => k = p) w7).setCell ⟨p, 3, none⟩ _ (.inl rfl)
    have far : ∀ {j}, w.heap.size ≤ j → ¬ j = p := fun hj e => by omega
    refine ⟨c, d1, d2, b1, b2, n1, n2, rfl, ?_, ?_, hc.far S8 (far x0) (far x1) (far x2) (far x3) (far x4), ⟨⟨by omega, by omega, ?_, ?_, by omega, by omega, ?_⟩, ⟨by omega, by omega, ?_, ?_, by omega, by omega, ?_⟩, by omega, by omega, ?_⟩, by omega, by omega, (H.out.made S7).set3 _, (S7.mono (fun _ h => h.elim)).trans S8 (fun i hi => .inl hi)⟩
    · exact World.cell?_setCell_same _ _ _ c7
    · rw [World.frozen?_setCell]; exact f7
    · intro e; have := hsx _ e; omega
    · intro e; have := hv _ e; omega
    · intro _ e; have := hv _ e; omega
    · intro e; have := hsx _ e; omega
    · intro e; have := hv _ e; omega
    · intro _ e; have := hv _ e; omega
    · intro e; have := hv _ e; omega
  · have H := hidden (And.intro h (And.intro f3 (And.intro hcod (And.intro hbes (And.intro hb1 hb2)))))
    clear h f3 hcod hbes hb1 hb2
    go_enter Tryd.func23, Tryd.ntmps23
    go_wp2
    go_ret
    exact ⟨c, d1, d2, b1, b2, n1, n2, rfl, c3, H.out.2.1, H.out.2.2.1, H.out.2.2.2.1, H.out.2.2.2.2.1, H.out.2.2.2.2.2, H.out.1, Step.refl _ _⟩

end Go.Proofs.YtkaibpibnkmmbaaDoor
