/-
  Lengths where fewer than two symbols come, or what is asked can't be.
-/
import Derived.Test.YtkglackbbcfhbaaHLenN
import Derived.Test.YtkglackbbcfhbaaHRare
namespace Go.Proofs.Ytkglackbbcfhbaa
open Go.RowKit
set_option maxRecDepth 100000

/-- What Lengths leaves. -/
def LenP (O : List Int) (m : Int) (w : World) (e : Ending) (w' : World) : Prop :=
  (mayB O m = false ∧ e = .returned (.tuple #[.slice none 0 0, .int .i64 1]) ∧ Step (fun _ => False) w w') ∨
  (mayB O m = true ∧ ∃ v D, e = .returned (.tuple #[v, .int .i64 0]) ∧ List.Perm D (posTo O O.length) ∧ Sr O D 0 D.length ∧ Ri w' v (lensOf O D m.toNat) ∧ (∀ a n c, v = .slice (some a) n c → w.heap.size ≤ a.block) ∧ Step (fun _ => False) w w')

set_option maxHeartbeats 2000000 in
theorem len_no (v : Value) (O : List Int) (m : Int) (w : World) (h : Ri w v O) (hl : O.length ≤ 9223372036854775807) (hS : ∀ n, n = (posTo O O.length).length → SortOk n) (hm : mayB O m = false) :
    Calls Try.prog 7 #[v, .int .i64 m] w (LenP O m w) := by
  have HR := hidden (rare_any v O m w h hl hS)
  have HM := hidden hm
  obtain ⟨ao, cap, rfl, _, _, _⟩ := h
  clear hm hS
  go_enter Try.func7, Try.ntmps7
  go_wp2_with (go_at_call 17; refine HR.out.mono ?_)
  rintro e w1 (⟨_, rfl, hs1⟩ | ⟨h1, _⟩)
  · have HS := hidden hs1
    clear hs1
    go_wp2
    go_ret2
    refine .inl ⟨HM.out, rfl, ?_⟩
    exact HS.out.alloc _
  · rw [HM.out] at h1; cases h1

theorem box_cell (w : World) (v : Value) (t : TypeId) : (w.alloc (.cells #[v] t)).cell? ⟨w.heap.size, 0, none⟩ = some v := by
  rw [World.cell?_alloc_at _ _ _ _ rfl]; rfl

set_option maxHeartbeats 2000000 in
theorem len_few (v : Value) (O : List Int) (m : Int) (w : World) (h : Ri w v O) (hl : O.length ≤ 9223372036854775807) (hS : ∀ n, n = (posTo O O.length).length → SortOk n) (hm : mayB O m = true) (hf : (posTo O O.length).length < 2) :
    Calls Try.prog 7 #[v, .int .i64 m] w (LenP O m w) := by
  have HR := hidden (rare_any v O m w h hl hS)
  have HM := hidden hm
  have h320 : O.length ≤ 320 := ((mayB_iff O m).1 hm).1
  obtain ⟨ao, cap, rfl, hcap, _, _⟩ := h
  clear hm hS
  obtain ⟨n, hn⟩ : ∃ n, n = O.length := ⟨_, rfl⟩
  have Hn := hidden hn
  rw [← hn] at hl hcap HR h320 ⊢
  clear hn
  go_enter Try.func7, Try.ntmps7
  go_wp2_with (go_at_call 17; refine HR.out.mono ?_)
  rintro e w1 (⟨h1, _⟩ | ⟨_, u, D, rfl, d1, d2, d3, d4, d5⟩)
  · rw [HM.out] at h1; cases h1
  · have hDl : D.length < 2 := by rw [d1.length_eq]; exact hf
    have HD := hidden (And.intro d1 (And.intro d2 (And.intro d3 (And.intro d4 d5))))
    have HIN := hidden (show InO O D from (posTo_in O O.length (Nat.le_refl _)).perm d1)
    obtain ⟨uo, uc, hu, huc, _, hu2⟩ := d3
    have HU2 := hidden hu2
    rw [hu] at HD ⊢
    clear hf d1 d2 d4 hu hu2
    obtain ⟨ul, hul⟩ : ∃ ul, ul = D.length := ⟨_, rfl⟩
    have HUL := hidden hul
    rw [← hul] at hDl huc HD ⊢
    clear hul
    go_wp2_with (refine makeInts n _ rfl rfl rfl (by omega) ?_)
    intro w2 hs2 hz2 ha2
    have c6 := hs2.cell (box_cell w1 (.slice uo ul uc) 22) (fun h => h)
    simp only [World.size_alloc] at hz2 ha2
    have hz1 := d5.size
    have HS2 := hidden (show Step (fun _ => False) w w2 from (d5.alloc _).made hs2)
    have HS12 := hidden (show Step (fun _ => False) w1 w2 from ((Step.refl _ w1).alloc _).made hs2)
    have HA2 := hidden ha2
    clear hs2 ha2 d5
    have hul2 : (ul : Int) < 2 := by omega
    have hz3 : w1.heap.size < w2.heap.size := by omega
    go_wp2
    go_loopw [10, 36] (fun _ i wr => ∃ k : Nat, k ≤ ul ∧ i = .int .i64 k ∧ wr.cell? ⟨w1.heap.size, 0, none⟩ = some (.slice uo ul uc) ∧ wr.cell? ⟨w2.heap.size, 0, none⟩ = some (.slice (some ⟨w1.heap.size + 1, 0, none⟩) n n) ∧ Hid (Step (fun _ => False) w wr ∧ Step (fun _ => False) w1 wr ∧ Af wr (w1.heap.size + 1) n (fun j => (((D.take k).count (j : Int) : Nat) : Int)))) (fun _ i _ => ul - (intOf i).toNat)
    case atStart => exact ⟨0, Nat.zero_le _, rfl, (World.cell?_alloc_past _ _ _ (by omega)).trans c6, box_cell _ _ _, HS2.out.alloc _, HS12.out.alloc _, (HA2.out.congr (fun j _ => by simp)).made ((Step.refl _ _).alloc _)⟩
    case round =>
      obtain ⟨k, hk, rfl, e6, e8, hrest⟩ := hrel
      obtain ⟨q1, q2, q3⟩ := hrest.out
      have HQ := hidden (And.intro q1 (And.intro q2 q3))
      clear hrest
      by_cases hlt : k < ul
      · have hkD : k < D.length := by have := HUL.out; omega
        obtain ⟨x, hx, hxO⟩ := HIN.out.at hkD
        cases uo with
        | none => have := HD.out.2.2.1; obtain ⟨ao1, c1, e, _, h1, _⟩ := this; injection e with e1; have := (h1 e1.symm).1; subst this; simp at hkD
        | some p =>
          obtain ⟨bu, ou, rfl, hcu⟩ := HU2.out p rfl (by intro e; subst e; simp at hkD)
          have cu := q2.cell (hcu k hkD) (fun h => h)
          rw [hx] at cu
          have hxn : x < n := by have := Hn.out; omega
          obtain ⟨f1, f2⟩ := q3 x hxn
          have HX := hidden hx
          have k1 : (k : Int) < (ul : Int) := by omega
          have k2 : (x : Int) < (n : Int) := by omega
          have HT := hidden (fun i => take_count_snoc D k hkD i)
          clear hcu hx q1 q2 q3
          go_wp2
          go_roundw
          case rel =>
            refine ⟨k + 1, by omega, by go_num, ?_, ?_, (HQ.out.1.setCell _ _ (.inr ?_)), (HQ.out.2.1.setCell _ _ (.inr ?_)), ?_⟩
            · rw [World.cell?_setCell_other (a := ⟨w1.heap.size + 1, x, none⟩) (b := ⟨w1.heap.size, 0, none⟩) _ _ (by intro e; injection e with e1; omega)]; exact e6
            · rw [World.cell?_setCell_other (a := ⟨w1.heap.size + 1, x, none⟩) (b := ⟨w2.heap.size, 0, none⟩) _ _ (by intro e; injection e with e1; omega)]; exact e8
            · show w.heap.size ≤ w1.heap.size + 1
              omega
            · show w1.heap.size ≤ w1.heap.size + 1
              omega
            · refine Af.congr (HQ.out.2.2.set x _) (fun j _ => ?_)
              unfold upd
              rw [HT.out]
              rw [HX.out]
              by_cases e : j = x
              · subst e; have hk0 : k = 0 := by omega
                rw [hk0]; simp
              · simp [e, show ¬ ((x : Int) = (j : Int)) by omega]
          case measure => simp [intOf]; omega
      · have e : k = ul := by omega
        subst e
        go_wp2
        go_ret2
        refine .inr ⟨HM.out, .slice (some ⟨w1.heap.size + 1, 0, none⟩) n n, D, rfl, HD.out.1, by rw [← HUL.out]; exact HD.out.2.1, ?_, ?_, HQ.out.1⟩
        · refine HQ.out.2.2.ri (by rw [lensOf_length, Hn.out]) (Nat.le_refl _) (fun j hj => ?_)
          rw [lensOf_getD O D _ j (by have := Hn.out; omega), if_pos (by have := HUL.out; omega), List.take_of_length_le (by have := HUL.out; omega)]
        · intro a n c h
          injection h with h1
          have := Option.some.inj h1
          subst this
          show w.heap.size ≤ w1.heap.size + 1
          omega

end Go.Proofs.Ytkglackbbcfhbaa
