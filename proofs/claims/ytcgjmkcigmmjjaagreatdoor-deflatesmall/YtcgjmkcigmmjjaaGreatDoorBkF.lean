/-
  Two sorted stretches become one: the search for the turn.
-/
import Derived.Test.YtcgjmkcigmmjjaaGreatDoorBkE
import Derived.RangeFuncNested
import Derived.RangeFuncBound
import Derived.RangeFuncCalls
import Derived.RangeFuncLeaves
import Derived.Shelf.Abstract
import Derived.Shelf.RegionOpen
import Derived.WalkKit
import Derived.OwnWalkIn
import Derived.TacticsInMore
import Derived.LoopNIn
import Derived.LoopIn

namespace Go.Proofs.YtcgjmkcigmmjjaaGreatDoor
open Go.RowKit
set_option maxRecDepth 100000
/-- What Lengths leaves. -/
def LenP (O : List Int) (m : Int) (w : World) (e : Ending) (w' : World) : Prop :=
  (mayB O m = false ∧ e = .returned (.tuple #[.slice none 0 0, .int .i64 1]) ∧ Step (fun _ => False) w w') ∨
  (mayB O m = true ∧ ∃ v D, e = .returned (.tuple #[v, .int .i64 0]) ∧ List.Perm D (posTo O O.length) ∧ (Sr O D 0 D.length ∧ EqA O D) ∧ Ri w' v (lensOf O D m.toNat) ∧ (∀ a n c, v = .slice (some a) n c → w.heap.size ≤ a.block) ∧ Step (fun _ => False) w w')

set_option maxHeartbeats 2000000 in
theorem len_no (v : Value) (O : List Int) (m : Int) (w : World) (h : Ri w v O) (hl : O.length ≤ 9223372036854775807) (hS : ∀ n, n = (posTo O O.length).length → SortOk n) (hm : mayB O m = false) :
    Calls Tryz.prog 89 #[v, .int .i64 m] w (LenP O m w) := by
  have HR := hidden (rare_any v O m w h hl hS)
  have HM := hidden hm
  obtain ⟨ao, cap, rfl, _, _, _⟩ := h
  clear hm hS
  go_enter Tryz.func89, Tryz.ntmps89
  go_wp2_with (go_at_call 98; refine HR.out.mono ?_)
  rintro e w1 (⟨_, rfl, hs1⟩ | ⟨h1, _⟩)
  · have HS := hidden hs1
    clear hs1
    go_wp2
    go_ret2
    refine .inl ⟨HM.out, rfl, ?_⟩
    exact HS.out.alloc _
  · rw [HM.out] at h1; cases h1

theorem box_cell (w : World) (v : Value) (t : TypeId) : (w.alloc (.cells #[v] t)).cell? ⟨w.heap.size, 0, none⟩ = some v := by
  rw [World.cell?_alloc_at _ _ _ _ rfl]; rfl

set_option maxHeartbeats 2000000 in
theorem len_few (v : Value) (O : List Int) (m : Int) (w : World) (h : Ri w v O) (hl : O.length ≤ 9223372036854775807) (hS : ∀ n, n = (posTo O O.length).length → SortOk n) (hm : mayB O m = true) (hf : (posTo O O.length).length < 2) :
    Calls Tryz.prog 89 #[v, .int .i64 m] w (LenP O m w) := by
  have HR := hidden (rare_any v O m w h hl hS)
  have HM := hidden hm
  have h320 : O.length ≤ 320 := ((mayB_iff O m).1 hm).1
  obtain ⟨ao, cap, rfl, hcap, _, _⟩ := h
  clear hm hS
  obtain ⟨n, hn⟩ : ∃ n, n = O.length := ⟨_, rfl⟩
  have Hn := hidden hn
  rw [← hn] at hl hcap HR h320 ⊢
  clear hn
  go_enter Tryz.func89, Tryz.ntmps89
  go_wp2_with (go_at_call 98; refine HR.out.mono ?_)
  rintro e w1 (⟨h1, _⟩ | ⟨_, u, D, rfl, d1, d2, d3, d4, d5⟩)
  · rw [HM.out] at h1; cases h1
  · have hDl : D.length < 2 := by rw [d1.length_eq]; exact hf
    have HD := hidden (And.intro d1 (And.intro d2 (And.intro d3 (And.intro d4 d5))))
    have HIN := hidden (show InO O D from (posTo_in O O.length (Nat.le_refl _)).perm d1)
    obtain ⟨uo, uc, hu, huc, _, hu2⟩ := d3
    have HU2 := hidden hu2
    rw [hu] at HD ⊢
    clear hf d1 d2 d4 hu hu2
    obtain ⟨ul, hul⟩ : ∃ ul, ul = D.length := ⟨_, rfl⟩
    have HUL := hidden hul
    rw [← hul] at hDl huc HD ⊢
    clear hul
    go_wp2_with (refine makeInts n _ rfl rfl rfl (by omega) ?_)
    intro w2 hs2 hz2 ha2
    have c6 := hs2.cell (box_cell w1 (.slice uo ul uc) 30) (fun h => h)
    simp only [World.size_alloc] at hz2 ha2
    have hz1 := d5.size
    have HS2 := hidden (show Step (fun _ => False) w w2 from (d5.alloc _).made hs2)
    have HS12 := hidden (show Step (fun _ => False) w1 w2 from ((Step.refl _ w1).alloc _).made hs2)
    have HA2 := hidden ha2
    clear hs2 ha2 d5
    have hul2 : (ul : Int) < 2 := by omega
    have hz3 : w1.heap.size < w2.heap.size := by omega
    go_wp2
    go_loopw [10, 36] (fun _ i wr => ∃ k : Nat, k ≤ ul ∧ i = .int .i64 k ∧ wr.cell? ⟨w1.heap.size, 0, none⟩ = some (.slice uo ul uc) ∧ wr.cell? ⟨w2.heap.size, 0, none⟩ = some (.slice (some ⟨w1.heap.size + 1, 0, none⟩) n n) ∧ Hid (Step (fun _ => False) w wr ∧ Step (fun _ => False) w1 wr ∧ Af wr (w1.heap.size + 1) n (fun j => (((D.take k).count (j : Int) : Nat) : Int)))) (fun _ i _ => ul - (intOf i).toNat)
    case atStart => exact ⟨0, Nat.zero_le _, rfl, (World.cell?_alloc_past _ _ _ (by omega)).trans c6, box_cell _ _ _, HS2.out.alloc _, HS12.out.alloc _, (HA2.out.congr (fun j _ => by simp)).made ((Step.refl _ _).alloc _)⟩
    case round =>
      obtain ⟨k, hk, rfl, e6, e8, hrest⟩ := hrel
      obtain ⟨q1, q2, q3⟩ := hrest.out
      have HQ := hidden (And.intro q1 (And.intro q2 q3))
      clear hrest
      by_cases hlt : k < ul
      · have hkD : k < D.length := by have := HUL.out; omega
        obtain ⟨x, hx, hxO⟩ := HIN.out.at hkD
        cases uo with
        | none => have := HD.out.2.2.1; obtain ⟨ao1, c1, e, _, h1, _⟩ := this; injection e with e1; have := (h1 e1.symm).1; subst this; simp at hkD
        | some p =>
          obtain ⟨bu, ou, rfl, hcu⟩ := HU2.out p rfl (by intro e; subst e; simp at hkD)
          have cu := q2.cell (hcu k hkD) (fun h => h)
          rw [hx] at cu
          have hxn : x < n := by have := Hn.out; omega
          obtain ⟨f1, f2⟩ := q3 x hxn
          have HX := hidden hx
          have k1 : (k : Int) < (ul : Int) := by omega
          have k2 : (x : Int) < (n : Int) := by omega
          have HT := hidden (fun i => take_count_snoc D k hkD i)
          clear hcu hx q1 q2 q3
          go_wp2
          go_roundw
          case rel =>
            refine ⟨k + 1, by omega, by go_num, ?_, ?_, (HQ.out.1.setCell _ _ (.inr ?_)), (HQ.out.2.1.setCell _ _ (.inr ?_)), ?_⟩
            · rw [World.cell?_setCell_other (a := ⟨w1.heap.size + 1, x, none⟩) (b := ⟨w1.heap.size, 0, none⟩) _ _ (by intro e; injection e with e1; omega)]; exact e6
            · rw [World.cell?_setCell_other (a := ⟨w1.heap.size + 1, x, none⟩) (b := ⟨w2.heap.size, 0, none⟩) _ _ (by intro e; injection e with e1; omega)]; exact e8
            · show w.heap.size ≤ w1.heap.size + 1
              omega
            · show w1.heap.size ≤ w1.heap.size + 1
              omega
            · refine Af.congr (HQ.out.2.2.set x _) (fun j _ => ?_)
              unfold upd
              rw [HT.out]
              rw [HX.out]
              by_cases e : j = x
              · subst e; have hk0 : k = 0 := by omega
                rw [hk0]; simp
              · simp [e, show ¬ ((x : Int) = (j : Int)) by omega]
          case measure => simp [intOf]; omega
      · have e : k = ul := by omega
        subst e
        go_wp2
        go_ret2
        refine .inr ⟨HM.out, .slice (some ⟨w1.heap.size + 1, 0, none⟩) n n, D, rfl, HD.out.1, by rw [← HUL.out]; exact HD.out.2.1, ?_, ?_, HQ.out.1⟩
        · refine HQ.out.2.2.ri (by rw [lensOf_length, Hn.out]) (Nat.le_refl _) (fun j hj => ?_)
          rw [lensOf_getD O D _ j (by have := Hn.out; omega), if_pos (by have := HUL.out; omega), List.take_of_length_le (by have := HUL.out; omega)]
        · intro a n c h
          injection h with h1
          have := Option.some.inj h1
          subst this
          show w.heap.size ≤ w1.heap.size + 1
          omega

end Go.Proofs.YtcgjmkcigmmjjaaGreatDoor

namespace Go.Proofs.YtcgjmkcigmmjjaaGreatDoor
open Go.RowKit Go.Shelf
/-- What is known between two rounds: book-keeping does away with none of it. -/
structure Abides (B : Nat) (J : Nat → World → Prop) : Prop where
  put : ∀ k W l o o', J k W → B ≤ l → W.heap[l]? = some o → o.isCells = false → J k (W.putObj l o')
  more : ∀ k W o, J k W → J k (W.alloc o)

theorem range_rounds {F : Fence} {n : Nat} {P : Program} {g : Operand} {ps : Array Tmp} {assign body : Code} {Q : Exit → Act → World → Prop} {a : Act} {w : World}
    (hro : F.round = none) (h1 : 1 ≤ n) {gf : Nat} {lb : Array Value} (hg : a.eval g = .func (.func gf) #[] lb) (hF : F.fn gf) (eg : Enters P gf)
    (J : Nat → World → Prop) (m : Nat) (arg : Nat → Array Value) (hps : ∀ k, (arg k).size = ps.size) (hJ : Abides w.heap.size J) (h0 : J 0 w)
    (hiter : ∀ (l : Nat) (K : Nat → World → Prop), (∀ k W, K k W → J k W) → (∀ k W, K k W → k < m → YieldAt F (n - 1 - 1) P l (arg k) W fun e W' => e = .returned (.bool true) ∧ K (k + 1) W') →
      ∀ W, K 0 W → CallsIn F (n - 1) P gf (#[.func (.yield l) #[] #[]] ++ lb) W fun e W' => (∃ v, e = .returned v) ∧ K m W')
    (hround : ∀ (l k : Nat) (W : World), k < m → J k W → ∃ a₁ : Act,
      (∀ (W : World) (K : Act → World → Prop), K a₁ W → assign.wpIn (F.inRound l) (n - 1 - 1) P (Exit.then K (fun _ _ _ => False)) { tmps := (ps.zip (arg k)).foldl (fun t (p, v) => t.setIfInBounds p v) a.tmps, defers := [] } W) ∧
      ∀ W, J k W → body.wpIn (F.inRound l) (n - 1 - 1) P (fun e _ W' => e = .normal ∧ KeepsOthers W W' ∧ J (k + 1) W') a₁ W)
    (hdone : ∀ (D : Nat) (W : World), w.heap.size ≤ D → J m W → W.heap[D]? = some (.deferred (some [])) → Q .normal { a with defers := { target := .collected D, args := #[] } :: a.defers } W) :
    (Code.rangeFunc g ps assign body).wpIn F n P Q a w := by
  refine wpIn_rangeFunc fun fn hfn => ?_
  let rec0 : LoopState → Loop := fun st => { state := st, pending := none, fn, tmps := a.tmps, params := ps, assign, body, defers := w.heap.size }
  let W1 : World := (w.alloc (.deferred (some []))).alloc (.loop (rec0 .ready))
  let l := w.heap.size + 1
  have b1 : W1.heap[l]? = some (.loop (rec0 .ready)) := by
    have := World.alloc_heap_new (w.alloc (.deferred (some []))) (.loop (rec0 .ready))
    rwa [World.size_alloc] at this
  have b2 : W1.heap[w.heap.size]? = some (.deferred (some [])) := (Below.heap_alloc _ _ _ (by simp)).trans (World.alloc_heap_new w _)
  let K : Nat → World → Prop := fun k W => J k W ∧ W.heap[l]? = some (.loop (rec0 .ready)) ∧ W.heap[w.heap.size]? = some (.deferred (some []))
  have k0 : K 0 W1 := ⟨hJ.more _ _ _ (hJ.more _ _ _ h0), b1, b2⟩
  refine ⟨l, [{ target := .collected w.heap.size, args := #[] }], W1, { target := .fn (.func gf) lb, args := #[.func (.yield l) #[] #[]] }, W1, gf, #[.func (.yield l) #[] #[]] ++ lb, W1, ?_, ?_, ?_, ?_, fun _ => h1, ?_⟩
  · rw [hro]; exact run_enterLoop_outer _ _ _ _ _
  · simp only [resolve, hg]
    simp [go_sem]
  · intro f' hf'
    simp [Target.leads] at hf'
    subst hf'
    exact hF
  · simp [invoke, go_sem]
    exact eg _ _
  · refine (hiter l K (fun _ _ h => h.1) (fun k W hK hk => ?_) W1 k0).mono ?_
    · obtain ⟨hj, hl, hd⟩ := hK
      obtain ⟨a₁, ha, hb⟩ := hround l k W hk hj
      have hlt : l < W.heap.size := (Array.getElem?_eq_some_iff.1 hl).1
      have hbl : w.heap.size ≤ l := Nat.le_succ _
      have hne : l ≠ w.heap.size := by show w.heap.size + 1 ≠ w.heap.size; omega
      refine ⟨fn, _, assign, body, run_yield (P := P) (args := arg k) hl (hps k), roundIn_of_wpIn hfn (ha W _ ⟨_, run_beginRound hl rfl, ?_⟩)⟩
      have hl2 : (W.putObj l (.loop (rec0 .busy))).heap[l]? = some (.loop (rec0 .busy)) := World.putObj_heap_same hlt
      have hd2 : (W.putObj l (.loop (rec0 .busy))).heap[w.heap.size]? = some (.deferred (some [])) := (World.putObj_heap_other hne.symm).trans hd
      refine wpIn_mono (hb _ (hJ.put k W l _ _ hj hbl hl rfl)) ?_
      rintro e a3 W3 ⟨rfl, hk3, hj3⟩
      have hl3 := hk3.same _ _ hl2 rfl
      have hd3 := hk3.same _ _ hd2 rfl
      exact ⟨_, _, run_endRound (P := P) none hl3, rfl, hJ.put (k + 1) W3 l _ _ hj3 hbl hl3 rfl, World.putObj_heap_same (Array.getElem?_eq_some_iff.1 hl3).1, (World.putObj_heap_other hne.symm).trans hd3⟩
    · rintro e W2 ⟨⟨v, rfl⟩, hj, hl, hd⟩
      have hne : l ≠ w.heap.size := by show w.heap.size + 1 ≠ w.heap.size; omega
      exact ⟨none, _, run_endLoop (P := P) hl (fun h => by cases h), hdone w.heap.size _ (Nat.le_refl _) (hJ.put m W2 l _ _ hj (Nat.le_succ _) hl rfl) ((World.putObj_heap_other hne.symm).trans hd)⟩

end Go.Proofs.YtcgjmkcigmmjjaaGreatDoor

namespace Go.Proofs.YtcgjmkcigmmjjaaGreatDoor
open Go.RowKit Go.Shelf
set_option maxRecDepth 100000
attribute [local go_sem] Oper.semAt_some

theorem backward_any (a : Option Addr) (n c : Nat) (w : World) :
    Calls Tryz.prog 99 #[.slice a n c] w fun e w' => e = .returned (.func (.func 104) #[] #[.pointer (some ⟨w.heap.size, 0, none⟩)]) ∧ w' = w.alloc (.cells #[.slice a n c] 146) := by
  go_enter Tryz.func99, Tryz.ntmps99
  go_wp2
  go_ret
  exact ⟨rfl, rfl⟩

set_option maxHeartbeats 2000000 in
theorem back_in (F : Fence) (n : Nat) (hf : F.fn 104) (hro : F.round = none) (hn : 1 ≤ n) (l B T m : Nat) (hm : m ≤ 1000) (g : Nat → Value) (K : Nat → World → Prop)
    (hK : ∀ k W, K k W → W.cell? ⟨B, 0, none⟩ = some (.slice (some ⟨T, 0, none⟩) m m) ∧ ∀ j, j < m → W.cell? ⟨T, j, none⟩ = some (g j))
    (hY : ∀ k W, K k W → k < m → YieldAt F (n - 1) Tryz.prog l #[.int .i64 ((m : Int) - 1 - (k : Int)), g (m - 1 - k)] W fun e W' => e = .returned (.bool true) ∧ K (k + 1) W') (W : World) (h0 : K 0 W) :
    CallsIn F n Tryz.prog 104 #[.func (.yield l) #[] #[], .pointer (some ⟨B, 0, none⟩)] W fun e W' => (∃ v, e = .returned v) ∧ K m W' := by
  have HK := hidden hK
  have HY := hidden hY
  have hc0 := (hK 0 W h0).1
  clear hK hY
  refine callsIn_of_wp Tryz.func104 rfl hf ?_ hro
  simp only [Tryz.ntmps104, List.size_toArray, List.length_cons, List.length_nil, Nat.reduceAdd, Nat.reduceSub, Array.replicate_succ, Array.replicate_zero, List.push_toArray, List.append_toArray, List.nil_append, List.cons_append]
  gi_wp2
  gi_loopw [3] (fun i wr => ∃ k : Nat, k ≤ m ∧ i = .int .i64 ((m : Int) - 1 - (k : Int)) ∧ Hid (K k wr)) (fun i _ => ((intOf i) + 1).toNat)
  case atStart => exact ⟨0, Nat.zero_le _, by go_num, h0⟩
  case round =>
    obtain ⟨k, hk, rfl, hJ⟩ := hrel
    have hc := (HK.out k wr hJ.out).1
    by_cases hlt : k < m
    · have hg := (HK.out k wr hJ.out).2 (m - 1 - k) (by omega)
      obtain ⟨fn, tmps, assign, body, hy, hR⟩ := HY.out k wr hJ.out hlt
      have e1 : ((m : Int) - 1 - (k : Int)).toNat = m - 1 - k := by omega
      have h0' : 0 ≤ (m : Int) - 1 - (k : Int) := by omega
      have h1' : (m : Int) - 1 - (k : Int) < (m : Int) := by omega
      have HR := hidden hR
      clear hR
      gi_wp2
      refine HR.out.mono ?_
      rintro e W3 ⟨rfl, hJ3⟩
      have HJ3 := hidden hJ3
      clear hJ3
      gi_wp2
      go_roundw
      case rel => exact ⟨k + 1, by omega, by go_num, HJ3.out⟩
      case measure => simp [intOf]; omega
    · have e : k = m := by omega
      subst e
      have h0' : ¬ 0 ≤ (k : Int) - 1 - (k : Int) := by omega
      gi_wp2
      go_end0
      exact ⟨⟨_, rfl⟩, hJ.out⟩

end Go.Proofs.YtcgjmkcigmmjjaaGreatDoor

namespace Go.Proofs.YtcgjmkcigmmjjaaGreatDoor
open Go.RowKit Go.Shelf
/-- Where all lies. -/
structure At where
  (m n ul uc b6 bu ou bl b8 bt B T : Nat)
  g : Nat → Value

/-- In this order. -/
structure At.Ok (x : At) : Prop where
  h1 : x.bu < x.b6
  h2 : x.b6 < x.bl
  h3 : x.bl < x.b8
  h4 : x.b8 < x.bt
  h5 : x.bt < x.T
  h6 : x.bt < x.B

/-- What is known while rounds go: the lengths so far are f, and t things are to be taken. -/
structure LB (x : At) (D Wt : List Int) (w : World) (f : Nat → Int) (t : Nat) (W : World) : Prop where
  c6 : W.cell? ⟨x.b6, 0, none⟩ = some (.slice (some ⟨x.bu, x.ou, none⟩) x.ul x.uc)
  cu : ∀ s, s < x.ul → W.cell? ⟨x.bu, x.ou + s, none⟩ = some (.int .i64 (D.getD s 0))
  c8 : W.cell? ⟨x.b8, 0, none⟩ = some (.slice (some ⟨x.bl, 0, none⟩) x.n x.n)
  al : Af W x.bl x.n f
  ct : W.cell? ⟨x.bt, 0, none⟩ = some (.int .i64 (t : Int))
  ft : W.frozen? ⟨x.bt, 0, none⟩ = false
  cB : W.cell? ⟨x.B, 0, none⟩ = some (.slice (some ⟨x.T, 0, none⟩) x.m x.m)
  ro : ∀ j, j < x.m → W.cell? ⟨x.T, j, none⟩ = some (x.g j) ∧ ∃ b, x.bt < b ∧ x.g j = .slice (some ⟨b, 0, none⟩) (told Wt j).length (told Wt j).length ∧ ∀ k, k < (told Wt j).length → W.cell? ⟨b, k, none⟩ = some (.bool ((told Wt j).getD k false))
  st : Step (fun _ => False) w W

theorem LB.keep {x : At} {D Wt : List Int} {w : World} {f : Nat → Int} {t : Nat} {W W' : World} (h : LB x D Wt w f t W)
    (hc : ∀ p v, W.cell? p = some v → W'.cell? p = some v ∧ W'.frozen? p = W.frozen? p) (hs : Step (fun _ => False) w W') : LB x D Wt w f t W' :=
  ⟨(hc _ _ h.c6).1, fun s hs => (hc _ _ (h.cu s hs)).1, (hc _ _ h.c8).1, fun i hi => ⟨(hc _ _ (h.al i hi).1).1, (hc _ _ (h.al i hi).1).2.trans (h.al i hi).2⟩, (hc _ _ h.ct).1, (hc _ _ h.ct).2.trans h.ft, (hc _ _ h.cB).1,
    fun j hj => ⟨(hc _ _ (h.ro j hj).1).1, by obtain ⟨b, e0, e, hb⟩ := (h.ro j hj).2; exact ⟨b, e0, e, fun k hk => (hc _ _ (hb k hk)).1⟩⟩, hs⟩

theorem LB.congr {x : At} {D Wt : List Int} {w : World} {f f' : Nat → Int} {t t' : Nat} {W : World} (h : LB x D Wt w f t W) (hf : ∀ i, i < x.n → f i = f' i) (ht : t = t') : LB x D Wt w f' t' W := by
  subst ht
  exact ⟨h.c6, h.cu, h.c8, h.al.congr hf, h.ct, h.ft, h.cB, h.ro, h.st⟩

theorem LB.drew {x : At} {D Wt : List Int} {w : World} {f : Nat → Int} {t : Nat} {W : World} (h : LB x D Wt w f t W) : LB x D Wt w f t W.drew := ⟨h.c6, h.cu, h.c8, h.al, h.ct, h.ft, h.cB, h.ro, h.st.drew⟩

theorem far_cell {W : World} {q : Addr} {u v : Value} {b o : Nat} (h : W.cell? ⟨b, o, none⟩ = some v) (hq : q.block ≠ b) : (W.setCell q u).cell? ⟨b, o, none⟩ = some v := by
  rw [World.cell?_setCell_other (a := q) (b := ⟨b, o, none⟩) _ _ (by intro e; apply hq; rw [e])]
  exact h

theorem LB.set {x : At} {D Wt : List Int} {w : World} {f : Nat → Int} {t : Nat} {W : World} (h : LB x D Wt w f t W) (ok : x.Ok) (hw : w.heap.size ≤ x.bl) (i : Nat) (v : Int) : LB x D Wt w (upd f i v) t (W.setCell ⟨x.bl, i, none⟩ (.int .i64 v)) := by
  obtain ⟨h1, h2, h3, h4, h5, h6⟩ := ok
  refine ⟨far_cell h.c6 ?_, fun s hs => far_cell (h.cu s hs) ?_, far_cell h.c8 ?_, h.al.set i v, far_cell h.ct ?_, by rw [World.frozen?_setCell]; exact h.ft, far_cell h.cB ?_, fun j hj => ⟨far_cell (h.ro j hj).1 ?_, ?_⟩, h.st.setCell _ _ (.inr hw)⟩
  · show x.bl ≠ x.b6; omega
  · show x.bl ≠ x.bu; omega
  · show x.bl ≠ x.b8; omega
  · show x.bl ≠ x.bt; omega
  · show x.bl ≠ x.B; omega
  · show x.bl ≠ x.T; omega
  · obtain ⟨b, e0, e, hb⟩ := (h.ro j hj).2
    exact ⟨b, e0, e, fun k hk => far_cell (hb k hk) (by show x.bl ≠ b; omega)⟩

theorem LB.put {x : At} {D Wt : List Int} {w : World} {f : Nat → Int} {t : Nat} {W : World} (h : LB x D Wt w f t W) (ok : x.Ok) (hw : w.heap.size ≤ x.bl) (t' : Nat) : LB x D Wt w f t' (W.setCell ⟨x.bt, 0, none⟩ (.int .i64 (t' : Int))) := by
  obtain ⟨h1, h2, h3, h4, h5, h6⟩ := ok
  refine ⟨far_cell h.c6 ?_, fun s hs => far_cell (h.cu s hs) ?_, far_cell h.c8 ?_, h.al.far _ _ ?_, World.cell?_setCell_same' _ _ _ (by rw [h.ct]; rfl), by rw [World.frozen?_setCell]; exact h.ft, far_cell h.cB ?_, fun j hj => ⟨far_cell (h.ro j hj).1 ?_, ?_⟩, h.st.setCell _ _ (.inr (by show w.heap.size ≤ x.bt; omega))⟩
  · show x.bt ≠ x.b6; omega
  · show x.bt ≠ x.bu; omega
  · show x.bt ≠ x.b8; omega
  · show x.bt ≠ x.bl; omega
  · show x.bt ≠ x.B; omega
  · show x.bt ≠ x.T; omega
  · obtain ⟨b, e0, e, hb⟩ := (h.ro j hj).2
    exact ⟨b, e0, e, fun k hk => far_cell (hb k hk) (by show x.bt ≠ b; omega)⟩

/-- Between two rounds. -/
def LI (x : At) (D Wt : List Int) (w : World) (k : Nat) (W : World) : Prop := LB x D Wt w (fun i => lf D Wt x.m k i) (tk Wt x.m k) W

theorem LI.abides (x : At) (D Wt : List Int) (w : World) (X : Nat) (hX : w.heap.size ≤ X) : Abides X (LI x D Wt w) where
  put k W l o o' h hl ho hc := by
    have hr : ∀ r, some l = some r → ∃ o : Obj, W.heap[r]? = some o ∧ o.isCells = false := fun r e => by cases e; exact ⟨o, ho, hc⟩
    refine LB.keep h (fun p v hp => ⟨cell_kept hp (grownBy_putObj' W l o') hr, frozen_kept hp (grownBy_putObj' W l o') hr⟩) ?_
    exact h.st.grown (grownBy_putObj' W l o') (fun r e => by cases e; exact .inr (by omega))
  more k W o h := by
    have hr : ∀ r, (none : Option Nat) = some r → ∃ o : Obj, W.heap[r]? = some o ∧ o.isCells = false := fun r e => by cases e
    exact LB.keep h (fun p v hp => ⟨cell_kept hp (World.grownBy_alloc W o none) hr, frozen_kept hp (World.grownBy_alloc W o none) hr⟩) (h.st.alloc o)

end Go.Proofs.YtcgjmkcigmmjjaaGreatDoor

namespace Go.Proofs.YtcgjmkcigmmjjaaGreatDoor
open Go.RowKit Go.Shelf
set_option maxRecDepth 100000
attribute [local go_sem] Oper.semAt_some

theorem tell_le (W : List Int) (k : Nat) : (told W k).length ≤ 2 * W.length := by
  have := prs_length W k
  rw [told_length]
  omega

theorem wt_getD (O D : List Int) (k j : Nat) (hj : j < k) (hk : k = D.length) : (D.map (key O)).getD j 0 = if j < k then key O (D.getD j 0) else 0 := by
  have : j < D.length := by omega
  simp [List.getD, hj, this]

set_option maxHeartbeats 4000000 in
theorem len_many (v : Value) (O : List Int) (m : Nat) (w : World) (h : Ri w v O) (hl : O.length ≤ 9223372036854775807) (hS : ∀ n, n = (posTo O O.length).length → SortOk n) (hm : mayB O (m : Int) = true) (hf : 2 ≤ (posTo O O.length).length) :
    Calls Tryz.prog 89 #[v, .int .i64 (m : Int)] w (LenP O (m : Int) w) := by
  have HR := hidden (rare_any v O m w h hl hS)
  have HV := hidden h
  have HM := hidden hm
  have hmm := (mayB_iff O m).1 hm
  have h320 : O.length ≤ 320 := hmm.1
  have hm1 : 1 ≤ m := by omega
  have hm15 : m ≤ 15 := by omega
  have HO := hidden ((oftB_iff O).1 hmm.2.2.2.1)
  have HP := hidden (show (posTo O O.length).length ≤ 2 ^ m by have := hmm.2.2.2.2; simpa using this)
  obtain ⟨ao, cap, rfl, hcap, v1, v2⟩ := h
  have HV1 := hidden v1
  have HV2 := hidden v2
  clear hm hS hmm v1 v2
  obtain ⟨n, hn⟩ : ∃ n, n = O.length := ⟨_, rfl⟩
  have Hn := hidden hn
  rw [← hn] at hl hcap HR HV h320 ⊢
  clear hn
  refine (callsIn_wide (n := 8)).1 ?_
  refine callsIn_of_wp_marks Tryz.func89 rfl trivial ?_ rfl
  simp only [Tryz.ntmps89, List.size_toArray, List.length_cons, List.length_nil, Nat.reduceAdd, Nat.reduceSub, Array.replicate_succ, Array.replicate_zero, List.push_toArray, List.append_toArray, List.nil_append, List.cons_append]
  refine wpIn_wide.2 ?_
  go_wp2_with (go_at_call 98; refine HR.out.mono ?_)
  rintro e w1 (⟨h1, _⟩ | ⟨_, u, D, rfl, d1, d2, d3, d4, d5⟩)
  · rw [HM.out] at h1; cases h1
  · have hDl : 2 ≤ D.length := by rw [d1.length_eq]; exact hf
    have hDm : D.length ≤ 2 ^ m := by rw [d1.length_eq]; exact HP.out
    have hDn : D.length ≤ n := by rw [d1.length_eq]; have := posTo_length O O.length; have := Hn.out; omega
    have HD := hidden (And.intro d1 (And.intro d2 d4))
    have HIN := hidden (show InO O D from (posTo_in O O.length (Nat.le_refl _)).perm d1)
    obtain ⟨uo, uc, hu, huc, hu1, hu2⟩ := d3
    cases uo with
    | none => have := (hu1 rfl).1; subst this; simp at hDl
    | some p =>
      obtain ⟨bu, ou, rfl, hcu⟩ := hu2 p rfl (by intro e; subst e; simp at hDl)
      have hbu0 : w.heap.size ≤ bu := d4 _ _ _ hu
      have hbu1 : bu < w1.heap.size := World.block_lt_of_cell? w1 _ (hcu 0 (by omega))
      have HCU := hidden hcu
      rw [hu]
      have HS1 := hidden d5
      clear hf d1 d2 d4 hu hu1 hu2 hcu
      obtain ⟨ul, hul⟩ : ∃ ul, ul = D.length := ⟨_, rfl⟩
      have HUL := hidden hul
      rw [← hul] at hDl hDm hDn huc HCU ⊢
      clear hul
      go_wp2_with (refine makeInts n _ rfl rfl rfl (by omega) ?_)
      intro w2 hs2 hz2 ha2
      have c6 := hs2.cell (box_cell w1 (.slice (some ⟨bu, ou, none⟩) ul uc) 30) (fun h => h)
      simp only [World.size_alloc] at hz2 ha2
      have hz1 := d5.size
      have HS2 := hidden (show Step (fun _ => False) w w2 from (d5.alloc _).made hs2)
      have HS12 := hidden (show Step (fun _ => False) w1 w2 from ((Step.refl _ w1).alloc _).made hs2)
      have HA2 := hidden ha2
      clear hs2 ha2 d5
      have hul2 : (2 : Int) ≤ (ul : Int) := by omega
      have hz3 : w1.heap.size < w2.heap.size := by omega
      go_wp2_with (refine makeInts ul _ rfl rfl rfl (by omega) ?_)
      intro w3 hs3 hz4 ha3
      have c8 := hs3.cell (box_cell w2 (.slice (some ⟨w1.heap.size + 1, 0, none⟩) n n) 30) (fun h => h)
      have d6 := hs3.cell ((World.cell?_alloc_past (w := w2) (.cells #[.slice (some ⟨w1.heap.size + 1, 0, none⟩) n n] 30) w1.heap.size 0 hz3).trans c6) (fun h => h)
      simp only [World.size_alloc] at hz4 ha3
      have HS3 := hidden (show Step (fun _ => False) w w3 from (HS2.out.alloc _).made hs3)
      have HS13 := hidden (show Step (fun _ => False) w1 w3 from (HS12.out.alloc _).made hs3)
      have HA3 := hidden (And.intro ((HA2.out.made ((Step.refl _ w2).alloc _)).made hs3) ha3)
      clear hs3 ha3 c6 HA2 HS2 HS12
      go_wp2
      go_loopw [12, 13, 50] (fun _ _ i wr => ∃ k : Nat, k ≤ ul ∧ i = .int .i64 k ∧ wr.cell? ⟨w1.heap.size, 0, none⟩ = some (.slice (some ⟨bu, ou, none⟩) ul uc) ∧ wr.cell? ⟨w2.heap.size, 0, none⟩ = some (.slice (some ⟨w1.heap.size + 1, 0, none⟩) n n) ∧ w3.heap.size ≤ wr.heap.size ∧
        Hid (Step (fun _ => False) w wr ∧ Step (fun _ => False) w1 wr ∧ Af wr (w1.heap.size + 1) n (fun _ => 0) ∧ Af wr (w2.heap.size + 1) ul (fun j => if j < k then key O (D.getD j 0) else 0))) (fun _ _ i _ => ul - (intOf i).toNat)
      case atStart => exact ⟨0, Nat.zero_le _, rfl, d6, c8, Nat.le_refl _, HS3.out, HS13.out, HA3.out.1, HA3.out.2.congr (fun j _ => by simp)⟩
      case round =>
        obtain ⟨k, hk, rfl, e6, e8, hzr, hrest⟩ := hrel
        obtain ⟨q1, q2, q3, q4⟩ := hrest.out
        have HQ := hidden (And.intro q1 (And.intro q2 (And.intro q3 q4)))
        clear hrest c8 d6
        by_cases hlt : k < ul
        · have hkD : k < D.length := by have := HUL.out; omega
          obtain ⟨x, hx, hxO⟩ := HIN.out.at hkD
          have cu := q2.cell (HCU.out k (by have := HUL.out; omega)) (fun h => h)
          rw [hx] at cu
          have hxn : x < n := by have := Hn.out; omega
          cases ao with
          | none => have := (HV1.out rfl).1; subst this; simp at hxO
          | some av =>
            obtain ⟨ba, oa, rfl, ka⟩ := HV2.out av rfl (by intro e; subst e; simp at hxO)
            have ca := q1.cell (ka x hxO) (fun h => h)
            have HK := hidden (show key O (D.getD k 0) = O.getD x 0 by rw [hx]; simp [key])
            obtain ⟨f1, f2⟩ := q4 k hlt
            have k1 : (k : Int) < (ul : Int) := by omega
            have k2 : (x : Int) < (n : Int) := by omega
            generalize O.getD x 0 = kv at *
            clear ka hx q1 q2 q3 q4
            go_wp2
            go_roundw
            case rel =>
              refine ⟨k + 1, by omega, by go_num, ?_, ?_, ?_, (HQ.out.1.setCell _ _ (.inr ?_)), (HQ.out.2.1.setCell _ _ (.inr ?_)), HQ.out.2.2.1.far _ _ ?_, ?_⟩
              · rw [World.cell?_setCell_other (a := ⟨w2.heap.size + 1, k, none⟩) (b := ⟨w1.heap.size, 0, none⟩) _ _ (by intro e; injection e with e1; omega)]; exact e6
              · rw [World.cell?_setCell_other (a := ⟨w2.heap.size + 1, k, none⟩) (b := ⟨w2.heap.size, 0, none⟩) _ _ (by intro e; injection e with e1; omega)]; exact e8
              · simp [World.setCell]; omega
              · show w.heap.size ≤ w2.heap.size + 1
                omega
              · show w1.heap.size ≤ w2.heap.size + 1
                omega
              · show w2.heap.size + 1 ≠ w1.heap.size + 1
                omega
              · refine Af.congr (HQ.out.2.2.2.set k _) (fun j _ => ?_)
                unfold upd
                by_cases e : j = k
                · subst e; rw [if_pos rfl, if_pos (Nat.lt_succ_self _), HK.out]
                · by_cases e2 : j < k
                  · simp [e, e2, show j < k + 1 by omega]
                  · simp [e, e2, show ¬ j < k + 1 by omega]
            case measure => simp [intOf]; omega
        · have e : k = ul := by omega
          subst e
          obtain ⟨Wt, hWt⟩ : ∃ Wt, Wt = D.map (key O) := ⟨_, rfl⟩
          have hWl : Wt.length = k := by rw [hWt, List.length_map, HUL.out]
          have HW := hidden (show Ri wr (.slice (some ⟨w2.heap.size + 1, 0, none⟩) k k) Wt from q4.ri hWl (Nat.le_refl _) (fun j hj => by rw [hWt]; exact wt_getD O D k j hj HUL.out))
          have HWB := hidden (show ∀ x ∈ Wt, 0 ≤ x ∧ x ≤ 1048576 by
            intro x hx
            rw [hWt] at hx
            obtain ⟨y, hy, rfl⟩ := List.mem_map.1 hx
            have := HIN.out y hy
            refine HO.out _ ?_
            unfold key
            rw [getD_i O _ this.2]
            exact List.getElem_mem _)
          have HWT := hidden (And.intro hWt hWl)
          clear hWt hWl q1 q2 q3 q4 HA3 HS3 HS13
          have hzw : w3.heap.size ≤ wr.heap.size := hzr
          have HRW := hidden (fun (W : World) (hs : Step (fun _ => False) wr W) => rows_any _ Wt m W (HW.out.made hs) (by have := HWT.out.2; omega) hm15 HWB.out)
          go_wp2_with (go_at_call 100; refine (HRW.out _ ((Step.refl _ _).alloc _)).mono ?_; rintro e w5 ⟨T, rfl, t1, t2, t3, t4⟩; have HT := hidden (And.intro t3 t4); clear t3 t4)
          go_wp2_with (go_at_call 99; refine (backward_any _ _ _ _).mono ?_; rintro e w6 ⟨rfl, rfl⟩)
          simp only [World.size_alloc] at t1
          obtain ⟨g, hg⟩ : ∃ g : Nat → Value, g = fun j => (w5.cell? ⟨T, j, none⟩).getD undef := ⟨_, rfl⟩
          obtain ⟨x, hx⟩ : ∃ x : At, x = ⟨m, n, k, uc, w1.heap.size, bu, ou, w1.heap.size + 1, w2.heap.size, wr.heap.size, w5.heap.size, T, g⟩ := ⟨_, rfl⟩
          have hok : x.Ok := by rw [hx]; exact ⟨hbu1, by show w1.heap.size < w1.heap.size + 1; omega, by show w1.heap.size + 1 < w2.heap.size; omega, by show w2.heap.size < wr.heap.size; omega, by show wr.heap.size < T; omega, by show wr.heap.size < w5.heap.size; omega⟩
          have hxl : w.heap.size ≤ x.bl := by rw [hx]; show w.heap.size ≤ w1.heap.size + 1; omega
          have HL0 := hidden (show LI x D Wt w 0 (w5.alloc (.cells #[.slice (some ⟨T, 0, none⟩) m m] 146)) by
            have sA : Step (fun _ => False) wr w5 := ((Step.refl _ wr).alloc _).made HT.out.2
            have sB : Step (fun _ => False) wr (w5.alloc (.cells #[.slice (some ⟨T, 0, none⟩) m m] 146)) := sA.alloc _
            have sC := (Step.refl (fun _ => False) w5).alloc (.cells #[.slice (some ⟨T, 0, none⟩) m m] 146)
            have ctk := sC.cell (HT.out.2.cell (box_cell wr (.int .i64 (2 * (k : Int) - 2)) 3) (fun h => h)) (fun h => h)
            have ftk : (w5.alloc (.cells #[.slice (some ⟨T, 0, none⟩) m m] 146)).frozen? ⟨wr.heap.size, 0, none⟩ = false := by
              rw [(((Step.refl (fun _ => False) _).made HT.out.2).alloc _).frozen (p := ⟨wr.heap.size, 0, none⟩) (by simp) (fun h => h)]
              exact World.frozen?_alloc_at _ _ _ _ rfl
            rw [hx]
            refine ⟨sB.cell e6 (fun h => h), fun s hs => (sB.cell (HQ.out.2.1.cell (HCU.out s hs) (fun h => h)) (fun h => h)), sB.cell e8 (fun h => h), HQ.out.2.2.1.made sB, ?_, ftk, box_cell _ _ _, fun j hj => ?_, HQ.out.1.made sB⟩
            · rw [ctk]
              have : (((tk Wt m 0 : Nat)) : Int) = 2 * (k : Int) - 2 := by
                show ((2 * Wt.length - 2 : Nat) : Int) = _
                have := HWT.out.2
                omega
              rw [this]
            · obtain ⟨u, h1, h2, h3⟩ := HT.out.1 j hj
              have eg : g j = u := by rw [hg]; simp [h1]
              obtain ⟨b, eb, hb⟩ := h2
              refine ⟨?_, b, ?_, ?_, fun i hi => sC.cell (hb i hi) (fun h => h)⟩
              · show _ = some (g j)
                rw [eg]; exact sC.cell h1 (fun h => h)
              · have := h3 _ _ _ eb
                simp at this
                show wr.heap.size < b
                omega
              · show g j = _
                rw [eg]; exact eb)
          have HX := hidden hx
          have HBT := hidden (show x.bt = wr.heap.size by rw [hx])
          clear hg hx
          refine wpIn_wide.1 (range_rounds (n := 8) rfl (by omega) (gf := 104) (lb := #[.pointer (some ⟨w5.heap.size, 0, none⟩)]) rfl trivial (enters_of Tryz.func104 (by kernel_rfl) rfl)
            (LI x D Wt w) m (fun r => #[.int .i64 ((m : Int) - 1 - (r : Int)), g (m - 1 - r)]) (fun _ => rfl)
            (LI.abides x D Wt w _ (by simp; omega)) HL0.out ?iter ?round ?done)
          case iter =>
            intro l K hKJ hY W h0
            refine back_in Fence.wide 7 trivial rfl (by omega) l w5.heap.size T m (by omega) g K (fun r W h => ?_) hY W h0
            have hq := hKJ r W h
            rw [HX.out] at hq
            exact ⟨hq.cB, fun j hj => (hq.ro j hj).1⟩
          case round =>
            intro l r W0 hr hJ0
            refine ⟨?act, fun W K hK => ?asg, fun W hJ => ?bod⟩
            case asg =>
              gi_wp2
              exact hK
            case bod =>
              have ht := tk_le Wt m (by rw [HWT.out.2]; exact hDm) r hr
              have HJ := hidden hJ
              obtain ⟨_, bj, hbj, egj, hcj⟩ := hJ.ro (m - 1 - r) (by rw [HX.out]; show m - 1 - r < m; omega)
              have ct : W.cell? ⟨wr.heap.size, 0, none⟩ = some (.int .i64 ((tk Wt m r : Nat) : Int)) := by have := hJ.ct; rw [HX.out] at this; exact this
              have egj' : g (m - 1 - r) = .slice (some ⟨bj, 0, none⟩) (told Wt (m - 1 - r)).length (told Wt (m - 1 - r)).length := by rw [HX.out] at egj; exact egj
              have HLE := hidden (tell_le Wt (m - 1 - r))
              rw [egj']
              generalize hlen : (told Wt (m - 1 - r)).length = len at *
              generalize htt : tk Wt m r = t at *
              have HLEN := hidden hlen
              have HTT := hidden htt
              have HEG := hidden egj'
              have hlen2 : len ≤ 700 := by have := HLE.out; have := HWT.out.2; omega
              clear hcj egj egj' hJ hJ0 hlen htt
              gi_wp2
              gi_loopw [17, 19, 77] (fun s _ p W2 => ∃ q : Nat, q ≤ t ∧ p = .int .i64 (q : Int) ∧ s = .int .i64 ((sing Wt (m - 1 - r) q : Nat) : Int) ∧ Hid (LB x D Wt w (fun i => lf D Wt m r i + (((D.take (sing Wt (m - 1 - r) q)).count (i : Int) : Nat) : Int)) t W2 ∧ KeepsOthers W W2)) (fun _ _ p _ => t - (intOf p).toNat)
              case atStart =>
                refine ⟨0, Nat.zero_le _, rfl, rfl, LB.congr HJ.out (fun i _ => ?_) (by rw [HX.out]; exact HTT.out), KeepsOthers.refl _⟩
                rw [sing_zero, HX.out]
                simp
              case round =>
                obtain ⟨q, hq, rfl, rfl, hrest⟩ := hrel
                by_cases hqt : q < t
                · have hqt' : (q : Int) < (t : Int) := by omega
                  obtain ⟨r1, b1, hb1, eg1, hc1⟩ := hrest.out.1.ro (m - 1 - r) (by rw [HX.out]; show m - 1 - r < m; omega)
                  have hbb : b1 = bj := by
                    rw [HX.out] at eg1
                    have h1 : g (m - 1 - r) = _ := eg1
                    rw [HEG.out] at h1
                    injection h1 with h2
                    have h3 := Option.some.inj h2
                    injection h3 with h4
                    exact h4.symm
                  subst hbb
                  have ctd := hc1 q (by rw [HLEN.out]; omega)
                  have d8 : wr.cell? ⟨w2.heap.size, 0, none⟩ = some (.slice (some ⟨w1.heap.size + 1, 0, none⟩) n n) := by have := hrest.out.1.c8; rw [HX.out] at this; exact this
                  have d6 : wr.cell? ⟨w1.heap.size, 0, none⟩ = some (.slice (some ⟨bu, ou, none⟩) k uc) := by have := hrest.out.1.c6; rw [HX.out] at this; exact this
                  clear r1 eg1 hc1
                  cases htd : (told Wt (m - 1 - r)).getD q false with
                  | true =>
                    rw [htd] at ctd
                    have hsy := sing_yes Wt (m - 1 - r) q (by rw [HLEN.out]; omega) htd
                    have HSY := hidden hsy.1
                    have hck : sing Wt (m - 1 - r) q < k := by have := hsy.2; have := HWT.out.2; omega
                    have hkD : sing Wt (m - 1 - r) q < D.length := by have := HUL.out; omega
                    obtain ⟨y, hy, hyO⟩ := HIN.out.at hkD
                    have cu : wr.cell? ⟨bu, ou + sing Wt (m - 1 - r) q, none⟩ = some (.int .i64 (y : Int)) := by
                      have := hrest.out.1.cu (sing Wt (m - 1 - r) q) (by rw [HX.out]; exact hck)
                      rw [HX.out] at this
                      rw [← hy]; exact this
                    have hyn : y < n := by have := Hn.out; omega
                    have hal := hrest.out.1.al y (by rw [HX.out]; exact hyn)
                    have al1 : wr.cell? ⟨w1.heap.size + 1, y, none⟩ = some (.int .i64 (lf D Wt m r y + (((D.take (sing Wt (m - 1 - r) q)).count (y : Int) : Nat) : Int))) := by have := hal.1; rw [HX.out] at this; exact this
                    have al2 : wr.frozen? ⟨w1.heap.size + 1, y, none⟩ = false := by have := hal.2; rw [HX.out] at this; exact this
                    have lb := lf_bd D Wt m y (by have := HUL.out; omega) r
                    have lb2 := List.count_le_length (a := (y : Int)) (l := D.take (sing Wt (m - 1 - r) q))
                    have lb3 : (D.take (sing Wt (m - 1 - r) q)).length ≤ 320 := by simp; omega
                    have HTS := hidden (fun i => take_count_snoc D (sing Wt (m - 1 - r) q) hkD i)
                    have HY := hidden hy
                    clear hsy hy htd hal
                    generalize hc : sing Wt (m - 1 - r) q = c at *
                    have HC := hidden hc
                    generalize hfv : lf D Wt m r y + (((D.take c).count (y : Int) : Nat) : Int) = fv at *
                    have HFV := hidden hfv
                    have fv0 : 0 ≤ fv := by omega
                    have fv1 : fv ≤ 100000 := by omega
                    have hc320 : c ≤ 320 := by omega
                    have hck' : (c : Int) < (k : Int) := by omega
                    have hyn' : (y : Int) < (n : Int) := by omega
                    have HFIN := hidden (show LB x D Wt w (fun i => lf D Wt m r i + (((D.take (sing Wt (m - 1 - r) (q + 1))).count (i : Int) : Nat) : Int)) t (wr.setCell ⟨w1.heap.size + 1, y, none⟩ (.int .i64 (fv + 1))).drew ∧ KeepsOthers W (wr.setCell ⟨w1.heap.size + 1, y, none⟩ (.int .i64 (fv + 1))).drew by
                      have h1 := hrest.out.1.set hok hxl y (fv + 1)
                      have e1 : x.bl = w1.heap.size + 1 := by rw [HX.out]
                      rw [e1] at h1
                      refine ⟨(h1.congr (fun i _ => ?_) rfl).drew, (hrest.out.2.trans (KeepsOthers.setCell wr ⟨w1.heap.size + 1, y, none⟩ _)).trans (KeepsOthers.drew _)⟩
                      unfold upd
                      rw [HSY.out, HTS.out, HY.out]
                      by_cases e : i = y
                      · subst e; rw [if_pos rfl, if_pos rfl]; rw [← HFV.out, Int.natCast_add, Int.add_assoc]; rfl
                      · rw [if_neg e, if_neg (by omega), Nat.add_zero])
                    clear lb lb2 lb3 hc hfv
                    gi_wp2
                    gi_region
                    all_goals gi_wp2
                    all_goals exact ⟨⟨q + 1, by omega, by go_num, by rw [HSY.out]; rfl, HFIN.out⟩, by simp [intOf]; omega⟩
                  | false =>
                    rw [htd] at ctd
                    have HSN := hidden (sing_no Wt (m - 1 - r) q (by rw [HLEN.out]; omega) htd)
                    clear htd
                    gi_wp2
                    go_roundw
                    case rel => exact ⟨q + 1, by omega, by go_num, by rw [HSN.out], by rw [HSN.out]; exact hrest.out⟩
                    case measure => simp [intOf]; omega
                · have e : q = t := by omega
                  subst e
                  have d14 : wr.cell? ⟨x.bt, 0, none⟩ = some (.int .i64 (q : Int)) := hrest.out.1.ct
                  have f14 := hrest.out.1.ft
                  have e1 : Hid (x.bt = _) := HBT
                  have hsl := sing_le_t Wt (m - 1 - r) q
                  have HFIN := hidden (show LI x D Wt w (r + 1) (wr.setCell ⟨x.bt, 0, none⟩ (.int .i64 ((2 * (q - sing Wt (m - 1 - r) q) : Nat) : Int))) ∧ KeepsOthers W (wr.setCell ⟨x.bt, 0, none⟩ (.int .i64 ((2 * (q - sing Wt (m - 1 - r) q) : Nat) : Int))) by
                    refine ⟨(hrest.out.1.put hok hxl (2 * (q - sing Wt (m - 1 - r) q))).congr (fun i _ => ?_) ?_, hrest.out.2.trans (KeepsOthers.setCell wr _ _)⟩
                    · rw [HX.out]
                      show _ = lf D Wt m r i + _
                      rw [HTT.out]
                    · rw [HX.out]
                      show _ = 2 * (tk Wt m r - sing Wt (m - 1 - r) (tk Wt m r))
                      rw [HTT.out])
                  rw [HBT.out] at d14 f14 HFIN
                  generalize sing Wt (m - 1 - r) q = c at *
                  have ec : Hid (2 * ((q : Int) - (c : Int)) = ((2 * (q - c) : Nat) : Int)) := by unfold Hid; omega
                  rw [← ec.out] at HFIN
                  gi_wp2
                  exact ⟨HFIN.out.2, HFIN.out.1⟩
          case done =>
            intro Dd W hDd hJ hK
            have c8 : W.cell? ⟨w2.heap.size, 0, none⟩ = some (.slice (some ⟨w1.heap.size + 1, 0, none⟩) n n) := by have := hJ.c8; rw [HX.out] at this; exact this
            have HJ := hidden hJ
            have HDD := hidden hK
            clear hJ hK
            go_wp2
            refine ⟨by simp, .inl ⟨_, _, rfl, run_takeDeferred HDD.out, ?_⟩⟩
            refine ⟨_, results_tmp2 rfl _ _ _, ?_⟩
            have hJ2 := (LI.abides x D Wt w w.heap.size (Nat.le_refl _)).put m W Dd _ (.deferred none) HJ.out (by simp at hDd; omega) HDD.out rfl
            rw [HX.out] at hJ2
            refine .inr ⟨HM.out, .slice (some ⟨w1.heap.size + 1, 0, none⟩) n n, D, rfl, HD.out.1, HD.out.2.1, ?_, ?_, hJ2.st⟩
            · refine Af.ri hJ2.al (by rw [lensOf_length, Hn.out]) (Nat.le_refl _) (fun j hj => ?_)
              rw [lensOf_getD O D _ j (by have := Hn.out; omega), if_neg (by have := HUL.out; omega), ← HWT.out.1, Int.toNat_natCast]
            · intro a n c h
              injection h with h1
              have := Option.some.inj h1
              subst this
              show w.heap.size ≤ w1.heap.size + 1
              omega

end Go.Proofs.YtcgjmkcigmmjjaaGreatDoor

namespace Go.Proofs.YtcgjmkcigmmjjaaGreatDoor
open Go.RowKit
set_option maxRecDepth 100000
set_option maxHeartbeats 1000000 in
theorem starts_any (f : Nat → Int) (w : World) (h0 : ∀ k, 0 ≤ f k) (h1 : ∀ k, f k ≤ 320) :
    Calls Tryz.prog 97 #[.agg (A16 f)] w fun e w' => e = .returned (.agg (A16 (stf f))) ∧ Step (fun _ => False) w w' := by
  have H0 := hidden h0
  have H1 := hidden h1
  clear h0 h1
  go_enter Tryz.func97, Tryz.ntmps97
  go_wp2_with (refine box16 f rfl ?_)
  intro w1 hs1 hz1 ha1
  go_wp2_with (refine alloc16 ?_)
  intro w2 hs2 hz2 ha2
  go_wp2_with (refine alloc16 ?_)
  intro w3 hs3 hz3 ha3
  have HR := hidden (And.intro ((hs1.made hs2).made hs3) (And.intro ((ha1.made hs2).made hs3) (And.intro (ha2.made hs3) ha3)))
  clear hs1 ha1 hs2 ha2 hs3 ha3
  go_wp2
  go_loopw [4] (fun i wr => ∃ k : Nat, k ≤ 15 ∧ i = .int .i64 (k + 1 : Nat) ∧ Hid (Step (fun _ => False) w wr ∧ Af wr w.heap.size 16 f ∧ Af wr w1.heap.size 16 (fun _ => 0) ∧ Af wr w2.heap.size 16 (fun j => if j ≤ k then stf f j else 0))) (fun i _ => 17 - (intOf i).toNat)
  case atStart => exact ⟨0, by omega, rfl, HR.out.1, HR.out.2.1, HR.out.2.2.1, HR.out.2.2.2.congr (fun j _ => by by_cases e : j ≤ 0; (have : j = 0 := by omega); subst this; rfl; simp [e])⟩
  case round =>
    obtain ⟨k, hk, rfl, hrest⟩ := hrel
    obtain ⟨hst, hA, hA0, hF⟩ := hrest.out
    have HS := hidden hst
    have HA := hidden hA
    have HA0 := hidden hA0
    have HF := hidden hF
    clear hst hA hA0 hF hrest
    by_cases hlt : k < 15
    · have c1 := (HF.out k (by omega)).1
      have c2 := (HA.out k (by omega)).1
      have c3 := HF.out (k + 1) (by omega)
      simp only [Nat.le_refl, if_true] at c1
      obtain ⟨c3, c4⟩ := c3
      have b0 := stf_bd' f H0.out H1.out k (by omega)
      have b1 := H0.out k
      have b2 := H1.out k
      have e1 : ((k + 1 : Nat) : Int) = (k : Int) + 1 := by omega
      have HE := hidden (show (stf f k + f k) * 2 = stf f (k + 1) from rfl)
      rw [e1]
      clear e1
      have k1 : (k : Int) + 1 ≤ 15 := by omega
      have k0 : (0 : Int) ≤ (k : Int) := by omega
      go_wp2
      go_region
      go_wp2
      go_roundw
      case rel =>
        refine ⟨k + 1, by omega, by go_num, ?_⟩
        refine ⟨(HS.out.drewN _).setCell _ _ (.inr (by show w.heap.size ≤ w2.heap.size; omega)), HA.out.far _ _ (by show w2.heap.size ≠ w.heap.size; omega), HA0.out.far _ _ (by show w2.heap.size ≠ w1.heap.size; omega), ?_⟩
        refine Af.congr (HF.out.set (k + 1) _) (fun j _ => ?_)
        unfold upd
        by_cases e : j = k + 1
        · subst e; simp [HE.out]
        · by_cases e2 : j ≤ k
          · simp [e, e2, show j ≤ k + 1 by omega]
          · simp [e, e2, show ¬ j ≤ k + 1 by omega]
      case measure => simp [intOf]; omega
    · have e : k = 15 := by omega
      subst e
      go_wp2_with (first | (refine load16 w2.heap.size (stf f) rfl (HF.out.congr (fun j hj => by simp [show j ≤ 15 by omega])) ?_) | (refine store16 w1.heap.size (stf f) (fun _ => 0) rfl rfl HA0.out ?_))
      intro w4 hs4 ha4
      have HR4 := hidden (And.intro (HS.out.trans hs4 (fun i hi => .inr (by omega))) ha4)
      clear hs4 ha4
      go_wp2
      refine bodyPost_ret (v := .agg (A16 (stf f))) ?_ rfl ⟨rfl, HR4.out.1⟩
      have := HR4.out.2.load
      simp [results, Tryz.results97, asAddr, Act.put, this]

end Go.Proofs.YtcgjmkcigmmjjaaGreatDoor

namespace Go.Proofs.YtcgjmkcigmmjjaaGreatDoor
open Go.RowKit
set_option maxRecDepth 100000
set_option maxHeartbeats 1000000 in
theorem codes_any (v : Value) (L : List Int) (w : World) (h : Ri w v L) (hl : L.length ≤ 9223372036854775807) :
    Calls Tryz.prog 88 #[v] w (CodesP L w) := by
  have HC := hidden (count_any v L w h hl)
  have HR := hidden h
  obtain ⟨ao, cap, rfl, hcap, h1, h2⟩ := h
  obtain ⟨n, hn⟩ : ∃ n, n = L.length := ⟨_, rfl⟩
  have Hn := hidden hn
  rw [← hn] at hl hcap HC HR ⊢
  clear h1 h2 hn
  cases hok : okB L with
  | false =>
    have E := hidden hok
    clear hok
    go_enter Tryz.func88, Tryz.ntmps88
    go_wp2_with (go_at_call 95; refine HC.out.mono ?_)
    rintro e w1 ⟨i, rfl, _, hs1⟩
    rw [E.out]
    go_wp2_with (refine alloc16 ?_)
    intro w2 hs2 hz2 ha2
    go_wp2_with (refine store16 _ _ _ rfl rfl ha2 ?_)
    intro w3 hs3 ha3
    have HS := hidden ((hs1.made hs2).trans hs3 (fun i hi => .inr (by have := hs1.size; omega)))
    clear hs1 hs2 hs3 ha2 ha3
    go_wp2
    go_ret2
    exact ⟨.slice none 0 0, by rw [show codeErr L = 1 by simp [codeErr, E.out]]; rfl, by rw [show codesR L = [] by simp [codesR, E.out]]; exact ri_nil _, (fun a n c h => by cases h), HS.out⟩
  | true =>
    have E := hidden hok
    have hL := (okB_iff L).1 hok
    have HL := hidden hL
    have h320 : n ≤ 320 := by rw [Hn.out]; exact hL.1
    clear hok hL
    have hb := fun k => cf_get L k HL.out.1
    have HB := hidden hb
    clear hb
    by_cases hfull : fl (cf L) 16 ≤ 32768
    · have X1 := hidden (show codeErr L = 0 by simp [codeErr, E.out, hfull])
      have X2 := hidden (show codesR L = codes L by simp [codesR, E.out, hfull])
      have hf2 : ¬ 32768 < fl (cf L) 16 := by omega
      clear hfull
      go_enter Tryz.func88, Tryz.ntmps88
      go_wp2_with (go_at_call 95; refine HC.out.mono ?_)
      rintro e w1 ⟨i, rfl, hi, hs1⟩
      rw [hi E.out, E.out]
      clear hi
      go_wp2_with (refine alloc16 ?_)
      intro w2 hs2 hz2 ha2
      go_wp2_with (refine store16 _ _ _ rfl rfl ha2 ?_)
      intro w3 hs3 ha3
      have HS := hidden ((hs1.made hs2).trans hs3 (fun i hi => .inr (by have := hs1.size; omega)))
      have HA := hidden ha3
      clear hs1 hs2 hs3 ha2 ha3
      go_wp2_with (first | (refine load16 _ (cf L) rfl HA.out ?_) | (go_at_call 96; refine (fill_any (cf L) _ (fun k => (HB.out k).1) (fun k => (HB.out k).2)).mono ?_))
      rintro e w4 ⟨rfl, hs4⟩
      have HS4 := hidden (HS.out.made hs4)
      have HA4 := hidden (HA.out.made hs4)
      clear hs4
      generalize fl (cf L) 16 = F at *
      go_wp2_with (first | (refine load16 _ (cf L) rfl HA4.out ?_) | (go_at_call 97; refine (starts_any (cf L) _ (fun k => (HB.out k).1) (fun k => (HB.out k).2)).mono ?_))
      rintro e w5 ⟨rfl, hs5⟩
      have HS5 := hidden (HS4.out.made hs5)
      clear hs5
      go_wp2_with (refine alloc16 ?_)
      intro w6 hs6 hz6 ha6
      go_wp2_with (refine store16 _ _ _ rfl rfl ha6 ?_)
      intro w7 hs7 ha7
      have HS7 := hidden ((HS5.out.made hs6).trans hs7 (fun i hi => .inr (by have := HS5.out.size; omega)))
      have hz7 := hs7.size
      have HA7 := hidden ha7
      clear hs6 hs7 ha6 ha7
      go_wp2_with (refine makeInts n _ rfl rfl rfl (by omega) ?_)
      intro w8 hs8 hz8 ha8
      have HS8 := hidden (HS7.out.made hs8)
      have HA8 := hidden (And.intro (HA7.out.made hs8) ha8)
      have hw0 := HS5.out.size
      clear hs8 ha8 HA7 HS7 HS5 HA4 HS4 HA HS
      go_wp2
      go_loopw [8, 9, 27] (fun _ _ i wr => ∃ k : Nat, k ≤ n ∧ i = .int .i64 k ∧ Hid (Step (fun _ => False) w wr ∧ Af wr w5.heap.size 16 (fun j => stf (cf L) j + cf (L.take k) j) ∧ Af wr w7.heap.size n (fun j => if j < k then codeOf L j else 0))) (fun _ _ i _ => n - (intOf i).toNat)
      case atStart => exact ⟨0, Nat.zero_le _, rfl, HS8.out, HA8.out.1.congr (fun j _ => by simp [cf_nil]), HA8.out.2.congr (fun j _ => by simp)⟩
      case round =>
        obtain ⟨k, hk, rfl, hrest⟩ := hrel
        obtain ⟨hst, hF, hC⟩ := hrest.out
        have HS := hidden hst
        have HF := hidden hF
        have HG := hidden hC
        clear hst hF hC hrest HS8 HA8
        by_cases hlt : k < n
        · have hkL : k < L.length := by have := Hn.out; omega
          have hr := HR.out
          obtain ⟨ao', cap', e', _, r1, r2⟩ := hr
          injection e' with e1 e2 e3
          subst e1
          cases ao with
          | none => have := (r1 rfl).1; subst this; simp at hkL
          | some a =>
            obtain ⟨ba, oa, rfl, ka⟩ := r2 a rfl (by intro e; subst e; simp at hkL)
            have ca := hs_cell HS.out (ka k hkL)
            clear ka r1 r2 e2 e3
            have k1 : (k : Int) < (n : Int) := by omega
            have hin := HL.out.2 (L.getD k 0) (by rw [getD_i L k hkL]; exact List.getElem_mem hkL)
            obtain ⟨x, hx⟩ := Int.eq_ofNat_of_zero_le hin.1
            have hx15 := hin.2
            rw [hx] at ca hx15
            have HX := hidden hx
            clear hx hin
            have HCO := hidden (show codeOf L k = if x = 0 then 0 else stf (cf L) x + cf (L.take k) x by unfold codeOf; rw [HX.out]; by_cases e : x = 0 <;> simp [e])
            have hcell := HG.out k hlt
            obtain ⟨g1, g2⟩ := hcell
            by_cases hz : x = 0
            · subst hz
              have HZ := hidden (fun j => cf_take_zero L k hkL HX.out j)
              clear g1 g2
              go_wp2
              go_roundw
              case rel =>
                refine ⟨k + 1, by omega, by go_num, HS.out, HF.out.congr (fun j _ => by rw [HZ.out]), HG.out.congr (fun j _ => ?_)⟩
                by_cases e : j = k
                · subst e; have := HCO.out; simp at this; simp [this]
                · by_cases e2 : j < k
                  · simp [e2, show j < k + 1 by omega]
                  · simp [e2, show ¬ j < k + 1 by omega]
              case measure => simp [intOf]; omega
            · have hx0 : (0 : Int) < (x : Int) := by omega
              have hx16 : x < 16 := by omega
              have HZ := hidden (fun j => cf_take_snoc L k x hkL HX.out (by omega) j)
              have f1 : wr.cell? ⟨w5.heap.size, x, none⟩ = some (.int .i64 (stf (cf L) x + cf (L.take k) x)) := (HF.out x hx16).1
              have f2 := (HF.out x hx16).2
              have hb := stf_bd' (cf L) (fun k => (HB.out k).1) (fun k => (HB.out k).2) x (by omega)
              have hb2 := cf_bd (L.take k) x
              have hb3 : (L.take k).length ≤ 320 := by simp; omega
              rw [if_neg hz] at HCO
              have HV : Hid (Af wr w7.heap.size n fun j => if j < k then codeOf L j else 0) := HG
              generalize hv : stf (cf L) x + cf (L.take k) x = cv at *
              have hcv0 : 0 ≤ cv := by omega
              have hcv1 : cv ≤ 50000000 := by omega
              have HVV := hidden hv
              clear hv hb hb2
              have hne : w5.heap.size ≠ w7.heap.size := by omega
              go_wp2
              go_roundw
              case rel =>
                refine ⟨k + 1, by omega, by go_num, (HS.out.setCell _ _ (.inr ?_)).setCell _ _ (.inr ?_), ?_, ?_⟩
                · show w.heap.size ≤ w7.heap.size
                  omega
                · show w.heap.size ≤ w5.heap.size
                  omega
                · refine ((HF.out.far ⟨w7.heap.size, k, none⟩ _ (by show w7.heap.size ≠ w5.heap.size; omega)).set x _).congr (fun j _ => ?_)
                  rw [HZ.out]
                  unfold upd
                  by_cases e : j = x
                  · subst e; have := HVV.out; simp; omega
                  · simp [e]
                · refine ((HG.out.set k cv).far ⟨w5.heap.size, x, none⟩ _ (by show w5.heap.size ≠ w7.heap.size; omega)).congr (fun j _ => ?_)
                  unfold upd
                  by_cases e : j = k
                  · subst e; simp [HCO.out]
                  · by_cases e2 : j < k
                    · simp [e, e2, show j < k + 1 by omega]
                    · simp [e, e2, show ¬ j < k + 1 by omega]
              case measure => simp [intOf]; omega
        · have e : k = n := by omega
          subst e
          go_wp2
          go_ret2
          refine ⟨.slice (some ⟨w7.heap.size, 0, none⟩) k k, by rw [X1.out]; rfl, ?_, ?_, HS.out⟩
          · rw [X2.out]
            exact HG.out.ri (by rw [codes_length, Hn.out]) (Nat.le_refl _) (fun j hj => by rw [codes_getD L j (by have := Hn.out; omega)]; simp [hj])
          · intro a n c h
            injection h with h1
            have := Option.some.inj h1
            subst this
            show w.heap.size ≤ w7.heap.size
            omega
    · have X1 := hidden (show codeErr L = 21 by simp [codeErr, E.out, hfull])
      have X2 := hidden (show codesR L = [] by simp [codesR, hfull])
      have hf2 : 32768 < fl (cf L) 16 := by omega
      clear hfull
      go_enter Tryz.func88, Tryz.ntmps88
      go_wp2_with (go_at_call 95; refine HC.out.mono ?_)
      rintro e w1 ⟨i, rfl, hi, hs1⟩
      rw [hi E.out, E.out]
      clear hi
      go_wp2_with (refine alloc16 ?_)
      intro w2 hs2 hz2 ha2
      go_wp2_with (refine store16 _ _ _ rfl rfl ha2 ?_)
      intro w3 hs3 ha3
      have HS := hidden ((hs1.made hs2).trans hs3 (fun i hi => .inr (by have := hs1.size; omega)))
      have HA := hidden ha3
      clear hs1 hs2 hs3 ha2 ha3
      go_wp2_with (first | (refine load16 _ (cf L) rfl HA.out ?_) | (go_at_call 96; refine (fill_any (cf L) _ (fun k => (HB.out k).1) (fun k => (HB.out k).2)).mono ?_))
      rintro e w4 ⟨rfl, hs4⟩
      have HS4 := hidden (HS.out.made hs4)
      clear hs4
      generalize fl (cf L) 16 = F at *
      go_wp2
      go_ret2
      exact ⟨.slice none 0 0, by rw [X1.out]; rfl, by rw [X2.out]; exact ri_nil _, (fun a n c h => by cases h), HS4.out⟩

end Go.Proofs.YtcgjmkcigmmjjaaGreatDoor

namespace Go.Proofs.YtcgjmkcigmmjjaaGreatDoor
open Go.RowKit
set_option maxRecDepth 100000
theorem eq_of_getD_i {A B : List Int} (hl : A.length = B.length) (h : ∀ j, j < A.length → A.getD j 0 = B.getD j 0) : A = B := by
  apply List.ext_getElem hl
  intro j h1 h2
  have := h j h1
  simpa [List.getD, h1, h2] using this

end Go.Proofs.YtcgjmkcigmmjjaaGreatDoor

namespace Go.Proofs.YtcgjmkcigmmjjaaGreatDoor
open Go.RowKit
set_option maxRecDepth 100000
theorem len_any (v : Value) (O : List Int) (m : Int) (w : World) (h : Ri w v O) (hl : O.length ≤ 9223372036854775807) (hS : ∀ n, n = (posTo O O.length).length → SortOk n) :
    Calls Tryz.prog 89 #[v, .int .i64 m] w (LenP O m w) := by
  cases hm : mayB O m with
  | false => exact len_no v O m w h hl hS hm
  | true =>
    by_cases hf : (posTo O O.length).length < 2
    · exact len_few v O m w h hl hS hm hf
    · have := (mayB_iff O m).1 hm
      obtain ⟨M, rfl⟩ := Int.eq_ofNat_of_zero_le (show 0 ≤ m by omega)
      exact len_many v O M w h hl hS hm (by omega)

theorem Ri.lits (w : World) (L : List Int) (t : TypeId) : Ri (w.alloc (.cells (i64s L).toArray t)) (.slice (some ⟨w.heap.size, 0, none⟩) L.length L.length) L := by
  refine ⟨some ⟨w.heap.size, 0, none⟩, L.length, rfl, Nat.le_refl _, fun h => (by cases h), fun a ha _ => ⟨w.heap.size, 0, (Option.some.inj ha).symm, fun k hk => ?_⟩⟩
  have h1 : (i64s L)[k]? = some (.int .i64 (L.getD k 0)) := by rw [i64s_get?]; simp [List.getD, hk]
  rw [Nat.zero_add, World.cell?_alloc_at _ _ _ _ rfl, ← h1]
  simp

theorem known_codes : codesR [2, 1, 3, 3] = [2, 0, 6, 7] ∧ codeErr [2, 1, 3, 3] = 0 := by decide +kernel

theorem known_may : mayB [5, 1, 1] 15 = true := by decide +kernel

theorem known_pos : posTo [5, 1, 1] 3 = [0, 1, 2] := by decide +kernel

theorem known_lens1 : lensOf [5, 1, 1] [1, 2, 0] 15 = [1, 2, 2] := by decide +kernel

theorem known_lens2 : lensOf [5, 1, 1] [2, 1, 0] 15 = [1, 2, 2] := by decide +kernel

theorem known_D (D : List Int) (hp : List.Perm D [0, 1, 2]) (hs : Sr [5, 1, 1] D 0 D.length) : lensOf [5, 1, 1] D 15 = [1, 2, 2] := by
  have hl : D.length = 3 := hp.length_eq
  match D, hl with
  | [a, b, c], _ =>
    have ha : a ∈ ([0, 1, 2] : List Int) := hp.mem_iff.1 (by simp)
    have hb : b ∈ ([0, 1, 2] : List Int) := hp.mem_iff.1 (by simp)
    have hc : c ∈ ([0, 1, 2] : List Int) := hp.mem_iff.1 (by simp)
    have s1 : key [5, 1, 1] a ≤ key [5, 1, 1] b := hs 0 1 (by omega) (by omega) (by simp)
    have s2 : key [5, 1, 1] b ≤ key [5, 1, 1] c := hs 1 2 (by omega) (by omega) (by simp)
    have n1 : List.Nodup [a, b, c] := hp.nodup_iff.2 (by decide)
    simp only [List.mem_cons, List.not_mem_nil, or_false] at ha hb hc
    rcases ha with rfl | rfl | rfl <;> rcases hb with rfl | rfl | rfl <;> rcases hc with rfl | rfl | rfl <;> first
      | (exfalso; revert n1; decide)
      | (exfalso; revert s1; decide)
      | (exfalso; revert s2; decide)
      | exact known_lens1
      | exact known_lens2

end Go.Proofs.YtcgjmkcigmmjjaaGreatDoor

namespace Go.Proofs.YtcgjmkcigmmjjaaGreatDoor
open Go.RowKit
set_option maxRecDepth 100000
set_option linter.unusedVariables false
/-- What stands at k when the first t of two stretches have changed places. -/
def swr (D : List Int) (a b t k : Nat) : Int := if a ≤ k ∧ k < a + t then D.getD (b + (k - a)) 0 else if b ≤ k ∧ k < b + t then D.getD (a + (k - b)) 0 else D.getD k 0

theorem swr_next {D D' : List Int} {a b n t : Nat} (hd : a + n ≤ b ∨ b + n ≤ a) (ht : t < n) (hl : D'.length = D.length) (ha : a + n ≤ D.length) (hb : b + n ≤ D.length) (H : ∀ k, k < D.length → D'.getD k 0 = swr D a b t k) :
    ∀ k, k < D.length → (swp D' (a + t) (b + t)).getD k 0 = swr D a b (t + 1) k := by
  intro k hk
  rw [swp_getD D' _ _ k (by omega) (by omega)]
  have e1 := H (a + t) (by omega)
  have e2 := H (b + t) (by omega)
  have e3 := H k hk
  unfold swr at *
  by_cases k1 : k = b + t
  · subst k1
    rw [if_pos rfl, e1, if_neg (by omega), if_neg (by omega), if_neg (by omega), if_pos (by omega), show a + (b + t - b) = a + t by omega]
  · rw [if_neg k1]
    by_cases k2 : k = a + t
    · subst k2
      rw [if_pos rfl, e2, if_neg (by omega), if_neg (by omega), if_pos (by omega), show b + (a + t - a) = b + t by omega]
    · rw [if_neg k2, e3]
      by_cases i1 : a ≤ k ∧ k < a + t
      · rw [if_pos i1, if_pos (by omega)]
      · rw [if_neg i1, if_neg (show ¬ (a ≤ k ∧ k < a + (t + 1)) by omega)]
        by_cases i2 : b ≤ k ∧ k < b + t
        · rw [if_pos i2, if_pos (by omega)]
        · rw [if_neg i2, if_neg (by omega)]

set_option maxHeartbeats 2000000 in
theorem swapRange_any (g : Nat) (D : List Int) (a b n cap : Nat) (cv : Value) (w : World) (hD : Row w g D) (hd : a + n ≤ b ∨ b + n ≤ a) (ha : a + n ≤ D.length) (hb : b + n ≤ D.length) (hn : D.length ≤ 100000) :
    Calls Tryz.prog 112 #[.slice (some ⟨g, 0, none⟩) D.length cap, .int .i64 (a : Int), .int .i64 (b : Int), .int .i64 (n : Int), cv] w
      fun e w' => (∃ u, e = .returned u) ∧ ∃ D', List.Perm D' D ∧ (∀ k, k < D.length → D'.getD k 0 = swr D a b n k) ∧ Row w' g D' ∧ Step (fun k => k = g) w w' := by
  have HD := hidden hD
  obtain ⟨N, hnn⟩ : ∃ N, N = D.length := ⟨_, rfl⟩
  have Hn := hidden hnn
  rw [← hnn] at ha hb hn ⊢
  clear hD hnn
  go_enter Tryz.func112, Tryz.ntmps112
  go_wp2
  go_loopw [10] (fun i wr => ∃ t : Nat, i = .int .i64 (t : Int) ∧ t ≤ n ∧ Hid (∃ D', List.Perm D' D ∧ (∀ k, k < D.length → D'.getD k 0 = swr D a b t k) ∧ Row wr g D' ∧ Step (fun k => k = g) w wr)) (fun i _ => n - (intOf i).toNat)
  case atStart => exact ⟨0, rfl, Nat.zero_le _, D, List.Perm.refl _, (fun k hk => by unfold swr; rw [if_neg (by omega), if_neg (by omega)]), HD.out, Step.refl _ _⟩
  case round =>
    obtain ⟨t, rfl, htn, hrest⟩ := hrel
    by_cases hlt : t < n
    · obtain ⟨D', m1, m2, m3, m4⟩ := hrest.out
      have hl' : D'.length = N := by rw [m1.length_eq]; exact Hn.out.symm
      have cx := m3 (a + t) (by omega)
      have cy := m3 (b + t) (by omega)
      obtain ⟨cx, fx⟩ := cx
      obtain ⟨cy, fy⟩ := cy
      have HFIN := hidden (show ∃ D'', List.Perm D'' D ∧ (∀ k, k < D.length → D''.getD k 0 = swr D a b (t + 1) k) ∧ (∀ q, Row (((wr.drewN q).setCell ⟨g, a + t, none⟩ (.int .i64 (D'.getD (b + t) 0))).setCell ⟨g, b + t, none⟩ (.int .i64 (D'.getD (a + t) 0))) g D'') from
        ⟨swp D' (a + t) (b + t), (swp_perm D' _ _ (by omega) (by omega)).trans m1, swr_next hd hlt (by rw [hl', Hn.out]) (by rw [← Hn.out]; exact ha) (by rw [← Hn.out]; exact hb) m2, fun q => row_swp m3 _ _ (by omega) (by omega) q⟩)
      have HST := hidden m4
      have t1 : (t : Int) < (n : Int) := by omega
      obtain ⟨A, hA⟩ : ∃ A, A = a + t := ⟨_, rfl⟩
      obtain ⟨B, hB⟩ : ∃ B, B = b + t := ⟨_, rfl⟩
      rw [← hA, ← hB] at HFIN
      rw [← hA] at cx fx
      rw [← hB] at cy fy
      have ea : (a : Int) + (t : Int) = (A : Int) := by omega
      have eb : (b : Int) + (t : Int) = (B : Int) := by omega
      have la : (A : Int) < (N : Int) := by omega
      have lb : (B : Int) < (N : Int) := by omega
      have hab : A ≠ B := by omega
      have hab' : B ≠ A := by omega
      simp only at cx cy
      generalize D'.getD A 0 = xa at *
      generalize D'.getD B 0 = xb at *
      clear hrest m1 m2 m3 m4 hl' hA hB
      go_wp2
      go_region
      all_goals
        go_wp2
        go_roundw
        case rel =>
          obtain ⟨D'', p1, p2, p3⟩ := HFIN.out
          exact ⟨t + 1, by go_num, by omega, D'', p1, p2, p3 _, ((HST.out.drewN _).setCell _ _ (.inl rfl)).setCell _ _ (.inl rfl)⟩
        case measure => simp [intOf]; omega
    · have hbad : ¬ (t : Int) < (n : Int) := by omega
      obtain ⟨D', m1, m2, m3, m4⟩ := hrest.out
      have e : t = n := by omega
      subst e
      have HFIN := hidden (show ∃ D', List.Perm D' D ∧ (∀ k, k < D.length → D'.getD k 0 = swr D a b t k) ∧ Row wr g D' ∧ Step (fun k => k = g) w wr from ⟨D', m1, m2, m3, m4⟩)
      clear hrest m1 m2 m3 m4
      go_wp2
      go_end0
      refine ⟨⟨_, rfl⟩, ?_⟩
      obtain ⟨D', m1, m2, m3, m4⟩ := HFIN.out
      exact ⟨D', m1, fun k hk => by simpa [List.getD] using m2 k (by rw [← Hn.out]; exact hk), m3, m4⟩

end Go.Proofs.YtcgjmkcigmmjjaaGreatDoor

namespace Go.Proofs.YtcgjmkcigmmjjaaGreatDoor
set_option linter.unusedVariables false
def swI (a b t k : Nat) : Nat := if a ≤ k ∧ k < a + t then b + (k - a) else if b ≤ k ∧ k < b + t then a + (k - b) else k

/-- Whence what stands at k comes when [a, m) and [m, b) have changed places. -/
def rotI (a m b k : Nat) : Nat := if a ≤ k ∧ k < a + (b - m) then k + (m - a) else if a + (b - m) ≤ k ∧ k < b then k - (b - m) else k

theorem swr_idx (D : List Int) (a b t k : Nat) : swr D a b t k = D.getD (swI a b t k) 0 := by
  unfold swr swI
  split
  · rfl
  · split <;> rfl

theorem rotI_lt {a m b k n : Nat} (h1 : a ≤ m) (h2 : m ≤ b) (hb : b ≤ n) (hk : k < n) : rotI a m b k < n := by
  unfold rotI
  split
  · omega
  · split <;> omega

theorem rot_big {m i j k : Nat} (h1 : j < i) (hi : i ≤ m) (hj : 0 < j) : swI (m - i) m j (rotI (m - (i - j)) m (m + j) k) = rotI (m - i) m (m + j) k := by
  unfold rotI swI
  repeat' split
  all_goals omega

theorem rot_small {m i j k : Nat} (h1 : i < j) (hi : i ≤ m) (h0 : 0 < i) : swI (m - i) (m + j - i) i (rotI (m - i) m (m + (j - i)) k) = rotI (m - i) m (m + j) k := by
  unfold rotI swI
  repeat' split
  all_goals omega

theorem rot_same {m i k : Nat} (hi : i ≤ m) (h0 : 0 < i) : swI (m - i) m i k = rotI (m - i) m (m + i) k := by
  unfold rotI swI
  repeat' split
  all_goals omega

end Go.Proofs.YtcgjmkcigmmjjaaGreatDoor

namespace Go.Proofs.YtcgjmkcigmmjjaaGreatDoor
set_option linter.unusedVariables false
/-- What stood at a has gone up to t, those between one down. -/
def upI (a t k : Nat) : Nat := if a ≤ k ∧ k < t then k + 1 else if k = t then a else k

/-- What stood at m has gone down to t, those between one up. -/
def dnI (m t k : Nat) : Nat := if t < k ∧ k ≤ m then k - 1 else if k = t then m else k

theorem getD_far (D : List Int) (k : Nat) (h : D.length ≤ k) : D.getD k 0 = 0 := by simp [List.getD, List.getElem?_eq_none h]

theorem up_next {D D' : List Int} {a t : Nat} (hat : a ≤ t) (ht : t + 1 < D.length) (hl : D'.length = D.length) (H : ∀ k, k < D.length → D'.getD k 0 = D.getD (upI a t k) 0) :
    ∀ k, k < D.length → (swp D' t (t + 1)).getD k 0 = D.getD (upI a (t + 1) k) 0 := by
  intro k hk
  rw [swp_getD D' _ _ k (by omega) (by omega), H t (by omega), H (t + 1) ht, H k hk]
  unfold upI
  repeat' split
  all_goals first | rfl | (exfalso; omega) | (congr 1; omega)

theorem dn_next {D D' : List Int} {m t : Nat} (hat : t ≤ m) (h0 : 0 < t) (ht : m < D.length) (hl : D'.length = D.length) (H : ∀ k, k < D.length → D'.getD k 0 = D.getD (dnI m t k) 0) :
    ∀ k, k < D.length → (swp D' t (t - 1)).getD k 0 = D.getD (dnI m (t - 1) k) 0 := by
  intro k hk
  rw [swp_getD D' _ _ k (by omega) (by omega), H t (by omega), H (t - 1) (by omega), H k hk]
  unfold dnI
  repeat' split
  all_goals first | rfl | (exfalso; omega) | (congr 1; omega)

/-- One ahead of a sorted stretch, gone up. -/
theorem up_srt {O D D' : List Int} {a b i : Nat} (hb : b ≤ D.length) (hl : D'.length = D.length) (hp : List.Perm D' D) (hi : a + 1 ≤ i) (hib : i ≤ b) (hs : Sr O D (a + 1) b)
    (h1 : a + 1 < i → key O (D.getD (i - 1) 0) < key O (D.getD a 0)) (h2 : i < b → key O (D.getD a 0) ≤ key O (D.getD i 0)) (H : ∀ k, k < D.length → D'.getD k 0 = D.getD (upI a (i - 1) k) 0) : Srt O D a b D' := by
  refine ⟨hp, fun k hk => ?_, fun p q hap hpq hqb => ?_, eqA_map (upI a (i - 1)) hl H (fun k hk => ?_) (fun p q hpq hq => ?_)⟩
  · by_cases hkl : k < D.length
    · rw [H k hkl]; unfold upI; rw [if_neg (by omega), if_neg (by omega)]
    · rw [getD_far _ _ (by omega), getD_far _ _ (by omega)]
  · rw [H p (by omega), H q (by omega)]
    have lo : ∀ k, a + 1 ≤ k → k < i → key O (D.getD k 0) ≤ key O (D.getD a 0) := by
      intro k k1 k2
      by_cases e : k = i - 1
      · subst e; have := h1 (by omega); omega
      · have := hs k (i - 1) k1 (by omega) (by omega); have := h1 (by omega); omega
    have hi' : ∀ k, i ≤ k → k < b → key O (D.getD a 0) ≤ key O (D.getD k 0) := by
      intro k k1 k2
      by_cases e : k = i
      · subst e; have := h2 (by omega); omega
      · have := hs i k (by omega) (by omega) (by omega); have := h2 (by omega); omega
    unfold upI
    by_cases c1 : q < i - 1
    · rw [if_pos (by omega), if_pos (by omega)]; exact hs _ _ (by omega) (by omega) (by omega)
    · by_cases c2 : q = i - 1
      · rw [if_pos (by omega), if_neg (by omega), if_pos c2]; exact lo _ (by omega) (by omega)
      · rw [if_neg (show ¬ (a ≤ q ∧ q < i - 1) by omega), if_neg c2]
        by_cases c3 : p < i - 1
        · rw [if_pos (by omega)]; exact hs _ _ (by omega) (by omega) (by omega)
        · rw [if_neg (by omega)]
          by_cases c4 : p = i - 1
          · rw [if_pos c4]; exact hi' _ (by omega) (by omega)
          · rw [if_neg c4]; exact hs _ _ (by omega) (by omega) (by omega)
  · unfold upI
    split
    · omega
    · split <;> omega
  · by_cases e : a ≤ p ∧ p < i - 1 ∧ q = i - 1
    · right
      unfold upI
      rw [if_pos (by omega), if_neg (by omega), if_pos e.2.2]
      have := h1 (by omega)
      by_cases e2 : p + 1 = i - 1
      · rw [e2]; omega
      · have := hs (p + 1) (i - 1) (by omega) (by omega) (by omega)
        omega
    · left
      unfold upI
      repeat' split
      all_goals omega

/-- One behind a sorted stretch, gone down. -/
theorem dn_srt {O D D' : List Int} {a m i : Nat} (hb : m < D.length) (hl : D'.length = D.length) (hp : List.Perm D' D) (hi : a ≤ i) (him : i ≤ m) (hs : Sr O D a m)
    (h1 : a < i → key O (D.getD (i - 1) 0) ≤ key O (D.getD m 0)) (h2 : i < m → key O (D.getD m 0) < key O (D.getD i 0)) (H : ∀ k, k < D.length → D'.getD k 0 = D.getD (dnI m i k) 0) : Srt O D a (m + 1) D' := by
  refine ⟨hp, fun k hk => ?_, fun p q hap hpq hqb => ?_, eqA_map (dnI m i) hl H (fun k hk => ?_) (fun p q hpq hq => ?_)⟩
  · by_cases hkl : k < D.length
    · rw [H k hkl]; unfold dnI; rw [if_neg (by omega)]
      by_cases e : k = i
      · omega
      · rw [if_neg e]
    · rw [getD_far _ _ (by omega), getD_far _ _ (by omega)]
  · rw [H p (by omega), H q (by omega)]
    have lo : ∀ k, a ≤ k → k < i → key O (D.getD k 0) ≤ key O (D.getD m 0) := by
      intro k k1 k2
      by_cases e : k = i - 1
      · subst e; have := h1 (by omega); omega
      · have := hs k (i - 1) k1 (by omega) (by omega); have := h1 (by omega); omega
    have hi' : ∀ k, i ≤ k → k < m → key O (D.getD m 0) ≤ key O (D.getD k 0) := by
      intro k k1 k2
      by_cases e : k = i
      · subst e; have := h2 (by omega); omega
      · have := hs i k (by omega) (by omega) (by omega); have := h2 (by omega); omega
    unfold dnI
    by_cases c1 : i < p
    · rw [if_pos (by omega), if_pos (by omega)]; exact hs _ _ (by omega) (by omega) (by omega)
    · rw [if_neg (show ¬ (i < p ∧ p ≤ m) by omega)]
      by_cases c2 : p = i
      · rw [if_pos c2, if_pos (by omega)]; exact hi' _ (by omega) (by omega)
      · rw [if_neg c2]
        by_cases c3 : i < q
        · rw [if_pos (by omega)]; exact hs _ _ (by omega) (by omega) (by omega)
        · rw [if_neg (by omega)]
          by_cases c4 : q = i
          · rw [if_pos c4]; exact lo _ (by omega) (by omega)
          · rw [if_neg c4]; exact hs _ _ (by omega) (by omega) (by omega)
  · unfold dnI
    split
    · omega
    · split <;> omega
  · by_cases e : p = i ∧ i < q ∧ q ≤ m
    · right
      unfold dnI
      rw [if_neg (by omega), if_pos e.1, if_pos (by omega)]
      have := h2 (by omega)
      by_cases e2 : q - 1 = i
      · rw [e2]; omega
      · have := hs i (q - 1) (by omega) (by omega) (by omega)
        omega
    · left
      unfold dnI
      repeat' split
      all_goals omega

/-- Within a stretch that was mixed each stood in it before. -/
theorem Mix.from {O D D' : List Int} {a b : Nat} (h : Mix O D a b D') (hb : b ≤ D.length) (hab : a ≤ b) : ∀ p, a ≤ p → p < b → ∃ q, a ≤ q ∧ q < b ∧ D'.getD p 0 = D.getD q 0 := by
  intro p h1 h2
  have hl : D'.length = D.length := h.perm.length_eq
  have e1 : D'.take a = D.take a := by
    apply List.ext_getElem (by simp [hl])
    intro k k1 k2
    have := h.out k (by simp at k1; omega)
    simp only [List.getElem_take]
    simp at k1 k2
    rw [getD_i _ _ (by omega), getD_i _ _ (by omega)] at this
    exact this
  have e2 : D'.drop b = D.drop b := by
    apply List.ext_getElem (by simp [hl])
    intro k k1 k2
    have := h.out (b + k) (by omega)
    simp only [List.getElem_drop]
    simp at k1 k2
    rw [getD_i _ _ (by omega), getD_i _ _ (by omega)] at this
    exact this
  have s (X : List Int) : X = X.take a ++ ((X.drop a).take (b - a) ++ X.drop b) := by
    conv => lhs; rw [← List.take_append_drop a X]
    congr 1
    conv => lhs; rw [← List.take_append_drop (b - a) (X.drop a)]
    congr 1
    rw [List.drop_drop]
    congr 1
    omega
  have hp := h.perm
  rw [s D', s D, e1, e2] at hp
  have hp2 := (List.perm_append_right_iff _).1 ((List.perm_append_left_iff _).1 hp)
  have hm : D'.getD p 0 ∈ (D'.drop a).take (b - a) := by
    rw [getD_i _ _ (by omega), List.mem_iff_getElem]
    exact ⟨p - a, by simp; omega, by simp; congr 1; omega⟩
  have hm2 := hp2.mem_iff.1 hm
  rw [List.mem_iff_getElem] at hm2
  obtain ⟨k, hk, e⟩ := hm2
  simp at hk
  refine ⟨a + k, by omega, by omega, ?_⟩
  rw [← e, getD_i D _ (by omega)]
  simp

theorem Srt.mix {O D D' : List Int} {a b : Nat} (h : Srt O D a b D') : Mix O D a b D' := ⟨h.perm, h.out, h.stb⟩

/-- Two halves, each sorted by itself, all of the first at most all of the second. -/
theorem Srt.join {O D D1 D2 : List Int} {a m b : Nat} (ham : a ≤ m) (hmb : m ≤ b) (hb : b ≤ D.length) (hc : ∀ p q, a ≤ p → p < m → m ≤ q → q < b → key O (D.getD p 0) ≤ key O (D.getD q 0)) (h1 : Srt O D a m D1) (h2 : Srt O D1 m b D2) : Srt O D a b D2 := by
  have l1 : D1.length = D.length := h1.perm.length_eq
  refine ⟨h2.perm.trans h1.perm, fun k hk => (h2.out k (by omega)).trans (h1.out k (by omega)), fun p q hap hpq hqb => ?_, fun h => h2.stb (h1.stb h)⟩
  by_cases c1 : q < m
  · rw [h2.out p (by omega), h2.out q (by omega)]; exact h1.sr p q hap hpq c1
  · by_cases c2 : m ≤ p
    · exact h2.sr p q c2 hpq hqb
    · rw [h2.out p (by omega)]
      obtain ⟨q', q1, q2, q3⟩ := h2.mix.from (by omega) hmb q (by omega) hqb
      obtain ⟨p', p1, p2, p3⟩ := h1.mix.from (by omega) ham p hap (by omega)
      rw [q3, p3, h1.out q' (by omega)]
      exact hc p' q' p1 p2 q1 q2

/-- Behind the turn. -/
theorem rot_cross {O D D' : List Int} {a m b mid s e : Nat} (ham : a < m) (hmb : m < b) (hb : b ≤ D.length) (has : a ≤ s) (hsm : s ≤ m) (hme : m ≤ e) (heb : e ≤ b) (hmid : mid + m = s + e) (hsd : s ≤ mid) (h1 : Sr O D a m) (h2 : Sr O D m b)
    (hx : a < s → e < b → key O (D.getD (s - 1) 0) ≤ key O (D.getD e 0)) (hy : s < m → m < e → key O (D.getD (e - 1) 0) ≤ key O (D.getD s 0)) (H : ∀ k, k < D.length → D'.getD k 0 = D.getD (rotI s m e k) 0) :
    Sr O D' a s ∧ Sr O D' s mid ∧ Sr O D' mid e ∧ Sr O D' e b ∧ (∀ p q, a ≤ p → p < mid → mid ≤ q → q < b → key O (D'.getD p 0) ≤ key O (D'.getD q 0)) := by
  have le1 : ∀ p q, a ≤ p → p ≤ q → q < m → key O (D.getD p 0) ≤ key O (D.getD q 0) := fun p q x y z => by
    by_cases e : p = q
    · subst e; omega
    · exact h1 p q x (by omega) z
  have le2 : ∀ p q, m ≤ p → p ≤ q → q < b → key O (D.getD p 0) ≤ key O (D.getD q 0) := fun p q x y z => by
    by_cases e : p = q
    · subst e; omega
    · exact h2 p q x (by omega) z
  have r1 : ∀ k, k < s → rotI s m e k = k := fun k hk => by unfold rotI; rw [if_neg (by omega), if_neg (by omega)]
  have r2 : ∀ k, s ≤ k → k < mid → rotI s m e k = k + (m - s) := fun k x y => by unfold rotI; rw [if_pos (by omega)]
  have r3 : ∀ k, mid ≤ k → k < e → rotI s m e k = k - (e - m) := fun k x y => by unfold rotI; rw [if_neg (by omega), if_pos (by omega)]
  have r4 : ∀ k, e ≤ k → mid ≤ k → rotI s m e k = k := fun k x y => by unfold rotI; rw [if_neg (by omega), if_neg (by omega)]
  refine ⟨fun p q x y z => ?_, fun p q x y z => ?_, fun p q x y z => ?_, fun p q x y z => ?_, fun p q x y z t => ?_⟩
  · rw [H p (by omega), H q (by omega), r1 p (by omega), r1 q (by omega)]; exact le1 _ _ (by omega) (by omega) (by omega)
  · rw [H p (by omega), H q (by omega), r2 p (by omega) (by omega), r2 q (by omega) (by omega)]; exact le2 _ _ (by omega) (by omega) (by omega)
  · rw [H p (by omega), H q (by omega), r3 p (by omega) (by omega), r3 q (by omega) (by omega)]; exact le1 _ _ (by omega) (by omega) (by omega)
  · rw [H p (by omega), H q (by omega), r4 p (by omega) (by omega), r4 q (by omega) (by omega)]; exact le2 _ _ (by omega) (by omega) (by omega)
  · rw [H p (by omega), H q (by omega)]
    by_cases c1 : p < s
    · rw [r1 p c1]
      by_cases c2 : q < e
      · rw [r3 q z c2]; exact le1 _ _ (by omega) (by omega) (by omega)
      · rw [r4 q (by omega) z]
        exact Int.le_trans (le1 p (s - 1) (by omega) (by omega) (by omega)) (Int.le_trans (hx (by omega) (by omega)) (le2 e q (by omega) (by omega) (by omega)))
    · rw [r2 p (by omega) y]
      by_cases c2 : q < e
      · rw [r3 q z c2]
        exact Int.le_trans (le2 _ (e - 1) (by omega) (by omega) (by omega)) (Int.le_trans (hy (by omega) (by omega)) (le1 s _ (by omega) (by omega) (by omega)))
      · rw [r4 q (by omega) z]; exact le2 _ _ (by omega) (by omega) (by omega)

/-- A turn of unlike ones. -/
theorem rot_stb {O D D' : List Int} {a m b mid s e : Nat} (hl : D'.length = D.length) (hb : b ≤ D.length) (has : a ≤ s) (hsm : s ≤ m) (hme : m ≤ e) (heb : e ≤ b) (hmid : mid + m = s + e) (h1 : Sr O D a m) (h2 : Sr O D m b)
    (hy : s < m → m < e → key O (D.getD (e - 1) 0) < key O (D.getD s 0)) (H : ∀ k, k < D.length → D'.getD k 0 = D.getD (rotI s m e k) 0) : EqA O D → EqA O D' := by
  refine eqA_map (rotI s m e) hl H (fun k hk => ?_) (fun p q hpq hq => ?_)
  · unfold rotI
    repeat' split
    all_goals omega
  · by_cases c : s ≤ p ∧ p < mid ∧ mid ≤ q ∧ q < e
    · right
      have r2 : rotI s m e p = p + (m - s) := by unfold rotI; rw [if_pos (by omega)]
      have r3 : rotI s m e q = q - (e - m) := by unfold rotI; rw [if_neg (by omega), if_pos (by omega)]
      rw [r2, r3]
      have hy1 := hy (by omega) (by omega)
      have k1 : key O (D.getD (p + (m - s)) 0) ≤ key O (D.getD (e - 1) 0) := by
        by_cases e1 : p + (m - s) = e - 1
        · rw [e1]; omega
        · exact h2 _ _ (by omega) (by omega) (by omega)
      have k2 : key O (D.getD s 0) ≤ key O (D.getD (q - (e - m)) 0) := by
        by_cases e1 : s = q - (e - m)
        · rw [← e1]; omega
        · exact h1 _ _ (by omega) (by omega) (by omega)
      omega
    · left
      unfold rotI
      repeat' split
      all_goals omega

theorem Srt.of_sr {O D : List Int} {a b : Nat} (h : Sr O D a b) : Srt O D a b D := ⟨List.Perm.refl _, fun _ _ => rfl, h, fun h => h⟩

theorem Sr.one (O D : List Int) {a b : Nat} (h : b ≤ a + 1) : Sr O D a b := fun p q _ _ _ => by omega

theorem Sr.of_out {O D D' : List Int} {a b c d : Nat} (h : Sr O D c d) (hm : Mix O D a b D') (hd : d ≤ a ∨ b ≤ c) : Sr O D' c d := fun p q x y z => by
  rw [hm.out p (by omega), hm.out q (by omega)]; exact h p q x y z

end Go.Proofs.YtcgjmkcigmmjjaaGreatDoor

namespace Go.Proofs.YtcgjmkcigmmjjaaGreatDoor
open Go.RowKit
set_option maxRecDepth 100000
set_option linter.unusedVariables false
/-- What a merge leaves. -/
def SymP (O D : List Int) (g a b : Nat) (w w' : World) : Prop := ∃ D', Srt O D a b D' ∧ Row w' g D' ∧ Step (fun k => k = g) w w'

/-- Two symbols of a row are compared. -/
theorem cmp_at {O : List Int} {v : Value} {B g : Nat} {D : List Int} {w : World} (hE : Env w B g v O) (hD : Row w g D) (hin : InO O D) (hO : O.length ≤ 100000) (i j : Nat) (hi : i < D.length) (hj : j < D.length) :
    ∃ x y : Nat, ∃ cv : Int, w.cell? ⟨g, i, none⟩ = some (.int .i64 (x : Int)) ∧ w.cell? ⟨g, j, none⟩ = some (.int .i64 (y : Int)) ∧ (cv < 0 ↔ key O (D.getD i 0) < key O (D.getD j 0)) ∧
      ∀ q, Calls Tryz.prog 102 #[.int .i64 (x : Int), .int .i64 (y : Int), .pointer (some ⟨B, 0, none⟩)] (w.drewN q) fun e w' => e = .returned (.int .i64 cv) ∧ ∃ n, w' = (w.drewN q).drewN n := by
  obtain ⟨x, ex, hx⟩ := hin.at hi
  obtain ⟨y, ey, hy⟩ := hin.at hj
  have c1 := (hD i hi).1
  have c2 := (hD j hj).1
  simp only [ex] at c1
  simp only [ey] at c2
  refine ⟨x, y, cmpI (O.getD x 0) (O.getD y 0), c1, c2, ?_, fun q => closure_any x y B g v O (w.drewN q) (hE.drewN q) hx hy hO⟩
  rw [cmpI_lt, ex, ey]
  simp [key]

set_option maxHeartbeats 2000000 in
theorem sym_left (O : List Int) (v : Value) (B g : Nat) (D : List Int) (a m b cap : Nat) (w : World) (hE : Env w B g v O) (hD : Row w g D) (hin : InO O D) (ham : a + 1 = m) (hmb : m < b) (hb : b ≤ D.length) (hs : Sr O D m b) (hn : D.length ≤ 100000) (hO : O.length ≤ 100000) :
    Calls Tryz.prog 110 #[.slice (some ⟨g, 0, none⟩) D.length cap, .int .i64 (a : Int), .int .i64 (m : Int), .int .i64 (b : Int), cmpV B] w
      fun e w' => (∃ u, e = .returned u) ∧ SymP O D g a b w w' := by
  have HC := hidden (fun (u : World) (hu : ∃ q, u = w.drewN q) i j (hi : i < D.length) (hj : j < D.length) => cmp_at (w := u) (by obtain ⟨q, rfl⟩ := hu; exact hE.drewN q) (by obtain ⟨q, rfl⟩ := hu; exact hD.drewN q) hin hO i j hi hj)
  have HD := hidden hD
  have HS := hidden hs
  obtain ⟨n, hnn⟩ : ∃ n, n = D.length := ⟨_, rfl⟩
  have Hn := hidden hnn
  rw [← hnn] at hb hn ⊢
  clear hE hD hin hs hnn
  have e1 : (m : Int) - (a : Int) = 1 := by omega
  have Ham := hidden ham
  have ham1 : a < m := by omega
  have ham2 : m ≤ a + 1 := by omega
  clear ham
  go_enter Tryz.func110, Tryz.ntmps110
  go_wp2
  go_loopw [10, 11] (fun iv jv wr => ∃ i j : Nat, iv = .int .i64 (i : Int) ∧ jv = .int .i64 (j : Int) ∧ m ≤ i ∧ i ≤ j ∧ j ≤ b ∧ Hid (m < i → key O (D.getD (i - 1) 0) < key O (D.getD a 0)) ∧ Hid (j < b → key O (D.getD a 0) ≤ key O (D.getD j 0)) ∧ Hid (∃ q, wr = w.drewN q)) (fun iv jv _ => (intOf jv - intOf iv).toNat)
  case atStart => exact ⟨m, b, rfl, rfl, by omega, by omega, by omega, (fun h => by omega), (fun h => by omega), 0, rfl⟩
  case round =>
    obtain ⟨i, j, rfl, rfl, h1, h2, h3, HL, HR, HW⟩ := hrel
    by_cases hij : i < j
    · have hij' : (i : Int) < (j : Int) := by omega
      obtain ⟨h, hh⟩ : ∃ h, h = (i + j) / 2 := ⟨_, rfl⟩
      have hh1 : i ≤ h := by omega
      have hh2 : h < j := by omega
      obtain ⟨x, y, cv, c1, c2, hcv, HCC⟩ := HC.out wr HW.out h a (by have := Hn.out; omega) (by have := Hn.out; omega)
      have HCC := hidden HCC
      have Hcv := hidden hcv
      have eh : ((i : Int) + (j : Int)) / 2 = (h : Int) := by omega
      have hl1 : (h : Int) < (n : Int) := by omega
      have hl2 : (a : Int) < (n : Int) := by omega
      clear hcv hh
      by_cases hc : cv < 0
      · have hk := hidden (Hcv.out.1 hc)
        go_wp2
        go_quiet ((go_at_call 102; exact Calls.quiet_of (HCC.out _)))
        go_wp2
        all_goals try (exfalso; first | omega | (rename_i hz; simp at hz; omega))
        first
          | (go_roundw
             case rel => exact ⟨h + 1, j, by go_num, rfl, by omega, by omega, by omega, (fun _ => by rw [Nat.add_sub_cancel]; exact hk.out), HR, (by obtain ⟨q, rfl⟩ := HW.out; exact ⟨_, World.drewN_drewN _ _ _⟩)⟩
             case measure => simp [intOf]; omega)
          | exact ⟨⟨h + 1, j, by go_num, rfl, by omega, by omega, by omega, (fun _ => by rw [Nat.add_sub_cancel]; exact hk.out), HR, (by obtain ⟨q, rfl⟩ := HW.out; exact ⟨_, World.drewN_drewN _ _ _⟩)⟩, by simp [intOf]; omega⟩
      · have hk := hidden (Int.not_lt.1 (fun z => hc (Hcv.out.2 z)))
        have hc' : (0 : Int) ≤ cv := by omega
        have hnb : (!decide (cv < 0)) = true := by simp; omega
        have hnc : decide (cv < 0) = false := by simp; omega
        go_wp2
        go_quiet ((go_at_call 102; exact Calls.quiet_of (HCC.out _)))
        go_wp2
        all_goals try (exfalso; first | omega | (rename_i hz; simp at hz; omega))
        first
          | (go_roundw
             case rel => exact ⟨i, h, rfl, rfl, by omega, by omega, by omega, HL, (fun _ => hk.out), (by obtain ⟨q, rfl⟩ := HW.out; exact ⟨_, World.drewN_drewN _ _ _⟩)⟩
             case measure => simp [intOf]; omega)
          | exact ⟨⟨i, h, rfl, rfl, by omega, by omega, by omega, HL, (fun _ => hk.out), (by obtain ⟨q, rfl⟩ := HW.out; exact ⟨_, World.drewN_drewN _ _ _⟩)⟩, by simp [intOf]; omega⟩
    · have hij' : ¬ (i : Int) < (j : Int) := by omega
      have hij2 : i = j := by omega
      subst hij2
      have ei : (i : Int) - 1 = ((i - 1 : Nat) : Int) := by omega
      obtain ⟨T, hT⟩ : ∃ T, T = i - 1 := ⟨_, rfl⟩
      rw [← hT] at ei
      have hT1 : a ≤ T := by omega
      have hT2 : T + 1 ≤ b := by omega
      have HT := hidden hT
      have HD' := hidden (show Row wr g D ∧ Step (fun k => k = g) w wr by obtain ⟨q, rfl⟩ := HW.out; exact ⟨HD.out.drewN q, (Step.refl _ _).drewN q⟩)
      have hli := hidden (And.intro h1 h3)
      clear hT h1 h2 h3 hij
      go_wp2
      go_loopw [13] (fun kv wx => ∃ k : Nat, kv = .int .i64 (k : Int) ∧ a ≤ k ∧ k ≤ T ∧ Hid (∃ D', List.Perm D' D ∧ (∀ p, p < D.length → D'.getD p 0 = D.getD (upI a k p) 0) ∧ Row wx g D' ∧ Step (fun k => k = g) w wx)) (fun kv _ => T - (intOf kv).toNat)
      case atStart => exact ⟨a, rfl, by omega, by omega, D, List.Perm.refl _, (fun p hp => by unfold upI; rw [if_neg (by omega)]; by_cases e : p = a <;> simp [e]), HD'.out.1, HD'.out.2⟩
      case round =>
        obtain ⟨k, rfl, k1, k2, hrest⟩ := hrel
        by_cases hkT : k < T
        · have hkT' : (k : Int) < (T : Int) := by omega
          obtain ⟨D', m1, m2, m3, m4⟩ := hrest.out
          have hl' : D'.length = n := by rw [m1.length_eq]; exact Hn.out.symm
          obtain ⟨cx, fx⟩ := m3 k (by omega)
          obtain ⟨cy, fy⟩ := m3 (k + 1) (by omega)
          have HFIN := hidden (show ∃ D'', List.Perm D'' D ∧ (∀ p, p < D.length → D''.getD p 0 = D.getD (upI a (k + 1) p) 0) ∧ (∀ q, Row (((wr.drewN q).setCell ⟨g, k, none⟩ (.int .i64 (D'.getD (k + 1) 0))).setCell ⟨g, k + 1, none⟩ (.int .i64 (D'.getD k 0))) g D'') from
            ⟨swp D' k (k + 1), (swp_perm D' _ _ (by omega) (by omega)).trans m1, up_next k1 (by have := Hn.out; omega) (by rw [hl', Hn.out]) m2, fun q => row_swp m3 _ _ (by omega) (by omega) q⟩)
          have HST := hidden m4
          have la : (k : Int) < (n : Int) := by omega
          have lb : (k : Int) + 1 < (n : Int) := by omega
          simp only at cx cy
          generalize D'.getD k 0 = xa at *
          generalize D'.getD (k + 1) 0 = xb at *
          clear hrest m1 m2 m3 m4 hl'
          go_wp2
          go_region
          all_goals
            go_wp2
            go_roundw
            case rel =>
              obtain ⟨D'', p1, p2, p3⟩ := HFIN.out
              exact ⟨k + 1, by go_num, by omega, by omega, D'', p1, p2, p3 _, ((HST.out.drewN _).setCell _ _ (.inl rfl)).setCell _ _ (.inl rfl)⟩
            case measure => simp [intOf]; omega
        · have hkT' : ¬ (k : Int) < (T : Int) := by omega
          have HFIN := hidden (show SymP O D g a b w wr by
            obtain ⟨D', m1, m2, m3, m4⟩ := hrest.out
            have e : k = i - 1 := by have := HT.out; omega
            subst e
            have h0 := Ham.out
            have hs' := HS.out
            rw [← h0] at hs' HL hli
            exact ⟨D', up_srt (by have := Hn.out; omega) (by rw [m1.length_eq]) m1 (by have := hli.out; omega) (by have := hli.out; omega) hs' HL.out HR.out m2, m3, m4⟩)
          clear hrest
          go_wp2
          (try simp only [Exit.inBlock, Exit.then])
          refine bodyPost_ret (results_none rfl _ _ _) rfl ?_
          exact ⟨⟨_, rfl⟩, HFIN.out⟩

set_option maxHeartbeats 2000000 in
theorem sym_right (O : List Int) (v : Value) (B g : Nat) (D : List Int) (a m b cap : Nat) (w : World) (hE : Env w B g v O) (hD : Row w g D) (hin : InO O D) (ham : a + 1 < m) (hmb : m + 1 = b) (hb : b ≤ D.length) (hs : Sr O D a m) (hn : D.length ≤ 100000) (hO : O.length ≤ 100000) :
    Calls Tryz.prog 110 #[.slice (some ⟨g, 0, none⟩) D.length cap, .int .i64 (a : Int), .int .i64 (m : Int), .int .i64 (b : Int), cmpV B] w
      fun e w' => (∃ u, e = .returned u) ∧ SymP O D g a b w w' := by
  have HC := hidden (fun (u : World) (hu : ∃ q, u = w.drewN q) i j (hi : i < D.length) (hj : j < D.length) => cmp_at (w := u) (by obtain ⟨q, rfl⟩ := hu; exact hE.drewN q) (by obtain ⟨q, rfl⟩ := hu; exact hD.drewN q) hin hO i j hi hj)
  have HD := hidden hD
  have HS := hidden hs
  obtain ⟨n, hnn⟩ : ∃ n, n = D.length := ⟨_, rfl⟩
  have Hn := hidden hnn
  rw [← hnn] at hb hn ⊢
  clear hE hD hin hs hnn
  have e1 : ((m : Int) - (a : Int) == 1) = false := by simp; omega
  have e1' : ¬ ((m : Int) - (a : Int) = 1) := by omega
  have e2 : (b : Int) - (m : Int) = 1 := by omega
  have Ham := hidden hmb
  have ham1 : m < b := by omega
  have ham2 : b ≤ m + 1 := by omega
  have ham3 : a < m := by omega
  clear hmb ham
  go_enter Tryz.func110, Tryz.ntmps110
  go_wp2
  go_loopw [14, 15] (fun iv jv wr => ∃ i j : Nat, iv = .int .i64 (i : Int) ∧ jv = .int .i64 (j : Int) ∧ a ≤ i ∧ i ≤ j ∧ j ≤ m ∧ Hid (a < i → key O (D.getD (i - 1) 0) ≤ key O (D.getD m 0)) ∧ Hid (j < m → key O (D.getD m 0) < key O (D.getD j 0)) ∧ Hid (∃ q, wr = w.drewN q)) (fun iv jv _ => (intOf jv - intOf iv).toNat)
  case atStart => exact ⟨a, m, rfl, rfl, by omega, by omega, by omega, (fun h => by omega), (fun h => by omega), 0, rfl⟩
  case round =>
    obtain ⟨i, j, rfl, rfl, h1, h2, h3, HL, HR, HW⟩ := hrel
    by_cases hij : i < j
    · have hij' : (i : Int) < (j : Int) := by omega
      obtain ⟨h, hh⟩ : ∃ h, h = (i + j) / 2 := ⟨_, rfl⟩
      have hh1 : i ≤ h := by omega
      have hh2 : h < j := by omega
      obtain ⟨x, y, cv, c1, c2, hcv, HCC⟩ := HC.out wr HW.out m h (by have := Hn.out; omega) (by have := Hn.out; omega)
      have HCC := hidden HCC
      have Hcv := hidden hcv
      have eh : ((i : Int) + (j : Int)) / 2 = (h : Int) := by omega
      have hl1 : (h : Int) < (n : Int) := by omega
      have hl2 : (m : Int) < (n : Int) := by omega
      clear hcv hh
      by_cases hc : cv < 0
      · have hk := hidden (Hcv.out.1 hc)
        go_wp2
        go_quiet ((go_at_call 102; exact Calls.quiet_of (HCC.out _)))
        go_wp2
        all_goals try (exfalso; first | omega | (rename_i hz; simp at hz; omega))
        first
          | (go_roundw
             case rel => exact ⟨i, h, rfl, rfl, by omega, by omega, by omega, HL, (fun _ => hk.out), (by obtain ⟨q, rfl⟩ := HW.out; exact ⟨_, World.drewN_drewN _ _ _⟩)⟩
             case measure => simp [intOf]; omega)
          | exact ⟨⟨i, h, rfl, rfl, by omega, by omega, by omega, HL, (fun _ => hk.out), (by obtain ⟨q, rfl⟩ := HW.out; exact ⟨_, World.drewN_drewN _ _ _⟩)⟩, by simp [intOf]; omega⟩
      · have hk := hidden (Int.not_lt.1 (fun z => hc (Hcv.out.2 z)))
        have hc' : (0 : Int) ≤ cv := by omega
        have hnb : (!decide (cv < 0)) = true := by simp; omega
        have hnc : decide (cv < 0) = false := by simp; omega
        go_wp2
        go_quiet ((go_at_call 102; exact Calls.quiet_of (HCC.out _)))
        go_wp2
        all_goals try (exfalso; first | omega | (rename_i hz; simp at hz; omega))
        first
          | (go_roundw
             case rel => exact ⟨h + 1, j, by go_num, rfl, by omega, by omega, by omega, (fun _ => by rw [Nat.add_sub_cancel]; exact hk.out), HR, (by obtain ⟨q, rfl⟩ := HW.out; exact ⟨_, World.drewN_drewN _ _ _⟩)⟩
             case measure => simp [intOf]; omega)
          | exact ⟨⟨h + 1, j, by go_num, rfl, by omega, by omega, by omega, (fun _ => by rw [Nat.add_sub_cancel]; exact hk.out), HR, (by obtain ⟨q, rfl⟩ := HW.out; exact ⟨_, World.drewN_drewN _ _ _⟩)⟩, by simp [intOf]; omega⟩
    · have hij' : ¬ (i : Int) < (j : Int) := by omega
      have hij2 : i = j := by omega
      subst hij2
      have HD' := hidden (show Row wr g D ∧ Step (fun k => k = g) w wr by obtain ⟨q, rfl⟩ := HW.out; exact ⟨HD.out.drewN q, (Step.refl _ _).drewN q⟩)
      have hli := hidden (And.intro h1 h3)
      have hi0 : i ≤ m := by omega
      clear h2 h3 hij
      go_wp2
      go_loopw [17] (fun kv wx => ∃ k : Nat, kv = .int .i64 (k : Int) ∧ i ≤ k ∧ k ≤ m ∧ Hid (∃ D', List.Perm D' D ∧ (∀ p, p < D.length → D'.getD p 0 = D.getD (dnI m k p) 0) ∧ Row wx g D' ∧ Step (fun k => k = g) w wx)) (fun kv _ => (intOf kv).toNat)
      case atStart => exact ⟨m, rfl, by omega, by omega, D, List.Perm.refl _, (fun p hp => by unfold dnI; rw [if_neg (by omega)]; by_cases e : p = m <;> simp [e]), HD'.out.1, HD'.out.2⟩
      case round =>
        obtain ⟨k, rfl, k1, k2, hrest⟩ := hrel
        by_cases hkT : i < k
        · have hkT' : (i : Int) < (k : Int) := by omega
          obtain ⟨D', m1, m2, m3, m4⟩ := hrest.out
          have hl' : D'.length = n := by rw [m1.length_eq]; exact Hn.out.symm
          obtain ⟨cx, fx⟩ := m3 k (by omega)
          obtain ⟨cy, fy⟩ := m3 (k - 1) (by omega)
          have HFIN := hidden (show ∃ D'', List.Perm D'' D ∧ (∀ p, p < D.length → D''.getD p 0 = D.getD (dnI m (k - 1) p) 0) ∧ (∀ q, Row (((wr.drewN q).setCell ⟨g, k, none⟩ (.int .i64 (D'.getD (k - 1) 0))).setCell ⟨g, k - 1, none⟩ (.int .i64 (D'.getD k 0))) g D'') from
            ⟨swp D' k (k - 1), (swp_perm D' _ _ (by omega) (by omega)).trans m1, dn_next k2 (by omega) (by have := Hn.out; omega) (by rw [hl', Hn.out]) m2, fun q => row_swp m3 _ _ (by omega) (by omega) q⟩)
          have HST := hidden m4
          have la : (k : Int) < (n : Int) := by omega
          obtain ⟨K, hK⟩ : ∃ K, K = k - 1 := ⟨_, rfl⟩
          rw [← hK] at HFIN cy fy
          have lb : (K : Int) < (n : Int) := by omega
          have ek : (k : Int) - 1 = (K : Int) := by omega
          have hne : k ≠ K := by omega
          have hne' : K ≠ k := by omega
          have HKK := hidden hK
          have hK1 : K < k := by omega
          have hK2 : i ≤ K := by omega
          simp only at cx cy
          generalize D'.getD k 0 = xa at *
          generalize D'.getD K 0 = xb at *
          clear hrest m1 m2 m3 m4 hl' hK
          go_wp2
          go_region
          all_goals
            go_wp2
            go_roundw
            case rel =>
              obtain ⟨D'', p1, p2, p3⟩ := HFIN.out
              exact ⟨K, rfl, by omega, by omega, D'', p1, p2, p3 _, ((HST.out.drewN _).setCell _ _ (.inl rfl)).setCell _ _ (.inl rfl)⟩
            case measure => simp [intOf]; omega
        · have hkT' : ¬ (i : Int) < (k : Int) := by omega
          have HFIN := hidden (show SymP O D g a b w wr by
            obtain ⟨D', m1, m2, m3, m4⟩ := hrest.out
            have e : k = i := by omega
            subst e
            have h0 := Ham.out
            rw [← h0]
            exact ⟨D', dn_srt (by have := Hn.out; omega) (by rw [m1.length_eq]) m1 (by have := hli.out; omega) (by have := hli.out; omega) HS.out HL.out HR.out m2, m3, m4⟩)
          clear hrest
          go_wp2
          (try simp only [Exit.inBlock, Exit.then])
          refine bodyPost_ret (results_none rfl _ _ _) rfl ?_
          exact ⟨⟨_, rfl⟩, HFIN.out⟩

end Go.Proofs.YtcgjmkcigmmjjaaGreatDoor

namespace Go.Proofs.YtcgjmkcigmmjjaaGreatDoor
open Go.RowKit
set_option maxRecDepth 100000
set_option linter.unusedVariables false
/-- What a turn leaves. -/
def RotP (D : List Int) (g a m b : Nat) (w w' : World) : Prop := ∃ D', List.Perm D' D ∧ (∀ k, k < D.length → D'.getD k 0 = D.getD (rotI a m b k) 0) ∧ Row w' g D' ∧ Step (fun k => k = g) w w'

/-- While it turns. -/
def RotQ (D : List Int) (g a m b i j : Nat) (w w' : World) : Prop := ∃ D', List.Perm D' D ∧ (∀ k, k < D.length → D'.getD (rotI (m - i) m (m + j) k) 0 = D.getD (rotI a m b k) 0) ∧ Row w' g D' ∧ Step (fun k => k = g) w w'

/-- What the change of places leaves. -/
def SwpP (D : List Int) (g a b n : Nat) (w w' : World) : Prop := ∃ D', List.Perm D' D ∧ (∀ k, k < D.length → D'.getD k 0 = swr D a b n k) ∧ Row w' g D' ∧ Step (fun k => k = g) w w'

theorem swap_q {D D' : List Int} {g a b n : Nat} {w u u' : World} (hp : List.Perm D' D) (hs : Step (fun k => k = g) w u) (h : SwpP D' g a b n u u') (hn : D'.length = D.length) : ∃ D'', List.Perm D'' D ∧ (∀ k, k < D.length → D''.getD k 0 = D'.getD (swI a b n k) 0) ∧ Row u' g D'' ∧ Step (fun k => k = g) w u' := by
  obtain ⟨D'', h1, h2, h3, h4⟩ := h
  exact ⟨D'', h1.trans hp, fun k hk => by rw [h2 k (by omega), swr_idx], h3, hs.trans h4 (fun i hi => .inl hi)⟩

set_option maxHeartbeats 600000 in
theorem rotate_any (g : Nat) (D : List Int) (a m b cap : Nat) (cv : Value) (w : World) (hD : Row w g D) (ham : a < m) (hmb : m < b) (hb : b ≤ D.length) (hn : D.length ≤ 100000) :
    Calls Tryz.prog 111 #[.slice (some ⟨g, 0, none⟩) D.length cap, .int .i64 (a : Int), .int .i64 (m : Int), .int .i64 (b : Int), cv] w
      fun e w' => (∃ u, e = .returned u) ∧ RotP D g a m b w w' := by
  have HD := hidden hD
  obtain ⟨N, hnn⟩ : ∃ N, N = D.length := ⟨_, rfl⟩
  have Hn := hidden hnn
  rw [← hnn] at hb hn ⊢
  clear hD hnn
  obtain ⟨i0, hi0⟩ : ∃ i0, i0 = m - a := ⟨_, rfl⟩
  obtain ⟨j0, hj0⟩ : ∃ j0, j0 = b - m := ⟨_, rfl⟩
  have ei : (m : Int) - (a : Int) = (i0 : Int) := by omega
  have ej : (b : Int) - (m : Int) = (j0 : Int) := by omega
  have HI0 := hidden (show m - i0 = a ∧ m + j0 = b by omega)
  have hi2 : i0 + a ≤ m := by omega
  have hj2 : j0 + m ≤ b := by omega
  have hi3 : 0 < i0 := by omega
  have hj3 : 0 < j0 := by omega
  clear hi0 hj0
  go_enter Tryz.func111, Tryz.ntmps111
  go_wp2
  go_loopw [10, 11] (fun iv jv wr => ∃ i j : Nat, iv = .int .i64 (i : Int) ∧ jv = .int .i64 (j : Int) ∧ 0 < i ∧ 0 < j ∧ i ≤ i0 ∧ j ≤ j0 ∧ Hid (RotQ D g a m b i j w wr)) (fun iv jv _ => (intOf iv + intOf jv).toNat)
  case atStart => exact ⟨i0, j0, rfl, rfl, by omega, by omega, by omega, by omega, D, List.Perm.refl _, (fun k hk => by rw [HI0.out.1, HI0.out.2]), HD.out, Step.refl _ _⟩
  case round =>
    obtain ⟨i, j, rfl, rfl, hi0', hj0', hi1, hj1, hrest⟩ := hrel
    obtain ⟨D', m1, m2, m3, m4⟩ := hrest.out
    have hl' : D'.length = N := by rw [m1.length_eq]; exact Hn.out.symm
    have hll : D'.length = D.length := m1.length_eq
    obtain ⟨P, hP⟩ : ∃ P, P = m - i := ⟨_, rfl⟩
    have eP : (m : Int) - (i : Int) = (P : Int) := by omega
    have HP := hidden hP
    have hP2 : P + i = m := by omega
    clear hP
    have HM := hidden (And.intro m1 (And.intro m2 (And.intro m4 hll)))
    by_cases hne : i = j
    · subst hne
      have hbb : ((i : Int) != (i : Int)) = false := by simp
      have HSW := hidden (show Calls Tryz.prog _ _ _ (fun e w' => (∃ u, e = .returned u) ∧ SwpP D' g P m i wr w') from swapRange_any g D' P m i cap cv wr m3 (by omega) (by omega) (by omega) (by omega))
      rw [hl'] at HSW
      clear m1 m2 m3 m4 hrest hll hl'
      go_wp2_with fail
      refine HSW.out.mono ?_
      rintro e w2 ⟨⟨u, rfl⟩, hs⟩
      have HF := hidden (show RotP D g a m b w w2 by
        obtain ⟨D'', p1, p2, p3, p4⟩ := swap_q HM.out.1 (HM.out.2.2.1) hs HM.out.2.2.2
        exact ⟨D'', p1, fun k hk => by rw [p2 k hk, HP.out, rot_same (by omega) (by omega)]; exact HM.out.2.1 k hk, p3, p4⟩)
      clear hs
      go_wp2
      go_end0
      exact ⟨⟨_, rfl⟩, HF.out⟩
    · have hbb : ((i : Int) != (j : Int)) = true := by rw [bne_iff_ne]; omega
      by_cases hgt : j < i
      · have hg : (j : Int) < (i : Int) := by omega
        have HSW := hidden (show Calls Tryz.prog _ _ _ (fun e w' => (∃ u, e = .returned u) ∧ SwpP D' g P m j wr w') from swapRange_any g D' P m j cap cv wr m3 (by omega) (by omega) (by omega) (by omega))
        rw [hl'] at HSW
        clear m1 m2 m3 m4 hrest hll hl'
        go_wp2_with fail
        refine HSW.out.mono ?_
        rintro e w2 ⟨⟨u, rfl⟩, hs⟩
        have HF := hidden (show RotQ D g a m b (i - j) j w w2 by
          obtain ⟨D'', p1, p2, p3, p4⟩ := swap_q HM.out.1 (HM.out.2.2.1) hs HM.out.2.2.2
          exact ⟨D'', p1, fun k hk => by rw [p2 _ (rotI_lt (by omega) (by omega) (by have := Hn.out; omega) hk), HP.out, rot_big hgt (by omega) hj0']; exact HM.out.2.1 k hk, p3, p4⟩)
        clear hs
        go_wp2
        go_roundw
        case rel => exact ⟨i - j, j, by go_num, rfl, by omega, by omega, by omega, by omega, HF.out⟩
        case measure => simp [intOf]; omega
      · have hg : ¬ (j : Int) < (i : Int) := by omega
        obtain ⟨R, hR⟩ : ∃ R, R = m + j - i := ⟨_, rfl⟩
        have eR : (m : Int) + (j : Int) - (i : Int) = (R : Int) := by omega
        have HR := hidden hR
        have hR2 : R + i = m + j := by omega
        clear hR
        have HSW := hidden (show Calls Tryz.prog _ _ _ (fun e w' => (∃ u, e = .returned u) ∧ SwpP D' g P R i wr w') from swapRange_any g D' P R i cap cv wr m3 (by omega) (by omega) (by omega) (by omega))
        rw [hl'] at HSW
        clear m1 m2 m3 m4 hrest hll hl'
        go_wp2_with fail
        refine HSW.out.mono ?_
        rintro e w2 ⟨⟨u, rfl⟩, hs⟩
        have HF := hidden (show RotQ D g a m b i (j - i) w w2 by
          obtain ⟨D'', p1, p2, p3, p4⟩ := swap_q HM.out.1 (HM.out.2.2.1) hs HM.out.2.2.2
          exact ⟨D'', p1, fun k hk => by rw [p2 _ (rotI_lt (by omega) (by omega) (by have := Hn.out; omega) hk), HP.out, HR.out, rot_small (by omega) (by omega) hi0']; exact HM.out.2.1 k hk, p3, p4⟩)
        clear hs
        go_wp2
        go_roundw
        case rel => exact ⟨i, j - i, rfl, by go_num, by omega, by omega, by omega, by omega, HF.out⟩
        case measure => simp [intOf]; omega

end Go.Proofs.YtcgjmkcigmmjjaaGreatDoor

namespace Go.Proofs.YtcgjmkcigmmjjaaGreatDoor
open Go.RowKit
set_option maxRecDepth 100000
set_option linter.unusedVariables false
/-- Stretches of k symbols are merged. -/
def MergeOk (k : Nat) : Prop := ∀ (O : List Int) (v : Value) (B g : Nat) (D : List Int) (a m b cap : Nat) (w : World), Env w B g v O → Row w g D → InO O D → a < m → m < b → b ≤ D.length → Sr O D a m → Sr O D m b → D.length ≤ 100000 → O.length ≤ 100000 → b - a = k →
  Calls Tryz.prog 110 #[.slice (some ⟨g, 0, none⟩) D.length cap, .int .i64 (a : Int), .int .i64 (m : Int), .int .i64 (b : Int), cmpV B] w
      fun e w' => (∃ u, e = .returned u) ∧ SymP O D g a b w w'

/-- Behind the turn: the row, both halves ready to be merged. -/
structure Turned (O D : List Int) (g a s mid e b : Nat) (w w' : World) (D2 : List Int) : Prop where
  perm : List.Perm D2 D
  out : ∀ k, k < a ∨ b ≤ k → D2.getD k 0 = D.getD k 0
  s1 : Sr O D2 a s
  s2 : Sr O D2 s mid
  s3 : Sr O D2 mid e
  s4 : Sr O D2 e b
  cross : ∀ p q, a ≤ p → p < mid → mid ≤ q → q < b → key O (D2.getD p 0) ≤ key O (D2.getD q 0)
  row : Row w' g D2
  stb : EqA O D → EqA O D2
  st : Step (fun k => k = g) w w'

theorem turned_of {O D D2 : List Int} {g a m b mid s e : Nat} {w w' : World} (ham : a < m) (hmb : m < b) (hb : b ≤ D.length) (has : a ≤ s) (hsm : s ≤ m) (hme : m ≤ e) (heb : e ≤ b) (hmid : mid + m = s + e) (hsd : s ≤ mid) (h1 : Sr O D a m) (h2 : Sr O D m b)
    (hx : a < s → e < b → key O (D.getD (s - 1) 0) ≤ key O (D.getD e 0)) (hy : s < m → m < e → key O (D.getD (e - 1) 0) < key O (D.getD s 0)) (hp : List.Perm D2 D) (H : ∀ k, k < D.length → D2.getD k 0 = D.getD (rotI s m e k) 0) (hr : Row w' g D2) (hs : Step (fun k => k = g) w w') : Turned O D g a s mid e b w w' D2 := by
  obtain ⟨r1, r2, r3, r4, r5⟩ := rot_cross ham hmb hb has hsm hme heb hmid hsd h1 h2 hx (fun x y => Int.le_of_lt (hy x y)) H
  refine ⟨hp, fun k hk => ?_, r1, r2, r3, r4, r5, hr, rot_stb hp.length_eq hb has hsm hme heb hmid h1 h2 hy H, hs⟩
  by_cases hkl : k < D.length
  · rw [H k hkl]; unfold rotI; rw [if_neg (by omega), if_neg (by omega)]
  · have := hp.length_eq
    rw [getD_far _ _ (by omega), getD_far _ _ (by omega)]

/-- One half merged, or nothing to be done. -/
def Half (O D : List Int) (g a b : Nat) (w w' : World) : Prop := ∃ D', Srt O D a b D' ∧ Row w' g D' ∧ Step (fun k => k = g) w w'

theorem rotI_none {s m e k : Nat} (h : ¬ (s < m ∧ m < e)) (h1 : s ≤ m) (h2 : m ≤ e) : rotI s m e k = k := by
  unfold rotI
  repeat' split
  all_goals omega

/-- A half as it is. -/
theorem Half.asis {O D : List Int} {g a s mid : Nat} {w : World} (h : ¬ (a < s ∧ s < mid)) (has : a ≤ s) (hsd : s ≤ mid) (h1 : Sr O D a s) (h2 : Sr O D s mid) (hr : Row w g D) : Half O D g a mid w w := by
  refine ⟨D, Srt.of_sr ?_, hr, Step.refl _ _⟩
  by_cases e1 : a = s
  · subst e1; exact h2
  · have e2 : s = mid := by omega
    subst e2; exact h1

theorem halves {O D D2 D3 : List Int} {g a s mid e b : Nat} {w w2 w3 w4 : World} (T : Turned O D g a s mid e b w w2 D2) (hb : b ≤ D.length) (h1 : a ≤ mid) (h2 : mid ≤ b) (x : Srt O D2 a mid D3) (y : Step (fun k => k = g) w2 w3) (z : Half O D3 g mid b w3 w4) : SymP O D g a b w w4 := by
  obtain ⟨D4, p1, p2, p3⟩ := z
  have l := T.perm.length_eq
  have j := Srt.join h1 h2 (by omega) T.cross x p1
  exact ⟨D4, ⟨j.perm.trans T.perm, fun k hk => (j.out k hk).trans (T.out k hk), j.sr, fun h => j.stb (T.stb h)⟩, p2, (T.st.trans y (fun i hi => .inl hi)).trans p3 (fun i hi => .inl hi)⟩

end Go.Proofs.YtcgjmkcigmmjjaaGreatDoor
