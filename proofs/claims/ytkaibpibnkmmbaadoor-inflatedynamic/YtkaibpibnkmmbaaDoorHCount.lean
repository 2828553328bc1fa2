/-
  count: of each length how many.
-/
import Derived.Test.YtkaibpibnkmmbaaDoorHFill
namespace Go.Proofs.YtkaibpibnkmmbaaDoor
open Go.RowKit
set_option maxRecDepth 100000

/-- Are they lengths? -/
def okB (L : List Int) : Bool := decide (L.length ≤ 320) && L.all fun x => decide (0 ≤ x) && decide (x ≤ 15)

theorem okB_iff (L : List Int) : okB L = true ↔ L.length ≤ 320 ∧ ∀ x ∈ L, 0 ≤ x ∧ x ≤ 15 := by
  unfold okB
  simp [List.all_eq_true]

/-- How many codes of each length. -/
def cf (L : List Int) (k : Nat) : Int := if k = 0 then 0 else (L.count (k : Int) : Int)

theorem cf_nil (k : Nat) : cf [] k = 0 := by simp [cf]
theorem cf_bd (L : List Int) (k : Nat) : 0 ≤ cf L k ∧ cf L k ≤ L.length := by
  unfold cf
  have := List.count_le_length (a := (k : Int)) (l := L)
  split <;> omega
theorem cf_zero (L : List Int) (k : Nat) : cf (L ++ [0]) k = cf L k := by
  unfold cf
  split
  · rfl
  · rw [List.count_append, List.count_singleton]
    have : ¬ ((0 : Int) = (k : Int)) := by omega
    simp [this]
theorem cf_snoc (L : List Int) (n k : Nat) (h : 0 < n) : cf (L ++ [(n : Int)]) k = upd (cf L) n (cf L n + 1) k := by
  unfold cf upd
  rw [List.count_append, List.count_singleton]
  by_cases e : k = n
  · subst e
    have : ¬ k = 0 := by omega
    simp [this]
  · have e2 : ¬ ((n : Int) = (k : Int)) := by omega
    by_cases e3 : k = 0
    · simp [e3]
      omega
    · simp [e, e2, e3]

theorem take_snoc_i (L : List Int) (k : Nat) (h : k < L.length) : L.take (k + 1) = L.take k ++ [L.getD k 0] := by
  rw [List.take_succ_eq_append_getElem h, getD_i L k h]

theorem okB_bad {L : List Int} {k : Nat} (hk : k < L.length) (h : ¬ (0 ≤ L.getD k 0 ∧ L.getD k 0 ≤ 15)) : okB L = false := by
  cases e : okB L with
  | false => rfl
  | true =>
    refine absurd (((okB_iff L).1 e).2 (L.getD k 0) ?_) h
    rw [getD_i L k hk]
    exact List.getElem_mem hk

/-- The first k are lengths. -/
def okTo (L : List Int) (k : Nat) : Prop := ∀ j, j < k → 0 ≤ L.getD j 0 ∧ L.getD j 0 ≤ 15
theorem okTo_all {L : List Int} (h : okTo L L.length) (h2 : L.length ≤ 320) : okB L = true := by
  rw [okB_iff]
  refine ⟨h2, fun x hx => ?_⟩
  obtain ⟨j, hj, rfl⟩ := List.mem_iff_getElem.1 hx
  have := h j hj
  rwa [getD_i L j hj] at this
theorem okTo_succ {L : List Int} {k : Nat} (h : okTo L k) (h2 : 0 ≤ L.getD k 0 ∧ L.getD k 0 ≤ 15) : okTo L (k + 1) := by
  intro j hj
  by_cases e : j = k
  · rw [e]; exact h2
  · exact h j (by omega)

theorem hs_cell {S : Nat → Prop} {w w' : World} (h : Step S w w') {p : Addr} {v : Value} (hc : w.cell? p = some v) (hS : ¬ S p.block := by exact fun h => h) : w'.cell? p = some v := h.cell hc hS

/-- What a call of count leaves. -/
def Counted (L : List Int) (w : World) (e : Ending) (w' : World) : Prop :=
  ∃ i, e = .returned (.tuple #[.agg (A16 (cf (L.take i))), .bool (okB L)]) ∧ (okB L = true → L.take i = L) ∧ Step (fun _ => False) w w'

set_option maxHeartbeats 1000000 in
theorem count_any (v : Value) (L : List Int) (w : World) (h : Ri w v L) (hl : L.length ≤ 9223372036854775807) :
    Calls Tryd.prog 48 #[v] w (Counted L w) := by
  obtain ⟨ao, cap, rfl, hcap, h1, h2⟩ := h
  by_cases h320 : L.length ≤ 320
  · have H1 := hidden h1
    have H2 := hidden h2
    obtain ⟨n, hn⟩ : ∃ n, n = L.length := ⟨_, rfl⟩
    have Hn := hidden hn
    rw [← hn] at h320 hl hcap ⊢
    clear h1 h2 hn
    go_enter Tryd.func48, Tryd.ntmps48
    go_wp2_with (refine alloc16 ?_)
    intro w1 hs1 hz1 ha1
    go_wp2_with (refine alloc16 ?_)
    intro w2 hs2 hz2 ha2
    have HR := hidden (And.intro (hs1.made hs2) (And.intro (ha1.made hs2) ha2))
    clear hs1 ha1 hs2 ha2
    go_wp2
    go_loopw [6, 13] (fun _ i wr => ∃ k : Nat, k ≤ n ∧ i = .int .i64 k ∧ Hid (Step (fun _ => False) w wr ∧ Af wr w.heap.size 16 (fun _ => 0) ∧ Af wr w1.heap.size 16 (cf (L.take k)) ∧ okTo L k)) (fun _ i _ => n - (intOf i).toNat)
    case atStart => exact ⟨0, Nat.zero_le _, rfl, HR.out.1, HR.out.2.1, HR.out.2.2.congr (fun k _ => (cf_nil k).symm), fun j hj => by omega⟩
    case round =>
      obtain ⟨k, hk, rfl, hrest⟩ := hrel
      obtain ⟨hst, hA0, hA, hok⟩ := hrest.out
      have HS := hidden hst
      have HA0 := hidden hA0
      have HA := hidden hA
      have HO := hidden hok
      clear hst hA0 hA hok hrest
      by_cases hlt : k < n
      · cases ao with
        | none => have := (H1.out rfl).1; have := Hn.out; subst L; simp at this; omega
        | some a =>
          obtain ⟨ba, oa, rfl, ka⟩ := H2.out a rfl (by intro e; have := Hn.out; subst e; simp at this; omega)
          have hkL : k < L.length := by have := Hn.out; omega
          have ca := hs_cell HS.out (ka k hkL)
          have ts := take_snoc_i L k hkL
          have HT := hidden ts
          clear ka ts
          have k1 : (k : Int) < (n : Int) := by omega
          by_cases hin : 0 ≤ L.getD k 0 ∧ L.getD k 0 ≤ 15
          · have HO2 := hidden (okTo_succ HO.out hin)
            obtain ⟨x0, x1⟩ := hin
            obtain ⟨x, hx⟩ := Int.eq_ofNat_of_zero_le x0
            rw [hx] at ca x0 x1 HT
            have HX := hidden hx
            clear hx x0
            by_cases hz : x = 0
            · subst hz
              go_wp2
              go_roundw
              case rel => exact ⟨k + 1, by omega, by go_num, HS.out, HA0.out, HA.out.congr (fun j _ => by rw [HT.out]; exact (cf_zero _ j).symm), HO2.out⟩
              case measure => simp [intOf]; omega
            · have hx0 : (0 : Int) < (x : Int) := by omega
              have hx16 : x < 16 := by omega
              have hc := HA.out x hx16
              have hb := cf_bd (L.take k) x
              have hlen : (L.take k).length ≤ 320 := by simp; omega
              obtain ⟨hc1, hc2⟩ := hc
              go_wp2
              go_roundw
              case rel =>
                refine ⟨k + 1, by omega, by go_num, HS.out.setCell _ _ (.inr ?_), ?_, ?_, HO2.out⟩
                · show w.heap.size ≤ w1.heap.size
                  omega
                · exact HA0.out.far _ _ (by show w1.heap.size ≠ w.heap.size; omega)
                · exact (HA.out.set x _).congr (fun j _ => by rw [HT.out, cf_snoc _ _ _ (by omega)])
              case measure => simp [intOf]; omega
          · have HB := hidden (okB_bad hkL hin)
            clear HT
            generalize L.getD k 0 = x at *
            by_cases hneg : x < 0
            · go_wp2_with (first | (refine load16 w1.heap.size (cf (L.take k)) rfl HA.out ?_) | (refine store16 w.heap.size (cf (L.take k)) (fun _ => 0) rfl rfl HA0.out ?_))
              intro w3 hs3 ha3
              have HR3 := hidden (And.intro (HS.out.trans hs3 (fun i hi => .inr (by omega))) ha3)
              clear hs3 ha3
              go_wp2
              refine bodyPost_ret (v := .tuple #[.agg (A16 (cf (L.take k))), .bool (okB L)]) ?_ rfl ⟨k, rfl, fun h => ?_, HR3.out.1⟩
              · have := HR3.out.2.load
                rw [HB.out]
                simp [results, Tryd.results48, asAddr, Result.andThen, this]
              · rw [HB.out] at h; cases h
            · have hpos : ¬ x < 0 := hneg
              have hbig : 15 < x := by omega
              go_wp2_with (first | (refine load16 w1.heap.size (cf (L.take k)) rfl HA.out ?_) | (refine store16 w.heap.size (cf (L.take k)) (fun _ => 0) rfl rfl HA0.out ?_))
              intro w3 hs3 ha3
              have HR3 := hidden (And.intro (HS.out.trans hs3 (fun i hi => .inr (by omega))) ha3)
              clear hs3 ha3
              go_wp2
              refine bodyPost_ret (v := .tuple #[.agg (A16 (cf (L.take k))), .bool (okB L)]) ?_ rfl ⟨k, rfl, fun h => ?_, HR3.out.1⟩
              · have := HR3.out.2.load
                rw [HB.out]
                simp [results, Tryd.results48, asAddr, Result.andThen, this]
              · rw [HB.out] at h; cases h
      · have hkn : k = L.length := by have := Hn.out; omega
        have HB := hidden (okTo_all (hkn ▸ HO.out) (by omega))
        clear hkn
        go_wp2_with (first | (refine load16 w1.heap.size (cf (L.take k)) rfl HA.out ?_) | (refine store16 w.heap.size (cf (L.take k)) (fun _ => 0) rfl rfl HA0.out ?_))
        intro w3 hs3 ha3
        have HR3 := hidden (And.intro (HS.out.trans hs3 (fun i hi => .inr (by omega))) ha3)
        clear hs3 ha3
        go_wp2
        refine bodyPost_ret (v := .tuple #[.agg (A16 (cf (L.take k))), .bool (okB L)]) ?_ rfl ⟨k, rfl, fun h => ?_, HR3.out.1⟩
        · have := HR3.out.2.load
          rw [HB.out]
          simp [results, Tryd.results48, asAddr, Result.andThen, this]
        · exact List.take_of_length_le (by have := Hn.out; omega)
  · have e1 : okB L = false := by
      cases e : okB L with
      | false => rfl
      | true => exact absurd ((okB_iff L).1 e).1 h320
    have hgt : (320 : Int) < (L.length : Int) := by omega
    generalize hn : L.length = n at *
    have E1 := hidden e1
    clear h320 e1 h1 h2 hn
    go_enter Tryd.func48, Tryd.ntmps48
    go_wp2_with (refine alloc16 ?_)
    intro w1 hs1 hz1 ha1
    go_wp2_with (refine alloc16 ?_)
    intro w2 hs2 hz2 ha2
    have HR := hidden (And.intro (hs1.made hs2) (And.intro (ha1.made hs2) ha2))
    clear hs1 ha1 hs2 ha2
    go_wp2_with (first | (refine load16 _ (fun _ => 0) rfl HR.out.2.2 ?_) | (refine store16 w.heap.size (fun _ => 0) (fun _ => 0) rfl rfl HR.out.2.1 ?_))
    intro w3 hs3 ha3
    have HR3 := hidden (And.intro (HR.out.1.trans hs3 (fun i hi => .inr (by omega))) ha3)
    clear hs3 ha3
    go_wp2
    refine bodyPost_ret (v := .tuple #[.agg (A16 (cf (L.take 0))), .bool (okB L)]) ?_ rfl ⟨0, rfl, fun h => ?_, HR3.out.1⟩
    · have := HR3.out.2.load
      rw [E1.out]
      simp [results, Tryd.results48, asAddr, Result.andThen, this]
      exact A16_congr (fun k _ => (cf_nil k).symm)
    · rw [E1.out] at h; cases h
end Go.Proofs.YtkaibpibnkmmbaaDoor
