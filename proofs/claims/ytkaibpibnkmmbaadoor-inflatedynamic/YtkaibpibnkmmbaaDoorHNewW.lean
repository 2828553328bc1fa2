/-
  New: a decoder.
-/
import Derived.Test.YtkaibpibnkmmbaaDoorHNew
namespace Go.Proofs.YtkaibpibnkmmbaaDoor
open Go.RowKit
set_option maxRecDepth 100000
set_option linter.unusedVariables false

/-- A decoder's cells as New lays them. -/
def D21 (f : Nat → Int) (b tot : Nat) : Array Value := #[.int .i64 (f 0), .int .i64 (f 1), .int .i64 (f 2), .int .i64 (f 3), .int .i64 (f 4), .int .i64 (f 5), .int .i64 (f 6), .int .i64 (f 7), .int .i64 (f 8), .int .i64 (f 9), .int .i64 (f 10), .int .i64 (f 11), .int .i64 (f 12), .int .i64 (f 13), .int .i64 (f 14), .int .i64 (f 15), .slice (some ⟨b, 0, none⟩) tot tot, .int .i64 0, .int .i64 0, .int .i64 0, .int .i64 0]

theorem built21 (f : Nat → Int) (b tot : Nat) : Tryd.prog.built 91 [(0, .agg (A16 f)), (1, .slice (some ⟨b, 0, none⟩) tot tot)] = some (D21 f b tot) := by kernel_rfl

/-- A decoder of lengths L in block d: its code so far, and how many bits. -/
structure Dec (w : World) (d : Nat) (L : List Int) (bs tot : Nat) (code len : Nat) : Prop where
  cn : ∀ k, k < 16 → w.cell? ⟨d, k, none⟩ = some (.int .i64 (cf L k))
  cs : w.cell? ⟨d, 16, none⟩ = some (.slice (some ⟨bs, 0, none⟩) tot tot)
  sy : ∀ i, i < L.length → 0 < L.getD i 0 → w.cell? ⟨bs, (pos L i).toNat, none⟩ = some (.int .i64 (i : Int))
  c1 : w.cell? ⟨d, 17, none⟩ = some (.int .i64 (code : Int))
  c2 : w.cell? ⟨d, 18, none⟩ = some (.int .i64 (len : Int))
  c3 : w.cell? ⟨d, 19, none⟩ = some (.int .i64 (stf (cf L) len))
  c4 : w.cell? ⟨d, 20, none⟩ = some (.int .i64 (plc (cf L) len))
  fz : ∀ k, 17 ≤ k → k ≤ 20 → w.frozen? ⟨d, k, none⟩ = false
  to : plc (cf L) 16 = (tot : Int)
  ne : bs ≠ d

theorem D21_get (f : Nat → Int) (b tot k : Nat) (h : k < 16) : (D21 f b tot)[k]? = some (.int .i64 (f k)) := by
  have : k = 0 ∨ k = 1 ∨ k = 2 ∨ k = 3 ∨ k = 4 ∨ k = 5 ∨ k = 6 ∨ k = 7 ∨ k = 8 ∨ k = 9 ∨ k = 10 ∨ k = 11 ∨ k = 12 ∨ k = 13 ∨ k = 14 ∨ k = 15 := by omega
  rcases this with rfl | rfl | rfl | rfl | rfl | rfl | rfl | rfl | rfl | rfl | rfl | rfl | rfl | rfl | rfl | rfl <;> rfl

theorem Dec.new {w : World} {L : List Int} {bs tot : Nat} (hb : bs < w.heap.size) (hs : ∀ i, i < L.length → 0 < L.getD i 0 → w.cell? ⟨bs, (pos L i).toNat, none⟩ = some (.int .i64 (i : Int))) (ht : plc (cf L) 16 = (tot : Int)) (t : TypeId) :
    Dec (w.alloc (.cells (D21 (cf L) bs tot) t)) w.heap.size L bs tot 0 0 := by
  have hc : ∀ k v, (D21 (cf L) bs tot)[k]? = some v → (w.alloc (.cells (D21 (cf L) bs tot) t)).cell? ⟨w.heap.size, k, none⟩ = some v := fun k v h => by rw [World.cell?_alloc_at _ _ _ _ rfl]; exact h
  refine ⟨fun k hk => hc k _ (D21_get _ _ _ k hk), hc 16 _ rfl, fun i h1 h2 => ?_, hc 17 _ rfl, hc 18 _ rfl, hc 19 _ rfl, hc 20 _ rfl, fun k _ _ => World.frozen?_alloc_at _ _ _ _ rfl, ht, by omega⟩
  rw [World.cell?_alloc_past _ _ _ hb]
  exact hs i h1 h2

theorem Dec.made {w w' : World} {d : Nat} {L : List Int} {bs tot code len : Nat} (h : Dec w d L bs tot code len) (hs : Step (fun _ => False) w w') : Dec w' d L bs tot code len :=
  ⟨fun k hk => hs.cell (h.cn k hk) (fun h => h), hs.cell h.cs (fun h => h), fun i h1 h2 => hs.cell (h.sy i h1 h2) (fun h => h), hs.cell h.c1 (fun h => h), hs.cell h.c2 (fun h => h), hs.cell h.c3 (fun h => h), hs.cell h.c4 (fun h => h),
    fun k h1 h2 => (hs.frozen (p := ⟨d, k, none⟩) (World.block_lt_of_cell? w ⟨d, 17, none⟩ h.c1) (fun h => h)).trans (h.fz k h1 h2), h.to, h.ne⟩

/-- The error of New. -/
def newErr (L : List Int) : Int := if okB L = true then (if fl (cf L) 16 = 32768 ∨ fewB (cf L) = true then 0 else 21) else 1

/-- What New leaves. -/
def NewP (L : List Int) (w : World) (e : Ending) (w' : World) : Prop :=
  (newErr L ≠ 0 ∧ e = .returned (.tuple #[.pointer none, .int .i64 (newErr L)]) ∧ Step (fun _ => False) w w') ∨
  (newErr L = 0 ∧ ∃ d bs tot, e = .returned (.tuple #[.pointer (some ⟨d, 0, none⟩), .int .i64 0]) ∧ w.heap.size ≤ d ∧ w.heap.size ≤ bs ∧ Dec w' d L bs tot 0 0 ∧ Step (fun _ => False) w w')

/-- What each operation of New's last region leaves. -/
def NF (a : Option Addr) (len cap : Nat) (w0 : World) (L : List Int) (tot : Nat) : Nat → World → Value → Prop
  | 1, _, v => v = .slice a len cap
  | 3, u, v => ∃ b, v = .slice (some ⟨b, 0, none⟩) tot tot ∧ w0.heap.size ≤ b ∧ b < u.heap.size ∧ ∀ i, i < L.length → 0 < L.getD i 0 → u.cell? ⟨b, (pos L i).toNat, none⟩ = some (.int .i64 (i : Int))
  | 4, u, v => ∃ b, v = .agg (D21 (cf L) b tot) ∧ w0.heap.size ≤ b ∧ b < u.heap.size ∧ ∀ i, i < L.length → 0 < L.getD i 0 → u.cell? ⟨b, (pos L i).toNat, none⟩ = some (.int .i64 (i : Int))
  | 5, u, v => ∃ d b, v = .pointer (some ⟨d, 0, none⟩) ∧ w0.heap.size ≤ d ∧ w0.heap.size ≤ b ∧ Dec u d L b tot 0 0
  | 6, u, v => ∃ d b, v = .pointer (some ⟨d, 0, none⟩) ∧ w0.heap.size ≤ d ∧ w0.heap.size ≤ b ∧ Dec u d L b tot 0 0
  | 7, _, v => v = .int .i64 0
  | _, _, v => v = .agg (A16 (cf L))

theorem NF.mono {a : Option Addr} {len cap : Nat} {w0 : World} {L : List Int} {tot : Nat} (k : Nat) (u u' : World) (v : Value) (h : NF a len cap w0 L tot k u v) (hs : Step (fun _ => False) u u') : NF a len cap w0 L tot k u' v := by
  have hsz := hs.size
  match k, h with
  | 0, h => exact h
  | 1, h => exact h
  | 2, h => exact h
  | 3, ⟨b, h1, h2, h3, h4⟩ => exact ⟨b, h1, h2, by omega, fun i a1 a2 => hs.cell (h4 i a1 a2) (fun h => h)⟩
  | 4, ⟨b, h1, h2, h3, h4⟩ => exact ⟨b, h1, h2, by omega, fun i a1 a2 => hs.cell (h4 i a1 a2) (fun h => h)⟩
  | 5, ⟨d, b, h1, h2, h3, h4⟩ => exact ⟨d, b, h1, h2, h3, h4.made hs⟩
  | 6, ⟨d, b, h1, h2, h3, h4⟩ => exact ⟨d, b, h1, h2, h3, h4.made hs⟩
  | 7, h => exact h
  | n + 8, h => exact h

theorem run_enter {f : FuncId} {fn : Func} {c : Code} (hf : Tryd.prog.funcs[f]? = some fn) (hname : (fn.name == "runtime.NumGoroutine") = false) (hb : fn.body = some c) (args : Array Value) (u : World) :
    (callFunc f args).run Tryd.prog u = .ok (.enter f args) u := by
  have h1 : fn.name ≠ "runtime.NumGoroutine" := by simpa using hname
  simp [callFunc, hf, h1, hb]

theorem run_call2 {f : FuncId} {fn : Func} {c : Code} (hf : Tryd.prog.funcs[f]? = some fn) (hname : (fn.name == "runtime.NumGoroutine") = false) (hb : fn.body = some c) (v v' : Value) (u : World) (o : Oper) (b : Act) (p q : Nat) (t t' : TypeId) (ho : o.op = .call { callee := .value (.func f), args := #[.tmp p, .tmp q], argTypes := #[t, t'] }) (hp : b.eval (.tmp p) = v) (hq : b.eval (.tmp q) = v') :
    (execOp b.eval o).run Tryd.prog u = .ok (.enter f #[v, v']) u := by
  subst hp
  subst hq
  simp [execOp, ho]
  simp [go_sem, run_enter hf hname hb]

set_option maxHeartbeats 2000000 in
theorem new_any (v : Value) (L : List Int) (w : World) (h : Ri w v L) (hl : L.length ≤ 9223372036854775807) :
    Calls Tryd.prog 42 #[v] w (NewP L w) := by
  have HC := hidden (count_any v L w h hl)
  have HR := hidden h
  obtain ⟨ao, cap, rfl, _, _, _⟩ := h
  cases hok : okB L with
  | false =>
    have E := hidden hok
    have X := hidden (show newErr L = 1 by simp [newErr, hok])
    clear hok
    go_enter Tryd.func42, Tryd.ntmps42
    go_wp2_with (go_at_call 48; refine HC.out.mono ?_)
    rintro e w1 ⟨i, rfl, _, hs1⟩
    rw [E.out]
    go_wp2_with (refine alloc16 ?_)
    intro w2 hs2 hz2 ha2
    go_wp2_with (refine store16 _ _ _ rfl rfl ha2 ?_)
    intro w3 hs3 ha3
    have HS := hidden ((hs1.made hs2).trans hs3 (fun i hi => .inr (by have := hs1.size; omega)))
    clear hs1 hs2 hs3 ha2 ha3
    go_wp2
    go_ret2
    exact .inl ⟨by rw [X.out]; omega, by rw [X.out]; rfl, HS.out⟩
  | true =>
    have E := hidden hok
    have HL := hidden ((okB_iff L).1 hok)
    have HB := hidden (fun k => cf_get L k HL.out.1)
    go_enter Tryd.func42, Tryd.ntmps42
    go_wp2_with (go_at_call 48; refine HC.out.mono ?_)
    rintro e w1 ⟨i, rfl, hi, hs1⟩
    rw [hi E.out, E.out]
    go_wp2_with (refine alloc16 ?_)
    intro w2 hs2 hz2 ha2
    go_wp2_with (refine store16 _ _ _ rfl rfl ha2 ?_)
    intro w3 hs3 ha3
    have HS := hidden ((hs1.made hs2).trans hs3 (fun i hi => .inr (by have := hs1.size; omega)))
    have HA := hidden ha3
    clear hs1 hs2 hs3 ha2 ha3 hi hok
    go_wp2_with (refine load16 _ (cf L) rfl HA.out ?_)
    refine (fill_any (cf L) _ (fun k => (HB.out k).1) (fun k => (HB.out k).2)).mono ?_
    rintro e w4 ⟨rfl, hs4⟩
    have HS4 := hidden (HS.out.made hs4)
    have HA4 := hidden (HA.out.made hs4)
    have hcells : ∀ k, k < 16 → w4.cell? ⟨w1.heap.size, k, none⟩ = some (.int .i64 (cf L k)) := fun k hk => (HA4.out k hk).1
    clear hs4
    by_cases hful : fl (cf L) 16 = 32768
    · have X := hidden (show newErr L = 0 by simp [newErr, E.out, hful])
      rw [hful]
      have hbn : ((32768 : Int) != 32768) = false := rfl
      clear hcells
      go_wp2
      have hrun := fun (u : World) (hu : Step (fun _ => False) w4 u) => run_loadAt_mid u w1.heap.size 0 89 (A16 (cf L)).toList _ ((HA4.out.made hu).range) Tryd.underlying89 rfl Tryd.info16
      have HRUN := hidden hrun
      obtain ⟨tot, htot⟩ := Int.eq_ofNat_of_zero_le (plc_nonneg (cf L) (fun k => (cf_bd L k).1) 16)
      have HTOT := hidden htot
      have HBY := hidden (fun (u : World) (hu : Step (fun _ => False) w4 u) => byLength_any (.slice ao L.length cap) L u ((HR.out.made HS4.out).made hu) HL.out.1 HL.out.2 tot htot)
      clear hrun htot
      refine region_inv Tryd.mixed 27 (fun j => if j = 6 then 2 else if j = 7 then 3 else 21 + j) [(0, .slice ao L.length cap), (4, .pointer (some ⟨w1.heap.size, 0, none⟩))] (NF ao L.length cap w L tot) (by kernel_rfl) (fun k u u' v h hs => NF.mono k u u' v h hs) rfl rfl ?rbase ?rops ?rend
      case rbase => intro x hx; simp at hx; rcases hx with rfl | rfl <;> rfl
      case rops =>
        intro j o ho b u hn hs hb hdeps
        have b0 := hb (0, .slice ao L.length cap) (by simp)
        have b4 := hb (4, .pointer (some ⟨w1.heap.size, 0, none⟩)) (by simp)
        have hj : j < 8 := (Array.getElem?_eq_some_iff.1 ho).1
        have hjc : j = 0 ∨ j = 1 ∨ j = 2 ∨ j = 3 ∨ j = 4 ∨ j = 5 ∨ j = 6 ∨ j = 7 := by omega
        have hw4 := HS4.out.size
        have hws := hs.size
        rcases hjc with rfl | rfl | rfl | rfl | rfl | rfl | rfl | rfl
        · simp at ho
          subst ho
          exact ⟨rfl, wp_run (v := .agg (A16 (cf L))) (w' := u) (by simp only [execOp, b4]; rw [Sem.run_bind, HRUN.out u hs]; rfl) ⟨_, rfl, Step.refl _ _, rfl⟩⟩
        · simp at ho
          subst ho
          exact ⟨rfl, wp_run (v := .slice ao L.length cap) (by simp [execOp, b0]) ⟨_, rfl, Step.refl _ _, rfl⟩⟩
        · simp at ho
          subst ho
          exact ⟨rfl, wp_run (v := .agg (A16 (cf L))) (w' := u) (by simp only [execOp, b4]; rw [Sem.run_bind, HRUN.out u hs]; rfl) ⟨_, rfl, Step.refl _ _, rfl⟩⟩
        · simp at ho
          subst ho
          have d0 : b.eval (.tmp 22) = _ := hdeps ⟨1, .data⟩ (by simp) rfl
          have d1 : b.eval (.tmp 23) = _ := hdeps ⟨2, .data⟩ (by simp) rfl
          refine ⟨rfl, wp_enter (run_call2 Tryd.func51 (by kernel_rfl) rfl _ _ u _ b 22 23 _ _ rfl d0 d1) ((HBY.out u hs).mono ?_)⟩
          rintro e w' ⟨bb, rfl, hb1, hb2, hb3, hb4⟩
          exact ⟨_, rfl, _, rfl, hb4, bb, rfl, by omega, hb2, hb3⟩
        · simp at ho
          subst ho
          have d0 : b.eval (.tmp 21) = _ := hdeps ⟨0, .data⟩ (by simp) rfl
          obtain ⟨bb, d1, hb1, hb2, hb3⟩ : ∃ bb, b.eval (.tmp 24) = .slice (some ⟨bb, 0, none⟩) tot tot ∧ _ := hdeps ⟨3, .data⟩ (by simp) rfl
          refine ⟨rfl, wp_run (v := .agg (D21 (cf L) bb tot)) (w' := u) ?_ ⟨_, rfl, Step.refl _ _, bb, rfl, hb1, hb2, hb3⟩⟩
          simp [execOp, d0, d1]
          rw [run_build u _ _ _ (built21 (cf L) bb tot)]
          rfl
        · simp at ho
          subst ho
          obtain ⟨bb, d1, hb1, hb2, hb3⟩ : ∃ bb, b.eval (.tmp 25) = .agg (D21 (cf L) bb tot) ∧ _ := hdeps ⟨4, .data⟩ (by simp) rfl
          refine ⟨rfl, wp_run (v := .pointer (some ⟨u.heap.size, 0, none⟩)) (w' := u.alloc (.cells (D21 (cf L) bb tot) 91)) ?_ ⟨_, rfl, (Step.refl _ _).alloc _, u.heap.size, bb, rfl, by omega, hb1, Dec.new hb2 hb3 HTOT.out _⟩⟩
          simp only [execOp, d1, Instr.box, newVar, Value.cells]
          simp [go_sem]
        · simp at ho
          subst ho
          obtain ⟨dd, bb, d1, hb1, hb2, hb3⟩ : ∃ dd bb, b.eval (.tmp 26) = .pointer (some ⟨dd, 0, none⟩) ∧ _ := hdeps ⟨5, .data⟩ (by simp) rfl
          exact ⟨rfl, wp_run (v := .pointer (some ⟨dd, 0, none⟩)) (w' := u) (by simp [execOp, d1]) ⟨_, rfl, Step.refl _ _, dd, bb, rfl, hb1, hb2, hb3⟩⟩
        · simp at ho
          subst ho
          exact ⟨rfl, wp_run (v := .int .i64 0) (w' := u) (by simp [execOp, Act.eval]) ⟨_, rfl, Step.refl _ _, rfl⟩⟩
      case rend =>
        intro b u hd hn hs hb hF
        obtain ⟨dd, bb, d1, hb1, hb2, hb3⟩ : ∃ dd bb, b.eval (.tmp 2) = .pointer (some ⟨dd, 0, none⟩) ∧ _ := hF 6 (by decide)
        have d2 : b.eval (.tmp 3) = .int .i64 0 := hF 7 (by decide)
        have HFIN := hidden (show NewP L w (.returned (.tuple #[.pointer (some ⟨dd, 0, none⟩), .int .i64 0])) u from .inr ⟨X.out, dd, bb, tot, rfl, hb1, hb2, hb3, HS4.out.made hs⟩)
        obtain ⟨tmps, defers⟩ := b
        simp only at hd
        subst hd
        have hsz : 3 < tmps.size := by simp at hn; omega
        have e1 : tmps.getD 2 undef = .pointer (some ⟨dd, 0, none⟩) := d1
        have e2 : tmps.getD 3 undef = .int .i64 0 := d2
        clear hF hb
        go_wp2
        refine bodyPost_ret (results_tmp2 rfl _ _ _) rfl ?_
        rw [e1, e2]
        exact HFIN.out
    · have hbn : (fl (cf L) 16 != 32768) = true := by rw [bne_iff_ne]; exact hful
      have HFW := hidden (few_any (cf L) w4 (fun k => (HB.out k).1) (fun k => (HB.out k).2))
      unfold A16 at HFW
      cases hfew : fewB (cf L) with
      | true =>
        have X := hidden (show newErr L = 0 by simp [newErr, E.out, hfew])
        rw [hfew] at HFW
        generalize fl (cf L) 16 = F at *
        clear hful hfew
        go_wp2_with fail
        refine HFW.out.mono ?_
        rintro e w5 ⟨rfl, hs5⟩
        have HS5 := hidden (HS4.out.made hs5)
        have HA5 := hidden (HA4.out.made hs5)
        clear hs5 hcells
        go_wp2
        have hrun := fun (u : World) (hu : Step (fun _ => False) w5 u) => run_loadAt_mid u w1.heap.size 0 89 (A16 (cf L)).toList _ ((HA5.out.made hu).range) Tryd.underlying89 rfl Tryd.info16
        have HRUN := hidden hrun
        obtain ⟨tot, htot⟩ := Int.eq_ofNat_of_zero_le (plc_nonneg (cf L) (fun k => (cf_bd L k).1) 16)
        have HTOT := hidden htot
        have HBY := hidden (fun (u : World) (hu : Step (fun _ => False) w5 u) => byLength_any (.slice ao L.length cap) L u ((HR.out.made HS5.out).made hu) HL.out.1 HL.out.2 tot htot)
        clear hrun htot
        refine region_inv Tryd.mixed 27 (fun j => if j = 6 then 2 else if j = 7 then 3 else 21 + j) [(0, .slice ao L.length cap), (4, .pointer (some ⟨w1.heap.size, 0, none⟩))] (NF ao L.length cap w L tot) (by kernel_rfl) (fun k u u' v h hs => NF.mono k u u' v h hs) rfl rfl ?rbase ?rops ?rend
        case rbase => intro x hx; simp at hx; rcases hx with rfl | rfl <;> rfl
        case rops =>
          intro j o ho b u hn hs hb hdeps
          have b0 := hb (0, .slice ao L.length cap) (by simp)
          have b4 := hb (4, .pointer (some ⟨w1.heap.size, 0, none⟩)) (by simp)
          have hj : j < 8 := (Array.getElem?_eq_some_iff.1 ho).1
          have hjc : j = 0 ∨ j = 1 ∨ j = 2 ∨ j = 3 ∨ j = 4 ∨ j = 5 ∨ j = 6 ∨ j = 7 := by omega
          have hw5 := HS5.out.size
          have hws := hs.size
          rcases hjc with rfl | rfl | rfl | rfl | rfl | rfl | rfl | rfl
          · simp at ho
            subst ho
            exact ⟨rfl, wp_run (v := .agg (A16 (cf L))) (w' := u) (by simp only [execOp, b4]; rw [Sem.run_bind, HRUN.out u hs]; rfl) ⟨_, rfl, Step.refl _ _, rfl⟩⟩
          · simp at ho
            subst ho
            exact ⟨rfl, wp_run (v := .slice ao L.length cap) (by simp [execOp, b0]) ⟨_, rfl, Step.refl _ _, rfl⟩⟩
          · simp at ho
            subst ho
            exact ⟨rfl, wp_run (v := .agg (A16 (cf L))) (w' := u) (by simp only [execOp, b4]; rw [Sem.run_bind, HRUN.out u hs]; rfl) ⟨_, rfl, Step.refl _ _, rfl⟩⟩
          · simp at ho
            subst ho
            have d0 : b.eval (.tmp 22) = _ := hdeps ⟨1, .data⟩ (by simp) rfl
            have d1 : b.eval (.tmp 23) = _ := hdeps ⟨2, .data⟩ (by simp) rfl
            refine ⟨rfl, wp_enter (run_call2 Tryd.func51 (by kernel_rfl) rfl _ _ u _ b 22 23 _ _ rfl d0 d1) ((HBY.out u hs).mono ?_)⟩
            rintro e w' ⟨bb, rfl, hb1, hb2, hb3, hb4⟩
            exact ⟨_, rfl, _, rfl, hb4, bb, rfl, by omega, hb2, hb3⟩
          · simp at ho
            subst ho
            have d0 : b.eval (.tmp 21) = _ := hdeps ⟨0, .data⟩ (by simp) rfl
            obtain ⟨bb, d1, hb1, hb2, hb3⟩ : ∃ bb, b.eval (.tmp 24) = .slice (some ⟨bb, 0, none⟩) tot tot ∧ _ := hdeps ⟨3, .data⟩ (by simp) rfl
            refine ⟨rfl, wp_run (v := .agg (D21 (cf L) bb tot)) (w' := u) ?_ ⟨_, rfl, Step.refl _ _, bb, rfl, hb1, hb2, hb3⟩⟩
            simp [execOp, d0, d1]
            rw [run_build u _ _ _ (built21 (cf L) bb tot)]
            rfl
          · simp at ho
            subst ho
            obtain ⟨bb, d1, hb1, hb2, hb3⟩ : ∃ bb, b.eval (.tmp 25) = .agg (D21 (cf L) bb tot) ∧ _ := hdeps ⟨4, .data⟩ (by simp) rfl
            refine ⟨rfl, wp_run (v := .pointer (some ⟨u.heap.size, 0, none⟩)) (w' := u.alloc (.cells (D21 (cf L) bb tot) 91)) ?_ ⟨_, rfl, (Step.refl _ _).alloc _, u.heap.size, bb, rfl, by omega, hb1, Dec.new hb2 hb3 HTOT.out _⟩⟩
            simp only [execOp, d1, Instr.box, newVar, Value.cells]
            simp [go_sem]
          · simp at ho
            subst ho
            obtain ⟨dd, bb, d1, hb1, hb2, hb3⟩ : ∃ dd bb, b.eval (.tmp 26) = .pointer (some ⟨dd, 0, none⟩) ∧ _ := hdeps ⟨5, .data⟩ (by simp) rfl
            exact ⟨rfl, wp_run (v := .pointer (some ⟨dd, 0, none⟩)) (w' := u) (by simp [execOp, d1]) ⟨_, rfl, Step.refl _ _, dd, bb, rfl, hb1, hb2, hb3⟩⟩
          · simp at ho
            subst ho
            exact ⟨rfl, wp_run (v := .int .i64 0) (w' := u) (by simp [execOp, Act.eval]) ⟨_, rfl, Step.refl _ _, rfl⟩⟩
        case rend =>
          intro b u hd hn hs hb hF
          obtain ⟨dd, bb, d1, hb1, hb2, hb3⟩ : ∃ dd bb, b.eval (.tmp 2) = .pointer (some ⟨dd, 0, none⟩) ∧ _ := hF 6 (by decide)
          have d2 : b.eval (.tmp 3) = .int .i64 0 := hF 7 (by decide)
          have HFIN := hidden (show NewP L w (.returned (.tuple #[.pointer (some ⟨dd, 0, none⟩), .int .i64 0])) u from .inr ⟨X.out, dd, bb, tot, rfl, hb1, hb2, hb3, HS5.out.made hs⟩)
          obtain ⟨tmps, defers⟩ := b
          simp only at hd
          subst hd
          have hsz : 3 < tmps.size := by simp at hn; omega
          have e1 : tmps.getD 2 undef = .pointer (some ⟨dd, 0, none⟩) := d1
          have e2 : tmps.getD 3 undef = .int .i64 0 := d2
          clear hF hb
          go_wp2
          refine bodyPost_ret (results_tmp2 rfl _ _ _) rfl ?_
          rw [e1, e2]
          exact HFIN.out
      | false =>
        have X := hidden (show newErr L = 21 by simp [newErr, E.out, hfew, hful])
        rw [hfew] at HFW
        generalize fl (cf L) 16 = F at *
        clear hful hfew
        go_wp2_with fail
        refine HFW.out.mono ?_
        rintro e w5 ⟨rfl, hs5⟩
        have HS5 := hidden (HS4.out.made hs5)
        clear hs5 hcells
        go_wp2
        go_ret2
        exact .inl ⟨by rw [X.out]; omega, by rw [X.out]; rfl, HS5.out⟩

end Go.Proofs.YtkaibpibnkmmbaaDoor
