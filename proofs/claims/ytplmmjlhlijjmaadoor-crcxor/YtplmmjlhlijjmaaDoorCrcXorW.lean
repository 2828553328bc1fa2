/-
  The walk of the law on rows by xor.
-/
import Derived.Test.YtplmmjlhlijjmaaDoorCrcXorN
import Derived.Test.YtplmmjlhlijjmaaDoorRegionInv
import Derived.Test.YtplmmjlhlijjmaaDoorRunLaws
namespace Go.Proofs.YtplmmjlhlijjmaaDoor
open Go.RowKit

theorem made_zeros_any (w : World) (m : Nat) (hm : m ≤ 4000) : ∃ w', (Instr.makeSlice 22 (.int .i64 (m : Int)) (.int .i64 (m : Int))).run Tryd.prog w = .ok (.slice (some ⟨w.heap.size, 0, none⟩) m m) w' ∧
    w'.ownsRow 0 5 1 (.slice (some ⟨w.heap.size, 0, none⟩) m m) m (u8s (List.replicate m 0)) ∧ Step (fun _ => False) w w' := by
  obtain ⟨i0, hi, hz0, hz1, hz2⟩ := info_parts Tryd.info5
  obtain ⟨w', h1, h2, h3⟩ := run_make_full (P := Tryd.prog) w 0 22 5 i0 (.int .u8 0) 1 Tryd.underlying22 hi hz0 hz1 .i64 .i64 m (by rw [hz2]; omega) (by unfold maxLen; omega) (Nat.zero_le _)
  refine ⟨w', h1, ?_, (Step.refl _ _).grown h3 (fun k hk => by cases hk)⟩
  have e : (madeCells (Value.int .u8 0).cells (m * 1)).toList = u8s (List.replicate m 0) := by
    have := toList_madeCells_one (.int .u8 0) m
    rw [Nat.mul_one]
    rw [show (Value.int .u8 0).cells = #[.int .u8 0] from rfl, this]
    simp [u8s]
  rw [e] at h2
  exact h2

theorem ck_alloc {w : World} {p : Addr} {u : Value} {o : Obj} (h : w.cell? p = some u) : (w.alloc o).cell? p = some u := ((Step.refl (fun _ => False) w).alloc o).cell h (fun h => h)
theorem ck_drew {w : World} {p : Addr} {u : Value} (h : w.cell? p = some u) : w.drew.cell? p = some u := h
theorem ck_drewN {w : World} {p : Addr} {u : Value} {n : Nat} (h : w.cell? p = some u) : (w.drewN n).cell? p = some u := h
theorem ck_new (w : World) (g : Nat) (u : Value) (t : TypeId) (hg : g = w.heap.size) : (w.alloc (.cells #[u] t)).cell? ⟨g, 0, none⟩ = some u := by subst hg; simp

theorem sum_cell (u : Value) (B : List Nat) (W : World) (g : Nat) (hg : W.cell? ⟨g, 0, none⟩ = some u) (hB : ∀ x ∈ B, x < 256) (T : Tab W) (h : Rd W u B) (hl : B.length ≤ 137438953600) :
    Calls Tryd.prog 10 #[.slice (some ⟨g, 0, none⟩) 1 1] W fun e w' => e = .returned (.int .u32 ((crcSum B : Nat) : Int)) ∧ ∃ n, w' = W.drewN n := by
  have := sum_any (.slice (some ⟨g, 0, none⟩) 1 1) [B] W (by simpa using hB) T ⟨some ⟨g, 0, none⟩, 1, rfl, fun h => (by cases h), fun a ha _ => ⟨g, 0, (Option.some.inj ha).symm, fun k hk => by
    have : k = 0 := by simp at hk; omega
    subst this
    exact ⟨u, hg, h⟩⟩⟩ (by simp) (by simpa using hl)
  simpa using this

theorem act_lit67 (b : Act) (hd : b.defers = []) (hn : b.tmps.size = 67) : ∃ f : Nat → Value, (∀ t, f t = b.eval (.tmp t)) ∧ b = ⟨#[f 0, f 1, f 2, f 3, f 4, f 5, f 6, f 7, f 8, f 9, f 10, f 11, f 12, f 13, f 14, f 15, f 16, f 17, f 18, f 19, f 20, f 21, f 22, f 23, f 24, f 25, f 26, f 27, f 28, f 29, f 30, f 31, f 32, f 33, f 34, f 35, f 36, f 37, f 38, f 39, f 40, f 41, f 42, f 43, f 44, f 45, f 46, f 47, f 48, f 49, f 50, f 51, f 52, f 53, f 54, f 55, f 56, f 57, f 58, f 59, f 60, f 61, f 62, f 63, f 64, f 65, f 66], []⟩ := by
  refine ⟨fun t => b.eval (.tmp t), fun _ => rfl, ?_⟩
  obtain ⟨t, d⟩ := b
  simp only at hd hn
  subst hd
  congr 1
  have e : ∀ g : Nat → Value, #[g 0, g 1, g 2, g 3, g 4, g 5, g 6, g 7, g 8, g 9, g 10, g 11, g 12, g 13, g 14, g 15, g 16, g 17, g 18, g 19, g 20, g 21, g 22, g 23, g 24, g 25, g 26, g 27, g 28, g 29, g 30, g 31, g 32, g 33, g 34, g 35, g 36, g 37, g 38, g 39, g 40, g 41, g 42, g 43, g 44, g 45, g 46, g 47, g 48, g 49, g 50, g 51, g 52, g 53, g 54, g 55, g 56, g 57, g 58, g 59, g 60, g 61, g 62, g 63, g 64, g 65, g 66] = ((List.range 67).map g).toArray := fun g => rfl
  refine Eq.trans ?_ (e fun x => Act.eval ⟨t, []⟩ (.tmp x)).symm
  apply Array.ext
  · simp [hn]
  · intro i h1 h2
    simp [Act.eval, h1]

/-- What each operation of the law's last statement leaves. -/
def XF (aa ab ac : Option Addr) (p ca q cb r cc k g s1 s2 s3 s12 s4 : Nat) : Nat → World → Value → Prop
  | 0, _, v => v = .slice aa p ca
  | 1, _, v => v = .int .i64 k
  | 2, _, v => v = .slice aa k ca
  | 3, w, v => ∃ b, v = .slice (some ⟨b, 0, none⟩) 1 1 ∧ w.cell? ⟨b, 0, none⟩ = some (.slice aa k ca)
  | 4, _, v => v = .int .u32 s1
  | 5, _, v => v = .slice ab q cb
  | 6, _, v => v = .int .i64 k
  | 7, _, v => v = .slice ab k cb
  | 8, w, v => ∃ b, v = .slice (some ⟨b, 0, none⟩) 1 1 ∧ w.cell? ⟨b, 0, none⟩ = some (.slice ab k cb)
  | 9, _, v => v = .int .u32 s2
  | 10, _, v => v = .int .u32 s12
  | 11, _, v => v = .slice ac r cc
  | 12, _, v => v = .int .i64 k
  | 13, _, v => v = .slice ac k cc
  | 14, w, v => ∃ b, v = .slice (some ⟨b, 0, none⟩) 1 1 ∧ w.cell? ⟨b, 0, none⟩ = some (.slice ac k cc)
  | 15, _, v => v = .int .u32 s3
  | 16, _, v => v = .int .u32 s4
  | 17, _, v => v = .slice (some ⟨g, 0, none⟩) k k
  | 18, w, v => ∃ b, v = .slice (some ⟨b, 0, none⟩) 1 1 ∧ w.cell? ⟨b, 0, none⟩ = some (.slice (some ⟨g, 0, none⟩) k k)
  | 19, _, v => v = .int .u32 s4
  | _, _, v => v = .bool true

theorem XF_mono {aa ab ac : Option Addr} {p ca q cb r cc k g s1 s2 s3 s12 s4 : Nat} (j : Nat) (u u' : World) (v : Value) (h : XF aa ab ac p ca q cb r cc k g s1 s2 s3 s12 s4 j u v) (hs : Step (fun _ => False) u u') : XF aa ab ac p ca q cb r cc k g s1 s2 s3 s12 s4 j u' v := by
  have keep : ∀ x, (∃ b, v = .slice (some ⟨b, 0, none⟩) 1 1 ∧ u.cell? ⟨b, 0, none⟩ = some x) → ∃ b, v = .slice (some ⟨b, 0, none⟩) 1 1 ∧ u'.cell? ⟨b, 0, none⟩ = some x := fun x ⟨b, e, hc⟩ => ⟨b, e, hs.cell hc (fun h => h)⟩
  unfold XF at h ⊢
  split at h <;> first | exact h | exact keep _ h

set_option maxHeartbeats 4000000 in
theorem xor_in (aa ab ac : Option Addr) (ca cb cc : Nat) (A B C : List Nat) (w : World) (n : Nat) (hA : ∀ x ∈ A, x < 256) (hB : ∀ x ∈ B, x < 256) (hC : ∀ x ∈ C, x < 256) (T : Tab w)
    (ra : Rd w (.slice aa A.length ca) A) (rb : Rd w (.slice ab B.length cb) B) (rc : Rd w (.slice ac C.length cc) C) (la : A.length ≤ ca) (lb : B.length ≤ cb) (lc : C.length ≤ cc)
    (hn : n = min (min A.length B.length) C.length) (hl : n ≤ 4000) :
    Calls Tryd.prog 7 #[.slice aa A.length ca, .slice ab B.length cb, .slice ac C.length cc] w fun e w' => e = .returned (.bool true) ∧ Step (fun _ => False) w w' := by
  have HT := hidden T
  have HA := hidden hA
  have HB := hidden hB
  have HC := hidden hC
  have HRa := hidden ra
  have HRb := hidden rb
  have HRc := hidden rc
  obtain ⟨p, hp⟩ : ∃ p, A.length = p := ⟨_, rfl⟩
  obtain ⟨q, hq⟩ : ∃ q, B.length = q := ⟨_, rfl⟩
  obtain ⟨r, hr⟩ : ∃ r, C.length = r := ⟨_, rfl⟩
  rw [hp, hq, hr] at hn ⊢
  rw [hp] at la
  rw [hq] at lb
  rw [hr] at lc
  have Hp := hidden hp
  have Hq := hidden hq
  have Hr := hidden hr
  obtain ⟨n1, hn1, hn1'⟩ : ∃ n1 : Nat, (if (q : Int) < (p : Int) then (q : Int) else (p : Int)) = (n1 : Int) ∧ n1 = min p q := ⟨min p q, by split <;> omega, rfl⟩
  have hn2 : (if (r : Int) < (n1 : Int) then (r : Int) else (n1 : Int)) = (n : Int) := by rw [hn, hn1']; split <;> omega
  have hn1n : (if q < p then (q : Int) else (p : Int)) = (n1 : Int) := by rw [hn1']; split <;> omega
  have hn2n : (if r < n1 then (r : Int) else (n1 : Int)) = (n : Int) := by rw [hn, hn1']; split <;> omega
  obtain ⟨wm, hmk, hown, hst⟩ := made_zeros_any w n hl
  have HO := hidden hown
  have HS := hidden hst
  have np : n ≤ p := by omega
  have nq : n ≤ q := by omega
  have nr : n ≤ r := by omega
  clear T hA hB hC ra rb rc hp hq hr hown hst hn hn1'
  go_enter Tryd.func7, Tryd.ntmps7
  go_wp2
  go_loopw [9] (fun i wr => ∃ k : Nat, k ≤ n ∧ i = .int .i64 k ∧ wr.ownsRow 0 5 1 (.slice (some ⟨w.heap.size, 0, none⟩) n n) n (u8s (xor3 A B C k ++ List.replicate (n - k) 0)) ∧ Step (fun _ => False) w wr) (fun i _ => n - (intOf i).toNat)
  case atStart => exact ⟨0, Nat.zero_le _, rfl, by simpa [xor3] using HO.out, HS.out⟩
  case round =>
    obtain ⟨k, hk, rfl, O, St⟩ := hrel
    by_cases hlt : k < n
    · obtain ⟨ba, oa, ea, cA⟩ := (HRa.out.step St (fun _ _ _ _ _ h => h)).cellAt k (by have := Hp.out; omega)
      obtain ⟨bb, ob, eb, cB⟩ := (HRb.out.step St (fun _ _ _ _ _ h => h)).cellAt k (by have := Hq.out; omega)
      obtain ⟨bc, oc, ec, cC⟩ := (HRc.out.step St (fun _ _ _ _ _ h => h)).cellAt k (by have := Hr.out; omega)
      subst ea; subst eb; subst ec
      have xl := getD_lt (show k < A.length by have := Hp.out; omega) HA.out
      have yl := getD_lt (show k < B.length by have := Hq.out; omega) HB.out
      have zl := getD_lt (show k < C.length by have := Hr.out; omega) HC.out
      have hc := O.cellAt k (by omega)
      have hf := O.frozenAt k
      have hyl : k < (u8s (xor3 A B C k ++ List.replicate (n - k) 0)).length := by rw [O.1]; omega
      rw [List.getElem?_eq_getElem hyl] at hc
      obtain ⟨d, hd⟩ : ∃ d, n - k = d + 1 := ⟨n - k - 1, by omega⟩
      have hd2 : n - (k + 1) = d := by omega
      have HF := hidden (And.intro (O.stored k (.int .u8 ((A.getD k 0 ^^^ B.getD k 0 ^^^ C.getD k 0 : Nat) : Int))).1 (St.setCell ⟨w.heap.size, k, none⟩ (.int .u8 ((A.getD k 0 ^^^ B.getD k 0 ^^^ C.getD k 0 : Nat) : Int)) (.inr (Nat.le_refl _))))
      rw [hd, fill_next _ k d _ (xor3_length A B C k), ← xor3_succ, ← hd2] at HF
      generalize (u8s (xor3 A B C k ++ List.replicate (n - k) 0))[k] = yk at hc
      generalize A.getD k 0 = x at *
      generalize B.getD k 0 = y at *
      generalize C.getD k 0 = z at *
      have hx1 := u8_xor x y xl yl
      have hx2 := u8_xor (x ^^^ y) z (Nat.xor_lt_two_pow (n := 8) xl yl) zl
      generalize x ^^^ y = xy at *
      generalize xy ^^^ z = xyz at *
      have k1 : (k : Int) < (n : Int) := by omega
      have k2 : (k : Int) < (p : Int) := by omega
      have k3 : (k : Int) < (q : Int) := by omega
      have k4 : (k : Int) < (r : Int) := by omega
      have k0 : (0 : Int) ≤ (k : Int) := by omega
      clear O St hd hd2 hyl
      go_wp2
      refine wp_region_still_tail 17 Tryd.mixed (by kernel_rfl) ?_
      simp only [List.take_succ_cons, List.take_zero, List.drop_succ_cons, List.drop_zero]
      change wpStill _ _ (World.drew _) _ _ _
      iterate 17 still_step
      refine wpStill_nil ?_
      go_wp2
      go_roundw
      case rel => exact ⟨k + 1, by omega, by go_num, HF.out.1, HF.out.2.drew⟩
      case measure => simp [intOf]; omega
    · have hkn : k = n := by omega
      subst hkn
      rw [Nat.sub_self] at O
      have Rda := HRa.out.take k (by have := Hp.out; omega)
      have Rdb := HRb.out.take k (by have := Hq.out; omega)
      have Rdc := HRc.out.take k (by have := Hr.out; omega)
      rw [show (A.take k).length = k by have := Hp.out; simp; omega] at Rda
      rw [show (B.take k).length = k by have := Hq.out; simp; omega] at Rdb
      rw [show (C.take k).length = k by have := Hr.out; simp; omega] at Rdc
      have Rdd : Rd wr (.slice (some ⟨w.heap.size, 0, none⟩) k k) (xor3 A B C k) := by simpa using Rd.of_own O
      have F1 := hidden (fun W g (S : Step (fun _ => False) wr W) hg => sum_cell (.slice aa k ca) (A.take k) W g hg (fun x hx => HA.out x (List.mem_of_mem_take hx)) (HT.out.step (St.made S) (fun h => h)) (Rda.step (St.made S) (fun _ _ _ _ _ h => h)) (by simp; omega))
      have F2 := hidden (fun W g (S : Step (fun _ => False) wr W) hg => sum_cell (.slice ab k cb) (B.take k) W g hg (fun x hx => HB.out x (List.mem_of_mem_take hx)) (HT.out.step (St.made S) (fun h => h)) (Rdb.step (St.made S) (fun _ _ _ _ _ h => h)) (by simp; omega))
      have F3 := hidden (fun W g (S : Step (fun _ => False) wr W) hg => sum_cell (.slice ac k cc) (C.take k) W g hg (fun x hx => HC.out x (List.mem_of_mem_take hx)) (HT.out.step (St.made S) (fun h => h)) (Rdc.step (St.made S) (fun _ _ _ _ _ h => h)) (by simp; omega))
      have F4 := hidden (fun W g (S : Step (fun _ => False) wr W) hg => sum_cell (.slice (some ⟨w.heap.size, 0, none⟩) k k) (xor3 A B C k) W g hg (xor3_byte A B C k HA.out HB.out HC.out) (HT.out.step (St.made S) (fun h => h)) (Rdd.step S (fun _ _ _ _ _ h => h)) (by rw [xor3_length]; omega))
      have F5 : Hid (∀ W, Step (fun _ => False) wr W → Calls Tryd.prog 14 #[] W fun e w' => e = .returned (.bool true) ∧ Step (fun _ => False) W w') :=
        fun W S => known_any W (HT.out.step (St.made S) (fun h => h))
      have HSt := hidden St
      have hs := sum_xor3 A B C k (by have := Hp.out; omega) (by have := Hq.out; omega) (by have := Hr.out; omega)
      have l1 := crcSum_lt (A.take k) (fun x hx => HA.out x (List.mem_of_mem_take hx))
      have l2 := crcSum_lt (B.take k) (fun x hx => HB.out x (List.mem_of_mem_take hx))
      have l3 := crcSum_lt (C.take k) (fun x hx => HC.out x (List.mem_of_mem_take hx))
      generalize crcSum (A.take k) = s1 at *
      generalize crcSum (B.take k) = s2 at *
      generalize crcSum (C.take k) = s3 at *
      generalize crcSum (xor3 A B C k) = s4 at *
      have hx1 := u32_xor s1 s2 l1 l2
      have hx2 := u32_xor (s1 ^^^ s2) s3 (Nat.xor_lt_two_pow (n := 32) l1 l2) l3
      rw [hs] at hx2
      generalize s1 ^^^ s2 = s12 at *
      have k0 : (0 : Int) ≤ (k : Int) := by omega
      have ka : (k : Int) ≤ (ca : Int) := by omega
      have kb : (k : Int) ≤ (cb : Int) := by omega
      have kc : (k : Int) ≤ (cc : Int) := by omega
      clear O St Rda Rdb Rdc Rdd HT HA HB HC HRa HRb HRc hs l1 l2 l3 HO HS Hp Hq Hr
      go_wp2
      refine region_inv Tryd.mixed 67 (fun j => if j = 24 then 6 else 43 + j) [(0, .slice aa p ca), (1, .slice ab q cb), (2, .slice ac r cc), (7, .int .i64 k), (8, .slice (some ⟨w.heap.size, 0, none⟩) k k)] (XF aa ab ac p ca q cb r cc k w.heap.size s1 s2 s3 s12 s4) (by kernel_rfl) XF_mono rfl rfl ?rbase ?rops ?rfin
      case rbase => intro x hx; simp at hx; rcases hx with rfl | rfl | rfl | rfl | rfl <;> rfl
      case rops =>
        intro j o ho b u hn hs hb hdeps
        have b0 := hb (0, .slice aa p ca) (by simp)
        have b1 := hb (1, .slice ab q cb) (by simp)
        have b2 := hb (2, .slice ac r cc) (by simp)
        have b7 := hb (7, .int .i64 k) (by simp)
        have b8 := hb (8, .slice (some ⟨w.heap.size, 0, none⟩) k k) (by simp)
        have hj : j < 25 := (Array.getElem?_eq_some_iff.1 ho).1
        have hjc : j = 0 ∨ j = 1 ∨ j = 2 ∨ j = 3 ∨ j = 4 ∨ j = 5 ∨ j = 6 ∨ j = 7 ∨ j = 8 ∨ j = 9 ∨ j = 10 ∨ j = 11 ∨ j = 12 ∨ j = 13 ∨ j = 14 ∨ j = 15 ∨ j = 16 ∨ j = 17 ∨ j = 18 ∨ j = 19 ∨ j = 20 ∨ j = 21 ∨ j = 22 ∨ j = 23 ∨ j = 24 := by omega
        rcases hjc with rfl | rfl | rfl | rfl | rfl | rfl | rfl | rfl | rfl | rfl | rfl | rfl | rfl | rfl | rfl | rfl | rfl | rfl | rfl | rfl | rfl | rfl | rfl | rfl | rfl
        · simp at ho
          subst ho
          exact ⟨rfl, wp_run (v := .slice aa p ca) (by simp [execOp, b0]) ⟨_, rfl, Step.refl _ _, rfl⟩⟩
        · simp at ho
          subst ho
          exact ⟨rfl, wp_run (v := .int .i64 k) (by simp [execOp, b7]) ⟨_, rfl, Step.refl _ _, rfl⟩⟩
        · simp at ho
          subst ho
          have d0 : b.eval (.tmp 43) = _ := hdeps ⟨0, .data⟩ (by simp) rfl
          have d1 : b.eval (.tmp 44) = _ := hdeps ⟨1, .data⟩ (by simp) rfl
          exact ⟨rfl, wp_run (v := .slice aa k ca) (w' := u) (by simp [execOp, d0, d1, run_slice_to _ _ _ _ _ (show k ≤ ca by omega)]) ⟨_, rfl, Step.refl _ _, rfl⟩⟩
        · simp at ho
          subst ho
          have d0 : b.eval (.tmp 45) = _ := hdeps ⟨2, .data⟩ (by simp) rfl
          exact ⟨rfl, wp_run (run_build_one aa k ca u _ b (.tmp 45) rfl d0) ⟨_, rfl, (Step.refl _ _).alloc _, _, rfl, ck_new _ _ _ _ rfl⟩⟩
        · simp at ho
          subst ho
          obtain ⟨g, d0, hc⟩ : ∃ g, b.eval (.tmp 46) = .slice (some ⟨g, 0, none⟩) 1 1 ∧ u.cell? ⟨g, 0, none⟩ = some _ := hdeps ⟨3, .data⟩ (by simp) rfl
          refine ⟨rfl, wp_enter (run_call1 Tryd.func10 (by kernel_rfl) rfl _ u _ b (.tmp 46) _ rfl d0) ((F1.out u g hs hc).mono ?_)⟩
          rintro e w' ⟨rfl, q, rfl⟩
          exact ⟨_, rfl, _, rfl, (Step.refl _ _).drewN _, rfl⟩
        · simp at ho
          subst ho
          exact ⟨rfl, wp_run (v := .slice ab q cb) (by simp [execOp, b1]) ⟨_, rfl, Step.refl _ _, rfl⟩⟩
        · simp at ho
          subst ho
          exact ⟨rfl, wp_run (v := .int .i64 k) (by simp [execOp, b7]) ⟨_, rfl, Step.refl _ _, rfl⟩⟩
        · simp at ho
          subst ho
          have d0 : b.eval (.tmp 48) = _ := hdeps ⟨5, .data⟩ (by simp) rfl
          have d1 : b.eval (.tmp 49) = _ := hdeps ⟨6, .data⟩ (by simp) rfl
          exact ⟨rfl, wp_run (v := .slice ab k cb) (w' := u) (by simp [execOp, d0, d1, run_slice_to _ _ _ _ _ (show k ≤ cb by omega)]) ⟨_, rfl, Step.refl _ _, rfl⟩⟩
        · simp at ho
          subst ho
          have d0 : b.eval (.tmp 50) = _ := hdeps ⟨7, .data⟩ (by simp) rfl
          exact ⟨rfl, wp_run (run_build_one ab k cb u _ b (.tmp 50) rfl d0) ⟨_, rfl, (Step.refl _ _).alloc _, _, rfl, ck_new _ _ _ _ rfl⟩⟩
        · simp at ho
          subst ho
          obtain ⟨g, d0, hc⟩ : ∃ g, b.eval (.tmp 51) = .slice (some ⟨g, 0, none⟩) 1 1 ∧ u.cell? ⟨g, 0, none⟩ = some _ := hdeps ⟨8, .data⟩ (by simp) rfl
          refine ⟨rfl, wp_enter (run_call1 Tryd.func10 (by kernel_rfl) rfl _ u _ b (.tmp 51) _ rfl d0) ((F2.out u g hs hc).mono ?_)⟩
          rintro e w' ⟨rfl, q, rfl⟩
          exact ⟨_, rfl, _, rfl, (Step.refl _ _).drewN _, rfl⟩
        · simp at ho
          subst ho
          have d0 : b.eval (.tmp 47) = _ := hdeps ⟨4, .data⟩ (by simp) rfl
          have d1 : b.eval (.tmp 52) = _ := hdeps ⟨9, .data⟩ (by simp) rfl
          exact ⟨rfl, wp_run (run_xor_u32 _ _ _ hx1 u _ b (.tmp 47) (.tmp 52) rfl d0 d1) ⟨_, rfl, Step.refl _ _, rfl⟩⟩
        · simp at ho
          subst ho
          exact ⟨rfl, wp_run (v := .slice ac r cc) (by simp [execOp, b2]) ⟨_, rfl, Step.refl _ _, rfl⟩⟩
        · simp at ho
          subst ho
          exact ⟨rfl, wp_run (v := .int .i64 k) (by simp [execOp, b7]) ⟨_, rfl, Step.refl _ _, rfl⟩⟩
        · simp at ho
          subst ho
          have d0 : b.eval (.tmp 54) = _ := hdeps ⟨11, .data⟩ (by simp) rfl
          have d1 : b.eval (.tmp 55) = _ := hdeps ⟨12, .data⟩ (by simp) rfl
          exact ⟨rfl, wp_run (v := .slice ac k cc) (w' := u) (by simp [execOp, d0, d1, run_slice_to _ _ _ _ _ (show k ≤ cc by omega)]) ⟨_, rfl, Step.refl _ _, rfl⟩⟩
        · simp at ho
          subst ho
          have d0 : b.eval (.tmp 56) = _ := hdeps ⟨13, .data⟩ (by simp) rfl
          exact ⟨rfl, wp_run (run_build_one ac k cc u _ b (.tmp 56) rfl d0) ⟨_, rfl, (Step.refl _ _).alloc _, _, rfl, ck_new _ _ _ _ rfl⟩⟩
        · simp at ho
          subst ho
          obtain ⟨g, d0, hc⟩ : ∃ g, b.eval (.tmp 57) = .slice (some ⟨g, 0, none⟩) 1 1 ∧ u.cell? ⟨g, 0, none⟩ = some _ := hdeps ⟨14, .data⟩ (by simp) rfl
          refine ⟨rfl, wp_enter (run_call1 Tryd.func10 (by kernel_rfl) rfl _ u _ b (.tmp 57) _ rfl d0) ((F3.out u g hs hc).mono ?_)⟩
          rintro e w' ⟨rfl, q, rfl⟩
          exact ⟨_, rfl, _, rfl, (Step.refl _ _).drewN _, rfl⟩
        · simp at ho
          subst ho
          have d0 : b.eval (.tmp 53) = _ := hdeps ⟨10, .data⟩ (by simp) rfl
          have d1 : b.eval (.tmp 58) = _ := hdeps ⟨15, .data⟩ (by simp) rfl
          exact ⟨rfl, wp_run (run_xor_u32 _ _ _ hx2 u _ b (.tmp 53) (.tmp 58) rfl d0 d1) ⟨_, rfl, Step.refl _ _, rfl⟩⟩
        · simp at ho
          subst ho
          exact ⟨rfl, wp_run (v := .slice (some ⟨w.heap.size, 0, none⟩) k k) (by simp [execOp, b8]) ⟨_, rfl, Step.refl _ _, rfl⟩⟩
        · simp at ho
          subst ho
          have d0 : b.eval (.tmp 60) = _ := hdeps ⟨17, .data⟩ (by simp) rfl
          exact ⟨rfl, wp_run (run_build_one _ k k u _ b (.tmp 60) rfl d0) ⟨_, rfl, (Step.refl _ _).alloc _, _, rfl, ck_new _ _ _ _ rfl⟩⟩
        · simp at ho
          subst ho
          obtain ⟨g, d0, hc⟩ : ∃ g, b.eval (.tmp 61) = .slice (some ⟨g, 0, none⟩) 1 1 ∧ u.cell? ⟨g, 0, none⟩ = some _ := hdeps ⟨18, .data⟩ (by simp) rfl
          refine ⟨rfl, wp_enter (run_call1 Tryd.func10 (by kernel_rfl) rfl _ u _ b (.tmp 61) _ rfl d0) ((F4.out u g hs hc).mono ?_)⟩
          rintro e w' ⟨rfl, q, rfl⟩
          exact ⟨_, rfl, _, rfl, (Step.refl _ _).drewN _, rfl⟩
        · simp at ho
          subst ho
          have d0 : b.eval (.tmp 59) = _ := hdeps ⟨16, .data⟩ (by simp) rfl
          have d1 : b.eval (.tmp 62) = _ := hdeps ⟨19, .data⟩ (by simp) rfl
          exact ⟨rfl, wp_run (run_eql_u32 _ _ true (beq_self_eq_true _) u _ b (.tmp 59) (.tmp 62) rfl d0 d1) ⟨_, rfl, Step.refl _ _, rfl⟩⟩
        · simp at ho
          subst ho
          have d0 : b.eval (.tmp 63) = _ := hdeps ⟨20, .data⟩ (by simp) rfl
          exact ⟨rfl, wp_run (v := .bool true) (by simp [execOp, d0]) ⟨_, rfl, Step.refl _ _, rfl⟩⟩
        · simp at ho
          subst ho
          have d0 : b.eval (.tmp 64) = _ := hdeps ⟨21, .guard⟩ (by simp) rfl
          refine ⟨?_, wp_enter (run_call0 Tryd.func14 (by kernel_rfl) rfl u _ b rfl) ((F5.out u hs).mono ?_)⟩
          · simp only [Region.wanted]
            rw [yielded_of (d := 64) (n := 67) rfl hn (by decide) d0]
            rfl
          · rintro e w' ⟨rfl, hk⟩
            exact ⟨_, rfl, _, rfl, hk, rfl⟩
        · simp at ho
          subst ho
          have d0 : b.eval (.tmp 64) = _ := hdeps ⟨21, .data⟩ (by simp) rfl
          have d1 : b.eval (.tmp 65) = _ := hdeps ⟨22, .data⟩ (by simp) rfl
          exact ⟨rfl, wp_run (v := .bool true) (by simp [execOp, d0, d1, asBool]) ⟨_, rfl, Step.refl _ _, rfl⟩⟩
        · simp at ho
          subst ho
          have d0 : b.eval (.tmp 66) = _ := hdeps ⟨23, .data⟩ (by simp) rfl
          exact ⟨rfl, wp_run (v := .bool true) (by simp [execOp, d0]) ⟨_, rfl, Step.refl _ _, rfl⟩⟩
      case rfin =>
        intro b u hd hn hs hb hall
        have h6 : b.eval (.tmp 6) = .bool true := hall 24 (by decide)
        obtain ⟨f, hf, hbf⟩ := act_lit67 b hd hn
        rw [← hf] at h6
        rw [h6] at hbf
        rw [hbf]
        have HF := hidden (HSt.out.made hs)
        clear hall hb hbf hf h6 hd hn hs
        go_wp2
        go_ret
        exact ⟨rfl, HF.out⟩

set_option maxHeartbeats 1000000 in
theorem xor_out (aa ab ac : Option Addr) (p q r ca cb cc : Nat) (w : World) (n : Nat) (hn : n = min (min p q) r) (hl : 4000 < n) :
    Calls Tryd.prog 7 #[.slice aa p ca, .slice ab q cb, .slice ac r cc] w fun e w' => e = .returned (.bool true) ∧ Step (fun _ => False) w w' := by
  obtain ⟨n1, hn1, hn1'⟩ : ∃ n1 : Nat, (if (q : Int) < (p : Int) then (q : Int) else (p : Int)) = (n1 : Int) ∧ n1 = min p q := ⟨min p q, by split <;> omega, rfl⟩
  have hn2 : (if (r : Int) < (n1 : Int) then (r : Int) else (n1 : Int)) = (n : Int) := by rw [hn, hn1']; split <;> omega
  have hn1n : (if q < p then (q : Int) else (p : Int)) = (n1 : Int) := by rw [hn1']; split <;> omega
  have hn2n : (if r < n1 then (r : Int) else (n1 : Int)) = (n : Int) := by rw [hn, hn1']; split <;> omega
  have hd : (4000 : Int) < (n : Int) := by omega
  clear hn hn1'
  go_enter Tryd.func7, Tryd.ntmps7
  go_wp2
  go_ret
  exact ⟨rfl, Step.refl _ _⟩

end Go.Proofs.YtplmmjlhlijjmaaDoor
