/-
  Rows of one number again and again: math/bits.Mul, slices.Repeat, repeat.
-/
import Derived.Test.YtkaibpibnkmmbaaDoorHInt
import Derived.Laws.CopyOwn
import Derived.Laws.MakeOwn
import Derived.Deep.LoopGhost
import Derived.BigRegion
import Derived.Deep.RegionLaw
namespace Go.Proofs.YtkaibpibnkmmbaaDoor
open Go.RowKit
set_option maxRecDepth 100000
set_option linter.unusedVariables false

theorem u64_and_low (n : Nat) (h : n ≤ 100000) : bits .and .u64 (n : Int) 4294967295 = (n : Int) := by
  show IntKind.u64.wrap ((BitVec.ofInt 64 (n : Int) &&& BitVec.ofInt 64 (4294967295 : Int)).toNat : Int) = _
  have e1 : (BitVec.ofInt 64 (n : Int)).toNat = n := by simp; omega
  have e2 : (BitVec.ofInt 64 (4294967295 : Int)).toNat = 2 ^ 32 - 1 := by decide
  rw [BitVec.toNat_and, e1, e2, Nat.and_two_pow_sub_one_eq_mod, Nat.mod_eq_of_lt (by omega)]
  simp [IntKind.wrap, IntKind.bits, IntKind.signed]; omega

set_option maxHeartbeats 1000000 in
theorem mul64_one (n : Nat) (w : World) (h : n ≤ 100000) : Calls Tryd.prog 53 #[.int .u64 1, .int .u64 n] w fun e w' => e = .returned (.tuple #[.int .u64 0, .int .u64 n]) ∧ w' = w := by
  have h1 := u64_and_low n h
  have h2 : bits .and .u64 1 4294967295 = 1 := u64_and_low 1 (by omega)
  have h3 : bits .and .u64 0 4294967295 = 0 := u64_and_low 0 (by omega)
  have h4 : (n : Int) / 2 ^ 32 = 0 := by omega
  have h5 : (n : Int) / 4294967296 = 0 := by omega
  go_enter Tryd.func53, Tryd.ntmps53
  go_wp2
  go_ret2
  refine ⟨?_, rfl⟩
  simp

set_option maxHeartbeats 1000000 in
theorem mul_one' (n : Nat) (w : World) (h : n ≤ 100000) : Calls Tryd.prog 47 #[.int .u64 1, .int .u64 n] w fun e w' => e = .returned (.tuple #[.int .u64 0, .int .u64 n]) ∧ w' = w := by
  have HM := hidden (mul64_one n w h)
  go_enter Tryd.func47, Tryd.ntmps47
  go_wp2_with (go_at_call 53; refine HM.out.mono ?_; rintro e w1 ⟨rfl, rfl⟩)
  go_ret2
  exact ⟨rfl, rfl⟩

/-- The first t of n cells are x, the others 0. -/
def repC (x : Int) (t n : Nat) : List Value := List.replicate t (.int .i64 x) ++ List.replicate (n - t) (.int .i64 0)
theorem repC_length (x : Int) (t n : Nat) (h : t ≤ n) : (repC x t n).length = n := by simp [repC]; omega
theorem repC_zero (n : Nat) (x : Int) : (madeCells #[Value.int .i64 0] n).toList = repC x 0 n := by
  apply List.ext_getElem
  · simp [repC, size_madeCells]
  · intro i h1 h2
    have h3 : i < n := by simpa [size_madeCells] using h1
    simp [repC, madeCells, Nat.mod_one]
theorem repC_full (x : Int) (n : Nat) : repC x n n = i64s (List.replicate n x) := by simp [repC, i64s]
theorem repC_next (x : Int) (t k n : Nat) (h : t + k ≤ n) : splice (repC x t n) t (List.replicate k (.int .i64 x)) = repC x (t + k) n := by
  unfold splice repC
  rw [List.take_left' (by simp), List.length_replicate, ← List.append_assoc, List.replicate_append_replicate]
  congr 1
  rw [List.drop_append, List.length_replicate, List.drop_replicate, List.drop_replicate]
  rw [show t - (t + k) = 0 by omega, List.replicate_zero, List.nil_append]
  congr 1
  omega

theorem heap_alloc_at (w : World) (o : Obj) : (w.alloc o).heap[w.heap.size]? = some o := Array.getElem?_push_size

set_option maxHeartbeats 4000000 in
theorem srepeat_any (g : Nat) (x : Int) (n : Nat) (w : World) (hg : w.cell? ⟨g, 0, none⟩ = some (.int .i64 x)) (h1 : 1 ≤ n) (hn : n ≤ 100000) :
    Calls Tryd.prog 41 #[.slice (some ⟨g, 0, none⟩) 1 1, .int .i64 n] w fun e w' => ∃ k, e = .returned (.slice (some ⟨k, 0, none⟩) n n) ∧ w.heap.size ≤ k ∧ w'.ownsRow 0 3 1 (.slice (some ⟨k, 0, none⟩) n n) n (i64s (List.replicate n x)) ∧ Step (fun _ => False) w w' := by
  obtain ⟨i0, hi, hz0, hz1, hz2⟩ := info_parts Tryd.info3
  have hmk : ∀ W : World, Sem.run Tryd.prog (Instr.makeSlice 22 (.int .i64 (n : Int)) (.int .i64 (n : Int))) W = .ok (.slice (some ⟨W.heap.size, 0, none⟩) n n) (W.alloc (.cells (madeCells #[.int .i64 0] n) 3)) := by
    intro W
    have := run_make (P := Tryd.prog) W 22 3 i0 (.int .i64 0) Tryd.underlying22 hi hz0 .i64 .i64 (n : Int) (n : Int) (by omega) (by omega) (by rw [hz2]; omega) (by omega)
    rw [hz1, Nat.mul_one] at this
    exact this
  have HM := hidden (mul_one' n)
  obtain ⟨C0, hC0⟩ : ∃ C, C = Obj.cells (madeCells #[Value.int IntKind.i64 0] n) 3 := ⟨_, rfl⟩
  have HC0 := hidden hC0
  rw [← hC0] at hmk
  have HS : Hid (Step (fun _ => False) w (w.alloc C0)) := hidden ((Step.refl _ w).alloc _)
  have Hg : Hid ((w.alloc C0).heap[w.heap.size]? = some (.cells (repC x 0 n).toArray 3 (0, 0))) := hidden ((heap_alloc_at w _).trans (by rw [← repC_zero, hC0]))
  have HB : Hid (Below w.heap.size w (w.alloc C0)) := hidden (HS.out.below _ (Nat.le_refl _) (fun _ h => h.elim))
  obtain ⟨X1, hX1⟩ : ∃ X1, X1 = [Value.int .i64 x] := ⟨_, rfl⟩
  have HX1 := hidden hX1
  have hsrc : Hid (∀ j u, X1[j]? = some u → (w.alloc C0).cell? ((⟨g, 0, none⟩ : Addr).add j) = some u) := hidden (fun j u hu => by
    subst hX1
    have hj : j = 0 := by have := (List.getElem?_eq_some_iff.1 hu).1; simp at this; omega
    subst hj
    simp at hu
    rw [← hu]
    exact HS.out.cell hg (fun h => h))
  have hlen : Hid (X1.length = Nat.min 1 n) := hidden (by subst hX1; show 1 = min 1 n; omega)
  have hone : Hid (∀ v ∈ X1, v.oneCell' = true) := hidden (fun v hv => by subst hX1; obtain rfl := List.mem_singleton.1 hv; rfl)
  have hfit : Hid (0 + X1.length ≤ (repC x 0 n).length) := hidden (by subst hX1; rw [repC_length _ _ _ (by omega)]; simp; omega)
  clear hX1
  have hw1 : IntKind.u64.wrap (n : Int) = (n : Int) := by simp [IntKind.wrap, IntKind.bits, IntKind.signed]; omega
  have hsz : (Tryd.prog.info? 3).map (·.size) = some 1 := by kernel_rfl
  have HSZ := hidden hsz
  clear hi hz0 hz1 hz2 hsz hC0
  go_enter Tryd.func41, Tryd.ntmps41
  go_wp2_with (first | (go_at_call 47; refine (HM.out _ hn).mono ?_; rintro e w1 ⟨rfl, rfl⟩) | (refine wpList_copy_splice rfl (.tmp 31) (.tmp 32) 22 22 rfl 3 Tryd.underlying22 HSZ.out _ _ _ _ _ _ rfl rfl _ 0 _ 3 Hg.out X1 hlen.out (fun _ => ⟨rfl, _, rfl, hsrc.out⟩) hfit.out hone.out _ _ HB.out (Nat.le_refl _) ?_))
  intro W2 HG2 hB2
  rw [show X1.length = 1 by rw [HX1.out]; rfl]
  have HI : Hid (W2.heap[w1.heap.size]? = some (.cells (repC x 1 n).toArray 3 (0, 0)) ∧ Step (fun _ => False) w1 W2) := hidden ⟨by
    have := HG2.out
    rw [HX1.out] at this
    rw [this, ← repC_next x 0 1 n (by omega)]
    rfl, ⟨hB2.os, hB2.tape, hB2.output, hB2.size, fun k hk _ => hB2.block k hk⟩⟩
  clear HG2 hB2 hlen hsrc hfit hone Hg HB HS hmk hg
  go_wp2
  go_loopw [8] (fun i wr => ∃ t : Nat, i = .int .i64 (t : Int) ∧ 1 ≤ t ∧ t ≤ n ∧ Hid (wr.heap[w1.heap.size]? = some (.cells (repC x t n).toArray 3 (0, 0)) ∧ Step (fun _ => False) w1 wr)) (fun i _ => n - (intOf i).toNat)
  case atStart => exact ⟨1, rfl, Nat.le_refl _, h1, HI.out⟩
  case round =>
    obtain ⟨t, rfl, ht1, htn, HR⟩ := hrel
    by_cases hlt : t < n
    · obtain ⟨k, hk, hk1, hk2⟩ : ∃ k, k = Nat.min t (n - t) ∧ 1 ≤ k ∧ t + k ≤ n := ⟨_, rfl, by show 1 ≤ min t (n - t); omega, by show t + min t (n - t) ≤ n; omega⟩
      obtain ⟨X, hX⟩ : ∃ X, X = List.replicate k (Value.int .i64 x) := ⟨_, rfl⟩
      have hXl : X.length = k := by rw [hX]; simp
      have hlen : Hid (X.length = Nat.min t (n - t)) := hidden (by rw [hXl, hk])
      have hone : Hid (∀ v ∈ X, v.oneCell' = true) := hidden (fun v hv => by rw [hX] at hv; obtain rfl := List.eq_of_mem_replicate hv; rfl)
      have hfit : Hid (t + X.length ≤ (repC x t n).length) := hidden (by rw [repC_length _ _ _ htn, hXl]; exact hk2)
      have hsrc : Hid (∀ q j u, X[j]? = some u → (wr.drewN q).cell? ((⟨w1.heap.size, 0, none⟩ : Addr).add j) = some u) := hidden (fun q j u hu => by
        have hj : j < k := by have := (List.getElem?_eq_some_iff.1 hu).1; rwa [hXl] at this
        rw [hX, List.getElem?_replicate, if_pos hj] at hu
        have hkt : k ≤ t := by rw [hk]; exact Nat.min_le_left _ _
        have e : (repC x t n)[j]? = some (.int .i64 x) := by
          unfold repC
          rw [List.getElem?_append_left (by simp; omega), List.getElem?_replicate, if_pos (by omega)]
        rw [Addr.add_lit, Nat.zero_add]
        show wr.cell? _ = _
        rw [← hu]
        simp only [World.cell?, HR.out.1]
        simp [e])
      have hB : Hid (∀ q, Below w1.heap.size w1 (wr.drewN q)) := hidden (fun q => (HR.out.2.drewN q).below _ (Nat.le_refl _) (fun _ h => h.elim))
      have hX2 := hidden hX
      clear hX hk
      have HG : Hid (∀ q, (wr.drewN q).heap[w1.heap.size]? = some (.cells (repC x t n).toArray 3 (0, 0))) := hidden (fun _ => HR.out.1)
      have a1 : (0 : Int) ≤ (t : Int) := by omega
      have a2 : (t : Int) ≤ (n : Int) := by omega
      have a3 : ¬ n = t := by omega
      have a4 : ¬ n - t = 0 := by omega
      go_wp2
      go_region_law (refine step_copy_splice rfl (.tmp 41) (.tmp 44) 22 22 rfl 3 Tryd.underlying22 HSZ.out _ _ _ _ _ _ (by simp [Act.eval, Act.put]; rfl) (by simp [Act.eval, Act.put]; rfl) w1.heap.size t _ 3 (HG.out _) X hlen.out (fun _ => ⟨rfl, _, rfl, hsrc.out _⟩) hfit.out hone.out w1.heap.size w1 (hB.out _) (Nat.le_refl _) ?_; intro W3 HG3 hB3)
      have HI3 : Hid (W3.heap[w1.heap.size]? = some (.cells (repC x (t + k) n).toArray 3 (0, 0)) ∧ Step (fun _ => False) w1 W3) := hidden ⟨by
        have := HG3.out
        rw [hX2.out, repC_next x t k n hk2] at this
        exact this, ⟨hB3.os, hB3.tape, hB3.output, hB3.size, fun k hk _ => hB3.block k hk⟩⟩
      clear HG3 hB3 hlen hsrc hfit hone HG hB
      simp [Act.put]
      have hwr : IntKind.i64.wrap ((t : Int) + (k : Int)) = ((t + k : Nat) : Int) := by rw [wrap_i64_id _ (by omega) (by omega)]; simp
      rw [hwr]
      clear hwr
      go_wp2
      go_roundw
      case rel => refine ⟨_, _, _, _, _, _, _, _, _, _, _, _, _, _, ⟨t + k, rfl, by omega, hk2, HI3.out⟩, rfl⟩
      case measure => simp [intOf]; omega
    · have htt : t = n := by omega
      subst htt
      have hbad : ¬ (t : Int) < (t : Int) := by omega
      go_wp2
      go_ret
      refine ⟨w1.heap.size, rfl, Nat.le_refl _, ⟨by rw [i64s_length, List.length_replicate, Nat.mul_one], .inr ⟨_, t, _, rfl, Nat.zero_le _, HR.out.1, Nat.le_refl _, by unfold maxLen; omega, by simp [repC], ?_⟩⟩, HR.out.2⟩
      rw [Nat.mul_one, ← repC_full]
      have := repC_length x t t (Nat.le_refl _)
      rw [List.take_of_length_le (by simp; omega)]

set_option maxHeartbeats 1000000 in
theorem repeat_any (x : Int) (n : Nat) (w : World) (h1 : 1 ≤ n) (hn : n ≤ 100000) :
    Calls Tryd.prog 33 #[.int .i64 x, .int .i64 n] w fun e w' => ∃ k, e = .returned (.slice (some ⟨k, 0, none⟩) n n) ∧ w.heap.size ≤ k ∧ w'.ownsRow 0 3 1 (.slice (some ⟨k, 0, none⟩) n n) n (i64s (List.replicate n x)) ∧ Step (fun _ => False) w w' := by
  have HC : Hid (∀ o, o = Obj.cells #[Value.int .i64 x] 3 → Calls Tryd.prog 41 #[.slice (some ⟨w.heap.size, 0, none⟩) 1 1, .int .i64 n] (w.alloc o) fun e w' => ∃ k, e = .returned (.slice (some ⟨k, 0, none⟩) n n) ∧ Hid (w.heap.size ≤ k ∧ w'.ownsRow 0 3 1 (.slice (some ⟨k, 0, none⟩) n n) n (i64s (List.replicate n x)) ∧ Step (fun _ => False) w w')) := hidden (fun o ho => by
    refine (srepeat_any w.heap.size x n (w.alloc o) (by rw [ho]; simp) h1 hn).mono fun e w' ⟨k, he, hk, ho, hs⟩ => ⟨k, he, ?_, ho, ((Step.refl _ w).alloc _).made hs⟩
    have : (w.alloc o).heap.size = w.heap.size + 1 := Array.size_push _
    omega)
  go_enter Tryd.func33, Tryd.ntmps33
  go_wp2_with (go_at_call 41; refine (HC.out _ rfl).mono ?_; rintro e w1 ⟨k, rfl, H⟩)
  go_ret
  exact ⟨k, rfl, H.out⟩

end Go.Proofs.YtkaibpibnkmmbaaDoor
