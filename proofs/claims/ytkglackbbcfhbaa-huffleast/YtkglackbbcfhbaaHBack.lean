/-
  slices.Backward over rows of bools.
-/
import Derived.Test.YtkglackbbcfhbaaHRange
namespace Go.Proofs.Ytkglackbbcfhbaa
open Go.RowKit Go.Shelf
set_option maxRecDepth 100000

attribute [local go_sem] Oper.semAt_some

theorem backward_any (a : Option Addr) (n c : Nat) (w : World) :
    Calls Try.prog 18 #[.slice a n c] w fun e w' => e = .returned (.func (.func 32) #[] #[.pointer (some ⟨w.heap.size, 0, none⟩)]) ∧ w' = w.alloc (.cells #[.slice a n c] 45) := by
  go_enter Try.func18, Try.ntmps18
  go_wp2
  go_ret
  exact ⟨rfl, rfl⟩

set_option maxHeartbeats 2000000 in
theorem back_in (F : Fence) (n : Nat) (hf : F.fn 32) (hro : F.round = none) (hn : 1 ≤ n) (l B T m : Nat) (hm : m ≤ 1000) (g : Nat → Value) (K : Nat → World → Prop)
    (hK : ∀ k W, K k W → W.cell? ⟨B, 0, none⟩ = some (.slice (some ⟨T, 0, none⟩) m m) ∧ ∀ j, j < m → W.cell? ⟨T, j, none⟩ = some (g j))
    (hY : ∀ k W, K k W → k < m → YieldAt F (n - 1) Try.prog l #[.int .i64 ((m : Int) - 1 - (k : Int)), g (m - 1 - k)] W fun e W' => e = .returned (.bool true) ∧ K (k + 1) W') (W : World) (h0 : K 0 W) :
    CallsIn F n Try.prog 32 #[.func (.yield l) #[] #[], .pointer (some ⟨B, 0, none⟩)] W fun e W' => (∃ v, e = .returned v) ∧ K m W' := by
  have HK := hidden hK
  have HY := hidden hY
  have hc0 := (hK 0 W h0).1
  clear hK hY
  refine callsIn_of_wp Try.func32 rfl hf ?_ hro
  simp only [Try.ntmps32, List.size_toArray, List.length_cons, List.length_nil, Nat.reduceAdd, Nat.reduceSub, Array.replicate_succ, Array.replicate_zero, List.push_toArray, List.append_toArray, List.nil_append, List.cons_append]
  gi_wp2
  gi_loopw [3] (fun i wr => ∃ k : Nat, k ≤ m ∧ i = .int .i64 ((m : Int) - 1 - (k : Int)) ∧ Hid (K k wr)) (fun i _ => ((intOf i) + 1).toNat)
  case atStart => exact ⟨0, Nat.zero_le _, by go_num, h0⟩
  case round =>
    obtain ⟨k, hk, rfl, hJ⟩ := hrel
    have hc := (HK.out k wr hJ.out).1
    by_cases hlt : k < m
    · have hg := (HK.out k wr hJ.out).2 (m - 1 - k) (by omega)
      obtain ⟨fn, tmps, assign, body, hy, hR⟩ := HY.out k wr hJ.out hlt
      have e1 : ((m : Int) - 1 - (k : Int)).toNat = m - 1 - k := by omega
      have h0' : 0 ≤ (m : Int) - 1 - (k : Int) := by omega
      have h1' : (m : Int) - 1 - (k : Int) < (m : Int) := by omega
      have HR := hidden hR
      clear hR
      gi_wp2
      refine HR.out.mono ?_
      rintro e W3 ⟨rfl, hJ3⟩
      have HJ3 := hidden hJ3
      clear hJ3
      gi_wp2
      go_roundw
      case rel => exact ⟨k + 1, by omega, by go_num, HJ3.out⟩
      case measure => simp [intOf]; omega
    · have e : k = m := by omega
      subst e
      have h0' : ¬ 0 ≤ (k : Int) - 1 - (k : Int) := by omega
      gi_wp2
      go_end0
      exact ⟨⟨_, rfl⟩, hJ.out⟩

end Go.Proofs.Ytkglackbbcfhbaa
