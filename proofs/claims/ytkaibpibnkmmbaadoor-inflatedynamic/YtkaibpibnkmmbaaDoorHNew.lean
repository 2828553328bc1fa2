/-
  few; New: a decoder.
-/
import Derived.Test.YtkaibpibnkmmbaaDoorHDec
import Derived.Test.YtkaibpibnkmmbaaDoorRegionInv
import Derived.Test.YtkaibpibnkmmbaaDoorHFill
import Derived.Laws.Tables
namespace Go.Proofs.YtkaibpibnkmmbaaDoor
open Go.RowKit
set_option maxRecDepth 100000
set_option linter.unusedVariables false

/-- No code, or one alone, of length 1. -/
def fewB (f : Nat → Int) : Bool := fl f 16 == 0 || (fl f 16 == 16384 && f 1 == 1)

set_option maxHeartbeats 1000000 in
theorem few_any (f : Nat → Int) (w : World) (h0 : ∀ k, 0 ≤ f k) (h1 : ∀ k, f k ≤ 320) :
    Calls Tryd.prog 50 #[.agg (A16 f)] w fun e w' => e = .returned (.bool (fewB f)) ∧ Step (fun _ => False) w w' := by
  have HF := hidden (fun W => fill_any f W h0 h1)
  have HB : Hid (fewB f = (fl f 16 == 0 || (fl f 16 == 16384 && f 1 == 1))) := rfl
  have HF2 := HF
  unfold A16 at HF2
  clear h0 h1
  generalize hF : fl f 16 = F at *
  clear hF
  by_cases hz : F = 0
  · subst hz
    have hb : ((0 : Int) == 0) = true := rfl
    go_enter Tryd.func50, Tryd.ntmps50
    go_wp2_with (refine box16 f rfl ?_)
    intro w1 hs1 hz1 ha1
    go_wp2_with (refine load16 w.heap.size f rfl ha1 ?_)
    refine (HF.out _).mono ?_
    rintro e w2 ⟨rfl, hs2⟩
    have HS := hidden (hs1.made hs2)
    clear hs1 hs2 ha1
    go_wp2
    go_ret
    exact ⟨by rw [HB.out]; rfl, HS.out⟩
  · have hb : (F == 0) = false := by rw [beq_eq_false_iff_ne]; exact hz
    by_cases hh : F = 16384
    · subst hh
      have hb2 : ((16384 : Int) == 16384) = true := rfl
      go_enter Tryd.func50, Tryd.ntmps50
      go_wp2_with (refine box16 f rfl ?_)
      intro w1 hs1 hz1 ha1
      go_wp2_with (refine load16 w.heap.size f rfl ha1 ?_)
      refine (HF.out _).mono ?_
      rintro e w2 ⟨rfl, hs2⟩
      have hcells : ∀ k, k < 16 → w2.cell? ⟨w.heap.size, k, none⟩ = some (.int .i64 (f k)) := fun k hk => ((ha1.made hs2) k hk).1
      have HA2 := hidden (ha1.made hs2)
      have HS := hidden (hs1.made hs2)
      clear hs1 hs2 ha1
      go_wp2_with fail
      refine (HF2.out _).mono ?_
      rintro e w3 ⟨rfl, hs3⟩
      have c1 : w3.cell? ⟨w.heap.size, 1, none⟩ = some (.int .i64 (f 1)) := ((HA2.out.made hs3) 1 (by omega)).1
      have HS3 := hidden (HS.out.made hs3)
      clear hs3 hcells
      generalize hf1 : f 1 = f1 at *
      have HF1 := hidden hf1
      clear hf1
      go_wp2
      go_ret
      exact ⟨by rw [HB.out]; simp, HS3.out⟩
    · have hb2 : (F == 16384) = false := by rw [beq_eq_false_iff_ne]; exact hh
      go_enter Tryd.func50, Tryd.ntmps50
      go_wp2_with (refine box16 f rfl ?_)
      intro w1 hs1 hz1 ha1
      go_wp2_with (refine load16 w.heap.size f rfl ha1 ?_)
      refine (HF.out _).mono ?_
      rintro e w2 ⟨rfl, hs2⟩
      have hcells : ∀ k, k < 16 → w2.cell? ⟨w.heap.size, k, none⟩ = some (.int .i64 (f k)) := fun k hk => ((ha1.made hs2) k hk).1
      have HA2 := hidden (ha1.made hs2)
      have HS := hidden (hs1.made hs2)
      clear hs1 hs2 ha1
      go_wp2_with fail
      refine (HF2.out _).mono ?_
      rintro e w3 ⟨rfl, hs3⟩
      have c1 : w3.cell? ⟨w.heap.size, 1, none⟩ = some (.int .i64 (f 1)) := ((HA2.out.made hs3) 1 (by omega)).1
      have HS3 := hidden (HS.out.made hs3)
      clear hs3 hcells
      generalize hf1 : f 1 = f1 at *
      have HF1 := hidden hf1
      clear hf1
      go_wp2
      go_ret
      exact ⟨by rw [HB.out, hb, hb2]; rfl, HS3.out⟩

end Go.Proofs.YtkaibpibnkmmbaaDoor
