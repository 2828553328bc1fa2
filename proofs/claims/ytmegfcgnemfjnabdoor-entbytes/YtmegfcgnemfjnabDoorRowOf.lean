/-
  A row of bytes that came in, opened; how long it is at most.
-/
import Derived.Test.YtmegfcgnemfjnabDoorRow
import Derived.WalkKit
import Derived.ProofKit
import Derived.SizedLaws
import Derived.ChangeArms
namespace Go.Proofs.YtmegfcgnemfjnabDoor
open Go.RowKit Go.ChangeShapes Go.WideShapes Go.ChangeAt

theorem row_of {H : Type} {enc : TypeId × Value → H} {W : World} {fuel : Nat} {v : Value} {d : DataW H} {p : List MemPlace} (h : DataW.trod enc Tryd.prog W 0 (fun _ => true) true fuel 23 [v] = some (d, p))
    (hs : ∀ n ∈ d.weights Tryd.prog 23, n ≤ reachBytes) :
    ∃ (a : Option Addr) (cap : Nat) (B : List Nat), v = .slice a B.length cap ∧ Rd W v B ∧ (∀ z ∈ B, z < 256) ∧ B.length ≤ cap ∧ B.length ≤ 140737488351232 := by
  rcases open_ints Tryd.underlying23 Tryd.underlying5 (by kernel_rfl) h with ⟨hcs, _⟩ | ⟨x, l, c, zs, hcs, _, hl, hm, hz, hx, hcell, hwz⟩
  · simp at hcs
    subst hcs
    exact ⟨none, 0, [], rfl, rd_none W, by simp, by simp, by simp⟩
  · simp at hcs
    subst hcs
    simp only [if_true] at hz
    obtain ⟨B, h1, h2, h3, _⟩ := rd_of_ints hl hz hcell hwz
    simp only [Prod.mk.injEq] at hx
    have hb : Tryd.prog.bytesOf 5 = 1 := by kernel_rfl
    have hw := hs zs.length (by
      rw [hx.1]
      simp only [DataW.weights, Tryd.underlying23, hb, Nat.mul_one, lits, List.length_map, List.length_take, List.length_drop]
      rw [show min l zs.length + (zs.length - l) = zs.length by omega]
      exact List.mem_cons_self)
    refine ⟨some x, c, B, by rw [h1], by rw [← h1]; exact h2, h3, by omega, ?_⟩
    have : reachBytes = 140737488351232 := rfl
    omega

end Go.Proofs.YtmegfcgnemfjnabDoor
