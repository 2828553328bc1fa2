/-
  Rows of bytes that came in as arguments.
-/
import Derived.Test.YtelengfdbhambaaBytes
import Derived.OpenShut
namespace Go.Proofs.Ytelengfdbhambaa
open Go.RowKit

theorem rd_of_ints {w : World} {x : Addr} {len cap : Nat} {zs : List Int} (hl : len ≤ cap) (hz : zs.length = cap) (hc : ∀ i, i < zs.length → w.cell? (x.add i) = some (.int .u8 (zs.getD i 0)))
    (hw : ∀ n ∈ zs, (Lit.int .u8 n).wf = true) : ∃ B : List Nat, B.length = len ∧ Rd w (.slice (some x) B.length cap) B ∧ (∀ y ∈ B, y < 256) ∧ (zs.take len = B.map fun (y : Nat) => (y : Int)) := by
  have hlen : ((zs.take len).map Int.toNat).length = len := by simp; omega
  refine ⟨(zs.take len).map Int.toNat, hlen, ⟨some x, cap, rfl, fun h => (by cases h), fun a ha hne => ?_⟩, ?_, ?_⟩
  · have hp : 0 < len := by
      rcases Nat.eq_zero_or_pos len with h | h
      · exact absurd (List.eq_nil_of_length_eq_zero (by omega)) hne
      · exact h
    obtain ⟨b, off, rfl, hcl⟩ := ints_at hc (by omega)
    refine ⟨b, off, (Option.some.inj ha).symm, fun k hk => ?_⟩
    rw [hlen] at hk
    rw [hcl k (by omega)]
    have hk2 : k < zs.length := by omega
    have hb := bounds_u8 (hw zs[k] (List.getElem_mem hk2))
    simp [List.getD, hk2, hk]
    omega
  · intro y hy
    obtain ⟨z, hz1, rfl⟩ := List.mem_map.1 hy
    have hb := bounds_u8 (hw z (List.mem_of_mem_take hz1))
    omega
  · rw [List.map_map]
    symm
    rw [List.map_congr_left (g := id)]
    · simp
    · intro z hz1
      have hb := bounds_u8 (hw z (List.mem_of_mem_take hz1))
      simp; omega

theorem rd_none (w : World) : Rd w (.slice none ([] : List Nat).length 0) [] := ⟨none, 0, rfl, fun _ => ⟨rfl, rfl⟩, fun a h => (by cases h)⟩

end Go.Proofs.Ytelengfdbhambaa
