/-
  Rows of numbers that came in as arguments.
-/
import Derived.Test.YtkglackbbcfhbaaHInt
import Derived.OpenShut
namespace Go.Proofs.Ytkglackbbcfhbaa
open Go.RowKit

theorem ri_of_ints {w : World} {x : Addr} {len cap : Nat} {zs : List Int} (hl : len ≤ cap) (hz : zs.length = cap) (hc : ∀ i, i < zs.length → w.cell? (x.add i) = some (.int .i64 (zs.getD i 0))) : Ri w (.slice (some x) len cap) (zs.take len) := by
  have hlen : (zs.take len).length = len := by simp; omega
  refine ⟨some x, cap, by rw [hlen], by omega, fun h => (by cases h), fun a ha hne => ?_⟩
  have hp : 0 < len := by
    rcases Nat.eq_zero_or_pos len with h | h
    · exact absurd (List.eq_nil_of_length_eq_zero (by omega)) hne
    · exact h
  obtain ⟨b, off, rfl, hcl⟩ := ints_at hc (by omega)
  refine ⟨b, off, (Option.some.inj ha).symm, fun k hk => ?_⟩
  rw [hlen] at hk
  rw [hcl k (by omega)]
  have hk2 : k < zs.length := by omega
  simp [List.getD, hk2, hk]

end Go.Proofs.Ytkglackbbcfhbaa
