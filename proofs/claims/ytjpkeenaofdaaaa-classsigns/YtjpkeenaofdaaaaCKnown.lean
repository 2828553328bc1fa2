/-
  The laws' own three runes.
-/
import Derived.Test.YtjpkeenaofdaaaaCClass
import Derived.Test.YtjpkeenaofdaaaaCEnds
namespace Go.Proofs.Ytjpkeenaofdaaaa
open Go.RowKit

theorem known_any (w : World) :
    Calls Try.prog 12 #[] w fun e w' => e = .returned (.bool true) ∧ Step (fun _ => False) w w' := by
  have h1 : punctB 171 = true := by decide
  have h2 : blankB 8195 = true := by decide
  have HL := hidden (fun wx => last_any [97, 195, 169] wx (by decide))
  have h3 : lastD [97, 195, 169] = 233 := by decide +kernel
  rw [h3] at HL
  go_enter Try.func12, Try.ntmps12
  go_wp2_with fail
  refine Calls.mono (punct_any _ _) ?_
  rintro e w1 ⟨rfl, rfl⟩
  rw [h1]
  go_wp2_with fail
  refine Calls.mono (blank_any _ _) ?_
  rintro e w2 ⟨rfl, rfl⟩
  rw [h2]
  go_wp2_with fail
  refine Calls.mono (HL.out _) ?_
  rintro e w3 ⟨rfl, S1⟩
  have HS := hidden S1
  clear S1
  go_wp2
  go_ret
  exact ⟨rfl, HS.out⟩

end Go.Proofs.Ytjpkeenaofdaaaa
