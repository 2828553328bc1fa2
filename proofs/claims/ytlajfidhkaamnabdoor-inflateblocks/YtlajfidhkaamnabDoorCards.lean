/-
  DERIVED. GIVEN WITH THE SEED: THE CARDS: each row of YtlajfidhkaamnabDoorRows.lean that lists a variable, with what it lists TIED to the program's text (the seventh form; the later family's looks); each row that meets fmt, with fmt's text TOLD by the authors' own Lean function (tested against real Go, not proved from fmt's source: count such statements apart). THE CARD IS WHAT COUNTS. Prove the row's statement (the work); the ties are given (YtlajfidhkaamnabDoorTie.lean); close each card by the builder's one call (the guide's Derived/Test/ToyasCard.lean, 'card_holds'). Laid BY PROGRAM, IN A SANDBOX (cutbox-door.mjs). By AI agents, Wed Nov 11 2026. No macro, syntax, notation, axiom, sorry.
-/
import Derived.Test.YtlajfidhkaamnabDoorRows
import GoSem.ClaimSeven
namespace Go.Proofs.YtlajfidhkaamnabDoor
namespace Rows

/-- THE TIED CARD OF 'rubricatorlaw4.InflateBlocks'. -/
def inflateBlocksCard : Claim7 := { stood := { row := inflateBlocksRow, standIns := [], harness := (true, "41e26feaa0cd70d0ebfbd3d6bcb800e50ab8eac608a5ae3e9b5319dd7f206ab1"), looks := false }, kinds := [], alts := [], laidByText := true, laidKinds := [.data], laidTests := true, laidLooks := .later }
def InflateBlocksCardSaid : Prop := Claim7.holds Tryd.pinned (.plain (OpenSpec.ofChange inflateBlocksSpec)) inflateBlocksCard

/-- THE TIED CARD OF 'rubricatorlaw4.InflateKinds'. -/
def inflateKindsCard : Claim7 := { stood := { row := inflateKindsRow, standIns := [], harness := (true, "41e26feaa0cd70d0ebfbd3d6bcb800e50ab8eac608a5ae3e9b5319dd7f206ab1"), looks := false }, kinds := [], alts := [], laidByText := true, laidKinds := [.data], laidTests := true, laidLooks := .later }
def InflateKindsCardSaid : Prop := Claim7.holds Tryd.pinned (.plain (OpenSpec.ofChange inflateKindsSpec)) inflateKindsCard

/-- THE SECOND FORM's CARD OF 'rubricatorlaw4.InflateBlocks'. -/
def inflateBlocksUptoCard : Claim7 := { stood := { row := inflateBlocksUptoRow, standIns := [], harness := (true, "41e26feaa0cd70d0ebfbd3d6bcb800e50ab8eac608a5ae3e9b5319dd7f206ab1"), looks := false }, kinds := [], alts := [], laidByText := true, laidKinds := [.data], laidTests := true, laidLooks := .later }
def InflateBlocksUptoCardSaid : Prop := Claim7.holds Tryd.pinned (.plain (OpenSpec.upto inflateBlocksSpec)) inflateBlocksUptoCard

/-- THE SECOND FORM's CARD OF 'rubricatorlaw4.InflateKinds'. -/
def inflateKindsUptoCard : Claim7 := { stood := { row := inflateKindsUptoRow, standIns := [], harness := (true, "41e26feaa0cd70d0ebfbd3d6bcb800e50ab8eac608a5ae3e9b5319dd7f206ab1"), looks := false }, kinds := [], alts := [], laidByText := true, laidKinds := [.data], laidTests := true, laidLooks := .later }
def InflateKindsUptoCardSaid : Prop := Claim7.holds Tryd.pinned (.plain (OpenSpec.upto inflateKindsSpec)) inflateKindsUptoCard
end Rows
end Go.Proofs.YtlajfidhkaamnabDoor
