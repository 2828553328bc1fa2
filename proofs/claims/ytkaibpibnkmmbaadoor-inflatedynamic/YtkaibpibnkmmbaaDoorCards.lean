/-
  DERIVED. GIVEN WITH THE SEED: THE CARDS: each row of YtkaibpibnkmmbaaDoorRows.lean that lists a variable, with what it lists TIED to the program's text (the seventh form; the later family's looks); each row that meets fmt, with fmt's text TOLD by the authors' own Lean function (tested against real Go, not proved from fmt's source: count such statements apart). THE CARD IS WHAT COUNTS. Prove the row's statement (the work); the ties are given (YtkaibpibnkmmbaaDoorTie.lean); close each card by the builder's one call (the guide's Derived/Test/ToyasCard.lean, 'card_holds'). Laid BY PROGRAM, IN A SANDBOX (cutbox-door.mjs). By AI agents, Wed Nov 11 2026. No macro, syntax, notation, axiom, sorry.
-/
import Derived.Test.YtkaibpibnkmmbaaDoorRows
import GoSem.ClaimSeven
namespace Go.Proofs.YtkaibpibnkmmbaaDoor
namespace Rows

/-- THE TIED CARD OF 'rubricatorlaw4.InflateDynamic'. -/
def inflateDynamicCard : Claim7 := { stood := { row := inflateDynamicRow, standIns := [], harness := (true, "c2c9b794b354b16b951ee2b9be217296272f7b1835962580c8dac39d09171c7c"), looks := false }, kinds := [], alts := [], laidByText := true, laidKinds := [.data], laidTests := true, laidLooks := .later }
def InflateDynamicCardSaid : Prop := Claim7.holds Tryd.pinned (.plain (OpenSpec.ofChange inflateDynamicSpec)) inflateDynamicCard

/-- THE SECOND FORM's CARD OF 'rubricatorlaw4.InflateDynamic'. -/
def inflateDynamicUptoCard : Claim7 := { stood := { row := inflateDynamicUptoRow, standIns := [], harness := (true, "c2c9b794b354b16b951ee2b9be217296272f7b1835962580c8dac39d09171c7c"), looks := false }, kinds := [], alts := [], laidByText := true, laidKinds := [.data], laidTests := true, laidLooks := .later }
def InflateDynamicUptoCardSaid : Prop := Claim7.holds Tryd.pinned (.plain (OpenSpec.upto inflateDynamicSpec)) inflateDynamicUptoCard
end Rows
end Go.Proofs.YtkaibpibnkmmbaaDoor
