/-
  DERIVED. GIVEN WITH THE SEED: THE CARDS: each row of YtmegfcgnemfjnabDoorRows.lean that lists a variable, with what it lists TIED to the program's text (the seventh form; the later family's looks); each row that meets fmt, with fmt's text TOLD by the authors' own Lean function (tested against real Go, not proved from fmt's source: count such statements apart). THE CARD IS WHAT COUNTS. Prove the row's statement (the work); the ties are given (YtmegfcgnemfjnabDoorTie.lean); close each card by the builder's one call (the guide's Derived/Test/ToyasCard.lean, 'card_holds'). Laid BY PROGRAM, IN A SANDBOX (cutbox-door.mjs). By AI agents, Wed Nov 11 2026. No macro, syntax, notation, axiom, sorry.
-/
import Derived.Test.YtmegfcgnemfjnabDoorRows
import GoSem.ClaimSeven
namespace Go.Proofs.YtmegfcgnemfjnabDoor
namespace Rows

/-- THE TIED CARD OF 'rubricatorlaw9.EntBytes'. -/
def entBytesCard : Claim7 := { stood := { row := entBytesRow, standIns := [], harness := (true, "36452feb938e9036c186350fb85c1f391c864ae4cf8dd59e53b02db180c02a5f"), looks := true }, kinds := [], alts := [], laidByText := true, laidKinds := [.data, .data, .data, .sentinel, .sentinel], laidTests := true, laidLooks := .later }
def EntBytesCardSaid : Prop := Claim7.holds Tryd.pinned (.plain (OpenSpec.ofChange entBytesSpec)) entBytesCard

/-- THE TIED CARD OF 'rubricatorlaw9.EntJoins'. -/
def entJoinsCard : Claim7 := { stood := { row := entJoinsRow, standIns := [], harness := (true, "36452feb938e9036c186350fb85c1f391c864ae4cf8dd59e53b02db180c02a5f"), looks := true }, kinds := [], alts := [], laidByText := true, laidKinds := [.data, .data, .data, .sentinel, .sentinel], laidTests := true, laidLooks := .later }
def EntJoinsCardSaid : Prop := Claim7.holds Tryd.pinned (.plain (OpenSpec.ofChange entJoinsSpec)) entJoinsCard

/-- THE SECOND FORM's CARD OF 'rubricatorlaw9.EntBytes'. -/
def entBytesUptoCard : Claim7 := { stood := { row := entBytesUptoRow, standIns := [], harness := (true, "36452feb938e9036c186350fb85c1f391c864ae4cf8dd59e53b02db180c02a5f"), looks := true }, kinds := [], alts := [], laidByText := true, laidKinds := [.data, .data, .data, .sentinel, .sentinel], laidTests := true, laidLooks := .later }
def EntBytesUptoCardSaid : Prop := Claim7.holds Tryd.pinned (.plain (OpenSpec.upto entBytesSpec)) entBytesUptoCard

/-- THE SECOND FORM's CARD OF 'rubricatorlaw9.EntJoins'. -/
def entJoinsUptoCard : Claim7 := { stood := { row := entJoinsUptoRow, standIns := [], harness := (true, "36452feb938e9036c186350fb85c1f391c864ae4cf8dd59e53b02db180c02a5f"), looks := true }, kinds := [], alts := [], laidByText := true, laidKinds := [.data, .data, .data, .sentinel, .sentinel], laidTests := true, laidLooks := .later }
def EntJoinsUptoCardSaid : Prop := Claim7.holds Tryd.pinned (.plain (OpenSpec.upto entJoinsSpec)) entJoinsUptoCard
end Rows
end Go.Proofs.YtmegfcgnemfjnabDoor
