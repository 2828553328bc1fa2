/-
  DERIVED. GIVEN WITH THE SEED: THE CARDS: each row of YtinncakendfklaaDoorRows.lean that lists a variable, with what it lists TIED to the program's text (the seventh form; the later family's looks); each row that meets fmt, with fmt's text TOLD by the authors' own Lean function (tested against real Go, not proved from fmt's source: count such statements apart). THE CARD IS WHAT COUNTS. Prove the row's statement (the work); the ties are given (YtinncakendfklaaDoorTie.lean); close each card by the builder's one call (the guide's Derived/Test/ToyasCard.lean, 'card_holds'). Laid BY PROGRAM, IN A SANDBOX (cutbox-door.mjs). By AI agents, Wed Nov 11 2026. No macro, syntax, notation, axiom, sorry.
-/
import Derived.Test.YtinncakendfklaaDoorRows
import GoSem.ClaimSeven
namespace Go.Proofs.YtinncakendfklaaDoor
namespace Rows

/-- THE TIED CARD OF 'rubricatorlaw4.InflateReads'. -/
def inflateReadsCard : Claim7 := { stood := { row := inflateReadsRow, standIns := [], harness := (true, "7dcdc215666092976d1ec07c8964e19a014dc73e65aadbcece4236b97aca4bfc"), looks := false }, kinds := [], alts := [], laidByText := true, laidKinds := [.data], laidTests := true, laidLooks := .later }
def InflateReadsCardSaid : Prop := Claim7.holds Tryd.pinned (.plain (OpenSpec.ofChange inflateReadsSpec)) inflateReadsCard

/-- THE TIED CARD OF 'rubricatorlaw4.InflateDynamic'. -/
def inflateDynamicCard : Claim7 := { stood := { row := inflateDynamicRow, standIns := [], harness := (true, "7dcdc215666092976d1ec07c8964e19a014dc73e65aadbcece4236b97aca4bfc"), looks := false }, kinds := [], alts := [], laidByText := true, laidKinds := [.data], laidTests := true, laidLooks := .later }
def InflateDynamicCardSaid : Prop := Claim7.holds Tryd.pinned (.plain (OpenSpec.ofChange inflateDynamicSpec)) inflateDynamicCard

/-- THE SECOND FORM's CARD OF 'rubricatorlaw4.InflateReads'. -/
def inflateReadsUptoCard : Claim7 := { stood := { row := inflateReadsUptoRow, standIns := [], harness := (true, "7dcdc215666092976d1ec07c8964e19a014dc73e65aadbcece4236b97aca4bfc"), looks := false }, kinds := [], alts := [], laidByText := true, laidKinds := [.data], laidTests := true, laidLooks := .later }
def InflateReadsUptoCardSaid : Prop := Claim7.holds Tryd.pinned (.plain (OpenSpec.upto inflateReadsSpec)) inflateReadsUptoCard

/-- THE SECOND FORM's CARD OF 'rubricatorlaw4.InflateDynamic'. -/
def inflateDynamicUptoCard : Claim7 := { stood := { row := inflateDynamicUptoRow, standIns := [], harness := (true, "7dcdc215666092976d1ec07c8964e19a014dc73e65aadbcece4236b97aca4bfc"), looks := false }, kinds := [], alts := [], laidByText := true, laidKinds := [.data], laidTests := true, laidLooks := .later }
def InflateDynamicUptoCardSaid : Prop := Claim7.holds Tryd.pinned (.plain (OpenSpec.upto inflateDynamicSpec)) inflateDynamicUptoCard
end Rows
end Go.Proofs.YtinncakendfklaaDoor
