/-
  DERIVED. GIVEN WITH THE SEED: THE CARDS: each row of YtcgjmkcigmmjjaaGreatDoorRows.lean that lists a variable, with what it lists TIED to the program's text (the seventh form; the later family's looks); each row that meets fmt, with fmt's text TOLD by the authors' own Lean function (tested against real Go, not proved from fmt's source: count such statements apart). THE CARD IS WHAT COUNTS. Prove the row's statement (the work); the ties are given (YtcgjmkcigmmjjaaGreatDoorTie.lean); close each card by the builder's one call (the guide's Derived/Test/ToyasCard.lean, 'card_holds'). Laid BY PROGRAM, IN A SANDBOX (cutbox-door.mjs). By AI agents, Wed Nov 11 2026. No macro, syntax, notation, axiom, sorry.
-/
import Derived.Test.YtcgjmkcigmmjjaaGreatDoorRows
import GoSem.ClaimSeven
namespace Go.Proofs.YtcgjmkcigmmjjaaGreatDoor
namespace Rows

/-- THE TIED CARD OF 'rubricatorlaw5.DeflateBack'. -/
def deflateBackCard : Claim7 := { stood := { row := deflateBackRow, standIns := [], harness := (true, "76b9b15a4c0eb0e9837b9dd025c466f979dd3266ec3bc36d245d6bc256195abf"), looks := false }, kinds := [], alts := [], laidByText := true, laidKinds := [.data], laidTests := true, laidLooks := .later }
def DeflateBackCardSaid : Prop := Claim7.holds Tryz.pinned (.plain (OpenSpec.ofChange deflateBackSpec)) deflateBackCard

/-- THE TIED CARD OF 'rubricatorlaw5.DeflateStored'. -/
def deflateStoredCard : Claim7 := { stood := { row := deflateStoredRow, standIns := [], harness := (true, "76b9b15a4c0eb0e9837b9dd025c466f979dd3266ec3bc36d245d6bc256195abf"), looks := false }, kinds := [], alts := [], laidByText := true, laidKinds := [.data], laidTests := true, laidLooks := .later }
def DeflateStoredCardSaid : Prop := Claim7.holds Tryz.pinned (.plain (OpenSpec.ofChange deflateStoredSpec)) deflateStoredCard

/-- THE TIED CARD OF 'rubricatorlaw5.DeflateSmall'. -/
def deflateSmallCard : Claim7 := { stood := { row := deflateSmallRow, standIns := [], harness := (true, "76b9b15a4c0eb0e9837b9dd025c466f979dd3266ec3bc36d245d6bc256195abf"), looks := false }, kinds := [], alts := [], laidByText := true, laidKinds := [.data], laidTests := true, laidLooks := .later }
def DeflateSmallCardSaid : Prop := Claim7.holds Tryz.pinned (.plain (OpenSpec.ofChange deflateSmallSpec)) deflateSmallCard

/-- THE TIED CARD OF 'rubricatorlaw5.DeflateTwice'. -/
def deflateTwiceCard : Claim7 := { stood := { row := deflateTwiceRow, standIns := [], harness := (true, "76b9b15a4c0eb0e9837b9dd025c466f979dd3266ec3bc36d245d6bc256195abf"), looks := false }, kinds := [], alts := [], laidByText := true, laidKinds := [.data], laidTests := true, laidLooks := .later }
def DeflateTwiceCardSaid : Prop := Claim7.holds Tryz.pinned (.plain (OpenSpec.ofChange deflateTwiceSpec)) deflateTwiceCard

/-- THE TIED CARD OF 'rubricatorlaw5.DeflateRuns'. -/
def deflateRunsCard : Claim7 := { stood := { row := deflateRunsRow, standIns := [], harness := (true, "76b9b15a4c0eb0e9837b9dd025c466f979dd3266ec3bc36d245d6bc256195abf"), looks := false }, kinds := [], alts := [], laidByText := true, laidKinds := [.data], laidTests := true, laidLooks := .later }
def DeflateRunsCardSaid : Prop := Claim7.holds Tryz.pinned (.plain (OpenSpec.ofChange deflateRunsSpec)) deflateRunsCard

/-- THE SECOND FORM's CARD OF 'rubricatorlaw5.DeflateBack'. -/
def deflateBackUptoCard : Claim7 := { stood := { row := deflateBackUptoRow, standIns := [], harness := (true, "76b9b15a4c0eb0e9837b9dd025c466f979dd3266ec3bc36d245d6bc256195abf"), looks := false }, kinds := [], alts := [], laidByText := true, laidKinds := [.data], laidTests := true, laidLooks := .later }
def DeflateBackUptoCardSaid : Prop := Claim7.holds Tryz.pinned (.plain (OpenSpec.upto deflateBackSpec)) deflateBackUptoCard

/-- THE SECOND FORM's CARD OF 'rubricatorlaw5.DeflateStored'. -/
def deflateStoredUptoCard : Claim7 := { stood := { row := deflateStoredUptoRow, standIns := [], harness := (true, "76b9b15a4c0eb0e9837b9dd025c466f979dd3266ec3bc36d245d6bc256195abf"), looks := false }, kinds := [], alts := [], laidByText := true, laidKinds := [.data], laidTests := true, laidLooks := .later }
def DeflateStoredUptoCardSaid : Prop := Claim7.holds Tryz.pinned (.plain (OpenSpec.upto deflateStoredSpec)) deflateStoredUptoCard

/-- THE SECOND FORM's CARD OF 'rubricatorlaw5.DeflateSmall'. -/
def deflateSmallUptoCard : Claim7 := { stood := { row := deflateSmallUptoRow, standIns := [], harness := (true, "76b9b15a4c0eb0e9837b9dd025c466f979dd3266ec3bc36d245d6bc256195abf"), looks := false }, kinds := [], alts := [], laidByText := true, laidKinds := [.data], laidTests := true, laidLooks := .later }
def DeflateSmallUptoCardSaid : Prop := Claim7.holds Tryz.pinned (.plain (OpenSpec.upto deflateSmallSpec)) deflateSmallUptoCard

/-- THE SECOND FORM's CARD OF 'rubricatorlaw5.DeflateTwice'. -/
def deflateTwiceUptoCard : Claim7 := { stood := { row := deflateTwiceUptoRow, standIns := [], harness := (true, "76b9b15a4c0eb0e9837b9dd025c466f979dd3266ec3bc36d245d6bc256195abf"), looks := false }, kinds := [], alts := [], laidByText := true, laidKinds := [.data], laidTests := true, laidLooks := .later }
def DeflateTwiceUptoCardSaid : Prop := Claim7.holds Tryz.pinned (.plain (OpenSpec.upto deflateTwiceSpec)) deflateTwiceUptoCard

/-- THE SECOND FORM's CARD OF 'rubricatorlaw5.DeflateRuns'. -/
def deflateRunsUptoCard : Claim7 := { stood := { row := deflateRunsUptoRow, standIns := [], harness := (true, "76b9b15a4c0eb0e9837b9dd025c466f979dd3266ec3bc36d245d6bc256195abf"), looks := false }, kinds := [], alts := [], laidByText := true, laidKinds := [.data], laidTests := true, laidLooks := .later }
def DeflateRunsUptoCardSaid : Prop := Claim7.holds Tryz.pinned (.plain (OpenSpec.upto deflateRunsSpec)) deflateRunsUptoCard
end Rows
end Go.Proofs.YtcgjmkcigmmjjaaGreatDoor
