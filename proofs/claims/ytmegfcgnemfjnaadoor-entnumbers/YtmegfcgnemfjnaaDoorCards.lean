/-
  DERIVED. GIVEN WITH THE SEED: THE CARDS: each row of YtmegfcgnemfjnaaDoorRows.lean that lists a variable, with what it lists TIED to the program's text (the seventh form; the later family's looks); each row that meets fmt, with fmt's text TOLD by the authors' own Lean function (tested against real Go, not proved from fmt's source: count such statements apart). THE CARD IS WHAT COUNTS. Prove the row's statement (the work); the ties are given (YtmegfcgnemfjnaaDoorTie.lean); close each card by the builder's one call (the guide's Derived/Test/ToyasCard.lean, 'card_holds'). Laid BY PROGRAM, IN A SANDBOX (cutbox-door.mjs). By AI agents, Wed Nov 11 2026. No macro, syntax, notation, axiom, sorry.
-/
import Derived.Test.YtmegfcgnemfjnaaDoorRows
import GoSem.ClaimSeven
namespace Go.Proofs.YtmegfcgnemfjnaaDoor
namespace Rows

/-- THE TIED CARD OF 'rubricatorlaw9.EntAt'. -/
def entAtCard : Claim7 := { stood := { row := entAtRow, standIns := [], harness := (true, "42eeabbd0ae626f74b026cd4ef675132eda0b56e58e284a2185414aa64b1b939"), looks := true }, kinds := [], alts := [], laidByText := true, laidKinds := [.data, .data, .data, .sentinel, .sentinel], laidTests := true, laidLooks := .later }
def EntAtCardSaid : Prop := Claim7.holds Tryd.pinned (.plain (OpenSpec.ofChange entAtSpec)) entAtCard

/-- THE TIED CARD OF 'rubricatorlaw9.EntUnescapes'. -/
def entUnescapesCard : Claim7 := { stood := { row := entUnescapesRow, standIns := [], harness := (true, "42eeabbd0ae626f74b026cd4ef675132eda0b56e58e284a2185414aa64b1b939"), looks := true }, kinds := [], alts := [], laidByText := true, laidKinds := [.data, .data, .data, .sentinel, .sentinel], laidTests := true, laidLooks := .later }
def EntUnescapesCardSaid : Prop := Claim7.holds Tryd.pinned (.plain (OpenSpec.ofChange entUnescapesSpec)) entUnescapesCard

/-- THE TIED CARD OF 'rubricatorlaw9.EntSpells'. -/
def entSpellsCard : Claim7 := { stood := { row := entSpellsRow, standIns := [], harness := (true, "42eeabbd0ae626f74b026cd4ef675132eda0b56e58e284a2185414aa64b1b939"), looks := true }, kinds := [], alts := [], laidByText := true, laidKinds := [.data, .data, .data, .sentinel, .sentinel], laidTests := true, laidLooks := .later }
def EntSpellsCardSaid : Prop := Claim7.holds Tryd.pinned (.plain (OpenSpec.ofChange entSpellsSpec)) entSpellsCard

/-- THE TIED CARD OF 'rubricatorlaw9.EntNumbers'. -/
def entNumbersCard : Claim7 := { stood := { row := entNumbersRow, standIns := [], harness := (true, "42eeabbd0ae626f74b026cd4ef675132eda0b56e58e284a2185414aa64b1b939"), looks := true }, kinds := [], alts := [], laidByText := true, laidKinds := [.data, .data, .data, .sentinel, .sentinel], laidTests := true, laidLooks := .later }
def EntNumbersCardSaid : Prop := Claim7.holds Tryd.pinned (.plain (OpenSpec.ofChange entNumbersSpec)) entNumbersCard

/-- THE TIED CARD OF 'rubricatorlaw9.EntSigns'. -/
def entSignsCard : Claim7 := { stood := { row := entSignsRow, standIns := [], harness := (true, "42eeabbd0ae626f74b026cd4ef675132eda0b56e58e284a2185414aa64b1b939"), looks := true }, kinds := [], alts := [], laidByText := true, laidKinds := [.data, .data, .data, .sentinel, .sentinel], laidTests := true, laidLooks := .later }
def EntSignsCardSaid : Prop := Claim7.holds Tryd.pinned (.plain (OpenSpec.ofChange entSignsSpec)) entSignsCard

/-- THE TIED CARD OF 'rubricatorlaw9.EntHTML'. -/
def entHTMLCard : Claim7 := { stood := { row := entHTMLRow, standIns := [], harness := (true, "42eeabbd0ae626f74b026cd4ef675132eda0b56e58e284a2185414aa64b1b939"), looks := true }, kinds := [], alts := [], laidByText := true, laidKinds := [.data, .data, .data, .sentinel, .sentinel], laidTests := true, laidLooks := .later }
def EntHTMLCardSaid : Prop := Claim7.holds Tryd.pinned (.plain (OpenSpec.ofChange entHTMLSpec)) entHTMLCard

/-- THE SECOND FORM's CARD OF 'rubricatorlaw9.EntAt'. -/
def entAtUptoCard : Claim7 := { stood := { row := entAtUptoRow, standIns := [], harness := (true, "42eeabbd0ae626f74b026cd4ef675132eda0b56e58e284a2185414aa64b1b939"), looks := true }, kinds := [], alts := [], laidByText := true, laidKinds := [.data, .data, .data, .sentinel, .sentinel], laidTests := true, laidLooks := .later }
def EntAtUptoCardSaid : Prop := Claim7.holds Tryd.pinned (.plain (OpenSpec.upto entAtSpec)) entAtUptoCard

/-- THE SECOND FORM's CARD OF 'rubricatorlaw9.EntUnescapes'. -/
def entUnescapesUptoCard : Claim7 := { stood := { row := entUnescapesUptoRow, standIns := [], harness := (true, "42eeabbd0ae626f74b026cd4ef675132eda0b56e58e284a2185414aa64b1b939"), looks := true }, kinds := [], alts := [], laidByText := true, laidKinds := [.data, .data, .data, .sentinel, .sentinel], laidTests := true, laidLooks := .later }
def EntUnescapesUptoCardSaid : Prop := Claim7.holds Tryd.pinned (.plain (OpenSpec.upto entUnescapesSpec)) entUnescapesUptoCard

/-- THE SECOND FORM's CARD OF 'rubricatorlaw9.EntSpells'. -/
def entSpellsUptoCard : Claim7 := { stood := { row := entSpellsUptoRow, standIns := [], harness := (true, "42eeabbd0ae626f74b026cd4ef675132eda0b56e58e284a2185414aa64b1b939"), looks := true }, kinds := [], alts := [], laidByText := true, laidKinds := [.data, .data, .data, .sentinel, .sentinel], laidTests := true, laidLooks := .later }
def EntSpellsUptoCardSaid : Prop := Claim7.holds Tryd.pinned (.plain (OpenSpec.upto entSpellsSpec)) entSpellsUptoCard

/-- THE SECOND FORM's CARD OF 'rubricatorlaw9.EntNumbers'. -/
def entNumbersUptoCard : Claim7 := { stood := { row := entNumbersUptoRow, standIns := [], harness := (true, "42eeabbd0ae626f74b026cd4ef675132eda0b56e58e284a2185414aa64b1b939"), looks := true }, kinds := [], alts := [], laidByText := true, laidKinds := [.data, .data, .data, .sentinel, .sentinel], laidTests := true, laidLooks := .later }
def EntNumbersUptoCardSaid : Prop := Claim7.holds Tryd.pinned (.plain (OpenSpec.upto entNumbersSpec)) entNumbersUptoCard

/-- THE SECOND FORM's CARD OF 'rubricatorlaw9.EntSigns'. -/
def entSignsUptoCard : Claim7 := { stood := { row := entSignsUptoRow, standIns := [], harness := (true, "42eeabbd0ae626f74b026cd4ef675132eda0b56e58e284a2185414aa64b1b939"), looks := true }, kinds := [], alts := [], laidByText := true, laidKinds := [.data, .data, .data, .sentinel, .sentinel], laidTests := true, laidLooks := .later }
def EntSignsUptoCardSaid : Prop := Claim7.holds Tryd.pinned (.plain (OpenSpec.upto entSignsSpec)) entSignsUptoCard

/-- THE SECOND FORM's CARD OF 'rubricatorlaw9.EntHTML'. -/
def entHTMLUptoCard : Claim7 := { stood := { row := entHTMLUptoRow, standIns := [], harness := (true, "42eeabbd0ae626f74b026cd4ef675132eda0b56e58e284a2185414aa64b1b939"), looks := true }, kinds := [], alts := [], laidByText := true, laidKinds := [.data, .data, .data, .sentinel, .sentinel], laidTests := true, laidLooks := .later }
def EntHTMLUptoCardSaid : Prop := Claim7.holds Tryd.pinned (.plain (OpenSpec.upto entHTMLSpec)) entHTMLUptoCard
end Rows
end Go.Proofs.YtmegfcgnemfjnaaDoor
