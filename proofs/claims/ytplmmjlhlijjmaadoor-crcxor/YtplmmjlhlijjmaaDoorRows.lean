/-
  NARROWER THAN 'FOR EVERY INPUT', by the rows' own cells (each row's printed sentence says how): CrcSums: laid · CrcMore: laid · CrcSees: laid · CrcNumbers: laid · CrcXor: laid · CrcRows: laid.
  DERIVED. THE GIVEN ROWS OF THIS SEAT. 6 by the template 'for every input the law returns true; each argument reads behind the call as it read before'; 0 by the template 'total and deterministic' (their statements: YtplmmjlhlijjmaaDoorTotals.lean).
  GIVEN WITH THE SEED: the statements are not yours to turn. If you find one false, say at which input.
  Laid BY PROGRAM, IN A SANDBOX (cutbox-rows.mjs): the forced cells as the released guide's own fill.sh prints them over the translation 56659834a7f288e7… (all of the seat's roots in one cut). By AI agents, Wed Nov 11 2026. No macro, syntax, notation, axiom, sorry.
-/
import Derived.Test.YtplmmjlhlijjmaaDoorChecked
import GoSem.Claim
import GoSem.ClaimJoined
import GoSem.ClaimMapViews
import Derived.JoinedTies
import Derived.KernelRfl
namespace Go.Proofs.YtplmmjlhlijjmaaDoor
/- THE CELL 'sum', in the pinned program and in every row, IS THE sha256 OF THE DUMP (.gsa) THAT YtplmmjlhlijjmaaDoorProg.lean LOADS. Nothing in Lean hashes anything: it is a label: what it is worth is what the hold of that sum in a sandbox is worth. -/
noncomputable def Tryd.pinned : Pinned := { name := "ytplmmjlhlijjmaadoor", sum := "56659834a7f288e7e96b7d600de5950422a438a8639c3d2b32094c1f060b4563", checked := Tryd.checked }
namespace Rows
def none {H : Type} : Left H := { results := [], args := [] }

/- WHAT THE LISTED PACKAGE-LEVEL VARIABLES READ AS WHEN THE CALL BEGINS. Each datum BY PROGRAM (the guide's laid-datum.mjs) off the statement by which the dump's own 'gosem.cut.vars' lays the variable. In a bare row this is a premise. The card (YtplmmjlhlijjmaaDoorCards.lean) ties it to the program's text. -/
def laid_rubricator_crc_halves {H : Type} : DataW H := .agg [.lit (.int .u32 0), .lit (.int .u32 498536548), .lit (.int .u32 997073096), .lit (.int .u32 651767980), .lit (.int .u32 1994146192), .lit (.int .u32 1802195444), .lit (.int .u32 1303535960), .lit (.int .u32 1342533948), .lit (.int .u32 3988292384), .lit (.int .u32 4027552580), .lit (.int .u32 3604390888), .lit (.int .u32 3412177804), .lit (.int .u32 2607071920), .lit (.int .u32 2262029012), .lit (.int .u32 2685067896), .lit (.int .u32 3183342108)]

/-- 'rubricatorlaw2.CrcSums': WHATEVER THE INPUT: true; the input reads as it did. -/
def crcSumsSpec : ChangeSpec := { name := "crcSums", fn := fun _ => fun
  | [d1, d2] => { results := [.lit (.bool true)], args := [d1, d2] }
  | _ => none }
def crcSumsRow : OpenClaim := { program := "ytplmmjlhlijjmaadoor", sum := "56659834a7f288e7e96b7d600de5950422a438a8639c3d2b32094c1f060b4563", func := "rubricator/rubricatorlaw2.CrcSums", spec := "crcSums", named := ["rubricator/crc.halves"], apart := false, laid := [("rubricator/crc.halves", laid_rubricator_crc_halves)] }
def CrcSumsSaid : Prop := crcSumsRow.holds Tryd.pinned (OpenSpec.ofChange crcSumsSpec)

/-- ITS FALSE NEIGHBOUR: 'it returns false'. Refute it at one input. -/
def crcSumsWrong : ChangeSpec := { name := "crcSums", fn := fun _ => fun
  | [d1, d2] => { results := [.lit (.bool false)], args := [d1, d2] }
  | _ => none }
def CrcSumsWrongFalsely : Prop := crcSumsRow.holds Tryd.pinned (OpenSpec.ofChange crcSumsWrong)

/-- 'rubricatorlaw2.CrcMore': WHATEVER THE INPUT: true; the input reads as it did. -/
def crcMoreSpec : ChangeSpec := { name := "crcMore", fn := fun _ => fun
  | [d1, d2] => { results := [.lit (.bool true)], args := [d1, d2] }
  | _ => none }
def crcMoreRow : OpenClaim := { program := "ytplmmjlhlijjmaadoor", sum := "56659834a7f288e7e96b7d600de5950422a438a8639c3d2b32094c1f060b4563", func := "rubricator/rubricatorlaw2.CrcMore", spec := "crcMore", named := ["rubricator/crc.halves"], apart := false, laid := [("rubricator/crc.halves", laid_rubricator_crc_halves)] }
def CrcMoreSaid : Prop := crcMoreRow.holds Tryd.pinned (OpenSpec.ofChange crcMoreSpec)

/-- ITS FALSE NEIGHBOUR: 'it returns false'. Refute it at one input. -/
def crcMoreWrong : ChangeSpec := { name := "crcMore", fn := fun _ => fun
  | [d1, d2] => { results := [.lit (.bool false)], args := [d1, d2] }
  | _ => none }
def CrcMoreWrongFalsely : Prop := crcMoreRow.holds Tryd.pinned (OpenSpec.ofChange crcMoreWrong)

/-- 'rubricatorlaw2.CrcSees': WHATEVER THE INPUT: true; the input reads as it did. -/
def crcSeesSpec : ChangeSpec := { name := "crcSees", fn := fun _ => fun
  | [d1, d2, d3] => { results := [.lit (.bool true)], args := [d1, d2, d3] }
  | _ => none }
def crcSeesRow : OpenClaim := { program := "ytplmmjlhlijjmaadoor", sum := "56659834a7f288e7e96b7d600de5950422a438a8639c3d2b32094c1f060b4563", func := "rubricator/rubricatorlaw2.CrcSees", spec := "crcSees", named := ["rubricator/crc.halves"], apart := false, laid := [("rubricator/crc.halves", laid_rubricator_crc_halves)] }
def CrcSeesSaid : Prop := crcSeesRow.holds Tryd.pinned (OpenSpec.ofChange crcSeesSpec)

/-- ITS FALSE NEIGHBOUR: 'it returns false'. Refute it at one input. -/
def crcSeesWrong : ChangeSpec := { name := "crcSees", fn := fun _ => fun
  | [d1, d2, d3] => { results := [.lit (.bool false)], args := [d1, d2, d3] }
  | _ => none }
def CrcSeesWrongFalsely : Prop := crcSeesRow.holds Tryd.pinned (OpenSpec.ofChange crcSeesWrong)

/-- 'rubricatorlaw2.CrcNumbers': WHATEVER THE INPUT: true; the input reads as it did. -/
def crcNumbersSpec : ChangeSpec := { name := "crcNumbers", fn := fun _ => fun
  | [d1, d2, d3] => { results := [.lit (.bool true)], args := [d1, d2, d3] }
  | _ => none }
def crcNumbersRow : OpenClaim := { program := "ytplmmjlhlijjmaadoor", sum := "56659834a7f288e7e96b7d600de5950422a438a8639c3d2b32094c1f060b4563", func := "rubricator/rubricatorlaw2.CrcNumbers", spec := "crcNumbers", named := ["rubricator/crc.halves"], apart := false, laid := [("rubricator/crc.halves", laid_rubricator_crc_halves)] }
def CrcNumbersSaid : Prop := crcNumbersRow.holds Tryd.pinned (OpenSpec.ofChange crcNumbersSpec)

/-- ITS FALSE NEIGHBOUR: 'it returns false'. Refute it at one input. -/
def crcNumbersWrong : ChangeSpec := { name := "crcNumbers", fn := fun _ => fun
  | [d1, d2, d3] => { results := [.lit (.bool false)], args := [d1, d2, d3] }
  | _ => none }
def CrcNumbersWrongFalsely : Prop := crcNumbersRow.holds Tryd.pinned (OpenSpec.ofChange crcNumbersWrong)

/-- 'rubricatorlaw2.CrcXor': WHATEVER THE INPUT: true; the input reads as it did. -/
def crcXorSpec : ChangeSpec := { name := "crcXor", fn := fun _ => fun
  | [d1, d2, d3] => { results := [.lit (.bool true)], args := [d1, d2, d3] }
  | _ => none }
def crcXorRow : OpenClaim := { program := "ytplmmjlhlijjmaadoor", sum := "56659834a7f288e7e96b7d600de5950422a438a8639c3d2b32094c1f060b4563", func := "rubricator/rubricatorlaw2.CrcXor", spec := "crcXor", named := ["rubricator/crc.halves"], apart := false, laid := [("rubricator/crc.halves", laid_rubricator_crc_halves)] }
def CrcXorSaid : Prop := crcXorRow.holds Tryd.pinned (OpenSpec.ofChange crcXorSpec)

/-- ITS FALSE NEIGHBOUR: 'it returns false'. Refute it at one input. -/
def crcXorWrong : ChangeSpec := { name := "crcXor", fn := fun _ => fun
  | [d1, d2, d3] => { results := [.lit (.bool false)], args := [d1, d2, d3] }
  | _ => none }
def CrcXorWrongFalsely : Prop := crcXorRow.holds Tryd.pinned (OpenSpec.ofChange crcXorWrong)

/-- 'rubricatorlaw2.CrcRows': WHATEVER THE INPUT: true; the input reads as it did. -/
def crcRowsSpec : ChangeSpec := { name := "crcRows", fn := fun _ => fun
  | [d] => { results := [.lit (.bool true)], args := [d] }
  | _ => none }
def crcRowsRow : OpenClaim := { program := "ytplmmjlhlijjmaadoor", sum := "56659834a7f288e7e96b7d600de5950422a438a8639c3d2b32094c1f060b4563", func := "rubricator/rubricatorlaw2.CrcRows", spec := "crcRows", named := ["rubricator/crc.halves"], apart := false, laid := [("rubricator/crc.halves", laid_rubricator_crc_halves)] }
def CrcRowsSaid : Prop := crcRowsRow.holds Tryd.pinned (OpenSpec.ofChange crcRowsSpec)

/-- ITS FALSE NEIGHBOUR: 'it returns false'. Refute it at one input. -/
def crcRowsWrong : ChangeSpec := { name := "crcRows", fn := fun _ => fun
  | [d] => { results := [.lit (.bool false)], args := [d] }
  | _ => none }
def CrcRowsWrongFalsely : Prop := crcRowsRow.holds Tryd.pinned (OpenSpec.ofChange crcRowsWrong)

/- THE SECOND FORM. 'bulk': how many values and letters a reading holds, each counted each time it is reached (what is shared counts as often as it is met; a slice's spare places count too). A statement '..UptoSaid' is the law's where the arguments, and the package variables that the reading takes, are together of bulk at most 1048576: NARROWER than '..Said'. Prove '..Said' where nothing that the law and all that it calls make is longer than what came in: it says more and counts as full. Else prove '..UptoSaid'. A law counts once. -/
mutual
def uptoBulk {H : Type} : DataW H → Nat
  | .lit (.string bytes) => bytes.length + 1
  | .lit _ => 1
  | .nil => 1
  | .ptr d => uptoBulk d + 1
  | .slice elems spare => uptoBulkAll elems + uptoBulkAll spare + 1
  | .agg parts => uptoBulkAll parts + 1
  | .iface _ d => uptoBulk d + 1
  | .map entries => uptoBulkEntries entries + 1
  | .held _ => 1
def uptoBulkAll {H : Type} : List (DataW H) → Nat
  | [] => 0
  | d :: r => uptoBulk d + uptoBulkAll r
def uptoBulkEntries {H : Type} : List (Lit × DataW H) → Nat
  | [] => 0
  | x :: r => uptoBulkEntry x + uptoBulkEntries r
def uptoBulkEntry {H : Type} : Lit × DataW H → Nat
  | (.string bytes, d) => bytes.length + uptoBulk d + 1
  | (_, d) => uptoBulk d + 1
 end
def uptoSmall : (H : Type) → List (DataW H) → Bool := fun _ ds => decide (uptoBulkAll ds ≤ 1048576)
def OpenSpec.upto (s : _root_.Go.ChangeSpec) : _root_.Go.OpenSpec := { _root_.Go.OpenSpec.ofChange s with cond := some uptoSmall }

/-- 'rubricatorlaw2.CrcSums', WHERE WHAT IT READS IS OF BULK AT MOST 1048576: true; the input reads as it did. -/
def crcSumsUptoRow : OpenClaim := { program := "ytplmmjlhlijjmaadoor", sum := "56659834a7f288e7e96b7d600de5950422a438a8639c3d2b32094c1f060b4563", func := "rubricator/rubricatorlaw2.CrcSums", spec := "crcSums", named := ["rubricator/crc.halves"], apart := false, laid := [("rubricator/crc.halves", laid_rubricator_crc_halves)], narrowed := true }
def CrcSumsUptoSaid : Prop := crcSumsUptoRow.holds Tryd.pinned (OpenSpec.upto crcSumsSpec)

/-- 'rubricatorlaw2.CrcMore', WHERE WHAT IT READS IS OF BULK AT MOST 1048576: true; the input reads as it did. -/
def crcMoreUptoRow : OpenClaim := { program := "ytplmmjlhlijjmaadoor", sum := "56659834a7f288e7e96b7d600de5950422a438a8639c3d2b32094c1f060b4563", func := "rubricator/rubricatorlaw2.CrcMore", spec := "crcMore", named := ["rubricator/crc.halves"], apart := false, laid := [("rubricator/crc.halves", laid_rubricator_crc_halves)], narrowed := true }
def CrcMoreUptoSaid : Prop := crcMoreUptoRow.holds Tryd.pinned (OpenSpec.upto crcMoreSpec)

/-- 'rubricatorlaw2.CrcSees', WHERE WHAT IT READS IS OF BULK AT MOST 1048576: true; the input reads as it did. -/
def crcSeesUptoRow : OpenClaim := { program := "ytplmmjlhlijjmaadoor", sum := "56659834a7f288e7e96b7d600de5950422a438a8639c3d2b32094c1f060b4563", func := "rubricator/rubricatorlaw2.CrcSees", spec := "crcSees", named := ["rubricator/crc.halves"], apart := false, laid := [("rubricator/crc.halves", laid_rubricator_crc_halves)], narrowed := true }
def CrcSeesUptoSaid : Prop := crcSeesUptoRow.holds Tryd.pinned (OpenSpec.upto crcSeesSpec)

/-- 'rubricatorlaw2.CrcNumbers', WHERE WHAT IT READS IS OF BULK AT MOST 1048576: true; the input reads as it did. -/
def crcNumbersUptoRow : OpenClaim := { program := "ytplmmjlhlijjmaadoor", sum := "56659834a7f288e7e96b7d600de5950422a438a8639c3d2b32094c1f060b4563", func := "rubricator/rubricatorlaw2.CrcNumbers", spec := "crcNumbers", named := ["rubricator/crc.halves"], apart := false, laid := [("rubricator/crc.halves", laid_rubricator_crc_halves)], narrowed := true }
def CrcNumbersUptoSaid : Prop := crcNumbersUptoRow.holds Tryd.pinned (OpenSpec.upto crcNumbersSpec)

/-- 'rubricatorlaw2.CrcXor', WHERE WHAT IT READS IS OF BULK AT MOST 1048576: true; the input reads as it did. -/
def crcXorUptoRow : OpenClaim := { program := "ytplmmjlhlijjmaadoor", sum := "56659834a7f288e7e96b7d600de5950422a438a8639c3d2b32094c1f060b4563", func := "rubricator/rubricatorlaw2.CrcXor", spec := "crcXor", named := ["rubricator/crc.halves"], apart := false, laid := [("rubricator/crc.halves", laid_rubricator_crc_halves)], narrowed := true }
def CrcXorUptoSaid : Prop := crcXorUptoRow.holds Tryd.pinned (OpenSpec.upto crcXorSpec)

/-- 'rubricatorlaw2.CrcRows', WHERE WHAT IT READS IS OF BULK AT MOST 1048576: true; the input reads as it did. -/
def crcRowsUptoRow : OpenClaim := { program := "ytplmmjlhlijjmaadoor", sum := "56659834a7f288e7e96b7d600de5950422a438a8639c3d2b32094c1f060b4563", func := "rubricator/rubricatorlaw2.CrcRows", spec := "crcRows", named := ["rubricator/crc.halves"], apart := false, laid := [("rubricator/crc.halves", laid_rubricator_crc_halves)], narrowed := true }
def CrcRowsUptoSaid : Prop := crcRowsUptoRow.holds Tryd.pinned (OpenSpec.upto crcRowsSpec)

end Rows
end Go.Proofs.YtplmmjlhlijjmaaDoor
