/-
  NARROWER THAN 'FOR EVERY INPUT', by the rows' own cells (each row's printed sentence says how): DeflateBack: laid · DeflateStored: laid · DeflateSmall: laid · DeflateTwice: laid · DeflateRuns: laid.
  DERIVED. THE GIVEN ROWS OF THIS SEAT. 5 by the template 'for every input the law returns true; each argument reads behind the call as it read before'; 0 by the template 'total and deterministic' (their statements: YtcgjmkcigmmjjaaGreatDoorTotals.lean).
  GIVEN WITH THE SEED: the statements are not yours to turn. If you find one false, say at which input.
  Laid BY PROGRAM, IN A SANDBOX (cutbox-rows.mjs): the forced cells as the released guide's own fill.sh prints them over the translation c3f40ea2c50c2267… (all of the seat's roots in one cut). By AI agents, Wed Nov 11 2026. No macro, syntax, notation, axiom, sorry.
-/
import Derived.Test.YtcgjmkcigmmjjaaGreatDoorChecked
import GoSem.Claim
import GoSem.ClaimJoined
import GoSem.ClaimMapViews
import Derived.JoinedTies
import Derived.KernelRfl
namespace Go.Proofs.YtcgjmkcigmmjjaaGreatDoor
/- THE CELL 'sum', in the pinned program and in every row, IS THE sha256 OF THE DUMP (.gsa) THAT YtcgjmkcigmmjjaaGreatDoorProg.lean LOADS. Nothing in Lean hashes anything: it is a label: what it is worth is what the hold of that sum in a sandbox is worth. -/
noncomputable def Tryz.pinned : Pinned := { name := "ytcgjmkcigmmjjaagreatdoor", sum := "c3f40ea2c50c226766a422d3ff296f26e8b67ee5abc9fed5f6fcc340b9bbd9ce", checked := Tryz.checked }
namespace Rows
def none {H : Type} : Left H := { results := [], args := [] }

/- WHAT THE LISTED PACKAGE-LEVEL VARIABLES READ AS WHEN THE CALL BEGINS. Each datum BY PROGRAM (the guide's laid-datum.mjs) off the statement by which the dump's own 'gosem.cut.vars' lays the variable. In a bare row this is a premise. The card (YtcgjmkcigmmjjaaGreatDoorCards.lean) ties it to the program's text. -/
def laid_rubricator_deflate_lengthsOrder {H : Type} : DataW H := .agg [.lit (.int .i64 16), .lit (.int .i64 17), .lit (.int .i64 18), .lit (.int .i64 0), .lit (.int .i64 8), .lit (.int .i64 7), .lit (.int .i64 9), .lit (.int .i64 6), .lit (.int .i64 10), .lit (.int .i64 5), .lit (.int .i64 11), .lit (.int .i64 4), .lit (.int .i64 12), .lit (.int .i64 3), .lit (.int .i64 13), .lit (.int .i64 2), .lit (.int .i64 14), .lit (.int .i64 1), .lit (.int .i64 15)]

/-- 'rubricatorlaw5.DeflateBack': WHATEVER THE INPUT: true; the input reads as it did. -/
def deflateBackSpec : ChangeSpec := { name := "deflateBack", fn := fun _ => fun
  | [d] => { results := [.lit (.bool true)], args := [d] }
  | _ => none }
def deflateBackRow : OpenClaim := { program := "ytcgjmkcigmmjjaagreatdoor", sum := "c3f40ea2c50c226766a422d3ff296f26e8b67ee5abc9fed5f6fcc340b9bbd9ce", func := "rubricator/rubricatorlaw5.DeflateBack", spec := "deflateBack", unfollowed := true, recurses := true, named := ["rubricator/deflate.lengthsOrder"], apart := false, laid := [("rubricator/deflate.lengthsOrder", laid_rubricator_deflate_lengthsOrder)] }
def DeflateBackSaid : Prop := deflateBackRow.holds Tryz.pinned (OpenSpec.ofChange deflateBackSpec)

/-- ITS FALSE NEIGHBOUR: 'it returns false'. Refute it at one input. -/
def deflateBackWrong : ChangeSpec := { name := "deflateBack", fn := fun _ => fun
  | [d] => { results := [.lit (.bool false)], args := [d] }
  | _ => none }
def DeflateBackWrongFalsely : Prop := deflateBackRow.holds Tryz.pinned (OpenSpec.ofChange deflateBackWrong)

/-- 'rubricatorlaw5.DeflateStored': WHATEVER THE INPUT: true; the input reads as it did. -/
def deflateStoredSpec : ChangeSpec := { name := "deflateStored", fn := fun _ => fun
  | [d1, d2] => { results := [.lit (.bool true)], args := [d1, d2] }
  | _ => none }
def deflateStoredRow : OpenClaim := { program := "ytcgjmkcigmmjjaagreatdoor", sum := "c3f40ea2c50c226766a422d3ff296f26e8b67ee5abc9fed5f6fcc340b9bbd9ce", func := "rubricator/rubricatorlaw5.DeflateStored", spec := "deflateStored", unfollowed := true, recurses := true, named := ["rubricator/deflate.lengthsOrder"], apart := false, laid := [("rubricator/deflate.lengthsOrder", laid_rubricator_deflate_lengthsOrder)] }
def DeflateStoredSaid : Prop := deflateStoredRow.holds Tryz.pinned (OpenSpec.ofChange deflateStoredSpec)

/-- ITS FALSE NEIGHBOUR: 'it returns false'. Refute it at one input. -/
def deflateStoredWrong : ChangeSpec := { name := "deflateStored", fn := fun _ => fun
  | [d1, d2] => { results := [.lit (.bool false)], args := [d1, d2] }
  | _ => none }
def DeflateStoredWrongFalsely : Prop := deflateStoredRow.holds Tryz.pinned (OpenSpec.ofChange deflateStoredWrong)

/-- 'rubricatorlaw5.DeflateSmall': WHATEVER THE INPUT: true; the input reads as it did. -/
def deflateSmallSpec : ChangeSpec := { name := "deflateSmall", fn := fun _ => fun
  | [d1, d2] => { results := [.lit (.bool true)], args := [d1, d2] }
  | _ => none }
def deflateSmallRow : OpenClaim := { program := "ytcgjmkcigmmjjaagreatdoor", sum := "c3f40ea2c50c226766a422d3ff296f26e8b67ee5abc9fed5f6fcc340b9bbd9ce", func := "rubricator/rubricatorlaw5.DeflateSmall", spec := "deflateSmall", unfollowed := true, recurses := true, named := ["rubricator/deflate.lengthsOrder"], apart := false, laid := [("rubricator/deflate.lengthsOrder", laid_rubricator_deflate_lengthsOrder)] }
def DeflateSmallSaid : Prop := deflateSmallRow.holds Tryz.pinned (OpenSpec.ofChange deflateSmallSpec)

/-- ITS FALSE NEIGHBOUR: 'it returns false'. Refute it at one input. -/
def deflateSmallWrong : ChangeSpec := { name := "deflateSmall", fn := fun _ => fun
  | [d1, d2] => { results := [.lit (.bool false)], args := [d1, d2] }
  | _ => none }
def DeflateSmallWrongFalsely : Prop := deflateSmallRow.holds Tryz.pinned (OpenSpec.ofChange deflateSmallWrong)

/-- 'rubricatorlaw5.DeflateTwice': WHATEVER THE INPUT: true; the input reads as it did. -/
def deflateTwiceSpec : ChangeSpec := { name := "deflateTwice", fn := fun _ => fun
  | [d1, d2] => { results := [.lit (.bool true)], args := [d1, d2] }
  | _ => none }
def deflateTwiceRow : OpenClaim := { program := "ytcgjmkcigmmjjaagreatdoor", sum := "c3f40ea2c50c226766a422d3ff296f26e8b67ee5abc9fed5f6fcc340b9bbd9ce", func := "rubricator/rubricatorlaw5.DeflateTwice", spec := "deflateTwice", unfollowed := true, recurses := true, named := ["rubricator/deflate.lengthsOrder"], apart := false, laid := [("rubricator/deflate.lengthsOrder", laid_rubricator_deflate_lengthsOrder)] }
def DeflateTwiceSaid : Prop := deflateTwiceRow.holds Tryz.pinned (OpenSpec.ofChange deflateTwiceSpec)

/-- ITS FALSE NEIGHBOUR: 'it returns false'. Refute it at one input. -/
def deflateTwiceWrong : ChangeSpec := { name := "deflateTwice", fn := fun _ => fun
  | [d1, d2] => { results := [.lit (.bool false)], args := [d1, d2] }
  | _ => none }
def DeflateTwiceWrongFalsely : Prop := deflateTwiceRow.holds Tryz.pinned (OpenSpec.ofChange deflateTwiceWrong)

/-- 'rubricatorlaw5.DeflateRuns': WHATEVER THE INPUT: true; the input reads as it did. -/
def deflateRunsSpec : ChangeSpec := { name := "deflateRuns", fn := fun _ => fun
  | [d1, d2] => { results := [.lit (.bool true)], args := [d1, d2] }
  | _ => none }
def deflateRunsRow : OpenClaim := { program := "ytcgjmkcigmmjjaagreatdoor", sum := "c3f40ea2c50c226766a422d3ff296f26e8b67ee5abc9fed5f6fcc340b9bbd9ce", func := "rubricator/rubricatorlaw5.DeflateRuns", spec := "deflateRuns", unfollowed := true, recurses := true, named := ["rubricator/deflate.lengthsOrder"], apart := false, laid := [("rubricator/deflate.lengthsOrder", laid_rubricator_deflate_lengthsOrder)] }
def DeflateRunsSaid : Prop := deflateRunsRow.holds Tryz.pinned (OpenSpec.ofChange deflateRunsSpec)

/-- ITS FALSE NEIGHBOUR: 'it returns false'. Refute it at one input. -/
def deflateRunsWrong : ChangeSpec := { name := "deflateRuns", fn := fun _ => fun
  | [d1, d2] => { results := [.lit (.bool false)], args := [d1, d2] }
  | _ => none }
def DeflateRunsWrongFalsely : Prop := deflateRunsRow.holds Tryz.pinned (OpenSpec.ofChange deflateRunsWrong)

/- THE SECOND FORM. 'bulk': how many values and letters a reading holds, each counted each time it is reached (what is shared counts as often as it is met; a slice's spare places count too). A statement '..UptoSaid' is the law's where the arguments, and the package variables that the reading takes, are together of bulk at most 1048576: NARROWER than '..Said'. Prove '..Said' where nothing that the law and all that it calls make is longer than what came in: it says more and counts as full. Else prove '..UptoSaid'. A law counts once. -/
mutual
def uptoBulk {H : Type} : DataW H → Nat
  | .lit (.string bytes) => bytes.length + 1
  | .lit _ => 1
  | .nil => 1
  | .ptr d => uptoBulk d + 1
  | .slice elems spare => uptoBulkAll elems + uptoBulkAll spare + 1
  | .agg parts => uptoBulkAll parts + 1
  | .iface _ d => uptoBulk d + 1
  | .map entries => uptoBulkEntries entries + 1
  | .held _ => 1
def uptoBulkAll {H : Type} : List (DataW H) → Nat
  | [] => 0
  | d :: r => uptoBulk d + uptoBulkAll r
def uptoBulkEntries {H : Type} : List (Lit × DataW H) → Nat
  | [] => 0
  | x :: r => uptoBulkEntry x + uptoBulkEntries r
def uptoBulkEntry {H : Type} : Lit × DataW H → Nat
  | (.string bytes, d) => bytes.length + uptoBulk d + 1
  | (_, d) => uptoBulk d + 1
 end
def uptoSmall : (H : Type) → List (DataW H) → Bool := fun _ ds => decide (uptoBulkAll ds ≤ 1048576)
def OpenSpec.upto (s : _root_.Go.ChangeSpec) : _root_.Go.OpenSpec := { _root_.Go.OpenSpec.ofChange s with cond := some uptoSmall }

/-- 'rubricatorlaw5.DeflateBack', WHERE WHAT IT READS IS OF BULK AT MOST 1048576: true; the input reads as it did. -/
def deflateBackUptoRow : OpenClaim := { program := "ytcgjmkcigmmjjaagreatdoor", sum := "c3f40ea2c50c226766a422d3ff296f26e8b67ee5abc9fed5f6fcc340b9bbd9ce", func := "rubricator/rubricatorlaw5.DeflateBack", spec := "deflateBack", unfollowed := true, recurses := true, named := ["rubricator/deflate.lengthsOrder"], apart := false, laid := [("rubricator/deflate.lengthsOrder", laid_rubricator_deflate_lengthsOrder)], narrowed := true }
def DeflateBackUptoSaid : Prop := deflateBackUptoRow.holds Tryz.pinned (OpenSpec.upto deflateBackSpec)

/-- 'rubricatorlaw5.DeflateStored', WHERE WHAT IT READS IS OF BULK AT MOST 1048576: true; the input reads as it did. -/
def deflateStoredUptoRow : OpenClaim := { program := "ytcgjmkcigmmjjaagreatdoor", sum := "c3f40ea2c50c226766a422d3ff296f26e8b67ee5abc9fed5f6fcc340b9bbd9ce", func := "rubricator/rubricatorlaw5.DeflateStored", spec := "deflateStored", unfollowed := true, recurses := true, named := ["rubricator/deflate.lengthsOrder"], apart := false, laid := [("rubricator/deflate.lengthsOrder", laid_rubricator_deflate_lengthsOrder)], narrowed := true }
def DeflateStoredUptoSaid : Prop := deflateStoredUptoRow.holds Tryz.pinned (OpenSpec.upto deflateStoredSpec)

/-- 'rubricatorlaw5.DeflateSmall', WHERE WHAT IT READS IS OF BULK AT MOST 1048576: true; the input reads as it did. -/
def deflateSmallUptoRow : OpenClaim := { program := "ytcgjmkcigmmjjaagreatdoor", sum := "c3f40ea2c50c226766a422d3ff296f26e8b67ee5abc9fed5f6fcc340b9bbd9ce", func := "rubricator/rubricatorlaw5.DeflateSmall", spec := "deflateSmall", unfollowed := true, recurses := true, named := ["rubricator/deflate.lengthsOrder"], apart := false, laid := [("rubricator/deflate.lengthsOrder", laid_rubricator_deflate_lengthsOrder)], narrowed := true }
def DeflateSmallUptoSaid : Prop := deflateSmallUptoRow.holds Tryz.pinned (OpenSpec.upto deflateSmallSpec)

/-- 'rubricatorlaw5.DeflateTwice', WHERE WHAT IT READS IS OF BULK AT MOST 1048576: true; the input reads as it did. -/
def deflateTwiceUptoRow : OpenClaim := { program := "ytcgjmkcigmmjjaagreatdoor", sum := "c3f40ea2c50c226766a422d3ff296f26e8b67ee5abc9fed5f6fcc340b9bbd9ce", func := "rubricator/rubricatorlaw5.DeflateTwice", spec := "deflateTwice", unfollowed := true, recurses := true, named := ["rubricator/deflate.lengthsOrder"], apart := false, laid := [("rubricator/deflate.lengthsOrder", laid_rubricator_deflate_lengthsOrder)], narrowed := true }
def DeflateTwiceUptoSaid : Prop := deflateTwiceUptoRow.holds Tryz.pinned (OpenSpec.upto deflateTwiceSpec)

/-- 'rubricatorlaw5.DeflateRuns', WHERE WHAT IT READS IS OF BULK AT MOST 1048576: true; the input reads as it did. -/
def deflateRunsUptoRow : OpenClaim := { program := "ytcgjmkcigmmjjaagreatdoor", sum := "c3f40ea2c50c226766a422d3ff296f26e8b67ee5abc9fed5f6fcc340b9bbd9ce", func := "rubricator/rubricatorlaw5.DeflateRuns", spec := "deflateRuns", unfollowed := true, recurses := true, named := ["rubricator/deflate.lengthsOrder"], apart := false, laid := [("rubricator/deflate.lengthsOrder", laid_rubricator_deflate_lengthsOrder)], narrowed := true }
def DeflateRunsUptoSaid : Prop := deflateRunsUptoRow.holds Tryz.pinned (OpenSpec.upto deflateRunsSpec)

end Rows
end Go.Proofs.YtcgjmkcigmmjjaaGreatDoor
