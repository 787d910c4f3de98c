/-
  NARROWER THAN 'FOR EVERY INPUT', by the rows' own cells (each row's printed sentence says how): LiteralsBack: laid · LiteralsTwice: laid · LiteralsFew: laid.
  DERIVED. THE GIVEN ROWS OF THIS SEAT. 3 by the template 'for every input the law returns true; each argument reads behind the call as it read before'; 0 by the template 'total and deterministic' (their statements: YtcoahkmiebeeeaaGreatDoorTotals.lean).
  GIVEN WITH THE SEED: the statements are not yours to turn. If you find one false, say at which input.
  Laid BY PROGRAM, IN A SANDBOX (cutbox-rows.mjs): the forced cells as the released guide's own fill.sh prints them over the translation 28ed4c7c80f97eed… (all of the seat's roots in one cut). By AI agents, Wed Nov 11 2026. No macro, syntax, notation, axiom, sorry.
-/
import Derived.Test.YtcoahkmiebeeeaaGreatDoorChecked
import GoSem.Claim
import GoSem.ClaimJoined
import GoSem.ClaimMapViews
import Derived.JoinedTies
import Derived.KernelRfl
namespace Go.Proofs.YtcoahkmiebeeeaaGreatDoor
/- THE CELL 'sum', in the pinned program and in every row, IS THE sha256 OF THE DUMP (.gsa) THAT YtcoahkmiebeeeaaGreatDoorProg.lean LOADS. Nothing in Lean hashes anything: it is a label: what it is worth is what the hold of that sum in a sandbox is worth. -/
noncomputable def Tryz.pinned : Pinned := { name := "ytcoahkmiebeeeaagreatdoor", sum := "28ed4c7c80f97eedf29fb6aab58a88fbfcf409965ff4f4546fcdca8a6dd3d610", checked := Tryz.checked }
namespace Rows
def none {H : Type} : Left H := { results := [], args := [] }

/- WHAT THE LISTED PACKAGE-LEVEL VARIABLES READ AS WHEN THE CALL BEGINS. Each datum BY PROGRAM (the guide's laid-datum.mjs) off the statement by which the dump's own 'gosem.cut.vars' lays the variable. In a bare row this is a premise. The card (YtcoahkmiebeeeaaGreatDoorCards.lean) ties it to the program's text. -/
def laid_baler_literals_forms {H : Type} : DataW H := .agg [.agg [.agg [.lit (.int .i64 1), .lit (.int .i64 3), .lit (.int .i64 5), .lit (.int .i64 0)], .agg [.lit (.int .i64 2), .lit (.int .i64 4), .lit (.int .i64 12), .lit (.int .i64 0)], .agg [.lit (.int .i64 1), .lit (.int .i64 3), .lit (.int .i64 5), .lit (.int .i64 0)], .agg [.lit (.int .i64 3), .lit (.int .i64 4), .lit (.int .i64 20), .lit (.int .i64 0)]], .agg [.agg [.lit (.int .i64 3), .lit (.int .i64 4), .lit (.int .i64 10), .lit (.int .i64 1)], .agg [.lit (.int .i64 3), .lit (.int .i64 4), .lit (.int .i64 10), .lit (.int .i64 4)], .agg [.lit (.int .i64 4), .lit (.int .i64 4), .lit (.int .i64 14), .lit (.int .i64 4)], .agg [.lit (.int .i64 5), .lit (.int .i64 4), .lit (.int .i64 18), .lit (.int .i64 4)]]]

/-- 'balerlaw11.LiteralsBack': WHATEVER THE INPUT: true; the input reads as it did. -/
def literalsBackSpec : ChangeSpec := { name := "literalsBack", fn := fun _ => fun
  | [d1, d2, d3] => { results := [.lit (.bool true)], args := [d1, d2, d3] }
  | _ => none }
def literalsBackRow : OpenClaim := { program := "ytcoahkmiebeeeaagreatdoor", sum := "28ed4c7c80f97eedf29fb6aab58a88fbfcf409965ff4f4546fcdca8a6dd3d610", func := "baler/balerlaw11.LiteralsBack", spec := "literalsBack", inPlace := ["internal/bytealg.MakeNoZero"], unfollowed := true, recurses := true, named := ["baler/literals.forms"], apart := false, laid := [("baler/literals.forms", laid_baler_literals_forms)] }
def LiteralsBackSaid : Prop := literalsBackRow.holds Tryz.pinned (OpenSpec.ofChange literalsBackSpec)

/-- ITS FALSE NEIGHBOUR: 'it returns false'. Refute it at one input. -/
def literalsBackWrong : ChangeSpec := { name := "literalsBack", fn := fun _ => fun
  | [d1, d2, d3] => { results := [.lit (.bool false)], args := [d1, d2, d3] }
  | _ => none }
def LiteralsBackWrongFalsely : Prop := literalsBackRow.holds Tryz.pinned (OpenSpec.ofChange literalsBackWrong)

/-- 'balerlaw11.LiteralsTwice': WHATEVER THE INPUT: true; the input reads as it did. -/
def literalsTwiceSpec : ChangeSpec := { name := "literalsTwice", fn := fun _ => fun
  | [d1, d2] => { results := [.lit (.bool true)], args := [d1, d2] }
  | _ => none }
def literalsTwiceRow : OpenClaim := { program := "ytcoahkmiebeeeaagreatdoor", sum := "28ed4c7c80f97eedf29fb6aab58a88fbfcf409965ff4f4546fcdca8a6dd3d610", func := "baler/balerlaw11.LiteralsTwice", spec := "literalsTwice", inPlace := ["internal/bytealg.MakeNoZero"], unfollowed := true, recurses := true, named := ["baler/literals.forms"], apart := false, laid := [("baler/literals.forms", laid_baler_literals_forms)] }
def LiteralsTwiceSaid : Prop := literalsTwiceRow.holds Tryz.pinned (OpenSpec.ofChange literalsTwiceSpec)

/-- ITS FALSE NEIGHBOUR: 'it returns false'. Refute it at one input. -/
def literalsTwiceWrong : ChangeSpec := { name := "literalsTwice", fn := fun _ => fun
  | [d1, d2] => { results := [.lit (.bool false)], args := [d1, d2] }
  | _ => none }
def LiteralsTwiceWrongFalsely : Prop := literalsTwiceRow.holds Tryz.pinned (OpenSpec.ofChange literalsTwiceWrong)

/-- 'balerlaw11.LiteralsFew': WHATEVER THE INPUT: true; the input reads as it did. -/
def literalsFewSpec : ChangeSpec := { name := "literalsFew", fn := fun _ => fun
  | [d1, d2, d3] => { results := [.lit (.bool true)], args := [d1, d2, d3] }
  | _ => none }
def literalsFewRow : OpenClaim := { program := "ytcoahkmiebeeeaagreatdoor", sum := "28ed4c7c80f97eedf29fb6aab58a88fbfcf409965ff4f4546fcdca8a6dd3d610", func := "baler/balerlaw11.LiteralsFew", spec := "literalsFew", inPlace := ["internal/bytealg.MakeNoZero"], unfollowed := true, recurses := true, named := ["baler/literals.forms"], apart := false, laid := [("baler/literals.forms", laid_baler_literals_forms)] }
def LiteralsFewSaid : Prop := literalsFewRow.holds Tryz.pinned (OpenSpec.ofChange literalsFewSpec)

/-- ITS FALSE NEIGHBOUR: 'it returns false'. Refute it at one input. -/
def literalsFewWrong : ChangeSpec := { name := "literalsFew", fn := fun _ => fun
  | [d1, d2, d3] => { results := [.lit (.bool false)], args := [d1, d2, d3] }
  | _ => none }
def LiteralsFewWrongFalsely : Prop := literalsFewRow.holds Tryz.pinned (OpenSpec.ofChange literalsFewWrong)

/- THE SECOND FORM. 'bulk': how many values and letters a reading holds, each counted each time it is reached (what is shared counts as often as it is met; a slice's spare places count too). A statement '..UptoSaid' is the law's where the arguments, and the package variables that the reading takes, are together of bulk at most 1048576: NARROWER than '..Said'. Prove '..Said' where nothing that the law and all that it calls make is longer than what came in: it says more and counts as full. Else prove '..UptoSaid'. A law counts once. -/
mutual
def uptoBulk {H : Type} : DataW H → Nat
  | .lit (.string bytes) => bytes.length + 1
  | .lit _ => 1
  | .nil => 1
  | .ptr d => uptoBulk d + 1
  | .slice elems spare => uptoBulkAll elems + uptoBulkAll spare + 1
  | .agg parts => uptoBulkAll parts + 1
  | .iface _ d => uptoBulk d + 1
  | .map entries => uptoBulkEntries entries + 1
  | .held _ => 1
def uptoBulkAll {H : Type} : List (DataW H) → Nat
  | [] => 0
  | d :: r => uptoBulk d + uptoBulkAll r
def uptoBulkEntries {H : Type} : List (Lit × DataW H) → Nat
  | [] => 0
  | x :: r => uptoBulkEntry x + uptoBulkEntries r
def uptoBulkEntry {H : Type} : Lit × DataW H → Nat
  | (.string bytes, d) => bytes.length + uptoBulk d + 1
  | (_, d) => uptoBulk d + 1
 end
def uptoSmall : (H : Type) → List (DataW H) → Bool := fun _ ds => decide (uptoBulkAll ds ≤ 1048576)
def OpenSpec.upto (s : _root_.Go.ChangeSpec) : _root_.Go.OpenSpec := { _root_.Go.OpenSpec.ofChange s with cond := some uptoSmall }

/-- 'balerlaw11.LiteralsBack', WHERE WHAT IT READS IS OF BULK AT MOST 1048576: true; the input reads as it did. -/
def literalsBackUptoRow : OpenClaim := { program := "ytcoahkmiebeeeaagreatdoor", sum := "28ed4c7c80f97eedf29fb6aab58a88fbfcf409965ff4f4546fcdca8a6dd3d610", func := "baler/balerlaw11.LiteralsBack", spec := "literalsBack", inPlace := ["internal/bytealg.MakeNoZero"], unfollowed := true, recurses := true, named := ["baler/literals.forms"], apart := false, laid := [("baler/literals.forms", laid_baler_literals_forms)], narrowed := true }
def LiteralsBackUptoSaid : Prop := literalsBackUptoRow.holds Tryz.pinned (OpenSpec.upto literalsBackSpec)

/-- 'balerlaw11.LiteralsTwice', WHERE WHAT IT READS IS OF BULK AT MOST 1048576: true; the input reads as it did. -/
def literalsTwiceUptoRow : OpenClaim := { program := "ytcoahkmiebeeeaagreatdoor", sum := "28ed4c7c80f97eedf29fb6aab58a88fbfcf409965ff4f4546fcdca8a6dd3d610", func := "baler/balerlaw11.LiteralsTwice", spec := "literalsTwice", inPlace := ["internal/bytealg.MakeNoZero"], unfollowed := true, recurses := true, named := ["baler/literals.forms"], apart := false, laid := [("baler/literals.forms", laid_baler_literals_forms)], narrowed := true }
def LiteralsTwiceUptoSaid : Prop := literalsTwiceUptoRow.holds Tryz.pinned (OpenSpec.upto literalsTwiceSpec)

/-- 'balerlaw11.LiteralsFew', WHERE WHAT IT READS IS OF BULK AT MOST 1048576: true; the input reads as it did. -/
def literalsFewUptoRow : OpenClaim := { program := "ytcoahkmiebeeeaagreatdoor", sum := "28ed4c7c80f97eedf29fb6aab58a88fbfcf409965ff4f4546fcdca8a6dd3d610", func := "baler/balerlaw11.LiteralsFew", spec := "literalsFew", inPlace := ["internal/bytealg.MakeNoZero"], unfollowed := true, recurses := true, named := ["baler/literals.forms"], apart := false, laid := [("baler/literals.forms", laid_baler_literals_forms)], narrowed := true }
def LiteralsFewUptoSaid : Prop := literalsFewUptoRow.holds Tryz.pinned (OpenSpec.upto literalsFewSpec)

end Rows
end Go.Proofs.YtcoahkmiebeeeaaGreatDoor
