/-
  NARROWER THAN 'FOR EVERY INPUT', by the rows' own cells (each row's printed sentence says how): SequencesRead: laid · SequencesAhead: laid · SequencesBack: laid.
  DERIVED. THE GIVEN ROWS OF THIS SEAT. 3 by the template 'for every input the law returns true; each argument reads behind the call as it read before'; 0 by the template 'total and deterministic' (their statements: YtgaepmmpedaaiaaGreatDoorTotals.lean).
  GIVEN WITH THE SEED: the statements are not yours to turn. If you find one false, say at which input.
  Laid BY PROGRAM, IN A SANDBOX (cutbox-rows.mjs): the forced cells as the released guide's own fill.sh prints them over the translation 7ab763b8020ef8a0… (all of the seat's roots in one cut). By AI agents, Wed Nov 11 2026. No macro, syntax, notation, axiom, sorry.
-/
import Derived.Test.YtgaepmmpedaaiaaGreatDoorChecked
import GoSem.Claim
import GoSem.ClaimJoined
import GoSem.ClaimMapViews
import Derived.JoinedTies
import Derived.KernelRfl
namespace Go.Proofs.YtgaepmmpedaaiaaGreatDoor
/- THE CELL 'sum', in the pinned program and in every row, IS THE sha256 OF THE DUMP (.gsa) THAT YtgaepmmpedaaiaaGreatDoorProg.lean LOADS. Nothing in Lean hashes anything: it is a label: what it is worth is what the hold of that sum in a sandbox is worth. -/
noncomputable def Tryz.pinned : Pinned := { name := "ytgaepmmpedaaiaagreatdoor", sum := "7ab763b8020ef8a07e4bb8e62a24ff80a1559fffb58023c844edcf94190fa418", checked := Tryz.checked }
namespace Rows
def none {H : Type} : Left H := { results := [], args := [] }

/- WHAT THE LISTED PACKAGE-LEVEL VARIABLES READ AS WHEN THE CALL BEGINS. Each datum BY PROGRAM (the guide's laid-datum.mjs) off the statement by which the dump's own 'gosem.cut.vars' lays the variable. In a bare row this is a premise. The card (YtgaepmmpedaaiaaGreatDoorCards.lean) ties it to the program's text. -/
def laid_baler_sequences_extraOrder {H : Type} : DataW H := .agg [.lit (.int .i64 1), .lit (.int .i64 2), .lit (.int .i64 0)]
def laid_baler_sequences_nextOrder {H : Type} : DataW H := .agg [.lit (.int .i64 0), .lit (.int .i64 2), .lit (.int .i64 1)]

/-- 'balerlaw13.SequencesRead': WHATEVER THE INPUT: true; the input reads as it did. -/
def sequencesReadSpec : ChangeSpec := { name := "sequencesRead", fn := fun _ => fun
  | [d1, d2] => { results := [.lit (.bool true)], args := [d1, d2] }
  | _ => none }
def sequencesReadRow : OpenClaim := { program := "ytgaepmmpedaaiaagreatdoor", sum := "7ab763b8020ef8a07e4bb8e62a24ff80a1559fffb58023c844edcf94190fa418", func := "baler/balerlaw13.SequencesRead", spec := "sequencesRead", unfollowed := true, recurses := true, named := ["baler/sequences.extraOrder", "baler/sequences.nextOrder"], apart := false, laid := [("baler/sequences.extraOrder", laid_baler_sequences_extraOrder), ("baler/sequences.nextOrder", laid_baler_sequences_nextOrder)] }
def SequencesReadSaid : Prop := sequencesReadRow.holds Tryz.pinned (OpenSpec.ofChange sequencesReadSpec)

/-- ITS FALSE NEIGHBOUR: 'it returns false'. Refute it at one input. -/
def sequencesReadWrong : ChangeSpec := { name := "sequencesRead", fn := fun _ => fun
  | [d1, d2] => { results := [.lit (.bool false)], args := [d1, d2] }
  | _ => none }
def SequencesReadWrongFalsely : Prop := sequencesReadRow.holds Tryz.pinned (OpenSpec.ofChange sequencesReadWrong)

/-- 'balerlaw13.SequencesAhead': WHATEVER THE INPUT: true; the input reads as it did. -/
def sequencesAheadSpec : ChangeSpec := { name := "sequencesAhead", fn := fun _ => fun
  | [d1, d2] => { results := [.lit (.bool true)], args := [d1, d2] }
  | _ => none }
def sequencesAheadRow : OpenClaim := { program := "ytgaepmmpedaaiaagreatdoor", sum := "7ab763b8020ef8a07e4bb8e62a24ff80a1559fffb58023c844edcf94190fa418", func := "baler/balerlaw13.SequencesAhead", spec := "sequencesAhead", unfollowed := true, recurses := true, named := ["baler/sequences.extraOrder", "baler/sequences.nextOrder"], apart := false, laid := [("baler/sequences.extraOrder", laid_baler_sequences_extraOrder), ("baler/sequences.nextOrder", laid_baler_sequences_nextOrder)] }
def SequencesAheadSaid : Prop := sequencesAheadRow.holds Tryz.pinned (OpenSpec.ofChange sequencesAheadSpec)

/-- ITS FALSE NEIGHBOUR: 'it returns false'. Refute it at one input. -/
def sequencesAheadWrong : ChangeSpec := { name := "sequencesAhead", fn := fun _ => fun
  | [d1, d2] => { results := [.lit (.bool false)], args := [d1, d2] }
  | _ => none }
def SequencesAheadWrongFalsely : Prop := sequencesAheadRow.holds Tryz.pinned (OpenSpec.ofChange sequencesAheadWrong)

/-- 'balerlaw13.SequencesBack': WHATEVER THE INPUT: true; the input reads as it did. -/
def sequencesBackSpec : ChangeSpec := { name := "sequencesBack", fn := fun _ => fun
  | [d] => { results := [.lit (.bool true)], args := [d] }
  | _ => none }
def sequencesBackRow : OpenClaim := { program := "ytgaepmmpedaaiaagreatdoor", sum := "7ab763b8020ef8a07e4bb8e62a24ff80a1559fffb58023c844edcf94190fa418", func := "baler/balerlaw13.SequencesBack", spec := "sequencesBack", unfollowed := true, recurses := true, named := ["baler/sequences.nextOrder", "baler/sequences.extraOrder"], apart := false, laid := [("baler/sequences.extraOrder", laid_baler_sequences_extraOrder), ("baler/sequences.nextOrder", laid_baler_sequences_nextOrder)] }
def SequencesBackSaid : Prop := sequencesBackRow.holds Tryz.pinned (OpenSpec.ofChange sequencesBackSpec)

/-- ITS FALSE NEIGHBOUR: 'it returns false'. Refute it at one input. -/
def sequencesBackWrong : ChangeSpec := { name := "sequencesBack", fn := fun _ => fun
  | [d] => { results := [.lit (.bool false)], args := [d] }
  | _ => none }
def SequencesBackWrongFalsely : Prop := sequencesBackRow.holds Tryz.pinned (OpenSpec.ofChange sequencesBackWrong)

/- THE SECOND FORM. 'bulk': how many values and letters a reading holds, each counted each time it is reached (what is shared counts as often as it is met; a slice's spare places count too). A statement '..UptoSaid' is the law's where the arguments, and the package variables that the reading takes, are together of bulk at most 1048576: NARROWER than '..Said'. Prove '..Said' where nothing that the law and all that it calls make is longer than what came in: it says more and counts as full. Else prove '..UptoSaid'. A law counts once. -/
mutual
def uptoBulk {H : Type} : DataW H → Nat
  | .lit (.string bytes) => bytes.length + 1
  | .lit _ => 1
  | .nil => 1
  | .ptr d => uptoBulk d + 1
  | .slice elems spare => uptoBulkAll elems + uptoBulkAll spare + 1
  | .agg parts => uptoBulkAll parts + 1
  | .iface _ d => uptoBulk d + 1
  | .map entries => uptoBulkEntries entries + 1
  | .held _ => 1
def uptoBulkAll {H : Type} : List (DataW H) → Nat
  | [] => 0
  | d :: r => uptoBulk d + uptoBulkAll r
def uptoBulkEntries {H : Type} : List (Lit × DataW H) → Nat
  | [] => 0
  | x :: r => uptoBulkEntry x + uptoBulkEntries r
def uptoBulkEntry {H : Type} : Lit × DataW H → Nat
  | (.string bytes, d) => bytes.length + uptoBulk d + 1
  | (_, d) => uptoBulk d + 1
 end
def uptoSmall : (H : Type) → List (DataW H) → Bool := fun _ ds => decide (uptoBulkAll ds ≤ 1048576)
def OpenSpec.upto (s : _root_.Go.ChangeSpec) : _root_.Go.OpenSpec := { _root_.Go.OpenSpec.ofChange s with cond := some uptoSmall }

/-- 'balerlaw13.SequencesRead', WHERE WHAT IT READS IS OF BULK AT MOST 1048576: true; the input reads as it did. -/
def sequencesReadUptoRow : OpenClaim := { program := "ytgaepmmpedaaiaagreatdoor", sum := "7ab763b8020ef8a07e4bb8e62a24ff80a1559fffb58023c844edcf94190fa418", func := "baler/balerlaw13.SequencesRead", spec := "sequencesRead", unfollowed := true, recurses := true, named := ["baler/sequences.extraOrder", "baler/sequences.nextOrder"], apart := false, laid := [("baler/sequences.extraOrder", laid_baler_sequences_extraOrder), ("baler/sequences.nextOrder", laid_baler_sequences_nextOrder)], narrowed := true }
def SequencesReadUptoSaid : Prop := sequencesReadUptoRow.holds Tryz.pinned (OpenSpec.upto sequencesReadSpec)

/-- 'balerlaw13.SequencesAhead', WHERE WHAT IT READS IS OF BULK AT MOST 1048576: true; the input reads as it did. -/
def sequencesAheadUptoRow : OpenClaim := { program := "ytgaepmmpedaaiaagreatdoor", sum := "7ab763b8020ef8a07e4bb8e62a24ff80a1559fffb58023c844edcf94190fa418", func := "baler/balerlaw13.SequencesAhead", spec := "sequencesAhead", unfollowed := true, recurses := true, named := ["baler/sequences.extraOrder", "baler/sequences.nextOrder"], apart := false, laid := [("baler/sequences.extraOrder", laid_baler_sequences_extraOrder), ("baler/sequences.nextOrder", laid_baler_sequences_nextOrder)], narrowed := true }
def SequencesAheadUptoSaid : Prop := sequencesAheadUptoRow.holds Tryz.pinned (OpenSpec.upto sequencesAheadSpec)

/-- 'balerlaw13.SequencesBack', WHERE WHAT IT READS IS OF BULK AT MOST 1048576: true; the input reads as it did. -/
def sequencesBackUptoRow : OpenClaim := { program := "ytgaepmmpedaaiaagreatdoor", sum := "7ab763b8020ef8a07e4bb8e62a24ff80a1559fffb58023c844edcf94190fa418", func := "baler/balerlaw13.SequencesBack", spec := "sequencesBack", unfollowed := true, recurses := true, named := ["baler/sequences.nextOrder", "baler/sequences.extraOrder"], apart := false, laid := [("baler/sequences.extraOrder", laid_baler_sequences_extraOrder), ("baler/sequences.nextOrder", laid_baler_sequences_nextOrder)], narrowed := true }
def SequencesBackUptoSaid : Prop := sequencesBackUptoRow.holds Tryz.pinned (OpenSpec.upto sequencesBackSpec)

end Rows
end Go.Proofs.YtgaepmmpedaaiaaGreatDoor
