/-
  NARROWER THAN 'FOR EVERY INPUT', by the rows' own cells (each row's printed sentence says how): ZstdBehind: laid · ZstdCut: laid · ZstdRoom: laid.
  DERIVED. THE GIVEN ROWS OF THIS SEAT. 3 by the template 'for every input the law returns true; each argument reads behind the call as it read before'; 0 by the template 'total and deterministic' (their statements: YtnjilcokkhodmaaGreatDoorTotals.lean).
  GIVEN WITH THE SEED: the statements are not yours to turn. If you find one false, say at which input.
  Laid BY PROGRAM, IN A SANDBOX (cutbox-rows.mjs): the forced cells as the released guide's own fill.sh prints them over the translation 2e3523af51d3420f… (all of the seat's roots in one cut). By AI agents, Wed Nov 11 2026. No macro, syntax, notation, axiom, sorry.
-/
import Derived.Test.YtnjilcokkhodmaaGreatDoorChecked
import GoSem.Claim
import GoSem.ClaimJoined
import GoSem.ClaimMapViews
import Derived.JoinedTies
import Derived.KernelRfl
namespace Go.Proofs.YtnjilcokkhodmaaGreatDoor
/- THE CELL 'sum', in the pinned program and in every row, IS THE sha256 OF THE DUMP (.gsa) THAT YtnjilcokkhodmaaGreatDoorProg.lean LOADS. Nothing in Lean hashes anything: it is a label: what it is worth is what the hold of that sum in a sandbox is worth. -/
noncomputable def Tryz.pinned : Pinned := { name := "ytnjilcokkhodmaagreatdoor", sum := "2e3523af51d3420f7c08de6cb19fa155eb899f8bd70a0f0785f6020f132b2ab2", checked := Tryz.checked }
namespace Rows
def none {H : Type} : Left H := { results := [], args := [] }

/- WHAT THE LISTED PACKAGE-LEVEL VARIABLES READ AS WHEN THE CALL BEGINS. Each datum BY PROGRAM (the guide's laid-datum.mjs) off the statement by which the dump's own 'gosem.cut.vars' lays the variable. In a bare row this is a premise. The card (YtnjilcokkhodmaaGreatDoorCards.lean) ties it to the program's text. -/
def laid_baler_sequences_extraOrder {H : Type} : DataW H := .agg [.lit (.int .i64 1), .lit (.int .i64 2), .lit (.int .i64 0)]
def laid_baler_sequences_nextOrder {H : Type} : DataW H := .agg [.lit (.int .i64 0), .lit (.int .i64 2), .lit (.int .i64 1)]
def laid_baler_literals_forms {H : Type} : DataW H := .agg [.agg [.agg [.lit (.int .i64 1), .lit (.int .i64 3), .lit (.int .i64 5), .lit (.int .i64 0)], .agg [.lit (.int .i64 2), .lit (.int .i64 4), .lit (.int .i64 12), .lit (.int .i64 0)], .agg [.lit (.int .i64 1), .lit (.int .i64 3), .lit (.int .i64 5), .lit (.int .i64 0)], .agg [.lit (.int .i64 3), .lit (.int .i64 4), .lit (.int .i64 20), .lit (.int .i64 0)]], .agg [.agg [.lit (.int .i64 3), .lit (.int .i64 4), .lit (.int .i64 10), .lit (.int .i64 1)], .agg [.lit (.int .i64 3), .lit (.int .i64 4), .lit (.int .i64 10), .lit (.int .i64 4)], .agg [.lit (.int .i64 4), .lit (.int .i64 4), .lit (.int .i64 14), .lit (.int .i64 4)], .agg [.lit (.int .i64 5), .lit (.int .i64 4), .lit (.int .i64 18), .lit (.int .i64 4)]]]

/-- 'balerlaw15.ZstdBehind': WHATEVER THE INPUT: true; the input reads as it did. -/
def zstdBehindSpec : ChangeSpec := { name := "zstdBehind", fn := fun _ => fun
  | [d1, d2, d3] => { results := [.lit (.bool true)], args := [d1, d2, d3] }
  | _ => none }
def zstdBehindRow : OpenClaim := { program := "ytnjilcokkhodmaagreatdoor", sum := "2e3523af51d3420f7c08de6cb19fa155eb899f8bd70a0f0785f6020f132b2ab2", func := "baler/balerlaw15.ZstdBehind", spec := "zstdBehind", inPlace := ["internal/bytealg.MakeNoZero"], unfollowed := true, recurses := true, named := ["baler/literals.forms", "baler/sequences.extraOrder", "baler/sequences.nextOrder"], apart := false, laid := [("baler/sequences.extraOrder", laid_baler_sequences_extraOrder), ("baler/sequences.nextOrder", laid_baler_sequences_nextOrder), ("baler/literals.forms", laid_baler_literals_forms)] }
def ZstdBehindSaid : Prop := zstdBehindRow.holds Tryz.pinned (OpenSpec.ofChange zstdBehindSpec)

/-- ITS FALSE NEIGHBOUR: 'it returns false'. Refute it at one input. -/
def zstdBehindWrong : ChangeSpec := { name := "zstdBehind", fn := fun _ => fun
  | [d1, d2, d3] => { results := [.lit (.bool false)], args := [d1, d2, d3] }
  | _ => none }
def ZstdBehindWrongFalsely : Prop := zstdBehindRow.holds Tryz.pinned (OpenSpec.ofChange zstdBehindWrong)

/-- 'balerlaw15.ZstdCut': WHATEVER THE INPUT: true; the input reads as it did. -/
def zstdCutSpec : ChangeSpec := { name := "zstdCut", fn := fun _ => fun
  | [d1, d2, d3] => { results := [.lit (.bool true)], args := [d1, d2, d3] }
  | _ => none }
def zstdCutRow : OpenClaim := { program := "ytnjilcokkhodmaagreatdoor", sum := "2e3523af51d3420f7c08de6cb19fa155eb899f8bd70a0f0785f6020f132b2ab2", func := "baler/balerlaw15.ZstdCut", spec := "zstdCut", inPlace := ["internal/bytealg.MakeNoZero"], unfollowed := true, recurses := true, named := ["baler/literals.forms", "baler/sequences.extraOrder", "baler/sequences.nextOrder"], apart := false, laid := [("baler/sequences.extraOrder", laid_baler_sequences_extraOrder), ("baler/sequences.nextOrder", laid_baler_sequences_nextOrder), ("baler/literals.forms", laid_baler_literals_forms)] }
def ZstdCutSaid : Prop := zstdCutRow.holds Tryz.pinned (OpenSpec.ofChange zstdCutSpec)

/-- ITS FALSE NEIGHBOUR: 'it returns false'. Refute it at one input. -/
def zstdCutWrong : ChangeSpec := { name := "zstdCut", fn := fun _ => fun
  | [d1, d2, d3] => { results := [.lit (.bool false)], args := [d1, d2, d3] }
  | _ => none }
def ZstdCutWrongFalsely : Prop := zstdCutRow.holds Tryz.pinned (OpenSpec.ofChange zstdCutWrong)

/-- 'balerlaw15.ZstdRoom': WHATEVER THE INPUT: true; the input reads as it did. -/
def zstdRoomSpec : ChangeSpec := { name := "zstdRoom", fn := fun _ => fun
  | [d1, d2, d3] => { results := [.lit (.bool true)], args := [d1, d2, d3] }
  | _ => none }
def zstdRoomRow : OpenClaim := { program := "ytnjilcokkhodmaagreatdoor", sum := "2e3523af51d3420f7c08de6cb19fa155eb899f8bd70a0f0785f6020f132b2ab2", func := "baler/balerlaw15.ZstdRoom", spec := "zstdRoom", inPlace := ["internal/bytealg.MakeNoZero"], unfollowed := true, recurses := true, named := ["baler/literals.forms", "baler/sequences.extraOrder", "baler/sequences.nextOrder"], apart := false, laid := [("baler/sequences.extraOrder", laid_baler_sequences_extraOrder), ("baler/sequences.nextOrder", laid_baler_sequences_nextOrder), ("baler/literals.forms", laid_baler_literals_forms)] }
def ZstdRoomSaid : Prop := zstdRoomRow.holds Tryz.pinned (OpenSpec.ofChange zstdRoomSpec)

/-- ITS FALSE NEIGHBOUR: 'it returns false'. Refute it at one input. -/
def zstdRoomWrong : ChangeSpec := { name := "zstdRoom", fn := fun _ => fun
  | [d1, d2, d3] => { results := [.lit (.bool false)], args := [d1, d2, d3] }
  | _ => none }
def ZstdRoomWrongFalsely : Prop := zstdRoomRow.holds Tryz.pinned (OpenSpec.ofChange zstdRoomWrong)

/- THE SECOND FORM. 'bulk': how many values and letters a reading holds, each counted each time it is reached (what is shared counts as often as it is met; a slice's spare places count too). A statement '..UptoSaid' is the law's where the arguments, and the package variables that the reading takes, are together of bulk at most 1048576: NARROWER than '..Said'. Prove '..Said' where nothing that the law and all that it calls make is longer than what came in: it says more and counts as full. Else prove '..UptoSaid'. A law counts once. -/
mutual
def uptoBulk {H : Type} : DataW H → Nat
  | .lit (.string bytes) => bytes.length + 1
  | .lit _ => 1
  | .nil => 1
  | .ptr d => uptoBulk d + 1
  | .slice elems spare => uptoBulkAll elems + uptoBulkAll spare + 1
  | .agg parts => uptoBulkAll parts + 1
  | .iface _ d => uptoBulk d + 1
  | .map entries => uptoBulkEntries entries + 1
  | .held _ => 1
def uptoBulkAll {H : Type} : List (DataW H) → Nat
  | [] => 0
  | d :: r => uptoBulk d + uptoBulkAll r
def uptoBulkEntries {H : Type} : List (Lit × DataW H) → Nat
  | [] => 0
  | x :: r => uptoBulkEntry x + uptoBulkEntries r
def uptoBulkEntry {H : Type} : Lit × DataW H → Nat
  | (.string bytes, d) => bytes.length + uptoBulk d + 1
  | (_, d) => uptoBulk d + 1
 end
def uptoSmall : (H : Type) → List (DataW H) → Bool := fun _ ds => decide (uptoBulkAll ds ≤ 1048576)
def OpenSpec.upto (s : _root_.Go.ChangeSpec) : _root_.Go.OpenSpec := { _root_.Go.OpenSpec.ofChange s with cond := some uptoSmall }

/-- 'balerlaw15.ZstdBehind', WHERE WHAT IT READS IS OF BULK AT MOST 1048576: true; the input reads as it did. -/
def zstdBehindUptoRow : OpenClaim := { program := "ytnjilcokkhodmaagreatdoor", sum := "2e3523af51d3420f7c08de6cb19fa155eb899f8bd70a0f0785f6020f132b2ab2", func := "baler/balerlaw15.ZstdBehind", spec := "zstdBehind", inPlace := ["internal/bytealg.MakeNoZero"], unfollowed := true, recurses := true, named := ["baler/literals.forms", "baler/sequences.extraOrder", "baler/sequences.nextOrder"], apart := false, laid := [("baler/sequences.extraOrder", laid_baler_sequences_extraOrder), ("baler/sequences.nextOrder", laid_baler_sequences_nextOrder), ("baler/literals.forms", laid_baler_literals_forms)], narrowed := true }
def ZstdBehindUptoSaid : Prop := zstdBehindUptoRow.holds Tryz.pinned (OpenSpec.upto zstdBehindSpec)

/-- 'balerlaw15.ZstdCut', WHERE WHAT IT READS IS OF BULK AT MOST 1048576: true; the input reads as it did. -/
def zstdCutUptoRow : OpenClaim := { program := "ytnjilcokkhodmaagreatdoor", sum := "2e3523af51d3420f7c08de6cb19fa155eb899f8bd70a0f0785f6020f132b2ab2", func := "baler/balerlaw15.ZstdCut", spec := "zstdCut", inPlace := ["internal/bytealg.MakeNoZero"], unfollowed := true, recurses := true, named := ["baler/literals.forms", "baler/sequences.extraOrder", "baler/sequences.nextOrder"], apart := false, laid := [("baler/sequences.extraOrder", laid_baler_sequences_extraOrder), ("baler/sequences.nextOrder", laid_baler_sequences_nextOrder), ("baler/literals.forms", laid_baler_literals_forms)], narrowed := true }
def ZstdCutUptoSaid : Prop := zstdCutUptoRow.holds Tryz.pinned (OpenSpec.upto zstdCutSpec)

/-- 'balerlaw15.ZstdRoom', WHERE WHAT IT READS IS OF BULK AT MOST 1048576: true; the input reads as it did. -/
def zstdRoomUptoRow : OpenClaim := { program := "ytnjilcokkhodmaagreatdoor", sum := "2e3523af51d3420f7c08de6cb19fa155eb899f8bd70a0f0785f6020f132b2ab2", func := "baler/balerlaw15.ZstdRoom", spec := "zstdRoom", inPlace := ["internal/bytealg.MakeNoZero"], unfollowed := true, recurses := true, named := ["baler/literals.forms", "baler/sequences.extraOrder", "baler/sequences.nextOrder"], apart := false, laid := [("baler/sequences.extraOrder", laid_baler_sequences_extraOrder), ("baler/sequences.nextOrder", laid_baler_sequences_nextOrder), ("baler/literals.forms", laid_baler_literals_forms)], narrowed := true }
def ZstdRoomUptoSaid : Prop := zstdRoomUptoRow.holds Tryz.pinned (OpenSpec.upto zstdRoomSpec)

end Rows
end Go.Proofs.YtnjilcokkhodmaaGreatDoor
