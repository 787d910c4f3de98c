/-
  NARROWER THAN 'FOR EVERY INPUT', by the rows' own cells (each row's printed sentence says how): LzmaputBack: laid · LzmaputRefuses: laid.
  DERIVED. THE GIVEN ROWS OF THIS SEAT. 2 by the template 'for every input the law returns true; each argument reads behind the call as it read before'; 0 by the template 'total and deterministic' (their statements: YtnokemcogjoonaaGreatDoorTotals.lean).
  GIVEN WITH THE SEED: the statements are not yours to turn. If you find one false, say at which input.
  Laid BY PROGRAM, IN A SANDBOX (cutbox-rows.mjs): the forced cells as the released guide's own fill.sh prints them over the translation 82bcf5256924a3c6… (all of the seat's roots in one cut). By AI agents, Wed Nov 11 2026. No macro, syntax, notation, axiom, sorry.
-/
import Derived.Test.YtnokemcogjoonaaGreatDoorChecked
import GoSem.Claim
import GoSem.ClaimJoined
import GoSem.ClaimMapViews
import Derived.JoinedTies
import Derived.KernelRfl
namespace Go.Proofs.YtnokemcogjoonaaGreatDoor
/- THE CELL 'sum', in the pinned program and in every row, IS THE sha256 OF THE DUMP (.gsa) THAT YtnokemcogjoonaaGreatDoorProg.lean LOADS. Nothing in Lean hashes anything: it is a label: what it is worth is what the hold of that sum in a sandbox is worth. -/
noncomputable def Tryz.pinned : Pinned := { name := "ytnokemcogjoonaagreatdoor", sum := "82bcf5256924a3c615d38459c2e1f34604b395d16c128ae9045a7b7dabdc5ebf", checked := Tryz.checked }
namespace Rows
def none {H : Type} : Left H := { results := [], args := [] }

/- WHAT THE LISTED PACKAGE-LEVEL VARIABLES READ AS WHEN THE CALL BEGINS. Each datum BY PROGRAM (the guide's laid-datum.mjs) off the statement by which the dump's own 'gosem.cut.vars' lays the variable. In a bare row this is a premise. The card (YtnokemcogjoonaaGreatDoorCards.lean) ties it to the program's text. -/
def laid_baler_finder_depths {H : Type} : DataW H := .agg [.lit (.int .i64 0), .lit (.int .i64 8), .lit (.int .i64 24), .lit (.int .i64 64)]

/-- 'balerlaw14.LzmaputBack': WHATEVER THE INPUT: true; the input reads as it did. -/
def lzmaputBackSpec : ChangeSpec := { name := "lzmaputBack", fn := fun _ => fun
  | [d1, d2, d3, d4, d5, d6] => { results := [.lit (.bool true)], args := [d1, d2, d3, d4, d5, d6] }
  | _ => none }
def lzmaputBackRow : OpenClaim := { program := "ytnokemcogjoonaagreatdoor", sum := "82bcf5256924a3c615d38459c2e1f34604b395d16c128ae9045a7b7dabdc5ebf", func := "baler/balerlaw14.LzmaputBack", spec := "lzmaputBack", inPlace := ["sync/atomic.LoadUint64", "sync/atomic.CompareAndSwapUint64"], unfollowed := true, recurses := true, named := ["baler/finder.depths"], apart := false, laid := [("baler/finder.depths", laid_baler_finder_depths)] }
def LzmaputBackSaid : Prop := lzmaputBackRow.holds Tryz.pinned (OpenSpec.ofChange lzmaputBackSpec)

/-- ITS FALSE NEIGHBOUR: 'it returns false'. Refute it at one input. -/
def lzmaputBackWrong : ChangeSpec := { name := "lzmaputBack", fn := fun _ => fun
  | [d1, d2, d3, d4, d5, d6] => { results := [.lit (.bool false)], args := [d1, d2, d3, d4, d5, d6] }
  | _ => none }
def LzmaputBackWrongFalsely : Prop := lzmaputBackRow.holds Tryz.pinned (OpenSpec.ofChange lzmaputBackWrong)

/-- 'balerlaw14.LzmaputRefuses': WHATEVER THE INPUT: true; the input reads as it did. -/
def lzmaputRefusesSpec : ChangeSpec := { name := "lzmaputRefuses", fn := fun _ => fun
  | [d1, d2, d3, d4] => { results := [.lit (.bool true)], args := [d1, d2, d3, d4] }
  | _ => none }
def lzmaputRefusesRow : OpenClaim := { program := "ytnokemcogjoonaagreatdoor", sum := "82bcf5256924a3c615d38459c2e1f34604b395d16c128ae9045a7b7dabdc5ebf", func := "baler/balerlaw14.LzmaputRefuses", spec := "lzmaputRefuses", inPlace := ["sync/atomic.LoadUint64", "sync/atomic.CompareAndSwapUint64"], unfollowed := true, recurses := true, named := ["baler/finder.depths"], apart := false, laid := [("baler/finder.depths", laid_baler_finder_depths)] }
def LzmaputRefusesSaid : Prop := lzmaputRefusesRow.holds Tryz.pinned (OpenSpec.ofChange lzmaputRefusesSpec)

/-- ITS FALSE NEIGHBOUR: 'it returns false'. Refute it at one input. -/
def lzmaputRefusesWrong : ChangeSpec := { name := "lzmaputRefuses", fn := fun _ => fun
  | [d1, d2, d3, d4] => { results := [.lit (.bool false)], args := [d1, d2, d3, d4] }
  | _ => none }
def LzmaputRefusesWrongFalsely : Prop := lzmaputRefusesRow.holds Tryz.pinned (OpenSpec.ofChange lzmaputRefusesWrong)

/- THE SECOND FORM. 'bulk': how many values and letters a reading holds, each counted each time it is reached (what is shared counts as often as it is met; a slice's spare places count too). A statement '..UptoSaid' is the law's where the arguments, and the package variables that the reading takes, are together of bulk at most 1048576: NARROWER than '..Said'. Prove '..Said' where nothing that the law and all that it calls make is longer than what came in: it says more and counts as full. Else prove '..UptoSaid'. A law counts once. -/
mutual
def uptoBulk {H : Type} : DataW H → Nat
  | .lit (.string bytes) => bytes.length + 1
  | .lit _ => 1
  | .nil => 1
  | .ptr d => uptoBulk d + 1
  | .slice elems spare => uptoBulkAll elems + uptoBulkAll spare + 1
  | .agg parts => uptoBulkAll parts + 1
  | .iface _ d => uptoBulk d + 1
  | .map entries => uptoBulkEntries entries + 1
  | .held _ => 1
def uptoBulkAll {H : Type} : List (DataW H) → Nat
  | [] => 0
  | d :: r => uptoBulk d + uptoBulkAll r
def uptoBulkEntries {H : Type} : List (Lit × DataW H) → Nat
  | [] => 0
  | x :: r => uptoBulkEntry x + uptoBulkEntries r
def uptoBulkEntry {H : Type} : Lit × DataW H → Nat
  | (.string bytes, d) => bytes.length + uptoBulk d + 1
  | (_, d) => uptoBulk d + 1
 end
def uptoSmall : (H : Type) → List (DataW H) → Bool := fun _ ds => decide (uptoBulkAll ds ≤ 1048576)
def OpenSpec.upto (s : _root_.Go.ChangeSpec) : _root_.Go.OpenSpec := { _root_.Go.OpenSpec.ofChange s with cond := some uptoSmall }

/-- 'balerlaw14.LzmaputBack', WHERE WHAT IT READS IS OF BULK AT MOST 1048576: true; the input reads as it did. -/
def lzmaputBackUptoRow : OpenClaim := { program := "ytnokemcogjoonaagreatdoor", sum := "82bcf5256924a3c615d38459c2e1f34604b395d16c128ae9045a7b7dabdc5ebf", func := "baler/balerlaw14.LzmaputBack", spec := "lzmaputBack", inPlace := ["sync/atomic.LoadUint64", "sync/atomic.CompareAndSwapUint64"], unfollowed := true, recurses := true, named := ["baler/finder.depths"], apart := false, laid := [("baler/finder.depths", laid_baler_finder_depths)], narrowed := true }
def LzmaputBackUptoSaid : Prop := lzmaputBackUptoRow.holds Tryz.pinned (OpenSpec.upto lzmaputBackSpec)

/-- 'balerlaw14.LzmaputRefuses', WHERE WHAT IT READS IS OF BULK AT MOST 1048576: true; the input reads as it did. -/
def lzmaputRefusesUptoRow : OpenClaim := { program := "ytnokemcogjoonaagreatdoor", sum := "82bcf5256924a3c615d38459c2e1f34604b395d16c128ae9045a7b7dabdc5ebf", func := "baler/balerlaw14.LzmaputRefuses", spec := "lzmaputRefuses", inPlace := ["sync/atomic.LoadUint64", "sync/atomic.CompareAndSwapUint64"], unfollowed := true, recurses := true, named := ["baler/finder.depths"], apart := false, laid := [("baler/finder.depths", laid_baler_finder_depths)], narrowed := true }
def LzmaputRefusesUptoSaid : Prop := lzmaputRefusesUptoRow.holds Tryz.pinned (OpenSpec.upto lzmaputRefusesSpec)

end Rows
end Go.Proofs.YtnokemcogjoonaaGreatDoor
