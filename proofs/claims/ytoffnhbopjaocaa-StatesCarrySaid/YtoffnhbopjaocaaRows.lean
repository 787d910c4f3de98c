/-
  No cell of these rows narrows 'for every input' (looked for: loops, veiled, ifaces, maps, wideKeys, modest, calm, conditions, laid).
  DERIVED. THE GIVEN ROWS OF THIS SEAT. 4 by the template 'for every input the law returns true; each argument reads behind the call as it read before'; 0 by the template 'total and deterministic' (their statements: YtoffnhbopjaocaaTotals.lean).
  GIVEN WITH THE SEED: the statements are not yours to turn. If you find one false, say at which input.
  Laid BY PROGRAM, IN A SANDBOX (cutbox-rows.mjs): the forced cells as the released guide's own fill.sh prints them over the translation c0d319080f456fc7… (all of the seat's roots in one cut). By AI agents, Wed Nov 11 2026. No macro, syntax, notation, axiom, sorry.
-/
import Derived.Test.YtoffnhbopjaocaaChecked
import GoSem.Claim
import GoSem.ClaimJoined
import GoSem.ClaimMapViews
import Derived.JoinedTies
import Derived.KernelRfl
namespace Go.Proofs.Ytoffnhbopjaocaa
/- THE CELL 'sum', in the pinned program and in every row, IS THE sha256 OF THE DUMP (.gsa) THAT YtoffnhbopjaocaaProg.lean LOADS. Nothing in Lean hashes anything: it is a label: what it is worth is what the hold of that sum in a sandbox is worth. -/
noncomputable def Try.pinned : Pinned := { name := "ytoffnhbopjaocaa", sum := "c0d319080f456fc7c4efab080496fb181df91ea5ba805e0b67cdfe39d15f7f69", checked := Try.checked }
namespace Rows
def none {H : Type} : Left H := { results := [], args := [] }

/-- 'balerlaw07.StatesWrite': WHATEVER THE INPUT: true; the input reads as it did. -/
def statesWriteSpec : ChangeSpec := { name := "statesWrite", fn := fun _ => fun
  | [d1, d2] => { results := [.lit (.bool true)], args := [d1, d2] }
  | _ => none }
def statesWriteRow : OpenClaim := { program := "ytoffnhbopjaocaa", sum := "c0d319080f456fc7c4efab080496fb181df91ea5ba805e0b67cdfe39d15f7f69", func := "baler/balerlaw07.StatesWrite", spec := "statesWrite", unfollowed := true, recurses := true, apart := false }
def StatesWriteSaid : Prop := statesWriteRow.holds Try.pinned (OpenSpec.ofChange statesWriteSpec)

/-- ITS FALSE NEIGHBOUR: 'it returns false'. Refute it at one input. -/
def statesWriteWrong : ChangeSpec := { name := "statesWrite", fn := fun _ => fun
  | [d1, d2] => { results := [.lit (.bool false)], args := [d1, d2] }
  | _ => none }
def StatesWriteWrongFalsely : Prop := statesWriteRow.holds Try.pinned (OpenSpec.ofChange statesWriteWrong)

/-- 'balerlaw07.StatesBack': WHATEVER THE INPUT: true; the input reads as it did. -/
def statesBackSpec : ChangeSpec := { name := "statesBack", fn := fun _ => fun
  | [d1, d2, d3] => { results := [.lit (.bool true)], args := [d1, d2, d3] }
  | _ => none }
def statesBackRow : OpenClaim := { program := "ytoffnhbopjaocaa", sum := "c0d319080f456fc7c4efab080496fb181df91ea5ba805e0b67cdfe39d15f7f69", func := "baler/balerlaw07.StatesBack", spec := "statesBack", unfollowed := true, recurses := true, apart := false }
def StatesBackSaid : Prop := statesBackRow.holds Try.pinned (OpenSpec.ofChange statesBackSpec)

/-- ITS FALSE NEIGHBOUR: 'it returns false'. Refute it at one input. -/
def statesBackWrong : ChangeSpec := { name := "statesBack", fn := fun _ => fun
  | [d1, d2, d3] => { results := [.lit (.bool false)], args := [d1, d2, d3] }
  | _ => none }
def StatesBackWrongFalsely : Prop := statesBackRow.holds Try.pinned (OpenSpec.ofChange statesBackWrong)

/-- 'balerlaw07.StatesFair': WHATEVER THE INPUT: true; the input reads as it did. -/
def statesFairSpec : ChangeSpec := { name := "statesFair", fn := fun _ => fun
  | [d1, d2] => { results := [.lit (.bool true)], args := [d1, d2] }
  | _ => none }
def statesFairRow : OpenClaim := { program := "ytoffnhbopjaocaa", sum := "c0d319080f456fc7c4efab080496fb181df91ea5ba805e0b67cdfe39d15f7f69", func := "baler/balerlaw07.StatesFair", spec := "statesFair", unfollowed := true, recurses := true, apart := false }
def StatesFairSaid : Prop := statesFairRow.holds Try.pinned (OpenSpec.ofChange statesFairSpec)

/-- ITS FALSE NEIGHBOUR: 'it returns false'. Refute it at one input. -/
def statesFairWrong : ChangeSpec := { name := "statesFair", fn := fun _ => fun
  | [d1, d2] => { results := [.lit (.bool false)], args := [d1, d2] }
  | _ => none }
def StatesFairWrongFalsely : Prop := statesFairRow.holds Try.pinned (OpenSpec.ofChange statesFairWrong)

/-- 'balerlaw07.StatesCarry': WHATEVER THE INPUT: true; the input reads as it did. -/
def statesCarrySpec : ChangeSpec := { name := "statesCarry", fn := fun _ => fun
  | [d1, d2, d3] => { results := [.lit (.bool true)], args := [d1, d2, d3] }
  | _ => none }
def statesCarryRow : OpenClaim := { program := "ytoffnhbopjaocaa", sum := "c0d319080f456fc7c4efab080496fb181df91ea5ba805e0b67cdfe39d15f7f69", func := "baler/balerlaw07.StatesCarry", spec := "statesCarry", unfollowed := true, recurses := true, apart := false }
def StatesCarrySaid : Prop := statesCarryRow.holds Try.pinned (OpenSpec.ofChange statesCarrySpec)

/-- ITS FALSE NEIGHBOUR: 'it returns false'. Refute it at one input. -/
def statesCarryWrong : ChangeSpec := { name := "statesCarry", fn := fun _ => fun
  | [d1, d2, d3] => { results := [.lit (.bool false)], args := [d1, d2, d3] }
  | _ => none }
def StatesCarryWrongFalsely : Prop := statesCarryRow.holds Try.pinned (OpenSpec.ofChange statesCarryWrong)

/- THE SECOND FORM. 'bulk': how many values and letters a reading holds, each counted each time it is reached (what is shared counts as often as it is met; a slice's spare places count too). A statement '..UptoSaid' is the law's where the arguments, and the package variables that the reading takes, are together of bulk at most 1048576: NARROWER than '..Said'. Prove '..Said' where nothing that the law and all that it calls make is longer than what came in: it says more and counts as full. Else prove '..UptoSaid'. A law counts once. -/
mutual
def uptoBulk {H : Type} : DataW H → Nat
  | .lit (.string bytes) => bytes.length + 1
  | .lit _ => 1
  | .nil => 1
  | .ptr d => uptoBulk d + 1
  | .slice elems spare => uptoBulkAll elems + uptoBulkAll spare + 1
  | .agg parts => uptoBulkAll parts + 1
  | .iface _ d => uptoBulk d + 1
  | .map entries => uptoBulkEntries entries + 1
  | .held _ => 1
def uptoBulkAll {H : Type} : List (DataW H) → Nat
  | [] => 0
  | d :: r => uptoBulk d + uptoBulkAll r
def uptoBulkEntries {H : Type} : List (Lit × DataW H) → Nat
  | [] => 0
  | x :: r => uptoBulkEntry x + uptoBulkEntries r
def uptoBulkEntry {H : Type} : Lit × DataW H → Nat
  | (.string bytes, d) => bytes.length + uptoBulk d + 1
  | (_, d) => uptoBulk d + 1
 end
def uptoSmall : (H : Type) → List (DataW H) → Bool := fun _ ds => decide (uptoBulkAll ds ≤ 1048576)
def OpenSpec.upto (s : _root_.Go.ChangeSpec) : _root_.Go.OpenSpec := { _root_.Go.OpenSpec.ofChange s with cond := some uptoSmall }

/-- 'balerlaw07.StatesWrite', WHERE WHAT IT READS IS OF BULK AT MOST 1048576: true; the input reads as it did. -/
def statesWriteUptoRow : OpenClaim := { program := "ytoffnhbopjaocaa", sum := "c0d319080f456fc7c4efab080496fb181df91ea5ba805e0b67cdfe39d15f7f69", func := "baler/balerlaw07.StatesWrite", spec := "statesWrite", unfollowed := true, recurses := true, apart := false, narrowed := true }
def StatesWriteUptoSaid : Prop := statesWriteUptoRow.holds Try.pinned (OpenSpec.upto statesWriteSpec)

/-- 'balerlaw07.StatesBack', WHERE WHAT IT READS IS OF BULK AT MOST 1048576: true; the input reads as it did. -/
def statesBackUptoRow : OpenClaim := { program := "ytoffnhbopjaocaa", sum := "c0d319080f456fc7c4efab080496fb181df91ea5ba805e0b67cdfe39d15f7f69", func := "baler/balerlaw07.StatesBack", spec := "statesBack", unfollowed := true, recurses := true, apart := false, narrowed := true }
def StatesBackUptoSaid : Prop := statesBackUptoRow.holds Try.pinned (OpenSpec.upto statesBackSpec)

/-- 'balerlaw07.StatesFair', WHERE WHAT IT READS IS OF BULK AT MOST 1048576: true; the input reads as it did. -/
def statesFairUptoRow : OpenClaim := { program := "ytoffnhbopjaocaa", sum := "c0d319080f456fc7c4efab080496fb181df91ea5ba805e0b67cdfe39d15f7f69", func := "baler/balerlaw07.StatesFair", spec := "statesFair", unfollowed := true, recurses := true, apart := false, narrowed := true }
def StatesFairUptoSaid : Prop := statesFairUptoRow.holds Try.pinned (OpenSpec.upto statesFairSpec)

/-- 'balerlaw07.StatesCarry', WHERE WHAT IT READS IS OF BULK AT MOST 1048576: true; the input reads as it did. -/
def statesCarryUptoRow : OpenClaim := { program := "ytoffnhbopjaocaa", sum := "c0d319080f456fc7c4efab080496fb181df91ea5ba805e0b67cdfe39d15f7f69", func := "baler/balerlaw07.StatesCarry", spec := "statesCarry", unfollowed := true, recurses := true, apart := false, narrowed := true }
def StatesCarryUptoSaid : Prop := statesCarryUptoRow.holds Try.pinned (OpenSpec.upto statesCarrySpec)

end Rows
end Go.Proofs.Ytoffnhbopjaocaa
