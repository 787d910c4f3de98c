/-
  No cell of these rows narrows 'for every input' (looked for: loops, veiled, ifaces, maps, wideKeys, modest, calm, conditions, laid).
  DERIVED. THE GIVEN ROWS OF THIS SEAT. 4 by the template 'for every input the law returns true; each argument reads behind the call as it read before'; 0 by the template 'total and deterministic' (their statements: YtkljidigmolmmaaTotals.lean).
  GIVEN WITH THE SEED: the statements are not yours to turn. If you find one false, say at which input.
  Laid BY PROGRAM, IN A SANDBOX (cutbox-rows.mjs): the forced cells as the released guide's own fill.sh prints them over the translation 1aa86670a6f96376… (all of the seat's roots in one cut). By AI agents, Wed Nov 11 2026. No macro, syntax, notation, axiom, sorry.
-/
import Derived.Test.YtkljidigmolmmaaChecked
import GoSem.Claim
import GoSem.ClaimJoined
import GoSem.ClaimMapViews
import Derived.JoinedTies
import Derived.KernelRfl
namespace Go.Proofs.Ytkljidigmolmmaa
/- THE CELL 'sum', in the pinned program and in every row, IS THE sha256 OF THE DUMP (.gsa) THAT YtkljidigmolmmaaProg.lean LOADS. Nothing in Lean hashes anything: it is a label: what it is worth is what the hold of that sum in a sandbox is worth. -/
noncomputable def Try.pinned : Pinned := { name := "ytkljidigmolmmaa", sum := "1aa86670a6f96376a41a36ecaf5d10e3e39658e2e100be23696db99e9e98da0e", checked := Try.checked }
namespace Rows
def none {H : Type} : Left H := { results := [], args := [] }

/-- 'balerlaw09.WeightsRead': WHATEVER THE INPUT: true; the input reads as it did. -/
def weightsReadSpec : ChangeSpec := { name := "weightsRead", fn := fun _ => fun
  | [d] => { results := [.lit (.bool true)], args := [d] }
  | _ => none }
def weightsReadRow : OpenClaim := { program := "ytkljidigmolmmaa", sum := "1aa86670a6f96376a41a36ecaf5d10e3e39658e2e100be23696db99e9e98da0e", func := "baler/balerlaw09.WeightsRead", spec := "weightsRead", unfollowed := true, recurses := true, apart := false }
def WeightsReadSaid : Prop := weightsReadRow.holds Try.pinned (OpenSpec.ofChange weightsReadSpec)

/-- ITS FALSE NEIGHBOUR: 'it returns false'. Refute it at one input. -/
def weightsReadWrong : ChangeSpec := { name := "weightsRead", fn := fun _ => fun
  | [d] => { results := [.lit (.bool false)], args := [d] }
  | _ => none }
def WeightsReadWrongFalsely : Prop := weightsReadRow.holds Try.pinned (OpenSpec.ofChange weightsReadWrong)

/-- 'balerlaw09.WeightsPack': WHATEVER THE INPUT: true; the input reads as it did. -/
def weightsPackSpec : ChangeSpec := { name := "weightsPack", fn := fun _ => fun
  | [d1, d2, d3, d4] => { results := [.lit (.bool true)], args := [d1, d2, d3, d4] }
  | _ => none }
def weightsPackRow : OpenClaim := { program := "ytkljidigmolmmaa", sum := "1aa86670a6f96376a41a36ecaf5d10e3e39658e2e100be23696db99e9e98da0e", func := "baler/balerlaw09.WeightsPack", spec := "weightsPack", unfollowed := true, recurses := true, apart := false }
def WeightsPackSaid : Prop := weightsPackRow.holds Try.pinned (OpenSpec.ofChange weightsPackSpec)

/-- ITS FALSE NEIGHBOUR: 'it returns false'. Refute it at one input. -/
def weightsPackWrong : ChangeSpec := { name := "weightsPack", fn := fun _ => fun
  | [d1, d2, d3, d4] => { results := [.lit (.bool false)], args := [d1, d2, d3, d4] }
  | _ => none }
def WeightsPackWrongFalsely : Prop := weightsPackRow.holds Try.pinned (OpenSpec.ofChange weightsPackWrong)

/-- 'balerlaw09.WeightsBack': WHATEVER THE INPUT: true; the input reads as it did. -/
def weightsBackSpec : ChangeSpec := { name := "weightsBack", fn := fun _ => fun
  | [d1, d2] => { results := [.lit (.bool true)], args := [d1, d2] }
  | _ => none }
def weightsBackRow : OpenClaim := { program := "ytkljidigmolmmaa", sum := "1aa86670a6f96376a41a36ecaf5d10e3e39658e2e100be23696db99e9e98da0e", func := "baler/balerlaw09.WeightsBack", spec := "weightsBack", unfollowed := true, recurses := true, apart := false }
def WeightsBackSaid : Prop := weightsBackRow.holds Try.pinned (OpenSpec.ofChange weightsBackSpec)

/-- ITS FALSE NEIGHBOUR: 'it returns false'. Refute it at one input. -/
def weightsBackWrong : ChangeSpec := { name := "weightsBack", fn := fun _ => fun
  | [d1, d2] => { results := [.lit (.bool false)], args := [d1, d2] }
  | _ => none }
def WeightsBackWrongFalsely : Prop := weightsBackRow.holds Try.pinned (OpenSpec.ofChange weightsBackWrong)

/-- 'balerlaw09.WeightsThere': WHATEVER THE INPUT: true; the input reads as it did. -/
def weightsThereSpec : ChangeSpec := { name := "weightsThere", fn := fun _ => fun
  | [d1, d2, d3, d4] => { results := [.lit (.bool true)], args := [d1, d2, d3, d4] }
  | _ => none }
def weightsThereRow : OpenClaim := { program := "ytkljidigmolmmaa", sum := "1aa86670a6f96376a41a36ecaf5d10e3e39658e2e100be23696db99e9e98da0e", func := "baler/balerlaw09.WeightsThere", spec := "weightsThere", unfollowed := true, recurses := true, apart := false }
def WeightsThereSaid : Prop := weightsThereRow.holds Try.pinned (OpenSpec.ofChange weightsThereSpec)

/-- ITS FALSE NEIGHBOUR: 'it returns false'. Refute it at one input. -/
def weightsThereWrong : ChangeSpec := { name := "weightsThere", fn := fun _ => fun
  | [d1, d2, d3, d4] => { results := [.lit (.bool false)], args := [d1, d2, d3, d4] }
  | _ => none }
def WeightsThereWrongFalsely : Prop := weightsThereRow.holds Try.pinned (OpenSpec.ofChange weightsThereWrong)

/- THE SECOND FORM. 'bulk': how many values and letters a reading holds, each counted each time it is reached (what is shared counts as often as it is met; a slice's spare places count too). A statement '..UptoSaid' is the law's where the arguments, and the package variables that the reading takes, are together of bulk at most 1048576: NARROWER than '..Said'. Prove '..Said' where nothing that the law and all that it calls make is longer than what came in: it says more and counts as full. Else prove '..UptoSaid'. A law counts once. -/
mutual
def uptoBulk {H : Type} : DataW H → Nat
  | .lit (.string bytes) => bytes.length + 1
  | .lit _ => 1
  | .nil => 1
  | .ptr d => uptoBulk d + 1
  | .slice elems spare => uptoBulkAll elems + uptoBulkAll spare + 1
  | .agg parts => uptoBulkAll parts + 1
  | .iface _ d => uptoBulk d + 1
  | .map entries => uptoBulkEntries entries + 1
  | .held _ => 1
def uptoBulkAll {H : Type} : List (DataW H) → Nat
  | [] => 0
  | d :: r => uptoBulk d + uptoBulkAll r
def uptoBulkEntries {H : Type} : List (Lit × DataW H) → Nat
  | [] => 0
  | x :: r => uptoBulkEntry x + uptoBulkEntries r
def uptoBulkEntry {H : Type} : Lit × DataW H → Nat
  | (.string bytes, d) => bytes.length + uptoBulk d + 1
  | (_, d) => uptoBulk d + 1
 end
def uptoSmall : (H : Type) → List (DataW H) → Bool := fun _ ds => decide (uptoBulkAll ds ≤ 1048576)
def OpenSpec.upto (s : _root_.Go.ChangeSpec) : _root_.Go.OpenSpec := { _root_.Go.OpenSpec.ofChange s with cond := some uptoSmall }

/-- 'balerlaw09.WeightsRead', WHERE WHAT IT READS IS OF BULK AT MOST 1048576: true; the input reads as it did. -/
def weightsReadUptoRow : OpenClaim := { program := "ytkljidigmolmmaa", sum := "1aa86670a6f96376a41a36ecaf5d10e3e39658e2e100be23696db99e9e98da0e", func := "baler/balerlaw09.WeightsRead", spec := "weightsRead", unfollowed := true, recurses := true, apart := false, narrowed := true }
def WeightsReadUptoSaid : Prop := weightsReadUptoRow.holds Try.pinned (OpenSpec.upto weightsReadSpec)

/-- 'balerlaw09.WeightsPack', WHERE WHAT IT READS IS OF BULK AT MOST 1048576: true; the input reads as it did. -/
def weightsPackUptoRow : OpenClaim := { program := "ytkljidigmolmmaa", sum := "1aa86670a6f96376a41a36ecaf5d10e3e39658e2e100be23696db99e9e98da0e", func := "baler/balerlaw09.WeightsPack", spec := "weightsPack", unfollowed := true, recurses := true, apart := false, narrowed := true }
def WeightsPackUptoSaid : Prop := weightsPackUptoRow.holds Try.pinned (OpenSpec.upto weightsPackSpec)

/-- 'balerlaw09.WeightsBack', WHERE WHAT IT READS IS OF BULK AT MOST 1048576: true; the input reads as it did. -/
def weightsBackUptoRow : OpenClaim := { program := "ytkljidigmolmmaa", sum := "1aa86670a6f96376a41a36ecaf5d10e3e39658e2e100be23696db99e9e98da0e", func := "baler/balerlaw09.WeightsBack", spec := "weightsBack", unfollowed := true, recurses := true, apart := false, narrowed := true }
def WeightsBackUptoSaid : Prop := weightsBackUptoRow.holds Try.pinned (OpenSpec.upto weightsBackSpec)

/-- 'balerlaw09.WeightsThere', WHERE WHAT IT READS IS OF BULK AT MOST 1048576: true; the input reads as it did. -/
def weightsThereUptoRow : OpenClaim := { program := "ytkljidigmolmmaa", sum := "1aa86670a6f96376a41a36ecaf5d10e3e39658e2e100be23696db99e9e98da0e", func := "baler/balerlaw09.WeightsThere", spec := "weightsThere", unfollowed := true, recurses := true, apart := false, narrowed := true }
def WeightsThereUptoSaid : Prop := weightsThereUptoRow.holds Try.pinned (OpenSpec.upto weightsThereSpec)

end Rows
end Go.Proofs.Ytkljidigmolmmaa
