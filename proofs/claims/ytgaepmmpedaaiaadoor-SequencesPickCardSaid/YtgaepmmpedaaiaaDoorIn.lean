/-
  What came in: three numbers by value; the variables that the row lists, as the door lays them.
-/
import Derived.Test.YtgaepmmpedaaiaaDoorRows
import Derived.Test.YtgaepmmpedaaiaaDoorBase
import Derived.WalkKit
import Derived.ProofKit
import Derived.OpenShut
import Derived.ChangeOld
import Derived.ChangeSame
import Derived.ChangeArms
import Derived.Below
import Derived.SizedLaws
import Derived.Deep.Slices
import Derived.Deep.Strs
import Derived.Lib.SmallJoins
import Derived.LaidMore
import Derived.Stop.Joined
import Derived.ShutString
namespace Go.Proofs.YtgaepmmpedaaiaaDoor
open Go.ChangeShapes Go.WideShapes Go.ChangeAt Go.RowKit
set_option linter.unusedVariables false

theorem own : ownKnob Tryd.prog.godebug = none := by kernel_rfl
theorem laidOut : laidOutB Tryd.prog = true := by kernel_rfl
theorem cells22 : Tryd.prog.cellsOf 22 = 3 := by kernel_rfl
theorem cells3 : Tryd.prog.cellsOf 3 = 1 := by kernel_rfl
theorem in64 {n : Int} (h : (Lit.int .i64 n).wf = true) : n ≤ 9223372036854775807 := by
  have h := Bool.and_eq_true_iff.1 h
  have h2 := of_decide_eq_true h.2
  have e2 : IntKind.i64.max = 9223372036854775807 := rfl
  rw [e2] at h2
  omega
theorem arr3 {α : Type} {cs : Array α} (h : cs.size = 3) : ∃ c0 c1 c2, cs = #[c0, c1, c2] := by
  obtain ⟨l⟩ := cs
  match l, h with
  | [c0, c1, c2], _ => exact ⟨c0, c1, c2, rfl⟩
/-- Three numbers by value. -/
theorem rep_open {H : Type} {enc : TypeId × Value → H} {W : World} {fuel : Nat} {v : Value} {x : DataW H × List MemPlace} (h : DataW.trod enc Tryd.prog W 0 (fun _ => true) true fuel 22 v.cells.toList = some x) :
    ∃ r0 r1 r2 : Int, v = .agg #[.int .i64 r0, .int .i64 r1, .int .i64 r2] ∧ r0 ≤ 9223372036854775807 := by
  obtain ⟨xs, m, _, _, hl, hx, hf⟩ := DataW.trod_array Tryd.underlying22 h
  rw [cells22] at hl
  have hagg : ∃ cs, v = .agg cs := by
    cases v <;> first | exact ⟨_, rfl⟩ | simp [Value.cells] at hl
  obtain ⟨cs, rfl⟩ := hagg
  obtain ⟨c0, c1, c2, rfl⟩ := arr3 (show cs.size = 3 by simpa [Value.cells] using hl)
  match xs, hx with
  | [x0, x1, x2], _ =>
    have h0 := hf 0 (by omega)
    have h1 := hf 1 (by omega)
    have h2 := hf 2 (by omega)
    simp only [Value.cells, cells3, List.drop_succ_cons, List.drop_zero, List.take_succ_cons, List.take_zero, Nat.mul_one] at h0 h1 h2
    obtain ⟨q0, e0, _, w0⟩ := DataW.trod_int Tryd.underlying3 h0
    obtain ⟨q1, e1, _, _⟩ := DataW.trod_int Tryd.underlying3 h1
    obtain ⟨q2, e2, _, _⟩ := DataW.trod_int Tryd.underlying3 h2
    simp only [List.cons.injEq, and_true] at e0 e1 e2
    subst e0 e1 e2
    exact ⟨q0, q1, q2, rfl, in64 w0⟩
/-- The door's own heap meets the condition. -/
theorem door_met (os : Os) (args : Array Value) : laidMetH Tryd.prog [("baler/sequences.extraOrder", Rows.laid_baler_sequences_extraOrder), ("baler/sequences.nextOrder", Rows.laid_baler_sequences_nextOrder)] ((World.doorLaid Tryd.prog 400 os).forCall (fun _ _ => 0) ⟨#[], args, []⟩).memory :=
  laidMetH_of_parts3 (fuel := 8) (laidMet_of_run' 8 (by kernel_rfl) (by kernel_rfl)) (by kernel_rfl) (by kernel_rfl)
end Go.Proofs.YtgaepmmpedaaiaaDoor
