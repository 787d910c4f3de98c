/-
  What came in: the variables that the row lists, as the door lays them.
-/
import Derived.Test.YtinhlkioeadfdaaDoorIn
import Derived.Test.YtinhlkioeadfdaaDoorRows
import Derived.LaidMore
import Derived.Stop.Joined
import Derived.ShutString
namespace Go.Proofs.YtinhlkioeadfdaaDoor
open Go.ChangeShapes Go.WideShapes Go.ChangeAt Go.RowKit
set_option linter.unusedVariables false

/-- The door's own heap meets the condition. -/
theorem door_met (os : Os) (args : Array Value) : laidMetH Tryd.prog [("math/bits.deBruijn32tab", Rows.laid_math_bits_deBruijn32tab), ("math/bits.deBruijn64tab", Rows.laid_math_bits_deBruijn64tab), ("internal/strconv.uint64pow10", Rows.laid_internal_strconv_uint64pow10)] ((World.doorLaid Tryd.prog 400 os).forCall (fun _ _ => 0) ⟨#[], args, []⟩).memory :=
  laidMetH_of_parts3 (fuel := 8) (laidMet_of_run' 8 (by kernel_rfl) (by kernel_rfl)) (by kernel_rfl) (by kernel_rfl)
theorem in64 {n : Int} (h : (Lit.int .i64 n).wf = true) : n < 9223372036854775808 := by
  have h := Bool.and_eq_true_iff.1 h
  have h2 := of_decide_eq_true h.2
  have e2 : IntKind.i64.max = 9223372036854775807 := rfl
  rw [e2] at h2
  omega
end Go.Proofs.YtinhlkioeadfdaaDoor
