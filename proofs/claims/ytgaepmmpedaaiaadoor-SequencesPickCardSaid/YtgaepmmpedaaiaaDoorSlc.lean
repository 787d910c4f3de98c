/-
  A reslice, under a name of its own.
-/
import Derived.Test.YtgaepmmpedaaiaaDoorBase
namespace Go.Proofs.YtgaepmmpedaaiaaDoor
open Go.RowKit

def sliceSem (t : TypeId) (x : Value) (lo hi mx : Option Value) : Sem Value := Instr.slice t x lo hi mx
theorem sliceSem_eq (t : TypeId) (x : Value) (lo hi mx : Option Value) : Instr.slice t x lo hi mx = sliceSem t x lo hi mx := rfl
theorem addO (g o j : Nat) : (⟨g, o, none⟩ : Addr).add j = ⟨g, o + j, none⟩ := by unfold Addr.add; split <;> simp_all
end Go.Proofs.YtgaepmmpedaaiaaDoor
