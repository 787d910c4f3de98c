/-
  What catches a panic: the closure that a chunk defers.
-/
import Derived.Test.YtinhlkioeadfdaaDoorPtc
import Derived.Defers
import Derived.Recover
namespace Go.Proofs.YtinhlkioeadfdaaDoor
open Go.RowKit Go.Shelf
set_option linter.unusedVariables false

def taSem (x : Value) (a b : TypeId) (ok : Bool) : Sem Value := Instr.typeAssert x a b ok
theorem taSem_eq (x : Value) (a b : TypeId) (ok : Bool) : Instr.typeAssert x a b ok = taSem x a b ok := rfl
theorem taSem_run (w : World) : (taSem (.iface 29 (.int .i64 11)) 20 29 true).run Tryd.prog w = .ok (.tuple #[.int .i64 11, .bool true]) w := by
  unfold taSem
  kernel_rfl
section
attribute [local go_sem] taSem_eq
theorem errorOf_any (w : World) : Calls Tryd.prog 21 #[.iface 29 (.int .i64 11)] w fun e w' => e = .returned (.int .i64 11) ∧ w' = w := by
  have h := taSem_run
  go_enter Tryd.func21, Tryd.ntmps21
  go_wp2_with fail
  go_ret
  exact ⟨rfl, rfl⟩
end

theorem catch_idle (p q : Addr) (w : World) :
    CallsD Tryd.prog 20 #[.pointer (some p), .pointer (some q)] .returning w fun e u' w' => e = .returned (.tuple #[]) ∧ u' = .returning ∧ w' = w := by
  refine callsD_of_wpS Tryd.func20 rfl fun c₀ cs hu => ?_
  apply wpS_seq
  apply wpS_region
  simp [wpOpsS, go_sem, recoverD, hu, Tryd.ntmps20, Exit.thenS]
  apply wpS_seq
  apply wpS_region
  simp [wpOpsS, go_sem, Exit.thenS]
  refine wpS_cond (t := false) (by simp [Act.eval, Array.replicate]) ?_
  simp only [Bool.false_eq_true, if_false]
  refine wpS_of_wp (wp_skip ?_)
  cases c₀
  simp_all [bodyPostS, results, Tryd.results20]
theorem catch_panicking (p q : Addr) (v1 v2 : Value) (older : List PanicEntry) (w : World) (c1 : w.cell? p = some v1) (c2 : w.cell? q = some v2) (f1 : w.frozen? p = false) (f2 : w.frozen? q = false) (hne : p.block ≠ q.block) :
    CallsD Tryd.prog 20 #[.pointer (some p), .pointer (some q)] (.panicking ({ v := .iface 29 (.int .i64 11), recovered := false } :: older)) w fun e u' w' =>
      e = .returned (.tuple #[]) ∧ u' = .panicking ({ v := .iface 29 (.int .i64 11), recovered := true } :: older) ∧ w' = (w.setCell p (.slice none 0 0)).setCell q (.int .i64 11) := by
  have HE := errorOf_any w
  refine callsD_of_wpS Tryd.func20 rfl fun c₀ cs hu => ?_
  apply wpS_seq
  apply wpS_region
  simp [wpOpsS, go_sem, recoverD, hu, Tryd.ntmps20, Exit.thenS]
  apply wpS_seq
  apply wpS_region
  simp [wpOpsS, go_sem, Exit.thenS]
  refine wpS_cond (t := true) (by simp [Act.eval, Array.replicate]) ?_
  simp only [if_true]
  apply wpS_region
  simp [wpOpsS, go_sem]
  refine HE.mono ?_
  rintro e w' ⟨rfl, rfl⟩
  have c2' : (w'.setCell p (.slice none 0 0)).cell? q = some v2 := by rw [World.cell?_setCell_other _ _ _ _ (fun e => hne (by rw [e]))]; exact c2
  have f2' : (w'.setCell p (.slice none 0 0)).frozen? q = false := by rw [World.frozen?_setCell]; exact f2
  simp [c1, f1, c2', f2', go_sem, bodyPostS, results, Tryd.results20]

end Go.Proofs.YtinhlkioeadfdaaDoor
