/-
  A call that leaves the world as it was, in a region that draws its order.
-/
import Derived.Test.YtinhlkioeadfdaaDoorWak
namespace Go.Proofs.YtinhlkioeadfdaaDoor
open Go.RowKit Go.Shelf
set_option linter.unusedVariables false
theorem enters8 (av : Value) (w : World) : (callFunc 8 #[av]).run Tryd.prog w = .ok (.enter 8 #[av]) w := by
  have hf := Tryd.func8
  have hname : (Tryd.f8.name == "runtime.NumGoroutine") = false := by kernel_rfl
  obtain ⟨c, hb⟩ : ∃ c, Tryd.f8.body = some c := ⟨_, rfl⟩
  generalize Tryd.f8 = fn at *
  have hn : ¬ fn.name = "runtime.NumGoroutine" := by simpa using hname
  simp [callFunc, go_sem, hf, hn, hb]
theorem step_call_same {ops : Array Oper} {dst : Option Tmp} {x : Operand} {ats : Array TypeId} {ty : TypeId} {pos : String} {after : Array Edge} {a : Act} {K : Act → World → Prop} {Q : Exit → Act → World → Prop} {E : Prop} (w : World)
    (av v : Value) (hx : a.eval x = av)
    (h : Calls Tryd.prog 8 #[av] w fun e w' => e = .returned v ∧ w' = w) (hk : K (a.put dst v) w) : if Region.wanted { dst := dst, op := .call { callee := .value (.func 8), args := #[x], argTypes := ats }, type := ty, pos := pos, after := after, guard := none } (yielded ops a.tmps) = true then Oper.wp Tryd.prog { dst := dst, op := .call { callee := .value (.func 8), args := #[x], argTypes := ats }, type := ty, pos := pos, after := after, guard := none } a w K Q else E := by
  rw [if_pos (by simp [Region.wanted])]
  unfold Oper.wp
  rw [execOp_call_go]
  have e : (#[] ++ Array.map a.eval #[x] ++ #[] : Array Value) = #[av] := by simp [hx]
  rw [e, enters8]
  refine h.mono ?_
  rintro e w' ⟨rfl, rfl⟩
  exact hk
end Go.Proofs.YtinhlkioeadfdaaDoor
