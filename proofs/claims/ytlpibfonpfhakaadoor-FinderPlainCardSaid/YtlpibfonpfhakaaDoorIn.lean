/-
  What came in: slices of bytes, of steps, of int; and the table of depths, as the rows hand them on.
-/
import Derived.Test.YtlpibfonpfhakaaDoorRows
import Derived.Test.YtlpibfonpfhakaaDoorAgnLaw
import Derived.WalkKit
import Derived.ProofKit
import Derived.LaidMore
import Derived.OpenShut
import Derived.Stop.Joined
import Derived.ShutString
import Derived.ChangeOld
import Derived.Below
import Derived.SizedLaws
import Derived.Deep.Slices
import Derived.Deep.Strs
namespace Go.Proofs.YtlpibfonpfhakaaDoor
open Go.ChangeShapes Go.WideShapes Go.ChangeAt Go.RowKit
set_option linter.unusedVariables false

theorem own : ownKnob Tryd.prog.godebug = none := by kernel_rfl
theorem bytes5 : Tryd.prog.bytesOf 5 = 1 := by kernel_rfl
theorem laidOut : laidOutB Tryd.prog = true := by kernel_rfl
theorem gDepths : Tryd.prog.globalNamed "baler/finder.depths" = some 0 := by kernel_rfl
theorem tDepths : (Tryd.prog.globals[0]?).map (·.type) = some 47 := by kernel_rfl
theorem bytes3 : Tryd.prog.bytesOf 3 = 8 := by kernel_rfl
theorem cells3 : Tryd.prog.cellsOf 3 = 1 := by kernel_rfl
theorem cells25 : Tryd.prog.cellsOf 25 = 3 := by kernel_rfl

/-- The door's own heap meets the condition. -/
theorem door_met (os : Os) (args : Array Value) : laidMetH Tryd.prog [("baler/finder.depths", Rows.laid_baler_finder_depths)] ((World.doorLaid Tryd.prog 400 os).forCall (fun _ _ => 0) ⟨#[], args, []⟩).memory :=
  laidMetH_of_parts3 (fuel := 8) (laidMet_of_run' 8 (by kernel_rfl) (by kernel_rfl)) (by kernel_rfl) (by kernel_rfl)

/-- What the condition gives: the table, as it lies. -/
theorem of_laid {W : World} (h : laidMetH Tryd.prog [("baler/finder.depths", Rows.laid_baler_finder_depths)] W) : Dep W := by
  rw [MakeChecks.laidMetH_plain _ _ _ (by kernel_rfl)] at h
  obtain ⟨ps, ⟨g1, t1, cs1, f1, p1, q1, hg1, ht1, hv1, hd1, _⟩, _, _⟩ := h
  obtain rfl := Option.some.inj (gDepths.symm.trans hg1)
  obtain rfl := Option.some.inj (tDepths.symm.trans ht1)
  obtain ⟨xs, m1, rfl, hx1, hlen, hn4, hel⟩ := DataW.trod_array Tryd.underlying47 hd1
  simp only [Prod.mk.injEq, DataW.agg.injEq, Rows.laid_baler_finder_depths] at hx1
  have hall : ∀ i, i < 4 → ∃ k : Int, cs1[i]? = some (.int .i64 k) ∧ (xs[i]?).map (·.1) = some (.lit (.int .i64 k)) := fun i hi => by
    have h0 := hel i hi
    obtain ⟨x, hx⟩ : ∃ x, xs[i]? = some x := ⟨_, List.getElem?_eq_getElem (by omega)⟩
    rw [hx] at h0
    obtain ⟨k, e1, e2, _⟩ := DataW.trod_int Tryd.underlying3 h0
    refine ⟨k, ?_, ?_⟩
    · rw [cells3] at e1
      have e3 := congrArg (fun l : List Value => l[0]?) e1
      simp only [List.getElem?_take, List.getElem?_drop] at e3
      simpa using e3
    · rw [hx]; simp [e2]
  intro i hi
  obtain ⟨k, h1, h2⟩ := hall i hi
  have hv := World.var?_cell hg1 hv1 i
  rw [hv, h1]
  have h3 : (xs.map (·.1))[i]? = some (.lit (.int .i64 k)) := by rw [List.getElem?_map]; exact h2
  rw [← hx1.1] at h3
  rcases i with _ | _ | _ | _ | i
  · simp at h3; subst h3; rfl
  · simp at h3; subst h3; rfl
  · simp at h3; subst h3; rfl
  · simp at h3; subst h3; rfl
  · omega
end Go.Proofs.YtlpibfonpfhakaaDoor
