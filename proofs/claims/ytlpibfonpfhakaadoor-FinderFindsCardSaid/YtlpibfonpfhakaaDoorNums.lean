/-
  max and min by names of one's own; small facts on rows of bytes.
-/
import Derived.Shelf.Abstract
import Derived.Shelf.RegionOpen
import Derived.WalkKit
import Derived.WalkSmall
import Derived.WalkLawsBesides
import Derived.BigQuiet
import Derived.Deep.QuietTactic
import Derived.Deep.RegionWith
import Derived.Deep.RegionHeld3
import Derived.Laws.BitsAllLaws
import Derived.Test.YtlpibfonpfhakaaDoorProg
import Derived.Test.YtlpibfonpfhakaaDoorBase
namespace Go.Proofs.YtlpibfonpfhakaaDoor
open Go.RowKit Go.Shelf
set_option linter.unusedVariables false

def maxSem (ats : Array TypeId) (ty : TypeId) (args : Array Value) : Sem Value := Builtin.max_ ats ty args
theorem maxSem_eq (ats : Array TypeId) (ty : TypeId) (args : Array Value) : Builtin.max_ ats ty args = maxSem ats ty args := rfl
theorem maxSem_run (ats : Array TypeId) (ty : TypeId) (a b c : Int) (h : c = max a b) (w : World) : (maxSem ats ty #[.int .i64 a, .int .i64 b]).run Tryd.prog w = .ok (.int .i64 c) w := by
  have e : (maxSem ats ty #[.int .i64 a, .int .i64 b]) = pure (.int .i64 (if b > a then b else a)) := rfl
  rw [e, h, show max a b = (if b > a then b else a) from by split <;> omega]
  rfl
def minSem (ats : Array TypeId) (ty : TypeId) (args : Array Value) : Sem Value := Builtin.min_ ats ty args
theorem minSem_eq (ats : Array TypeId) (ty : TypeId) (args : Array Value) : Builtin.min_ ats ty args = minSem ats ty args := rfl
theorem minSem_run (ats : Array TypeId) (ty : TypeId) (a b c : Int) (h : c = min a b) (w : World) : (minSem ats ty #[.int .i64 a, .int .i64 b]).run Tryd.prog w = .ok (.int .i64 c) w := by
  have e : (minSem ats ty #[.int .i64 a, .int .i64 b]) = pure (.int .i64 (if b < a then b else a)) := rfl
  rw [e, h, show min a b = (if b < a then b else a) from by split <;> omega]
  rfl
theorem keep_drewN (w : World) (n : Nat) : Keep noBlock w (w.drewN n) := ⟨rfl, rfl, rfl, Nat.le_refl _, fun _ _ _ => rfl⟩

theorem lt_app {L X : List Nat} (hL : ∀ j : Nat, L[j]?.getD 0 < 256) (hX : ∀ j : Nat, X[j]?.getD 0 < 256) : ∀ j : Nat, (L ++ X)[j]?.getD 0 < 256 := by
  intro j
  rw [List.getElem?_append]
  split
  · exact hL j
  · exact hX _
theorem lt_drop {bs : List Nat} (h : ∀ j : Nat, bs[j]?.getD 0 < 256) (k : Nat) : ∀ j : Nat, (bs.drop k)[j]?.getD 0 < 256 := by
  intro j; rw [List.getElem?_drop]; exact h _
theorem lt_take {bs : List Nat} (h : ∀ j : Nat, bs[j]?.getD 0 < 256) (k : Nat) : ∀ j : Nat, (bs.take k)[j]?.getD 0 < 256 := by
  intro j; rw [List.getElem?_take]; split
  · exact h _
  · decide
end Go.Proofs.YtlpibfonpfhakaaDoor
