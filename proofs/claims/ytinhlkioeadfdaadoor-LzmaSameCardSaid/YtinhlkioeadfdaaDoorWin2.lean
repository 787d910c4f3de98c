/-
  A window that is made, emptied, dropped.
-/
import Derived.Test.YtinhlkioeadfdaaDoorWin
namespace Go.Proofs.YtinhlkioeadfdaaDoor
open Go.RowKit Go.Shelf
set_option linter.unusedVariables false

set_option maxHeartbeats 1000000 in
theorem new_arg (size : Int) (v : Value) (w : World) (h : ¬ (1 ≤ size ∧ size ≤ 16777216)) :
    Calls Tryd.prog 11 #[.int .i64 size, v] w fun e w' => e = .returned (.tuple #[.pointer none, .int .i64 2]) ∧ w' = w := by
  by_cases h1 : size < 1
  · go_enter Tryd.func11, Tryd.ntmps11
    go_wp2_with fail
    go_ret2
    exact ⟨rfl, rfl⟩
  · have h2 : 16777216 < size := by omega
    go_enter Tryd.func11, Tryd.ntmps11
    go_wp2_with fail
    go_ret2
    exact ⟨rfl, rfl⟩
set_option maxHeartbeats 1000000 in
theorem new_nil (size : Int) (w : World) (h1 : 1 ≤ size) (h2 : size ≤ 16777216) :
    Calls Tryd.prog 11 #[.int .i64 size, .pointer none] w fun e w' => e = .returned (.tuple #[.pointer none, .int .i64 1]) ∧ w' = w := by
  have h1' : ¬ size < 1 := by omega
  have h2' : ¬ 16777216 < size := by omega
  go_enter Tryd.func11, Tryd.ntmps11
  go_wp2_with fail
  refine (charge_nil size _).mono ?_
  rintro e w1 ⟨rfl, rfl⟩
  go_wp2_with fail
  go_ret2
  exact ⟨rfl, rfl⟩
set_option maxHeartbeats 1000000 in
theorem new_over (s lb B now most : Nat) (w : World) (h1 : 1 ≤ s) (h2 : s ≤ 16777216) (hL : IsL w lb B now most) (ho : B < now + s) :
    Calls Tryd.prog 11 #[.int .i64 (s : Int), .pointer (some ⟨lb, 0, none⟩)] w fun e w' => e = .returned (.tuple #[.pointer none, .int .i64 40]) ∧ w' = w := by
  have h1' : ¬ (s : Int) < 1 := by omega
  have h2' : ¬ 16777216 < (s : Int) := by omega
  go_enter Tryd.func11, Tryd.ntmps11
  go_wp2_with fail
  refine (charge_over lb B now most s ho _ hL).mono ?_
  rintro e w1 ⟨rfl, rfl⟩
  go_wp2_with fail
  go_ret2
  exact ⟨rfl, rfl⟩
set_option maxHeartbeats 1000000 in
theorem wnew_ok (s lb B now most : Nat) (w : World) (h1 : 1 ≤ s) (h2 : s ≤ 16777216) (hL : IsL w lb B now most) (ho : now + s ≤ B) :
    Calls Tryd.prog 11 #[.int .i64 (s : Int), .pointer (some ⟨lb, 0, none⟩)] w fun e w' => ∃ wb, e = .returned (.tuple #[.pointer (some ⟨wb, 0, none⟩), .int .i64 0]) ∧ w.heap.size ≤ wb ∧ IsW w' wb lb s (.slice none 0 0) [] ∧ IsL w' lb B (now + s) (max (now + s) most) ∧ Keep (fun k => k = lb) w w' := by
  have h1' : ¬ (s : Int) < 1 := by omega
  have h2' : ¬ 16777216 < (s : Int) := by omega
  go_enter Tryd.func11, Tryd.ntmps11
  go_wp2_with fail
  refine (charge_ok lb B now most s ho _ hL).mono ?_
  rintro e w1 ⟨rfl, hL1, hK1⟩
  go_wp2_with fail
  go_ret2
  refine ⟨w1.heap.size, rfl, hK1.size, ⟨[], 0, ⟨alloc_new w1 _, ⟨rfl, .inl ⟨rfl, rfl⟩⟩, fun j => by simp, h1, h2, Nat.zero_le _, by omega, .inl rfl⟩, rfl⟩, hL1.keep ((Keep.refl noBlock w1).alloc _) (fun h => h), hK1.alloc _⟩

section
attribute [local go_sem] sliceSem_eq
end

end Go.Proofs.YtinhlkioeadfdaaDoor
