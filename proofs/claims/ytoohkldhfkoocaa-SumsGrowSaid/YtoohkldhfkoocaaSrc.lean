/-
  A slice that came in, as append reads it.
-/
import Derived.Test.YtoohkldhfkoocaaIn
import Derived.Test.YtoohkldhfkoocaaApp
namespace Go.Proofs.Ytoohkldhfkoocaa
open Go.ChangeShapes Go.WideShapes Go.ChangeAt Go.RowKit
set_option linter.unusedVariables false

theorem src_of_row {w : World} {a0 : Option Addr} {len0 cap0 : Nat} {z0 : List Int} (w0 : IsRow .u8 w a0 len0 cap0 z0) (hl : (bytesOf len0 z0).length = len0) : SrcB w (.slice a0 (bytesOf len0 z0).length cap0) (bytesOf len0 z0) := by
  have hat := bytesOf_at w0
  rcases w0 with ⟨rfl, rfl, rfl, rfl⟩ | ⟨x, rfl, hl0, hm, hz, hcz, hw⟩
  · exact .inl ⟨rfl, rfl⟩
  · refine .inr ⟨x, cap0, rfl, fun j u hu => ?_⟩
    have hj : j < (u8s (bytesOf len0 z0)).length := (List.getElem?_eq_some_iff.1 hu).1
    rw [u8s_length, hl] at hj
    rw [u8s_at _ j (by omega)] at hu
    rw [hcz j (by omega), ← hu, hat j hj]
    simp [List.getD]

end Go.Proofs.Ytoohkldhfkoocaa
