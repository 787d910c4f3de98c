/-
  Errno.Error at the errors that Chunk answers.
-/
import Derived.Test.YtinhlkioeadfdaaDoorWak
namespace Go.Proofs.YtinhlkioeadfdaaDoor
open Go.RowKit Go.Shelf
set_option linter.unusedVariables false

theorem small0 (w : World) : Calls Tryd.prog 63 #[.int .i64 0] w fun e w' => e = .returned (.string ⟨#[48]⟩) ∧ w' = w := by
  go_enter Tryd.func63, Tryd.ntmps63
  go_wp2
  go_ret
  exact ⟨by kernel_rfl, rfl⟩
theorem small2 (w : World) : Calls Tryd.prog 63 #[.int .i64 2] w fun e w' => e = .returned (.string ⟨#[50]⟩) ∧ w' = w := by
  go_enter Tryd.func63, Tryd.ntmps63
  go_wp2
  go_ret
  exact ⟨by kernel_rfl, rfl⟩
set_option maxRecDepth 100000 in
theorem small11 (w : World) : Calls Tryd.prog 63 #[.int .i64 11] w fun e w' => e = .returned (.string ⟨#[49, 49]⟩) ∧ w' = w := by
  go_enter Tryd.func63, Tryd.ntmps63
  go_wp2
  go_ret
  exact ⟨by kernel_rfl, rfl⟩
/-- The texts of the three errors. -/
def errT (z : Int) : ByteArray := if z = 0 then ⟨#[48]⟩ else if z = 2 then ⟨#[50]⟩ else ⟨#[49, 49]⟩
theorem small_any (z : Int) (hz : z = 0 ∨ z = 2 ∨ z = 11) (w : World) : Calls Tryd.prog 63 #[.int .i64 z] w fun e w' => e = .returned (.string (errT z)) ∧ w' = w := by
  rcases hz with rfl | rfl | rfl
  · exact small0 w
  · exact small2 w
  · exact small11 w
theorem format_any (z : Int) (hz : z = 0 ∨ z = 2 ∨ z = 11) (w : World) : Calls Tryd.prog 42 #[.int .i64 z, .int .i64 10] w fun e w' => e = .returned (.string (errT z)) ∧ w' = w := by
  have HS := hid (small_any z hz w)
  have h1 : (0 : Int) ≤ z := by omega
  have h2 : z < 100 := by omega
  clear hz
  generalize errT z = t at *
  go_enter Tryd.func42, Tryd.ntmps42
  go_wp2_with fail
  refine HS.out.mono ?_
  rintro e w1 ⟨rfl, rfl⟩
  go_wp2_with fail
  go_ret
  exact ⟨rfl, rfl⟩
theorem itoa_any (z : Int) (hz : z = 0 ∨ z = 2 ∨ z = 11) (w : World) : Calls Tryd.prog 25 #[.int .i64 z] w fun e w' => e = .returned (.string (errT z)) ∧ w' = w := by
  have HS := hid (format_any z hz w)
  clear hz
  generalize errT z = t at *
  go_enter Tryd.func25, Tryd.ntmps25
  go_wp2_with fail
  refine HS.out.mono ?_
  rintro e w1 ⟨rfl, rfl⟩
  go_wp2_with fail
  go_ret
  exact ⟨rfl, rfl⟩
theorem itoa2_any (z : Int) (hz : z = 0 ∨ z = 2 ∨ z = 11) (w : World) : Calls Tryd.prog 15 #[.int .i64 z] w fun e w' => e = .returned (.string (errT z)) ∧ w' = w := by
  have HS := hid (itoa_any z hz w)
  clear hz
  generalize errT z = t at *
  go_enter Tryd.func15, Tryd.ntmps15
  go_wp2_with fail
  refine HS.out.mono ?_
  rintro e w1 ⟨rfl, rfl⟩
  go_wp2_with fail
  go_ret
  exact ⟨rfl, rfl⟩
/-- What Error answers. -/
def errS (z : Int) : ByteArray := ByteArray.append ⟨#[101, 114, 114, 111, 114, 32]⟩ (errT z)
theorem errS_size (z : Int) : (errS z).size ≤ 8 := by
  unfold errS errT
  split
  · exact of_decide_eq_true (by kernel_rfl)
  · split
    · exact of_decide_eq_true (by kernel_rfl)
    · exact of_decide_eq_true (by kernel_rfl)
theorem error_any (z : Int) (hz : z = 0 ∨ z = 2 ∨ z = 11) (w : World) : Calls Tryd.prog 8 #[.int .i64 z] w fun e w' => e = .returned (.string (errS z)) ∧ w' = w := by
  have HS := hid (itoa2_any z hz w)
  clear hz
  unfold errS
  have hs : (errT z).size ≤ 2 := by
    unfold errT
    split
    · exact of_decide_eq_true (by kernel_rfl)
    · split
      · exact of_decide_eq_true (by kernel_rfl)
      · exact of_decide_eq_true (by kernel_rfl)
  generalize errT z = t at *
  go_enter Tryd.func8, Tryd.ntmps8
  go_wp2_with fail
  refine HS.out.mono ?_
  rintro e w1 ⟨rfl, rfl⟩
  go_wp2_with fail
  go_ret
  exact ⟨rfl, rfl⟩
end Go.Proofs.YtinhlkioeadfdaaDoor
