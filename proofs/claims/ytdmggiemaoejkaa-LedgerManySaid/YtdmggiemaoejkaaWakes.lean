/-
  What the statements' own example comes to: true.
-/
import Derived.Test.YtdmggiemaoejkaaActs
namespace Go.Proofs.Ytdmggiemaoejkaa
open Go.RowKit Go.Shelf
set_option linter.unusedVariables false

set_option maxHeartbeats 1000000 in
theorem wakes_any (w : World) : Calls Try.prog 7 #[] w fun e w' => e = .returned (.bool true) ∧ Keep noBlock w w' := by
  go_enter Try.func7, Try.ntmps7
  go_wp2_with fail
  refine (new_any 10 w).mono ?_
  rintro e w1 ⟨rfl, h1, k1⟩
  rw [show budget 10 = 10 from by decide] at h1
  go_wp2_with fail
  refine (charge_i w.heap.size 10 0 0 7 0 7 7 (by decide) _ h1).mono ?_
  rintro e w2 ⟨rfl, h2, k2⟩
  clear h1
  go_wp2_with fail
  refine (charge_i w.heap.size 10 7 7 4 40 7 7 (by decide) _ h2).mono ?_
  rintro e w3 ⟨rfl, h3, k3⟩
  clear h2
  go_wp2_with fail
  refine (charge_i w.heap.size 10 7 7 3 0 10 10 (by decide) _ h3).mono ?_
  rintro e w4 ⟨rfl, h4, k4⟩
  clear h3
  go_wp2_with fail
  refine (release_i w.heap.size 10 10 10 11 2 10 10 (by decide) _ h4).mono ?_
  rintro e w5 ⟨rfl, h5, k5⟩
  clear h4
  go_wp2_with fail
  refine (release_i w.heap.size 10 10 10 4 0 6 10 (by decide) _ h5).mono ?_
  rintro e w6 ⟨rfl, h6, k6⟩
  clear h5
  go_wp2_with fail
  refine (held_any w.heap.size 10 6 10 _ h6).mono ?_
  rintro e w7 ⟨rfl, rfl⟩
  go_wp2_with fail
  go_ret
  exact ⟨rfl, k1.trans ((((k2.trans' k3).trans' k4).trans' k5).trans' k6) (fun i hi e => by omega)⟩

end Go.Proofs.Ytdmggiemaoejkaa
