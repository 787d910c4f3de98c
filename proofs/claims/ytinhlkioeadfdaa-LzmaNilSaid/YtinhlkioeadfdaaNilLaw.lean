/-
  LzmaNil: no state, or no window.
-/
import Derived.Test.YtinhlkioeadfdaaWak
namespace Go.Proofs.Ytinhlkioeadfdaa
open Go.RowKit Go.Shelf
set_option linter.unusedVariables false

set_option maxRecDepth 20000 in
set_option maxHeartbeats 2000000 in
theorem lnil_law (a : Option Addr) (len cap : Nat) (p n : Int) (w : World) :
    Calls Try.prog 4 #[.slice a len cap, .int .u8 p, .int .i64 n] w fun e w' => e = .returned (.bool true) ∧ Keep noBlock w w' := by
  have HRs := hid (reset_nil w)
  have HRo := hid (room_any 5 (by omega) (by omega) w)
  rw [show (((5 : Nat) : Int)) = (5 : Int) from rfl] at HRo
  go_enter Try.func4, Try.ntmps4
  go_wp2_with fail
  refine HRs.out.mono ?_
  rintro e w1 ⟨rfl, rfl⟩
  go_wp2_with fail
  refine HRo.out.mono ?_
  rintro e w2 ⟨wb, lb, rfl, -, -, k2⟩
  have HK2 := hid k2
  clear k2 HRo HRs
  go_wp2_with fail
  refine (chunk_nil _ ⟨_, rfl⟩ 0 n _ ⟨_, _, _, rfl⟩ w2).mono ?_
  rintro e w3 ⟨rfl, rfl⟩
  go_wp2_with fail
  refine (new_state w3).mono ?_
  rintro e w4 ⟨rfl, -, k4⟩
  have HK4 := hid (HK2.out.trans k4 (fun _ _ h => h))
  clear k4 HK2
  go_wp2_with fail
  refine (chunk_nowin _ 0 n _ ⟨_, _, _, rfl⟩ w4).mono ?_
  rintro e w5 ⟨rfl, rfl⟩
  go_wp2_with fail
  refine (props_nil p w5).mono ?_
  rintro e w6 ⟨rfl, rfl⟩
  go_wp2_with fail
  refine (wakes_any w6).mono ?_
  rintro e w7 ⟨rfl, k7⟩
  have HK7 := hid (HK4.out.trans k7 (fun _ _ h => h))
  clear k7 HK4
  go_wp2_with fail
  go_ret
  exact ⟨rfl, HK7.out⟩

end Go.Proofs.Ytinhlkioeadfdaa
