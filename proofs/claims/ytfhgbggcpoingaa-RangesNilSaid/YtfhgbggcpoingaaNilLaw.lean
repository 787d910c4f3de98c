/-
  RangesNil answers true.
-/
import Derived.Test.YtfhgbggcpoingaaWak
namespace Go.Proofs.Ytfhgbggcpoingaa
open Go.RowKit Go.Shelf
set_option linter.unusedVariables false

set_option maxRecDepth 100000 in
set_option maxHeartbeats 4000000 in
theorem nil_any (x n : Int) (w : World) : Calls Try.prog 7 #[.int .u32 x, .int .i64 n] w fun e w' => e = .returned (.bool true) ∧ Keep noBlock w w' := by
  obtain ⟨y1, y2⟩ := ex_many
  have hcp : (w.alloc (.cells #[.int .u16 77] 40)).heap[w.heap.size]? = some (.cells #[.int .u16 77] 40 (0, 0)) := alloc_new w _
  have hk0 := (Keep.refl noBlock w).alloc (.cells #[.int .u16 77] 40)
  have HP := (show Hid ((w.alloc (.cells #[.int .u16 77] 40)).heap[w.heap.size]? = some (.cells #[.int .u16 77] 40 (0, 0)) ∧ Keep noBlock w (w.alloc (.cells #[.int .u16 77] 40)) ∧ w.heap.size < (w.alloc (.cells #[.int .u16 77] 40)).heap.size) from ⟨hcp, hk0, by rw [World.size_alloc]; omega⟩)
  clear hcp hk0
  go_enter Try.func7, Try.ntmps7
  go_wp2_with (first | (go_at_call 22; refine (bitE_nil _ _ _).mono ?_; rintro e w' ⟨rfl, hw⟩; obtain rfl := hw.symm) | (go_at_call 20; refine (directE_nil _ _ _).mono ?_; rintro e w' ⟨rfl, hw⟩; obtain rfl := hw.symm) | (go_at_call 16; refine (end_nil _).mono ?_; rintro e w' ⟨rfl, hw⟩; obtain rfl := hw.symm))
  generalize w.alloc (.cells #[.int .u16 77] 40) = w1 at *
  refine (newE_any w1).mono ?_
  rintro e w2 ⟨rfl, hE2, hK2⟩
  obtain ⟨p1, p2, p3⟩ := HP.out
  have hp2 := hK2.obj p1 (fun h => h)
  have hC := close_any w1.heap.size newE _ w2 hE2 (by omega)
  rw [ex_none] at hC
  have HK2 := hid (p2.trans' hK2)
  have cp : w2.cell? ⟨w.heap.size, 0, none⟩ = some (.int .u16 77) := cell_of hp2 0
  clear hE2 hK2 HP p1
  go_wp2_with (first | (go_at_call 22; refine (bitE_none _ _ _).mono ?_; rintro e w' ⟨rfl, hw⟩; obtain rfl := hw.symm) | (go_at_call 14; refine (bitD_nil _ ⟨_, rfl⟩ _).mono ?_; rintro e w' ⟨rfl, hw⟩; obtain rfl := hw.symm) | (go_at_call 12; refine (direct_nil _ _).mono ?_; rintro e w' ⟨rfl, hw⟩; obtain rfl := hw.symm))
  refine (close_nil _).mono ?_
  rintro e w' ⟨rfl, hw⟩
  obtain rfl := hw.symm
  go_wp2_with fail
  refine hC.mono ?_
  clear hC
  rintro e w3 ⟨u, v3, rfl, hown, hE3, hN3, hK3⟩
  have HK3 := hid (keep_new HK2.out (Nat.le_of_lt p3) (fun g hg => by cases hg) hK3)
  obtain ⟨sa, sc, rfl⟩ := owns_form hown
  clear hown hE3 hN3 hK3
  go_wp2_with (go_at_call 8; refine (wakes_any _).mono ?_; rintro e w7 ⟨rfl, hK7⟩)
  go_ret
  exact ⟨rfl, HK3.out.trans' hK7⟩

end Go.Proofs.Ytfhgbggcpoingaa
