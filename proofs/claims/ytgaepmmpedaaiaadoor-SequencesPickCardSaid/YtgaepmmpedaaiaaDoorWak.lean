/-
  The statements' own example.
-/
import Derived.Test.YtgaepmmpedaaiaaDoorNxs
import Derived.Test.YtgaepmmpedaaiaaDoorPck
import Derived.Laws.StructEq
import Derived.ChangeKeysEq
namespace Go.Proofs.YtgaepmmpedaaiaaDoor
open Go.RowKit Go.Shelf
set_option linter.unusedVariables false

theorem slice_one (g : Nat) (W : World) : (sliceSem 38 (.slice (some ⟨g, 0, none⟩) 1 1) (some (.int .i64 1)) none none).run Tryd.prog W = .ok (.slice (some ⟨g, 0, none⟩) 0 0) W := by kernel_rfl
theorem slice_two (g : Nat) (W : World) : (sliceSem 38 (.slice (some ⟨g, 0, none⟩) 2 2) (some (.int .i64 1)) none none).run Tryd.prog W = .ok (.slice (some ⟨g, 1, none⟩) 1 1) W := by kernel_rfl

theorem eql_rep (a b c : Int) (W : World) : (Op.equalIn 10000 22 (.agg #[.int .i64 a, .int .i64 b, .int .i64 c]) (.agg #[.int .i64 a, .int .i64 b, .int .i64 c])).run Tryd.prog W = .ok true W := by
  obtain ⟨i, hi⟩ : ∃ i, Tryd.prog.info? 3 = some i := by
    have h := size3
    cases hq : Tryd.prog.info? 3 with
    | none => simp [hq] at h
    | some i => exact ⟨i, rfl⟩
  have hc : Tryd.prog.cellsOf 3 = 1 := by kernel_rfl
  rw [show (10000 : Nat) = 9999 + 1 from rfl, run_equalIn_array W 9999 _ _ Tryd.underlying22 hi, hc]
  have hp : ∀ (xs : Array Value) (k : Nat) (v : Value), xs[k]? = some v → (part 3 xs k).run Tryd.prog W = .ok v W := fun xs k v hv => by
    simp [part, isAgg, run_underlying Tryd.underlying3, hv]
  have he : ∀ x : Int, (Op.equalIn 9999 3 (.int .i64 x) (.int .i64 x)).run Tryd.prog W = .ok true W := fun x => by
    rw [show (9999 : Nat) = 9998 + 1 from rfl, run_equalIn_int W 9998 3 .i64 .i64 x x Tryd.underlying3]
    simp
  have e0 := fun (v : Value) => hp #[.int .i64 a, .int .i64 b, .int .i64 c] 0 v
  have e1 := fun (v : Value) => hp #[.int .i64 a, .int .i64 b, .int .i64 c] 1 v
  have e2 := fun (v : Value) => hp #[.int .i64 a, .int .i64 b, .int .i64 c] 2 v
  simp [Op.eqItems, List.range, List.range.loop, e0 _ rfl, e1 _ rfl, e2 _ rfl, he]
set_option maxRecDepth 10000 in
set_option maxHeartbeats 4000000 in
theorem wakes_any (w : World) : Calls Tryd.prog 5 #[] w fun e w' => e = .returned (.bool true) ∧ Keep noBlock w w' := by
  have HR1 := (show Hid (∀ W : World, Calls Tryd.prog 8 #[.slice (some ⟨W.heap.size, 0, none⟩) 1 1, .agg #[.slice none 0 0, .slice none 0 0, .slice none 0 0]] (W.alloc (.cells #[.int .u8 0] 5)) fun e w' => e = .returned (.tuple #[.slice none 0 0, .agg #[.slice none 0 0, .slice none 0 0, .slice none 0 0], .int .i64 0]) ∧ Keep noBlock W w') from fun W => by
    refine (read_nought W.heap.size 1 (W.alloc (.cells #[.int .u8 0] 5)) (by rw [cell_of (alloc_new W _)]; rfl) (by simp) 0 _ (slice_one _)).mono ?_
    rintro e w' ⟨rfl, k⟩
    exact ⟨rfl, ((Keep.refl _ W).alloc _).trans k (fun _ _ h => h)⟩)
  have HR2 := (show Hid (∀ (W : World) (n : Nat), n = W.heap.size → Calls Tryd.prog 8 #[.slice (some ⟨n, 0, none⟩) 2 2, .agg #[.slice none 0 0, .slice none 0 0, .slice none 0 0]] (W.alloc (.cells #[.int .u8 0, .int .u8 0] 5)) fun e w' => e = .returned (.tuple #[.slice none 0 0, .agg #[.slice none 0 0, .slice none 0 0, .slice none 0 0], .int .i64 11]) ∧ Keep noBlock W w') from fun W n hn => by
    subst hn
    refine (read_more W.heap.size 2 (W.alloc (.cells #[.int .u8 0, .int .u8 0] 5)) (by rw [cell_of (alloc_new W _)]; rfl) (by simp) 1 _ (slice_two _)).mono ?_
    rintro e w' ⟨rfl, k⟩
    exact ⟨rfl, ((Keep.refl _ W).alloc _).trans k (fun _ _ h => h)⟩)
  have heq := eql_rep 4 1 8
  go_enter Tryd.func5, Tryd.ntmps5
  go_wp2_with fail
  refine (HR1.out _).mono ?_
  rintro e w1 ⟨rfl, k1⟩
  have HK1 := (show Hid (Keep noBlock w (w1.alloc (.cells #[.slice none 0 0, .slice none 0 0, .slice none 0 0] 35))) from k1.alloc _)
  clear k1 HR1
  go_wp2_with fail
  refine (HR2.out _ (w1.heap.size + 1) (by simp)).mono ?_
  rintro e w2 ⟨rfl, k2⟩
  have k3 : Keep noBlock w (w2.alloc (.cells #[.slice none 0 0, .slice none 0 0, .slice none 0 0] 35)) := (HK1.out.trans k2 (fun _ _ h => h)).alloc _
  clear k2 HR2 HK1
  go_wp2_with fail
  generalize hW3 : w2.alloc (.cells #[.slice none 0 0, .slice none 0 0, .slice none 0 0] 35) = W3 at *
  have hsz : w2.heap.size + 1 = W3.heap.size := by rw [← hW3]; simp
  clear hW3
  rw [hsz]
  have hrep : IsRep (W3.alloc (.cells #[.int .i64 1, .int .i64 4, .int .i64 8] 22)) W3.heap.size 1 4 8 := alloc_new W3 _
  have k4 : Keep noBlock w (W3.alloc (.cells #[.int .i64 1, .int .i64 4, .int .i64 8] 22)) := k3.alloc _
  have HV := hid (value_ok W3.heap.size 1 4 8 5 2 (by omega) (by omega) (by omega) (by decide) _ hrep)
  have HB := (show Hid (w.heap.size ≤ W3.heap.size) from k3.size)
  have HK4 := hid k4
  generalize W3.alloc (.cells #[.int .i64 1, .int .i64 4, .int .i64 8] 22) = W4 at *
  generalize W3.heap.size = b at *
  clear hrep k4 k3 hsz
  rw [show meantD 1 4 8 ((5 : Int) == 0) 2 = 4 from rfl, show meantM 1 ((5 : Int) == 0) 2 = 1 from rfl, show (movedR 1 4 8 1).2.1 = 1 from rfl, show (movedR 1 4 8 1).2.2 = 8 from rfl, show (((2 : Nat) : Int)) = (2 : Int) from rfl] at HV
  refine HV.out.mono ?_
  rintro e w5 ⟨rfl, hr5, k5⟩
  have c0 : w5.cell? ⟨b, 0, none⟩ = some (.int .i64 4) := by rw [cell_of hr5]; rfl
  have c1 : w5.cell? ⟨b, 1, none⟩ = some (.int .i64 1) := by rw [cell_of hr5]; rfl
  have c2 : w5.cell? ⟨b, 2, none⟩ = some (.int .i64 8) := by rw [cell_of hr5]; rfl
  have HP := hid (pick_any b 4 1 8 5 100 (by omega) (by omega) (by omega) w5 hr5)
  rw [show pickN 4 1 8 ((5 : Int) == 0) 100 = 103 from rfl] at HP
  have HK5 := (show Hid (Keep noBlock w w5) from HK4.out.trans k5 (fun i hi e => by have := HB.out; omega))
  clear hr5 k5 HV HK4 HB
  go_wp2_with (go_at_call 4; refine HP.out.mono ?_; rintro e w6 ⟨rfl, rfl⟩)
  go_ret
  exact ⟨rfl, HK5.out⟩
end Go.Proofs.YtgaepmmpedaaiaaDoor
