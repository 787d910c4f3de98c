/-
  A section's next byte; a section of no steps.
-/
import Derived.Test.YtgaepmmpedaaiaaDoorVlu
import Derived.Lib.SmallJoins
import Derived.Laws.Rows
namespace Go.Proofs.YtgaepmmpedaaiaaDoor
open Go.RowKit Go.Shelf
set_option linter.unusedVariables false

/-- Block sb is a section that has this slice left. -/
def IsSec (w : World) (sb : Nat) (v : Value) : Prop := w.heap[sb]? = some (.cells #[v] 42 (0, 0))
theorem IsSec.keep {w w' : World} {S : Nat → Prop} {sb : Nat} {v : Value} (h : IsSec w sb v) (hk : Keep S w w') (h1 : ¬ S sb) : IsSec w' sb v := hk.obj h h1

theorem next_none (sb : Nat) (a : Option Addr) (cap : Nat) (w : World) (h : IsSec w sb (.slice a 0 cap)) :
    Calls Tryd.prog 15 #[.pointer (some ⟨sb, 0, none⟩)] w fun e w' => e = .returned (.tuple #[.int .i64 0, .bool false]) ∧ w' = w := by
  have c0 : w.cell? ⟨sb, 0, none⟩ = some (.slice a 0 cap) := by rw [cell_of h]; rfl
  go_enter Tryd.func15, Tryd.ntmps15
  go_wp2_with fail
  go_ret2
  exact ⟨rfl, rfl⟩

section
attribute [local go_sem] sliceSem_eq
set_option maxHeartbeats 1000000 in
theorem next_some (sb g o n cap x c' : Nat) (a' : Option Addr) (w : World) (h : IsSec w sb (.slice (some ⟨g, o, none⟩) (n + 1) cap)) (hc : w.cell? ⟨g, o, none⟩ = some (.int .u8 (x : Int))) (hx : x < 256)
    (hsl : ∀ W, (sliceSem 38 (.slice (some ⟨g, o, none⟩) (n + 1) cap) (some (.int .i64 1)) none none).run Tryd.prog W = .ok (.slice a' n c') W) :
    Calls Tryd.prog 15 #[.pointer (some ⟨sb, 0, none⟩)] w fun e w' => e = .returned (.tuple #[.int .i64 (x : Int), .bool true]) ∧ IsSec w' sb (.slice a' n c') ∧ Keep (fun k => k = sb) w w' := by
  obtain ⟨W1, hW1⟩ : ∃ W1, W1 = w.drew := ⟨_, rfl⟩
  have hk1 : Keep noBlock w W1 := by rw [hW1]; exact (Keep.refl _ w).drew
  have h1 : IsSec W1 sb (.slice (some ⟨g, o, none⟩) (n + 1) cap) := h.keep hk1 (fun h => h)
  have hc1 : W1.cell? ⟨g, o, none⟩ = some (.int .u8 (x : Int)) := by rw [hW1]; exact hc
  have c0 : w.cell? ⟨sb, 0, none⟩ = some (.slice (some ⟨g, o, none⟩) (n + 1) cap) := by rw [cell_of h]; rfl
  have c1 : W1.cell? ⟨sb, 0, none⟩ = some (.slice (some ⟨g, o, none⟩) (n + 1) cap) := by rw [cell_of h1]; rfl
  have z1 : W1.frozen? ⟨sb, 0, none⟩ = false := frozen_of h1 0
  have HF := (show Hid (IsSec (W1.setCell ⟨sb, 0, none⟩ (.slice a' n c')) sb (.slice a' n c') ∧ Keep (fun k => k = sb) w (W1.setCell ⟨sb, 0, none⟩ (.slice a' n c'))) from
    ⟨set_obj h1 0 _, (hk1.mono (T := fun k => k = sb) (fun _ _ h => h.elim)).setCell (p := ⟨sb, 0, none⟩) (fun _ => rfl) _⟩)
  have hn : (((n + 1 : Nat) : Int) == 0) = false := by simp; omega
  have hn1 : (0 : Int) < ((n + 1 : Nat) : Int) := by omega
  have hxI : (x : Int) < 256 := by omega
  obtain ⟨N, hN⟩ : ∃ N, N = n + 1 := ⟨_, rfl⟩
  rw [← hN] at hn hn1 c0 c1 hsl
  have hn2 : 0 < N := by omega
  have hxw : IntKind.i64.wrap (x : Int) = (x : Int) := by rw [IntKind.wrap_i64]; omega
  clear h h1 hk1 hc hN
  go_enter Tryd.func15, Tryd.ntmps15
  go_wp2_with fail
  refine region_tail 14 mx (by kernel_rfl) ?_
  rw [← hW1]
  clear hW1
  simp only [List.take_succ_cons, List.take_zero, List.drop_succ_cons, List.drop_zero]
  repeat (quiet_step (fail))
  refine wpQuiet_nil ?_
  go_wp2_with fail
  go_ret2
  exact ⟨rfl, HF.out⟩
end

/-- A first byte below 128 tells the number. -/
theorem number_one (sb g o n cap x c' : Nat) (a' : Option Addr) (w : World) (h : IsSec w sb (.slice (some ⟨g, o, none⟩) (n + 1) cap)) (hc : w.cell? ⟨g, o, none⟩ = some (.int .u8 (x : Int))) (hx : x < 128)
    (hsl : ∀ W, (sliceSem 38 (.slice (some ⟨g, o, none⟩) (n + 1) cap) (some (.int .i64 1)) none none).run Tryd.prog W = .ok (.slice a' n c') W) :
    Calls Tryd.prog 9 #[.pointer (some ⟨sb, 0, none⟩)] w fun e w' => e = .returned (.tuple #[.int .i64 (x : Int), .bool true]) ∧ IsSec w' sb (.slice a' n c') ∧ Keep (fun k => k = sb) w w' := by
  have HN := hid (next_some sb g o n cap x c' a' w h hc (by omega) hsl)
  have hx1 : decide ((x : Int) < 128) = true := decide_eq_true (by omega)
  clear h hc hsl
  go_enter Tryd.func9, Tryd.ntmps9
  go_wp2_with fail
  refine HN.out.mono ?_
  rintro e w' ⟨rfl, h1, h2⟩
  have HF := (show Hid (IsSec w' sb (.slice a' n c') ∧ Keep (fun k => k = sb) w w') from ⟨h1, h2⟩)
  clear h1 h2
  go_wp2_with fail
  go_ret2
  exact ⟨rfl, HF.out⟩

theorem clone_none (w : World) : Calls Tryd.prog 16 #[.slice none 0 0] w fun e w' => e = .returned (.slice none 0 0) ∧ w' = w := by
  have heq := fun (w : World) (a : Option Addr) (n c n' c' : Nat) => Lib.run_eql_slice_nil (P := Tryd.prog) w 33 65 a n c n' c' Tryd.underlying33
  go_enter Tryd.func16, Tryd.ntmps16
  go_wp2_with fail
  go_ret
  exact ⟨rfl, rfl⟩
theorem results_cell {fn : Func} {a : Tmp} {t : TypeId} (h : fn.results = #[.cell a t]) (tmps : Array Value) (P : Program) (w : World) (p : Addr) (v : Value) (ha : tmps[a]?.getD undef = .pointer (some p)) (hv : (loadVar t p).run P w = .ok v w) :
    (results fn tmps).run P w = .ok v w := by
  simp [results, h, ha, asAddr, hv]
theorem results_tct {fn : Func} {x a u : Tmp} {t : TypeId} (h : fn.results = #[.tmp x, .cell a t, .tmp u]) (tmps : Array Value) (P : Program) (w : World) (p : Addr) (v : Value) (ha : tmps[a]?.getD undef = .pointer (some p)) (hv : (loadVar t p).run P w = .ok v w) :
    (results fn tmps).run P w = .ok (.tuple #[tmps.getD x undef, v, tmps.getD u undef]) w := by
  simp [results, h, ha, asAddr, hv]
def noTables : Value := .agg #[.slice none 0 0, .slice none 0 0, .slice none 0 0]
set_option maxHeartbeats 1000000 in
theorem copyOf_none (w : World) : Calls Tryd.prog 10 #[noTables] w fun e w' => e = .returned noTables ∧ Keep noBlock w w' := by
  unfold noTables
  go_enter Tryd.func10, Tryd.ntmps10
  go_wp2_with fail
  refine region_tail 10 mx (by kernel_rfl) ?_
  simp only [List.take_succ_cons, List.take_zero, List.drop_succ_cons, List.drop_zero]
  quiet_step (fail)
  quiet_step (fail)
  refine wpQuiet_step (fun K hK => ?_)
  go_simp
  refine ⟨_, clone_none _, hK _ ?_⟩
  clear hK K
  quiet_step (fail)
  quiet_step (fail)
  refine wpQuiet_step (fun K hK => ?_)
  go_simp
  refine ⟨_, clone_none _, hK _ ?_⟩
  clear hK K
  quiet_step (fail)
  quiet_step (fail)
  refine wpQuiet_step (fun K hK => ?_)
  go_simp
  refine ⟨_, clone_none _, hK _ ?_⟩
  clear hK K
  quiet_step (fail)
  refine wpQuiet_nil ?_
  go_wp2_with fail
  refine bodyPost_ret (results_cell rfl _ _ _ ⟨w.heap.size + 1, 0, none⟩ (.agg #[.slice none 0 0, .slice none 0 0, .slice none 0 0]) rfl (run_loadVar_row _ _ 35 35 _ (0, 0) _ ?_ Tryd.underlying35 rfl (by kernel_rfl))) rfl ?_
  · show ((w.alloc _).alloc _).heap[w.heap.size + 1]? = _
    have := alloc_new (w.alloc (.cells #[.slice none 0 0, .slice none 0 0, .slice none 0 0] 35)) (.cells #[.slice none 0 0, .slice none 0 0, .slice none 0 0] 35)
    rwa [World.size_alloc] at this
  · exact ⟨rfl, (((Keep.refl _ w).alloc _).alloc _).drew⟩

def z3 : Array Value := #[.slice none 0 0, .slice none 0 0, .slice none 0 0]
/-- The worlds in which Read begins: its tables, the answer's tables, the section. -/
structure Begun (w W : World) (b0 b1 b2 : Nat) (v : Value) : Prop where
  o0 : W.heap[b0]? = some (.cells z3 35 (0, 0))
  o1 : W.heap[b1]? = some (.cells z3 35 (0, 0))
  o2 : IsSec W b2 v
  ne1 : b1 ≠ b0
  ne2 : b2 ≠ b0
  ne3 : b2 ≠ b1
  n0 : w.heap.size ≤ b0
  n1 : w.heap.size ≤ b1
  n2 : w.heap.size ≤ b2
  kp : Keep noBlock w W
theorem begun (w : World) (v : Value) : Begun w (((w.alloc (.cells z3 35)).alloc (.cells z3 35)).alloc (.cells #[v] 42)) w.heap.size (w.heap.size + 1) (w.heap.size + 1 + 1) v := by
  have e1 := alloc_new (w.alloc (.cells z3 35)) (.cells z3 35)
  have e2 := alloc_new ((w.alloc (.cells z3 35)).alloc (.cells z3 35)) (.cells #[v] 42)
  rw [World.size_alloc] at e1
  rw [World.size_alloc, World.size_alloc] at e2
  exact ⟨alloc_far (alloc_far (alloc_new w _) _) _, alloc_far e1 _, e2, by omega, by omega, by omega, by omega, by omega, by omega, (((Keep.refl _ w).alloc _).alloc _).alloc _⟩
theorem Begun.next {w W W' : World} {b0 b1 b2 : Nat} {v v' : Value} (h : Begun w W b0 b1 b2 v) (hs : IsSec W' b2 v') (hk : Keep (fun k => k = b2) W W') : Begun w W' b0 b1 b2 v' :=
  ⟨hk.obj h.o0 (fun e => h.ne2 e.symm), hk.obj h.o1 (fun e => h.ne3 e.symm), hs, h.ne1, h.ne2, h.ne3, h.n0, h.n1, h.n2, h.kp.trans hk (fun i hi e => by have := h.n2; omega)⟩

set_option maxHeartbeats 2000000 in
/-- A section 0 of no steps, with nothing behind it. -/
theorem read_nought (g cap : Nat) (w : World) (hc : w.cell? ⟨g, 0, none⟩ = some (.int .u8 0)) (hg : g < w.heap.size) (c' : Nat) (a' : Option Addr)
    (hsl : ∀ W, (sliceSem 38 (.slice (some ⟨g, 0, none⟩) 1 cap) (some (.int .i64 1)) none none).run Tryd.prog W = .ok (.slice a' 0 c') W) :
    Calls Tryd.prog 8 #[.slice (some ⟨g, 0, none⟩) 1 cap, noTables] w fun e w' => e = .returned (.tuple #[.slice none 0 0, noTables, .int .i64 0]) ∧ Keep noBlock w w' := by
  unfold noTables
  have hB := begun w (.slice (some ⟨g, 0, none⟩) 1 cap)
  unfold z3 at hB
  go_enter Tryd.func8, Tryd.ntmps8
  go_wp2_with fail
  generalize ((w.alloc (.cells #[.slice none 0 0, .slice none 0 0, .slice none 0 0] 35)).alloc (.cells #[.slice none 0 0, .slice none 0 0, .slice none 0 0] 35)).alloc (.cells #[.slice (some ⟨g, 0, none⟩) 1 cap] 42) = W at *
  generalize hb0 : w.heap.size = b0 at *
  generalize hb1 : b0 + 1 = b1 at *
  generalize hb2 : b1 + 1 = b2 at *
  have hcW : W.cell? ⟨g, 0, none⟩ = some (.int .u8 ((0 : Nat) : Int)) := (World.cell?_of_block (hB.kp.block g (by omega) (fun h => h))).trans hc
  refine (number_one b2 g 0 0 cap 0 c' a' W hB.o2 hcW (by omega) hsl).mono ?_
  rintro e W1 ⟨rfl, h1, h2⟩
  have hB1 := hB.next h1 h2
  have HB := hid hB1
  have c0 : W1.cell? ⟨b2, 0, none⟩ = some (.slice a' 0 c') := by rw [cell_of h1]; rfl
  have d0 : W1.cell? ⟨b0, 0, none⟩ = some (.slice none 0 0) := by rw [cell_of hB1.o0]; rfl
  have d1 : W1.cell? ⟨b0, 1, none⟩ = some (.slice none 0 0) := by rw [cell_of hB1.o0]; rfl
  have d2 : W1.cell? ⟨b0, 2, none⟩ = some (.slice none 0 0) := by rw [cell_of hB1.o0]; rfl
  rw [show (((0 : Nat) : Int)) = (0 : Int) from rfl]
  have HC := hid copyOf_none
  unfold noTables at HC
  clear hB hB1 h1 h2 hc hcW hsl hb0 hb1 hb2
  go_wp2_with fail
  refine (HC.out _).mono ?_
  rintro e W2 ⟨rfl, k2⟩
  have q1 := k2.obj HB.out.o1 (fun h => h)
  have f0 : W2.frozen? ⟨b1, 0, none⟩ = false := frozen_of q1 0
  have f1 : W2.frozen? ⟨b1, 1, none⟩ = false := frozen_of q1 1
  have f2 : W2.frozen? ⟨b1, 2, none⟩ = false := frozen_of q1 2
  have e0 : W2.cell? ⟨b1, 0, none⟩ = some (.slice none 0 0) := by rw [cell_of q1]; rfl
  have e1 : W2.cell? ⟨b1, 1, none⟩ = some (.slice none 0 0) := by rw [cell_of q1]; rfl
  have e2 : W2.cell? ⟨b1, 2, none⟩ = some (.slice none 0 0) := by rw [cell_of q1]; rfl
  have HQ := hid (And.intro q1 (HB.out.kp.trans k2 (fun _ _ h => h)))
  clear q1 k2 HC
  go_wp2_with fail
  have o3 := set_obj (set_obj (set_obj HQ.out.1 0 (.slice none 0 0)) 1 (.slice none 0 0)) 2 (.slice none 0 0)
  refine bodyPost_ret (results_tct rfl _ _ _ ⟨b1, 0, none⟩ (.agg #[.slice none 0 0, .slice none 0 0, .slice none 0 0]) rfl (run_loadVar_row _ _ 35 35 _ (0, 0) _ o3 Tryd.underlying35 rfl (by kernel_rfl))) rfl ?_
  refine ⟨rfl, ((HQ.out.2.setCell (p := ⟨b1, 0, none⟩) (fun hl => ?_) _).setCell (p := ⟨b1, 1, none⟩) (fun hl => ?_) _).setCell (p := ⟨b1, 2, none⟩) (fun hl => ?_) _⟩ <;> exact absurd hl (by have := HB.out.n1; show ¬ b1 < _; omega)

set_option maxHeartbeats 2000000 in
/-- A section 0 of no steps, with a byte behind it. -/
theorem read_more (g cap : Nat) (w : World) (hc : w.cell? ⟨g, 0, none⟩ = some (.int .u8 0)) (hg : g < w.heap.size) (c' : Nat) (a' : Option Addr)
    (hsl : ∀ W, (sliceSem 38 (.slice (some ⟨g, 0, none⟩) 2 cap) (some (.int .i64 1)) none none).run Tryd.prog W = .ok (.slice a' 1 c') W) :
    Calls Tryd.prog 8 #[.slice (some ⟨g, 0, none⟩) 2 cap, noTables] w fun e w' => e = .returned (.tuple #[.slice none 0 0, noTables, .int .i64 11]) ∧ Keep noBlock w w' := by
  unfold noTables
  have hB := begun w (.slice (some ⟨g, 0, none⟩) 2 cap)
  unfold z3 at hB
  go_enter Tryd.func8, Tryd.ntmps8
  go_wp2_with fail
  generalize ((w.alloc (.cells #[.slice none 0 0, .slice none 0 0, .slice none 0 0] 35)).alloc (.cells #[.slice none 0 0, .slice none 0 0, .slice none 0 0] 35)).alloc (.cells #[.slice (some ⟨g, 0, none⟩) 2 cap] 42) = W at *
  generalize hb0 : w.heap.size = b0 at *
  generalize hb1 : b0 + 1 = b1 at *
  generalize hb2 : b1 + 1 = b2 at *
  have hcW : W.cell? ⟨g, 0, none⟩ = some (.int .u8 ((0 : Nat) : Int)) := (World.cell?_of_block (hB.kp.block g (by omega) (fun h => h))).trans hc
  refine (number_one b2 g 0 1 cap 0 c' a' W hB.o2 hcW (by omega) hsl).mono ?_
  rintro e W1 ⟨rfl, h1, h2⟩
  have hB1 := hB.next h1 h2
  have HB := hid hB1
  have c0 : W1.cell? ⟨b2, 0, none⟩ = some (.slice a' 1 c') := by rw [cell_of h1]; rfl
  have d0 : W1.cell? ⟨b0, 0, none⟩ = some (.slice none 0 0) := by rw [cell_of hB1.o0]; rfl
  have d1 : W1.cell? ⟨b0, 1, none⟩ = some (.slice none 0 0) := by rw [cell_of hB1.o0]; rfl
  have d2 : W1.cell? ⟨b0, 2, none⟩ = some (.slice none 0 0) := by rw [cell_of hB1.o0]; rfl
  rw [show (((0 : Nat) : Int)) = (0 : Int) from rfl]
  clear hB hB1 h1 h2 hc hcW hsl hb0 hb1 hb2
  have q1 := HB.out.o1
  have f0 : W1.frozen? ⟨b1, 0, none⟩ = false := frozen_of q1 0
  have f1 : W1.frozen? ⟨b1, 1, none⟩ = false := frozen_of q1 1
  have f2 : W1.frozen? ⟨b1, 2, none⟩ = false := frozen_of q1 2
  have e0 : W1.cell? ⟨b1, 0, none⟩ = some (.slice none 0 0) := by rw [cell_of q1]; rfl
  have e1 : W1.cell? ⟨b1, 1, none⟩ = some (.slice none 0 0) := by rw [cell_of q1]; rfl
  have e2 : W1.cell? ⟨b1, 2, none⟩ = some (.slice none 0 0) := by rw [cell_of q1]; rfl
  have HQ := hid (And.intro q1 HB.out.kp)
  clear q1
  go_wp2_with fail
  have o3 := set_obj (set_obj (set_obj HQ.out.1 0 (.slice none 0 0)) 1 (.slice none 0 0)) 2 (.slice none 0 0)
  refine bodyPost_ret (results_tct rfl _ _ _ ⟨b1, 0, none⟩ (.agg #[.slice none 0 0, .slice none 0 0, .slice none 0 0]) rfl (run_loadVar_row _ _ 35 35 _ (0, 0) _ o3 Tryd.underlying35 rfl (by kernel_rfl))) rfl ?_
  refine ⟨rfl, ((HQ.out.2.setCell (p := ⟨b1, 0, none⟩) (fun hl => ?_) _).setCell (p := ⟨b1, 1, none⟩) (fun hl => ?_) _).setCell (p := ⟨b1, 2, none⟩) (fun hl => ?_) _⟩ <;> exact absurd hl (by have := HB.out.n1; show ¬ b1 < _; omega)

end Go.Proofs.YtgaepmmpedaaiaaDoor
