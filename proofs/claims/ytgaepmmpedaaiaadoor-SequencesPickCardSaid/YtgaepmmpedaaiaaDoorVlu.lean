/-
  Value tells a distance and brings it to the front; Pick finds the least back that means it.
-/
import Derived.Test.YtgaepmmpedaaiaaDoorQtl
import Derived.Test.YtgaepmmpedaaiaaDoorSlc
import Derived.Laws.CopyRow
import Derived.Laws.IdiomCopy
import Derived.Laws.Tables
namespace Go.Proofs.YtgaepmmpedaaiaaDoor
open Go.RowKit Go.Shelf
set_option linter.unusedVariables false

theorem size3 : (Tryd.prog.info? 3).map (·.size) = some 1 := by kernel_rfl
theorem keep_setRow {S : Nat → Prop} {a w : World} (h : Keep S a w) (g : Nat) (hg : g < a.heap.size → S g) (cs : Array Value) : Keep S a (w.setRow g cs) :=
  h.trans (T := fun k => k = g) ⟨rfl, rfl, rfl, by simp [World.setRow], fun k _ hk => by
    show (w.heap.modify g _)[k]? = _
    rw [Array.getElem?_modify, if_neg (fun e => hk e.symm)]⟩ (fun i hi e => by subst e; exact hg hi)

/-- The three behind a copy of the first m one place on. -/
def movedR (r0 r1 r2 : Int) (m : Nat) : Int × Int × Int := if m = 0 then (r0, r1, r2) else if m = 1 then (r0, r0, r2) else (r0, r0, r1)
theorem copy_rep (b m : Nat) (r0 r1 r2 : Int) (hm : m ≤ 2) (w : World) (h : IsRep w b r0 r1 r2) :
    ∃ w', (Builtin.copy_ #[39, 39] 3 #[.slice (some ⟨b, 1, none⟩) m 2, .slice (some ⟨b, 0, none⟩) m 3]).run Tryd.prog w = .ok (.int .i64 (m : Int)) w' ∧ IsRep w' b (movedR r0 r1 r2 m).1 (movedR r0 r1 r2 m).2.1 (movedR r0 r1 r2 m).2.2 ∧ Keep (fun k => k = b) w w' := by
  have hl : (([.int .i64 r0, .int .i64 r1, .int .i64 r2] : List Value).take m).length = m := by rw [List.length_take]; simp; omega
  have hc := run_copy_row Tryd.prog w 39 39 3 3 b 1 m 2 ⟨b, 0, none⟩ m 3 _ 22 (([.int .i64 r0, .int .i64 r1, .int .i64 r2] : List Value).take m) Tryd.underlying39 size3 h (by rw [hl]; show m = min m m; omega)
    (fun j v hv => by
      rw [List.getElem?_take] at hv
      split at hv
      · rw [addO, cell_of h, Nat.zero_add]
        simpa using hv
      · cases hv) (by rw [hl]; show 1 + m ≤ 3; omega) (fun v hv => by
        have := List.mem_of_mem_take hv
        simp at this
        rcases this with rfl | rfl | rfl <;> rfl)
  rw [show goInt (([.int .i64 r0, .int .i64 r1, .int .i64 r2] : List Value).take m).length = .int .i64 (m : Int) from by rw [hl]; rfl, hl] at hc
  refine ⟨_, hc, ?_, keep_setRow (Keep.refl (fun k => k = b) w) b (fun _ => rfl) _⟩
  refine (setRow_heap w b _ _ 22 (0, 0) h).trans ?_
  rcases (show m = 0 ∨ m = 1 ∨ m = 2 by omega) with rfl | rfl | rfl <;> rfl

theorem meantM_le (r0 : Int) (z : Bool) (back : Nat) : meantM r0 z back ≤ 2 := by
  unfold meantM
  split
  · omega
  · split
    · omega
    · split <;> omega

def sliceAtSem (t : TypeId) (x : Value) (lo hi mx : Option Value) : Sem Value := Instr.sliceAt t x lo hi mx
theorem sliceAtSem_eq (t : TypeId) (x : Value) (lo hi mx : Option Value) : Instr.sliceAt t x lo hi mx = sliceAtSem t x lo hi mx := rfl
theorem slice_hi (b m : Nat) (hm : m ≤ 2) (W : World) : (sliceAtSem 22 (.pointer (some ⟨b, 0, none⟩)) (some (.int .i64 1)) (some (.int .i64 ((m : Int) + 1))) none).run Tryd.prog W = .ok (.slice (some ⟨b, 1, none⟩) m 2) W := by
  rcases (show m = 0 ∨ m = 1 ∨ m = 2 by omega) with rfl | rfl | rfl <;> kernel_rfl
theorem slice_lo (b m : Nat) (hm : m ≤ 2) (W : World) : (sliceAtSem 22 (.pointer (some ⟨b, 0, none⟩)) none (some (.int .i64 (m : Int))) none).run Tryd.prog W = .ok (.slice (some ⟨b, 0, none⟩) m 3) W := by
  rcases (show m = 0 ∨ m = 1 ∨ m = 2 by omega) with rfl | rfl | rfl <;> kernel_rfl

section
attribute [local go_sem] sliceAtSem_eq
set_option maxHeartbeats 1000000 in
/-- A back that means a distance. -/
theorem value_ok (b : Nat) (r0 r1 r2 lits : Int) (back : Nat) (h1 : 1 ≤ back) (h2 : back ≤ 9223372036854775807) (hr : r0 ≤ 9223372036854775807) (hd : 1 ≤ meantD r0 r1 r2 (lits == 0) back) (w : World) (h : IsRep w b r0 r1 r2) :
    Calls Tryd.prog 6 #[.pointer (some ⟨b, 0, none⟩), .int .i64 lits, .int .i64 (back : Int)] w fun e w' => e = .returned (.tuple #[.int .i64 (meantD r0 r1 r2 (lits == 0) back), .int .i64 0]) ∧
      IsRep w' b (meantD r0 r1 r2 (lits == 0) back) (movedR r0 r1 r2 (meantM r0 (lits == 0) back)).2.1 (movedR r0 r1 r2 (meantM r0 (lits == 0) back)).2.2 ∧ Keep (fun k => k = b) w w' := by
  have HM := hid (meant_any b r0 r1 r2 lits back h1 h2 hr w h)
  have hm := meantM_le r0 (lits == 0) back
  obtain ⟨W1, hW1⟩ : ∃ W1, W1 = w.drew := ⟨_, rfl⟩
  have hk1 : Keep noBlock w W1 := by rw [hW1]; exact (Keep.refl _ w).drew
  have q1 : IsRep W1 b r0 r1 r2 := h.keep hk1 (fun h => h)
  generalize meantM r0 (lits == 0) back = m at *
  generalize meantD r0 r1 r2 (lits == 0) back = d at *
  obtain ⟨W2, hc, q2, hk2⟩ := copy_rep b m r0 r1 r2 hm W1 q1
  have f2 : W2.cell? ⟨b, 0, none⟩ = some (.int .i64 (movedR r0 r1 r2 m).1) := by rw [cell_of q2]; rfl
  have z2 : W2.frozen? ⟨b, 0, none⟩ = false := frozen_of q2 0
  have HF := (show Hid (IsRep (W2.setCell ⟨b, 0, none⟩ (.int .i64 d)) b d (movedR r0 r1 r2 m).2.1 (movedR r0 r1 r2 m).2.2 ∧ Keep (fun k => k = b) w (W2.setCell ⟨b, 0, none⟩ (.int .i64 d))) from
    ⟨set_obj q2 0 _, ((hk1.mono (T := fun k => k = b) (fun _ _ h => h.elim)).trans hk2 (fun _ _ h => h)).setCell (p := ⟨b, 0, none⟩) (fun _ => rfl) _⟩)
  have hd1 : decide (d < 1) = false := decide_eq_false (by omega)
  have hb1 : decide ((back : Int) < 1) = false := decide_eq_false (by omega)
  have hm1 : IntKind.i64.wrap ((m : Int) + 1) = (m : Int) + 1 := by
    rcases (show m = 0 ∨ m = 1 ∨ m = 2 by omega) with rfl | rfl | rfl <;> rfl
  have hs1 := slice_hi b m hm
  have hs2 := slice_lo b m hm
  have hmw : wrap64 ((m : Int) + 1) = (m : Int) + 1 := by unfold wrap64; omega
  clear q1 q2 hk2 hk1 h hd hm
  go_enter Tryd.func6, Tryd.ntmps6
  go_wp2_with fail
  refine HM.out.mono ?_
  rintro e w' ⟨rfl, rfl⟩
  go_wp2_with fail
  refine region_tail 9 mx (by kernel_rfl) ?_
  rw [← hW1]
  clear hW1
  simp only [List.take_succ_cons, List.take_zero, List.drop_succ_cons, List.drop_zero]
  repeat (quiet_step (fail))
  refine wpQuiet_nil ?_
  go_wp2_with fail
  go_ret2
  exact ⟨rfl, HF.out⟩
end
end Go.Proofs.YtgaepmmpedaaiaaDoor
