/-
  A window that is made, emptied, dropped.
-/
import Derived.Test.YtpjbegafhgnebaaWin
namespace Go.Proofs.Ytpjbegafhgnebaa
open Go.RowKit Go.Shelf
set_option linter.unusedVariables false

set_option maxHeartbeats 1000000 in
theorem new_arg (size : Int) (v : Value) (w : World) (h : ¬ (1 ≤ size ∧ size ≤ 16777216)) :
    Calls Try.prog 11 #[.int .i64 size, v] w fun e w' => e = .returned (.tuple #[.pointer none, .int .i64 2]) ∧ w' = w := by
  by_cases h1 : size < 1
  · go_enter Try.func11, Try.ntmps11
    go_wp2_with fail
    go_ret2
    exact ⟨rfl, rfl⟩
  · have h2 : 16777216 < size := by omega
    go_enter Try.func11, Try.ntmps11
    go_wp2_with fail
    go_ret2
    exact ⟨rfl, rfl⟩
set_option maxHeartbeats 1000000 in
theorem new_nil (size : Int) (w : World) (h1 : 1 ≤ size) (h2 : size ≤ 16777216) :
    Calls Try.prog 11 #[.int .i64 size, .pointer none] w fun e w' => e = .returned (.tuple #[.pointer none, .int .i64 1]) ∧ w' = w := by
  have h1' : ¬ size < 1 := by omega
  have h2' : ¬ 16777216 < size := by omega
  go_enter Try.func11, Try.ntmps11
  go_wp2_with fail
  refine (charge_nil size _).mono ?_
  rintro e w1 ⟨rfl, rfl⟩
  go_wp2_with fail
  go_ret2
  exact ⟨rfl, rfl⟩
set_option maxHeartbeats 1000000 in
theorem new_over (s lb B now most : Nat) (w : World) (h1 : 1 ≤ s) (h2 : s ≤ 16777216) (hL : IsL w lb B now most) (ho : B < now + s) :
    Calls Try.prog 11 #[.int .i64 (s : Int), .pointer (some ⟨lb, 0, none⟩)] w fun e w' => e = .returned (.tuple #[.pointer none, .int .i64 40]) ∧ w' = w := by
  have h1' : ¬ (s : Int) < 1 := by omega
  have h2' : ¬ 16777216 < (s : Int) := by omega
  go_enter Try.func11, Try.ntmps11
  go_wp2_with fail
  refine (charge_over lb B now most s ho _ hL).mono ?_
  rintro e w1 ⟨rfl, rfl⟩
  go_wp2_with fail
  go_ret2
  exact ⟨rfl, rfl⟩
set_option maxHeartbeats 1000000 in
theorem wnew_ok (s lb B now most : Nat) (w : World) (h1 : 1 ≤ s) (h2 : s ≤ 16777216) (hL : IsL w lb B now most) (ho : now + s ≤ B) :
    Calls Try.prog 11 #[.int .i64 (s : Int), .pointer (some ⟨lb, 0, none⟩)] w fun e w' => ∃ wb, e = .returned (.tuple #[.pointer (some ⟨wb, 0, none⟩), .int .i64 0]) ∧ w.heap.size ≤ wb ∧ IsW w' wb lb s (.slice none 0 0) [] ∧ IsL w' lb B (now + s) (max (now + s) most) ∧ Keep (fun k => k = lb) w w' := by
  have h1' : ¬ (s : Int) < 1 := by omega
  have h2' : ¬ 16777216 < (s : Int) := by omega
  go_enter Try.func11, Try.ntmps11
  go_wp2_with fail
  refine (charge_ok lb B now most s ho _ hL).mono ?_
  rintro e w1 ⟨rfl, hL1, hK1⟩
  go_wp2_with fail
  go_ret2
  refine ⟨w1.heap.size, rfl, hK1.size, ⟨[], 0, ⟨alloc_new w1 _, ⟨rfl, .inl ⟨rfl, rfl⟩⟩, fun j => by simp, h1, h2, Nat.zero_le _, by omega, .inl rfl⟩, rfl⟩, hL1.keep ((Keep.refl noBlock w1).alloc _) (fun h => h), hK1.alloc _⟩

section
attribute [local go_sem] sliceSem_eq
set_option maxHeartbeats 1000000 in
theorem clear_any (wb lb s : Nat) (rv : Value) (M : List Nat) (w : World) (h : IsW w wb lb s rv M) :
    Calls Try.prog 20 #[.pointer (some ⟨wb, 0, none⟩)] w fun e w' => e = .returned (.tuple #[]) ∧ ∃ rv', IsW w' wb lb s rv' [] ∧ rv'.ownBlock = rv.ownBlock ∧ Keep (fun k => k = wb) w w' := by
  obtain ⟨R, o, h, rfl⟩ := h
  obtain ⟨a, cap, g, rfl, hB, hrow⟩ := h.form
  have c2 : w.cell? ⟨wb, 2, none⟩ = some (.slice a R.length cap) := cell_of h.obj 2
  have f2 := frozen_of h.obj 2
  have c3 : w.cell? ⟨wb, 3, none⟩ = some (.int .i64 (o : Int)) := cell_of h.obj 3
  have f3 := frozen_of h.obj 3
  have hsl := run_high a R.length cap 0 (Nat.zero_le _)
  rw [show ((0 : Nat) : Int) = 0 from rfl] at hsl
  go_enter Try.func20, Try.ntmps20
  go_wp2_with fail
  go_end0
  have hK : Keep (fun k => k = wb) w ((w.setCell ⟨wb, 2, none⟩ (.slice a 0 cap)).setCell ⟨wb, 3, none⟩ (.int .i64 0)) :=
    ((Keep.refl (fun k => k = wb) w).setCell (p := ⟨wb, 2, none⟩) (fun _ => rfl) _).setCell (p := ⟨wb, 3, none⟩) (fun _ => rfl) _
  refine ⟨rfl, .slice a 0 cap, ⟨[], 0, ⟨(set_obj (set_obj h.obj 2 _) 3 _).trans (by simp), ?_, fun j => by simp, h.s1, h.s2, Nat.zero_le _, by have := h.s1; omega, .inl rfl⟩, rfl⟩, ?_, hK⟩
  · have hne := owns_ne h.own h.obj (by decide)
    rcases hrow with ⟨rfl, e⟩ | ⟨rfl, cur, hg, hs, _, hm⟩
    · obtain rfl : cap = 0 := hB.nil rfl
      exact ⟨rfl, .inl ⟨rfl, rfl⟩⟩
    · have hgw : g ≠ wb := fun e => hne (by rw [e]; rfl)
      exact owns_mk (M := []) (hK.obj hg hgw) (Nat.zero_le _) hm hs (by simp [u8s])
  · cases a <;> rfl
end

set_option maxHeartbeats 2000000 in
theorem drop_any (wb lb s B now most : Nat) (rv : Value) (M : List Nat) (w : World) (h : IsW w wb lb s rv M) (hL : IsL w lb B now most) (hs : s ≤ now) :
    Calls Try.prog 22 #[.pointer (some ⟨wb, 0, none⟩)] w fun e w' => e = .returned (.tuple #[]) ∧ IsD w' wb ∧ IsL w' lb B (now - s) most ∧ Keep (fun k => k = wb ∨ k = lb) w w' := by
  obtain ⟨R, o, h, rfl⟩ := h
  have c0 : w.cell? ⟨wb, 0, none⟩ = some (.int .i64 (s : Int)) := cell_of h.obj 0
  have c1 : w.cell? ⟨wb, 1, none⟩ = some (.pointer (some ⟨lb, 0, none⟩)) := cell_of h.obj 1
  have hs1 := h.s1
  have hs0 : ¬ (s : Int) = 0 := by omega
  have hs0b : ((s : Int) == 0) = false := by simpa using hs0
  have hne : lb ≠ wb := by
    intro e
    have h1 := hL.obj
    rw [e, h.obj] at h1
    simp at h1
  have HO := (show Hid (w.heap[wb]? = some (.cells #[.int .i64 (s : Int), .pointer (some ⟨lb, 0, none⟩), rv, .int .i64 (o : Int)] 65 (0, 0))) from h.obj)
  have HR : Calls Try.prog 34 #[.pointer (some ⟨lb, 0, none⟩), .int .i64 (s : Int)] w.drew fun e w1 => e = .returned (.int .i64 0) ∧ (w1.cell? ⟨wb, 0, none⟩ = some (.int .i64 (s : Int)) ∧ w1.cell? ⟨wb, 1, none⟩ = some (.pointer (some ⟨lb, 0, none⟩)) ∧ w1.cell? ⟨wb, 2, none⟩ = some rv ∧ w1.cell? ⟨wb, 3, none⟩ = some (.int .i64 (o : Int))) ∧
      (w1.frozen? ⟨wb, 0, none⟩ = false ∧ w1.frozen? ⟨wb, 1, none⟩ = false ∧ w1.frozen? ⟨wb, 2, none⟩ = false ∧ w1.frozen? ⟨wb, 3, none⟩ = false) ∧ Hid (IsL w1 lb B (now - s) most ∧ Keep (fun k => k = lb) w.drew w1 ∧ w1.heap[wb]? = some (.cells #[.int .i64 (s : Int), .pointer (some ⟨lb, 0, none⟩), rv, .int .i64 (o : Int)] 65 (0, 0))) := by
    refine (release_ok lb B now most s hs w.drew (hL.drewN 1)).mono ?_
    rintro e w1 ⟨rfl, hL1, hK1⟩
    have HO1 := hK1.obj (b := wb) (show w.drew.heap[wb]? = _ from HO.out) (fun e => hne e.symm)
    exact ⟨rfl, ⟨cell_of HO1 0, cell_of HO1 1, cell_of HO1 2, cell_of HO1 3⟩, ⟨frozen_of HO1 0, frozen_of HO1 1, frozen_of HO1 2, frozen_of HO1 3⟩, hL1, hK1, HO1⟩
  clear h hL HO
  go_enter Try.func22, Try.ntmps22
  go_wp2_with fail
  go_region_with (first | (go_at_call 34; refine HR.mono ?_; rintro e w1 ⟨rfl, ⟨d0, d1, d2, d3⟩, ⟨f0, f1, f2, f3⟩, H1⟩))
  all_goals go_wp2_with fail
  all_goals go_end0
  all_goals
    have hK2 := (((H1.out.2.1.mono (T := fun k => k = wb ∨ k = lb) (fun _ _ e => .inr e)).setCell (p := ⟨wb, 0, none⟩) (fun _ => .inl rfl) (.int .i64 0)).setCell (p := ⟨wb, 1, none⟩) (fun _ => .inl rfl) (.pointer none)).setCell (p := ⟨wb, 2, none⟩) (fun _ => .inl rfl) (.slice none 0 0) |>.setCell (p := ⟨wb, 3, none⟩) (fun _ => .inl rfl) (.int .i64 0)
    refine ⟨rfl, (set_obj (set_obj (set_obj (set_obj H1.out.2.2 0 _) 1 _) 2 _) 3 _).trans (by simp), H1.out.1.keep (S := fun k => k = wb) ((((Keep.refl (fun k => k = wb) w1).setCell (p := ⟨wb, 0, none⟩) (fun _ => rfl) (.int .i64 0)).setCell (p := ⟨wb, 1, none⟩) (fun _ => rfl) (.pointer none)).setCell (p := ⟨wb, 2, none⟩) (fun _ => rfl) (.slice none 0 0) |>.setCell (p := ⟨wb, 3, none⟩) (fun _ => rfl) (.int .i64 0)) hne, ?_⟩
    exact (keep_drew' (S := fun k => k = wb ∨ k = lb) w 1).trans' hK2
end Go.Proofs.Ytpjbegafhgnebaa
