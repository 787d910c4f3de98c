/-
  The document's own ledger: what each of its calls does.
-/
import Derived.Test.YtpjbegafhgnebaaActs
namespace Go.Proofs.Ytpjbegafhgnebaa
open Go.RowKit Go.Shelf
set_option linter.unusedVariables false

/-- Block qb is the document's ledger: its budget, what is held, the most that ever was. -/
structure IsQ (w : World) (qb B now most : Nat) : Prop where
  obj : w.heap[qb]? = some (.cells #[.int .i64 (B : Int), .int .i64 (now : Int), .int .i64 (most : Int)] 48 (0, 0))
  le : now ≤ most
  in_ : most ≤ B
  top : B ≤ 16777216
theorem IsQ.keep {w w' : World} {S : Nat → Prop} {lb B now most : Nat} (h : IsQ w lb B now most) (hk : Keep S w w') (h1 : ¬ S lb) : IsQ w' lb B now most := ⟨hk.obj h.obj h1, h.le, h.in_, h.top⟩

section
attribute [local go_sem] maxSem_eq minSem_eq
set_option maxHeartbeats 400000 in
theorem newQ_any (x : Int) (w : World) :
    Calls Try.prog 10 #[.int .i64 x] w fun e w' => e = .returned (.pointer (some ⟨w.heap.size, 0, none⟩)) ∧ IsQ w' w.heap.size (budget x) 0 0 ∧ Keep noBlock w w' := by
  obtain ⟨X, hX⟩ : ∃ X : Int, X = min x 16777216 := ⟨_, rfl⟩
  obtain ⟨B, hB⟩ : ∃ B : Nat, B = budget x := ⟨_, rfl⟩
  have hB2 : (B : Int) = max 0 X := by rw [hB, hX]; unfold budget; omega
  have hB3 : B ≤ 16777216 := by omega
  rw [← hB]
  have hmin := minSem_run #[3, 3] 3 x 16777216 X hX
  have hmax := maxSem_run #[3, 3] 3 0 X B hB2
  clear hX hB hB2
  go_enter Try.func10, Try.ntmps10
  go_wp2_with fail
  go_ret
  exact ⟨rfl, ⟨alloc_new w _, Nat.le_refl _, Nat.zero_le _, hB3⟩, (Keep.refl _ w).alloc _⟩

set_option maxHeartbeats 1000000 in
theorem chargeQ_any (qb B now most : Nat) (n : Int) (hn : n ≤ 9223372036854775807) (w : World) (h : IsQ w qb B now most) :
    Calls Try.prog 27 #[.pointer (some ⟨qb, 0, none⟩), .int .i64 n] w fun e w' => e = .returned (.int .i64 (chargeAns B now most n).1) ∧ IsQ w' qb B (chargeAns B now most n).2.1 (chargeAns B now most n).2.2 ∧ Keep (fun k => k = qb) w w' := by
  unfold chargeAns
  have hle := h.le
  have hin := h.in_
  have htop := h.top
  have hc0 : w.cell? ⟨qb, 0, none⟩ = some (.int .i64 (B : Int)) := cell_of h.obj 0
  have hc1 : w.cell? ⟨qb, 1, none⟩ = some (.int .i64 (now : Int)) := cell_of h.obj 1
  have hc2 : w.cell? ⟨qb, 2, none⟩ = some (.int .i64 (most : Int)) := cell_of h.obj 2
  have hf1 := frozen_of h.obj 1
  have hf2 := frozen_of h.obj 2
  by_cases h0 : n < 0
  · rw [if_pos h0]
    go_enter Try.func27, Try.ntmps27
    go_wp2_with fail
    go_ret
    exact ⟨rfl, h, Keep.refl _ _⟩
  · rw [if_neg h0]
    obtain ⟨m, rfl⟩ : ∃ m : Nat, n = (m : Int) := ⟨n.toNat, by omega⟩
    rw [Int.toNat_natCast]
    by_cases h1 : B < now + m
    · rw [if_pos h1]
      have hlt : (B : Int) - now < m := by omega
      go_enter Try.func27, Try.ntmps27
      go_wp2_with fail
      go_quiet (fail)
      go_wp2_with fail
      go_ret
      exact ⟨rfl, ⟨h.obj, hle, hin, htop⟩, keep_drew' _ _⟩
    · rw [if_neg h1]
      have hlt : ¬ (B : Int) - now < m := by omega
      obtain ⟨m', hm'⟩ : ∃ m' : Nat, m' = max (now + m) most := ⟨_, rfl⟩
      have hmax := maxSem_run #[3, 3] 3 most ((now : Int) + m) (m' : Int) (by omega)
      have h5 : now + m ≤ m' := by omega
      have h6 : m' ≤ B := by omega
      rw [← hm']
      clear hm'
      go_enter Try.func27, Try.ntmps27
      go_wp2_with fail
      go_quiet (fail)
      go_wp2_with fail
      obtain ⟨W1, hW1⟩ : ∃ W1, W1 = (w.drewN nq).setCell ⟨qb, 1, none⟩ (.int .i64 ((now : Int) + m)) := ⟨_, rfl⟩
      rw [← hW1]
      have ho1 : W1.heap[qb]? = some (.cells #[.int .i64 (B : Int), .int .i64 ((now : Int) + m), .int .i64 (most : Int)] 48 (0, 0)) := by rw [hW1]; exact (set_obj (w := w.drewN nq) h.obj 1 _).trans (by simp)
      have hk1 : Keep (fun k => k = qb) w W1 := by rw [hW1]; exact (keep_drew' (S := fun k => k = qb) w nq).setCell (p := ⟨qb, 1, none⟩) (fun _ => rfl) _
      clear hW1 hc0 hc1 hc2 hf1 hf2
      have hc1 : W1.cell? ⟨qb, 1, none⟩ = some (.int .i64 ((now : Int) + m)) := cell_of ho1 1
      have hc2 : W1.cell? ⟨qb, 2, none⟩ = some (.int .i64 (most : Int)) := cell_of ho1 2
      have hf2 := frozen_of ho1 2
      have HO := (show Hid (W1.heap[qb]? = some (.cells #[.int .i64 (B : Int), .int .i64 ((now : Int) + m), .int .i64 (most : Int)] 48 (0, 0))) from ho1)
      clear ho1
      go_region_with (fail)
      all_goals go_wp2_with fail
      all_goals go_ret
      all_goals exact ⟨rfl, ⟨(set_obj (w := W1) HO.out 2 _).trans (by simp), h5, h6, htop⟩, (hk1.setCell (p := ⟨qb, 2, none⟩) (fun _ => rfl) _).drew⟩

set_option maxHeartbeats 1000000 in
theorem releaseQ_any (qb B now most : Nat) (n : Int) (w : World) (h : IsQ w qb B now most) :
    Calls Try.prog 35 #[.pointer (some ⟨qb, 0, none⟩), .int .i64 n] w fun e w' => e = .returned (.int .i64 (releaseAns now most n).1) ∧ IsQ w' qb B (releaseAns now most n).2.1 (releaseAns now most n).2.2 ∧ Keep (fun k => k = qb) w w' := by
  unfold releaseAns
  have hle := h.le
  have hin := h.in_
  have htop := h.top
  have hc1 : w.cell? ⟨qb, 1, none⟩ = some (.int .i64 (now : Int)) := cell_of h.obj 1
  have hf1 := frozen_of h.obj 1
  by_cases h0 : n < 0
  · rw [if_pos h0]
    have hd : decide (n < 0) = true := by simpa using h0
    go_enter Try.func35, Try.ntmps35
    go_wp2_with fail
    go_ret
    exact ⟨rfl, h, Keep.refl _ _⟩
  · rw [if_neg h0]
    obtain ⟨m, rfl⟩ : ∃ m : Nat, n = (m : Int) := ⟨n.toNat, by omega⟩
    rw [Int.toNat_natCast]
    have hd : decide ((m : Int) < 0) = false := decide_eq_false (by omega)
    by_cases h1 : now < m
    · rw [if_pos h1]
      have hlt : decide ((now : Int) < m) = true := by simpa using h1
      go_enter Try.func35, Try.ntmps35
      go_wp2_with fail
      go_ret
      exact ⟨rfl, h, Keep.refl _ _⟩
    · rw [if_neg h1]
      have hlt : decide ((now : Int) < m) = false := decide_eq_false (by omega)
      go_enter Try.func35, Try.ntmps35
      go_wp2_with fail
      go_ret
      have e : ((now - m : Nat) : Int) = (now : Int) - m := by omega
      refine ⟨rfl, ⟨(set_obj h.obj 1 _).trans (by simp [e]), by omega, hin, htop⟩, (Keep.refl (fun k => k = qb) w).setCell (p := ⟨qb, 1, none⟩) (fun _ => rfl) _⟩
end

theorem chargeQ_i (lb B now most : Nat) (n r : Int) (hn : n ≤ 9223372036854775807) (now' most' : Nat) (ha : chargeAns B now most n = (r, now', most')) (w : World) (h : IsQ w lb B now most) :
    Calls Try.prog 27 #[.pointer (some ⟨lb, 0, none⟩), .int .i64 n] w fun e w' => e = .returned (.int .i64 r) ∧ IsQ w' lb B now' most' ∧ Keep (fun k => k = lb) w w' := by
  have := chargeQ_any lb B now most n hn w h
  rw [ha] at this
  exact this
theorem releaseQ_i (lb B now most : Nat) (n r : Int) (now' most' : Nat) (ha : releaseAns now most n = (r, now', most')) (w : World) (h : IsQ w lb B now most) :
    Calls Try.prog 35 #[.pointer (some ⟨lb, 0, none⟩), .int .i64 n] w fun e w' => e = .returned (.int .i64 r) ∧ IsQ w' lb B now' most' ∧ Keep (fun k => k = lb) w w' := by
  have := releaseQ_any lb B now most n w h
  rw [ha] at this
  exact this

end Go.Proofs.Ytpjbegafhgnebaa
