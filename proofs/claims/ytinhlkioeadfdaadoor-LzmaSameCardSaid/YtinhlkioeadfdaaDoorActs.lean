/-
  Charge, Release and Held of a ledger, and of none.
-/
import Derived.Test.YtinhlkioeadfdaaDoorLed
namespace Go.Proofs.YtinhlkioeadfdaaDoor
open Go.RowKit Go.Shelf
set_option linter.unusedVariables false

theorem IsL.now_top {w : World} {lb B now most : Nat} (h : IsL w lb B now most) : now ≤ 16777216 ∧ most ≤ 16777216 := by
  have := h.le; have := h.in_; have := h.top; omega
/-- What a swap leaves. -/
theorem IsL.swap {w : World} {lb B now most : Nat} (h : IsL w lb B now most) {now' most' : Nat} (h1 : now' ≤ most') (h2 : most' ≤ B) :
    IsL (w.setCell ⟨lb, 1, none⟩ (.int .u64 ((both now' most' : Nat) : Int))) lb B now' most' ∧ Keep (fun k => k = lb) w (w.setCell ⟨lb, 1, none⟩ (.int .u64 ((both now' most' : Nat) : Int))) :=
  ⟨⟨(set_obj h.obj 1 _).trans (by simp), h1, h2, h.top⟩, (Keep.refl (fun k => k = lb) w).setCell (p := ⟨lb, 1, none⟩) (fun _ => rfl) _⟩


set_option maxHeartbeats 400000 in
theorem charge_nil (n : Int) (w : World) : Calls Tryd.prog 17 #[.pointer none, .int .i64 n] w fun e w' => e = .returned (.int .i64 1) ∧ w' = w := by
  go_enter Tryd.func17, Tryd.ntmps17
  go_wp2_with fail
  go_ret
  exact ⟨rfl, rfl⟩
set_option maxHeartbeats 400000 in
theorem charge_arg (lb : Nat) (n : Int) (hn : n < 0) (w : World) : Calls Tryd.prog 17 #[.pointer (some ⟨lb, 0, none⟩), .int .i64 n] w fun e w' => e = .returned (.int .i64 2) ∧ w' = w := by
  go_enter Tryd.func17, Tryd.ntmps17
  go_wp2_with fail
  go_ret
  exact ⟨rfl, rfl⟩

set_option maxHeartbeats 1000000 in
/-- Charge of more than there is room. -/
theorem charge_over (lb B now most n : Nat) (hn : B < now + n) (w : World) (h : IsL w lb B now most) :
    Calls Tryd.prog 17 #[.pointer (some ⟨lb, 0, none⟩), .int .i64 (n : Int)] w fun e w' => e = .returned (.int .i64 40) ∧ w' = w := by
  obtain ⟨h1, h2⟩ := h.now_top
  have htop := h.top
  have hc0 : w.cell? ⟨lb, 0, none⟩ = some (.int .i64 (B : Int)) := cell_of h.obj 0
  have hc : w.cell? ⟨lb, 1, none⟩ = some (.int .u64 ((both now most : Nat) : Int)) := cell_of h.obj 1
  have hf := frozen_of h.obj 1
  have hn0 : ¬ (n : Int) < 0 := by omega
  have hlt : (B : Int) - now < n := by omega
  go_enter Tryd.func17, Tryd.ntmps17
  go_wp2_with fail
  refine wp_loop_rounds 1 ?_
  rw [rounds_succ]
  go_wp2_with fail
  refine (load_any lb 1 _ _ hc hf).mono ?_
  rintro e w1 ⟨rfl, rfl⟩
  go_wp2_with fail
  refine (split_any now most h1 h2 _).mono ?_
  rintro e w2 ⟨rfl, rfl⟩
  go_wp2_with fail
  go_ret
  exact ⟨rfl, rfl⟩

theorem keep_drew' {S : Nat → Prop} (w : World) (n : Nat) : Keep S w (w.drewN n) := ⟨rfl, rfl, rfl, Nat.le_refl _, fun _ _ _ => rfl⟩
theorem wrap_sub (now n : Nat) (h1 : now ≤ 16777216) (h2 : n ≤ now) : IntKind.i64.wrap ((now : Int) - n) = ((now - n : Nat) : Int) := by
  rw [IntKind.wrap_i64]
  omega
theorem join_i (now most : Nat) (ni : Int) (en : ni = (now : Int)) (h1 : now ≤ 16777216) (h2 : most ≤ 16777216) (w : World) :
    Calls Tryd.prog 32 #[.int .i64 ni, .int .i64 (most : Int)] w fun e w' => e = .returned (.int .u64 ((both now most : Nat) : Int)) ∧ w' = w := by
  subst en; exact join_any now most h1 h2 w

section
attribute [local go_sem] maxSem6_eq minSem6_eq
set_option maxHeartbeats 2000000 in
/-- Charge. -/
theorem charge_ok (lb B now most n : Nat) (hn : now + n ≤ B) (w : World) (h : IsL w lb B now most) :
    Calls Tryd.prog 17 #[.pointer (some ⟨lb, 0, none⟩), .int .i64 (n : Int)] w fun e w' => e = .returned (.int .i64 0) ∧ IsL w' lb B (now + n) (max (now + n) most) ∧ Keep (fun k => k = lb) w w' := by
  obtain ⟨h1, h2⟩ := h.now_top
  have htop := h.top
  have hin := h.in_
  have hc0 : w.cell? ⟨lb, 0, none⟩ = some (.int .i64 (B : Int)) := cell_of h.obj 0
  have hc : w.cell? ⟨lb, 1, none⟩ = some (.int .u64 ((both now most : Nat) : Int)) := cell_of h.obj 1
  have hf := frozen_of h.obj 1
  have hn0 : ¬ (n : Int) < 0 := by omega
  have hlt : ¬ (B : Int) - now < n := by omega
  obtain ⟨m', hm'⟩ : ∃ m' : Nat, m' = max (now + n) most := ⟨_, rfl⟩
  have hmax := maxSem6_run #[3, 3] 3 ((now : Int) + n) most (m' : Int) (by omega)
  have h3 : now + n ≤ 16777216 := by omega
  have h4 : m' ≤ 16777216 := by omega
  have h5 : now + n ≤ m' := by omega
  have h6 : m' ≤ B := by omega
  rw [← hm']
  clear hm'
  go_enter Tryd.func17, Tryd.ntmps17
  go_wp2_with fail
  refine wp_loop_rounds 1 ?_
  rw [rounds_succ]
  go_wp2_with fail
  refine (load_any lb 1 _ _ hc hf).mono ?_
  rintro e w1 ⟨rfl, rfl⟩
  go_wp2_with fail
  refine (split_any now most h1 h2 _).mono ?_
  rintro e w2 ⟨rfl, rfl⟩
  obtain ⟨hI, hK⟩ := (h.drewN 1).swap h5 h6
  go_wp2_with fail
  go_region_with (first | (go_at_call 32; refine (join_i (now + n) m' _ ?_ h3 h4 _).mono ?_; omega; rintro e w3 ⟨rfl, rfl⟩) | (go_at_call 31; refine (cas_hit lb 1 _ _ _ ?_ ?_).mono ?_; exact hc; exact hf; rintro e w4 ⟨rfl, rfl⟩))
  go_wp2_with fail
  go_ret
  exact ⟨rfl, hI, (keep_drew' _ 1).trans' hK⟩
end

section

end

/-- What Charge(n) answers, what is held then, the most. -/
def chargeAns (B now most : Nat) (n : Int) : Int × Nat × Nat :=
  if n < 0 then (2, now, most) else if B < now + n.toNat then (40, now, most) else (0, now + n.toNat, max (now + n.toNat) most)

theorem charge_any (lb B now most : Nat) (n : Int) (w : World) (h : IsL w lb B now most) :
    Calls Tryd.prog 17 #[.pointer (some ⟨lb, 0, none⟩), .int .i64 n] w fun e w' => e = .returned (.int .i64 (chargeAns B now most n).1) ∧ IsL w' lb B (chargeAns B now most n).2.1 (chargeAns B now most n).2.2 ∧ Keep (fun k => k = lb) w w' := by
  unfold chargeAns
  by_cases h0 : n < 0
  · rw [if_pos h0]
    refine (charge_arg lb n h0 w).mono ?_
    rintro e w' ⟨rfl, rfl⟩
    exact ⟨rfl, h, Keep.refl _ _⟩
  · rw [if_neg h0]
    obtain ⟨m, rfl⟩ : ∃ m : Nat, n = (m : Int) := ⟨n.toNat, by omega⟩
    rw [Int.toNat_natCast]
    by_cases h1 : B < now + m
    · rw [if_pos h1]
      refine (charge_over lb B now most m h1 w h).mono ?_
      rintro e w' ⟨rfl, rfl⟩
      exact ⟨rfl, h, Keep.refl _ _⟩
    · rw [if_neg h1]
      exact charge_ok lb B now most m (by omega) w h


/-- The same, the answer worked out. -/
theorem charge_i (lb B now most : Nat) (n r : Int) (now' most' : Nat) (ha : chargeAns B now most n = (r, now', most')) (w : World) (h : IsL w lb B now most) :
    Calls Tryd.prog 17 #[.pointer (some ⟨lb, 0, none⟩), .int .i64 n] w fun e w' => e = .returned (.int .i64 r) ∧ IsL w' lb B now' most' ∧ Keep (fun k => k = lb) w w' := by
  have := charge_any lb B now most n w h
  rw [ha] at this
  exact this

end Go.Proofs.YtinhlkioeadfdaaDoor
