/-
  Pick finds the least back that means a distance.
-/
import Derived.Test.YtgaepmmpedaaiaaDoorVlu
namespace Go.Proofs.YtgaepmmpedaaiaaDoor
open Go.RowKit Go.Shelf
set_option linter.unusedVariables false

/-- The least back that means d; 0, if there is none. -/
def pickN (r0 r1 r2 : Int) (z : Bool) (d : Int) : Int :=
  if d < 1 then 0 else if meantD r0 r1 r2 z 1 = d then 1 else if meantD r0 r1 r2 z 2 = d then 2 else if meantD r0 r1 r2 z 3 = d then 3 else if 9223372036854775804 < d then 0 else d + 3

theorem pick_small (b : Nat) (lits d : Int) (hd : d < 1) (w : World) :
    Calls Tryd.prog 4 #[.pointer (some ⟨b, 0, none⟩), .int .i64 lits, .int .i64 d] w fun e w' => e = .returned (.int .i64 0) ∧ w' = w := by
  have hd1 : decide (d < 1) = true := decide_eq_true hd
  go_enter Tryd.func4, Tryd.ntmps4
  go_wp2_with fail
  go_ret
  exact ⟨rfl, rfl⟩

set_option maxHeartbeats 1000000 in
theorem pick_any (b : Nat) (r0 r1 r2 lits d : Int) (hd : 1 ≤ d) (hd2 : d ≤ 9223372036854775807) (hr : r0 ≤ 9223372036854775807) (w : World) (h : IsRep w b r0 r1 r2) :
    Calls Tryd.prog 4 #[.pointer (some ⟨b, 0, none⟩), .int .i64 lits, .int .i64 d] w fun e w' => e = .returned (.int .i64 (pickN r0 r1 r2 (lits == 0) d)) ∧ w' = w := by
  have H1 := hid (meant_any b r0 r1 r2 lits 1 (by omega) (by omega) hr w h)
  have H2 := hid (meant_any b r0 r1 r2 lits 2 (by omega) (by omega) hr w h)
  have H3 := hid (meant_any b r0 r1 r2 lits 3 (by omega) (by omega) hr w h)
  rw [show (((1 : Nat) : Int)) = (1 : Int) from rfl] at H1
  rw [show (((2 : Nat) : Int)) = (2 : Int) from rfl] at H2
  rw [show (((3 : Nat) : Int)) = (3 : Int) from rfl] at H3
  have hd1 : decide (d < 1) = false := decide_eq_false (by omega)
  unfold pickN
  rw [if_neg (by omega)]
  generalize meantD r0 r1 r2 (lits == 0) 1 = d1 at *
  generalize meantD r0 r1 r2 (lits == 0) 2 = d2 at *
  generalize meantD r0 r1 r2 (lits == 0) 3 = d3 at *
  generalize meantM r0 (lits == 0) 1 = m1 at *
  generalize meantM r0 (lits == 0) 2 = m2 at *
  generalize meantM r0 (lits == 0) 3 = m3 at *
  clear h hr
  by_cases e1 : d1 = d
  · subst e1
    go_enter Tryd.func4, Tryd.ntmps4
    go_wp2_with fail
    refine wp_loop_rounds 1 ?_
    rw [rounds_succ]
    go_wp2_with (go_at_call 7; refine H1.out.mono ?_; rintro e w' ⟨rfl, rfl⟩; clear H1)
    go_ret
    exact ⟨rfl, rfl⟩
  · have g1 : (d1 == d) = false := by simpa using e1
    rw [if_neg e1]
    by_cases e2 : d2 = d
    · subst e2
      go_enter Tryd.func4, Tryd.ntmps4
      go_wp2_with fail
      refine wp_loop_rounds 2 ?_
      rw [rounds_succ]
      go_wp2_with (go_at_call 7; refine H1.out.mono ?_; rintro e w' ⟨rfl, rfl⟩; clear H1)
      rw [rounds_succ]
      go_wp2_with (go_at_call 7; refine H2.out.mono ?_; rintro e w' ⟨rfl, rfl⟩; clear H2)
      go_ret
      exact ⟨rfl, rfl⟩
    · have g2 : (d2 == d) = false := by simpa using e2
      rw [if_neg e2]
      by_cases e3 : d3 = d
      · subst e3
        go_enter Tryd.func4, Tryd.ntmps4
        go_wp2_with fail
        refine wp_loop_rounds 3 ?_
        rw [rounds_succ]
        go_wp2_with (go_at_call 7; refine H1.out.mono ?_; rintro e w' ⟨rfl, rfl⟩; clear H1)
        rw [rounds_succ]
        go_wp2_with (go_at_call 7; refine H2.out.mono ?_; rintro e w' ⟨rfl, rfl⟩; clear H2)
        rw [rounds_succ]
        go_wp2_with (go_at_call 7; refine H3.out.mono ?_; rintro e w' ⟨rfl, rfl⟩; clear H3)
        go_ret
        exact ⟨rfl, rfl⟩
      · have g3 : (d3 == d) = false := by simpa using e3
        rw [if_neg e3]
        by_cases e4 : 9223372036854775804 < d
        · have g4 : decide (9223372036854775804 < d) = true := decide_eq_true e4
          rw [if_pos e4]
          go_enter Tryd.func4, Tryd.ntmps4
          go_wp2_with fail
          refine wp_loop_rounds 4 ?_
          rw [rounds_succ]
          go_wp2_with (go_at_call 7; refine H1.out.mono ?_; rintro e w' ⟨rfl, rfl⟩; clear H1)
          rw [rounds_succ]
          go_wp2_with (go_at_call 7; refine H2.out.mono ?_; rintro e w' ⟨rfl, rfl⟩; clear H2)
          rw [rounds_succ]
          go_wp2_with (go_at_call 7; refine H3.out.mono ?_; rintro e w' ⟨rfl, rfl⟩; clear H3)
          rw [rounds_succ]
          go_wp2_with fail
          go_ret
          exact ⟨rfl, rfl⟩
        · have g4 : decide (9223372036854775804 < d) = false := decide_eq_false e4
          have g5 : wrap64 (d + 3) = d + 3 := by unfold wrap64; omega
          rw [if_neg e4]
          go_enter Tryd.func4, Tryd.ntmps4
          go_wp2_with fail
          refine wp_loop_rounds 4 ?_
          rw [rounds_succ]
          go_wp2_with (go_at_call 7; refine H1.out.mono ?_; rintro e w' ⟨rfl, rfl⟩; clear H1)
          rw [rounds_succ]
          go_wp2_with (go_at_call 7; refine H2.out.mono ?_; rintro e w' ⟨rfl, rfl⟩; clear H2)
          rw [rounds_succ]
          go_wp2_with (go_at_call 7; refine H3.out.mono ?_; rintro e w' ⟨rfl, rfl⟩; clear H3)
          rw [rounds_succ]
          go_wp2_with fail
          go_ret
          exact ⟨rfl, rfl⟩
end Go.Proofs.YtgaepmmpedaaiaaDoor
