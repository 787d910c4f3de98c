/-
  SequencesPick is true: what is picked for a distance means that distance.
-/
import Derived.Test.YtgaepmmpedaaiaaDoorWak
namespace Go.Proofs.YtgaepmmpedaaiaaDoor
open Go.RowKit Go.Shelf
set_option linter.unusedVariables false

/-- What is picked means the distance. -/
theorem pick_means (r0 r1 r2 : Int) (z : Bool) (d : Int) (h1 : 1 ≤ d) (h2 : d ≤ 1152921504606846976) : ∃ n : Nat, pickN r0 r1 r2 z d = (n : Int) ∧ 1 ≤ n ∧ n ≤ 9223372036854775807 ∧ meantD r0 r1 r2 z n = d := by
  unfold pickN
  rw [if_neg (by omega)]
  split
  · exact ⟨1, rfl, by omega, by omega, by assumption⟩
  · split
    · exact ⟨2, rfl, by omega, by omega, by assumption⟩
    · split
      · exact ⟨3, rfl, by omega, by omega, by assumption⟩
      · rw [if_neg (by omega)]
        refine ⟨d.toNat + 3, by omega, by omega, by omega, ?_⟩
        unfold meantD
        rw [if_pos (by omega)]
        omega

/-- Three numbers of one's own, twice. -/
structure TwoR (w W : World) (a b : Nat) (r0 r1 r2 : Int) (s0 s1 s2 : Int) : Prop where
  x : IsRep W a r0 r1 r2
  y : IsRep W b s0 s1 s2
  ne : a ≠ b
  na : w.heap.size ≤ a
  nb : w.heap.size ≤ b
  kp : Keep noBlock w W

set_option maxRecDepth 10000 in
set_option maxHeartbeats 4000000 in
theorem seqpick_law (r0 r1 r2 lits d : Int) (hr : r0 ≤ 9223372036854775807) (hd : d ≤ 9223372036854775807) (w : World) :
    Calls Tryd.prog 3 #[.agg #[.int .i64 r0, .int .i64 r1, .int .i64 r2], .int .i64 lits, .int .i64 d] w fun e w' => e = .returned (.bool true) ∧ Keep noBlock w w' := by
  have hT : TwoR w ((w.alloc (.cells #[.int .i64 r0, .int .i64 r1, .int .i64 r2] 22)).alloc (.cells #[.int .i64 r0, .int .i64 r1, .int .i64 r2] 22)) w.heap.size (w.heap.size + 1) r0 r1 r2 r0 r1 r2 := by
    have e1 := alloc_new (w.alloc (.cells #[.int .i64 r0, .int .i64 r1, .int .i64 r2] 22)) (.cells #[.int .i64 r0, .int .i64 r1, .int .i64 r2] 22)
    rw [World.size_alloc] at e1
    exact ⟨alloc_far (alloc_new w _) _, e1, by omega, by omega, by omega, ((Keep.refl _ w).alloc _).alloc _⟩
  have heq := eql_rep r0 r1 r2
  have HP : Hid (∀ (W : World) (b : Nat), IsRep W b r0 r1 r2 → Calls Tryd.prog 4 #[.pointer (some ⟨b, 0, none⟩), .int .i64 lits, .int .i64 d] W fun e w' => e = .returned (.int .i64 (pickN r0 r1 r2 (lits == 0) d)) ∧ w' = W) := fun W b h => by
    by_cases h1 : d < 1
    · rw [show pickN r0 r1 r2 (lits == 0) d = 0 from by unfold pickN; rw [if_pos h1]]
      exact pick_small b lits d h1 W
    · exact pick_any b r0 r1 r2 lits d (by omega) hd hr W h
  have HW := hid wakes_any
  go_enter Tryd.func3, Tryd.ntmps3
  go_wp2_with fail
  generalize (w.alloc (.cells #[.int .i64 r0, .int .i64 r1, .int .i64 r2] 22)).alloc (.cells #[.int .i64 r0, .int .i64 r1, .int .i64 r2] 22) = W at *
  obtain ⟨a, ha⟩ : ∃ a, a = w.heap.size := ⟨_, rfl⟩
  rw [← ha] at hT ⊢
  clear ha
  generalize a + 1 = b at *
  refine (HP.out W b hT.y).mono ?_
  rintro e W' ⟨rfl, rfl⟩
  have c0 : W'.cell? ⟨a, 0, none⟩ = some (.int .i64 r0) := by rw [cell_of hT.x]; rfl
  have c1 : W'.cell? ⟨a, 1, none⟩ = some (.int .i64 r1) := by rw [cell_of hT.x]; rfl
  have c2 : W'.cell? ⟨a, 2, none⟩ = some (.int .i64 r2) := by rw [cell_of hT.x]; rfl
  have d0 : W'.cell? ⟨b, 0, none⟩ = some (.int .i64 r0) := by rw [cell_of hT.y]; rfl
  have d1 : W'.cell? ⟨b, 1, none⟩ = some (.int .i64 r1) := by rw [cell_of hT.y]; rfl
  have d2 : W'.cell? ⟨b, 2, none⟩ = some (.int .i64 r2) := by rw [cell_of hT.y]; rfl
  have HT := hid hT
  by_cases h1 : d < 1
  · have g1 : decide (d < 1) = true := decide_eq_true h1
    clear hT HP
    generalize pickN r0 r1 r2 (lits == 0) d = pk
    go_wp2_with (go_at_call 5; refine (HW.out _).mono ?_; rintro e W2 ⟨rfl, k2⟩)
    go_ret
    exact ⟨rfl, HT.out.kp.trans k2 (fun _ _ h => h)⟩
  · have g1 : decide (d < 1) = false := decide_eq_false h1
    by_cases h2 : 1152921504606846976 < d
    · have g2 : decide (1152921504606846976 < d) = true := decide_eq_true h2
      clear hT HP
      generalize pickN r0 r1 r2 (lits == 0) d = pk
      go_wp2_with (go_at_call 5; refine (HW.out _).mono ?_; rintro e W2 ⟨rfl, k2⟩)
      go_ret
      exact ⟨rfl, HT.out.kp.trans k2 (fun _ _ h => h)⟩
    · have g2 : decide (1152921504606846976 < d) = false := decide_eq_false h2
      by_cases h3 : r0 < -1152921504606846976
      · have g3 : decide (r0 < -1152921504606846976) = true := decide_eq_true h3
        clear hT HP
        generalize pickN r0 r1 r2 (lits == 0) d = pk
        go_wp2_with (go_at_call 5; refine (HW.out _).mono ?_; rintro e W2 ⟨rfl, k2⟩)
        go_ret
        exact ⟨rfl, HT.out.kp.trans k2 (fun _ _ h => h)⟩
      · have g3 : decide (r0 < -1152921504606846976) = false := decide_eq_false h3
        obtain ⟨n, p1, p2, p3, p4⟩ := pick_means r0 r1 r2 (lits == 0) d (by omega) (by omega)
        have HV := hid (value_ok b r0 r1 r2 lits n p2 p3 hr (by rw [p4]; omega) W' hT.y)
        rw [p4] at HV
        rw [p1]
        have gn : decide ((1 : Int) ≤ (n : Int)) = true := decide_eq_true (by omega)
        generalize (movedR r0 r1 r2 (meantM r0 (lits == 0) n)).2.1 = s1 at *
        generalize (movedR r0 r1 r2 (meantM r0 (lits == 0) n)).2.2 = s2 at *
        clear hT HP p1 p2 p3 p4 d0 d1 d2 c1 c2 heq
        go_wp2_with fail
        refine HV.out.mono ?_
        rintro e W2 ⟨rfl, q1, q2⟩
        have e0 : W2.cell? ⟨b, 0, none⟩ = some (.int .i64 d) := by rw [cell_of q1]; rfl
        have HK2 := (show Hid (Keep noBlock w W2) from HT.out.kp.trans q2 (fun i hi e => by have := HT.out.nb; omega))
        clear q1 q2 HV
        go_wp2_with (go_at_call 5; refine (HW.out _).mono ?_; rintro e W3 ⟨rfl, k3⟩)
        go_ret
        exact ⟨rfl, HK2.out.trans k3 (fun _ _ h => h)⟩
end Go.Proofs.YtgaepmmpedaaiaaDoor
