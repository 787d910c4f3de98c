/-
  Three kept distances: what a back means; Value and Pick.
-/
import Derived.Shelf.Abstract
import Derived.Shelf.RegionOpen
import Derived.WalkKit
import Derived.WalkSmall
import Derived.WalkLawsBesides
import Derived.BigQuiet
import Derived.Deep.QuietTactic
import Derived.Deep.RegionWith
import Derived.Deep.RegionHeld3
import Derived.Test.YtgaepmmpedaaiaaDoorProg
import Derived.Test.YtgaepmmpedaaiaaDoorBase
namespace Go.Proofs.YtgaepmmpedaaiaaDoor
open Go.RowKit Go.Shelf
set_option linter.unusedVariables false

/-- Block b holds three distances. -/
def IsRep (w : World) (b : Nat) (r0 r1 r2 : Int) : Prop := w.heap[b]? = some (.cells #[.int .i64 r0, .int .i64 r1, .int .i64 r2] 22 (0, 0))
theorem IsRep.keep {w w' : World} {S : Nat → Prop} {b : Nat} {r0 r1 r2 : Int} (h : IsRep w b r0 r1 r2) (hk : Keep S w w') (h1 : ¬ S b) : IsRep w' b r0 r1 r2 := hk.obj h h1

/-- Which of the kept ones. -/
def whichN (z : Bool) (back : Nat) : Nat := back - 1 + z.toNat
/-- The distance that is meant: below 1, if there is none. -/
def meantD (r0 r1 r2 : Int) (z : Bool) (back : Nat) : Int :=
  if 3 < back then (back : Int) - 3 else if whichN z back = 0 then r0 else if whichN z back = 1 then r1 else if whichN z back = 2 then r2 else if 1 < r0 then r0 - 1 else 0
/-- How many give way. -/
def meantM (r0 : Int) (z : Bool) (back : Nat) : Nat :=
  if 3 < back then 2 else if whichN z back < 3 then whichN z back else if 1 < r0 then 2 else 0

set_option maxHeartbeats 1000000 in
theorem meant_any (b : Nat) (r0 r1 r2 lits : Int) (back : Nat) (h1 : 1 ≤ back) (h2 : back ≤ 9223372036854775807) (hr : r0 ≤ 9223372036854775807) (w : World) (h : IsRep w b r0 r1 r2) :
    Calls Tryd.prog 7 #[.pointer (some ⟨b, 0, none⟩), .int .i64 lits, .int .i64 (back : Int)] w fun e w' => e = .returned (.tuple #[.int .i64 (meantD r0 r1 r2 (lits == 0) back), .int .i64 ((meantM r0 (lits == 0) back : Nat) : Int)]) ∧ w' = w := by
  have c0 : w.cell? ⟨b, 0, none⟩ = some (.int .i64 r0) := by rw [cell_of h]; rfl
  have c1 : w.cell? ⟨b, 1, none⟩ = some (.int .i64 r1) := by rw [cell_of h]; rfl
  have c2 : w.cell? ⟨b, 2, none⟩ = some (.int .i64 r2) := by rw [cell_of h]; rfl
  by_cases hz : lits = 0
  · subst hz
    rcases (show back = 1 ∨ back = 2 ∨ back = 3 ∨ 3 < back by omega) with rfl | rfl | rfl | hb
    · go_enter Tryd.func7, Tryd.ntmps7
      go_wp2_with fail
      go_ret2
      exact ⟨rfl, rfl⟩
    · go_enter Tryd.func7, Tryd.ntmps7
      go_wp2_with fail
      go_ret2
      exact ⟨rfl, rfl⟩
    · by_cases hr0 : 1 < r0
      · have hd : decide (1 < r0) = true := decide_eq_true hr0
        have hs : wrap64 (r0 - 1) = r0 - 1 := by unfold wrap64; omega
        go_enter Tryd.func7, Tryd.ntmps7
        go_wp2_with fail
        go_ret2
        exact ⟨by simp [meantD, meantM, whichN, hr0], rfl⟩
      · have hd : decide (1 < r0) = false := decide_eq_false hr0
        go_enter Tryd.func7, Tryd.ntmps7
        go_wp2_with fail
        go_ret2
        refine ⟨?_, rfl⟩
        rw [show meantD r0 r1 r2 true 3 = 0 from by unfold meantD; rw [if_neg (by omega), if_neg (by decide), if_neg (by decide), if_neg (by decide), if_neg (by omega)], show meantM r0 true 3 = 0 from by unfold meantM; rw [if_neg (by omega), if_neg (by decide), if_neg (by omega)]]
        rfl
    · go_enter Tryd.func7, Tryd.ntmps7
      go_wp2_with fail
      go_ret2
      exact ⟨by simp [meantD, meantM, hb], rfl⟩
  · have hz' : (lits == 0) = false := by simpa using hz
    rcases (show back = 1 ∨ back = 2 ∨ back = 3 ∨ 3 < back by omega) with rfl | rfl | rfl | hb
    · go_enter Tryd.func7, Tryd.ntmps7
      go_wp2_with fail
      go_ret2
      exact ⟨by rw [hz']; rfl, rfl⟩
    · go_enter Tryd.func7, Tryd.ntmps7
      go_wp2_with fail
      go_ret2
      exact ⟨by rw [hz']; rfl, rfl⟩
    · go_enter Tryd.func7, Tryd.ntmps7
      go_wp2_with fail
      go_ret2
      exact ⟨by rw [hz']; rfl, rfl⟩
    · go_enter Tryd.func7, Tryd.ntmps7
      go_wp2_with fail
      go_ret2
      exact ⟨by simp [meantD, meantM, hb], rfl⟩
end Go.Proofs.YtgaepmmpedaaiaaDoor
