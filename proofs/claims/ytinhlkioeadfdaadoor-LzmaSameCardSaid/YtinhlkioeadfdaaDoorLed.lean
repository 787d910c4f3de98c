/-
  The ledger: what each of its calls does.
-/
import Derived.Shelf.Abstract
import Derived.Shelf.RegionOpen
import Derived.WalkKit
import Derived.WalkSmall
import Derived.WalkLawsBesides
import Derived.BigQuiet
import Derived.Deep.QuietTactic
import Derived.Deep.RegionWith
import Derived.Deep.RegionHeld3
import Derived.Laws.LoneSync
import Derived.Laws.BitsAllLaws
import Derived.Test.YtinhlkioeadfdaaDoorProg
import Derived.Test.YtinhlkioeadfdaaDoorByt
namespace Go.Proofs.YtinhlkioeadfdaaDoor
open Go.RowKit Go.Shelf
set_option linter.unusedVariables false

/-- Two numbers in one. -/
def both (now most : Nat) : Nat := most * 4294967296 + now
theorem both_lt {now most : Nat} (h1 : now ≤ 16777216) (h2 : most ≤ 16777216) : both now most < 18446744073709551616 := by unfold both; omega
theorem both_and {now most : Nat} (h1 : now ≤ 16777216) (h2 : most ≤ 16777216) : bits .and .u64 ((both now most : Nat) : Int) 4294967295 = (now : Int) := by
  rw [show (4294967295 : Int) = ((4294967295 : Nat) : Int) from rfl, u64_and_nat _ _ (both_lt h1 h2) (by decide), show (4294967295 : Nat) = 2 ^ 32 - 1 from rfl, Nat.and_two_pow_sub_one_eq_mod]
  congr 1
  unfold both
  omega
theorem both_shr {now most : Nat} (h1 : now ≤ 16777216) : ((both now most : Nat) : Int) / 4294967296 = (most : Int) := by
  unfold both
  omega
theorem both_or {now most : Nat} (h1 : now ≤ 16777216) (h2 : most ≤ 16777216) : bits .or .u64 ((most : Int) * 4294967296) (now : Int) = ((both now most : Nat) : Int) := by
  have e : ((most : Int) * 4294967296) = ((most * 4294967296 : Nat) : Int) := by omega
  rw [e, u64_or_nat _ _ (by omega) (by omega), nat_join 32 _ _ (by omega) (by omega)]
  rfl

def maxSem6 (ats : Array TypeId) (ty : TypeId) (args : Array Value) : Sem Value := Builtin.max_ ats ty args
theorem maxSem6_eq (ats : Array TypeId) (ty : TypeId) (args : Array Value) : Builtin.max_ ats ty args = maxSem6 ats ty args := rfl
theorem maxSem6_run (ats : Array TypeId) (ty : TypeId) (a b c : Int) (h : c = max a b) (w : World) : (maxSem6 ats ty #[.int .i64 a, .int .i64 b]).run Tryd.prog w = .ok (.int .i64 c) w := by
  have e : (maxSem6 ats ty #[.int .i64 a, .int .i64 b]) = pure (.int .i64 (if b > a then b else a)) := rfl
  rw [e, h, show max a b = (if b > a then b else a) from by split <;> omega]
  rfl
def minSem6 (ats : Array TypeId) (ty : TypeId) (args : Array Value) : Sem Value := Builtin.min_ ats ty args
theorem minSem6_eq (ats : Array TypeId) (ty : TypeId) (args : Array Value) : Builtin.min_ ats ty args = minSem6 ats ty args := rfl
theorem minSem6_run (ats : Array TypeId) (ty : TypeId) (a b c : Int) (h : c = min a b) (w : World) : (minSem6 ats ty #[.int .i64 a, .int .i64 b]).run Tryd.prog w = .ok (.int .i64 c) w := by
  have e : (minSem6 ats ty #[.int .i64 a, .int .i64 b]) = pure (.int .i64 (if b < a then b else a)) := rfl
  rw [e, h, show min a b = (if b < a then b else a) from by split <;> omega]
  rfl

/-- Block lb is a ledger: its budget, what is held, the most that ever was. -/
structure IsL (w : World) (lb B now most : Nat) : Prop where
  obj : w.heap[lb]? = some (.cells #[.int .i64 (B : Int), .int .u64 ((both now most : Nat) : Int)] 83 (0, 0))
  le : now ≤ most
  in_ : most ≤ B
  top : B ≤ 16777216
theorem IsL.keep {w w' : World} {S : Nat → Prop} {lb B now most : Nat} (h : IsL w lb B now most) (hk : Keep S w w') (h1 : ¬ S lb) : IsL w' lb B now most := ⟨hk.obj h.obj h1, h.le, h.in_, h.top⟩
theorem IsL.drewN {w : World} {lb B now most : Nat} (h : IsL w lb B now most) (n : Nat) : IsL (w.drewN n) lb B now most := ⟨h.obj, h.le, h.in_, h.top⟩
theorem keep_drewN (w : World) (n : Nat) : Keep noBlock w (w.drewN n) := ⟨rfl, rfl, rfl, Nat.le_refl _, fun _ _ _ => rfl⟩

/-- A budget, brought in. -/
def budget (x : Int) : Nat := (min (max x 0) 16777216).toNat

section
attribute [local go_sem] maxSem6_eq minSem6_eq
set_option maxHeartbeats 400000 in
theorem new_any (x : Int) (w : World) :
    Calls Tryd.prog 12 #[.int .i64 x] w fun e w' => e = .returned (.pointer (some ⟨w.heap.size, 0, none⟩)) ∧ IsL w' w.heap.size (budget x) 0 0 ∧ Keep noBlock w w' := by
  obtain ⟨X, hX⟩ : ∃ X : Int, X = max x 0 := ⟨_, rfl⟩
  obtain ⟨B, hB⟩ : ∃ B : Nat, B = budget x := ⟨_, rfl⟩
  have hB2 : (B : Int) = min X 16777216 := by rw [hB, hX]; unfold budget; omega
  have hB3 : B ≤ 16777216 := by omega
  rw [← hB]
  have hmax := maxSem6_run #[3, 3] 3 x 0 X hX
  have hmin := minSem6_run #[3, 3] 3 X 16777216 B hB2
  clear hX hB hB2
  go_enter Tryd.func12, Tryd.ntmps12
  go_wp2_with fail
  go_ret
  exact ⟨rfl, ⟨alloc_new w _, Nat.le_refl _, Nat.zero_le _, hB3⟩, (Keep.refl _ w).alloc _⟩
end

set_option maxHeartbeats 400000 in
theorem load_any (b off : Nat) (x : Int) (w : World) (hc : w.cell? ⟨b, off, none⟩ = some (.int .u64 x)) (hf : w.frozen? ⟨b, off, none⟩ = false) :
    Calls Tryd.prog 29 #[.pointer (some ⟨b, off, none⟩)] w fun e w' => e = .returned (.int .u64 x) ∧ w' = w := by
  have hl := run_call_load (P := Tryd.prog) Tryd.func43 (by kernel_rfl) (by kernel_rfl) (by kernel_rfl) .u64 (by kernel_rfl) hc
  go_enter Tryd.func29, Tryd.ntmps29
  go_wp2_with fail
  go_ret
  exact ⟨rfl, rfl⟩

set_option maxHeartbeats 400000 in
theorem cas_hit (b off : Nat) (x y : Int) (w : World) (hc : w.cell? ⟨b, off, none⟩ = some (.int .u64 x)) (hf : w.frozen? ⟨b, off, none⟩ = false) :
    Calls Tryd.prog 31 #[.pointer (some ⟨b, off, none⟩), .int .u64 x, .int .u64 y] w fun e w' => e = .returned (.bool true) ∧ w' = w.setCell ⟨b, off, none⟩ (.int .u64 y) := by
  have hl := run_call_cas_hit (P := Tryd.prog) Tryd.func44 (by kernel_rfl) (by kernel_rfl) (by kernel_rfl) .u64 (by kernel_rfl) (y := y) hc hf
  go_enter Tryd.func31, Tryd.ntmps31
  go_wp2_with fail
  go_ret
  exact ⟨rfl, rfl⟩

set_option maxHeartbeats 400000 in
theorem split_any (now most : Nat) (h1 : now ≤ 16777216) (h2 : most ≤ 16777216) (w : World) :
    Calls Tryd.prog 30 #[.int .u64 ((both now most : Nat) : Int)] w fun e w' => e = .returned (.tuple #[.int .i64 (now : Int), .int .i64 (most : Int)]) ∧ w' = w := by
  have e1 := both_and h1 h2
  have e2 := both_shr (most := most) h1
  have e3 := both_lt h1 h2
  go_enter Tryd.func30, Tryd.ntmps30
  go_wp2_with fail
  go_ret2
  exact ⟨rfl, rfl⟩

set_option maxHeartbeats 400000 in
theorem join_any (now most : Nat) (h1 : now ≤ 16777216) (h2 : most ≤ 16777216) (w : World) :
    Calls Tryd.prog 32 #[.int .i64 (now : Int), .int .i64 (most : Int)] w fun e w' => e = .returned (.int .u64 ((both now most : Nat) : Int)) ∧ w' = w := by
  have e1 := both_or h1 h2
  go_enter Tryd.func32, Tryd.ntmps32
  go_wp2_with fail
  go_ret
  exact ⟨rfl, rfl⟩

end Go.Proofs.YtinhlkioeadfdaaDoor
