/-
  The ledger: what each of its calls does.
  Charge, Release and Held of a ledger, and of none.
  Slices of bytes: cut, copied, appended, made.
  A window: what it holds, and its calls that put nothing.
  Room in a window's ring; bytes that fill it.
  Bytes that go into a ring which is not yet round.
-/
import Derived.Shelf.Abstract
import Derived.Shelf.RegionOpen
import Derived.WalkKit
import Derived.WalkSmall
import Derived.WalkLawsBesides
import Derived.BigQuiet
import Derived.Deep.QuietTactic
import Derived.Deep.RegionWith
import Derived.Deep.RegionHeld3
import Derived.Laws.LoneSync
import Derived.Laws.BitsAllLaws
import Derived.Test.YtnokemcogjoonaaGreatProg
import Derived.Laws.CopyRow
import Derived.Laws.IdiomCopy
import Derived.Deep.OwnRows
import Derived.BigRegion
import Derived.Deep.RegionLaw
import Derived.Test.YtnokemcogjoonaaGreatPutP1
import Derived.Test.YtnokemcogjoonaaGreatPutP2
namespace Go.Proofs.YtnokemcogjoonaaGreat
open Go.RowKit Go.Shelf
set_option linter.unusedVariables false

/-- Two numbers in one. -/
def both (now most : Nat) : Nat := most * 4294967296 + now
theorem both_lt {now most : Nat} (h1 : now ≤ 16777216) (h2 : most ≤ 16777216) : both now most < 18446744073709551616 := by unfold both; omega
theorem both_and {now most : Nat} (h1 : now ≤ 16777216) (h2 : most ≤ 16777216) : bits .and .u64 ((both now most : Nat) : Int) 4294967295 = (now : Int) := by
  rw [show (4294967295 : Int) = ((4294967295 : Nat) : Int) from rfl, u64_and_nat _ _ (both_lt h1 h2) (by decide), show (4294967295 : Nat) = 2 ^ 32 - 1 from rfl, Nat.and_two_pow_sub_one_eq_mod]
  congr 1
  unfold both
  omega
theorem both_shr {now most : Nat} (h1 : now ≤ 16777216) : ((both now most : Nat) : Int) / 4294967296 = (most : Int) := by
  unfold both
  omega
theorem both_or {now most : Nat} (h1 : now ≤ 16777216) (h2 : most ≤ 16777216) : bits .or .u64 ((most : Int) * 4294967296) (now : Int) = ((both now most : Nat) : Int) := by
  have e : ((most : Int) * 4294967296) = ((most * 4294967296 : Nat) : Int) := by omega
  rw [e, u64_or_nat _ _ (by omega) (by omega), nat_join 32 _ _ (by omega) (by omega)]
  rfl

def maxSem6 (ats : Array TypeId) (ty : TypeId) (args : Array Value) : Sem Value := Builtin.max_ ats ty args
theorem maxSem6_eq (ats : Array TypeId) (ty : TypeId) (args : Array Value) : Builtin.max_ ats ty args = maxSem6 ats ty args := rfl
theorem maxSem6_run (ats : Array TypeId) (ty : TypeId) (a b c : Int) (h : c = max a b) (w : World) : (maxSem6 ats ty #[.int .i64 a, .int .i64 b]).run Tryz.prog w = .ok (.int .i64 c) w := by
  have e : (maxSem6 ats ty #[.int .i64 a, .int .i64 b]) = pure (.int .i64 (if b > a then b else a)) := rfl
  rw [e, h, show max a b = (if b > a then b else a) from by split <;> omega]
  rfl
def minSem6 (ats : Array TypeId) (ty : TypeId) (args : Array Value) : Sem Value := Builtin.min_ ats ty args
theorem minSem6_eq (ats : Array TypeId) (ty : TypeId) (args : Array Value) : Builtin.min_ ats ty args = minSem6 ats ty args := rfl
theorem minSem6_run (ats : Array TypeId) (ty : TypeId) (a b c : Int) (h : c = min a b) (w : World) : (minSem6 ats ty #[.int .i64 a, .int .i64 b]).run Tryz.prog w = .ok (.int .i64 c) w := by
  have e : (minSem6 ats ty #[.int .i64 a, .int .i64 b]) = pure (.int .i64 (if b < a then b else a)) := rfl
  rw [e, h, show min a b = (if b < a then b else a) from by split <;> omega]
  rfl

/-- Block lb is a ledger: its budget, what is held, the most that ever was. -/
structure IsL (w : World) (lb B now most : Nat) : Prop where
  obj : w.heap[lb]? = some (.cells #[.int .i64 (B : Int), .int .u64 ((both now most : Nat) : Int)] 140 (0, 0))
  le : now ≤ most
  in_ : most ≤ B
  top : B ≤ 16777216
theorem IsL.keep {w w' : World} {S : Nat → Prop} {lb B now most : Nat} (h : IsL w lb B now most) (hk : Keep S w w') (h1 : ¬ S lb) : IsL w' lb B now most := ⟨hk.obj h.obj h1, h.le, h.in_, h.top⟩
theorem IsL.drewN {w : World} {lb B now most : Nat} (h : IsL w lb B now most) (n : Nat) : IsL (w.drewN n) lb B now most := ⟨h.obj, h.le, h.in_, h.top⟩
theorem keep_drewN (w : World) (n : Nat) : Keep noBlock w (w.drewN n) := ⟨rfl, rfl, rfl, Nat.le_refl _, fun _ _ _ => rfl⟩

/-- A budget, brought in. -/
def budget (x : Int) : Nat := (min (max x 0) 16777216).toNat

section
attribute [local go_sem] maxSem6_eq minSem6_eq
set_option maxHeartbeats 400000 in
theorem new_any (x : Int) (w : World) :
    Calls Tryz.prog 33 #[.int .i64 x] w fun e w' => e = .returned (.pointer (some ⟨w.heap.size, 0, none⟩)) ∧ IsL w' w.heap.size (budget x) 0 0 ∧ Keep noBlock w w' := by
  obtain ⟨X, hX⟩ : ∃ X : Int, X = max x 0 := ⟨_, rfl⟩
  obtain ⟨B, hB⟩ : ∃ B : Nat, B = budget x := ⟨_, rfl⟩
  have hB2 : (B : Int) = min X 16777216 := by rw [hB, hX]; unfold budget; omega
  have hB3 : B ≤ 16777216 := by omega
  rw [← hB]
  have hmax := maxSem6_run #[3, 3] 3 x 0 X hX
  have hmin := minSem6_run #[3, 3] 3 X 16777216 B hB2
  clear hX hB hB2
  go_enter Tryz.func33, Tryz.ntmps33
  go_wp2_with fail
  go_ret
  exact ⟨rfl, ⟨alloc_new w _, Nat.le_refl _, Nat.zero_le _, hB3⟩, (Keep.refl _ w).alloc _⟩
end

set_option maxHeartbeats 400000 in
theorem load_any (b off : Nat) (x : Int) (w : World) (hc : w.cell? ⟨b, off, none⟩ = some (.int .u64 x)) (hf : w.frozen? ⟨b, off, none⟩ = false) :
    Calls Tryz.prog 68 #[.pointer (some ⟨b, off, none⟩)] w fun e w' => e = .returned (.int .u64 x) ∧ w' = w := by
  have hl := run_call_load (P := Tryz.prog) Tryz.func89 (by kernel_rfl) (by kernel_rfl) (by kernel_rfl) .u64 (by kernel_rfl) hc
  go_enter Tryz.func68, Tryz.ntmps68
  go_wp2_with fail
  go_ret
  exact ⟨rfl, rfl⟩

set_option maxHeartbeats 400000 in
theorem cas_hit (b off : Nat) (x y : Int) (w : World) (hc : w.cell? ⟨b, off, none⟩ = some (.int .u64 x)) (hf : w.frozen? ⟨b, off, none⟩ = false) :
    Calls Tryz.prog 70 #[.pointer (some ⟨b, off, none⟩), .int .u64 x, .int .u64 y] w fun e w' => e = .returned (.bool true) ∧ w' = w.setCell ⟨b, off, none⟩ (.int .u64 y) := by
  have hl := run_call_cas_hit (P := Tryz.prog) Tryz.func90 (by kernel_rfl) (by kernel_rfl) (by kernel_rfl) .u64 (by kernel_rfl) (y := y) hc hf
  go_enter Tryz.func70, Tryz.ntmps70
  go_wp2_with fail
  go_ret
  exact ⟨rfl, rfl⟩

set_option maxHeartbeats 400000 in
theorem split_any (now most : Nat) (h1 : now ≤ 16777216) (h2 : most ≤ 16777216) (w : World) :
    Calls Tryz.prog 69 #[.int .u64 ((both now most : Nat) : Int)] w fun e w' => e = .returned (.tuple #[.int .i64 (now : Int), .int .i64 (most : Int)]) ∧ w' = w := by
  have e1 := both_and h1 h2
  have e2 := both_shr (most := most) h1
  have e3 := both_lt h1 h2
  go_enter Tryz.func69, Tryz.ntmps69
  go_wp2_with fail
  go_ret2
  exact ⟨rfl, rfl⟩

set_option maxHeartbeats 400000 in
theorem join_any (now most : Nat) (h1 : now ≤ 16777216) (h2 : most ≤ 16777216) (w : World) :
    Calls Tryz.prog 71 #[.int .i64 (now : Int), .int .i64 (most : Int)] w fun e w' => e = .returned (.int .u64 ((both now most : Nat) : Int)) ∧ w' = w := by
  have e1 := both_or h1 h2
  go_enter Tryz.func71, Tryz.ntmps71
  go_wp2_with fail
  go_ret
  exact ⟨rfl, rfl⟩

end Go.Proofs.YtnokemcogjoonaaGreat

namespace Go.Proofs.YtnokemcogjoonaaGreat
open Go.RowKit Go.Shelf
set_option linter.unusedVariables false

theorem IsL.now_top {w : World} {lb B now most : Nat} (h : IsL w lb B now most) : now ≤ 16777216 ∧ most ≤ 16777216 := by
  have := h.le; have := h.in_; have := h.top; omega
/-- What a swap leaves. -/
theorem IsL.swap {w : World} {lb B now most : Nat} (h : IsL w lb B now most) {now' most' : Nat} (h1 : now' ≤ most') (h2 : most' ≤ B) :
    IsL (w.setCell ⟨lb, 1, none⟩ (.int .u64 ((both now' most' : Nat) : Int))) lb B now' most' ∧ Keep (fun k => k = lb) w (w.setCell ⟨lb, 1, none⟩ (.int .u64 ((both now' most' : Nat) : Int))) :=
  ⟨⟨(set_obj h.obj 1 _).trans (by simp), h1, h2, h.top⟩, (Keep.refl (fun k => k = lb) w).setCell (p := ⟨lb, 1, none⟩) (fun _ => rfl) _⟩


set_option maxHeartbeats 400000 in
theorem charge_nil (n : Int) (w : World) : Calls Tryz.prog 50 #[.pointer none, .int .i64 n] w fun e w' => e = .returned (.int .i64 1) ∧ w' = w := by
  go_enter Tryz.func50, Tryz.ntmps50
  go_wp2_with fail
  go_ret
  exact ⟨rfl, rfl⟩
set_option maxHeartbeats 400000 in
theorem charge_arg (lb : Nat) (n : Int) (hn : n < 0) (w : World) : Calls Tryz.prog 50 #[.pointer (some ⟨lb, 0, none⟩), .int .i64 n] w fun e w' => e = .returned (.int .i64 2) ∧ w' = w := by
  go_enter Tryz.func50, Tryz.ntmps50
  go_wp2_with fail
  go_ret
  exact ⟨rfl, rfl⟩

set_option maxHeartbeats 1000000 in
/-- Charge of more than there is room. -/
theorem charge_over (lb B now most n : Nat) (hn : B < now + n) (w : World) (h : IsL w lb B now most) :
    Calls Tryz.prog 50 #[.pointer (some ⟨lb, 0, none⟩), .int .i64 (n : Int)] w fun e w' => e = .returned (.int .i64 40) ∧ w' = w := by
  obtain ⟨h1, h2⟩ := h.now_top
  have htop := h.top
  have hc0 : w.cell? ⟨lb, 0, none⟩ = some (.int .i64 (B : Int)) := cell_of h.obj 0
  have hc : w.cell? ⟨lb, 1, none⟩ = some (.int .u64 ((both now most : Nat) : Int)) := cell_of h.obj 1
  have hf := frozen_of h.obj 1
  have hn0 : ¬ (n : Int) < 0 := by omega
  have hlt : (B : Int) - now < n := by omega
  go_enter Tryz.func50, Tryz.ntmps50
  go_wp2_with fail
  refine wp_loop_rounds 1 ?_
  rw [rounds_succ]
  go_wp2_with fail
  refine (load_any lb 1 _ _ hc hf).mono ?_
  rintro e w1 ⟨rfl, rfl⟩
  go_wp2_with fail
  refine (split_any now most h1 h2 _).mono ?_
  rintro e w2 ⟨rfl, rfl⟩
  go_wp2_with fail
  go_ret
  exact ⟨rfl, rfl⟩

theorem keep_drew' {S : Nat → Prop} (w : World) (n : Nat) : Keep S w (w.drewN n) := ⟨rfl, rfl, rfl, Nat.le_refl _, fun _ _ _ => rfl⟩
theorem wrap_sub (now n : Nat) (h1 : now ≤ 16777216) (h2 : n ≤ now) : IntKind.i64.wrap ((now : Int) - n) = ((now - n : Nat) : Int) := by
  rw [IntKind.wrap_i64]
  omega
theorem join_i (now most : Nat) (ni : Int) (en : ni = (now : Int)) (h1 : now ≤ 16777216) (h2 : most ≤ 16777216) (w : World) :
    Calls Tryz.prog 71 #[.int .i64 ni, .int .i64 (most : Int)] w fun e w' => e = .returned (.int .u64 ((both now most : Nat) : Int)) ∧ w' = w := by
  subst en; exact join_any now most h1 h2 w

section
attribute [local go_sem] maxSem6_eq minSem6_eq
set_option maxHeartbeats 2000000 in
/-- Charge. -/
theorem charge_ok (lb B now most n : Nat) (hn : now + n ≤ B) (w : World) (h : IsL w lb B now most) :
    Calls Tryz.prog 50 #[.pointer (some ⟨lb, 0, none⟩), .int .i64 (n : Int)] w fun e w' => e = .returned (.int .i64 0) ∧ IsL w' lb B (now + n) (max (now + n) most) ∧ Keep (fun k => k = lb) w w' := by
  obtain ⟨h1, h2⟩ := h.now_top
  have htop := h.top
  have hin := h.in_
  have hc0 : w.cell? ⟨lb, 0, none⟩ = some (.int .i64 (B : Int)) := cell_of h.obj 0
  have hc : w.cell? ⟨lb, 1, none⟩ = some (.int .u64 ((both now most : Nat) : Int)) := cell_of h.obj 1
  have hf := frozen_of h.obj 1
  have hn0 : ¬ (n : Int) < 0 := by omega
  have hlt : ¬ (B : Int) - now < n := by omega
  obtain ⟨m', hm'⟩ : ∃ m' : Nat, m' = max (now + n) most := ⟨_, rfl⟩
  have hmax := maxSem6_run #[3, 3] 3 ((now : Int) + n) most (m' : Int) (by omega)
  have h3 : now + n ≤ 16777216 := by omega
  have h4 : m' ≤ 16777216 := by omega
  have h5 : now + n ≤ m' := by omega
  have h6 : m' ≤ B := by omega
  rw [← hm']
  clear hm'
  go_enter Tryz.func50, Tryz.ntmps50
  go_wp2_with fail
  refine wp_loop_rounds 1 ?_
  rw [rounds_succ]
  go_wp2_with fail
  refine (load_any lb 1 _ _ hc hf).mono ?_
  rintro e w1 ⟨rfl, rfl⟩
  go_wp2_with fail
  refine (split_any now most h1 h2 _).mono ?_
  rintro e w2 ⟨rfl, rfl⟩
  obtain ⟨hI, hK⟩ := (h.drewN 1).swap h5 h6
  go_wp2_with fail
  go_region_with (first | (go_at_call 71; refine (join_i (now + n) m' _ ?_ h3 h4 _).mono ?_; omega; rintro e w3 ⟨rfl, rfl⟩) | (go_at_call 70; refine (cas_hit lb 1 _ _ _ ?_ ?_).mono ?_; exact hc; exact hf; rintro e w4 ⟨rfl, rfl⟩))
  go_wp2_with fail
  go_ret
  exact ⟨rfl, hI, (keep_drew' _ 1).trans' hK⟩
end

section

end

/-- What Charge(n) answers, what is held then, the most. -/
def chargeAns (B now most : Nat) (n : Int) : Int × Nat × Nat :=
  if n < 0 then (2, now, most) else if B < now + n.toNat then (40, now, most) else (0, now + n.toNat, max (now + n.toNat) most)

theorem charge_any (lb B now most : Nat) (n : Int) (w : World) (h : IsL w lb B now most) :
    Calls Tryz.prog 50 #[.pointer (some ⟨lb, 0, none⟩), .int .i64 n] w fun e w' => e = .returned (.int .i64 (chargeAns B now most n).1) ∧ IsL w' lb B (chargeAns B now most n).2.1 (chargeAns B now most n).2.2 ∧ Keep (fun k => k = lb) w w' := by
  unfold chargeAns
  by_cases h0 : n < 0
  · rw [if_pos h0]
    refine (charge_arg lb n h0 w).mono ?_
    rintro e w' ⟨rfl, rfl⟩
    exact ⟨rfl, h, Keep.refl _ _⟩
  · rw [if_neg h0]
    obtain ⟨m, rfl⟩ : ∃ m : Nat, n = (m : Int) := ⟨n.toNat, by omega⟩
    rw [Int.toNat_natCast]
    by_cases h1 : B < now + m
    · rw [if_pos h1]
      refine (charge_over lb B now most m h1 w h).mono ?_
      rintro e w' ⟨rfl, rfl⟩
      exact ⟨rfl, h, Keep.refl _ _⟩
    · rw [if_neg h1]
      exact charge_ok lb B now most m (by omega) w h


/-- The same, the answer worked out. -/
theorem charge_i (lb B now most : Nat) (n r : Int) (now' most' : Nat) (ha : chargeAns B now most n = (r, now', most')) (w : World) (h : IsL w lb B now most) :
    Calls Tryz.prog 50 #[.pointer (some ⟨lb, 0, none⟩), .int .i64 n] w fun e w' => e = .returned (.int .i64 r) ∧ IsL w' lb B now' most' ∧ Keep (fun k => k = lb) w w' := by
  have := charge_any lb B now most n w h
  rw [ha] at this
  exact this

end Go.Proofs.YtnokemcogjoonaaGreat

namespace Go.Proofs.YtnokemcogjoonaaGreat
open Go.RowKit Go.Shelf
set_option linter.unusedVariables false





theorem run_low (a : Option Addr) (len cap k : Nat) (h1 : k ≤ len) (w : World) :
    (sliceSem 22 (.slice a len cap) (some (.int .i64 (k : Int))) none none).run Tryz.prog w = .ok (.slice (if cap = k then a else a.map (fun x => x.add k)) (len - k) (cap - k)) w := by
  obtain ⟨i0, hi, hz0, hz1, hz2⟩ := info_parts info5
  simp [sliceSem, Instr.slice, run_underlying Tryz.underlying22, Instr.sliceBounds, Instr.sliceBound, asIntOf, h1, sizeOf, typeInfo, hi, hz1]
theorem run_high (a : Option Addr) (len cap k : Nat) (h1 : k ≤ cap) (w : World) :
    (sliceSem 22 (.slice a len cap) none (some (.int .i64 (k : Int))) none).run Tryz.prog w = .ok (.slice a k cap) w := by
  obtain ⟨i0, hi, hz0, hz1, hz2⟩ := info_parts info5
  have e : (if cap = 0 then a else a.map (fun x => x.add 0)) = a := by
    split
    · rfl
    · cases a <;> simp [Addr.add]
  simp [sliceSem, Instr.slice, run_underlying Tryz.underlying22, Instr.sliceBounds, Instr.sliceBound, asIntOf, h1, sizeOf, typeInfo, hi, e]






end Go.Proofs.YtnokemcogjoonaaGreat

namespace Go.Proofs.YtnokemcogjoonaaGreat
open Go.RowKit Go.Shelf
set_option linter.unusedVariables false

/-- Block wb is a window: its size, its ledger, its ring. -/
structure IsR (w : World) (wb lb s : Nat) (rv : Value) (R : List Nat) (o : Nat) : Prop where
  obj : w.heap[wb]? = some (.cells #[.int .i64 (s : Int), .pointer (some ⟨lb, 0, none⟩), rv, .int .i64 (o : Int)] 114 (0, 0))
  own : w.ownsRow 0 5 1 rv R.length (u8s R)
  lt : ∀ j : Nat, R[j]?.getD 0 < 256
  s1 : 1 ≤ s
  s2 : s ≤ 16777216
  le : R.length ≤ s
  o_ : o < s
  rd : o = 0 ∨ R.length = s
theorem IsR.keep {w w' : World} {S : Nat → Prop} {wb lb s o : Nat} {rv : Value} {R : List Nat} (h : IsR w wb lb s rv R o) (hk : Keep S w w') (h1 : ¬ S wb) (h2 : ∀ g, rv.ownBlock = some g → ¬ S g) : IsR w' wb lb s rv R o :=
  ⟨hk.obj h.obj h1, owns_kept h.own hk h2, h.lt, h.s1, h.s2, h.le, h.o_, h.rd⟩
theorem IsR.drewN {w : World} {wb lb s o : Nat} {rv : Value} {R : List Nat} (h : IsR w wb lb s rv R o) (n : Nat) : IsR (w.drewN n) wb lb s rv R o :=
  h.keep (keep_drewN w n) (fun h => h) (fun _ _ h => h)
theorem IsR.form {w : World} {wb lb s o : Nat} {rv : Value} {R : List Nat} (h : IsR w wb lb s rv R o) : ∃ a cap g, rv = .slice a R.length cap ∧ Bytes w a cap g 0 R ∧ (a = none ∧ R = [] ∨ a = some ⟨g, 0, none⟩ ∧ ∃ cur, w.heap[g]? = some (.cells cur 5 (0, 0)) ∧ cur.size = cap ∧ cur.toList.take R.length = u8s R ∧ cap ≤ maxLen) :=
  bytes_own h.own h.lt (by have := h.le; have := h.s2; omega)
theorem IsR.ole {w : World} {wb lb s o : Nat} {rv : Value} {R : List Nat} (h : IsR w wb lb s rv R o) : o ≤ R.length := by
  have := h.o_; rcases h.rd with e | e <;> omega
/-- .. by the bytes that it holds, the oldest first. -/
def IsW (w : World) (wb lb s : Nat) (rv : Value) (M : List Nat) : Prop := ∃ R o, IsR w wb lb s rv R o ∧ unr R o = M
theorem IsW.keep {w w' : World} {S : Nat → Prop} {wb lb s : Nat} {rv : Value} {M : List Nat} (h : IsW w wb lb s rv M) (hk : Keep S w w') (h1 : ¬ S wb) (h2 : ∀ g, rv.ownBlock = some g → ¬ S g) : IsW w' wb lb s rv M := by
  obtain ⟨R, o, h, e⟩ := h
  exact ⟨R, o, h.keep hk h1 h2, e⟩
theorem IsW.len {w : World} {wb lb s : Nat} {rv : Value} {M : List Nat} (h : IsW w wb lb s rv M) : M.length ≤ s ∧ 1 ≤ s ∧ s ≤ 16777216 := by
  obtain ⟨R, o, h, e⟩ := h
  subst e
  rw [unr_length]
  exact ⟨h.le, h.s1, h.s2⟩
theorem IsW.lt {w : World} {wb lb s : Nat} {rv : Value} {M : List Nat} (h : IsW w wb lb s rv M) : ∀ j : Nat, M[j]?.getD 0 < 256 := by
  obtain ⟨R, o, h, e⟩ := h
  subst e
  exact lt_app (lt_drop h.lt _) (lt_take h.lt _)
theorem IsW.block {w : World} {wb lb s : Nat} {rv : Value} {M : List Nat} (h : IsW w wb lb s rv M) : wb < w.heap.size := by
  obtain ⟨R, o, h, e⟩ := h
  exact obj_lt h.obj
theorem IsW.ring_ne {w : World} {wb lb s : Nat} {rv : Value} {M : List Nat} (h : IsW w wb lb s rv M) {b : Nat} {cs : Array Value} {t : Nat} (ho : w.heap[b]? = some (.cells cs t (0, 0))) (ht : t ≠ 5) : rv.ownBlock ≠ some b := by
  obtain ⟨R, o, h, e⟩ := h
  exact owns_ne h.own ho ht
theorem IsW.ring_lt {w : World} {wb lb s : Nat} {rv : Value} {M : List Nat} (h : IsW w wb lb s rv M) {g : Nat} (hg : rv.ownBlock = some g) : g < w.heap.size := by
  obtain ⟨R, o, h, e⟩ := h
  rcases h.own.2 with ⟨rfl, _⟩ | ⟨g', cap, cur, rfl, _, hh, _⟩
  · cases hg
  · obtain rfl : g' = g := by simpa [Value.ownBlock] using hg
    exact obj_lt hh
/-- Block wb is a window that was dropped. -/
def IsDrop (w : World) (wb : Nat) : Prop := w.heap[wb]? = some (.cells #[.int .i64 0, .pointer none, .slice none 0 0, .int .i64 0] 114 (0, 0))

set_option maxHeartbeats 1000000 in
theorem place_any (wb lb s o : Nat) (rv : Value) (R : List Nat) (back : Nat) (w : World) (h : IsR w wb lb s rv R o) (h1 : 1 ≤ back) (h2 : back ≤ R.length) :
    Calls Tryz.prog 108 #[.pointer (some ⟨wb, 0, none⟩), .int .i64 (back : Int)] w fun e w' => e = .returned (.int .i64 ((place R.length o back : Nat) : Int)) ∧ ∃ n, w' = w.drewN n := by
  obtain ⟨a, cap, g, rfl, -, -⟩ := h.form
  have c2 : w.cell? ⟨wb, 2, none⟩ = some (.slice a R.length cap) := cell_of h.obj 2
  have c3 : w.cell? ⟨wb, 3, none⟩ = some (.int .i64 (o : Int)) := cell_of h.obj 3
  have hle := h.le
  have hs2 := h.s2
  have ho := h.o_
  obtain ⟨p, hpe⟩ : ∃ p, p = place R.length o back := ⟨_, rfl⟩
  have hp : if back ≤ o then (o : Int) - back = (p : Int) else (o : Int) - back + R.length = (p : Int) := by rw [hpe]; unfold place; by_cases hb : back ≤ o <;> simp only [hb, if_true, if_false] <;> omega
  rw [← hpe]
  clear h hpe
  by_cases hb : back ≤ o
  · rw [if_pos hb] at hp
    have hbI : (back : Int) ≤ (o : Int) := by omega
    go_enter Tryz.func108, Tryz.ntmps108
    go_wp2_with fail
    go_ret
    exact ⟨rfl, 0, rfl⟩
  · rw [if_neg hb] at hp
    have hbI : ¬ (back : Int) ≤ (o : Int) := by omega
    go_enter Tryz.func108, Tryz.ntmps108
    go_wp2_with fail
    go_quiet (fail)
    go_wp2_with fail
    go_ret
    exact ⟨rfl, _, rfl⟩

set_option maxHeartbeats 1000000 in
theorem reaches_cell (wb : Nat) (a : Option Addr) (n cap : Nat) (back : Int) (w : World) (c2 : w.cell? ⟨wb, 2, none⟩ = some (.slice a n cap)) :
    Calls Tryz.prog 103 #[.pointer (some ⟨wb, 0, none⟩), .int .i64 back] w fun e w' => e = .returned (.bool (decide (1 ≤ back ∧ back ≤ n))) ∧ w' = w := by
  by_cases h1 : 1 ≤ back
  · by_cases h2 : back ≤ n
    · have e : decide (1 ≤ back ∧ back ≤ (n : Int)) = true := decide_eq_true ⟨h1, h2⟩
      rw [e]
      go_enter Tryz.func103, Tryz.ntmps103
      go_wp2_with fail
      go_ret
      exact ⟨rfl, rfl⟩
    · have e : decide (1 ≤ back ∧ back ≤ (n : Int)) = false := decide_eq_false (fun h => h2 h.2)
      rw [e]
      go_enter Tryz.func103, Tryz.ntmps103
      go_wp2_with fail
      go_ret
      exact ⟨rfl, rfl⟩
  · have e : decide (1 ≤ back ∧ back ≤ (n : Int)) = false := decide_eq_false (fun h => h1 h.1)
    rw [e]
    go_enter Tryz.func103, Tryz.ntmps103
    go_wp2_with fail
    go_ret
    exact ⟨rfl, rfl⟩

set_option maxHeartbeats 1000000 in
theorem at_ok (wb lb s : Nat) (rv : Value) (M : List Nat) (back : Nat) (w : World) (h : IsW w wb lb s rv M) (h1 : 1 ≤ back) (h2 : back ≤ M.length) :
    Calls Tryz.prog 96 #[.pointer (some ⟨wb, 0, none⟩), .int .i64 (back : Int)] w fun e w' => e = .returned (.tuple #[.int .u8 ((M[M.length - back]?.getD 0 : Nat) : Int), .bool true]) ∧ ∃ n, w' = w.drewN n := by
  obtain ⟨R, o, h, rfl⟩ := h
  rw [unr_length] at h2 ⊢
  obtain ⟨a, cap, g, rfl, hB, -⟩ := h.form
  have c2 : w.cell? ⟨wb, 2, none⟩ = some (.slice a R.length cap) := cell_of h.obj 2
  have HP := fun n : Nat => place_any wb lb s o _ R back (w.drewN n) (h.drewN n) h1 h2
  have hr := reaches_cell wb a R.length cap (back : Int) w c2
  rw [decide_eq_true (show 1 ≤ (back : Int) ∧ (back : Int) ≤ (R.length : Int) by omega)] at hr
  have hpl := place_lt R.length o back h.ole h1 h2
  have hpa := place_at R o back h.ole h1 h2
  have hle := h.le
  have hs2 := h.s2
  have hc := hB.cells (place R.length o back) hpl
  rw [hpa] at hc
  obtain rfl : a = some ⟨g, 0, none⟩ := hB.at_.resolve_right (by rintro rfl; simp at hpl)
  generalize place R.length o back = p at HP hpl hc
  generalize (unr R o)[R.length - back]?.getD 0 = x at hc
  rw [Nat.zero_add] at hc
  generalize R.length = n at *
  have hpI : (p : Int) < (n : Int) := by omega
  clear h hB hpa
  go_enter Tryz.func96, Tryz.ntmps96
  go_wp2_with fail
  refine hr.mono ?_
  rintro e w1 ⟨rfl, rfl⟩
  clear hr
  go_wp2_with fail
  go_quiet (first | (go_at_call 108; refine Calls.quiet_of (HP _)))
  go_wp2_with fail
  go_ret2
  exact ⟨rfl, _, rfl⟩

set_option maxHeartbeats 1000000 in
theorem at_none (wb : Nat) (a : Option Addr) (n cap : Nat) (back : Int) (w : World) (c2 : w.cell? ⟨wb, 2, none⟩ = some (.slice a n cap)) (hb : ¬ (1 ≤ back ∧ back ≤ (n : Int))) :
    Calls Tryz.prog 96 #[.pointer (some ⟨wb, 0, none⟩), .int .i64 back] w fun e w' => e = .returned (.tuple #[.int .u8 0, .bool false]) ∧ w' = w := by
  have hr := reaches_cell wb a n cap back w c2
  rw [decide_eq_false hb] at hr
  go_enter Tryz.func96, Tryz.ntmps96
  go_wp2_with fail
  refine hr.mono ?_
  rintro e w1 ⟨rfl, rfl⟩
  go_wp2_with fail
  go_ret2
  exact ⟨rfl, rfl⟩

/-! Of none. -/
set_option maxHeartbeats 1000000 in
theorem at_nil (back : Int) (w : World) : Calls Tryz.prog 96 #[.pointer none, .int .i64 back] w fun e w' => e = .returned (.tuple #[.int .u8 0, .bool false]) ∧ w' = w := by
  go_enter Tryz.func96, Tryz.ntmps96
  go_wp2_with fail
  go_ret2
  exact ⟨rfl, rfl⟩
set_option maxHeartbeats 1000000 in
theorem put_nil (v : Value) (w : World) : Calls Tryz.prog 22 #[.pointer none, v] w fun e w' => e = .returned (.tuple #[]) ∧ w' = w := by
  go_enter Tryz.func22, Tryz.ntmps22
  go_wp2_with fail
  (try simp only [Exit.inBlock, Exit.then]); refine bodyPost_ret (results_none rfl _ _ _) rfl ?_
  exact ⟨rfl, rfl⟩
set_option maxHeartbeats 1000000 in
theorem copy_nil (back n : Int) (w : World) : Calls Tryz.prog 78 #[.pointer none, .int .i64 back, .int .i64 n] w fun e w' => e = .returned (.tuple #[.slice none 0 0, .int .i64 1]) ∧ w' = w := by
  go_enter Tryz.func78, Tryz.ntmps78
  go_wp2_with fail
  go_ret2
  exact ⟨rfl, rfl⟩

/-! Of one that was dropped. -/
set_option maxHeartbeats 1000000 in
theorem put_gone (wb : Nat) (v : Value) (w : World) (h : IsDrop w wb) : Calls Tryz.prog 22 #[.pointer (some ⟨wb, 0, none⟩), v] w fun e w' => e = .returned (.tuple #[]) ∧ w' = w := by
  have c0 : w.cell? ⟨wb, 0, none⟩ = some (.int .i64 0) := cell_of h 0
  go_enter Tryz.func22, Tryz.ntmps22
  go_wp2_with fail
  (try simp only [Exit.inBlock, Exit.then]); refine bodyPost_ret (results_none rfl _ _ _) rfl ?_
  exact ⟨rfl, rfl⟩
set_option maxHeartbeats 1000000 in
theorem copy_gone (wb : Nat) (back n : Int) (w : World) (h : IsDrop w wb) : Calls Tryz.prog 78 #[.pointer (some ⟨wb, 0, none⟩), .int .i64 back, .int .i64 n] w fun e w' => e = .returned (.tuple #[.slice none 0 0, .int .i64 5]) ∧ w' = w := by
  have c0 : w.cell? ⟨wb, 0, none⟩ = some (.int .i64 0) := cell_of h 0
  go_enter Tryz.func78, Tryz.ntmps78
  go_wp2_with fail
  go_ret2
  exact ⟨rfl, rfl⟩

end Go.Proofs.YtnokemcogjoonaaGreat

namespace Go.Proofs.YtnokemcogjoonaaGreat
open Go.RowKit Go.Shelf
set_option linter.unusedVariables false

/-- The ring's block: the old one, or one that is new since w. -/
def Near (w : World) (v v' : Value) : Prop := v'.ownBlock = v.ownBlock ∨ ∃ k, v'.ownBlock = some k ∧ w.heap.size ≤ k
theorem Near.refl (w : World) (v : Value) : Near w v v := .inl rfl
theorem Near.trans {w w1 : World} {v v1 v2 : Value} (h1 : Near w v v1) (h2 : Near w1 v1 v2) (hs : w.heap.size ≤ w1.heap.size) : Near w v v2 := by
  rcases h2 with e | ⟨k, e, hk⟩
  · rcases h1 with e1 | ⟨k, e1, hk⟩
    · exact .inl (e.trans e1)
    · exact .inr ⟨k, e.trans e1, hk⟩
  · exact .inr ⟨k, e, by omega⟩

section
attribute [local go_sem] maxSem6_eq minSem6_eq
set_option maxHeartbeats 2000000 in
theorem grow_any (wb lb s o : Nat) (rv : Value) (R : List Nat) (n : Nat) (w : World) (h : IsR w wb lb s rv R o) (h1 : R.length ≤ n) (h2 : n ≤ s) :
    Calls Tryz.prog 51 #[.pointer (some ⟨wb, 0, none⟩), .int .i64 (n : Int)] w fun e w' => e = .returned (.tuple #[]) ∧ ∃ rv', IsR w' wb lb s rv' R o ∧ Near w rv rv' ∧ Keep (fun k => k = wb) w w' := by
  obtain ⟨a, cap, g, rfl, hB, hrow⟩ := h.form
  have c0 : w.cell? ⟨wb, 0, none⟩ = some (.int .i64 (s : Int)) := cell_of h.obj 0
  have c2 : w.cell? ⟨wb, 2, none⟩ = some (.slice a R.length cap) := cell_of h.obj 2
  by_cases hn : n ≤ cap
  · have hI : (n : Int) ≤ (cap : Int) := by omega
    go_enter Tryz.func51, Tryz.ntmps51
    go_wp2_with fail
    (try simp only [Exit.inBlock, Exit.then]); refine bodyPost_ret (results_none rfl _ _ _) rfl ?_
    exact ⟨rfl, _, h, Near.refl _ _, Keep.refl _ _⟩
  · have hI : ¬ (n : Int) ≤ (cap : Int) := by omega
    have hs2 := h.s2
    have hle := h.le
    obtain ⟨C2, hC2⟩ : ∃ C2 : Nat, C2 = 2 * cap := ⟨_, rfl⟩
    have hwr : IntKind.i64.wrap (2 * (cap : Int)) = (C2 : Int) := by rw [IntKind.wrap_i64]; omega
    obtain ⟨X, hX⟩ : ∃ X : Nat, X = max n C2 := ⟨_, rfl⟩
    obtain ⟨c, hc⟩ : ∃ c : Nat, c = min X s := ⟨_, rfl⟩
    have hlc : R.length ≤ c := by omega
    have hcs : c ≤ 16777216 := by omega
    have hmax := maxSem6_run #[3, 3] 3 (n : Int) (C2 : Int) (X : Int) (by omega)
    have hmin := minSem6_run #[3, 3] 3 (X : Int) (s : Int) (c : Int) (by omega)
    have hmk := run_make_u8 R.length c hlc (by omega)
    have hne : wb < w.heap.size := obj_lt h.obj
    have hcap2 : 2 * (cap : Int) < 9223372036854775808 := by omega
    have HH := (show Hid (IsR w wb lb s (.slice a R.length cap) R o ∧ Bytes w a cap g 0 R) from ⟨h, hB⟩)
    clear hB hrow h hX hc hC2 hcap2
    go_enter Tryz.func51, Tryz.ntmps51
    go_wp2_with fail
    go_region_held3 (fun w' => w'.cell? ⟨wb, 0, none⟩ = some (.int .i64 (s : Int)) ∧ w'.cell? ⟨wb, 2, none⟩ = some (.slice a R.length cap)) (go_keep) ((fail))
    obtain ⟨W1, hW1⟩ : ∃ W1, W1 = (w.alloc (.cells (u8s (List.replicate c 0)).toArray 5)).drew := ⟨_, rfl⟩
    rw [← hW1]
    have k1 : Keep noBlock w W1 := by rw [hW1]; exact ((Keep.refl noBlock w).alloc _).drew
    have r1 : W1.heap[w.heap.size]? = some (.cells (u8s (List.replicate c 0)).toArray 5 (0, 0)) := by rw [hW1]; exact alloc_new w _
    clear hW1 hmk
    have hcopy := run_copy_any W1 3 w.heap.size 0 R.length c (some ⟨w.heap.size, 0, none⟩) (.slice a R.length cap) R (u8s (List.replicate c 0)).toArray R.length (HH.out.2.keep k1 (fun _ h => h)).src (by omega) (.inl rfl) r1 (by simp [u8s]; omega)
    have k2 := keep_setRow k1 w.heap.size (fun h => absurd h (Nat.lt_irrefl _)) ((u8s (List.replicate c 0)).toArray.toList.take 0 ++ u8s (R.take R.length) ++ (u8s (List.replicate c 0)).toArray.toList.drop (0 + R.length)).toArray
    have r2 := setRow_heap W1 w.heap.size (u8s (List.replicate c 0)).toArray ((u8s (List.replicate c 0)).toArray.toList.take 0 ++ u8s (R.take R.length) ++ (u8s (List.replicate c 0)).toArray.toList.drop (0 + R.length)).toArray 5 (0, 0) r1
    have er : ((u8s (List.replicate c 0)).toArray.toList.take 0 ++ u8s (R.take R.length) ++ (u8s (List.replicate c 0)).toArray.toList.drop (0 + R.length)).toArray = (u8s (R ++ List.replicate (c - R.length) 0)).toArray := by simp [u8s]
    rw [er] at hcopy k2 r2
    clear er
    generalize W1.setRow w.heap.size (u8s (R ++ List.replicate (c - R.length) 0)).toArray = W2 at hcopy k2 r2
    have o2 := k2.obj HH.out.1.obj (fun h => h)
    have g2 : W1.cell? ⟨wb, 2, none⟩ = some (.slice a R.length cap) := cell_of (k1.obj HH.out.1.obj (fun h => h)) 2
    have d2 : W2.cell? ⟨wb, 2, none⟩ = some (.slice a R.length cap) := cell_of o2 2
    have f2 := frozen_of o2 2
    have HF := (show Hid (Keep noBlock w W2 ∧ W2.heap[w.heap.size]? = some (.cells (u8s (R ++ List.replicate (c - R.length) 0)).toArray 5 (0, 0)) ∧ W2.heap[wb]? = some (.cells #[.int .i64 (s : Int), .pointer (some ⟨lb, 0, none⟩), .slice a R.length cap, .int .i64 (o : Int)] 114 (0, 0))) from ⟨k2, r2, o2⟩)
    clear k1 r1 k2 r2 o2 c0 c2
    go_wp2_with fail
    go_end0
    obtain ⟨k2, r2, o2⟩ := HF.out
    have h := HH.out.1
    refine ⟨rfl, .slice (some ⟨w.heap.size, 0, none⟩) R.length c, ⟨(set_obj o2 2 _).trans (by simp), ?_, h.lt, h.s1, h.s2, h.le, h.o_, h.rd⟩, .inr ⟨_, rfl, Nat.le_refl _⟩, (k2.mono (T := fun k => k = wb) (fun _ _ h => h.elim)).setCell (p := ⟨wb, 2, none⟩) (fun _ => rfl) _⟩
    exact owns_mk (set_far r2 (by omega) 2 _) hlc (by unfold maxLen; omega) (by simp [u8s]; omega) (by simp [u8s])
end
end Go.Proofs.YtnokemcogjoonaaGreat

namespace Go.Proofs.YtnokemcogjoonaaGreat
open Go.RowKit Go.Shelf
set_option linter.unusedVariables false


section
attribute [local go_sem] maxSem6_eq minSem6_eq
attribute [local go_sem] sliceSem_eq
set_option maxHeartbeats 2000000 in
theorem fill_any (wb lb s o : Nat) (rv : Value) (R : List Nat) (a : Option Addr) (cap gb off : Nat) (bs : List Nat) (t : Nat) (w : World) (h : IsR w wb lb s rv R o) (hb : Bytes w a cap gb off bs)
    (hne : bs ≠ [] → gb ≠ wb) (ht : t = min bs.length (s - R.length)) :
    Calls Tryz.prog 34 #[.pointer (some ⟨wb, 0, none⟩), .slice a bs.length cap] w fun e w' => e = .returned (.int .i64 (t : Int)) ∧ ∃ rv', IsR w' wb lb s rv' (R ++ bs.take t) o ∧ Near w rv rv' ∧ Keep (fun k => k = wb ∨ rv.ownBlock = some k) w w' := by
  obtain ⟨ra, rcap, rg, hrv, -, -⟩ := h.form
  have c0 : w.cell? ⟨wb, 0, none⟩ = some (.int .i64 (s : Int)) := cell_of h.obj 0
  have c2 : w.cell? ⟨wb, 2, none⟩ = some (.slice ra R.length rcap) := by rw [← hrv]; exact cell_of h.obj 2
  have hle := h.le
  have hs2 := h.s2
  have hcap := hb.cap
  have hlen := hb.len
  obtain ⟨d, hd⟩ : ∃ d : Nat, d = s - R.length := ⟨_, rfl⟩
  have hsub : (s : Int) - (R.length : Int) = (d : Int) := by omega
  have hwd : IntKind.i64.wrap (d : Int) = (d : Int) := by rw [IntKind.wrap_i64]; omega
  have hmin := minSem6_run #[3, 3] 3 (bs.length : Int) (d : Int) (t : Int) (by omega)
  have htl : t ≤ bs.length := by omega
  obtain ⟨n, hn⟩ : ∃ n : Nat, n = R.length + t := ⟨_, rfl⟩
  have hadd : (R.length : Int) + (t : Int) = (n : Int) := by omega
  obtain ⟨hsl, hbt⟩ := hb.take t htl
  have hlt : (bs.take t).length = t := by rw [List.length_take]; omega
  rw [hlt] at hsl
  have HH := (show Hid (IsR w wb lb s rv R o ∧ Bytes w a cap gb off (bs.take t) ∧ (bs.take t ≠ [] → gb ≠ wb)) from ⟨h, hbt, fun e => hne (by rintro rfl; simp at e)⟩)
  have hnt : n ≤ s := by omega
  have hrd : o = 0 ∨ (R ++ bs.take t).length = s := by
    rw [List.length_append, hlt]
    rcases h.rd with e | e
    · exact .inl e
    · right; omega
  have HRD := (show Hid (o = 0 ∨ (R ++ bs.take t).length = s) from hrd)
  have hnR : R.length ≤ n := by omega
  generalize hL : bs.length = L at *
  clear h hb hbt hrd ht hd hn
  go_enter Tryz.func34, Tryz.ntmps34
  go_wp2_with fail
  go_region_held3 (fun w' => w'.cell? ⟨wb, 0, none⟩ = some (.int .i64 (s : Int)) ∧ w'.cell? ⟨wb, 2, none⟩ = some (.slice ra R.length rcap)) (go_keep) ((fail))
  go_wp2_with fail
  have k0 : Keep noBlock w w.drew := (Keep.refl _ w).drew
  have hg := grow_any wb lb s o rv R n w.drew (HH.out.1.keep k0 (fun h => h) (fun _ _ h => h)) hnR hnt
  refine hg.mono ?_
  clear hg c0 c2
  rintro e W2 ⟨rfl, rv2, h2, n2, k2⟩
  have kw : Keep (fun k => k = wb) w W2.drew := ((k0.mono (fun _ _ h => h.elim)).trans' k2).drew
  have hbt2 := HH.out.2.1.keep kw HH.out.2.2
  have h2' : IsR W2.drew wb lb s rv2 R o := h2.keep (S := noBlock) (Keep.refl _ W2).drew (fun h => h) (fun _ _ h => h)
  obtain ⟨ra2, rcap2, rg2, hrv2, -, -⟩ := h2.form
  have c2 : W2.cell? ⟨wb, 2, none⟩ = some (.slice ra2 R.length rcap2) := by rw [← hrv2]; exact cell_of h2.obj 2
  obtain ⟨v3, W3, hr3, own3, k3, n3⟩ := run_append_all W2.drew 22 rv2 R (bs.take t) h2'.own (by rw [hlt]; omega) (.slice a t cap) (by have := hbt2.src; rwa [hlt] at this)
  have hw3 : rv2.ownBlock ≠ some wb := owns_ne h2'.own h2'.obj (by decide)
  have o3 := k3.obj h2'.obj hw3
  have c3 : W3.cell? ⟨wb, 2, none⟩ = some (.slice ra2 R.length rcap2) := by rw [← hrv2]; exact cell_of o3 2
  have f3 := frozen_of o3 2
  have hw4 : v3.ownBlock ≠ some wb := owns_ne own3 o3 (by decide)
  have own4 : (W3.setCell ⟨wb, 2, none⟩ v3).ownsRow 0 5 1 v3 (R ++ bs.take t).length (u8s (R ++ bs.take t)) := owns_kept own3 ((Keep.refl (fun k => k = wb) W3).setCell (p := ⟨wb, 2, none⟩) (fun _ => rfl) _) (fun g hg e => hw4 (by rw [hg, e]))
  have k4 : Keep (fun k => k = wb ∨ rv.ownBlock = some k) w (W3.setCell ⟨wb, 2, none⟩ v3) := by
    refine (Keep.trans (kw.mono (fun _ _ e => .inl e)) k3 (fun i hi e => ?_)).setCell (p := ⟨wb, 2, none⟩) (fun _ => .inl rfl) _
    rcases n2 with q | ⟨k, q, hk⟩
    · exact .inr (q ▸ e)
    · rw [q] at e
      have : k = i := by simpa using e
      have : w.heap.size ≤ k := hk
      omega
  have n4 : Near w rv v3 := (show Near w rv rv2 from n2).trans (w1 := W2.drew) n3 kw.size
  have HF := (show Hid (IsR (W3.setCell ⟨wb, 2, none⟩ v3) wb lb s v3 (R ++ bs.take t) o ∧ Near w rv v3 ∧ Keep (fun k => k = wb ∨ rv.ownBlock = some k) w (W3.setCell ⟨wb, 2, none⟩ v3)) from
    ⟨⟨(set_obj o3 2 _).trans (by simp), own4, lt_app h2.lt hbt2.lt, h2.s1, h2.s2, by rw [List.length_append, hlt]; omega, h2.o_, HRD.out⟩, n4, k4⟩)
  obtain ⟨va, vn, vc, rfl⟩ : ∃ va vn vc, v3 = .slice va vn vc := by
    rcases own3.2 with ⟨e, _⟩ | ⟨g, c', cur, e, _⟩
    · exact ⟨_, _, _, e⟩
    · exact ⟨_, _, _, e⟩
  rw [hrv2] at hr3
  clear own3 own4 k3 n3 k4 n4 hw3 hw4 o3 h2' h2 n2 k2 k0 kw hbt2
  go_wp2_with fail
  go_region_law (refine step_append_run _ (by rfl) _ _ 22 (by rfl) (.slice ra2 R.length rcap2) (.slice a t cap) (.slice va vn vc) W3 (by rfl) (by rfl) hr3 ?_)
  go_wp2_with fail
  go_ret
  exact ⟨rfl, _, HF.out⟩
end
end Go.Proofs.YtnokemcogjoonaaGreat
