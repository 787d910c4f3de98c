/-
  What a call may have turned: 'Keep S w w'': every block of w but those of S lies as it lay. Small facts on blocks and cells that are told whole.
  The document's numbers, as plain functions: the two CRCs.
  The document's XXH64, as plain functions.
  The program's XXH64: turn, round, number, and what is told of what is left.
  The program's CRCs: the table, a byte, what is told.
  The program's XXH64 as an object: what it holds, what it tells.
  What an XXH64 tells, and a new one.
  A new XXH64, and bytes that go into one.
-/
import Derived.Shelf.Abstract
import Derived.Shelf.RegionOpen
import Derived.WalkKit
import Derived.WalkSmall
import Derived.WalkLawsBesides
import Derived.BigQuiet
import Derived.BigRegion
import Derived.Deep.QuietTactic
import Derived.Deep.AppendLies
import Derived.Deep.RegionWith
import Derived.Laws.BitsAllLaws
import Derived.Test.YtnjilcokkhodmaaGreatDoorProg
import Derived.RangeFuncBox
import Derived.Laws.CopyOwn
namespace Go.Proofs.YtnjilcokkhodmaaGreatDoor.Xs
open Go.RowKit Go.Shelf
set_option linter.unusedVariables false

/-- Every block of w that is none of S lies in w' as it lay. -/
structure Keep (S : Nat → Prop) (w w' : World) : Prop where
 os : w'.os = w.os
 tape : w'.tape = w.tape
 output : w'.output = w.output
 size : w.heap.size ≤ w'.heap.size
 block : ∀ k, k < w.heap.size → ¬ S k → w'.heap[k]? = w.heap[k]?

def noBlock (_ : Nat) : Prop := False

theorem Keep.refl (S : Nat → Prop) (w : World) : Keep S w w := ⟨rfl, rfl, rfl, Nat.le_refl _, fun _ _ _ => rfl⟩
theorem Keep.mono {S T : Nat → Prop} {w w' : World} (h : Keep S w w') (hst : ∀ k, k < w.heap.size → S k → T k) : Keep T w w' :=
 ⟨h.os, h.tape, h.output, h.size, fun k hk ht => h.block k hk (fun hs => ht (hst k hk hs))⟩
theorem Keep.trans {S T : Nat → Prop} {a b c : World} (h : Keep S a b) (k : Keep T b c) (hst : ∀ i, i < a.heap.size → T i → S i) : Keep S a c :=
 ⟨k.os.trans h.os, k.tape.trans h.tape, k.output.trans h.output, Nat.le_trans h.size k.size, fun i hi hs => (k.block i (Nat.lt_of_lt_of_le hi h.size) (fun ht => hs (hst i hi ht))).trans (h.block i hi hs)⟩
theorem Keep.trans' {S : Nat → Prop} {a b c : World} (h : Keep S a b) (k : Keep S b c) : Keep S a c := h.trans k (fun _ _ h => h)
theorem Keep.drew {S : Nat → Prop} {a w : World} (h : Keep S a w) : Keep S a w.drew := ⟨h.os, h.tape, h.output, h.size, h.block⟩
theorem Keep.alloc {S : Nat → Prop} {a w : World} (h : Keep S a w) (o : Obj) : Keep S a (w.alloc o) :=
 h.trans (T := noBlock) ⟨rfl, rfl, rfl, by simp, fun k hk _ => Below.heap_alloc _ _ _ hk⟩ (fun _ _ h => h.elim)
theorem Keep.setCell {S : Nat → Prop} {a w : World} (h : Keep S a w) {p : Addr} (hp : p.block < a.heap.size → S p.block) (u : Value) : Keep S a (w.setCell p u) :=
 h.trans (T := fun k => k = p.block) ⟨rfl, rfl, rfl, by simp [World.setCell], fun k _ hk => Below.heap_setCell _ _ _ _ hk⟩ (fun i hi e => by subst e; exact hp hi)
theorem Keep.obj {S : Nat → Prop} {w w' : World} (h : Keep S w w') {b : Nat} {o : Obj} (hb : w.heap[b]? = some o) (hS : ¬ S b) : w'.heap[b]? = some o :=
 (h.block b (Array.getElem?_eq_some_iff.1 hb).1 hS).trans hb
theorem obj_lt {w : World} {b : Nat} {o : Obj} (h : w.heap[b]? = some o) : b < w.heap.size := (Array.getElem?_eq_some_iff.1 h).1
theorem cell_of {w : World} {b : Nat} {cs : Array Value} {t : TypeId} (h : w.heap[b]? = some (.cells cs t (0, 0))) (i : Nat) : w.cell? ⟨b, i, none⟩ = cs[i]? := by simp [World.cell?, h]
theorem frozen_of {w : World} {b : Nat} {cs : Array Value} {t : TypeId} (h : w.heap[b]? = some (.cells cs t (0, 0))) (i : Nat) : w.frozen? ⟨b, i, none⟩ = false := by simp [World.frozen?, h]
theorem set_obj {w : World} {b : Nat} {cs : Array Value} {t : TypeId} (h : w.heap[b]? = some (.cells cs t (0, 0))) (i : Nat) (v : Value) : (w.setCell ⟨b, i, none⟩ v).heap[b]? = some (.cells (cs.setIfInBounds i v) t (0, 0)) := by
 obtain ⟨hlt, hk⟩ := Array.getElem?_eq_some_iff.1 h
 show (w.heap.modify b _)[b]? = _
 rw [Array.getElem?_eq_getElem (by rw [Array.size_modify]; exact hlt), Array.getElem_modify_self, hk]
 rfl

def u8s (bs : List Nat) : List Value := bs.map (fun b => Value.int .u8 ((b : Nat) : Int))
theorem u8s_length (bs : List Nat) : (u8s bs).length = bs.length := by simp [u8s]
theorem u8s_one (bs : List Nat) : ∀ u ∈ u8s bs, u.oneCell' = true := by
 intro u hu
 simp only [u8s, List.mem_map] at hu
 obtain ⟨b, _, rfl⟩ := hu
 rfl
theorem u8s_at (bs : List Nat) (j : Nat) (hj : j < bs.length) : (u8s bs)[j]? = some (.int .u8 ((bs[j]?.getD 0 : Nat) : Int)) := by
 simp [u8s, hj]

end Go.Proofs.YtnjilcokkhodmaaGreatDoor.Xs

namespace Go.Proofs.YtnjilcokkhodmaaGreatDoor.Xs
open Go.RowKit Go.Shelf
set_option linter.unusedVariables false

def step (poly x : Nat) : Nat := if x % 2 = 1 then x / 2 ^^^ poly else x / 2
def steps (poly : Nat) : Nat → Nat → Nat
 | 0, x => x
 | k + 1, x => step poly (steps poly k x)
def byteIn (poly x v : Nat) : Nat := steps poly 8 (x ^^^ v)
def bytesIn (poly : Nat) (x : Nat) (bs : List Nat) : Nat := bs.foldl (byteIn poly) x

theorem step_lt {poly x n : Nat} (hp : poly < 2 ^ n) (hx : x < 2 ^ n) : step poly x < 2 ^ n := by
 unfold step
 split
 ·exact Nat.xor_lt_two_pow (by omega) hp
 ·omega
theorem steps_lt {poly x n : Nat} (hp : poly < 2 ^ n) (hx : x < 2 ^ n) (k : Nat) : steps poly k x < 2 ^ n := by
 induction k with
 | zero => exact hx
 | succ k ih => exact step_lt hp ih
theorem byteIn_lt {poly x v n : Nat} (hp : poly < 2 ^ n) (hx : x < 2 ^ n) (hv : v < 2 ^ n) : byteIn poly x v < 2 ^ n := steps_lt hp (Nat.xor_lt_two_pow hx hv) 8
theorem bytesIn_append (poly x : Nat) (bs cs : List Nat) : bytesIn poly x (bs ++ cs) = bytesIn poly (bytesIn poly x bs) cs := by simp [bytesIn]
theorem bytesIn_lt {poly n : Nat} (hp : poly < 2 ^ n) (bs : List Nat) (hb : ∀ j : Nat, bs[j]?.getD 0 < 2 ^ n) (x : Nat) (hx : x < 2 ^ n) : bytesIn poly x bs < 2 ^ n := by
 induction bs generalizing x with
 | nil => exact hx
 | cons b bs ih => exact ih (fun j => by simpa using hb (j + 1)) _ (byteIn_lt hp hx (by simpa using hb 0))

theorem half_xor (a b : Nat) : (a ^^^ b) / 2 = a / 2 ^^^ b / 2 := by
 have := Nat.shiftRight_xor_distrib (a := a) (b := b) (i := 1)
 simpa [Nat.shiftRight_eq_div_pow] using this
theorem mod_xor (a b : Nat) : (a ^^^ b) % 2 = (a % 2 + b % 2) % 2 := by
 have h := Nat.xor_mod_two_pow (a := a) (b := b) (n := 1)
 rw [Nat.pow_one] at h
 rw [h]
 rcases Nat.mod_two_eq_zero_or_one a with ha | ha <;> rcases Nat.mod_two_eq_zero_or_one b with hb | hb <;> rw [ha, hb] <;> decide

theorem step_xor (poly a b : Nat) : step poly (a ^^^ b) = step poly a ^^^ step poly b := by
 have hm := mod_xor a b
 unfold step
 rw [half_xor]
 rcases Nat.mod_two_eq_zero_or_one a with ha | ha <;> rcases Nat.mod_two_eq_zero_or_one b with hb | hb <;> rw [ha, hb] at hm <;> simp [ha, hb, hm, Nat.xor_assoc]
 ·rw [Nat.xor_comm (b / 2) poly]
 ·rw [← Nat.xor_assoc poly, Nat.xor_comm poly, Nat.xor_assoc, Nat.xor_self, Nat.xor_zero]
theorem steps_xor (poly a b k : Nat) : steps poly k (a ^^^ b) = steps poly k a ^^^ steps poly k b := by
 induction k with
 | zero => rfl
 | succ k ih => simp only [steps, ih, step_xor]
theorem steps_high (poly h k : Nat) : steps poly k (h * 2 ^ k) = h := by
  induction k generalizing h with
  | zero => simp [steps]
  | succ k ih =>
    have e : h * 2 ^ (k + 1) = (2 * h) * 2 ^ k := by rw [Nat.pow_succ, Nat.mul_comm 2 h, Nat.mul_assoc, Nat.mul_comm 2]
    simp only [steps]
    rw [e, ih]
    unfold step
    rw [if_neg (by omega)]
    omega
theorem split256 (x : Nat) : x = x % 256 ^^^ (x / 256) * 2 ^ 8 := by
 apply Nat.eq_of_testBit_eq
 intro j
 have e : x % 256 = x % 2 ^ 8 := rfl
 have e2 : x / 256 = x / 2 ^ 8 := rfl
 rw [Nat.testBit_xor, e, e2, Nat.testBit_mod_two_pow, Nat.testBit_mul_two_pow, Nat.testBit_div_two_pow]
 by_cases h : j < 8
 ·have h2 : ¬ 8 ≤ j := by omega
  simp [h, h2]
 ·have h2 : 8 ≤ j := by omega
  simp [h, h2]
theorem byteIn_table (poly x v : Nat) : byteIn poly x v = steps poly 8 (x % 256 ^^^ v) ^^^ x / 256 := by
 unfold byteIn
 conv => lhs; rw [split256 x]
 rw [Nat.xor_assoc, Nat.xor_comm (x / 256 * 2 ^ 8) v, ← Nat.xor_assoc, steps_xor, steps_high]

end Go.Proofs.YtnjilcokkhodmaaGreatDoor.Xs

namespace Go.Proofs.YtnjilcokkhodmaaGreatDoor.Xs
open Go.RowKit Go.Shelf
set_option linter.unusedVariables false

def turn (x n : Nat) : Nat := x * 2 ^ n % 2 ^ 64 ||| x / 2 ^ (64 - n)
def p1 : Nat := 11400714785074694791
def p2 : Nat := 14029467366897019727
def p3 : Nat := 1609587929392839161
def p4 : Nat := 9650029242287828579
def p5 : Nat := 2870177450012600261
def round (a x : Nat) : Nat := turn ((a + x * p2 % 2 ^ 64) % 2 ^ 64) 31 * p1 % 2 ^ 64
def num (bs : List Nat) (p : Nat) : Nat → Nat
 | 0 => 0
 | n + 1 => num bs p n ||| bs[p + n]?.getD 0 * 2 ^ (8 * n) % 2 ^ 64
def begin4 : Nat → Nat
 | 0 => (p1 + p2) % 2 ^ 64
 | 1 => p2
 | 2 => 0
 | _ => 2 ^ 64 - p1
def lane (bs : List Nat) : Nat → Nat → Nat
 | 0, i => begin4 i
 | k + 1, i => round (lane bs k i) (num bs (32 * k + 8 * i) 8)
def joined (f : Nat → Nat) : Nat := (((turn (f 0) 1 + turn (f 1) 7) % 2 ^ 64 + turn (f 2) 12) % 2 ^ 64 + turn (f 3) 18) % 2 ^ 64
def mixIn (h a : Nat) : Nat := ((h ^^^ round 0 a) * p1 % 2 ^ 64 + p4) % 2 ^ 64
def mixed (f : Nat → Nat) : Nat → Nat
 | 0 => joined f
 | i + 1 => mixIn (mixed f i) (f i)
def beginOf (bs : List Nat) : Nat := if bs.length < 32 then p5 else mixed (lane bs (bs.length / 32)) 4
def eightIn (h x : Nat) : Nat := (turn (h ^^^ round 0 x) 27 * p1 % 2 ^ 64 + p4) % 2 ^ 64
def rest8 (h : Nat) (bs : List Nat) (q : Nat) : Nat → Nat
 | 0 => h
 | k + 1 => eightIn (rest8 h bs q k) (num bs (q + 8 * k) 8)
def fourIn (h x : Nat) : Nat := (turn (h ^^^ x * p1 % 2 ^ 64) 23 * p2 % 2 ^ 64 + p3) % 2 ^ 64
def oneIn (h v : Nat) : Nat := turn (h ^^^ v * p5 % 2 ^ 64) 11 * p1 % 2 ^ 64
def rest1 (h : Nat) (bs : List Nat) (q : Nat) : Nat → Nat
 | 0 => h
 | k + 1 => oneIn (rest1 h bs q k) (bs[q + k]?.getD 0)
def restOf (h : Nat) (bs : List Nat) (q m : Nat) : Nat :=
 if m % 8 < 4 then rest1 (rest8 h bs q (m / 8)) bs (q + 8 * (m / 8)) (m % 8)
 else rest1 (fourIn (rest8 h bs q (m / 8)) (num bs (q + 8 * (m / 8)) 4)) bs (q + 8 * (m / 8) + 4) (m % 8 - 4)
def final (h0 : Nat) : Nat :=
 let h1 := (h0 ^^^ h0 / 2 ^ 33) * p2 % 2 ^ 64
 let h2 := (h1 ^^^ h1 / 2 ^ 29) * p3 % 2 ^ 64
 h2 ^^^ h2 / 2 ^ 32
def xxh (bs : List Nat) : Nat := final (restOf ((beginOf bs + bs.length) % 2 ^ 64) bs (32 * (bs.length / 32)) (bs.length % 32))

theorem round_lt (a x : Nat) : round a x < 2 ^ 64 := Nat.mod_lt _ (by decide)
theorem num_lt (bs : List Nat) (p n : Nat) : num bs p n < 2 ^ 64 := by
 induction n with
 | zero => simp [num]
 | succ n ih => exact Nat.or_lt_two_pow ih (Nat.mod_lt _ (by decide))
theorem begin4_lt (i : Nat) : begin4 i < 2 ^ 64 := by unfold begin4; split <;> decide
theorem lane_lt (bs : List Nat) (k i : Nat) : lane bs k i < 2 ^ 64 := by
 cases k with
 | zero => exact begin4_lt i
 | succ k => exact round_lt _ _
theorem mixed_lt (f : Nat → Nat) (i : Nat) : mixed f i < 2 ^ 64 := by
 cases i with
 | zero => exact Nat.mod_lt _ (by decide)
 | succ i => exact Nat.mod_lt _ (by decide)
theorem beginOf_lt (bs : List Nat) : beginOf bs < 2 ^ 64 := by
 unfold beginOf
 split
 ·decide
 ·exact mixed_lt _ _
theorem rest8_lt (h : Nat) (hh : h < 2 ^ 64) (bs : List Nat) (q k : Nat) : rest8 h bs q k < 2 ^ 64 := by
 cases k with
 | zero => exact hh
 | succ k => exact Nat.mod_lt _ (by decide)
theorem fourIn_lt (h x : Nat) : fourIn h x < 2 ^ 64 := Nat.mod_lt _ (by decide)
theorem rest1_lt (h : Nat) (hh : h < 2 ^ 64) (bs : List Nat) (q k : Nat) : rest1 h bs q k < 2 ^ 64 := by
 cases k with
 | zero => exact hh
 | succ k => exact Nat.mod_lt _ (by decide)
theorem restOf_lt (h : Nat) (hh : h < 2 ^ 64) (bs : List Nat) (q m : Nat) : restOf h bs q m < 2 ^ 64 := by
 unfold restOf
 split
 ·exact rest1_lt _ (rest8_lt h hh bs q _) _ _ _
 ·exact rest1_lt _ (fourIn_lt _ _) _ _ _

theorem num_of (bs cs : List Nat) (p q n : Nat) (h : ∀ j, j < n → bs[p + j]?.getD 0 = cs[q + j]?.getD 0) : num bs p n = num cs q n := by
 induction n with
 | zero => rfl
 | succ n ih => rw [num, num, ih (fun j hj => h j (by omega)), h n (by omega)]
theorem lane_of (bs cs : List Nat) (k i : Nat) (hi : i < 4) (h : ∀ j, j < 32 * k → bs[j]?.getD 0 = cs[j]?.getD 0) : lane bs k i = lane cs k i := by
 induction k with
 | zero => rfl
 | succ k ih => rw [lane, lane, ih (fun j hj => h j (by omega)), num_of bs cs _ _ 8 (fun j hj => h _ (by omega))]

end Go.Proofs.YtnjilcokkhodmaaGreatDoor.Xs

namespace Go.Proofs.YtnjilcokkhodmaaGreatDoor.Xs
open Go.RowKit Go.Shelf
set_option linter.unusedVariables false

theorem wrapN (z : Int) (a : Nat) (h : z = (a : Int)) : IntKind.u64.wrap z = ((a % 2 ^ 64 : Nat) : Int) := by
 subst h; rw [IntKind.wrap_u64]; omega
theorem turn_form (x n : Nat) (hx : x < 2 ^ 64) : bits .or .u64 (IntKind.u64.wrap ((x : Int) * 2 ^ n)) ((x : Int) / 2 ^ (64 - n)) = ((turn x n : Nat) : Int) := by
 have h1 := wrapN ((x : Int) * 2 ^ n) (x * 2 ^ n) (by simp)
 have h2 : (x : Int) / 2 ^ (64 - n) = ((x / 2 ^ (64 - n) : Nat) : Int) := by simp
 rw [h1, h2]
 exact u64_or_nat _ _ (Nat.mod_lt _ (by decide)) (Nat.lt_of_le_of_lt (Nat.div_le_self _ _) hx)
theorem num_form (y v k : Nat) (hy : y < 2 ^ 64) : bits .or .u64 (y : Int) (IntKind.u64.wrap ((v : Int) * 2 ^ (8 * k))) = ((y ||| v * 2 ^ (8 * k) % 2 ^ 64 : Nat) : Int) := by
 rw [wrapN ((v : Int) * 2 ^ (8 * k)) (v * 2 ^ (8 * k)) (by simp)]
 exact u64_or_nat _ _ hy (Nat.mod_lt _ (by decide))

set_option maxHeartbeats 1000000 in
theorem turn_any (x n : Nat) (xi ni : Int) (ex : xi = (x : Int)) (en : ni = (n : Int)) (hx : x < 2 ^ 64) (hn : n < 64) (h0 : 0 < n) (w : World) :
  Calls Tryz.prog 178 #[.int .u64 xi, .int .i64 ni] w fun e w' => e = .returned (.int .u64 ((turn x n : Nat) : Int)) ∧ ∃ n, w' = w.drewN n := by
 subst ex; subst en
 go_enter Tryz.func178, Tryz.ntmps178
 go_wp2
 go_quiet (fail)
 go_wp2
 go_ret
 exact ⟨congrArg (fun z => Ending.returned (Value.int .u64 z)) (turn_form x n hx), _, rfl⟩

set_option maxHeartbeats 1000000 in
theorem round_any (a x : Nat) (ai xi : Int) (ea : ai = (a : Int)) (ex : xi = (x : Int)) (w : World) :
  Calls Tryz.prog 174 #[.int .u64 ai, .int .u64 xi] w fun e w' => e = .returned (.int .u64 ((round a x : Nat) : Int)) ∧ ∃ n, w' = w.drewN n := by
 subst ea; subst ex
 go_enter Tryz.func174, Tryz.ntmps174
 go_wp2_with fail
 refine (turn_any ((a + x * p2 % 2 ^ 64) % 2 ^ 64) 31 _ _ (wrapN _ _ (by rw [wrapN _ (x * p2) (by simp [p2])]; simp)) rfl (Nat.mod_lt _ (by decide)) (by decide) (by decide) _).mono ?_
 rintro e w' ⟨rfl, nq, rfl⟩
 go_wp2_with fail
 go_ret
 exact ⟨congrArg (fun z => Ending.returned (Value.int .u64 z)) (wrapN _ _ (by simp [p1])), _, rfl⟩

set_option maxHeartbeats 1000000 in
theorem number_any (n cap gb off : Nat) (bs : List Nat) (p : Nat) (hfit : n ≤ 8) (w : World)
  (hcs : ∀ j, j < n → w.cell? ⟨gb, off + j, none⟩ = some (.int .u8 ((bs[p + j]?.getD 0 : Nat) : Int))) (hbs : ∀ j : Nat, bs[j]?.getD 0 < 256) :
  Calls Tryz.prog 175 #[.slice (some ⟨gb, off, none⟩) n cap] w fun e w' => e = .returned (.int .u64 ((num bs p n : Nat) : Int)) ∧ ∃ n, w' = w.drewN n := by
 have HC := (show Hid _ from hcs)
 have HX := (show Hid _ from hbs)
 clear hcs hbs
 go_enter Tryz.func175, Tryz.ntmps175
 go_wp2_with fail
 go_loopw [8, 3] (fun i x wr => ∃ (k : Nat), k ≤ n ∧ i = .int .i64 k ∧ x = .int .u64 ((num bs p k : Nat) : Int) ∧ wr = w) (fun i _ _ => n - (intOf i).toNat)
 case atStart => exact ⟨0, Nat.zero_le _, rfl, rfl, rfl⟩
 case round =>
  obtain ⟨k, hk, rfl, rfl, rfl⟩ := hrel
  by_cases hlt : k < n
  ·have hcv := HC.out k hlt
   have hv := HX.out (p + k)
   have hs : num bs p (k + 1) = num bs p k ||| bs[p + k]?.getD 0 * 2 ^ (8 * k) % 2 ^ 64 := by rw [num]
   have hy := num_lt bs p k
   generalize bs[p + k]?.getD 0 = v at hcv hv hs
   generalize num bs p k = y at hy hs
   have HS := (show Hid _ from hs)
   clear hs
   have hnf := num_form y v k hy
   go_wp2
   go_roundw
   case rel => exact ⟨k + 1, by omega, by go_num, by rw [HS.out]; exact ⟨rfl, trivial⟩⟩
   case measure => simp [intOf]; omega
  ·obtain rfl : k = n := by omega
   go_wp2
   go_ret
   exact ⟨rfl, 0, rfl⟩

def lenV : Value → Nat
 | .slice _ n _ => n
 | _ => 0

theorem xorN (x y : Nat) (xi yi : Int) (ex : xi = (x : Int)) (ey : yi = (y : Int)) (hx : x < 2 ^ 64) (hy : y < 2 ^ 64) : bits .xor .u64 xi yi = ((x ^^^ y : Nat) : Int) := by
 subst ex; subst ey; exact u64_xor_nat x y hx hy
theorem xor_lt64 {x y : Nat} (hx : x < 2 ^ 64) (hy : y < 2 ^ 64) : x ^^^ y < 2 ^ 64 := Nat.xor_lt_two_pow hx hy

set_option maxRecDepth 100000 in
set_option maxHeartbeats 2000000 in
theorem takeRest_any (h m cap gb off : Nat) (hi : Int) (eh : hi = (h : Int)) (hh : h < 2 ^ 64) (bs : List Nat) (p : Nat) (hm : m ≤ cap) (hcap : cap ≤ 2 ^ 40) (w : World)
  (hcs : ∀ j, j < m → w.cell? ⟨gb, off + j, none⟩ = some (.int .u8 ((bs[p + j]?.getD 0 : Nat) : Int))) (hbs : ∀ j : Nat, bs[j]?.getD 0 < 256) :
  Calls Tryz.prog 177 #[.int .u64 hi, .slice (some ⟨gb, off, none⟩) m cap] w fun e w' => e = .returned (.int .u64 ((restOf h bs p m : Nat) : Int)) ∧ ∃ n, w' = w.drewN n := by
 subst eh
 have HC := (show Hid _ from hcs)
 have HX := (show Hid _ from hbs)
 clear hcs hbs
 go_enter Tryz.func177, Tryz.ntmps177
 go_wp2_with fail
 go_loopw [0, 1] (fun x b wr => ∃ (k nq r c o : Nat), (r + 8 * k = m ∧ r ≤ c ∧ c ≤ cap ∧ (o = off + 8 * k ∨ r = 0)) ∧ x = .int .u64 ((rest8 h bs p k : Nat) : Int) ∧ b = .slice (some ⟨gb, o, none⟩) r c ∧ wr = w.drewN nq) (fun _ b _ => lenV b)
 case atStart => exact ⟨0, 0, m, cap, off, ⟨rfl, hm, Nat.le_refl _, .inl rfl⟩, rfl, rfl, rfl⟩
 case round =>
  obtain ⟨k, nq, r, c, o, hk, rfl, rfl, rfl⟩ := hrel
  have hy := rest8_lt h hh bs p k
  have hrc : r ≤ c := by omega
  have hc40 : c ≤ 1099511627776 := by omega
  have HK := (show Hid _ from hk)
  clear hk
  by_cases hlt : 8 ≤ r
  ·have h8 : (8 : Int) ≤ (r : Int) := by omega
   have h9 : (8 : Int) ≤ (c : Int) := by omega
   have hs : rest8 h bs p (k + 1) = eightIn (rest8 h bs p k) (num bs (p + 8 * k) 8) := rfl
   generalize rest8 h bs p k = y at hy hs
   have HS := (show Hid _ from hs)
   clear hs
   go_wp2_with fail
   refine (number_any 8 c gb o bs (p + 8 * k) (by decide) _ (fun j hj => ?_) HX.out).mono ?_
   ·obtain ⟨h1, h2, h3, h4⟩ := HK.out
    rcases h4 with rfl | h4
    ·have := HC.out (8 * k + j) (by omega)
     rw [← Nat.add_assoc, ← Nat.add_assoc] at this
     exact this
    ·omega
   rintro e w' ⟨rfl, n1, rfl⟩
   have hn := num_lt bs (p + 8 * k) 8
   generalize num bs (p + 8 * k) 8 = x at HS hn
   go_wp2_with fail
   refine (round_any 0 x _ _ rfl rfl _).mono ?_
   rintro e w' ⟨rfl, n2, rfl⟩
   go_wp2_with fail
   refine (turn_any (y ^^^ round 0 x) 27 _ _ (xorN _ _ _ _ rfl rfl hy (round_lt _ _)) rfl (xor_lt64 hy (round_lt _ _)) (by decide) (by decide) _).mono ?_
   rintro e w' ⟨rfl, n3, rfl⟩
   go_wp2_with fail
   go_roundw
   case rel =>
    obtain ⟨h1, h2, h3, h4⟩ := HK.out
    refine ⟨k + 1, _, r - 8, c - 8, if c = 8 then o else o + 8, ⟨by omega, by omega, by omega, ?_⟩, ?_, ?_, rfl⟩
    ·split <;> omega
    ·rw [HS.out, wrapN _ (turn (y ^^^ round 0 x) 27 * p1 % 2 ^ 64 + p4) (by rw [wrapN _ (turn (y ^^^ round 0 x) 27 * p1) (by simp [p1])]; simp [p4])]
     rfl
    ·split <;> rfl
   case measure => simp only [lenV]; omega
  ·have hr8 : r = m % 8 ∧ k = m / 8 := by have := HK.out; omega
   generalize hyd : rest8 h bs p k = y at hy
   by_cases h4 : 4 ≤ r
   ·have h8 : (4 : Int) ≤ (r : Int) := by omega
    have h9 : (4 : Int) ≤ (c : Int) := by omega
    have hres : restOf h bs p m = rest1 (fourIn y (num bs (p + 8 * k) 4)) bs (p + 8 * k + 4) (r - 4) := by
     unfold restOf
     rw [← hr8.1, ← hr8.2, if_neg (by omega), hyd]
    have HR := (show Hid _ from hres)
    clear hres hyd hr8
    go_wp2_with fail
    refine (number_any 4 c gb o bs (p + 8 * k) (by decide) _ (fun j hj => ?_) HX.out).mono ?_
    ·obtain ⟨h1, h2, h3, h4⟩ := HK.out
     rcases h4 with rfl | h4
     ·have := HC.out (8 * k + j) (by omega)
      rw [← Nat.add_assoc, ← Nat.add_assoc] at this
      exact this
     ·omega
    rintro e w' ⟨rfl, n1, rfl⟩
    have hn := num_lt bs (p + 8 * k) 4
    generalize num bs (p + 8 * k) 4 = x at HR hn
    go_wp2_with fail
    refine (turn_any (y ^^^ x * p1 % 2 ^ 64) 23 _ _ (xorN _ _ _ _ rfl (wrapN _ _ (by simp [p1])) hy (Nat.mod_lt _ (by decide))) rfl (xor_lt64 hy (Nat.mod_lt _ (by decide))) (by decide) (by decide) _).mono ?_
    rintro e w' ⟨rfl, n3, rfl⟩
    have hfo : IntKind.u64.wrap (IntKind.u64.wrap (((turn (y ^^^ x * p1 % 2 ^ 64) 23 : Nat) : Int) * 14029467366897019727) + 1609587929392839161) = ((fourIn y x : Nat) : Int) :=
     wrapN _ (turn (y ^^^ x * p1 % 2 ^ 64) 23 * p2 % 2 ^ 64 + p3) (by rw [wrapN _ (turn (y ^^^ x * p1 % 2 ^ 64) 23 * p2) (by simp [p2])]; simp [p3])
    have hf := fourIn_lt y x
    generalize turn (y ^^^ x * p1 % 2 ^ 64) 23 = z at hfo
    generalize fourIn y x = y2 at hfo hf HR
    have HB : Hid (∀ j, j < r - 4 → ¬ c = 4 ∧ w.cell? ⟨gb, o + 4 + j, none⟩ = some (.int .u8 ((bs[p + 8 * k + 4 + j]?.getD 0 : Nat) : Int))) := fun j hj => by
     obtain ⟨h1, h2, h3, h4⟩ := HK.out
     refine ⟨by omega, ?_⟩
     have := HC.out (8 * k + 4 + j) (by omega)
     rw [← Nat.add_assoc, ← Nat.add_assoc, ← Nat.add_assoc, ← Nat.add_assoc] at this
     rcases h4 with rfl | h4
     ·exact this
     ·omega
    clear HC HK
    generalize hrr : r - 4 = rr at HR HB
    have HRR := (show Hid _ from hrr)
    clear hrr
    by_cases hc4 : c = 4
    ·obtain rfl : rr = 0 := by
      have := HRR.out; omega
     subst hc4
     obtain rfl : r = 4 := by omega
     go_wp2_with fail
     go_loopw [37, 0] (fun i x wr => i = .int .i64 0 ∧ x = .int .u64 (y2 : Int) ∧ ∃ nq, wr = w.drewN nq) (fun _ _ _ => 0)
     case atStart => exact ⟨rfl, rfl, _, rfl⟩
     case round =>
      obtain ⟨rfl, rfl, nq, rfl⟩ := hrel
      go_wp2
      go_ret
      exact ⟨by rw [HR.out]; rfl, _, rfl⟩
    ·have HB2 : Hid (∀ j, j < rr → w.cell? ⟨gb, o + 4 + j, none⟩ = some (.int .u8 ((bs[p + 8 * k + 4 + j]?.getD 0 : Nat) : Int))) := fun j hj => (HB.out j hj).2
     clear HB
     have HB := HB2
     clear HB2
     have hrr4 : rr + 4 = r := by have := HRR.out; omega
     subst hrr4
     clear HRR
     go_wp2_with fail
     go_loopw [37, 0] (fun i x wr => ∃ (j nq : Nat), j ≤ rr ∧ i = .int .i64 j ∧ x = .int .u64 ((rest1 y2 bs (p + 8 * k + 4) j : Nat) : Int) ∧ wr = w.drewN nq) (fun i _ _ => rr - (intOf i).toNat)
     case atStart => exact ⟨0, _, Nat.zero_le _, rfl, rfl, rfl⟩
     case round =>
      obtain ⟨j, nq, hj, rfl, rfl, rfl⟩ := hrel
      by_cases hlt2 : j < rr
      ·have hcv := HB.out j hlt2
       have hv := HX.out (p + 8 * k + 4 + j)
       have hz := rest1_lt y2 hf bs (p + 8 * k + 4) j
       have hs : rest1 y2 bs (p + 8 * k + 4) (j + 1) = oneIn (rest1 y2 bs (p + 8 * k + 4) j) (bs[p + 8 * k + 4 + j]?.getD 0) := rfl
       generalize bs[p + 8 * k + 4 + j]?.getD 0 = v at hcv hv hs
       generalize rest1 y2 bs (p + 8 * k + 4) j = z1 at hz hs
       have HS := (show Hid _ from hs)
       clear hs
       go_wp2_with fail
       refine (turn_any (z1 ^^^ v * p5 % 2 ^ 64) 11 _ _ (xorN _ _ _ _ rfl (wrapN _ _ (by simp [p5])) hz (Nat.mod_lt _ (by decide))) rfl (xor_lt64 hz (Nat.mod_lt _ (by decide))) (by decide) (by decide) _).mono ?_
       rintro e w' ⟨rfl, n4, rfl⟩
       go_wp2_with fail
       go_roundw
       case rel =>
        refine ⟨j + 1, _, by omega, by go_num, ?_, rfl⟩
        rw [HS.out, wrapN _ (turn (z1 ^^^ v * p5 % 2 ^ 64) 11 * p1) (by simp [p1])]
        rfl
       case measure => simp [intOf]; omega
      ·obtain rfl : j = rr := by omega
       go_wp2
       go_ret
       exact ⟨by rw [HR.out]; rfl, _, rfl⟩
   ·have hres : restOf h bs p m = rest1 y bs (p + 8 * k) r := by
     unfold restOf
     rw [← hr8.1, ← hr8.2, if_pos (by omega), hyd]
    have HR := (show Hid _ from hres)
    clear hres hyd hr8
    have HB : Hid (∀ j, j < r → w.cell? ⟨gb, o + j, none⟩ = some (.int .u8 ((bs[p + 8 * k + j]?.getD 0 : Nat) : Int))) := fun j hj => by
     obtain ⟨h1, h2, h3, h4⟩ := HK.out
     have := HC.out (8 * k + j) (by omega)
     rw [← Nat.add_assoc, ← Nat.add_assoc] at this
     rcases h4 with rfl | h4
     ·exact this
     ·omega
    clear HC HK
    have hf := hy
    go_wp2_with fail
    go_loopw [37, 0] (fun i x wr => ∃ (j nq : Nat), j ≤ r ∧ i = .int .i64 j ∧ x = .int .u64 ((rest1 y bs (p + 8 * k) j : Nat) : Int) ∧ wr = w.drewN nq) (fun i _ _ => r - (intOf i).toNat)
    case atStart => exact ⟨0, _, Nat.zero_le _, rfl, rfl, rfl⟩
    case round =>
     obtain ⟨j, nq, hj, rfl, rfl, rfl⟩ := hrel
     by_cases hlt2 : j < r
     ·have hcv := HB.out j hlt2
      have hv := HX.out (p + 8 * k + j)
      have hz := rest1_lt y hf bs (p + 8 * k) j
      have hs : rest1 y bs (p + 8 * k) (j + 1) = oneIn (rest1 y bs (p + 8 * k) j) (bs[p + 8 * k + j]?.getD 0) := rfl
      generalize bs[p + 8 * k + j]?.getD 0 = v at hcv hv hs
      generalize rest1 y bs (p + 8 * k) j = z1 at hz hs
      have HS := (show Hid _ from hs)
      clear hs
      go_wp2_with fail
      refine (turn_any (z1 ^^^ v * p5 % 2 ^ 64) 11 _ _ (xorN _ _ _ _ rfl (wrapN _ _ (by simp [p5])) hz (Nat.mod_lt _ (by decide))) rfl (xor_lt64 hz (Nat.mod_lt _ (by decide))) (by decide) (by decide) _).mono ?_
      rintro e w' ⟨rfl, n4, rfl⟩
      go_wp2_with fail
      go_roundw
      case rel =>
       refine ⟨j + 1, _, by omega, by go_num, ?_, rfl⟩
       rw [HS.out, wrapN _ (turn (z1 ^^^ v * p5 % 2 ^ 64) 11 * p1) (by simp [p1])]
       rfl
      case measure => simp [intOf]; omega
     ·obtain rfl : j = r := by omega
      go_wp2
      go_ret
      exact ⟨by rw [HR.out]; rfl, _, rfl⟩

end Go.Proofs.YtnjilcokkhodmaaGreatDoor.Xs

namespace Go.Proofs.YtnjilcokkhodmaaGreatDoor.Xs
open Go.RowKit Go.Shelf
set_option linter.unusedVariables false

theorem and1_u64 (y : Nat) (hy : y < 2 ^ 64) : bits .and .u64 (y : Int) 1 = ((y % 2 : Nat) : Int) := by
 rw [and_one_u64 _ (by omega) (by omega)]; simp
theorem xorHalf_u64 (y p : Nat) (hy : y < 2 ^ 64) (hp : p < 2 ^ 64) : bits .xor .u64 ((y : Int) / 2) (p : Int) = ((y / 2 ^^^ p : Nat) : Int) := by
 have := u64_xor_nat (y / 2) p (by omega) (by omega)
 simpa using this

set_option maxHeartbeats 400000 in
theorem eight_any (x poly : Nat) (hp : poly < 2 ^ 64) (hx : x < 2 ^ 64) (w : World) :
  Calls Tryz.prog 93 #[.int .u64 (x : Int), .int .u64 (poly : Int)] w fun e w' => e = .returned (.int .u64 ((steps poly 8 x : Nat) : Int)) ∧ w' = w := by
 go_enter Tryz.func93, Tryz.ntmps93
 go_wp2_with fail
 go_loopw [6, 0] (fun i x' wr => ∃ k : Nat, k ≤ 8 ∧ i = .int .i64 k ∧ x' = .int .u64 ((steps poly k x : Nat) : Int) ∧ wr = w) (fun i _ _ => 8 - (intOf i).toNat)
 case atStart => exact ⟨0, by omega, rfl, rfl, rfl⟩
 case round =>
  obtain ⟨k, hk, rfl, rfl, rfl⟩ := hrel
  by_cases hlt : k < 8
  ·have hy := steps_lt hp hx k
   have hs : steps poly (k + 1) x = step poly (steps poly k x) := rfl
   generalize steps poly k x = y at hy hs
   have hand := and1_u64 y hy
   have hxo := xorHalf_u64 y poly hy hp
   unfold step at hs
   rcases Nat.mod_two_eq_zero_or_one y with h | h
   ·rw [h] at hand hs
    have HS := (show Hid _ from hs)
    clear hs h
    go_wp2
    go_roundw
    case rel => exact ⟨k + 1, by omega, by go_num, by rw [HS.out]; simp⟩
    case measure => simp [intOf]; omega
   ·rw [h] at hand hs
    have HS := (show Hid _ from hs)
    clear hs h
    go_wp2
    go_roundw
    case rel => exact ⟨k + 1, by omega, by go_num, by rw [HS.out]; simp⟩
    case measure => simp [intOf]; omega
  ·obtain rfl : k = 8 := by omega
   go_wp2
   go_ret
   exact ⟨rfl, rfl⟩

theorem eight_i (xi : Int) (x poly : Nat) (ex : xi = (x : Int)) (hp : poly < 2 ^ 64) (hx : x < 2 ^ 64) (w : World) :
  Calls Tryz.prog 93 #[.int .u64 xi, .int .u64 (poly : Int)] w fun e w' => e = .returned (.int .u64 ((steps poly 8 x : Nat) : Int)) ∧ w' = w := by
 subst ex
 exact eight_any x poly hp hx w
theorem wrap_u64_nat (k : Nat) (hk : k < 2 ^ 64) : IntKind.u64.wrap (k : Int) = (k : Int) := by
 rw [IntKind.wrap_u64]; omega

def crcZero (m : Int) : Array Value := ((List.replicate 256 (Value.int .u64 0)) ++ [Value.int .u64 m, Value.int .u64 m]).toArray
def build56 (parts : Array (Nat × Value)) : Sem Value := Instr.build 180 parts
theorem run_build56 (parts : Array (Nat × Value)) : Instr.build 180 parts = build56 parts := rfl
theorem build56_at (m : Int) (w : World) : (build56 #[(1, .int .u64 m), (2, .int .u64 m)]).run Tryz.prog w = .ok (.agg (crcZero m)) w :=
 run_build w 180 _ (crcZero m) (by kernel_rfl)

/-- A CRC's cells: the table as far as k, the mask, the number. -/
structure Tab (poly mask x k : Nat) (cs : Array Value) : Prop where
 size : cs.size = 258
 tab : ∀ i, i < k → cs[i]? = some (.int .u64 ((steps poly 8 i : Nat) : Int))
 rest : ∀ i, k ≤ i → i < 256 → ∃ u, cs[i]? = some (.int .u64 u)
 mask : cs[256]? = some (.int .u64 (mask : Int))
 num : cs[257]? = some (.int .u64 (x : Int))
theorem tab_zero (poly m n : Nat) (z : Value) (u : Int) (hz : z = .int .u64 u) (hn : n = 256) : Tab poly m m 0 ((List.replicate n z) ++ [Value.int .u64 (m : Int), Value.int .u64 (m : Int)]).toArray := by
 have e : 256 = n + 0 := by omega
 have e1 : 257 = n + 1 := by omega
 refine ⟨by simp; omega, fun i hi => by omega, fun i _ hi => ⟨u, ?_⟩, ?_, ?_⟩
 ·have : i < n := by omega
  simp [this, List.getElem?_append, hz]
 ·rw [e]; simp
 ·rw [e1]; simp
theorem crcZero_tab (poly m : Nat) : Tab poly m m 0 (crcZero (m : Int)) := tab_zero poly m 256 _ 0 rfl rfl
theorem Tab.set {poly mask x k : Nat} {cs : Array Value} (h : Tab poly mask x k cs) (hk : k < 256) : Tab poly mask x (k + 1) (cs.setIfInBounds k (.int .u64 ((steps poly 8 k : Nat) : Int))) := by
 have hs := h.size
 refine ⟨by simp [hs], fun i hi => ?_, fun i hi hi2 => ?_, ?_, ?_⟩
 ·rw [Array.getElem?_setIfInBounds]
  split
  ·next e => subst e; rw [if_pos (by omega)]
  ·exact h.tab i (by omega)
 ·rw [Array.getElem?_setIfInBounds, if_neg (by omega)]; exact h.rest i (by omega) hi2
 ·rw [Array.getElem?_setIfInBounds, if_neg (by omega)]; exact h.mask
 ·rw [Array.getElem?_setIfInBounds, if_neg (by omega)]; exact h.num
theorem Tab.setNum {poly mask x : Nat} {cs : Array Value} (h : Tab poly mask x 256 cs) (y : Nat) : Tab poly mask y 256 (cs.setIfInBounds 257 (.int .u64 (y : Int))) := by
 have hs := h.size
 refine ⟨by simp [hs], fun i hi => ?_, fun i hi hi2 => by omega, ?_, ?_⟩
 ·rw [Array.getElem?_setIfInBounds, if_neg (by omega)]; exact h.tab i hi
 ·rw [Array.getElem?_setIfInBounds, if_neg (by omega)]; exact h.mask
 ·rw [Array.getElem?_setIfInBounds, if_pos rfl, if_pos (by omega)]

def IsC (w : World) (b poly mask x : Nat) : Prop := ∃ cs, w.heap[b]? = some (.cells cs 180 (0, 0)) ∧ Tab poly mask x 256 cs

section
attribute [local go_sem ↓] run_build56
set_option maxRecDepth 10000 in
set_option maxHeartbeats 1000000 in
theorem newCRC_any (poly mask : Nat) (hp : poly < 2 ^ 64) (w : World) :
  Calls Tryz.prog 74 #[.int .u64 (poly : Int), .int .u64 (mask : Int)] w fun e w' => e = .returned (.pointer (some ⟨w.heap.size, 0, none⟩)) ∧ IsC w' w.heap.size poly mask mask ∧ Keep noBlock w w' := by
 have hb := build56_at (mask : Int)
 have hob : (w.alloc (.cells (crcZero (mask : Int)) 180)).heap[w.heap.size]? = some (.cells (crcZero (mask : Int)) 180 (0, 0)) := World.alloc_heap_new w _
 have hk0 : Keep noBlock w (w.alloc (.cells (crcZero (mask : Int)) 180)) := (Keep.refl _ w).alloc _
 have hmx : Tryz.prog.follows .mixedOrders = true := by kernel_rfl
 go_enter Tryz.func74, Tryz.ntmps74
 go_wp2_with fail
 have HO := (show Hid _ from hob)
 have HK := (show Hid _ from hk0)
 clear hob hk0 hb
 generalize w.alloc (.cells (crcZero (mask : Int)) 180) = W at HO HK ⊢
 generalize hB : w.heap.size = b at HO ⊢
 have HB := (show Hid _ from hB)
 clear hB
 go_loopw [11] (fun i wr => ∃ (k : Nat) (cs : Array Value), k ≤ 256 ∧ i = .int .i64 k ∧ wr.heap[b]? = some (.cells cs 180 (0, 0)) ∧ Tab poly mask mask k cs ∧ Keep noBlock w wr) (fun i _ => 256 - (intOf i).toNat)
 case atStart => exact ⟨0, _, by omega, rfl, HO.out, crcZero_tab poly mask, HK.out⟩
 case round =>
  obtain ⟨k, cs, hk, rfl, ho, ht, hkr⟩ := hrel
  by_cases hlt : k < 256
  ·obtain ⟨u, hu⟩ := ht.rest k (by omega) hlt
   have hc : wr.cell? ⟨b, k, none⟩ = some (.int .u64 u) := (cell_of ho k).trans hu
   have hf := frozen_of ho k
   go_wp2_with fail
   go_region_with (go_at_call 93; refine (eight_i _ k poly (wrap_u64_nat k (by omega)) hp (by omega) _).mono ?_; rintro e w' ⟨rfl, rfl⟩)
   go_wp2
   go_roundw
   case rel => exact ⟨k + 1, _, by omega, by go_num, set_obj ho k _, ht.set hlt, (hkr.trans (Keep.setCell (S := fun j => j = b) (p := ⟨b, k, none⟩) (Keep.refl _ wr) (fun _ => rfl) _) (fun i hi e => by have := HB.out; omega)).drew⟩
   case measure => simp [intOf]; omega
  ·obtain rfl : k = 256 := by omega
   go_wp2
   go_ret
   rw [HB.out]
   exact ⟨rfl, ⟨cs, ho, ht⟩, hkr⟩
end

theorem IsC.keep {w w' : World} {S : Nat → Prop} {b poly mask x : Nat} (h : IsC w b poly mask x) (hk : Keep S w w') (hS : ¬ S b) : IsC w' b poly mask x := by
 obtain ⟨cs, ho, ht⟩ := h
 exact ⟨cs, hk.obj ho hS, ht⟩
theorem IsC.lt {w : World} {b poly mask x : Nat} (h : IsC w b poly mask x) : b < w.heap.size := by
 obtain ⟨cs, ho, ht⟩ := h
 exact obj_lt ho

theorem keep_drewN (w : World) (n : Nat) : Keep noBlock w (w.drewN n) := ⟨rfl, rfl, rfl, Nat.le_refl _, fun _ _ _ => rfl⟩

set_option maxHeartbeats 1000000 in
theorem crcValue_any (b poly mask x : Nat) (hm : mask < 2 ^ 64) (hx : x < 2 ^ 64) (w : World) (h : IsC w b poly mask x) :
  Calls Tryz.prog 169 #[.pointer (some ⟨b, 0, none⟩)] w fun e w' => e = .returned (.int .u64 ((x ^^^ mask : Nat) : Int)) ∧ ∃ n, w' = w.drewN n := by
 obtain ⟨cs, ho, ht⟩ := h
 have hc1 : w.cell? ⟨b, 256, none⟩ = some (.int .u64 (mask : Int)) := (cell_of ho 256).trans ht.mask
 have hc2 : w.cell? ⟨b, 257, none⟩ = some (.int .u64 (x : Int)) := (cell_of ho 257).trans ht.num
 have hxo := u64_xor_nat x mask hx hm
 go_enter Tryz.func169, Tryz.ntmps169
 go_wp2
 go_quiet (fail)
 go_wp2
 go_ret
 exact ⟨rfl, _, rfl⟩

theorem take_lt {bs : List Nat} (h : ∀ j : Nat, bs[j]?.getD 0 < 256) (k : Nat) : ∀ j : Nat, (bs.take k)[j]?.getD 0 < 256 := by
 intro j
 rw [List.getElem?_take]
 split
 ·exact h j
 ·decide
theorem bytesIn_take (poly x : Nat) (bs : List Nat) (k : Nat) (hk : k < bs.length) : bytesIn poly x (bs.take (k + 1)) = byteIn poly (bytesIn poly x (bs.take k)) (bs[k]?.getD 0) := by
 rw [List.take_add_one, bytesIn_append]
 simp [hk, bytesIn]

set_option maxHeartbeats 1000000 in
theorem crcAdd_any (b poly mask x : Nat) (hp : poly < 2 ^ 64) (hx : x < 2 ^ 64) (a : Option Addr) (cap gb off : Nat) (bs : List Nat) (hbs : ∀ j : Nat, bs[j]?.getD 0 < 256) (hfit : bs.length < 2 ^ 48) (w : World) (h : IsC w b poly mask x)
  (ha : a = some ⟨gb, off, none⟩ ∨ bs = []) (hcs : ∀ j, j < bs.length → w.cell? ⟨gb, off + j, none⟩ = some (.int .u8 ((bs[j]?.getD 0 : Nat) : Int))) (hne : gb ≠ b) :
  Calls Tryz.prog 168 #[.pointer (some ⟨b, 0, none⟩), .slice a bs.length cap] w fun e w' => e = .returned (.tuple #[]) ∧ IsC w' b poly mask (bytesIn poly x bs) ∧ Keep (fun k => k = b) w w' := by
 have HC := (show Hid _ from hcs)
 have HA := (show Hid _ from ha)
 have HX := (show Hid _ from hbs)
 clear hcs ha hbs
 go_enter Tryz.func168, Tryz.ntmps168
 go_wp2_with fail
 go_loopw [8] (fun i wr => ∃ (k : Nat), k ≤ bs.length ∧ i = .int .i64 k ∧ IsC wr b poly mask (bytesIn poly x (bs.take k)) ∧ Keep (fun k => k = b) w wr) (fun i _ => bs.length - (intOf i).toNat)
 case atStart => exact ⟨0, Nat.zero_le _, rfl, h, Keep.refl _ _⟩
 case round =>
  obtain ⟨k, hk, rfl, hC, hK⟩ := hrel
  by_cases hlt : k < bs.length
  ·have hcv : wr.cell? ⟨gb, off + k, none⟩ = some (.int .u8 ((bs[k]?.getD 0 : Nat) : Int)) :=
    (World.cell?_of_block (hK.block gb (World.block_lt_of_cell? w ⟨gb, off + k, none⟩ (HC.out k hlt)) hne)).trans (HC.out k hlt)
   obtain rfl : a = some ⟨gb, off, none⟩ := HA.out.elim id (fun e => by subst e; simp at hlt)
   have hv := HX.out k
   have hstep := bytesIn_take poly x bs k hlt
   have hy : bytesIn poly x (bs.take k) < 2 ^ 64 := bytesIn_lt hp _ (fun j => Nat.lt_of_lt_of_le (take_lt HX.out k j) (by decide)) _ hx
   have HS := (show Hid _ from hstep)
   clear hstep
   generalize bs[k]?.getD 0 = v at hcv hv HS
   generalize bytesIn poly x (bs.take k) = y at hC hy HS
   obtain ⟨cs, ho, ht⟩ := hC
   have hc2 : wr.cell? ⟨b, 257, none⟩ = some (.int .u64 (y : Int)) := (cell_of ho 257).trans ht.num
   have hf2 := frozen_of ho 257
   have hi : y % 256 ^^^ v < 256 := Nat.xor_lt_two_pow (n := 8) (by omega) hv
   have hc1 : wr.cell? ⟨b, y % 256 ^^^ v, none⟩ = some (.int .u64 ((steps poly 8 (y % 256 ^^^ v) : Nat) : Int)) := (cell_of ho _).trans (ht.tab _ hi)
   have hx8 : bits .xor .u8 ((y : Int) % 256) (v : Int) = ((y % 256 ^^^ v : Nat) : Int) := by
    have := u8_xor_nat (y % 256) v (by omega) hv
    simpa using this
   have hst := steps_lt (k := 8) hp (Nat.lt_trans hi (by decide))
   have hx64 : bits .xor .u64 ((steps poly 8 (y % 256 ^^^ v) : Nat) : Int) ((y : Int) / 256) = ((byteIn poly y v : Nat) : Int) := by
    rw [byteIn_table]
    have := u64_xor_nat (steps poly 8 (y % 256 ^^^ v)) (y / 256) hst (by omega)
    simpa using this
   have hmx : Tryz.prog.follows .mixedOrders = true := by kernel_rfl
   generalize y % 256 ^^^ v = i at hc1 hx8 hx64 hi hst
   generalize steps poly 8 i = s at hc1 hx64 hst
   go_wp2
   go_region
   go_wp2
   go_roundw
   case rel => exact ⟨k + 1, by omega, by go_num, by rw [HS.out]; exact ⟨_, set_obj ho 257 _, ht.setNum _⟩, (hK.setCell (p := ⟨b, 257, none⟩) (fun _ => rfl) _).drew⟩
   case measure => simp [intOf]; omega
  ·obtain rfl : k = bs.length := by omega
   rw [List.take_length] at hC
   go_wp2
   go_end0
   exact ⟨rfl, hC, hK⟩
end Go.Proofs.YtnjilcokkhodmaaGreatDoor.Xs

namespace Go.Proofs.YtnjilcokkhodmaaGreatDoor.Xs
open Go.RowKit Go.Shelf
set_option linter.unusedVariables false

/-- An XXH64's cells: the four numbers behind k stripes of bs, r bytes that wait, how many there were. -/
structure Xc (bs : List Nat) (k r : Nat) (cs : Array Value) : Prop where
 size : cs.size = 37
 four : ∀ i, i < 4 → cs[i]? = some (.int .u64 ((lane bs k i : Nat) : Int))
 all : ∀ j, j < 32 → ∃ u, cs[4 + j]? = some (.int .u8 u)
 rest : ∀ j, j < r → cs[4 + j]? = some (.int .u8 ((bs[32 * k + j]?.getD 0 : Nat) : Int))
 num : cs[36]? = some (.int .u64 (bs.length : Int))
def IsX (w : World) (b : Nat) (bs : List Nat) : Prop := (∃ cs, w.heap[b]? = some (.cells cs 185 (0, 0)) ∧ Xc bs (bs.length / 32) (bs.length % 32) cs) ∧ (∀ j : Nat, bs[j]?.getD 0 < 256) ∧ bs.length < 2 ^ 62
theorem IsX.keep {w w' : World} {S : Nat → Prop} {b : Nat} {bs : List Nat} (h : IsX w b bs) (hk : Keep S w w') (hS : ¬ S b) : IsX w' b bs := by
 obtain ⟨⟨cs, ho, ht⟩, h2, h3⟩ := h
 exact ⟨⟨cs, hk.obj ho hS, ht⟩, h2, h3⟩
theorem IsX.lt {w : World} {b : Nat} {bs : List Nat} (h : IsX w b bs) : b < w.heap.size := by
 obtain ⟨⟨cs, ho, ht⟩, h2, h3⟩ := h
 exact obj_lt ho

set_option maxHeartbeats 1000000 in
theorem held_any (b n : Nat) (w : World) (hn : n < 2 ^ 62) (hc : w.cell? ⟨b, 36, none⟩ = some (.int .u64 (n : Int))) :
  Calls Tryz.prog 173 #[.pointer (some ⟨b, 0, none⟩)] w fun e w' => e = .returned (.int .i64 ((n % 32 : Nat) : Int)) ∧ ∃ n, w' = w.drewN n := by
 go_enter Tryz.func173, Tryz.ntmps173
 go_wp2
 go_ret
 exact ⟨by simp, 0, rfl⟩

theorem idx0 (a b c d : Int) (w : World) : (Instr.index 182 (.agg #[.int .u64 a, .int .u64 b, .int .u64 c, .int .u64 d]) (.int .i64 0)).run Tryz.prog w = .ok (.int .u64 a) w := by kernel_rfl
theorem idx1 (a b c d : Int) (w : World) : (Instr.index 182 (.agg #[.int .u64 a, .int .u64 b, .int .u64 c, .int .u64 d]) (.int .i64 1)).run Tryz.prog w = .ok (.int .u64 b) w := by kernel_rfl
theorem idx2 (a b c d : Int) (w : World) : (Instr.index 182 (.agg #[.int .u64 a, .int .u64 b, .int .u64 c, .int .u64 d]) (.int .i64 2)).run Tryz.prog w = .ok (.int .u64 c) w := by kernel_rfl
theorem idx3 (a b c d : Int) (w : World) : (Instr.index 182 (.agg #[.int .u64 a, .int .u64 b, .int .u64 c, .int .u64 d]) (.int .i64 3)).run Tryz.prog w = .ok (.int .u64 d) w := by kernel_rfl
theorem mix_form (y r : Nat) (hy : y < 2 ^ 64) (hr : r < 2 ^ 64) : IntKind.u64.wrap (IntKind.u64.wrap (bits .xor .u64 (y : Int) (r : Int) * 11400714785074694791) + 9650029242287828579) = ((((y ^^^ r) * p1 % 2 ^ 64 + p4) % 2 ^ 64 : Nat) : Int) := by
 rw [xorN y r _ _ rfl rfl hy hr]
 exact wrapN _ _ (by rw [wrapN _ ((y ^^^ r) * p1) (by simp [p1])]; simp [p4])

theorem mixIn_form (y a : Nat) (hy : y < 2 ^ 64) : IntKind.u64.wrap (IntKind.u64.wrap (bits .xor .u64 (y : Int) ((round 0 a : Nat) : Int) * 11400714785074694791) + 9650029242287828579) = ((mixIn y a : Nat) : Int) := by
 rw [mix_form y _ hy (round_lt 0 a), mixIn]

set_option maxRecDepth 100000 in
set_option maxHeartbeats 2000000 in
theorem begin_any (b : Nat) (bs : List Nat) (w : World) (h : IsX w b bs) :
  Calls Tryz.prog 176 #[.pointer (some ⟨b, 0, none⟩)] w fun e w' => e = .returned (.int .u64 ((beginOf bs : Nat) : Int)) ∧ ∃ n, w' = w.drewN n := by
 obtain ⟨⟨cs, ho, ht⟩, h2, h3⟩ := h
 have hc : w.cell? ⟨b, 36, none⟩ = some (.int .u64 (bs.length : Int)) := (cell_of ho 36).trans ht.num
 have hc0 : w.cell? ⟨b, 0, none⟩ = some (.int .u64 ((lane bs (bs.length / 32) 0 : Nat) : Int)) := (cell_of ho 0).trans (ht.four 0 (by decide))
 have hc1 : w.cell? ⟨b, 1, none⟩ = some (.int .u64 ((lane bs (bs.length / 32) 1 : Nat) : Int)) := (cell_of ho 1).trans (ht.four 1 (by decide))
 have hc2 : w.cell? ⟨b, 2, none⟩ = some (.int .u64 ((lane bs (bs.length / 32) 2 : Nat) : Int)) := (cell_of ho 2).trans (ht.four 2 (by decide))
 have hc3 : w.cell? ⟨b, 3, none⟩ = some (.int .u64 ((lane bs (bs.length / 32) 3 : Nat) : Int)) := (cell_of ho 3).trans (ht.four 3 (by decide))
 have hl := fun i => lane_lt bs (bs.length / 32) i
 have hb : beginOf bs = if bs.length < 32 then p5 else mixed (lane bs (bs.length / 32)) 4 := rfl
 clear ho ht h2
 generalize lane bs (bs.length / 32) = f at hc0 hc1 hc2 hc3 hl hb
 generalize bs.length = n at hc h3 hb
 generalize beginOf bs = r at hb ⊢
 by_cases hn : n < 32
 ·rw [if_pos hn] at hb
  have HB := (show Hid _ from hb)
  clear hb
  clear hl hc0 hc1 hc2 hc3
  have hd : ((n : Int) < 32) := by omega
  go_enter Tryz.func176, Tryz.ntmps176
  go_wp2
  go_ret
  refine ⟨?_, 0, rfl⟩
  rw [HB.out]
  simp [p5]
 ·rw [if_neg hn] at hb
  have HB := (show Hid _ from hb)
  clear hb
  have hl0 := hl 0
  have hl1 := hl 1
  have hl2 := hl 2
  have hl3 := hl 3
  clear hl
  have hd : ¬ ((n : Int) < 32) := by omega
  have hj : IntKind.u64.wrap (IntKind.u64.wrap (IntKind.u64.wrap (((turn (f 0) 1 : Nat) : Int) + ((turn (f 1) 7 : Nat) : Int)) + ((turn (f 2) 12 : Nat) : Int)) + ((turn (f 3) 18 : Nat) : Int)) = ((joined f : Nat) : Int) := by
   rw [wrapN (((turn (f 0) 1 : Nat) : Int) + ((turn (f 1) 7 : Nat) : Int)) (turn (f 0) 1 + turn (f 1) 7) (by simp), wrapN (_ + ((turn (f 2) 12 : Nat) : Int)) ((turn (f 0) 1 + turn (f 1) 7) % 2 ^ 64 + turn (f 2) 12) (by simp), wrapN _ ((((turn (f 0) 1 + turn (f 1) 7) % 2 ^ 64 + turn (f 2) 12) % 2 ^ 64 + turn (f 3) 18)) (by simp)]
   rfl
  go_enter Tryz.func176, Tryz.ntmps176
  go_wp2_with fail
  go_quiet (first | (go_at_call_of 178 (Value.int .u64 ((f 0 : Nat) : Int)); exact Calls.quiet_of (turn_any (f 0) 1 _ _ rfl rfl hl0 (by decide) (by decide) _)) | (go_at_call_of 178 (Value.int .u64 ((f 1 : Nat) : Int)); exact Calls.quiet_of (turn_any (f 1) 7 _ _ rfl rfl hl1 (by decide) (by decide) _)) | (go_at_call_of 178 (Value.int .u64 ((f 2 : Nat) : Int)); exact Calls.quiet_of (turn_any (f 2) 12 _ _ rfl rfl hl2 (by decide) (by decide) _)) | (go_at_call_of 178 (Value.int .u64 ((f 3 : Nat) : Int)); exact Calls.quiet_of (turn_any (f 3) 18 _ _ rfl rfl hl3 (by decide) (by decide) _)))
  go_wp2_with fail
  have hj0 : joined f = mixed f 0 := rfl
  rw [hj0]
  clear hj0 hj hc0 hc1 hc2 hc3 hc
  go_loopw [42, 3] (fun i x wr => ∃ (k nq : Nat), k ≤ 4 ∧ i = .int .i64 k ∧ x = .int .u64 ((mixed f k : Nat) : Int) ∧ wr = w.drewN nq) (fun i _ _ => 4 - (intOf i).toNat)
  case atStart => exact ⟨0, _, by omega, rfl, rfl, rfl⟩
  case round =>
   obtain ⟨k, nq, hk, rfl, rfl, rfl⟩ := hrel
   obtain rfl | rfl | rfl | rfl | rfl : k = 0 ∨ k = 1 ∨ k = 2 ∨ k = 3 ∨ k = 4 := by omega
   ·have hix := idx0 (f 0 : Int) (f 1 : Int) (f 2 : Int) (f 3 : Int)
    have hy := mixed_lt f 0
    have hs : mixed f 1 = mixIn (mixed f 0) (f 0) := rfl
    generalize mixed f 0 = y at hy hs
    have HS := (show Hid _ from hs)
    clear hs
    go_wp2_with fail
    refine (round_any 0 (f 0) _ _ rfl rfl _).mono ?_
    rintro e w' ⟨rfl, n2, rfl⟩
    have hm := mixIn_form y (f 0) hy
    go_wp2_with fail
    go_roundw
    case rel => exact ⟨1, _, by omega, by go_num, by rw [HS.out], rfl⟩
    case measure => simp [intOf]
   ·have hix := idx1 (f 0 : Int) (f 1 : Int) (f 2 : Int) (f 3 : Int)
    have hy := mixed_lt f 1
    have hs : mixed f 2 = mixIn (mixed f 1) (f 1) := rfl
    generalize mixed f 1 = y at hy hs
    have HS := (show Hid _ from hs)
    clear hs
    go_wp2_with fail
    refine (round_any 0 (f 1) _ _ rfl rfl _).mono ?_
    rintro e w' ⟨rfl, n2, rfl⟩
    have hm := mixIn_form y (f 1) hy
    go_wp2_with fail
    go_roundw
    case rel => exact ⟨2, _, by omega, by go_num, by rw [HS.out], rfl⟩
    case measure => simp [intOf]
   ·have hix := idx2 (f 0 : Int) (f 1 : Int) (f 2 : Int) (f 3 : Int)
    have hy := mixed_lt f 2
    have hs : mixed f 3 = mixIn (mixed f 2) (f 2) := rfl
    generalize mixed f 2 = y at hy hs
    have HS := (show Hid _ from hs)
    clear hs
    go_wp2_with fail
    refine (round_any 0 (f 2) _ _ rfl rfl _).mono ?_
    rintro e w' ⟨rfl, n2, rfl⟩
    have hm := mixIn_form y (f 2) hy
    go_wp2_with fail
    go_roundw
    case rel => exact ⟨3, _, by omega, by go_num, by rw [HS.out], rfl⟩
    case measure => simp [intOf]
   ·have hix := idx3 (f 0 : Int) (f 1 : Int) (f 2 : Int) (f 3 : Int)
    have hy := mixed_lt f 3
    have hs : mixed f 4 = mixIn (mixed f 3) (f 3) := rfl
    generalize mixed f 3 = y at hy hs
    have HS := (show Hid _ from hs)
    clear hs
    go_wp2_with fail
    refine (round_any 0 (f 3) _ _ rfl rfl _).mono ?_
    rintro e w' ⟨rfl, n2, rfl⟩
    have hm := mixIn_form y (f 3) hy
    go_wp2_with fail
    go_roundw
    case rel => exact ⟨4, _, by omega, by go_num, by rw [HS.out], rfl⟩
    case measure => simp [intOf]
   ·go_wp2
    go_ret
    exact ⟨by rw [HB.out]; rfl, _, rfl⟩

end Go.Proofs.YtnjilcokkhodmaaGreatDoor.Xs

namespace Go.Proofs.YtnjilcokkhodmaaGreatDoor.Xs
open Go.RowKit Go.Shelf
set_option linter.unusedVariables false

def shake (h s p : Nat) : Nat := (h ^^^ h / s) * p % 2 ^ 64
theorem shake_lt (h s p : Nat) : shake h s p < 2 ^ 64 := Nat.mod_lt _ (by decide)
theorem final_eq (h : Nat) : final h = (shake (shake h (2 ^ 33) p2) (2 ^ 29) p3) ^^^ (shake (shake h (2 ^ 33) p2) (2 ^ 29) p3) / 2 ^ 32 := rfl
theorem shake1 (h : Nat) (hh : h < 2 ^ 64) : IntKind.u64.wrap (bits .xor .u64 (h : Int) ((h : Int) / 8589934592) * 14029467366897019727) = ((shake h (2 ^ 33) p2 : Nat) : Int) := by
 rw [xorN h (h / 2 ^ 33) _ _ rfl (by simp) hh (Nat.lt_of_le_of_lt (Nat.div_le_self _ _) hh)]
 exact wrapN _ _ (by simp [p2])
theorem shake2 (h : Nat) (hh : h < 2 ^ 64) : IntKind.u64.wrap (bits .xor .u64 (h : Int) ((h : Int) / 536870912) * 1609587929392839161) = ((shake h (2 ^ 29) p3 : Nat) : Int) := by
 rw [xorN h (h / 2 ^ 29) _ _ rfl (by simp) hh (Nat.lt_of_le_of_lt (Nat.div_le_self _ _) hh)]
 exact wrapN _ _ (by simp [p3])
theorem shake3 (h : Nat) (hh : h < 2 ^ 64) : bits .xor .u64 (h : Int) ((h : Int) / 4294967296) = ((h ^^^ h / 2 ^ 32 : Nat) : Int) := 
 xorN h (h / 2 ^ 32) _ _ rfl (by simp) hh (Nat.lt_of_le_of_lt (Nat.div_le_self _ _) hh)

theorem IsX.drewN {w : World} {b : Nat} {bs : List Nat} (h : IsX w b bs) (n : Nat) : IsX (w.drewN n) b bs := h

set_option maxRecDepth 100000 in
set_option maxHeartbeats 2000000 in
theorem xval_any (b : Nat) (bs : List Nat) (w : World) (h : IsX w b bs) :
  Calls Tryz.prog 172 #[.pointer (some ⟨b, 0, none⟩)] w fun e w' => e = .returned (.int .u64 ((xxh bs : Nat) : Int)) ∧ ∃ n, w' = w.drewN n := by
 have hX := h
 obtain ⟨⟨cs, ho, ht⟩, h2, h3⟩ := h
 have hc : w.cell? ⟨b, 36, none⟩ = some (.int .u64 (bs.length : Int)) := (cell_of ho 36).trans ht.num
 have hxx : xxh bs = final (restOf ((beginOf bs + bs.length) % 2 ^ 64) bs (32 * (bs.length / 32)) (bs.length % 32)) := rfl
 have hbl := beginOf_lt bs
 have hrest : ∀ j, j < bs.length % 32 → w.cell? ⟨b, 4 + j, none⟩ = some (.int .u8 ((bs[32 * (bs.length / 32) + j]?.getD 0 : Nat) : Int)) := fun j hj => (cell_of ho _).trans (ht.rest j hj)
 have hsum : IntKind.u64.wrap (((beginOf bs : Nat) : Int) + (bs.length : Int)) = (((beginOf bs + bs.length) % 2 ^ 64 : Nat) : Int) := wrapN _ _ (by simp)
 have hm := Nat.mod_lt (beginOf bs + bs.length) (show 0 < 2 ^ 64 by decide)
 have hh : (beginOf bs + bs.length) % 2 ^ 64 < 2 ^ 64 := hm
 have hrl := restOf_lt _ hh bs (32 * (bs.length / 32)) (bs.length % 32)
 have HT := fun n => takeRest_any ((beginOf bs + bs.length) % 2 ^ 64) (bs.length % 32) 32 b 4 _ rfl hh bs (32 * (bs.length / 32)) (by omega) (by decide) (w.drewN n) hrest h2
 have HH := fun n => held_any b bs.length (w.drewN n) h3 hc
 have HB := fun n => begin_any b bs (w.drewN n) (hX.drewN n)
 clear hX ho ht h2 hrest hm hh
 generalize (beginOf bs + bs.length) % 2 ^ 64 = s at hsum hxx hrl HT
 generalize restOf s bs (32 * (bs.length / 32)) (bs.length % 32) = r at hxx hrl HT
 rw [hxx]
 clear hxx
 rw [final_eq]
 generalize beginOf bs = bo at hsum hbl HB
 obtain ⟨m, hm⟩ : ∃ m, bs.length % 32 = m := ⟨_, rfl⟩
 rw [hm] at HT HH
 have hm1 : (m : Int) ≤ 32 := by omega
 have hm0 : (0 : Int) ≤ (m : Int) := by omega
 clear hm
 generalize bs.length = n at hc h3 hsum HH
 have hs1 := shake1 r hrl
 have hl1 := shake_lt r (2 ^ 33) p2
 generalize shake r (2 ^ 33) p2 = r1 at hs1 hl1 ⊢
 have hs2 := shake2 r1 hl1
 have hl2 := shake_lt r1 (2 ^ 29) p3
 generalize shake r1 (2 ^ 29) p3 = r2 at hs2 hl2 ⊢
 have hs3 := shake3 r2 hl2
 generalize r2 ^^^ r2 / 2 ^ 32 = r3 at hs3 ⊢
 go_enter Tryz.func172, Tryz.ntmps172
 go_wp2_with fail
 go_quiet (first | (go_at_call 176; exact Calls.quiet_of (HB _)))
 go_wp2_with fail
 have HT2 := fun n => HT (nq + n)
 have HH2 := fun n => HH (nq + n)
 simp only [← World.drewN_drewN] at HT2 HH2
 have hW : Hid (∃ k, w.drewN nq = w.drewN k) := ⟨nq, rfl⟩
 clear HT HH HB hc
 generalize w.drewN nq = W2 at HT2 HH2 hW ⊢
 go_quiet (first | (go_at_call 173; exact Calls.quiet_of (HH2 _)) | (go_at_call 177; exact Calls.quiet_of (HT2 _)))
 go_wp2_with fail
 go_ret
 obtain ⟨k, rfl⟩ := hW.out
 exact ⟨rfl, k + nq, by rw [World.drewN_drewN]⟩

end Go.Proofs.YtnjilcokkhodmaaGreatDoor.Xs

namespace Go.Proofs.YtnjilcokkhodmaaGreatDoor.Xs
open Go.RowKit Go.Shelf
set_option linter.unusedVariables false

def build60 (parts : Array (Nat × Value)) : Sem Value := Instr.build 185 parts
theorem run_build60 (parts : Array (Nat × Value)) : Instr.build 185 parts = build60 parts := rfl
def xxhZero : Array Value := ([Value.int .u64 6983438078262162902, .int .u64 14029467366897019727, .int .u64 0, .int .u64 7046029288634856825] ++ List.replicate 32 (Value.int .u8 0) ++ [Value.int .u64 0]).toArray
theorem build60_at (w : World) : (build60 #[(0, .agg #[.int .u64 6983438078262162902, .int .u64 14029467366897019727, .int .u64 0, .int .u64 7046029288634856825])]).run Tryz.prog w = .ok (.agg xxhZero) w :=
 run_build w 185 _ xxhZero (by kernel_rfl)
theorem rep_at (a b c d z n : Value) (m j : Nat) (hj : j < m) : ([a, b, c, d] ++ List.replicate m z ++ [n]).toArray[4 + j]? = some z := by
 simp only [List.getElem?_toArray]
 rw [List.getElem?_append_left (by simp; omega), List.getElem?_append_right (by simp)]
 simp [hj]
theorem xxhZero_c : Xc [] 0 0 xxhZero := by
 refine ⟨rfl, fun i hi => ?_, fun j hj => ⟨0, rep_at _ _ _ _ _ _ 32 j hj⟩, fun j hj => by omega, rfl⟩
 obtain rfl | rfl | rfl | rfl : i = 0 ∨ i = 1 ∨ i = 2 ∨ i = 3 := by omega
 all_goals rfl

section
attribute [local go_sem ↓] run_build60
set_option maxHeartbeats 1000000 in
theorem newX_any (w : World) : Calls Tryz.prog 75 #[] w fun e w' => e = .returned (.pointer (some ⟨w.heap.size, 0, none⟩)) ∧ IsX w' w.heap.size [] ∧ Keep noBlock w w' := by
 have hb := build60_at
 have hw1 : IntKind.u64.wrap 25430182151971714518 = 6983438078262162902 := by rw [IntKind.wrap_u64]; rfl
 have hw2 : IntKind.u64.wrap (-11400714785074694791) = 7046029288634856825 := by rw [IntKind.wrap_u64]; rfl
 go_enter Tryz.func75, Tryz.ntmps75
 go_wp2_with fail
 go_ret
 exact ⟨rfl, ⟨⟨xxhZero, World.alloc_heap_new w _, xxhZero_c⟩, fun j => by simp, by decide⟩, (Keep.refl _ w).alloc _⟩
end

theorem Xc.setFour {bs : List Nat} {k r : Nat} {cs : Array Value} (i : Nat) (v : Nat) (hs : cs.size = 37) (hi : i < 4) (h : ∀ j, j < 4 → cs[j]? = some (.int .u64 ((if j < i then lane bs (k + 1) j else lane bs k j : Nat) : Int))) (hv : v = lane bs (k + 1) i) :
  ∀ j, j < 4 → (cs.setIfInBounds i (.int .u64 (v : Int)))[j]? = some (.int .u64 ((if j < i + 1 then lane bs (k + 1) j else lane bs k j : Nat) : Int)) := by
 intro j hj
 rw [Array.getElem?_setIfInBounds]
 by_cases e : i = j
 ·subst e
  rw [if_pos rfl, if_pos (by omega), if_pos (by omega), hv]
 ·rw [if_neg e, h j hj]
  by_cases h2 : j < i
  ·rw [if_pos h2, if_pos (by omega)]
  ·rw [if_neg h2, if_neg (by omega)]

/-- The cells within a stripe's taking: i of the four are taken. -/
structure Xs (bs : List Nat) (k i : Nat) (cs : Array Value) : Prop where
 size : cs.size = 37
 four : ∀ j, j < 4 → cs[j]? = some (.int .u64 ((if j < i then lane bs (k + 1) j else lane bs k j : Nat) : Int))
 rest : ∀ j, j < 32 → cs[4 + j]? = some (.int .u8 ((bs[32 * k + j]?.getD 0 : Nat) : Int))
 num : cs[36]? = some (.int .u64 (bs.length : Int))

theorem Xs.set {bs : List Nat} {k i : Nat} {cs : Array Value} (h : Xs bs k i cs) (hi : i < 4) : Xs bs k (i + 1) (cs.setIfInBounds i (.int .u64 ((lane bs (k + 1) i : Nat) : Int))) := by
 have hs := h.size
 refine ⟨by simp [hs], Xc.setFour (r := 0) i _ hs hi h.four rfl, fun j hj => ?_, ?_⟩
 ·rw [Array.getElem?_setIfInBounds, if_neg (by omega)]; exact h.rest j hj
 ·rw [Array.getElem?_setIfInBounds, if_neg (by omega)]; exact h.num

def grown (cs : Array Value) (m : Nat) (X : List Nat) (n : Nat) : Array Value :=
 ((cs.toList.take (4 + m) ++ (u8s X ++ cs.toList.drop (4 + m + (u8s X).length))).toArray).setIfInBounds 36 (.int .u64 (n : Int))
theorem mid_at {α : Type} (l x : List α) (p i : Nat) (hl : p + x.length ≤ l.length) : (l.take p ++ (x ++ l.drop (p + x.length)))[i]? = if i < p then l[i]? else if i < p + x.length then x[i - p]? else l[i]? := by
 by_cases h1 : i < p
 ·rw [if_pos h1, List.getElem?_append_left (by simp; omega), List.getElem?_take, if_pos h1]
 ·rw [if_neg h1, List.getElem?_append_right (by simp; omega), List.length_take, Nat.min_eq_left (by omega)]
  by_cases h2 : i < p + x.length
  ·rw [if_pos h2, List.getElem?_append_left (by omega)]
  ·rw [if_neg h2, List.getElem?_append_right (by omega), List.getElem?_drop]
   congr 1; omega
theorem app_left (L X : List Nat) (j : Nat) (h : j < L.length) : (L ++ X)[j]?.getD 0 = L[j]?.getD 0 := by rw [List.getElem?_append_left h]
theorem app_right (L X : List Nat) (j : Nat) : (L ++ X)[L.length + j]?.getD 0 = X[j]?.getD 0 := by rw [List.getElem?_append_right (by omega)]; congr 2; omega
theorem Xc.grow {L : List Nat} {cs : Array Value} (h : Xc L (L.length / 32) (L.length % 32) cs) (X : List Nat) (hX : L.length % 32 + X.length ≤ 32) :
  Xc (L ++ X) (L.length / 32) (L.length % 32 + X.length) (grown cs (L.length % 32) X (L.length + X.length)) := by
 have hs := h.size
 have hsl : cs.toList.length = 37 := by simpa using hs
 have hat : ∀ i, i < 36 → (grown cs (L.length % 32) X (L.length + X.length))[i]? = if i < 4 + L.length % 32 then cs[i]? else if i < 4 + L.length % 32 + X.length then (u8s X)[i - (4 + L.length % 32)]? else cs[i]? := fun i hi => by
  unfold grown
  rw [Array.getElem?_setIfInBounds, if_neg (by omega), List.getElem?_toArray, mid_at _ _ _ _ (by rw [u8s_length]; omega), u8s_length]
  simp
 refine ⟨?_, fun i hi => ?_, fun j hj => ?_, fun j hj => ?_, ?_⟩
 ·unfold grown
  simp [u8s_length]; omega
 ·rw [hat i (by omega), if_pos (by omega), h.four i hi, lane_of L (L ++ X) (L.length / 32) i hi (fun j hj => (app_left L X j (by omega)).symm)]
 ·rw [hat _ (by omega)]
  split
  ·exact h.all j hj
  ·split
   ·rw [u8s_at X _ (by omega)]; exact ⟨_, rfl⟩
   ·exact h.all j hj
 ·rw [hat _ (by omega)]
  by_cases hj2 : j < L.length % 32
  ·rw [if_pos (by omega), h.rest j hj2, app_left L X _ (by omega)]
  ·rw [if_neg (by omega), if_pos (by omega), u8s_at X _ (by omega)]
   have e : 32 * (L.length / 32) + j = L.length + (j - L.length % 32) := by omega
   have e2 : 4 + j - (4 + L.length % 32) = j - L.length % 32 := by omega
   rw [e, app_right, e2]
 ·unfold grown
  rw [Array.getElem?_setIfInBounds, if_pos rfl, if_pos (by simp [u8s_length]; omega)]
  simp

set_option maxRecDepth 100000 in
set_option maxHeartbeats 4000000 in
theorem stripe_any (b : Nat) (bs : List Nat) (k : Nat) (cs : Array Value) (hbs : ∀ j : Nat, bs[j]?.getD 0 < 256) (w : World) (ho : w.heap[b]? = some (.cells cs 185 (0, 0))) (hx : Xs bs k 0 cs) :
  Calls Tryz.prog 171 #[.pointer (some ⟨b, 0, none⟩)] w fun e w' => e = .returned (.tuple #[]) ∧ (∃ cs', w'.heap[b]? = some (.cells cs' 185 (0, 0)) ∧ Xs bs k 4 cs') ∧ Keep (fun k => k = b) w w' := by
 have hc0 : w.cell? ⟨b, 0, none⟩ = some (.int .u64 ((lane bs k 0 : Nat) : Int)) := (cell_of ho 0).trans (hx.four 0 (by decide))
 have hc1 : w.cell? ⟨b, 1, none⟩ = some (.int .u64 ((lane bs k 1 : Nat) : Int)) := (cell_of ho 1).trans (hx.four 1 (by decide))
 have hc2 : w.cell? ⟨b, 2, none⟩ = some (.int .u64 ((lane bs k 2 : Nat) : Int)) := (cell_of ho 2).trans (hx.four 2 (by decide))
 have hc3 : w.cell? ⟨b, 3, none⟩ = some (.int .u64 ((lane bs k 3 : Nat) : Int)) := (cell_of ho 3).trans (hx.four 3 (by decide))
 have HX := (show Hid _ from hbs)
 have HO := (show Hid _ from ho)
 clear hbs ho
 have hf : ∀ i, lane bs (k + 1) i = round (lane bs k i) (num bs (32 * k + 8 * i) 8) := fun i => rfl
 have HF := (show Hid _ from hf)
 clear hf
 generalize hg : lane bs k = f at hc0 hc1 hc2 hc3 HF
 have HG := (show Hid _ from hg)
 clear hg
 go_enter Tryz.func171, Tryz.ntmps171
 go_wp2_with fail
 clear hc0 hc1 hc2 hc3
 go_loopw [8] (fun i wr => ∃ (j : Nat) (cs' : Array Value), j ≤ 4 ∧ i = .int .i64 j ∧ wr.heap[b]? = some (.cells cs' 185 (0, 0)) ∧ Xs bs k j cs' ∧ Keep (fun k => k = b) w wr) (fun i _ => 4 - (intOf i).toNat)
 case atStart => exact ⟨0, cs, by omega, rfl, HO.out, hx, Keep.refl _ _⟩
 case round =>
  clear HO hx
  obtain ⟨j, cs', hj, rfl, ho, hx, hK⟩ := hrel
  by_cases hlt : j < 4
  ·obtain ⟨u, hu⟩ : ∃ u, cs'[j]? = some (.int .u64 u) := ⟨_, hx.four j hlt⟩
   have hc : wr.cell? ⟨b, j, none⟩ = some (.int .u64 u) := (cell_of ho j).trans hu
   have hfz := frozen_of ho j
   have hmx : Tryz.prog.follows .mixedOrders = true := by kernel_rfl
   have hrest : ∀ i, i < 8 → wr.cell? ⟨b, 4 + 8 * j + i, none⟩ = some (.int .u8 ((bs[32 * k + 8 * j + i]?.getD 0 : Nat) : Int)) := fun i hi => by
    rw [Nat.add_assoc 4, Nat.add_assoc (32 * k)]
    exact (cell_of ho _).trans (hx.rest (8 * j + i) (by omega))
   have HR := (show Hid _ from hrest)
   clear hrest
   have hix : ∀ w, (Instr.index 182 (.agg #[.int .u64 (f 0 : Int), .int .u64 (f 1 : Int), .int .u64 (f 2 : Int), .int .u64 (f 3 : Int)]) (.int .i64 (j : Int))).run Tryz.prog w = .ok (.int .u64 (f j : Int)) w := fun w => by
    obtain rfl | rfl | rfl | rfl : j = 0 ∨ j = 1 ∨ j = 2 ∨ j = 3 := by omega
    ·exact idx0 _ _ _ _ w
    ·exact idx1 _ _ _ _ w
    ·exact idx2 _ _ _ _ w
    ·exact idx3 _ _ _ _ w
   obtain ⟨q, hq⟩ : ∃ q, 8 * j = q := ⟨_, rfl⟩
   have hw1 : IntKind.i64.wrap (8 * (j : Int)) = (q : Int) := by rw [IntKind.wrap_i64]; omega
   have hw2 : IntKind.i64.wrap ((q : Int) + 8) = (q : Int) + 8 := by rw [IntKind.wrap_i64]; omega
   have hb1 : (q : Int) + 8 ≤ 32 := by omega
   have hb0 : (0 : Int) ≤ (q : Int) := by omega
   have hb2 : (q : Int) ≤ (q : Int) + 8 := by omega
   have hb3 : ¬ 32 = q := by omega
   have hlen : ((q : Int) + 8).toNat - q = 8 := by omega
   rw [hq] at HR
   have HQ := (show Hid _ from hq)
   clear hq
   go_wp2_with fail
   go_region_with (first | (go_at_call 175; refine (number_any 8 (32 - q) b (4 + q) bs (32 * k + q) (by decide) _ ?_ HX.out).mono ?_; exact fun i hi => HR.out i hi; rintro e w' ⟨rfl, n1, rfl⟩) | (go_at_call 174; refine (round_any (f j) (num bs (32 * k + q) 8) _ _ rfl rfl _).mono ?_; rintro e w' ⟨rfl, n2, rfl⟩))
   go_wp2
   go_roundw
   case rel =>
    have hl : round (f j) (num bs (32 * k + q) 8) = lane bs (k + 1) j := by rw [HF.out j, HQ.out]
    rw [hl]
    exact ⟨j + 1, _, by omega, by go_num, set_obj (w := wr.drewN _) ho j _, hx.set hlt, hK.trans (Keep.setCell (S := fun i => i = b) (p := ⟨b, j, none⟩) (keep_drewN wr _ |>.mono (fun _ _ h => h.elim)) (fun _ => rfl) _) (fun i _ e => e)⟩
   case measure => simp [intOf]; omega
  ·obtain rfl : j = 4 := by omega
   go_wp2
   go_end0
   exact ⟨rfl, ⟨cs', ho, hx⟩, hK⟩

end Go.Proofs.YtnjilcokkhodmaaGreatDoor.Xs
