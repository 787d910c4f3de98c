/-
  The document's XXH64, as plain functions.
-/
import Derived.Test.YtoohkldhfkoocaaNums
namespace Go.Proofs.Ytoohkldhfkoocaa
open Go.RowKit Go.Shelf
set_option linter.unusedVariables false

/-- x turned left by n bits. -/
def turn (x n : Nat) : Nat := x * 2 ^ n % 2 ^ 64 ||| x / 2 ^ (64 - n)
def p1 : Nat := 11400714785074694791
def p2 : Nat := 14029467366897019727
def p3 : Nat := 1609587929392839161
def p4 : Nat := 9650029242287828579
def p5 : Nat := 2870177450012600261
/-- The document's round. -/
def round (a x : Nat) : Nat := turn ((a + x * p2 % 2 ^ 64) % 2 ^ 64) 31 * p1 % 2 ^ 64
/-- n bytes from p on, the lowest first. -/
def num (bs : List Nat) (p : Nat) : Nat → Nat
  | 0 => 0
  | n + 1 => num bs p n ||| bs[p + n]?.getD 0 * 2 ^ (8 * n) % 2 ^ 64
def begin4 : Nat → Nat
  | 0 => (p1 + p2) % 2 ^ 64
  | 1 => p2
  | 2 => 0
  | _ => 2 ^ 64 - p1
/-- Number i behind k whole stripes. -/
def lane (bs : List Nat) : Nat → Nat → Nat
  | 0, i => begin4 i
  | k + 1, i => round (lane bs k i) (num bs (32 * k + 8 * i) 8)
/-- The four, put together. -/
def joined (f : Nat → Nat) : Nat := (((turn (f 0) 1 + turn (f 1) 7) % 2 ^ 64 + turn (f 2) 12) % 2 ^ 64 + turn (f 3) 18) % 2 ^ 64
def mixIn (h a : Nat) : Nat := ((h ^^^ round 0 a) * p1 % 2 ^ 64 + p4) % 2 ^ 64
def mixed (f : Nat → Nat) : Nat → Nat
  | 0 => joined f
  | i + 1 => mixIn (mixed f i) (f i)
def beginOf (bs : List Nat) : Nat := if bs.length < 32 then p5 else mixed (lane bs (bs.length / 32)) 4
/-- 8 by 8. -/
def eightIn (h x : Nat) : Nat := (turn (h ^^^ round 0 x) 27 * p1 % 2 ^ 64 + p4) % 2 ^ 64
def rest8 (h : Nat) (bs : List Nat) (q : Nat) : Nat → Nat
  | 0 => h
  | k + 1 => eightIn (rest8 h bs q k) (num bs (q + 8 * k) 8)
def fourIn (h x : Nat) : Nat := (turn (h ^^^ x * p1 % 2 ^ 64) 23 * p2 % 2 ^ 64 + p3) % 2 ^ 64
def oneIn (h v : Nat) : Nat := turn (h ^^^ v * p5 % 2 ^ 64) 11 * p1 % 2 ^ 64
def rest1 (h : Nat) (bs : List Nat) (q : Nat) : Nat → Nat
  | 0 => h
  | k + 1 => oneIn (rest1 h bs q k) (bs[q + k]?.getD 0)
/-- What is left, m bytes from q on. -/
def restOf (h : Nat) (bs : List Nat) (q m : Nat) : Nat :=
  if m % 8 < 4 then rest1 (rest8 h bs q (m / 8)) bs (q + 8 * (m / 8)) (m % 8)
  else rest1 (fourIn (rest8 h bs q (m / 8)) (num bs (q + 8 * (m / 8)) 4)) bs (q + 8 * (m / 8) + 4) (m % 8 - 4)
def final (h0 : Nat) : Nat :=
  let h1 := (h0 ^^^ h0 / 2 ^ 33) * p2 % 2 ^ 64
  let h2 := (h1 ^^^ h1 / 2 ^ 29) * p3 % 2 ^ 64
  h2 ^^^ h2 / 2 ^ 32
def xxh (bs : List Nat) : Nat := final (restOf ((beginOf bs + bs.length) % 2 ^ 64) bs (32 * (bs.length / 32)) (bs.length % 32))

theorem turn_lt (x n : Nat) (hn : n ≤ 64) (hx : x < 2 ^ 64) : turn x n < 2 ^ 64 := by
  refine Nat.or_lt_two_pow (Nat.mod_lt _ (by decide)) ?_
  exact Nat.lt_of_le_of_lt (Nat.div_le_self _ _) hx
theorem round_lt (a x : Nat) : round a x < 2 ^ 64 := Nat.mod_lt _ (by decide)
theorem num_lt (bs : List Nat) (p n : Nat) : num bs p n < 2 ^ 64 := by
  induction n with
  | zero => simp [num]
  | succ n ih => exact Nat.or_lt_two_pow ih (Nat.mod_lt _ (by decide))
theorem begin4_lt (i : Nat) : begin4 i < 2 ^ 64 := by unfold begin4; split <;> decide
theorem lane_lt (bs : List Nat) (k i : Nat) : lane bs k i < 2 ^ 64 := by
  cases k with
  | zero => exact begin4_lt i
  | succ k => exact round_lt _ _
theorem mixed_lt (f : Nat → Nat) (i : Nat) : mixed f i < 2 ^ 64 := by
  cases i with
  | zero => exact Nat.mod_lt _ (by decide)
  | succ i => exact Nat.mod_lt _ (by decide)
theorem beginOf_lt (bs : List Nat) : beginOf bs < 2 ^ 64 := by
  unfold beginOf
  split
  · decide
  · exact mixed_lt _ _
theorem rest8_lt (h : Nat) (hh : h < 2 ^ 64) (bs : List Nat) (q k : Nat) : rest8 h bs q k < 2 ^ 64 := by
  cases k with
  | zero => exact hh
  | succ k => exact Nat.mod_lt _ (by decide)
theorem fourIn_lt (h x : Nat) : fourIn h x < 2 ^ 64 := Nat.mod_lt _ (by decide)
theorem rest1_lt (h : Nat) (hh : h < 2 ^ 64) (bs : List Nat) (q k : Nat) : rest1 h bs q k < 2 ^ 64 := by
  cases k with
  | zero => exact hh
  | succ k => exact Nat.mod_lt _ (by decide)
theorem restOf_lt (h : Nat) (hh : h < 2 ^ 64) (bs : List Nat) (q m : Nat) : restOf h bs q m < 2 ^ 64 := by
  unfold restOf
  split
  · exact rest1_lt _ (rest8_lt h hh bs q _) _ _ _
  · exact rest1_lt _ (fourIn_lt _ _) _ _ _

/-- Numbers of a row that is what stands from q on. -/
theorem num_of (bs cs : List Nat) (p q n : Nat) (h : ∀ j, j < n → bs[p + j]?.getD 0 = cs[q + j]?.getD 0) : num bs p n = num cs q n := by
  induction n with
  | zero => rfl
  | succ n ih => rw [num, num, ih (fun j hj => h j (by omega)), h n (by omega)]
theorem lane_of (bs cs : List Nat) (k i : Nat) (hi : i < 4) (h : ∀ j, j < 32 * k → bs[j]?.getD 0 = cs[j]?.getD 0) : lane bs k i = lane cs k i := by
  induction k with
  | zero => rfl
  | succ k ih => rw [lane, lane, ih (fun j hj => h j (by omega)), num_of bs cs _ _ 8 (fun j hj => h _ (by omega))]
theorem rest8_of (h : Nat) (bs cs : List Nat) (p q k : Nat) (hh : ∀ j, j < 8 * k → bs[p + j]?.getD 0 = cs[q + j]?.getD 0) : rest8 h bs p k = rest8 h cs q k := by
  induction k with
  | zero => rfl
  | succ k ih => rw [rest8, rest8, ih (fun j hj => hh j (by omega)), num_of bs cs (p + 8 * k) (q + 8 * k) 8 (fun j hj => by rw [Nat.add_assoc, Nat.add_assoc]; exact hh _ (by omega))]
theorem rest1_of (h : Nat) (bs cs : List Nat) (p q k : Nat) (hh : ∀ j, j < k → bs[p + j]?.getD 0 = cs[q + j]?.getD 0) : rest1 h bs p k = rest1 h cs q k := by
  induction k with
  | zero => rfl
  | succ k ih => rw [rest1, rest1, ih (fun j hj => hh j (by omega)), hh k (by omega)]
theorem restOf_of (h : Nat) (bs cs : List Nat) (p q m : Nat) (hh : ∀ j, j < m → bs[p + j]?.getD 0 = cs[q + j]?.getD 0) : restOf h bs p m = restOf h cs q m := by
  unfold restOf
  rw [rest8_of h bs cs p q (m / 8) (fun j hj => hh j (by omega))]
  split
  · exact rest1_of _ bs cs _ _ _ (fun j hj => by rw [Nat.add_assoc, Nat.add_assoc]; exact hh _ (by omega))
  · rw [num_of bs cs (p + 8 * (m / 8)) (q + 8 * (m / 8)) 4 (fun j hj => by rw [Nat.add_assoc, Nat.add_assoc]; exact hh _ (by omega))]
    exact rest1_of _ bs cs _ _ _ (fun j hj => by rw [Nat.add_assoc, Nat.add_assoc, Nat.add_assoc, Nat.add_assoc]; exact hh _ (by omega))

end Go.Proofs.Ytoohkldhfkoocaa
