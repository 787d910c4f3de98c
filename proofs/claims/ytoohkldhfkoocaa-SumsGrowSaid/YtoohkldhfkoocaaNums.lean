/-
  The document's numbers, as plain functions: the two CRCs.
-/
import Derived.Test.YtoohkldhfkoocaaBase
namespace Go.Proofs.Ytoohkldhfkoocaa
open Go.RowKit Go.Shelf
set_option linter.unusedVariables false

/-- One step of a CRC. -/
def step (poly x : Nat) : Nat := if x % 2 = 1 then x / 2 ^^^ poly else x / 2
/-- So many steps. -/
def steps (poly : Nat) : Nat → Nat → Nat
  | 0, x => x
  | k + 1, x => step poly (steps poly k x)
/-- A byte goes in. -/
def byteIn (poly x v : Nat) : Nat := steps poly 8 (x ^^^ v)
/-- Bytes go in. -/
def bytesIn (poly : Nat) (x : Nat) (bs : List Nat) : Nat := bs.foldl (byteIn poly) x

theorem step_lt {poly x n : Nat} (hp : poly < 2 ^ n) (hx : x < 2 ^ n) : step poly x < 2 ^ n := by
  unfold step
  split
  · exact Nat.xor_lt_two_pow (by omega) hp
  · omega
theorem steps_lt {poly x n : Nat} (hp : poly < 2 ^ n) (hx : x < 2 ^ n) (k : Nat) : steps poly k x < 2 ^ n := by
  induction k with
  | zero => exact hx
  | succ k ih => exact step_lt hp ih
theorem byteIn_lt {poly x v n : Nat} (hp : poly < 2 ^ n) (hx : x < 2 ^ n) (hv : v < 2 ^ n) : byteIn poly x v < 2 ^ n := steps_lt hp (Nat.xor_lt_two_pow hx hv) 8
theorem bytesIn_append (poly x : Nat) (bs cs : List Nat) : bytesIn poly x (bs ++ cs) = bytesIn poly (bytesIn poly x bs) cs := by simp [bytesIn]
theorem bytesIn_lt {poly n : Nat} (hp : poly < 2 ^ n) (bs : List Nat) (hb : ∀ j : Nat, bs[j]?.getD 0 < 2 ^ n) (x : Nat) (hx : x < 2 ^ n) : bytesIn poly x bs < 2 ^ n := by
  induction bs generalizing x with
  | nil => exact hx
  | cons b bs ih => exact ih (fun j => by simpa using hb (j + 1)) _ (byteIn_lt hp hx (by simpa using hb 0))

theorem half_xor (a b : Nat) : (a ^^^ b) / 2 = a / 2 ^^^ b / 2 := by
  have := Nat.shiftRight_xor_distrib (a := a) (b := b) (i := 1)
  simpa [Nat.shiftRight_eq_div_pow] using this
theorem mod_xor (a b : Nat) : (a ^^^ b) % 2 = (a % 2 + b % 2) % 2 := by
  have h := Nat.xor_mod_two_pow (a := a) (b := b) (n := 1)
  rw [Nat.pow_one] at h
  rw [h]
  rcases Nat.mod_two_eq_zero_or_one a with ha | ha <;> rcases Nat.mod_two_eq_zero_or_one b with hb | hb <;> rw [ha, hb] <;> decide

/-- A step is linear. -/
theorem step_xor (poly a b : Nat) : step poly (a ^^^ b) = step poly a ^^^ step poly b := by
  have hm := mod_xor a b
  unfold step
  rw [half_xor]
  rcases Nat.mod_two_eq_zero_or_one a with ha | ha <;> rcases Nat.mod_two_eq_zero_or_one b with hb | hb <;> rw [ha, hb] at hm <;> simp [ha, hb, hm, Nat.xor_assoc]
  · rw [Nat.xor_comm (b / 2) poly]
  · rw [← Nat.xor_assoc poly, Nat.xor_comm poly, Nat.xor_assoc, Nat.xor_self, Nat.xor_zero]
theorem steps_xor (poly a b k : Nat) : steps poly k (a ^^^ b) = steps poly k a ^^^ steps poly k b := by
  induction k with
  | zero => rfl
  | succ k ih => simp only [steps, ih, step_xor]
theorem steps_high (poly h k : Nat) : steps poly k (h * 2 ^ k) = h := by
  induction k generalizing h with
  | zero => simp [steps]
  | succ k ih =>
    have e : h * 2 ^ (k + 1) = (2 * h) * 2 ^ k := by rw [Nat.pow_succ, Nat.mul_comm 2 h, Nat.mul_assoc, Nat.mul_comm 2]
    simp only [steps]
    rw [e, ih]
    unfold step
    rw [if_neg (by omega)]
    omega
theorem split256 (x : Nat) : x = x % 256 ^^^ (x / 256) * 2 ^ 8 := by
  apply Nat.eq_of_testBit_eq
  intro j
  have e : x % 256 = x % 2 ^ 8 := rfl
  have e2 : x / 256 = x / 2 ^ 8 := rfl
  rw [Nat.testBit_xor, e, e2, Nat.testBit_mod_two_pow, Nat.testBit_mul_two_pow, Nat.testBit_div_two_pow]
  by_cases h : j < 8
  · have h2 : ¬ 8 ≤ j := by omega
    simp [h, h2]
  · have h2 : 8 ≤ j := by omega
    simp [h, h2]
/-- The table's way. -/
theorem byteIn_table (poly x v : Nat) : byteIn poly x v = steps poly 8 (x % 256 ^^^ v) ^^^ x / 256 := by
  unfold byteIn
  conv => lhs; rw [split256 x]
  rw [Nat.xor_assoc, Nat.xor_comm (x / 256 * 2 ^ 8) v, ← Nat.xor_assoc, steps_xor, steps_high]

end Go.Proofs.Ytoohkldhfkoocaa
