/-
  The number of a stretch of bytes, carried on from place to place, as plain numbers.
-/
import Derived.Test.YtlpibfonpfhakaaDoorNums
namespace Go.Proofs.YtlpibfonpfhakaaDoor

/-- Byte i, or 0. -/
def byteN (bs : List Nat) (i : Nat) : Nat := bs[i]?.getD 0
/-- The odd number by which sums are spread. -/
def spreadN : Nat := 11400714819323198485
/-- The sum of k bytes from a place on, not reduced. -/
def hashZ (bs : List Nat) (p : Nat) : Nat → Nat
  | 0 => 0
  | k + 1 => hashZ bs p k * spreadN + byteN bs (p + k)
theorem hashZ_next (bs : List Nat) (p k : Nat) : hashZ bs p (k + 1) = hashZ bs (p + 1) k + spreadN ^ k * byteN bs p := by
  induction k with
  | zero => simp [hashZ]
  | succ k ih =>
    have e1 : hashZ bs p (k + 1 + 1) = hashZ bs p (k + 1) * spreadN + byteN bs (p + (k + 1)) := rfl
    have e2 : hashZ bs (p + 1) (k + 1) = hashZ bs (p + 1) k * spreadN + byteN bs (p + 1 + k) := rfl
    rw [e1, e2, ih, Nat.add_mul, Nat.pow_succ, show p + 1 + k = p + (k + 1) from by omega, Nat.mul_right_comm]
    omega
theorem hashZ_same (bs : List Nat) (p q k : Nat) (h : ∀ i, i < k → byteN bs (p + i) = byteN bs (q + i)) : hashZ bs p k = hashZ bs q k := by
  induction k with
  | zero => rfl
  | succ k ih => simp only [hashZ]; rw [ih (fun i hi => h i (by omega)), h k (by omega)]
/-- .. reduced. -/
def hashN (bs : List Nat) (p k : Nat) : Nat := hashZ bs p k % 18446744073709551616
theorem hashN_lt (bs : List Nat) (p k : Nat) : hashN bs p k < 18446744073709551616 := Nat.mod_lt _ (by decide)
/-- What the first byte of k counts for. -/
def leadN (k : Nat) : Nat := spreadN ^ (k - 1) % 18446744073709551616
theorem leadN_lt (k : Nat) : leadN k < 18446744073709551616 := Nat.mod_lt _ (by decide)
theorem hashN_succ (bs : List Nat) (p k : Nat) : (hashN bs p k * spreadN + byteN bs (p + k)) % 18446744073709551616 = hashN bs p (k + 1) := by
  unfold hashN
  simp only [hashZ]
  rw [Nat.add_mod, Nat.mul_mod, Nat.mod_mod, ← Nat.mul_mod, ← Nat.add_mod]
theorem leadN_succ (k : Nat) (hk : 0 < k) : (leadN k * spreadN) % 18446744073709551616 = leadN (k + 1) := by
  unfold leadN
  rw [Nat.mul_mod, Nat.mod_mod, ← Nat.mul_mod, ← Nat.pow_succ]
  congr 2
  omega
/-- The sum at a place, as it is carried on: it stays as it was where the bytes end. -/
def sumN (bs : List Nat) (span p : Nat) : Nat := if span ≤ bs.length then hashN bs (min p (bs.length - span)) span else 0
theorem sumN_lt (bs : List Nat) (span p : Nat) : sumN bs span p < 18446744073709551616 := by
  unfold sumN
  split
  · exact hashN_lt _ _ _
  · decide
theorem sumN_in (bs : List Nat) (span p : Nat) (h : p + span ≤ bs.length) : sumN bs span p = hashN bs p span := by
  unfold sumN
  rw [if_pos (by omega), Nat.min_eq_left (by omega)]
theorem sumN_out (bs : List Nat) (span p : Nat) (h : bs.length ≤ p + span) : sumN bs span (p + 1) = sumN bs span p := by
  unfold sumN
  split
  · congr 1; omega
  · rfl
/-- The lead, as it stands. -/
def leadM (bs : List Nat) (span : Nat) : Nat := if span ≤ bs.length then leadN span else 1
theorem leadM_lt (bs : List Nat) (span : Nat) : leadM bs span < 18446744073709551616 := by
  unfold leadM
  split
  · exact leadN_lt _
  · decide
theorem mod_step (A L b S c m : Int) : (((A % m - ((L % m) * b) % m) % m * S) % m + c) % m = ((A - L * b) * S + c) % m := by
  have e0 : ((L % m) * b) % m = (L * b) % m := by rw [Int.mul_emod, Int.emod_emod, ← Int.mul_emod]
  rw [e0, ← Int.sub_emod A (L * b) m, Int.add_emod ((A - L * b) * S), Int.mul_emod (A - L * b) S, Int.add_emod (((A - L * b) % m * S) % m), Int.mul_emod ((A - L * b) % m) S, Int.emod_emod, Int.emod_emod]
/-- One place on. -/
theorem sum_step (bs : List Nat) (span p : Nat) (h1 : 1 ≤ span) (h : p + span < bs.length) :
    ((((sumN bs span p : Int) - ((leadM bs span : Int) * (byteN bs p : Int)) % 18446744073709551616) % 18446744073709551616 * (spreadN : Int)) % 18446744073709551616 + (byteN bs (p + span) : Int)) % 18446744073709551616 = ((sumN bs span (p + 1) : Nat) : Int) := by
  rw [sumN_in bs span p (by omega), sumN_in bs span (p + 1) (by omega)]
  unfold leadM hashN leadN
  rw [if_pos (by omega)]
  obtain ⟨k, rfl⟩ : ∃ k, span = k + 1 := ⟨span - 1, by omega⟩
  have hz : (hashZ bs (p + 1) (k + 1) : Int) = ((hashZ bs p (k + 1) : Int) - (spreadN : Int) ^ k * (byteN bs p : Int)) * (spreadN : Int) + (byteN bs (p + (k + 1)) : Int) := by
    have e1 := hashZ_next bs p k
    have e2 : hashZ bs (p + 1) (k + 1) = hashZ bs (p + 1) k * spreadN + byteN bs (p + 1 + k) := rfl
    have e3 : (hashZ bs p (k + 1) : Int) = (hashZ bs (p + 1) k : Int) + (spreadN : Int) ^ k * (byteN bs p : Int) := by exact_mod_cast e1
    have e4 : (hashZ bs (p + 1) (k + 1) : Int) = (hashZ bs (p + 1) k : Int) * (spreadN : Int) + (byteN bs (p + (k + 1)) : Int) := by
      rw [e2, show p + 1 + k = p + (k + 1) from by omega]; push_cast; rfl
    rw [e4, e3, Int.add_sub_cancel]
  have em : ((18446744073709551616 : Nat) : Int) = 18446744073709551616 := rfl
  rw [Nat.add_sub_cancel]
  simp only [Int.natCast_emod, Int.natCast_pow, em]
  rw [hz]
  exact mod_step _ _ _ _ _ _
end Go.Proofs.YtlpibfonpfhakaaDoor
