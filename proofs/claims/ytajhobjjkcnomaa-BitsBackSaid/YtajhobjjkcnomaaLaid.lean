/-
  What was put, as bits, and what is read of it again: no program is named here.
-/
import Derived.Test.YtajhobjjkcnomaaWriteLaw
namespace Go.Proofs.Ytajhobjjkcnomaa

/-- The bits behind one number that was put, or behind an Align. -/
def stepL (L : List (Fin 2)) (p : PutD) : List (Fin 2) := if p.al then L ++ low 0 ((8 - L.length % 8) % 8) else putL L p.x p.n
/-- The bits of the first k. -/
def laid (ps : List PutD) : Nat → List (Fin 2)
  | 0 => []
  | k + 1 => stepL (laid ps k) (ps[k]?.getD putD0)
theorem stepL_grows (L : List (Fin 2)) (p : PutD) : ∃ M, stepL L p = L ++ M := by
  unfold stepL putL
  split
  · exact ⟨_, rfl⟩
  · split
    · exact ⟨_, rfl⟩
    · exact ⟨[], (List.append_nil _).symm⟩
theorem stepL_le (L : List (Fin 2)) (p : PutD) : (stepL L p).length ≤ L.length + 56 := by
  unfold stepL
  split
  · rw [List.length_append, low_length]; omega
  · exact putL_le L p.x p.n
theorem laid_le (ps : List PutD) (k : Nat) : (laid ps k).length ≤ 56 * k := by
  induction k with
  | zero => simp [laid]
  | succ k ih => have := stepL_le (laid ps k) (ps[k]?.getD putD0); simp only [laid]; omega
theorem laid_grows (ps : List PutD) (k n : Nat) (h : k ≤ n) : ∃ M, laid ps n = laid ps k ++ M := by
  induction n with
  | zero => obtain rfl : k = 0 := by omega
            exact ⟨[], rfl⟩
  | succ n ih =>
    by_cases e : k = n + 1
    · subst e; exact ⟨[], (List.append_nil _).symm⟩
    · obtain ⟨M, hM⟩ := ih (by omega)
      obtain ⟨M2, hM2⟩ := stepL_grows (laid ps n) (ps[n]?.getD putD0)
      exact ⟨M ++ M2, by rw [← List.append_assoc, ← hM]; exact hM2⟩
theorem bitL_low (x m k : Nat) (h : k < m) : bitL (low x m) k = bitOf x k := by
  unfold bitL low upto
  rw [List.getElem?_map, List.getElem?_range h]
  rfl
theorem numF_bitOf (x m : Nat) : numF (fun k => bitOf x k) m = x % 2 ^ m := by
  induction m with
  | zero => simp [numF, Nat.mod_one]
  | succ m ih =>
    simp only [numF]
    rw [ih, Nat.mod_pow_succ, bitOf, Nat.mul_comm]
/-- What was put is read as it was put. -/
theorem num_back (A M : List (Fin 2)) (x m : Nat) (L : List (Fin 2)) (h : L = A ++ low x m ++ M) : numAt (pack L) A.length m = x % 2 ^ m := by
  rw [numAt_numF, ← numF_bitOf]
  refine numF_congr _ _ _ (fun i hi => ?_)
  rw [bitAt_pack, h, List.append_assoc, bitL_behind, bitL_app _ _ _ (by rw [low_length]; exact hi), bitL_low x m i hi]
theorem num_back_zero (A M : List (Fin 2)) (m : Nat) (L : List (Fin 2)) (h : L = A ++ low 0 m ++ M) : numAt (pack L) A.length m = 0 := by
  rw [num_back A M 0 m L h, Nat.zero_mod]
theorem pack_room (L : List (Fin 2)) : L.length ≤ 8 * (pack L).length ∧ 8 * (pack L).length < L.length + 8 := by
  rw [pack_length]; omega

/-- 'x & (1 << m - 1)'. -/
theorem and_mask (x m : Nat) (hx : x < 18446744073709551616) (hm : m ≤ 56) : Go.bits .and .u64 (x : Int) (2 ^ m - 1) = ((x % 2 ^ m : Nat) : Int) := by
  have h1 : 2 ^ m ≤ 2 ^ 56 := Nat.pow_le_pow_right (by omega) hm
  have h0 : 0 < 2 ^ m := Nat.two_pow_pos m
  have e : ((2 : Int) ^ m - 1) = ((2 ^ m - 1 : Nat) : Int) := by
    rw [Int.natCast_sub h0]; simp
  rw [e, u64_and_nat x (2 ^ m - 1) hx (by omega), Nat.and_two_pow_sub_one_eq_mod]

end Go.Proofs.Ytajhobjjkcnomaa
