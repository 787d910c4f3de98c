/-
  The mark and the bits ahead of it, as numbers: no program is named here.
-/
import Derived.Test.YtdkjciilhlhagaaWrite
namespace Go.Proofs.Ytdkjciilhlhagaa
open Go

/-- The mark is set. -/
theorem mark_one (bs : List Nat) (hbs : ∀ j : Nat, bs[j]?.getD 0 < 256) (h0 : bs[bs.length - 1]?.getD 0 ≠ 0) : bitAt bs (tailLen bs) = 1 := by
  have hc := hbs (bs.length - 1)
  unfold tailLen bitAt
  generalize hk : bs.length - 1 = k at h0 hc
  generalize hcc : bs[k]?.getD 0 = c at h0 hc
  have hl := lenB_le c hc
  have hp := lenB_pos c h0
  have e1 : (8 * k + (lenB c - 1)) / 8 = k := by omega
  have e2 : (8 * k + (lenB c - 1)) % 8 = lenB c - 1 := by omega
  rw [e1, e2, hcc]
  have e3 : lenB c - 1 = Nat.log2 c := by unfold lenB; rw [if_neg h0]; omega
  rw [e3]
  unfold bitOf
  have h1 : 2 ^ Nat.log2 c ≤ c := Nat.log2_self_le h0
  have h2 : c < 2 ^ (Nat.log2 c + 1) := Nat.lt_log2_self
  rw [Nat.pow_succ] at h2
  have e4 : c / 2 ^ Nat.log2 c = 1 := Nat.div_eq_of_lt_le (by omega) (by omega)
  rw [e4]
/-- Nothing is set above the mark. -/
theorem mark_above (bs : List Nat) (h0 : bs[bs.length - 1]?.getD 0 ≠ 0) (j : Nat) (hj : tailLen bs < j) (hl : j < 8 * bs.length) : bitAt bs j = 0 := by
  unfold tailLen at hj
  unfold bitAt
  generalize hk : bs.length - 1 = k at h0 hj
  have hp := lenB_pos _ h0
  have e1 : j / 8 = k := by omega
  rw [e1]
  generalize hcc : bs[k]?.getD 0 = c at h0 hj hp
  have e3 : lenB c - 1 = Nat.log2 c := by unfold lenB; rw [if_neg h0]; omega
  have h2 : c < 2 ^ (Nat.log2 c + 1) := Nat.lt_log2_self
  have h3 : 2 ^ (Nat.log2 c + 1) ≤ 2 ^ (j % 8) := Nat.pow_le_pow_right (by omega) (by omega)
  unfold bitOf
  rw [Nat.div_eq_of_lt (by omega)]
theorem tailLen_lt (bs : List Nat) (hbs : ∀ j : Nat, bs[j]?.getD 0 < 256) (h0 : bs[bs.length - 1]?.getD 0 ≠ 0) : tailLen bs < 8 * bs.length := by
  have hl := lenB_le _ (hbs (bs.length - 1))
  have hp := lenB_pos _ h0
  have hn : 0 < bs.length := by
    cases bs with
    | nil => simp at h0
    | cons x l => simp
  unfold tailLen
  omega

/-- What the document's reader has of k bits that it goes back: t of them are there, from bit p on. -/
def qv (bs : List Nat) (p t : Nat) : Nat → Nat
  | 0 => 0
  | k + 1 => 2 * qv bs p t k + (if k < t then bitAt bs (p + t - 1 - k) else 0)
theorem qv_low (bs : List Nat) (p t k : Nat) (hk : k ≤ t) : qv bs p t k = numAt bs (p + t - k) k := by
  induction k with
  | zero => rfl
  | succ k ih =>
    rw [qv, ih (by omega), if_pos (by omega), numAt_front, show p + t - (k + 1) + 1 = p + t - k from by omega, show p + t - 1 - k = p + t - (k + 1) from by omega]
    omega
theorem qv_high (bs : List Nat) (p t j : Nat) : qv bs p t (t + j) = numAt bs p t * 2 ^ j := by
  induction j with
  | zero => rw [Nat.add_zero, qv_low bs p t t (Nat.le_refl _), Nat.add_sub_cancel]; simp
  | succ j ih =>
    rw [show t + (j + 1) = (t + j) + 1 from by omega, qv, ih, if_neg (by omega), Nat.pow_succ, Nat.add_zero, Nat.mul_comm 2, Nat.mul_assoc]
theorem qv_lt (bs : List Nat) (p t k : Nat) : qv bs p t k < 2 ^ k := by
  induction k with
  | zero => simp [qv]
  | succ k ih =>
    have := bitAt_lt bs (p + t - 1 - k)
    rw [qv, Nat.pow_succ]
    split <;> omega

/-- Where a reader stands, taken apart: of m bits t are there, and z lie ahead of the first one. -/
theorem split_any (u a : Nat) (n : Int) (hua : u = 0 ∨ a = 0) (ha : a ≤ 1099511627776) :
    ∃ p t z m b : Nat, u = p + t ∧ m = t + z ∧ (z = 0 ∨ p = 0) ∧ (m : Int) = min (max n 0) 56 ∧ b = min (a + z) 1099511627776 ∧ (p = 0 ∨ b = 0) := by
  obtain ⟨m, hm⟩ : ∃ m : Nat, (m : Int) = min (max n 0) 56 := ⟨(min (max n 0) 56).toNat, by omega⟩
  refine ⟨u - min m u, min m u, m - min m u, m, min (a + (m - min m u)) 1099511627776, by omega, by omega, by omega, hm, rfl, by omega⟩

/-- The first k bits of bs, as numbers. -/
def bitsTo (bs : List Nat) (k : Nat) : List Nat := upto (bitAt bs) k
theorem bitsTo_length (bs : List Nat) (k : Nat) : (bitsTo bs k).length = k := upto_length _ _
theorem bitsTo_succ (bs : List Nat) (k : Nat) : bitsTo bs (k + 1) = bitsTo bs k ++ [bitAt bs k] := upto_succ _ _
theorem bitsTo_at (bs : List Nat) (k j : Nat) (h : j < k) : (bitsTo bs k)[j]?.getD 0 = bitAt bs j := by
  unfold bitsTo upto
  rw [List.getElem?_map, List.getElem?_range h]
  rfl

end Go.Proofs.Ytdkjciilhlhagaa
