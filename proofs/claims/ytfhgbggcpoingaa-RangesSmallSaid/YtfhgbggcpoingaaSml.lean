/-
  Bits that are all alike take few bytes: as plain numbers.
-/
import Derived.Test.YtfhgbggcpoingaaMth
namespace Go.Proofs.Ytfhgbggcpoingaa

/-- Range, chance and number of bytes behind one more bit. -/
def simS (one : Bool) (t : Nat × Nat × Nat) : Nat × Nat × Nat :=
  let s := if one then t.1 - boundN t.1 t.2.1 else boundN t.1 t.2.1
  if s < 16777216 then (s * 256, learnN t.2.1 one, t.2.2 + 1) else (s, learnN t.2.1 one, t.2.2)
def simN (one : Bool) : Nat → Nat × Nat × Nat
  | 0 => (4294967295, 1024, 1)
  | n + 1 => simS one (simN one n)
theorem sim_bit {e : Enc} {one : Bool} {c m : Nat} (h : (e.span, c, manyE e) = (e.span, c, m)) : ((bitE e c one).span, learnN c one, manyE (bitE e c one)) = simS one (e.span, c, m) := by
  have hm : manyE e = m := by simpa using h
  subst hm
  have key : ∀ o s, (cutE e o s).span = (if s < 16777216 then s * 256 else s) ∧ manyE (cutE e o s) = (if s < 16777216 then manyE e + 1 else manyE e) := by
    intro o s
    unfold cutE normE
    show (if s < 16777216 then _ else _ : Enc).span = _ ∧ manyE (if s < 16777216 then _ else _ : Enc) = _
    split
    · rw [shiftE_span, shiftE_many]
      exact ⟨rfl, rfl⟩
    · exact ⟨rfl, rfl⟩
  unfold simS bitE
  cases one with
  | true =>
    simp only [if_true]
    rw [(key _ _).1, (key _ _).2]
    split <;> rfl
  | false =>
    simp only [if_false, Bool.false_eq_true]
    rw [(key _ _).1, (key _ _).2]
    split <;> rfl
theorem simS_mono (one : Bool) (t : Nat × Nat × Nat) : t.2.2 ≤ (simS one t).2.2 := by
  unfold simS
  dsimp only
  generalize (if one then t.1 - boundN t.1 t.2.1 else boundN t.1 t.2.1) = s
  split
  · exact Nat.le_succ _
  · exact Nat.le_refl _
theorem simN_mono (one : Bool) (n k : Nat) : (simN one n).2.2 ≤ (simN one (n + k)).2.2 := by
  induction k with
  | zero => exact Nat.le_refl _
  | succ k ih => exact Nat.le_trans ih (simS_mono one _)
/-- The chance where learning ends. -/
def endC (one : Bool) : Nat := if one then 31 else 2017
set_option maxRecDepth 100000 in
theorem sim_first (one : Bool) : (simN one 256).2.1 = endC one ∧ (simN one 256).2.2 ≤ 8 ∧ 16777216 ≤ (simN one 256).1 ∧ (simN one 256).1 < 4294967296 := by
  revert one; decide +kernel
theorem endC_stays (one : Bool) : learnN (endC one) one = endC one := by revert one; decide
/-- What is left of a range there. -/
theorem end_left (one : Bool) (s : Nat) (h1 : 16777216 ≤ s) (h2 : s < 4294967296) : s - s / 64 ≤ (if one then s - boundN s (endC one) else boundN s (endC one)) ∧ (if one then s - boundN s (endC one) else boundN s (endC one)) ≤ s := by
  cases one with
  | true =>
    show s - s / 64 ≤ s - s / 2048 * 31 ∧ s - s / 2048 * 31 ≤ s
    omega
  | false =>
    show s - s / 64 ≤ s / 2048 * 2017 ∧ s / 2048 * 2017 ≤ s
    omega
/-- How many bytes there may be, t bits behind the learning. -/
def Slow (m0 t : Nat) (u : Nat × Nat × Nat) : Prop := 16777216 ≤ u.1 ∧ u.1 < 4294967296 ∧ m0 ≤ u.2.2 ∧
  ((∃ j, j ≤ 63 ∧ 2147483648 - j * 33554432 ≤ u.1 ∧ m0 + 1 ≤ u.2.2 ∧ 64 * (u.2.2 - m0 - 1) + j ≤ t) ∨ 64 * (u.2.2 - m0) ≤ t + 1)
theorem lb_step (J s s' : Nat) (hJ : J ≤ 2080374784) (b : 2147483648 - J ≤ s) (h : s - s / 64 ≤ s') : 2147483648 - (J + 33554432) ≤ s' := by omega
theorem slow_step (one : Bool) (m0 t : Nat) (u : Nat × Nat × Nat) (hc : u.2.1 = endC one) (h : Slow m0 t u) : Slow m0 (t + 1) (simS one u) ∧ (simS one u).2.1 = endC one := by
  obtain ⟨s, c, m⟩ := u
  obtain rfl : c = endC one := hc
  obtain ⟨h1, h2, h3, h4⟩ := h
  have hl := end_left one s h1 h2
  have hlearn := endC_stays one
  unfold simS
  dsimp only at h1 h2 h3 h4 ⊢
  generalize (if one then s - boundN s (endC one) else boundN s (endC one)) = s' at *
  rw [hlearn]
  split
  · rename_i hlt
    refine ⟨⟨by dsimp only; omega, by dsimp only; omega, by dsimp only; omega, .inl ⟨0, by omega, by dsimp only; omega, by dsimp only; omega, ?_⟩⟩, rfl⟩
    dsimp only
    rcases h4 with ⟨j, a, b, c, d⟩ | d
    · have : j = 63 := by omega
      subst this
      omega
    · omega
  · rename_i hlt
    refine ⟨⟨by dsimp only; omega, by dsimp only; omega, h3, ?_⟩, rfl⟩
    rcases h4 with ⟨j, a, b, c, d⟩ | d
    · by_cases hj : j = 63
      · right; dsimp only; omega
      · left
        have q1 : 2147483648 - (j + 1) * 33554432 ≤ s' := by
          have q0 : j * 33554432 ≤ 62 * 33554432 := Nat.mul_le_mul_right _ (by omega)
          rw [Nat.succ_mul]
          exact lb_step (j * 33554432) s s' q0 b hl.1
        exact ⟨j + 1, by omega, q1, c, by dsimp only; omega⟩
    · right; dsimp only; omega
theorem slow_all (one : Bool) (t : Nat) : Slow (simN one 256).2.2 t (simN one (256 + t)) ∧ (simN one (256 + t)).2.1 = endC one := by
  induction t with
  | zero =>
    obtain ⟨a, b, c, d⟩ := sim_first one
    rw [Nat.add_zero]
    generalize simN one 256 = u at *
    exact ⟨⟨c, d, Nat.le_refl _, .inr (by rw [Nat.sub_self]; omega)⟩, a⟩
  | succ t ih =>
    have := slow_step one (simN one 256).2.2 t (simN one (256 + t)) ih.2 ih.1
    have e : simN one (256 + (t + 1)) = simS one (simN one (256 + t)) := by
      rw [← Nat.add_assoc]
      generalize 256 + t = q
      rfl
    rw [e]
    exact this
/-- Few bytes. -/
theorem sim_small (one : Bool) (n : Nat) : (simN one n).2.2 + 4 ≤ n / 32 + 16 := by
  have h0 := (sim_first one).2.1
  by_cases h : n ≤ 256
  · have := simN_mono one n (256 - n)
    rw [show n + (256 - n) = 256 from by omega] at this
    omega
  · have h1 := (slow_all one (n - 256)).1
    rw [show 256 + (n - 256) = n from by omega] at h1
    obtain ⟨_, _, h2, h3⟩ := h1
    rcases h3 with ⟨j, a, b, c, d⟩ | d <;> omega

end Go.Proofs.Ytfhgbggcpoingaa
