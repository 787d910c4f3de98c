/-
  How many bits a number has, and in how many a count is told: math/bits.Len, isLog, share, valueBits.
-/
import Derived.Test.YtoffnhbopjaocaaWrite
namespace Go.Proofs.Ytoffnhbopjaocaa
open Go.RowKit Go.Shelf

/-- How many bits a number has. -/
def lenN (x : Nat) : Nat := if x = 0 then 0 else Nat.log2 x + 1
theorem lenN_zero : lenN 0 = 0 := rfl
theorem lenN_pos (x : Nat) (h : x ≠ 0) : 2 ^ (lenN x - 1) ≤ x ∧ x < 2 ^ lenN x ∧ 0 < lenN x := by
  unfold lenN
  rw [if_neg h]
  refine ⟨?_, ?_, by omega⟩
  · rw [Nat.add_sub_cancel]; exact Nat.log2_self_le h
  · exact (Nat.log2_lt h).1 (Nat.lt_succ_self _)
theorem lenN_le (x k : Nat) (h : x < 2 ^ k) : lenN x ≤ k := by
  unfold lenN
  split
  · omega
  · rename_i h0
    have := (Nat.log2_lt h0 (k := k)).2 h
    omega
theorem lenN_eq (x k : Nat) (h1 : 2 ^ k ≤ x) (h2 : x < 2 ^ (k + 1)) : lenN x = k + 1 := by
  have h0 : x ≠ 0 := by have : 0 < 2 ^ k := Nat.pow_pos (by omega); omega
  unfold lenN
  rw [if_neg h0, (Nat.log2_eq_iff h0).2 ⟨h1, h2⟩]
theorem lenN_half (x : Nat) (h : x ≠ 0) : lenN x = lenN (x / 2) + 1 := by
  by_cases h1 : x = 1
  · subst h1; rfl
  · have h2 : x / 2 ≠ 0 := by omega
    obtain ⟨a, b, c⟩ := lenN_pos (x / 2) h2
    refine lenN_eq x (lenN (x / 2)) ?_ ?_
    · have e : 2 ^ lenN (x / 2) = 2 ^ (lenN (x / 2) - 1) * 2 := by rw [← Nat.pow_succ]; congr 1; omega
      omega
    · rw [Nat.pow_succ]; omega
theorem lenN_shift (x : Nat) (h : 256 ≤ x) : lenN x = 8 + lenN (x / 256) := by
  have h0 : x / 256 ≠ 0 := by omega
  obtain ⟨a, b, c⟩ := lenN_pos (x / 256) h0
  obtain ⟨k, hk⟩ : ∃ k, lenN (x / 256) = k + 1 := ⟨lenN (x / 256) - 1, by omega⟩
  rw [hk] at a b ⊢
  rw [Nat.add_sub_cancel] at a
  rw [lenN_eq x (k + 8) ?_ ?_]
  · omega
  · rw [Nat.pow_add]; omega
  · rw [show k + 8 + 1 = k + 1 + 8 from by omega, Nat.pow_add]; omega

set_option maxRecDepth 100000 in
set_option maxHeartbeats 1000000 in
/-- math/bits.Len64 of a number below 2^16. -/
theorem len64_any (x : Nat) (hx : x < 65536) (w : World) : Calls Try.prog 73 #[.int .u64 (x : Int)] w fun e w' => e = .returned (.int .i64 ((lenN x : Nat) : Int)) ∧ w' = w := by
  have g1 : ¬ (4294967296 : Int) ≤ (x : Int) := by omega
  have g2 : ¬ (65536 : Int) ≤ (x : Int) := by omega
  by_cases h : x < 256
  · have g3 : ¬ (256 : Int) ≤ (x : Int) := by omega
    go_enter Try.func73, Try.ntmps73
    go_wp2
    go_ret
    refine ⟨congrArg (fun x => Ending.returned (Value.int .i64 x)) ?_, rfl⟩
    clear w g1 g2 hx
    revert g3 h
    revert x
    decide +kernel
  · have g3 : (256 : Int) ≤ (x : Int) := by omega
    have hs := lenN_shift x (by omega)
    obtain ⟨y, hy⟩ : ∃ y, y = x / 256 := ⟨_, rfl⟩
    have hd : (x : Int) / 2 ^ 8 = (y : Int) := by omega
    have hd' : (x : Int) / 256 = (y : Int) := by omega
    rw [← hy] at hs
    have hy2 : y < 256 := by omega
    have hyI : (y : Int) < 256 := by omega
    generalize lenN x = lx at hs ⊢
    have HS := (show Hid _ from hs)
    have HY := (show Hid _ from hy)
    clear hs hy
    go_enter Try.func73, Try.ntmps73
    go_wp2
    go_ret
    refine ⟨congrArg (fun x => Ending.returned (Value.int .i64 x)) ?_, rfl⟩
    rw [HS.out]
    clear w g1 g2 g3 hx HS HY hd hd' h x lx
    revert hyI hy2
    revert y
    decide +kernel

set_option maxHeartbeats 400000 in
theorem len_any (x : Nat) (hx : x < 65536) (w : World) : Calls Try.prog 62 #[.int .u64 (x : Int)] w fun e w' => e = .returned (.int .i64 ((lenN x : Nat) : Int)) ∧ w' = w := by
  go_enter Try.func62, Try.ntmps62
  go_wp2_with (go_at_call 73; refine (len64_any x hx _).mono ?_; rintro e w' ⟨rfl, rfl⟩)
  go_ret
  exact ⟨rfl, rfl⟩
theorem len_i (x : Nat) (xi : Int) (hi : xi = (x : Int)) (hx : x < 65536) (w : World) : Calls Try.prog 62 #[.int .u64 xi] w fun e w' => e = .returned (.int .i64 ((lenN x : Nat) : Int)) ∧ w' = w := by
  subst hi; exact len_any x hx w

set_option maxHeartbeats 400000 in
theorem isLog_any (n : Int) (w : World) : Calls Try.prog 41 #[.int .i64 n] w fun e w' => e = .returned (.bool (decide (5 ≤ n ∧ n ≤ 12))) ∧ w' = w := by
  by_cases h1 : 5 ≤ n
  · by_cases h2 : n ≤ 12
    · rw [decide_eq_true ⟨h1, h2⟩]
      go_enter Try.func41, Try.ntmps41
      go_wp2
      go_ret
      exact ⟨rfl, rfl⟩
    · rw [decide_eq_false (fun h => h2 h.2)]
      go_enter Try.func41, Try.ntmps41
      go_wp2
      go_ret
      exact ⟨rfl, rfl⟩
  · rw [decide_eq_false (fun h => h1 h.1)]
    go_enter Try.func41, Try.ntmps41
    go_wp2
    go_ret
    exact ⟨rfl, rfl⟩

/-- How many states a count takes. -/
def shareN (c : Int) : Int := if c = -1 then 1 else c

set_option maxHeartbeats 400000 in
theorem share_any (c : Int) (h1 : -32768 ≤ c) (h2 : c ≤ 32767) (w : World) : Calls Try.prog 27 #[.int .i16 c] w fun e w' => e = .returned (.int .i64 (shareN c)) ∧ w' = w := by
  unfold shareN
  by_cases h : c = -1
  · subst h
    go_enter Try.func27, Try.ntmps27
    go_wp2
    go_ret
    exact ⟨rfl, rfl⟩
  · rw [if_neg h]
    have hb : (c == -1) = false := by simpa using h
    go_enter Try.func27, Try.ntmps27
    go_wp2
    go_ret
    exact ⟨rfl, rfl⟩

/-- The bits of the greatest value that may come, and below which value one bit fewer serves. -/
def valM (R : Nat) : Nat := lenN (R + 1)
def valT (R : Nat) : Nat := 2 ^ valM R - 1 - (R + 1)
theorem valM_ge (R : Nat) (h : 1 ≤ R) : 2 ≤ valM R := by
  have := lenN_pos (R + 1) (by omega)
  unfold valM
  rcases Nat.lt_or_ge (lenN (R + 1)) 2 with h' | h'
  · have : 2 ^ lenN (R + 1) ≤ 2 ^ 1 := Nat.pow_le_pow_right (by omega) (by omega)
    omega
  · exact h'
theorem valM_le (R : Nat) (h : R ≤ 4096) : valM R ≤ 13 := lenN_le _ _ (by omega)
theorem valT_eq (R : Nat) : valT R + (R + 1) + 1 = 2 ^ valM R := by
  have := lenN_pos (R + 1) (by omega)
  unfold valT valM
  omega
theorem val_half (R : Nat) (h : 1 ≤ R) : 2 ^ (valM R - 1) ≤ R + 1 ∧ 2 ^ valM R = 2 * 2 ^ (valM R - 1) ∧ valT R < 2 ^ (valM R - 1) := by
  have h1 := lenN_pos (R + 1) (by omega)
  have h2 := valM_ge R h
  have h3 := valT_eq R
  have e : 2 ^ valM R = 2 * 2 ^ (valM R - 1) := by rw [Nat.mul_comm, ← Nat.pow_succ, show (valM R - 1).succ = valM R from by omega]
  have h4 := h1.1
  unfold valM at *
  exact ⟨h4, e, by omega⟩

set_option maxHeartbeats 1000000 in
theorem valueBits_any (R : Nat) (hR : R ≤ 4096) (w : World) : Calls Try.prog 59 #[.int .i64 (R : Int)] w fun e w' => e = .returned (.tuple #[.int .i64 ((valM R : Nat) : Int), .int .u64 ((valT R : Nat) : Int)]) ∧ ∃ q, w' = w.drewN q := by
  have hM := valM_le R hR
  have hT := valT_eq R
  have hl := len_i (R + 1) ((R : Int) + 1) (by omega) (by omega)
  have e1 : (2 : Int) ^ valM R - 1 - ((R : Int) + 1) = ((valT R : Nat) : Int) := by
    have : ((2 ^ valM R : Nat) : Int) = (2 : Int) ^ valM R := by simp
    omega
  have hp : (2 : Nat) ^ valM R ≤ 2 ^ 13 := Nat.pow_le_pow_right (by omega) hM
  have hpI : (2 : Int) ^ valM R ≤ 8192 := by
    have : ((2 ^ valM R : Nat) : Int) = (2 : Int) ^ valM R := by simp
    omega
  have hp0 : (0 : Int) < (2 : Int) ^ valM R := by
    have : ((2 ^ valM R : Nat) : Int) = (2 : Int) ^ valM R := by simp
    have : 0 < 2 ^ valM R := Nat.pow_pos (by omega)
    omega
  unfold valM at *
  have HL := (show Hid (∀ w, _) from hl)
  have hT2 : valT R ≤ 8192 := by omega
  clear hl hT hp
  generalize lenN (R + 1) = m at *
  generalize valT R = t at *
  go_enter Try.func59, Try.ntmps59
  go_wp2_with (go_at_call 62; refine (HL.out _).mono ?_; rintro e w' ⟨rfl, rfl⟩)
  go_quiet (fail)
  go_wp2
  go_ret2
  exact ⟨rfl, _, rfl⟩

end Go.Proofs.Ytoffnhbopjaocaa
