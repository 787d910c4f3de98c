/-
  '((s % n) + n) % n'.
-/
import Derived.Test.YtlpibfonpfhakaaDoorNums
namespace Go.Proofs.YtlpibfonpfhakaaDoor
set_option linter.unusedVariables false
def around (n : Nat) (s : Int) : Nat := ((s.tmod n + n).tmod n).toNat
theorem around_lt (n : Nat) (s : Int) (hn : 0 < n) (h : n ≤ 65536) : ((around n s : Nat) : Int) = (s.tmod n + n).tmod n ∧ around n s < n ∧ -65536 ≤ s.tmod n ∧ s.tmod n ≤ 65536 := by
  have h1 : -(n : Int) < s.tmod n := by
    have h := Int.natAbs_tmod s n
    have h' := Nat.mod_lt s.natAbs (show 0 < (n : Int).natAbs by simpa using hn)
    rw [← h] at h'
    simp only [Int.natAbs_natCast] at h'
    omega
  have h2 : s.tmod n < n := Int.tmod_lt_of_pos _ (by omega)
  have h3 : 0 ≤ s.tmod n + n := by omega
  have h4 : (s.tmod n + n).tmod n < n := Int.tmod_lt_of_pos _ (by omega)
  have h5 : 0 ≤ (s.tmod n + n).tmod n := Int.tmod_nonneg _ h3
  unfold around
  omega
end Go.Proofs.YtlpibfonpfhakaaDoor
