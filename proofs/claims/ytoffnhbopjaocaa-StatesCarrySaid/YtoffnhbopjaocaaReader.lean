/-
  Bits and Align of a reader, and of none.
-/
import Derived.Test.YtoffnhbopjaocaaRead
namespace Go.Proofs.Ytoffnhbopjaocaa
open Go.RowKit Go.Shelf

theorem IsR.drewN {W : World} {rb g : Nat} {bs : List Nat} {p : Nat} (h : IsR W rb g bs p) (n : Nat) : IsR (W.drewN n) rb g bs p := ⟨h.lt, h.obj, h.cells, h.fits, h.bytes, h.in_⟩

/-- What Bits(n) answers. -/
def bitsAns (bs : List Nat) (p : Nat) (n : Int) : Nat × Int × Nat :=
  if 0 ≤ n ∧ n ≤ 56 then if (bs.length : Int) * 8 - p < n then (0, 10, p) else (numAt bs p n.toNat, 0, p + n.toNat) else (0, 2, p)

set_option maxHeartbeats 400000 in
/-- Bits(n), where n bits can't be asked for. -/
theorem bits_arg (rb : Nat) (n : Int) (hn : ¬ (0 ≤ n ∧ n ≤ 56)) (w : World) :
    Calls Try.prog 43 #[.pointer (some ⟨rb, 0, none⟩), .int .i64 n] w fun e w' => e = .returned (.tuple #[.int .u64 0, .int .i64 2]) ∧ w' = w := by
  have hd : decide (0 ≤ n ∧ n ≤ 56) = false := decide_eq_false hn
  go_enter Try.func43, Try.ntmps43
  go_wp2_with (go_at_call 56; refine (canCount_any n _).mono ?_; rw [hd]; rintro e w' ⟨rfl, rfl⟩)
  go_ret2
  exact ⟨rfl, rfl⟩

set_option maxHeartbeats 400000 in
/-- Bits(n), where too few bits are left. -/
theorem bits_few (rb g : Nat) (bs : List Nat) (p m : Nat) (hm : m ≤ 56) (w : World) (h : IsR w rb g bs p) (hp : 8 * bs.length < p + m) :
    Calls Try.prog 43 #[.pointer (some ⟨rb, 0, none⟩), .int .i64 (m : Int)] w fun e w' => e = .returned (.tuple #[.int .u64 0, .int .i64 10]) ∧ ∃ n, w' = w.drewN n := by
  have hd : decide (0 ≤ (m : Int) ∧ (m : Int) ≤ 56) = true := decide_eq_true ⟨by omega, by omega⟩
  have hlt : (bs.length : Int) * 8 - (p : Int) < (m : Int) := by omega
  go_enter Try.func43, Try.ntmps43
  go_wp2_with (first | (go_at_call 56; refine (canCount_any _ _).mono ?_; rw [hd]; rintro e w' ⟨rfl, rfl⟩) | (go_at_call 45; refine (left_any rb g bs p _ h).mono ?_; rintro e w' ⟨rfl, nq, rfl⟩))
  go_ret2
  exact ⟨rfl, _, rfl⟩

set_option maxHeartbeats 400000 in
/-- Bits(n), where there are so many. -/
theorem bits_take (rb g : Nat) (bs : List Nat) (p m : Nat) (hm : m ≤ 56) (w : World) (h : IsR w rb g bs p) (hp : p + m ≤ 8 * bs.length) :
    Calls Try.prog 43 #[.pointer (some ⟨rb, 0, none⟩), .int .i64 (m : Int)] w fun e w' => e = .returned (.tuple #[.int .u64 (numAt bs p m : Nat), .int .i64 0]) ∧ IsR w' rb g bs (p + m) ∧ Keep (fun k => k = rb) w w' := by
  have hd : decide (0 ≤ (m : Int) ∧ (m : Int) ≤ 56) = true := decide_eq_true ⟨by omega, by omega⟩
  have hlt : ¬ (bs.length : Int) * 8 - (p : Int) < (m : Int) := by omega
  go_enter Try.func43, Try.ntmps43
  go_wp2_with (first | (go_at_call 56; refine (canCount_any _ _).mono ?_; rw [hd]; rintro e w' ⟨rfl, rfl⟩) | (go_at_call 45; refine (left_any rb g bs p _ h).mono ?_; rintro e w' ⟨rfl, nq, rfl⟩) | (go_at_call 63; refine (take_any rb g bs p m _ (h.drewN _) hm hp).mono ?_; rintro e w' ⟨rfl, h1, h2⟩))
  go_ret2
  exact ⟨rfl, h1, ⟨h2.os, h2.tape, h2.output, h2.size, h2.block⟩⟩

/-- Bits(n) of a reader, whatever n is. -/
theorem bits_any (rb g : Nat) (bs : List Nat) (p : Nat) (n : Int) (w : World) (h : IsR w rb g bs p) :
    Calls Try.prog 43 #[.pointer (some ⟨rb, 0, none⟩), .int .i64 n] w fun e w' => e = .returned (.tuple #[.int .u64 ((bitsAns bs p n).1 : Nat), .int .i64 (bitsAns bs p n).2.1]) ∧ IsR w' rb g bs (bitsAns bs p n).2.2 ∧ Keep (fun k => k = rb) w w' := by
  unfold bitsAns
  by_cases hn : 0 ≤ n ∧ n ≤ 56
  · rw [if_pos hn]
    obtain ⟨m, rfl⟩ := Int.eq_ofNat_of_zero_le hn.1
    rw [Int.toNat_natCast]
    by_cases hp : (bs.length : Int) * 8 - p < (m : Int)
    · rw [if_pos hp]
      refine (bits_few rb g bs p m (by omega) w h (by omega)).mono ?_
      rintro e w' ⟨rfl, nq, rfl⟩
      exact ⟨rfl, h.drewN _, (keep_drewN w nq).mono (fun _ _ h => h.elim)⟩
    · rw [if_neg hp]
      exact bits_take rb g bs p m (by omega) w h (by omega)
  · rw [if_neg hn]
    refine (bits_arg rb n hn w).mono ?_
    rintro e w' ⟨rfl, rfl⟩
    exact ⟨rfl, h, Keep.refl _ _⟩

set_option maxHeartbeats 400000 in
theorem bits_nil (n : Int) (w : World) : Calls Try.prog 43 #[.pointer none, .int .i64 n] w fun e w' => e = .returned (.tuple #[.int .u64 0, .int .i64 1]) ∧ w' = w := by
  go_enter Try.func43, Try.ntmps43
  go_wp2
  go_ret2
  exact ⟨rfl, rfl⟩
set_option maxHeartbeats 400000 in
theorem left_nil (w : World) : Calls Try.prog 45 #[.pointer none] w fun e w' => e = .returned (.int .i64 0) ∧ w' = w := by
  go_enter Try.func45, Try.ntmps45
  go_wp2
  go_ret
  exact ⟨rfl, rfl⟩
set_option maxHeartbeats 400000 in
theorem alignW_nil (w : World) : Calls Try.prog 30 #[.pointer none] w fun e w' => e = .returned (.tuple #[]) ∧ w' = w := by
  go_enter Try.func30, Try.ntmps30
  go_wp2
  refine bodyPost_ret (results_none rfl _ _ _) rfl ?_
  exact ⟨rfl, rfl⟩
set_option maxHeartbeats 400000 in
theorem bytes_nil (w : World) : Calls Try.prog 31 #[.pointer none] w fun e w' => e = .returned (.slice none 0 0) ∧ w' = w := by
  go_enter Try.func31, Try.ntmps31
  go_wp2
  go_ret
  exact ⟨rfl, rfl⟩

end Go.Proofs.Ytoffnhbopjaocaa
