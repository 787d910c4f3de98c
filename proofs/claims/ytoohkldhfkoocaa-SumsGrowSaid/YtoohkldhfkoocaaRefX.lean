/-
  The document's own XXH64: its small calls.
-/
import Derived.Test.YtoohkldhfkoocaaSum
namespace Go.Proofs.Ytoohkldhfkoocaa
open Go.RowKit Go.Shelf
set_option linter.unusedVariables false

set_option maxHeartbeats 1000000 in
theorem turnR_any (x n : Nat) (xi ni : Int) (ex : xi = (x : Int)) (en : ni = (n : Int)) (hx : x < 2 ^ 64) (hn : n < 64) (h0 : 0 < n) (w : World) :
    Calls Try.prog 24 #[.int .u64 xi, .int .i64 ni] w fun e w' => e = .returned (.int .u64 ((turn x n : Nat) : Int)) ∧ ∃ n, w' = w.drewN n := by
  subst ex; subst en
  go_enter Try.func24, Try.ntmps24
  go_wp2
  go_quiet (fail)
  go_wp2
  go_ret
  exact ⟨congrArg (fun z => Ending.returned (Value.int .u64 z)) (turn_form x n hx), _, rfl⟩

set_option maxHeartbeats 1000000 in
theorem roundR_any (a x : Nat) (ai xi : Int) (ea : ai = (a : Int)) (ex : xi = (x : Int)) (w : World) :
    Calls Try.prog 22 #[.int .u64 ai, .int .u64 xi] w fun e w' => e = .returned (.int .u64 ((round a x : Nat) : Int)) ∧ ∃ n, w' = w.drewN n := by
  subst ea; subst ex
  go_enter Try.func22, Try.ntmps22
  go_wp2_with fail
  refine (turnR_any ((a + x * p2 % 2 ^ 64) % 2 ^ 64) 31 _ _ (wrapN _ _ (by rw [wrapN _ (x * p2) (by simp [p2])]; simp)) rfl (Nat.mod_lt _ (by decide)) (by decide) (by decide) _).mono ?_
  rintro e w' ⟨rfl, nq, rfl⟩
  go_wp2_with fail
  go_ret
  exact ⟨congrArg (fun z => Ending.returned (Value.int .u64 z)) (wrapN _ _ (by simp [p1])), _, rfl⟩

set_option maxRecDepth 100000 in
set_option maxHeartbeats 1000000 in
theorem readR_any (len cap gb off n : Nat) (ni : Int) (en : ni = (n : Int)) (bs : List Nat) (p : Nat) (hfit : n ≤ 8) (hlen : n ≤ len) (hl48 : len < 2 ^ 48) (w : World)
    (hcs : ∀ j, j < n → w.cell? ⟨gb, off + j, none⟩ = some (.int .u8 ((bs[p + j]?.getD 0 : Nat) : Int))) (hbs : ∀ j : Nat, bs[j]?.getD 0 < 256) :
    Calls Try.prog 23 #[.slice (some ⟨gb, off, none⟩) len cap, .int .i64 ni] w fun e w' => e = .returned (.int .u64 ((num bs p n : Nat) : Int)) ∧ ∃ n, w' = w.drewN n := by
  subst en
  have HC := (show Hid _ from hcs)
  have HX := (show Hid _ from hbs)
  clear hcs hbs
  go_enter Try.func23, Try.ntmps23
  go_wp2_with fail
  go_loopw [6, 5] (fun i x wr => ∃ (k : Nat), k ≤ n ∧ i = .int .i64 k ∧ x = .int .u64 ((num bs p k : Nat) : Int) ∧ wr = w) (fun i _ _ => n - (intOf i).toNat)
  case atStart => exact ⟨0, Nat.zero_le _, rfl, rfl, rfl⟩
  case round =>
    obtain ⟨k, hk, rfl, rfl, rfl⟩ := hrel
    by_cases hlt : k < n
    · have hcv := HC.out k hlt
      have hv := HX.out (p + k)
      have hs : num bs p (k + 1) = num bs p k ||| bs[p + k]?.getD 0 * 2 ^ (8 * k) % 2 ^ 64 := by rw [num]
      have hy := num_lt bs p k
      generalize bs[p + k]?.getD 0 = v at hcv hv hs
      generalize num bs p k = y at hy hs
      have HS := (show Hid _ from hs)
      clear hs
      have hnf := num_form y v k hy
      have hkl : (k : Int) < (len : Int) := by omega
      go_wp2
      go_roundw
      case rel => exact ⟨k + 1, by omega, by go_num, by rw [HS.out]; exact ⟨rfl, trivial⟩⟩
      case measure => simp [intOf]; omega
    · obtain rfl : k = n := by omega
      go_wp2
      go_ret
      exact ⟨rfl, 0, rfl⟩

end Go.Proofs.Ytoohkldhfkoocaa
