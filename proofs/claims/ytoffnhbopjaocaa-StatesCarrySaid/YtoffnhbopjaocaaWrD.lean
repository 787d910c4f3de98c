/-
  Write: a description, written: zeros, and all of it.
-/
import Derived.Test.YtoffnhbopjaocaaWrC
namespace Go.Proofs.Ytoffnhbopjaocaa
open Go.RowKit Go.Shelf

set_option maxHeartbeats 1000000 in
theorem zerosAhead_any (a : Option Addr) (cap gb off : Nat) (cs : List Int) (w : World) (h : RowI w .i16 a cap gb off cs) (hl : cs.length ≤ 256) :
    Calls Try.prog 28 #[.slice a cs.length cap] w fun e w' => e = .returned (.int .i64 ((zl cs : Nat) : Int)) ∧ w' = w := by
  have HR := (show Hid (RowI w .i16 a cap gb off cs) from h)
  obtain ⟨n, hn⟩ : ∃ n, n = cs.length := ⟨_, rfl⟩
  rw [← hn] at hl ⊢
  have HN := (show Hid (n = cs.length) from hn)
  clear h hn
  go_enter Try.func28, Try.ntmps28
  go_wp2
  go_loop [3] (fun i => ∃ k : Nat, k ≤ n ∧ i = .int .i64 (k : Int) ∧ Hid (∀ i, i < k → cs[i]?.getD 0 = 0)) (fun i => n - (intOf i).toNat)
  case atStart => exact ⟨0, Nat.zero_le _, rfl, fun i hi => by omega⟩
  case round =>
    obtain ⟨k, hk, rfl, HZ⟩ := hrel
    by_cases hlt : k < n
    · have hkI : (k : Int) < (n : Int) := by omega
      obtain rfl := HR.out.here (i := k) (by have := HN.out; omega)
      have hc := HR.out.cells k (by have := HN.out; omega)
      obtain ⟨x, hx⟩ : ∃ x, x = cs[k]?.getD 0 := ⟨_, rfl⟩
      rw [← hx] at hc
      have HX := (show Hid (x = cs[k]?.getD 0) from hx)
      clear hx
      by_cases h0 : x = 0
      · subst h0
        go_wp2
        go_round
        case rel =>
          refine ⟨k + 1, by omega, by go_num, fun i hi => ?_⟩
          by_cases e : i = k
          · subst e; exact HX.out.symm
          · exact HZ.out i (by omega)
        case measure => simp [intOf]; omega
      · have h0b : (x == 0) = false := by simpa using h0
        go_wp2
        go_ret
        refine ⟨?_, rfl⟩
        rw [zl_uniq cs k HZ.out (by have := HN.out; omega) (by rw [← HX.out]; exact h0)]
        rfl
    · obtain rfl : k = n := by omega
      have hkI : ¬ (k : Int) < (k : Int) := by omega
      go_wp2
      go_ret
      refine ⟨?_, rfl⟩
      have h1 := zl_le cs
      have h2 : zl cs = k := by
        rcases Nat.lt_or_ge (zl cs) k with h | h
        · exact absurd (HZ.out _ h) (zl_end cs (by have := HN.out; omega))
        · have := HN.out; omega
      rw [h2]
      rfl

set_option maxHeartbeats 1000000 in
theorem writeZeros_any (w W : World) (wb : Nat) (L : List (Fin 2)) (n : Nat) (hM : Mine w W wb L) (hL : L.length < 100000) (hn : n ≤ 256) :
    Calls Try.prog 29 #[.pointer (some ⟨wb, 0, none⟩), .int .i64 (n : Int)] W fun e W' => e = .returned (.tuple #[]) ∧ Mine w W' wb (L ++ zbits n) := by
  go_enter Try.func29, Try.ntmps29
  go_wp2_with fail
  go_loopw [1] (fun i wr => ∃ (k : Nat) (M : List (Fin 2)), k ≤ n ∧ i = .int .i64 (k : Int) ∧ Mine w wr wb M ∧ M ++ zbits k = L ++ zbits n ∧ M.length + k ≤ L.length + n) (fun i _ => (intOf i).toNat)
  case atStart => exact ⟨n, L, Nat.le_refl _, rfl, hM, rfl, Nat.le_refl _⟩
  case round =>
    obtain ⟨k, M, hk, rfl, hM2, hE, hle⟩ := hrel
    have HE := (show Hid (M ++ zbits k = L ++ zbits n) from hE)
    have HM2 := (show Hid (Mine w wr wb M) from hM2)
    clear hE hM2 hM
    by_cases h3 : 3 ≤ k
    · obtain ⟨j, rfl⟩ : ∃ j, k = j + 3 := ⟨k - 3, by omega⟩
      have h3I : (3 : Int) ≤ ((j + 3 : Nat) : Int) := by omega
      have h3J : ((j + 3 : Nat) : Int) - 3 = (j : Int) := by omega
      obtain ⟨kk, hkk⟩ : ∃ kk, kk = j + 3 := ⟨_, rfl⟩
      have hjb : (j : Int) ≤ 256 := by omega
      rw [← hkk] at h3I h3J HE hle hk ⊢
      have HKK := (show Hid (kk = j + 3) from hkk)
      clear hkk
      go_wp2_with (go_at_call 25; refine (HM2.out.put_i 3 2 _ _ rfl rfl (by decide) (by decide) (by omega)).mono ?_; rintro e w' ⟨rfl, hM3⟩)
      go_roundw
      case rel => exact ⟨j, M ++ low 3 2, by have := HKK.out; omega, rfl, hM3, by rw [← HE.out, HKK.out, zbits_more, List.append_assoc], by rw [List.length_append, low_length]; have := HKK.out; omega⟩
      case measure => have := HKK.out; simp [intOf]; omega
    · have h3I : ¬ (3 : Int) ≤ (k : Int) := by omega
      have hkb : (k : Int) ≤ 2 := by omega
      go_wp2_with (go_at_call 25; refine (HM2.out.put_i k 2 _ _ rfl rfl (by omega) (by decide) (by omega)).mono ?_; rintro e w' ⟨rfl, hM3⟩)
      go_end0
      refine ⟨rfl, ?_⟩
      rw [← HE.out, zbits_few k (by omega)]
      exact hM3

end Go.Proofs.Ytoffnhbopjaocaa
