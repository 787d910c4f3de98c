/-
  LedgerSum, the walk.
-/
import Derived.Test.YtdmggiemaoejkaaPlaysLaw
namespace Go.Proofs.Ytdmggiemaoejkaa
open Go.RowKit Go.Shelf
set_option linter.unusedVariables false

/-- The ledger, in a new block. -/
structure One (w W : World) (lb B now most : Nat) : Prop where
  isL : IsL W lb B now most
  keep : Keep noBlock w W
  lo : w.heap.size ≤ lb
theorem One.charge {w W : World} {lb B now most : Nat} (h : One w W lb B now most) {n r : Int} {now' most' : Nat} (ha : chargeAns B now most n = (r, now', most')) :
    Hid (Calls Try.prog 12 #[.pointer (some ⟨lb, 0, none⟩), .int .i64 n] W fun e W1 => e = .returned (.int .i64 r) ∧ One w W1 lb B now' most') := by
  have h1 := h.lo
  refine (charge_i lb B now most n r now' most' ha W h.isL).mono ?_
  rintro e W1 ⟨rfl, hL, hK⟩
  exact ⟨rfl, ⟨hL, h.keep.trans hK (fun i hi e => by omega), h1⟩⟩
theorem One.release {w W : World} {lb B now most : Nat} (h : One w W lb B now most) {n r : Int} {now' most' : Nat} (ha : releaseAns now most n = (r, now', most')) :
    Hid (Calls Try.prog 10 #[.pointer (some ⟨lb, 0, none⟩), .int .i64 n] W fun e W1 => e = .returned (.int .i64 r) ∧ One w W1 lb B now' most') := by
  have h1 := h.lo
  refine (release_i lb B now most n r now' most' ha W h.isL).mono ?_
  rintro e W1 ⟨rfl, hL, hK⟩
  exact ⟨rfl, ⟨hL, h.keep.trans hK (fun i hi e => by omega), h1⟩⟩

set_option maxHeartbeats 1000000 in
theorem sum_long (x : Int) (a : Option Addr) (len cap : Nat) (w : World) (h : 300 < len) :
    Calls Try.prog 5 #[.int .i64 x, .slice a len cap] w fun e w' => e = .returned (.bool true) ∧ Keep noBlock w w' := by
  have hd : (300 : Int) < len := by omega
  go_enter Try.func5, Try.ntmps5
  go_wp2_with fail
  refine (wakes_any _).mono ?_
  rintro e w1 ⟨rfl, hk⟩
  go_wp2_with fail
  go_ret
  exact ⟨rfl, hk⟩

section
attribute [local go_sem] maxSem_eq minSem_eq
set_option maxHeartbeats 4000000 in
theorem sum_short (x : Int) (a : Option Addr) (len cap b off : Nat) (ps : List ActD) (w : World) (h300 : ¬ 300 < len)
    (ha : a = some ⟨b, off, none⟩ ∨ len = 0)
    (hcs : ∀ j, j < len → w.cell? ⟨b, off + j * 2, none⟩ = some (.int .i64 (ps[j]?.getD actD0).n) ∧ w.cell? ⟨b, off + j * 2 + 1, none⟩ = some (.bool (ps[j]?.getD actD0).back)) :
    Calls Try.prog 5 #[.int .i64 x, .slice a len cap] w fun e w' => e = .returned (.bool true) ∧ Keep noBlock w w' := by
  have hd : ¬ (300 : Int) < len := by omega
  have HA := (show Hid _ from ha)
  have HC := (show Hid _ from hcs)
  clear ha hcs
  obtain ⟨X, hX⟩ : ∃ X : Int, X = min x 16777216 := ⟨_, rfl⟩
  obtain ⟨B, hB⟩ : ∃ B : Nat, B = budget x := ⟨_, rfl⟩
  have hB2 : (B : Int) = max 0 X := by rw [hB, hX]; unfold budget; omega
  have hmin := minSem_run #[3, 3] 3 x 16777216 X hX
  have hmaxB := maxSem_run #[3, 3] 3 0 X B hB2
  have HB := (show Hid _ from hB)
  clear hX hB hB2
  go_enter Try.func5, Try.ntmps5
  go_wp2_with fail
  refine (new_any x w).mono ?_
  rintro e w1 ⟨rfl, hL, hK1⟩
  have hT0 : One w w1 w.heap.size B 0 0 := ⟨by rw [HB.out]; exact hL, hK1, Nat.le_refl _⟩
  clear hL hK1 HB
  go_wp2_with fail
  go_loopw [6, 7, 8] (fun s t i wr => ∃ (k now most : Nat), k ≤ len ∧ s = .int .i64 now ∧ t = .int .i64 most ∧ i = .int .i64 k ∧ One w wr w.heap.size B now most) (fun _ _ i _ => len - (intOf i).toNat)
  case atStart => exact ⟨0, 0, 0, Nat.zero_le _, rfl, rfl, rfl, hT0⟩
  case round =>
    obtain ⟨k, now, most, hk, rfl, rfl, rfl, hT⟩ := hrel
    have hle := hT.isL.le
    have hin := hT.isL.in_
    have htop := hT.isL.top
    by_cases hlt : k < len
    · obtain ⟨c0, c1⟩ := HC.out k hlt
      have d0 := cell_kept hT.keep c0
      have d1 := cell_kept hT.keep c1
      obtain rfl : a = some ⟨b, off, none⟩ := HA.out.elim id (fun e => by omega)
      generalize ps[k]?.getD actD0 = pd at c0 c1 d0 d1
      obtain ⟨n, back⟩ := pd
      dsimp only at c0 c1 d0 d1
      have HC1 := (show Hid _ from c1)
      clear c0 c1
      cases back with
      | true =>
        by_cases hok : 0 ≤ n ∧ n ≤ now
        · obtain ⟨m, rfl⟩ : ∃ m : Nat, n = (m : Int) := ⟨n.toNat, by omega⟩
          have hm : m ≤ now := by omega
          obtain ⟨d, hd0⟩ : ∃ d : Nat, d = now - m := ⟨_, rfl⟩
          have HR := hT.release (n := (m : Int)) (r := 0) (now' := d) (most' := most) (by unfold releaseAns; rw [if_neg (by omega), Int.toNat_natCast, if_neg (by omega), hd0])
          have hsub : (now : Int) + -(m : Int) = (d : Int) := by omega
          have hmax := maxSem_run #[3, 3] 3 most d most (by omega)
          have hB1 : decide ((B : Int) < (d : Int)) = false := decide_eq_false (by omega)
          have hB0 : decide ((d : Int) < 0) = false := decide_eq_false (by omega)
          clear hT hok hd0
          go_wp2_with fail
          refine HR.out.mono ?_
          rintro e w3 ⟨rfl, hT3⟩
          clear HR d0 d1
          go_wp2_with fail
          refine (held_any w.heap.size B d most _ hT3.isL).mono ?_
          rintro e w5 ⟨rfl, rfl⟩
          go_wp2_with fail
          go_roundw
          case rel => exact ⟨k + 1, d, most, by omega, rfl, rfl, by go_num, hT3⟩
          case measure => simp [intOf]; omega
        · have HR := hT.release (n := n) (r := 2) (now' := now) (most' := most) (by
            unfold releaseAns
            by_cases h0 : n < 0
            · rw [if_pos h0]
            · rw [if_neg h0, if_pos (by omega)])
          have hmax := maxSem_run #[3, 3] 3 most now most (by omega)
          have hB1 : decide ((B : Int) < (now : Int)) = false := decide_eq_false (by omega)
          have hB0 : decide ((now : Int) < 0) = false := decide_eq_false (by omega)
          clear hT hok
          go_wp2_with fail
          refine HR.out.mono ?_
          rintro e w3 ⟨rfl, hT3⟩
          clear HR d0 d1
          go_wp2_with fail
          refine (held_any w.heap.size B now most _ hT3.isL).mono ?_
          rintro e w5 ⟨rfl, rfl⟩
          go_wp2_with fail
          go_roundw
          case rel => exact ⟨k + 1, now, most, by omega, rfl, rfl, by go_num, hT3⟩
          case measure => simp [intOf]; omega
      | false =>
        by_cases hok : 0 ≤ n ∧ now + n ≤ B
        · obtain ⟨m, rfl⟩ : ∃ m : Nat, n = (m : Int) := ⟨n.toNat, by omega⟩
          have hm : now + m ≤ B := by omega
          obtain ⟨d, hd0⟩ : ∃ d : Nat, d = now + m := ⟨_, rfl⟩
          obtain ⟨t, ht0⟩ : ∃ t : Nat, t = max d most := ⟨_, rfl⟩
          have HR := hT.charge (n := (m : Int)) (r := 0) (now' := d) (most' := t) (by unfold chargeAns; rw [if_neg (by omega), Int.toNat_natCast, if_neg (by omega), ht0, hd0])
          have hsub : (now : Int) + (m : Int) = (d : Int) := by omega
          have hmax := maxSem_run #[3, 3] 3 most d t (by omega)
          have hB1 : decide ((B : Int) < (d : Int)) = false := decide_eq_false (by omega)
          have hB0 : decide ((d : Int) < 0) = false := decide_eq_false (by omega)
          clear hT hok hd0 ht0
          go_wp2_with fail
          refine HR.out.mono ?_
          rintro e w3 ⟨rfl, hT3⟩
          clear HR d0 d1
          go_wp2_with fail
          refine (held_any w.heap.size B d t _ hT3.isL).mono ?_
          rintro e w5 ⟨rfl, rfl⟩
          go_wp2_with fail
          go_roundw
          case rel => exact ⟨k + 1, d, t, by omega, rfl, rfl, by go_num, hT3⟩
          case measure => simp [intOf]; omega
        · have HR : ∃ r : Int, Hid (r ≠ 0) ∧ Hid (Calls Try.prog 12 #[.pointer (some ⟨w.heap.size, 0, none⟩), .int .i64 n] wr fun e W1 => e = .returned (.int .i64 r) ∧ One w W1 w.heap.size B now most) := by
            by_cases h0 : n < 0
            · exact ⟨2, by intro h; exact absurd h (by decide), hT.charge (by unfold chargeAns; rw [if_pos h0])⟩
            · exact ⟨40, by intro h; exact absurd h (by decide), hT.charge (by unfold chargeAns; rw [if_neg h0, if_pos (by omega)])⟩
          obtain ⟨r, hr, HR⟩ := HR
          have hr0 : (r == 0) = false := by simpa using hr.out
          have hmax := maxSem_run #[3, 3] 3 most now most (by omega)
          have hB1 : decide ((B : Int) < (now : Int)) = false := decide_eq_false (by omega)
          have hB0 : decide ((now : Int) < 0) = false := decide_eq_false (by omega)
          clear hT hok hr
          go_wp2_with fail
          refine HR.out.mono ?_
          rintro e w3 ⟨rfl, hT3⟩
          clear HR d0 d1
          go_wp2_with fail
          refine (held_any w.heap.size B now most _ hT3.isL).mono ?_
          rintro e w5 ⟨rfl, rfl⟩
          go_wp2_with fail
          go_roundw
          case rel => exact ⟨k + 1, now, most, by omega, rfl, rfl, by go_num, hT3⟩
          case measure => simp [intOf]; omega
    · obtain rfl : k = len := by omega
      have hKw := hT.keep
      clear hT
      go_wp2_with fail
      refine (wakes_any _).mono ?_
      rintro e w3 ⟨rfl, hk3⟩
      go_wp2_with fail
      go_ret
      exact ⟨rfl, hKw.trans' hk3⟩
end

end Go.Proofs.Ytdmggiemaoejkaa
