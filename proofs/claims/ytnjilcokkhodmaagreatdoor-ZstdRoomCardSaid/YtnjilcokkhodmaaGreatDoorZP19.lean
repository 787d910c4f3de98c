/-
  What a frame's head and a block's head tell: the small functions.
  blockOf, headOf, a new frame.
  headOf: what a frame's head tells.
  most, judgeHead, behindBlock: of a frame as it lies.
  sequences.Value of the distances that lie within a frame.
  A frame's content: a row of bytes of its own.
-/
import Derived.Laws.CopyRow
import Derived.Laws.IdiomCopy
import Derived.Laws.Tables
import Derived.Test.YtnjilcokkhodmaaGreatDoorZP5
import Derived.Test.YtnjilcokkhodmaaGreatDoorZP7
import Derived.Test.YtnjilcokkhodmaaGreatDoorZP9
import Derived.Test.YtnjilcokkhodmaaGreatDoorZP12
import Derived.Test.YtnjilcokkhodmaaGreatDoorZP18
namespace Go.Proofs.YtnjilcokkhodmaaGreatDoor
open Go.RowKit Go.Shelf
set_option linter.unusedVariables false

theorem and1_u8 (x : Nat) (h : x < 256) : bits .and .u8 (x : Int) 1 = ((x % 2 : Nat) : Int) := by
 have := bits_mask .u8 8 (by decide) wraps_u8 1 (by decide) (x : Int) (by omega) (by omega)
 exact this.trans (by omega)
theorem and1_u64 (x : Nat) (h : x < 18446744073709551616) : bits .and .u64 (x : Int) 1 = ((x % 2 : Nat) : Int) := by
 have := and_mask64 x 1 h (by omega)
 exact this
theorem and3_u64 (x : Nat) (h : x < 18446744073709551616) : bits .and .u64 (x : Int) 3 = ((x % 4 : Nat) : Int) := by
 have := and_mask64 x 2 h (by omega)
 exact this
set_option maxHeartbeats 1000000 in
theorem skip_any (n : Nat) (hn : n < 18446744073709551616) (w : World) : Calls Tryz.prog 19 #[.int .u64 (n : Int)] w fun e w' => e = .returned (.bool (skipB n)) ∧ w' = w := by
 have HS := hid (show skipB n = (decide (407710288 ≤ n) && decide (n ≤ 407710303)) from rfl)
 by_cases h1 : 407710288 ≤ n
 ·have h1I : (407710288 : Int) ≤ (n : Int) := by omega
  by_cases h2 : n ≤ 407710303
  ·have h2I : (n : Int) ≤ 407710303 := by omega
   go_enter Tryz.func19, Tryz.ntmps19
   go_wp2_with fail
   go_ret
   exact ⟨by rw [HS.out, decide_eq_true h1, decide_eq_true h2]; rfl, rfl⟩
  ·have h2I : ¬ (n : Int) ≤ 407710303 := by omega
   go_enter Tryz.func19, Tryz.ntmps19
   go_wp2_with fail
   go_ret
   exact ⟨by rw [HS.out, decide_eq_true h1, decide_eq_false h2]; rfl, rfl⟩
 ·have h1I : ¬ (407710288 : Int) ≤ (n : Int) := by omega
  go_enter Tryz.func19, Tryz.ntmps19
  go_wp2_with fail
  go_ret
  exact ⟨by rw [HS.out, decide_eq_false h1]; rfl, rfl⟩

set_option maxHeartbeats 1000000 in
theorem has_any (d k : Nat) (hd : d < 256) (hk : k ≤ 7) (w : World) : Calls Tryz.prog 37 #[.int .u8 (d : Int), .int .i64 (k : Int)] w fun e w' => e = .returned (.bool (flagB d k)) ∧ w' = w := by
 obtain ⟨y, hy⟩ : ∃ y, y = d / 2 ^ k := ⟨_, rfl⟩
 have hyI : (d : Int) / 2 ^ k = (y : Int) := by rw [hy]; simp
 have hyb : y < 256 := by rw [hy]; exact Nat.lt_of_le_of_lt (Nat.div_le_self _ _) hd
 obtain ⟨z, hz⟩ : ∃ z, z = y % 2 := ⟨_, rfl⟩
 have hzI : bits .and .u8 (y : Int) 1 = (z : Int) := by rw [hz]; exact and1_u8 y hyb
 have HF := hid (show flagB d k = (z == 1) from by unfold flagB; rw [← hy, ← hz])
 have hz2 : z = 0 ∨ z = 1 := by omega
 have hkI : (k : Int) ≤ 7 := by omega
 clear hy hz
 rcases hz2 with rfl | rfl
 ·go_enter Tryz.func37, Tryz.ntmps37
  go_wp2_with fail
  go_ret
  exact ⟨by rw [HF.out]; rfl, rfl⟩
 ·go_enter Tryz.func37, Tryz.ntmps37
  go_wp2_with fail
  go_ret
  exact ⟨by rw [HF.out]; rfl, rfl⟩
theorem reserved_any (d : Nat) (hd : d < 256) (w : World) : Calls Tryz.prog 23 #[.int .u8 (d : Int)] w fun e w' => e = .returned (.bool (flagB d 3)) ∧ w' = w := by
 have H := hid (show ∀ W, Calls Tryz.prog 37 #[.int .u8 (d : Int), .int .i64 3] W fun e w' => e = .returned (.bool (flagB d 3)) ∧ w' = W from fun W => has_any d 3 hd (by omega) W)
 go_enter Tryz.func23, Tryz.ntmps23
 go_wp2_with fail
 refine (H.out _).mono ?_
 rintro e w' ⟨rfl, rfl⟩
 go_wp2_with fail
 go_ret
 exact ⟨rfl, rfl⟩
theorem summed_any (d : Nat) (hd : d < 256) (w : World) : Calls Tryz.prog 36 #[.int .u8 (d : Int)] w fun e w' => e = .returned (.bool (flagB d 2)) ∧ w' = w := by
 have H := hid (show ∀ W, Calls Tryz.prog 37 #[.int .u8 (d : Int), .int .i64 2] W fun e w' => e = .returned (.bool (flagB d 2)) ∧ w' = W from fun W => has_any d 2 hd (by omega) W)
 go_enter Tryz.func36, Tryz.ntmps36
 go_wp2_with fail
 refine (H.out _).mono ?_
 rintro e w' ⟨rfl, rfl⟩
 go_wp2_with fail
 go_ret
 exact ⟨rfl, rfl⟩
theorem single_any (d : Nat) (hd : d < 256) (w : World) : Calls Tryz.prog 40 #[.int .u8 (d : Int)] w fun e w' => e = .returned (.bool (flagB d 5)) ∧ w' = w := by
 have H := hid (show ∀ W, Calls Tryz.prog 37 #[.int .u8 (d : Int), .int .i64 5] W fun e w' => e = .returned (.bool (flagB d 5)) ∧ w' = W from fun W => has_any d 5 hd (by omega) W)
 go_enter Tryz.func40, Tryz.ntmps40
 go_wp2_with fail
 refine (H.out _).mono ?_
 rintro e w' ⟨rfl, rfl⟩
 go_wp2_with fail
 go_ret
 exact ⟨rfl, rfl⟩
theorem winLen_any (d : Nat) (hd : d < 256) (w : World) : Calls Tryz.prog 38 #[.int .u8 (d : Int)] w fun e w' => e = .returned (.int .i64 ((winLen d : Nat) : Int)) ∧ w' = w := by
  have H := hid (show ∀ W, Calls Tryz.prog 40 #[.int .u8 (d : Int)] W fun e w' => e = .returned (.bool (flagB d 5)) ∧ w' = W from fun W => single_any d hd W)
  have HW := hid (show winLen d = if flagB d 5 then 0 else 1 from rfl)
  cases hf : flagB d 5 with
  | true =>
    rw [hf] at H HW
    go_enter Tryz.func38, Tryz.ntmps38
    go_wp2_with fail
    refine (H.out _).mono ?_
    rintro e w' ⟨rfl, rfl⟩
    go_wp2_with fail
    go_ret
    exact ⟨by rw [HW.out]; rfl, rfl⟩
  | false =>
    rw [hf] at H HW
    go_enter Tryz.func38, Tryz.ntmps38
    go_wp2_with fail
    refine (H.out _).mono ?_
    rintro e w' ⟨rfl, rfl⟩
    go_wp2_with fail
    go_ret
    exact ⟨by rw [HW.out]; rfl, rfl⟩

theorem index_dic (k : Nat) (hk : k < 4) (W : World) : (Instr.index 118 (.agg #[.int .i64 0, .int .i64 1, .int .i64 2, .int .i64 4]) (.int .u8 (k : Int))).run Tryz.prog W = .ok (.int .i64 ((if k = 3 then 4 else k : Nat) : Int)) W := by
 rcases (show k = 0 ∨ k = 1 ∨ k = 2 ∨ k = 3 by omega) with rfl | rfl | rfl | rfl <;> kernel_rfl
theorem index_siz (k : Nat) (hk : k < 4) (W : World) : (Instr.index 118 (.agg #[.int .i64 0, .int .i64 2, .int .i64 4, .int .i64 8]) (.int .u8 (k : Int))).run Tryz.prog W = .ok (.int .i64 ((if k = 0 then 0 else if k = 1 then 2 else if k = 2 then 4 else 8 : Nat) : Int)) W := by
 rcases (show k = 0 ∨ k = 1 ∨ k = 2 ∨ k = 3 by omega) with rfl | rfl | rfl | rfl <;> kernel_rfl
set_option maxHeartbeats 1000000 in
theorem dicLen_any (d : Nat) (hd : d < 256) (w : World) : Calls Tryz.prog 39 #[.int .u8 (d : Int)] w fun e w' => e = .returned (.int .i64 ((dicLen d : Nat) : Int)) ∧ w' = w := by
 obtain ⟨z, hz⟩ : ∃ z, z = d % 4 := ⟨_, rfl⟩
 have hzI : bits .and .u8 (d : Int) 3 = (z : Int) := by rw [hz]; exact and3_u8 d hd
 have hix := index_dic z (by omega)
 have e : (if z = 3 then 4 else z) = dicLen d := by unfold dicLen; rw [hz]
 rw [e] at hix
 have hz4 : (z : Int) < 4 := by omega
 obtain ⟨L, hL⟩ : ∃ L, L = dicLen d := ⟨_, rfl⟩
 rw [← hL] at hix ⊢
 clear hz hL e
 go_enter Tryz.func39, Tryz.ntmps39
 go_wp2_with fail
 go_ret
 exact ⟨rfl, rfl⟩
set_option maxHeartbeats 1000000 in
theorem sizLen_any (d : Nat) (hd : d < 256) (w : World) : Calls Tryz.prog 55 #[.int .u8 (d : Int)] w fun e w' => e = .returned (.int .i64 ((sizLen d : Nat) : Int)) ∧ w' = w := by
  have H := hid (show ∀ W, Calls Tryz.prog 40 #[.int .u8 (d : Int)] W fun e w' => e = .returned (.bool (flagB d 5)) ∧ w' = W from fun W => single_any d hd W)
  obtain ⟨y, hy⟩ : ∃ y, y = d / 64 := ⟨_, rfl⟩
  have hyI : (d : Int) / 64 = (y : Int) := by omega
  have hyI2 : (d : Int) / 2 ^ 6 = (y : Int) := by omega
  have hyb : y < 4 := by omega
  obtain ⟨z, hz⟩ : ∃ z, z = y % 4 := ⟨_, rfl⟩
  have hzI : bits .and .u8 (y : Int) 3 = (z : Int) := by rw [hz]; exact and3_u8 y (by omega)
  have hix := index_siz z (by omega)
  have hz4 : (z : Int) < 4 := by omega
  have hyb2 : (y : Int) < 4 := by omega
  obtain ⟨L, hL⟩ : ∃ L, L = sizLen d := ⟨_, rfl⟩
  rw [← hL]
  by_cases h0 : z = 0
  · subst h0
    cases hf : flagB d 5 with
    | true =>
      rw [hf] at H
      have hL1 : L = 1 := by rw [hL]; unfold sizLen; rw [← hy, ← hz, hf]; rfl
      subst hL1
      clear hz hL hy hix
      go_enter Tryz.func55, Tryz.ntmps55
      go_wp2_with fail
      refine (H.out _).mono ?_
      rintro e w' ⟨rfl, rfl⟩
      go_wp2_with fail
      go_ret
      exact ⟨rfl, rfl⟩
    | false =>
      rw [hf] at H
      have hL1 : L = 0 := by rw [hL]; unfold sizLen; rw [← hy, ← hz, hf]; rfl
      subst hL1
      have hix0 : ∀ W : World, (Instr.index 118 (.agg #[.int .i64 0, .int .i64 2, .int .i64 4, .int .i64 8]) (.int .u8 0)).run Tryz.prog W = .ok (.int .i64 0) W := fun W => by kernel_rfl
      clear hz hL hy hix
      go_enter Tryz.func55, Tryz.ntmps55
      go_wp2_with fail
      refine (H.out _).mono ?_
      rintro e w' ⟨rfl, rfl⟩
      go_wp2_with fail
      go_ret
      exact ⟨rfl, rfl⟩
  · have e : (if z = 0 then 0 else if z = 1 then 2 else if z = 2 then 4 else 8) = L := by rw [hL]; unfold sizLen; rw [← hy, ← hz, if_neg h0, if_neg h0]
    rw [e] at hix
    have h0b : ((z : Int) == 0) = false := by simp; omega
    have h0d : decide (z = 0) = false := decide_eq_false h0
    clear hz hL hy e
    go_enter Tryz.func55, Tryz.ntmps55
    go_wp2_with fail
    go_ret
    exact ⟨rfl, rfl⟩
set_option maxHeartbeats 1000000 in
theorem hdLen_any (d : Nat) (hd : d < 256) (w : World) : Calls Tryz.prog 34 #[.int .u8 (d : Int)] w fun e w' => e = .returned (.int .u64 ((hdLen d : Nat) : Int)) ∧ w' = w := by
  have H1 := hid (show ∀ W : World, _ from fun W => winLen_any d hd W)
  have H2 := hid (show ∀ W : World, _ from fun W => dicLen_any d hd W)
  have H3 := hid (show ∀ W : World, _ from fun W => sizLen_any d hd W)
  have b1 : winLen d ≤ 1 := by unfold winLen; split <;> omega
  have b2 : dicLen d ≤ 4 := by unfold dicLen; split <;> omega
  have b3 : sizLen d ≤ 8 := by unfold sizLen; repeat' split
                               all_goals omega
  have e : hdLen d = winLen d + dicLen d + sizLen d := rfl
  generalize winLen d = x at *
  generalize dicLen d = y at *
  generalize sizLen d = z at *
  generalize hdLen d = t at *
  obtain ⟨s, hs⟩ : ∃ s, s = x + y := ⟨_, rfl⟩
  have hsI : (x : Int) + (y : Int) = (s : Int) := by omega
  have htI : (s : Int) + (z : Int) = (t : Int) := by omega
  have hsb : (s : Int) ≤ 5 := by omega
  have htb : (t : Int) ≤ 13 := by omega
  have hwt : IntKind.u64.wrap (t : Int) = (t : Int) := by rw [IntKind.wrap_u64]; omega
  clear e hs
  go_enter Tryz.func34, Tryz.ntmps34
  go_wp2_with fail
  refine (H1.out _).mono ?_
  rintro e w' ⟨rfl, rfl⟩
  go_wp2_with fail
  refine (H2.out _).mono ?_
  rintro e w' ⟨rfl, rfl⟩
  go_wp2_with fail
  refine (H3.out _).mono ?_
  rintro e w' ⟨rfl, rfl⟩
  go_wp2_with fail
  go_ret
  exact ⟨rfl, rfl⟩

set_option maxHeartbeats 2000000 in
theorem winOf_any (v : Nat) (hv : v < 256) (w : World) : Calls Tryz.prog 41 #[.int .u8 (v : Int)] w fun e w' => e = .returned (.int .u64 ((winOf v : Nat) : Int)) ∧ w' = w := by
 obtain ⟨q, hq⟩ : ∃ q, q = v / 8 := ⟨_, rfl⟩
 obtain ⟨r, hr⟩ : ∃ r, r = v % 8 := ⟨_, rfl⟩
 obtain ⟨k, hk⟩ : ∃ k, k = 10 + q := ⟨_, rfl⟩
 obtain ⟨P, hP⟩ : ∃ P, P = 2 ^ k := ⟨_, rfl⟩
 obtain ⟨p8, hp8⟩ : ∃ p8, p8 = P / 8 := ⟨_, rfl⟩
 obtain ⟨m, hm⟩ : ∃ m, m = p8 * r := ⟨_, rfl⟩
 obtain ⟨t, ht⟩ : ∃ t, t = P + m := ⟨_, rfl⟩
 have e : winOf v = t := by unfold winOf; rw [ht, hm, hp8, hP, hk, hq, hr]
 have hPb : P ≤ 2199023255552 := by rw [hP]; exact Nat.pow_le_pow_right (n := 2) (j := 41) (by omega) (by omega)
 have hmb : m ≤ 2199023255552 * 7 := by
  have : m ≤ p8 * 7 := by rw [hm]; exact Nat.mul_le_mul_left _ (by omega)
  omega
 have hqI : Int.tdiv (v : Int) 8 = (q : Int) := by rw [Int.tdiv_eq_ediv_of_nonneg (by omega)]; omega
 have hqI2 : (v : Int) / 8 = (q : Int) := by omega
 have hkI : 10 + (q : Int) = (k : Int) := by omega
 have hPI : (2 : Int) ^ k = (P : Int) := by rw [hP]; simp
 have h8I : Int.tdiv (P : Int) 8 = (p8 : Int) := by rw [Int.tdiv_eq_ediv_of_nonneg (by omega)]; omega
 have h8I2 : (P : Int) / 8 = (p8 : Int) := by omega
 have hrI : Int.tmod (v : Int) 8 = (r : Int) := by rw [Int.tmod_eq_emod_of_nonneg (by omega)]; omega
 have hrI2 : (v : Int) % 8 = (r : Int) := by omega
 have hmI : (p8 : Int) * (r : Int) = (m : Int) := by rw [hm]; simp
 have htI : (P : Int) + (m : Int) = (t : Int) := by omega
 have hq32 : (q : Int) < 32 := by omega
 have hk42 : (k : Int) < 42 := by omega
 have hr8 : (r : Int) < 8 := by omega
 have hPbI : (P : Int) ≤ 2199023255552 := by omega
 have hp8I : (p8 : Int) ≤ 2199023255552 := by omega
 have hmbI : (m : Int) ≤ 15393162788864 := by omega
 have htbI : (t : Int) ≤ 17592186044416 := by omega
 have w1 : IntKind.u8.wrap (k : Int) = (k : Int) := by rw [IntKind.wrap_u8]; omega
 have w1q : IntKind.u8.wrap (q : Int) = (q : Int) := by rw [IntKind.wrap_u8]; omega
 have w1r : IntKind.u8.wrap (r : Int) = (r : Int) := by rw [IntKind.wrap_u8]; omega
 have w2 : IntKind.u64.wrap (P : Int) = (P : Int) := by rw [IntKind.wrap_u64]; omega
 have w3 : IntKind.u64.wrap (m : Int) = (m : Int) := by rw [IntKind.wrap_u64]; omega
 have w4 : IntKind.u64.wrap (t : Int) = (t : Int) := by rw [IntKind.wrap_u64]; omega
 have w5 : IntKind.u64.wrap (r : Int) = (r : Int) := by rw [IntKind.wrap_u64]; omega
 have w6 : IntKind.u64.wrap (p8 : Int) = (p8 : Int) := by rw [IntKind.wrap_u64]; omega
 rw [e]
 clear hq hr hk hP hp8 hm ht e
 go_enter Tryz.func41, Tryz.ntmps41
 go_wp2_with fail
 go_ret
 exact ⟨rfl, rfl⟩
set_option maxHeartbeats 1000000 in
theorem blBeh_any (l : Bool) (n : Nat) (hn : n < 16777216) (w : World) : Calls Tryz.prog 35 #[.agg #[.bool l, .int .i64 ((blKind n : Nat) : Int), .int .i64 ((blSize n : Nat) : Int)]] w fun e w' => e = .returned (.int .u64 ((blBeh n : Nat) : Int)) ∧ Keep noBlock w w' := by
 have hs : blSize n < 2097152 := by unfold blSize; omega
 have hk : blKind n < 4 := by unfold blKind; omega
 have e : blBeh n = if blKind n = 1 then 1 else blSize n := rfl
 generalize blKind n = k at *
 generalize blSize n = s at *
 rw [e]
 have hsI : (s : Int) < 2097152 := by omega
 have hws : IntKind.u64.wrap (s : Int) = (s : Int) := by rw [IntKind.wrap_u64]; omega
 clear e
 by_cases h1 : k = 1
 ·subst h1
  rw [if_pos rfl]
  go_enter Tryz.func35, Tryz.ntmps35
  go_wp2_with fail
  go_ret
  exact ⟨rfl, (Keep.refl _ w).alloc _⟩
 ·rw [if_neg h1]
  have h1b : ((k : Int) == 1) = false := by simp; omega
  have h1d : decide (k = 1) = false := decide_eq_false h1
  go_enter Tryz.func35, Tryz.ntmps35
  go_wp2_with fail
  go_ret
  exact ⟨rfl, (Keep.refl _ w).alloc _⟩
section
set_option maxRecDepth 100000 in
set_option maxHeartbeats 2000000 in
theorem number_any8 (a : Option Addr) (cap gb off : Nat) (bs : List Nat) (w : World) (hB : Bytes w a cap gb off bs) (hl : bs.length ≤ 8) :
  Calls Tryz.prog 20 #[.slice a bs.length cap] w fun e w' => e = .returned (.int .u64 ((numN bs : Nat) : Int)) ∧ w' = w := by
 obtain ⟨n, hn⟩ : ∃ n, n = bs.length := ⟨_, rfl⟩
 have HB := hid (And.intro hB hn)
 rw [← hn] at hl ⊢
 have hat := hB.at_
 clear hB
 go_enter Tryz.func20, Tryz.ntmps20
 go_wp2_with fail
 go_loop [2, 7] (fun v2 v7 => ∃ j N : Nat, v7 = .int .i64 (j : Int) ∧ j ≤ n ∧ v2 = .int .u64 (N : Int) ∧ Hid (N = numN (bs.take j))) (fun _ v7 => n - (intOf v7).toNat)
 case atStart => exact ⟨0, 0, rfl, Nat.zero_le _, rfl, by rw [List.take_zero]; rfl⟩
 case round =>
  obtain ⟨j, N, rfl, hj, rfl, HN⟩ := hrel
  by_cases hlt : j < n
  ·have hltI : (j : Int) < (n : Int) := by omega
   have hj7 : (j : Int) ≤ 7 := by omega
   obtain rfl := hat.resolve_right (fun e => by rw [e] at hn; simp at hn; omega)
   obtain ⟨y, hy⟩ : ∃ y, y = bs[j]?.getD 0 := ⟨_, rfl⟩
   have hcy := HB.out.1.cells j (by rw [← HB.out.2]; exact hlt)
   rw [← hy] at hcy
   have hy256 : y < 256 := by rw [hy]; exact HB.out.1.lt j
   have HY := hid hy
   have hy2 : (y : Int) < 256 := by omega
   obtain ⟨j8, hj8⟩ : ∃ j8, j8 = 8 * j := ⟨_, rfl⟩
   have e8 : 8 * (j : Int) = (j8 : Int) := by omega
   have b8 : (j8 : Int) ≤ 56 := by omega
   have H8 := hid hj8
   have hwy : IntKind.u64.wrap (y : Int) = (y : Int) := by rw [IntKind.wrap_u64]; omega
   clear hy hj8
   have hpw : 256 ^ j = 2 ^ j8 := by rw [H8.out, Nat.pow_mul]
   have hj4 : 2 ^ j8 ≤ 2 ^ 56 := Nat.pow_le_pow_right (by omega) (by have := H8.out; omega)
   have hor : bits .or .u64 (N : Int) (IntKind.u64.wrap ((y : Int) * 2 ^ j8)) = ((N + 256 ^ j * y : Nat) : Int) := by
    have hN : N < 256 ^ j := by
     rw [HN.out]
     have := numN_lt (l := bs.take j) (fun b hb => lt_mem HB.out.1.lt b (List.mem_of_mem_take hb))
     rwa [List.length_take, Nat.min_eq_left (by have := HB.out.2; omega)] at this
    rw [hpw] at hN ⊢
    have hm : 2 ^ j8 * y ≤ 2 ^ 56 * 255 := Nat.mul_le_mul hj4 (by omega)
    have ey : IntKind.u64.wrap ((y : Int) * 2 ^ j8) = ((2 ^ j8 * y : Nat) : Int) := by
     rw [show ((y : Int) * 2 ^ j8) = ((2 ^ j8 * y : Nat) : Int) from by rw [Nat.mul_comm]; simp]
     exact wraps_u64 _ (by omega) (by omega)
    rw [ey]
    exact or_add64 N y j8 hN (by omega)
   obtain ⟨N2, hN2⟩ : ∃ N2, N2 = N + 256 ^ j * y := ⟨_, rfl⟩
   rw [← hN2] at hor
   have HN2 := hid (show N2 = numN (bs.take (j + 1)) from by rw [hN2, numN_take (by have := HB.out.2; omega), ← HN.out, ← HY.out])
   clear hN2 hpw hj4
   go_wp2_with fail
   go_round
   case rel => exact ⟨j + 1, N2, by go_num, by omega, rfl, HN2.out⟩
   case measure => simp [intOf]; omega
  ·obtain rfl : j = n := by omega
   have HE := hid (show N = numN bs from by rw [HN.out, List.take_of_length_le (by have := HB.out.2; omega)])
   go_wp2_with fail
   go_ret
   exact ⟨by rw [← HE.out]; rfl, rfl⟩
end
end Go.Proofs.YtnjilcokkhodmaaGreatDoor

namespace Go.Proofs.YtnjilcokkhodmaaGreatDoor
open Go.RowKit Go.Shelf
set_option linter.unusedVariables false

theorem info42s : (Tryz.prog.info? 42).map (·.size) = some 3 := by kernel_rfl
set_option maxRecDepth 100000 in
set_option maxHeartbeats 2000000 in
theorem blockOf_any (a : Option Addr) (cap gb off : Nat) (bs : List Nat) (w : World) (hB : Bytes w a cap gb off bs) (hl : bs.length = 3) :
  Calls Tryz.prog 26 #[.slice a bs.length cap] w fun e w' => e = .returned (.agg #[.bool (blLast (numN bs)), .int .i64 ((blKind (numN bs) : Nat) : Int), .int .i64 ((blSize (numN bs) : Nat) : Int)]) ∧ Keep noBlock w w' := by
 have hN : numN bs < 16777216 := by
  have := numN_lt (l := bs) (fun b hb => lt_mem hB.lt b hb)
  rw [hl] at this
  omega
 have HNu := (show Hid (∀ W, Keep noBlock w W → Calls Tryz.prog 20 #[.slice a bs.length cap] W fun e w' => e = .returned (.int .u64 ((numN bs : Nat) : Int)) ∧ w' = W) from fun W hk => number_any8 a cap gb off bs W (hB.keep hk (fun _ h => h)) (by omega))
 obtain ⟨n, hn⟩ : ∃ n, n = numN bs := ⟨_, rfl⟩
 rw [← hn] at HNu hN ⊢
 obtain ⟨L, hL⟩ : ∃ L, L = bs.length := ⟨_, rfl⟩
 rw [← hL] at HNu ⊢
 obtain ⟨b0, hb0⟩ : ∃ b0, b0 = n % 2 := ⟨_, rfl⟩
 have h0I : bits .and .u64 (n : Int) 1 = (b0 : Int) := by rw [hb0]; exact and1_u64 n (by omega)
 obtain ⟨y, hy⟩ : ∃ y, y = n / 2 := ⟨_, rfl⟩
 have hyI : (n : Int) / 2 = (y : Int) := by omega
 have hyI2 : (n : Int) / 2 ^ 1 = (y : Int) := by omega
 obtain ⟨k, hk⟩ : ∃ k, k = y % 4 := ⟨_, rfl⟩
 have hkI : bits .and .u64 (y : Int) 3 = (k : Int) := by rw [hk]; exact and3_u64 y (by omega)
 obtain ⟨s, hs⟩ : ∃ s, s = n / 8 := ⟨_, rfl⟩
 have hsI : (n : Int) / 8 = (s : Int) := by omega
 have hsI2 : (n : Int) / 2 ^ 3 = (s : Int) := by omega
 have e2 : blKind n = k := by unfold blKind; rw [hk, hy]
 have e3 : blSize n = s := hs.symm
 have hkb : (k : Int) < 4 := by omega
 have hsb : (s : Int) < 2097152 := by omega
 have hyb : (y : Int) < 8388608 := by omega
 have hwk : IntKind.i64.wrap (k : Int) = (k : Int) := by rw [IntKind.wrap_i64]; omega
 have hws : IntKind.i64.wrap (s : Int) = (s : Int) := by rw [IntKind.wrap_i64]; omega
 have hnb : (n : Int) < 16777216 := by omega
 rw [e2, e3]
 have hz2 : b0 = 0 ∨ b0 = 1 := by omega
 have HL := hid (show blLast n = (b0 == 1) from by unfold blLast; rw [hb0])
 clear hn hb0 hy hk hs e2 e3 hB hL hl
 rcases hz2 with rfl | rfl
 ·go_enter Tryz.func26, Tryz.ntmps26
  go_wp2_with fail
  refine (HNu.out _ ((Keep.refl _ w).alloc _)).mono ?_
  rintro e w1 ⟨rfl, rfl⟩
  go_wp2_with fail
  refine bodyPost_ret (results_cell rfl _ _ _ ⟨w.heap.size, 0, none⟩ (.agg #[.bool false, .int .i64 (k : Int), .int .i64 (s : Int)]) rfl (run_loadVar_row _ _ 42 42 _ (0, 0) _ (alloc_new w _) Tryz.underlying42 rfl info42s)) rfl ?_
  exact ⟨by rw [HL.out]; rfl, (Keep.refl _ w).alloc _⟩
 ·go_enter Tryz.func26, Tryz.ntmps26
  go_wp2_with fail
  refine (HNu.out _ ((Keep.refl _ w).alloc _)).mono ?_
  rintro e w1 ⟨rfl, rfl⟩
  go_wp2_with fail
  refine bodyPost_ret (results_cell rfl _ _ _ ⟨w.heap.size, 0, none⟩ (.agg #[.bool true, .int .i64 (k : Int), .int .i64 (s : Int)]) rfl (run_loadVar_row _ _ 42 42 _ (0, 0) _ (alloc_new w _) Tryz.underlying42 rfl info42s)) rfl ?_
  exact ⟨by rw [HL.out]; rfl, (Keep.refl _ w).alloc _⟩
theorem endsHead_any (p : Nat) (v : Value) (b : Bool) (hp : p < 100) (w : World) (hv : ∃ a n c, v = .slice a n c) : Calls Tryz.prog 13 #[.agg #[.int .i64 (p : Int), v, .bool b]] w fun e w' => e = .returned (.bool (decide (p = 1 ∨ p = 4))) ∧ Keep noBlock w w' := by
 obtain ⟨a, n, c, rfl⟩ := hv
 by_cases h1 : p = 1
 ·subst h1
  go_enter Tryz.func13, Tryz.ntmps13
  go_wp2_with fail
  go_ret
  exact ⟨rfl, (Keep.refl _ w).alloc _⟩
 ·have h1b : ((p : Int) == 1) = false := by simp; omega
  have h1d : decide (p = 1) = false := decide_eq_false h1
  by_cases h4 : p = 4
  ·subst h4
   go_enter Tryz.func13, Tryz.ntmps13
   go_wp2_with fail
   go_ret
   exact ⟨rfl, (Keep.refl _ w).alloc _⟩
  ·have h4b : ((p : Int) == 4) = false := by simp; omega
   have h4d : decide (p = 4) = false := decide_eq_false h4
   go_enter Tryz.func13, Tryz.ntmps13
   go_wp2_with fail
   go_ret
   exact ⟨by rw [decide_eq_false (show ¬ (p = 1 ∨ p = 4) by omega)]; rfl, (Keep.refl _ w).alloc _⟩

def frC (win dic siz : Nat) (told : Bool) (x0 x1 x2 ws : Value) (r0 r1 r2 : Int) (fl : Nat) (last : Bool) (kind bsz : Nat) (out : Value) (bud : Nat) : Array Value :=
 #[.int .u64 (win : Int), .int .u64 (dic : Int), .int .u64 (siz : Int), .bool told, x0, x1, x2, ws, .int .i64 r0, .int .i64 r1, .int .i64 r2, .int .u8 (fl : Int), .bool last, .int .i64 (kind : Int), .int .i64 (bsz : Int), out, .int .u64 (bud : Int)]
section
attribute [local go_sem] maxSem_eq minSem_eq
set_option maxHeartbeats 2000000 in
theorem newFrame_any (b : Int) (hb1 : -9223372036854775808 ≤ b) (hb2 : b ≤ 9223372036854775807) (B : Nat) (hB : (B : Int) = min (max b 0) 16777216) (w : World) :
  Calls Tryz.prog 9 #[.int .i64 b] w fun e w' => e = .returned (.pointer (some ⟨w.heap.size, 0, none⟩)) ∧ w' = w.alloc (.cells (frC 0 0 0 false (.slice none 0 0) (.slice none 0 0) (.slice none 0 0) (.slice none 0 0) 1 4 8 0 false 0 0 (.slice none 0 0) B) 44) := by
 obtain ⟨X, hX⟩ : ∃ X : Int, X = max b 0 := ⟨_, rfl⟩
 have hmax := maxSem_run .i64 #[3, 3] 3 b 0 X hX
 have hmin := minSem_run .i64 #[3, 3] 3 X 16777216 (B : Int) (by rw [hX]; exact hB)
 have hBb : (B : Int) ≤ 16777216 := by omega
 have hwB : IntKind.u64.wrap (B : Int) = (B : Int) := by rw [IntKind.wrap_u64]; omega
 unfold frC
 clear hB hX
 go_enter Tryz.func9, Tryz.ntmps9
 go_wp2_with fail
 go_ret
 exact ⟨rfl, rfl⟩
end
end Go.Proofs.YtnjilcokkhodmaaGreatDoor

namespace Go.Proofs.YtnjilcokkhodmaaGreatDoor
open Go.RowKit Go.Shelf
set_option linter.unusedVariables false

theorem keep_cellA {w w' : World} (hk : Keep noBlock w w') {p : Addr} {v : Value} (h : w.cell? p = some v) : w'.cell? p = some v :=
 (World.cell?_of_block (hk.block p.block (World.block_lt_of_cell? w p h) (fun h => h))).trans h
theorem info35s : (Tryz.prog.info? 35).map (·.size) = some 4 := by kernel_rfl
theorem hdSiz_lt {d : Nat} {bs : List Nat} (hb : ∀ j : Nat, bs[j]?.getD 0 < 256) (hl : bs.length = hdLen d) : hdSiz d bs < 18446744073709551616 ∧ hdDic d bs < 4294967296 ∧ ((bs.drop (winLen d)).drop (dicLen d)).length = sizLen d ∧ ((bs.drop (winLen d)).take (dicLen d)).length = dicLen d := by
  have hm : ∀ b ∈ (bs.drop (winLen d)).drop (dicLen d), b < 256 := fun b h => lt_mem (lt_drop (lt_drop hb _) _) b h
  have hm2 : ∀ b ∈ (bs.drop (winLen d)).take (dicLen d), b < 256 := fun b h => lt_mem (lt_take (lt_drop hb _) _) b h
  have h1 := numN_lt hm
  have h2 := numN_lt hm2
  have b2 : dicLen d ≤ 4 := by unfold dicLen; split <;> omega
  have b3 : sizLen d ≤ 8 := by unfold sizLen; repeat' split
                               all_goals omega
  have e3 : ((bs.drop (winLen d)).drop (dicLen d)).length = sizLen d := by rw [List.length_drop, List.length_drop, hl]; unfold hdLen; omega
  have e4 : ((bs.drop (winLen d)).take (dicLen d)).length = dicLen d := by rw [List.length_take, List.length_drop, hl]; unfold hdLen; omega
  rw [e3] at h1
  rw [e4] at h2
  refine ⟨?_, ?_, e3, e4⟩
  · unfold hdSiz
    rw [e3]
    by_cases h : sizLen d = 2
    · rw [if_pos h]
      rw [h] at h1
      omega
    · rw [if_neg h]
      have : 256 ^ sizLen d ≤ 256 ^ 8 := Nat.pow_le_pow_right (by omega) b3
      omega
  · unfold hdDic
    have : 256 ^ dicLen d ≤ 256 ^ 4 := Nat.pow_le_pow_right (by omega) b2
    omega

section
attribute [local go_sem] sliceSem_eq maxSem_eq
set_option maxRecDepth 100000 in
set_option maxHeartbeats 8000000 in
theorem headOf_any (d : Nat) (hd : d < 256) (a : Option Addr) (cap gb off : Nat) (bs : List Nat) (w : World) (hB : Bytes w a cap gb off bs) (hl : bs.length = hdLen d) :
    Calls Tryz.prog 24 #[.int .u8 (d : Int), .slice a bs.length cap] w fun e w' => e = .returned (.agg #[.int .u64 ((hdWin d bs : Nat) : Int), .int .u64 ((hdDic d bs : Nat) : Int), .int .u64 ((hdSiz d bs : Nat) : Int), .bool (hdTold d bs)]) ∧ Keep noBlock w w' := by
  obtain ⟨s1, s2, s3, s4⟩ := hdSiz_lt hB.lt hl
  have b1 : winLen d ≤ 1 := by unfold winLen; split <;> omega
  have b2 : dicLen d ≤ 4 := by unfold dicLen; split <;> omega
  have b3 : sizLen d ≤ 8 := by unfold sizLen; repeat' split
                               all_goals omega
  have H1 := hid (show ∀ W : World, _ from fun W => winLen_any d hd W)
  have H2 := hid (show ∀ W : World, _ from fun W => dicLen_any d hd W)
  have H3 := hid (show ∀ W : World, _ from fun W => single_any d hd W)
  obtain ⟨t1, t2⟩ := hB.take (winLen d) (by rw [hl]; unfold hdLen; omega)
  obtain ⟨a', off', d1, d2, -⟩ := hB.drop (winLen d) (by rw [hl]; unfold hdLen; omega)
  obtain ⟨u1, u2⟩ := d2.take (dicLen d) (by rw [List.length_drop, hl]; unfold hdLen; omega)
  obtain ⟨a'', off'', v1, v2, -⟩ := d2.drop (dicLen d) (by rw [List.length_drop, hl]; unfold hdLen; omega)
  have HN1 := hid (show ∀ W, Keep noBlock w W → Calls Tryz.prog 20 #[.slice a' ((bs.drop (winLen d)).take (dicLen d)).length (cap - winLen d)] W fun e w' => e = .returned (.int .u64 ((hdDic d bs : Nat) : Int)) ∧ w' = W from fun W hk => number_any8 _ _ _ _ _ W (u2.keep hk (fun _ h => h)) (by omega))
  have HN2 := hid (show ∀ W, Keep noBlock w W → Calls Tryz.prog 20 #[.slice a'' ((bs.drop (winLen d)).drop (dicLen d)).length (cap - winLen d - dicLen d)] W fun e w' => e = .returned (.int .u64 ((numN ((bs.drop (winLen d)).drop (dicLen d)) : Nat) : Int)) ∧ w' = W from fun W hk => number_any8 _ _ _ _ _ W (v2.keep hk (fun _ h => h)) (by omega))
  have HE := hid (show hdSiz d bs = numN ((bs.drop (winLen d)).drop (dicLen d)) + (if ((bs.drop (winLen d)).drop (dicLen d)).length = 2 then 256 else 0) ∧ hdTold d bs = decide (0 < ((bs.drop (winLen d)).drop (dicLen d)).length) ∧ hdWin d bs = if flagB d 5 then max (hdSiz d bs) 1 else winOf (bs[0]?.getD 0) from ⟨rfl, rfl, rfl⟩)
  have HW0 := hid (show flagB d 5 = false → winLen d = 1 ∧ ∃ ad, a = some ad ∧ w.cell? ad = some (.int .u8 ((bs[0]?.getD 0 : Nat) : Int)) ∧ bs[0]?.getD 0 < 256 from fun hf => by
    have hw1 : winLen d = 1 := by unfold winLen; rw [hf]; rfl
    have hpos : 0 < bs.length := by rw [hl]; unfold hdLen; omega
    have hc := hB.cells 0 hpos
    rw [Nat.add_zero] at hc
    exact ⟨hw1, _, hB.at_.resolve_right (fun e => by rw [e] at hpos; simp at hpos), hc, hB.lt 0⟩)
  obtain ⟨n, hn⟩ : ∃ n, n = bs.length := ⟨_, rfl⟩
  rw [List.length_take, Nat.min_eq_left (by rw [hl]; unfold hdLen; omega)] at t1
  rw [s4] at u1 HN1
  rw [s3] at v1 HN2 HE
  rw [← hn] at t1 d1 ⊢
  obtain ⟨m, hm⟩ : ∃ m, m = (bs.drop (winLen d)).length := ⟨_, rfl⟩
  rw [← hm] at d1 u1 v1
  have hmn : winLen d + m = n := by rw [hm, hn, List.length_drop]; unfold hdLen at hl; omega
  have hms : dicLen d + sizLen d = m := by rw [hm, List.length_drop]; unfold hdLen at hl; omega
  generalize hq : numN ((bs.drop (winLen d)).drop (dicLen d)) = q at *
  generalize hdDic d bs = D at *
  generalize hdSiz d bs = Z at *
  generalize hdTold d bs = tl at *
  generalize hdWin d bs = Wn at *
  clear t2 d2 u2 v2 hB hl hq hm hn s3 s4
  generalize winLen d = wl at *
  generalize dicLen d = dl at *
  generalize sizLen d = sl at *
  have hwl : (wl : Int) ≤ 1 := by omega
  have hwn : (wl : Int) ≤ (n : Int) := by omega
  have hdl : (dl : Int) ≤ 4 := by omega
  have hdm : (dl : Int) ≤ (m : Int) := by omega
  have hsl8 : (sl : Int) ≤ 8 := by omega
  go_enter Tryz.func24, Tryz.ntmps24
  go_wp2_with fail
  go_region_held3 (fun _ => True) (trivial) ((first | (go_at_call 38; refine (H1.out _).mono ?_; rintro e w' ⟨rfl, rfl⟩)))
  go_wp2_with fail
  go_region_held3 (fun _ => True) (trivial) ((first | (go_at_call 39; refine (H2.out _).mono ?_; rintro e w' ⟨rfl, rfl⟩)))
  go_wp2_with fail
  obtain ⟨W0, hW0⟩ : ∃ W0, W0 = (w.alloc (.cells #[.int .u64 0, .int .u64 0, .int .u64 0, .bool false] 35)).drew.drew := ⟨_, rfl⟩
  have k0 : Keep noBlock w W0 := by rw [hW0]; exact (((Keep.refl _ w).alloc _).drew).drew
  have o0 : W0.heap[w.heap.size]? = some (.cells #[.int .u64 0, .int .u64 0, .int .u64 0, .bool false] 35 (0, 0)) := by rw [hW0]; exact alloc_new w _
  rw [← hW0]
  refine (HN1.out _ k0).mono ?_
  rintro e w1 ⟨rfl, rfl⟩
  clear hW0
  obtain ⟨hb, hhb⟩ : ∃ hb, hb = w.heap.size := ⟨_, rfl⟩
  rw [← hhb] at o0 ⊢
  have HK0 := hid (And.intro k0 (And.intro o0 hhb))
  have c0 := cell_of o0 0
  clear hhb c0 HN1
  go_wp2_with fail
  refine (HN2.out _ HK0.out.1).mono ?_
  rintro e w2 ⟨rfl, rfl⟩
  clear HN2 k0 o0
  have hqb : q < 18446744073709551616 := by
    have := HE.out.1
    split at this <;> omega
  have HO := (show Hid (∀ C : Array Value, (w2.alloc (.cells C 35)).heap[hb]? = some (.cells #[.int .u64 0, .int .u64 0, .int .u64 0, .bool false] 35 (0, 0))) from fun C => alloc_far HK0.out.2.1 _)
  have HFin := (show Hid (∀ (C : Array Value) (W' : World), W' = (w2.alloc (.cells C 35)).setRow hb #[.int .u64 (Wn : Int), .int .u64 (D : Int), .int .u64 (Z : Int), .bool (decide (0 < sl))] → W'.heap[hb]? = some (.cells #[.int .u64 (Wn : Int), .int .u64 (D : Int), .int .u64 (Z : Int), .bool (decide (0 < sl))] 35 (0, 0)) ∧ Keep noBlock w W') from fun C W' e => by
    refine ⟨by rw [e]; exact setRow_heap _ hb _ _ 35 (0, 0) (alloc_far HK0.out.2.1 _), ?_⟩
    rw [e]
    exact ((HK0.out.1.alloc _)).trans (keep_setRow (Keep.refl (fun j => j = hb) _) hb (fun _ => rfl) _) (fun j hj e => by have := HK0.out.2.2; omega))
  have HOne := hid (show (#[.int .u64 (Wn : Int), .int .u64 (D : Int), .int .u64 (Z : Int), .bool (decide (0 < sl))] : Array Value).all (·.oneCell') = true from all_oneCell_toArray (fun v hv => by simp only [List.mem_cons, List.not_mem_nil, or_false] at hv; rcases hv with rfl | rfl | rfl | rfl <;> rfl))
  have HTl := hid HE.out.2.1
  by_cases h2 : sl = 2
  · have hZ : Z = q + 256 := by rw [HE.out.1, if_pos h2]
    have hZI : (q : Int) + 256 = (Z : Int) := by omega
    have hwZ : IntKind.u64.wrap (Z : Int) = (Z : Int) := by rw [IntKind.wrap_u64]; omega
    have h2b : ((sl : Int) == 2) = true := by simp; omega
    have h2d : decide (sl = 2) = true := decide_eq_true h2
    have hqI : (q : Int) < 18446744073709551616 := by omega
    clear hZ h2
    cases hf : flagB d 5 with
    | true =>
      rw [hf] at H3
      have hWn : (Wn : Int) = max (Z : Int) 1 := by
        have := HE.out.2.2
        rw [hf, if_pos rfl] at this
        omega
      have hmax := maxSem_run .u64 #[33, 33] 33 (Z : Int) 1 (Wn : Int) hWn
      clear hWn HW0
      go_wp2_with fail
      refine (H3.out _).mono ?_
      rintro e w3 ⟨rfl, rfl⟩
      go_wp2_with (refine wpList_store_row rfl 35 (.tmp 4) (.tmp 51) rfl hb #[.int .u64 (Wn : Int), .int .u64 (D : Int), .int .u64 (Z : Int), .bool (decide (0 < sl))] rfl rfl 35 _ (HO.out _) info35s rfl HOne.out ?_)
      obtain ⟨f1, f2⟩ := HFin.out _ _ rfl
      refine bodyPost_ret (results_cell rfl _ _ _ ⟨hb, 0, none⟩ (.agg #[.int .u64 (Wn : Int), .int .u64 (D : Int), .int .u64 (Z : Int), .bool (decide (0 < sl))]) rfl (run_loadVar_row _ _ 35 35 _ (0, 0) _ f1 Tryz.underlying35 rfl info35s)) rfl ?_
      exact ⟨by rw [HTl.out], f2⟩
    | false =>
      rw [hf] at H3
      obtain ⟨hw1, ad, rfl, hcell, hx⟩ := HW0.out hf
      obtain ⟨x, hxe⟩ : ∃ x, x = bs[0]?.getD 0 := ⟨_, rfl⟩
      rw [← hxe] at hcell hx
      have HWo := hid (show ∀ W : World, Calls Tryz.prog 41 #[.int .u8 (x : Int)] W fun e w' => e = .returned (.int .u64 (Wn : Int)) ∧ w' = W from fun W => by
        have := winOf_any x hx W
        have e2 := HE.out.2.2
        rw [hf, if_neg (by simp), ← hxe] at e2
        rw [e2]
        exact this)
      have HCell := hid (show ∀ C : Array Value, (w2.alloc (.cells C 35)).cell? ad = some (.int .u8 (x : Int)) from fun C => (World.cell?_of_block (Below.heap_alloc _ _ _ (World.block_lt_of_cell? w2 ad (keep_cellA HK0.out.1 hcell)))).trans (keep_cellA HK0.out.1 hcell))
      have hcA := HCell.out #[.int .u64 0, .int .u64 (D : Int), .int .u64 (Z : Int), .bool (decide (0 < sl))]
      subst hw1
      clear hxe HW0 hcell
      go_wp2_with fail
      refine (H3.out _).mono ?_
      rintro e w3 ⟨rfl, rfl⟩
      go_wp2_with fail
      refine (HWo.out _).mono ?_
      rintro e w4 ⟨rfl, rfl⟩
      go_wp2_with (refine wpList_store_row rfl 35 (.tmp 4) (.tmp 51) rfl hb #[.int .u64 (Wn : Int), .int .u64 (D : Int), .int .u64 (Z : Int), .bool (decide (0 < sl))] rfl rfl 35 _ (HO.out _) info35s rfl HOne.out ?_)
      obtain ⟨f1, f2⟩ := HFin.out _ _ rfl
      refine bodyPost_ret (results_cell rfl _ _ _ ⟨hb, 0, none⟩ (.agg #[.int .u64 (Wn : Int), .int .u64 (D : Int), .int .u64 (Z : Int), .bool (decide (0 < sl))]) rfl (run_loadVar_row _ _ 35 35 _ (0, 0) _ f1 Tryz.underlying35 rfl info35s)) rfl ?_
      exact ⟨by rw [HTl.out], f2⟩
  · have hZ : Z = q := by rw [HE.out.1, if_neg h2, Nat.add_zero]
    have h2b : ((sl : Int) == 2) = false := by simp; omega
    have h2d : decide (sl = 2) = false := decide_eq_false h2
    subst hZ
    cases hf : flagB d 5 with
    | true =>
      rw [hf] at H3
      have hWn : (Wn : Int) = max (Z : Int) 1 := by
        have := HE.out.2.2
        rw [hf, if_pos rfl] at this
        omega
      have hmax := maxSem_run .u64 #[33, 33] 33 (Z : Int) 1 (Wn : Int) hWn
      clear hWn HW0
      go_wp2_with fail
      refine (H3.out _).mono ?_
      rintro e w3 ⟨rfl, rfl⟩
      go_wp2_with (refine wpList_store_row rfl 35 (.tmp 4) (.tmp 51) rfl hb #[.int .u64 (Wn : Int), .int .u64 (D : Int), .int .u64 (Z : Int), .bool (decide (0 < sl))] rfl rfl 35 _ (HO.out _) info35s rfl HOne.out ?_)
      obtain ⟨f1, f2⟩ := HFin.out _ _ rfl
      refine bodyPost_ret (results_cell rfl _ _ _ ⟨hb, 0, none⟩ (.agg #[.int .u64 (Wn : Int), .int .u64 (D : Int), .int .u64 (Z : Int), .bool (decide (0 < sl))]) rfl (run_loadVar_row _ _ 35 35 _ (0, 0) _ f1 Tryz.underlying35 rfl info35s)) rfl ?_
      exact ⟨by rw [HTl.out], f2⟩
    | false =>
      rw [hf] at H3
      obtain ⟨hw1, ad, rfl, hcell, hx⟩ := HW0.out hf
      obtain ⟨x, hxe⟩ : ∃ x, x = bs[0]?.getD 0 := ⟨_, rfl⟩
      rw [← hxe] at hcell hx
      have HWo := hid (show ∀ W : World, Calls Tryz.prog 41 #[.int .u8 (x : Int)] W fun e w' => e = .returned (.int .u64 (Wn : Int)) ∧ w' = W from fun W => by
        have := winOf_any x hx W
        have e2 := HE.out.2.2
        rw [hf, if_neg (by simp), ← hxe] at e2
        rw [e2]
        exact this)
      have HCell := hid (show ∀ C : Array Value, (w2.alloc (.cells C 35)).cell? ad = some (.int .u8 (x : Int)) from fun C => (World.cell?_of_block (Below.heap_alloc _ _ _ (World.block_lt_of_cell? w2 ad (keep_cellA HK0.out.1 hcell)))).trans (keep_cellA HK0.out.1 hcell))
      have hcA := HCell.out #[.int .u64 0, .int .u64 (D : Int), .int .u64 (Z : Int), .bool (decide (0 < sl))]
      subst hw1
      clear hxe HW0 hcell
      go_wp2_with fail
      refine (H3.out _).mono ?_
      rintro e w3 ⟨rfl, rfl⟩
      go_wp2_with fail
      refine (HWo.out _).mono ?_
      rintro e w4 ⟨rfl, rfl⟩
      go_wp2_with (refine wpList_store_row rfl 35 (.tmp 4) (.tmp 51) rfl hb #[.int .u64 (Wn : Int), .int .u64 (D : Int), .int .u64 (Z : Int), .bool (decide (0 < sl))] rfl rfl 35 _ (HO.out _) info35s rfl HOne.out ?_)
      obtain ⟨f1, f2⟩ := HFin.out _ _ rfl
      refine bodyPost_ret (results_cell rfl _ _ _ ⟨hb, 0, none⟩ (.agg #[.int .u64 (Wn : Int), .int .u64 (D : Int), .int .u64 (Z : Int), .bool (decide (0 < sl))]) rfl (run_loadVar_row _ _ 35 35 _ (0, 0) _ f1 Tryz.underlying35 rfl info35s)) rfl ?_
      exact ⟨by rw [HTl.out], f2⟩
end
end Go.Proofs.YtnjilcokkhodmaaGreatDoor

namespace Go.Proofs.YtnjilcokkhodmaaGreatDoor
open Go.RowKit Go.Shelf
set_option linter.unusedVariables false

def FrAt (w : World) (fb win dic siz : Nat) (told : Bool) (x0 x1 x2 ws : Value) (r0 r1 r2 : Int) (fl : Nat) (last : Bool) (kind bsz : Nat) (out : Value) (bud : Nat) : Prop :=
 w.heap[fb]? = some (.cells (frC win dic siz told x0 x1 x2 ws r0 r1 r2 fl last kind bsz out bud) 44 (0, 0))
section
attribute [local go_sem] minSem_eq
set_option maxHeartbeats 1000000 in
theorem most_any {w : World} {fb win dic siz : Nat} {told : Bool} {x0 x1 x2 ws : Value} {r0 r1 r2 : Int} {fl : Nat} {last : Bool} {kind bsz : Nat} {out : Value} {bud : Nat} (h : FrAt w fb win dic siz told x0 x1 x2 ws r0 r1 r2 fl last kind bsz out bud) (hw : win < 18446744073709551616) :
  Calls Tryz.prog 27 #[.pointer (some ⟨fb, 0, none⟩)] w fun e w' => e = .returned (.int .i64 ((min win 131072 : Nat) : Int)) ∧ w' = w := by
 have c0 : w.cell? ⟨fb, 0, none⟩ = some (.int .u64 (win : Int)) := cell_of h 0
 obtain ⟨m, hm⟩ : ∃ m, m = min win 131072 := ⟨_, rfl⟩
 rw [← hm]
 have hmin := minSem_run .u64 #[33, 33] 33 (win : Int) 131072 (m : Int) (by omega)
 have hmb : (m : Int) ≤ 131072 := by omega
 have hwm : IntKind.i64.wrap (m : Int) = (m : Int) := by rw [IntKind.wrap_i64]; omega
 clear h hm
 go_enter Tryz.func27, Tryz.ntmps27
 go_wp2_with fail
 go_ret
 exact ⟨rfl, rfl⟩
end
set_option maxHeartbeats 1000000 in
theorem judgeHead_any {w : World} {fb win dic siz : Nat} {told : Bool} {x0 x1 x2 ws : Value} {r0 r1 r2 : Int} {fl : Nat} {last : Bool} {kind bsz : Nat} {out : Value} {bud : Nat} (h : FrAt w fb win dic siz told x0 x1 x2 ws r0 r1 r2 fl last kind bsz out bud) (hw : win < 18446744073709551616) (hd : dic < 18446744073709551616) (hb : bud ≤ 16777216) :
  Calls Tryz.prog 25 #[.pointer (some ⟨fb, 0, none⟩)] w fun e w' => e = .returned (.int .i64 ((if dic ≠ 0 then 12 else if bud < win then 40 else 0 : Nat) : Int)) ∧ Keep noBlock w w' := by
 have c0 : w.cell? ⟨fb, 0, none⟩ = some (.int .u64 (win : Int)) := cell_of h 0
 have c1 : w.cell? ⟨fb, 1, none⟩ = some (.int .u64 (dic : Int)) := cell_of h 1
 have c2 : w.cell? ⟨fb, 16, none⟩ = some (.int .u64 (bud : Int)) := cell_of h 16
 clear h
 by_cases h1 : dic ≠ 0
 ·rw [if_pos h1]
  have h1b : ((dic : Int) != 0) = true := by simp; omega
  go_enter Tryz.func25, Tryz.ntmps25
  go_wp2_with fail
  go_ret
  exact ⟨rfl, Keep.refl _ _⟩
 ·rw [if_neg h1]
  have h1e : dic = 0 := by omega
  subst h1e
  by_cases h2 : bud < win
  ·rw [if_pos h2]
   have h2d : decide (bud < win) = true := decide_eq_true h2
   have h2I : (bud : Int) < (win : Int) := by omega
   go_enter Tryz.func25, Tryz.ntmps25
   go_wp2_with fail
   go_region_held3 (fun W => W.cell? ⟨fb, 0, none⟩ = some (.int .u64 (win : Int)) ∧ W.cell? ⟨fb, 16, none⟩ = some (.int .u64 (bud : Int))) (first | exact ⟨c0, c2⟩ | assumption) (fail)
   go_wp2_with fail
   go_ret
   exact ⟨rfl, (Keep.refl _ w).drew⟩
  ·rw [if_neg h2]
   have h2d : decide (bud < win) = false := decide_eq_false h2
   have h2I : ¬ (bud : Int) < (win : Int) := by omega
   go_enter Tryz.func25, Tryz.ntmps25
   go_wp2_with fail
   go_region_held3 (fun W => W.cell? ⟨fb, 0, none⟩ = some (.int .u64 (win : Int)) ∧ W.cell? ⟨fb, 16, none⟩ = some (.int .u64 (bud : Int))) (first | exact ⟨c0, c2⟩ | assumption) (fail)
   go_wp2_with fail
   go_ret
   exact ⟨rfl, (Keep.refl _ w).drew⟩
end Go.Proofs.YtnjilcokkhodmaaGreatDoor

namespace Go.Proofs.YtnjilcokkhodmaaGreatDoor
open Go.RowKit Go.Shelf
set_option linter.unusedVariables false

theorem size3d : (Tryz.prog.info? 3).map (·.size) = some 1 := by kernel_rfl
section
variable {w : World} {fb win dic siz : Nat} {told : Bool} {x0 x1 x2 ws : Value} {r0 r1 r2 : Int} {fl : Nat} {last : Bool} {kind bsz : Nat} {out : Value} {bud : Nat}
set_option maxHeartbeats 1000000 in
theorem meantF (lits : Int) (back : Nat) (h1 : 1 ≤ back) (h2 : back ≤ 9223372036854775807) (hr : r0 ≤ 9223372036854775807) (h : FrAt w fb win dic siz told x0 x1 x2 ws r0 r1 r2 fl last kind bsz out bud) :
  Calls Tryz.prog 73 #[.pointer (some ⟨fb, 8, none⟩), .int .i64 lits, .int .i64 (back : Int)] w fun e w' => e = .returned (.tuple #[.int .i64 (meantD r0 r1 r2 (lits == 0) back), .int .i64 ((meantM r0 (lits == 0) back : Nat) : Int)]) ∧ w' = w := by
 have c0 : w.cell? ⟨fb, 8, none⟩ = some (.int .i64 r0) := cell_of h 8
 have c1 : w.cell? ⟨fb, 9, none⟩ = some (.int .i64 r1) := cell_of h 9
 have c2 : w.cell? ⟨fb, 10, none⟩ = some (.int .i64 r2) := cell_of h 10
 clear h
 by_cases hz : lits = 0
 ·subst hz
  rcases (show back = 1 ∨ back = 2 ∨ back = 3 ∨ 3 < back by omega) with rfl | rfl | rfl | hb
  ·go_enter Tryz.func73, Tryz.ntmps73
   go_wp2_with fail
   go_ret2
   exact ⟨rfl, rfl⟩
  ·go_enter Tryz.func73, Tryz.ntmps73
   go_wp2_with fail
   go_ret2
   exact ⟨rfl, rfl⟩
  ·by_cases hr0 : 1 < r0
   ·have hd : decide (1 < r0) = true := decide_eq_true hr0
    have hs : wrap64 (r0 - 1) = r0 - 1 := by unfold wrap64; omega
    go_enter Tryz.func73, Tryz.ntmps73
    go_wp2_with fail
    go_ret2
    exact ⟨by simp [meantD, meantM, whichN, hr0], rfl⟩
   ·have hd : decide (1 < r0) = false := decide_eq_false hr0
    go_enter Tryz.func73, Tryz.ntmps73
    go_wp2_with fail
    go_ret2
    refine ⟨?_, rfl⟩
    rw [show meantD r0 r1 r2 true 3 = 0 from by unfold meantD; rw [if_neg (by omega), if_neg (by decide), if_neg (by decide), if_neg (by decide), if_neg (by omega)], show meantM r0 true 3 = 0 from by unfold meantM; rw [if_neg (by omega), if_neg (by decide), if_neg (by omega)]]
    rfl
  ·go_enter Tryz.func73, Tryz.ntmps73
   go_wp2_with fail
   go_ret2
   exact ⟨by simp [meantD, meantM, hb], rfl⟩
 ·have hz' : (lits == 0) = false := by simpa using hz
  rcases (show back = 1 ∨ back = 2 ∨ back = 3 ∨ 3 < back by omega) with rfl | rfl | rfl | hb
  ·go_enter Tryz.func73, Tryz.ntmps73
   go_wp2_with fail
   go_ret2
   exact ⟨by rw [hz']; rfl, rfl⟩
  ·go_enter Tryz.func73, Tryz.ntmps73
   go_wp2_with fail
   go_ret2
   exact ⟨by rw [hz']; rfl, rfl⟩
  ·go_enter Tryz.func73, Tryz.ntmps73
   go_wp2_with fail
   go_ret2
   exact ⟨by rw [hz']; rfl, rfl⟩
  ·go_enter Tryz.func73, Tryz.ntmps73
   go_wp2_with fail
   go_ret2
   exact ⟨by simp [meantD, meantM, hb], rfl⟩

theorem copy_repF (m : Nat) (hm : m ≤ 2) (h : FrAt w fb win dic siz told x0 x1 x2 ws r0 r1 r2 fl last kind bsz out bud) :
  ∃ w', (Builtin.copy_ #[152, 152] 3 #[.slice (some ⟨fb, 9, none⟩) m 2, .slice (some ⟨fb, 8, none⟩) m 3]).run Tryz.prog w = .ok (.int .i64 (m : Int)) w' ∧ FrAt w' fb win dic siz told x0 x1 x2 ws (movedR r0 r1 r2 m).1 (movedR r0 r1 r2 m).2.1 (movedR r0 r1 r2 m).2.2 fl last kind bsz out bud ∧ Keep (fun k => k = fb) w w' := by
 have hl : (([.int .i64 r0, .int .i64 r1, .int .i64 r2] : List Value).take m).length = m := by rw [List.length_take]; simp; omega
 have hc := run_copy_row Tryz.prog w 152 152 3 3 fb 9 m 2 ⟨fb, 8, none⟩ m 3 _ 44 (([.int .i64 r0, .int .i64 r1, .int .i64 r2] : List Value).take m) Tryz.underlying152 size3d h (by rw [hl]; show m = min m m; omega)
  (fun j v hv => by
   rw [List.getElem?_take] at hv
   split at hv
   ·rename_i hj
    rw [addO, cell_of h]
    rcases (show j = 0 ∨ j = 1 by omega) with rfl | rfl <;> exact hv
   ·cases hv) (by rw [hl]; show 9 + m ≤ 17; omega) (fun v hv => by
    have := List.mem_of_mem_take hv
    simp at this
    rcases this with rfl | rfl | rfl <;> rfl)
 rw [show goInt (([.int .i64 r0, .int .i64 r1, .int .i64 r2] : List Value).take m).length = .int .i64 (m : Int) from by rw [hl]; rfl, hl] at hc
 refine ⟨_, hc, ?_, keep_setRow (Keep.refl (fun k => k = fb) w) fb (fun _ => rfl) _⟩
 refine (setRow_heap w fb _ _ 44 (0, 0) h).trans ?_
 rcases (show m = 0 ∨ m = 1 ∨ m = 2 by omega) with rfl | rfl | rfl <;> rfl
end
theorem slice_hiF (b m : Nat) (hm : m ≤ 2) (W : World) : (sliceAtSem 39 (.pointer (some ⟨b, 8, none⟩)) (some (.int .i64 1)) (some (.int .i64 ((m : Int) + 1))) none).run Tryz.prog W = .ok (.slice (some ⟨b, 9, none⟩) m 2) W := by
 rcases (show m = 0 ∨ m = 1 ∨ m = 2 by omega) with rfl | rfl | rfl <;> kernel_rfl
theorem slice_loF (b m : Nat) (hm : m ≤ 2) (W : World) : (sliceAtSem 39 (.pointer (some ⟨b, 8, none⟩)) none (some (.int .i64 (m : Int))) none).run Tryz.prog W = .ok (.slice (some ⟨b, 8, none⟩) m 3) W := by
 rcases (show m = 0 ∨ m = 1 ∨ m = 2 by omega) with rfl | rfl | rfl <;> kernel_rfl
theorem FrAt.keep {w w' : World} {S : Nat → Prop} {fb win dic siz : Nat} {told : Bool} {x0 x1 x2 ws : Value} {r0 r1 r2 : Int} {fl : Nat} {last : Bool} {kind bsz : Nat} {out : Value} {bud : Nat} (h : FrAt w fb win dic siz told x0 x1 x2 ws r0 r1 r2 fl last kind bsz out bud) (hk : Keep S w w') (h1 : ¬ S fb) : FrAt w' fb win dic siz told x0 x1 x2 ws r0 r1 r2 fl last kind bsz out bud := hk.obj h h1

section
attribute [local go_sem] sliceAtSem_eq
variable {w : World} {fb win dic siz : Nat} {told : Bool} {x0 x1 x2 ws : Value} {r0 r1 r2 : Int} {fl : Nat} {last : Bool} {kind bsz : Nat} {out : Value} {bud : Nat}
set_option maxHeartbeats 1000000 in
theorem valueF_bad (lits : Int) (back : Nat) (h1 : 1 ≤ back) (h2 : back ≤ 9223372036854775807) (hr : r0 ≤ 9223372036854775807) (hd : meantD r0 r1 r2 (lits == 0) back < 1) (h : FrAt w fb win dic siz told x0 x1 x2 ws r0 r1 r2 fl last kind bsz out bud) :
  Calls Tryz.prog 54 #[.pointer (some ⟨fb, 8, none⟩), .int .i64 lits, .int .i64 (back : Int)] w fun e w' => e = .returned (.tuple #[.int .i64 0, .int .i64 11]) ∧ w' = w := by
 have HM := hid (meantF lits back h1 h2 hr h)
 generalize meantM r0 (lits == 0) back = m at *
 generalize meantD r0 r1 r2 (lits == 0) back = d at *
 have hd1 : decide (d < 1) = true := decide_eq_true (by omega)
 have hb1 : decide ((back : Int) < 1) = false := decide_eq_false (by omega)
 clear h
 go_enter Tryz.func54, Tryz.ntmps54
 go_wp2_with fail
 refine HM.out.mono ?_
 rintro e w' ⟨rfl, rfl⟩
 go_wp2_with fail
 go_ret2
 exact ⟨rfl, rfl⟩
set_option maxHeartbeats 1000000 in
theorem valueF_ok (lits : Int) (back : Nat) (h1 : 1 ≤ back) (h2 : back ≤ 9223372036854775807) (hr : r0 ≤ 9223372036854775807) (hd : 1 ≤ meantD r0 r1 r2 (lits == 0) back) (h : FrAt w fb win dic siz told x0 x1 x2 ws r0 r1 r2 fl last kind bsz out bud) :
  Calls Tryz.prog 54 #[.pointer (some ⟨fb, 8, none⟩), .int .i64 lits, .int .i64 (back : Int)] w fun e w' => e = .returned (.tuple #[.int .i64 (meantD r0 r1 r2 (lits == 0) back), .int .i64 0]) ∧
   FrAt w' fb win dic siz told x0 x1 x2 ws (meantD r0 r1 r2 (lits == 0) back) (movedR r0 r1 r2 (meantM r0 (lits == 0) back)).2.1 (movedR r0 r1 r2 (meantM r0 (lits == 0) back)).2.2 fl last kind bsz out bud ∧ Keep (fun k => k = fb) w w' := by
 have HM := hid (meantF lits back h1 h2 hr h)
 have hm := meantM_le r0 (lits == 0) back
 obtain ⟨W1, hW1⟩ : ∃ W1, W1 = w.drew := ⟨_, rfl⟩
 have hk1 : Keep noBlock w W1 := by rw [hW1]; exact (Keep.refl _ w).drew
 have q1 := h.keep hk1 (fun h => h)
 generalize meantM r0 (lits == 0) back = m at *
 generalize meantD r0 r1 r2 (lits == 0) back = d at *
 obtain ⟨W2, hc, q2, hk2⟩ := copy_repF m hm q1
 have f2 : W2.cell? ⟨fb, 8, none⟩ = some (.int .i64 (movedR r0 r1 r2 m).1) := cell_of q2 8
 have z2 : W2.frozen? ⟨fb, 8, none⟩ = false := frozen_of q2 8
 have HF := (show Hid (FrAt (W2.setCell ⟨fb, 8, none⟩ (.int .i64 d)) fb win dic siz told x0 x1 x2 ws d (movedR r0 r1 r2 m).2.1 (movedR r0 r1 r2 m).2.2 fl last kind bsz out bud ∧ Keep (fun k => k = fb) w (W2.setCell ⟨fb, 8, none⟩ (.int .i64 d))) from
  ⟨set_obj q2 8 _, ((hk1.mono (T := fun k => k = fb) (fun _ _ h => h.elim)).trans hk2 (fun _ _ h => h)).setCell (p := ⟨fb, 8, none⟩) (fun _ => rfl) _⟩)
 have hd1 : decide (d < 1) = false := decide_eq_false (by omega)
 have hb1 : decide ((back : Int) < 1) = false := decide_eq_false (by omega)
 have hm1 : IntKind.i64.wrap ((m : Int) + 1) = (m : Int) + 1 := by
  rcases (show m = 0 ∨ m = 1 ∨ m = 2 by omega) with rfl | rfl | rfl <;> rfl
 have hs1 := slice_hiF fb m hm
 have hs2 := slice_loF fb m hm
 have hmw : wrap64 ((m : Int) + 1) = (m : Int) + 1 := by unfold wrap64; omega
 clear q1 q2 hk2 hk1 h hd hm
 go_enter Tryz.func54, Tryz.ntmps54
 go_wp2_with fail
 refine HM.out.mono ?_
 rintro e w' ⟨rfl, rfl⟩
 go_wp2_with fail
 refine region_tail 9 mx (by kernel_rfl) ?_
 rw [← hW1]
 clear hW1
 simp only [List.take_succ_cons, List.take_zero, List.drop_succ_cons, List.drop_zero]
 repeat (quiet_step (fail))
 refine wpQuiet_nil ?_
 go_wp2_with fail
 go_ret2
 exact ⟨rfl, HF.out⟩
end
end Go.Proofs.YtnjilcokkhodmaaGreatDoor

namespace Go.Proofs.YtnjilcokkhodmaaGreatDoor
open Go.RowKit Go.Shelf
set_option linter.unusedVariables false

theorem wp_append_run {o : Oper} {a : Act} {K : Act → World → Prop} {Q : Exit → Act → World → Prop} (w : World) (s x : Operand) (t : TypeId)
  (ho : o.op = .call { callee := .builtin .append, args := #[s, x], argTypes := #[t, t] }) (v sv v' : Value) (w' : World) (hs : a.eval s = v) (hx : a.eval x = sv)
  (hr : (Builtin.append_ #[t, t] o.type #[v, sv]).run Tryz.prog w = .ok v' w') (hk : K (a.put o.dst v') w') : o.wp Tryz.prog a w K Q := by
 unfold Oper.wp execOp
 simp only [ho, resolve, invoke, builtin, Sem.run_bind, Sem.run_pure, Result.andThen_ok, List.map_toArray, List.map_cons, List.map_nil, hs, hx, hr]
 exact hk
theorem run_mid5 (a : Option Addr) (len cap lo hi : Nat) (h0 : lo ≤ hi) (h1 : hi ≤ cap) (w : World) :
  (sliceSem 22 (.slice a len cap) (some (.int .i64 (lo : Int))) (some (.int .i64 (hi : Int))) none).run Tryz.prog w = .ok (.slice (if cap = lo then a else a.map (fun x => x.add lo)) (hi - lo) (cap - lo)) w := by
 obtain ⟨i0, hi', hz0, hz1, hz2⟩ := info_parts info5
 simp [sliceSem, Instr.slice, run_underlying Tryz.underlying22, Instr.sliceBounds, Instr.sliceBound, asIntOf, h0, h1, sizeOf, typeInfo, hi', hz1]
structure OutF (w : World) (ov : Value) (out : List Nat) : Prop where
 own : w.ownsRow 0 5 1 ov out.length (u8s out)
 lt : ∀ j : Nat, out[j]?.getD 0 < 256
theorem OutF.keep {w w' : World} {S : Nat → Prop} {ov : Value} {out : List Nat} (h : OutF w ov out) (hk : Keep S w w') (hS : ∀ g, ov.ownBlock = some g → ¬ S g) : OutF w' ov out := ⟨ownsK h.own hk hS, h.lt⟩
theorem OutF.nil (w : World) : OutF w (.slice none 0 0) [] := ⟨⟨rfl, .inl ⟨rfl, rfl⟩⟩, fun j => by simp⟩
theorem app_lt {a b : List Nat} (ha : ∀ j : Nat, a[j]?.getD 0 < 256) (hb : ∀ j : Nat, b[j]?.getD 0 < 256) : ∀ j : Nat, (a ++ b)[j]?.getD 0 < 256 := fun j => by
 rw [List.getElem?_append]
 split
 ·exact ha j
 ·exact hb _
theorem OutF.put {w : World} {ov sv : Value} {out bs : List Nat} (h : OutF w ov out) (hs : SrcB w sv bs) (hb : ∀ j : Nat, bs[j]?.getD 0 < 256) (hl : out.length + bs.length ≤ 1099511627776) (ty : TypeId) :
  ∃ ov' w', (Builtin.append_ #[22, 22] ty #[ov, sv]).run Tryz.prog w = .ok ov' w' ∧ OutF w' ov' (out ++ bs) ∧ Keep (fun k => ov.ownBlock = some k) w w' ∧ (ov'.ownBlock = ov.ownBlock ∨ ∃ k, ov'.ownBlock = some k ∧ w.heap.size ≤ k) := by
 obtain ⟨v', w', h1, h2, h3, h4⟩ := run_append_all w ty ov out bs h.own hl sv hs
 exact ⟨v', w', h1, ⟨h2, app_lt h.lt hb⟩, h3, h4⟩
theorem OutF.slice {w : World} {ov : Value} {out : List Nat} (h : OutF w ov out) : ∃ oa oc, ov = .slice oa out.length oc ∧ out.length ≤ oc := by
 rcases h.own.2 with ⟨e, h0⟩ | ⟨g, cap, cur, e, hb, hg, h1, h2, h3, h4⟩
 ·exact ⟨none, 0, by rw [e, h0], by omega⟩
 ·exact ⟨_, cap, e, h1⟩
theorem OutF.cut {w : World} {oa : Option Addr} {n oc : Nat} {out : List Nat} (h : OutF w (.slice oa n oc) out) (k : Nat) (hk : k ≤ out.length) : OutF w (.slice oa k oc) (out.take k) := by
 refine ⟨⟨by rw [u8s_length, Nat.mul_one], ?_⟩, fun j => ?_⟩
 ·rcases h.own.2 with ⟨e, h0⟩ | ⟨g, cap, cur, e, hb, hg, h1, h2, h3, h4⟩
  ·cases e
   exact .inl ⟨by rw [show k = 0 by omega], by rw [List.length_take]; omega⟩
  ·cases e
   refine .inr ⟨g, oc, cur, by rw [List.length_take, Nat.min_eq_left hk], hb, hg, by rw [List.length_take]; omega, h2, h3, ?_⟩
   rw [List.length_take, Nat.min_eq_left hk, Nat.mul_one]
   rw [Nat.mul_one] at h4
   have : (cur.toList.take out.length).take k = (u8s out).take k := by rw [h4]
   rw [List.take_take, Nat.min_eq_left hk] at this
   rw [this]
   simp [u8s, List.map_take]
 ·rw [List.getElem?_take]
  split
  ·exact h.lt j
  ·exact Nat.zero_lt_succ _
theorem OutF.block {w : World} {ov : Value} {out : List Nat} (h : OutF w ov out) {k : Nat} (hk : ov.ownBlock = some k) : k < w.heap.size := (owns_lt h.own hk).2
theorem OutF.mid {w : World} {oa : Option Addr} {n oc : Nat} {out : List Nat} (h : OutF w (.slice oa n oc) out) (fr m : Nat) (hf : fr < out.length) (hm : fr + m ≤ out.length) :
  ∃ sv, (∀ W, (sliceSem 22 (.slice oa n oc) (some (.int .i64 (fr : Int))) (some (.int .i64 ((fr + m : Nat) : Int))) none).run Tryz.prog W = .ok sv W) ∧ SrcB w sv ((out.drop fr).take m) ∧ ∀ j : Nat, ((out.drop fr).take m)[j]?.getD 0 < 256 := by
 rcases h.own.2 with ⟨e, h0⟩ | ⟨g, cap, cur, e, hb, hg, h1, h2, h3, h4⟩
 ·omega
 ·cases e
  have hl : ((out.drop fr).take m).length = m := by rw [List.length_take, List.length_drop]; omega
  refine ⟨_, fun W => run_mid5 _ _ oc fr (fr + m) (by omega) (by omega) W, .inr ⟨⟨g, fr, none⟩, oc - fr, ?_, fun j u hu => ?_⟩, fun j => ?_⟩
  ·rw [if_neg (by omega), hl, show fr + m - fr = m by omega]
   show Value.slice (some ((⟨g, 0, none⟩ : Addr).add fr)) m (oc - fr) = _
   rw [addO, Nat.zero_add]
  ·have hj : j < m := by have := (List.getElem?_eq_some_iff.1 hu).1; rwa [u8s_length, hl] at this
   rw [addO, cell_of hg]
   have e1 : (u8s ((out.drop fr).take m))[j]? = (u8s out)[fr + j]? := by
    simp only [u8s, List.getElem?_map]
    rw [List.getElem?_take, if_pos hj, List.getElem?_drop]
   rw [← hu, e1, ← h4, List.getElem?_take, if_pos (by omega)]
   simp
  ·rw [List.getElem?_take]
   split
   ·rw [List.getElem?_drop]; exact h.lt _
   ·exact Nat.zero_lt_succ _
/-- A frame's block and its content, since w. -/
structure CoS (w wr : World) (fb : Nat) (ov ov1 : Value) : Prop where
 kp : Keep (fun k => k = fb ∨ ov.ownBlock = some k) w wr
 nw : ov1.ownBlock = ov.ownBlock ∨ ∃ k, ov1.ownBlock = some k ∧ w.heap.size ≤ k
theorem CoS.refl (w : World) (fb : Nat) (ov : Value) : CoS w w fb ov ov := ⟨Keep.refl _ _, .inl rfl⟩
theorem CoS.ne {w wr : World} {fb : Nat} {ov ov1 : Value} (h : CoS w wr fb ov ov1) (hf : fb < w.heap.size) (hne : ov.ownBlock ≠ some fb) : ov1.ownBlock ≠ some fb := fun e => by
 rcases h.nw with q | ⟨k, q, hk⟩
 ·rw [q] at e; exact hne e
 ·rw [q] at e; cases e; omega
theorem CoS.quiet {w wr w2 : World} {fb : Nat} {ov ov1 : Value} (h : CoS w wr fb ov ov1) (hk : Keep noBlock wr w2) : CoS w w2 fb ov ov1 := ⟨h.kp.trans hk (fun _ _ q => q.elim), h.nw⟩
theorem CoS.atf {w wr w2 : World} {fb : Nat} {ov ov1 : Value} (h : CoS w wr fb ov ov1) (hk : Keep (fun k => k = fb) wr w2) : CoS w w2 fb ov ov1 := ⟨h.kp.trans hk (fun _ _ q => .inl q), h.nw⟩
theorem CoS.put {w wr w2 : World} {fb : Nat} {ov ov1 ov2 : Value} (h : CoS w wr fb ov ov1) (hk : Keep (fun k => ov1.ownBlock = some k) wr w2) (hn : ov2.ownBlock = ov1.ownBlock ∨ ∃ k, ov2.ownBlock = some k ∧ wr.heap.size ≤ k) : CoS w w2 fb ov ov2 := by
 refine ⟨h.kp.trans hk (fun j hj q => ?_), ?_⟩
 ·rcases h.nw with e | ⟨k, e, hk⟩
  ·exact .inr (by rw [← e]; exact q)
  ·rw [e] at q; cases q; omega
 ·rcases hn with e | ⟨k, e, hk2⟩
  ·rcases h.nw with e2 | ⟨k, e2, hk⟩
   ·exact .inl (e.trans e2)
   ·exact .inr ⟨k, e.trans e2, hk⟩
  ·exact .inr ⟨k, e, Nat.le_trans h.kp.size hk2⟩
theorem CoS.trans {w wr w2 : World} {fb : Nat} {ov ov1 ov2 : Value} (h : CoS w wr fb ov ov1) (h2 : CoS wr w2 fb ov1 ov2) : CoS w w2 fb ov ov2 := by
 refine ⟨h.kp.trans h2.kp (fun j hj q => ?_), ?_⟩
 ·rcases q with q | q
  ·exact .inl q
  ·rcases h.nw with e | ⟨k, e, hk⟩
   ·exact .inr (by rw [← e]; exact q)
   ·rw [e] at q; cases q; omega
 ·rcases h2.nw with e | ⟨k, e, hk2⟩
  ·rcases h.nw with e2 | ⟨k, e2, hk⟩
   ·exact .inl (e.trans e2)
   ·exact .inr ⟨k, e.trans e2, hk⟩
  ·exact .inr ⟨k, e, Nat.le_trans h.kp.size hk2⟩
def IsFr (w : World) (fb : Nat) (F : Fr) (x0 x1 x2 ws ov : Value) : Prop := FrAt w fb F.win F.dic F.siz F.told x0 x1 x2 ws F.r0 F.r1 F.r2 F.fl F.last F.kind F.bsz ov F.bud
theorem IsFr.keep {w w' : World} {S : Nat → Prop} {fb : Nat} {F : Fr} {x0 x1 x2 ws ov : Value} (h : IsFr w fb F x0 x1 x2 ws ov) (hk : Keep S w w') (h1 : ¬ S fb) : IsFr w' fb F x0 x1 x2 ws ov := hk.obj h h1
theorem IsFr.lt {w : World} {fb : Nat} {F : Fr} {x0 x1 x2 ws ov : Value} (h : IsFr w fb F x0 x1 x2 ws ov) : fb < w.heap.size := obj_lt h
end Go.Proofs.YtnjilcokkhodmaaGreatDoor
