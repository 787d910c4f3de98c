/-
  Trees: a number, a number backwards, a byte that is like another one.
  Lengths and distances.
  The ledger: what each of its calls does.
  Charge, Release and Held of a ledger, and of none.
  Slices of bytes: cut, copied, appended, made.
  A window: what it holds, and its calls that put nothing.
-/
import Derived.Shelf.Abstract
import Derived.Shelf.RegionOpen
import Derived.WalkKit
import Derived.WalkSmall
import Derived.WalkLawsBesides
import Derived.BigQuiet
import Derived.Deep.QuietTactic
import Derived.Deep.RegionWith
import Derived.Deep.RegionHeld3
import Derived.Laws.LoneSync
import Derived.Laws.BitsAllLaws
import Derived.Test.YtnokemcogjoonaaGreatDoorProg
import Derived.Laws.CopyRow
import Derived.Laws.IdiomCopy
import Derived.Deep.OwnRows
import Derived.Test.YtnokemcogjoonaaGreatDoorPutP1
import Derived.Test.YtnokemcogjoonaaGreatDoorPutP2
import Derived.Test.YtnokemcogjoonaaGreatDoorPutP4
namespace Go.Proofs.YtnokemcogjoonaaGreatDoor
open Go.RowKit Go.Shelf
set_option linter.unusedVariables false

theorem readM_eq (o n : Nat) (x : Cx) : readM o n x = ((walkM o n 1 x).1 - 2 ^ n, (walkM o n 1 x).2) := rfl
theorem read3 (sb db gb o len cap : Nat) (s : Se) (x : Cx) (w : World) (h : Pr w sb db gb s x) (h8 : 8 ≤ o) (ho : o + 8 ≤ 14143) (hl : 8 ≤ len) (h48 : len < 2 ^ 48) :
    Calls Tryz.prog 115 #[.slice (some ⟨sb, o, none⟩) len cap, .pointer (some ⟨db, 0, none⟩), .int .i64 3] w fun e w' =>
      e = .returned (.int .i64 (((readM o 3 x).1 : Nat) : Int)) ∧ (readM o 3 x).1 < 8 ∧ Pr w' sb db gb s (readM o 3 x).2 ∧ Keep (SD sb db) w w' := by
  have HW := hid (walk_any sb db gb o len cap 3 1 1 8 s x w h (by omega) (by omega) (by omega) (by decide) h8 ho hl h48)
  have HE := readM_eq o 3 x
  rw [show (2 : Nat) ^ 3 = 8 from by decide] at HE
  have HE := hid HE
  clear h
  generalize readM o 3 x = R at *
  generalize walkM o 3 1 x = V at *
  go_enter Tryz.func115, Tryz.ntmps115
  go_wp2_with fail
  refine HW.out.mono ?_
  rintro e w1 ⟨rfl, g1, g2, g3, g4⟩
  go_wp2_with fail
  go_ret
  rw [HE.out]
  exact ⟨rfl, by show V.1 - _ < _; omega, g3, g4⟩
theorem read6 (sb db gb o len cap : Nat) (s : Se) (x : Cx) (w : World) (h : Pr w sb db gb s x) (h8 : 8 ≤ o) (ho : o + 64 ≤ 14143) (hl : 64 ≤ len) (h48 : len < 2 ^ 48) :
    Calls Tryz.prog 115 #[.slice (some ⟨sb, o, none⟩) len cap, .pointer (some ⟨db, 0, none⟩), .int .i64 6] w fun e w' =>
      e = .returned (.int .i64 (((readM o 6 x).1 : Nat) : Int)) ∧ (readM o 6 x).1 < 64 ∧ Pr w' sb db gb s (readM o 6 x).2 ∧ Keep (SD sb db) w w' := by
  have HW := hid (walk_any sb db gb o len cap 6 1 1 64 s x w h (by omega) (by omega) (by omega) (by decide) h8 ho hl h48)
  have HE := readM_eq o 6 x
  rw [show (2 : Nat) ^ 6 = 64 from by decide] at HE
  have HE := hid HE
  clear h
  generalize readM o 6 x = R at *
  generalize walkM o 6 1 x = V at *
  go_enter Tryz.func115, Tryz.ntmps115
  go_wp2_with fail
  refine HW.out.mono ?_
  rintro e w1 ⟨rfl, g1, g2, g3, g4⟩
  go_wp2_with fail
  go_ret
  rw [HE.out]
  exact ⟨rfl, by show V.1 - _ < _; omega, g3, g4⟩
theorem read8 (sb db gb o len cap : Nat) (s : Se) (x : Cx) (w : World) (h : Pr w sb db gb s x) (h8 : 8 ≤ o) (ho : o + 256 ≤ 14143) (hl : 256 ≤ len) (h48 : len < 2 ^ 48) :
    Calls Tryz.prog 115 #[.slice (some ⟨sb, o, none⟩) len cap, .pointer (some ⟨db, 0, none⟩), .int .i64 8] w fun e w' =>
      e = .returned (.int .i64 (((readM o 8 x).1 : Nat) : Int)) ∧ (readM o 8 x).1 < 256 ∧ Pr w' sb db gb s (readM o 8 x).2 ∧ Keep (SD sb db) w w' := by
  have HW := hid (walk_any sb db gb o len cap 8 1 1 256 s x w h (by omega) (by omega) (by omega) (by decide) h8 ho hl h48)
  have HE := readM_eq o 8 x
  rw [show (2 : Nat) ^ 8 = 256 from by decide] at HE
  have HE := hid HE
  clear h
  generalize readM o 8 x = R at *
  generalize walkM o 8 1 x = V at *
  go_enter Tryz.func115, Tryz.ntmps115
  go_wp2_with fail
  refine HW.out.mono ?_
  rintro e w1 ⟨rfl, g1, g2, g3, g4⟩
  go_wp2_with fail
  go_ret
  rw [HE.out]
  exact ⟨rfl, by show V.1 - _ < _; omega, g3, g4⟩

theorem or_more (t b i : Nat) (ht : t < 2 ^ i) (hb : b ≤ 1) (hi : i < 32) : bits .or .u32 (t : Int) ((b : Int) * 2 ^ i % 4294967296) = ((t + b * 2 ^ i : Nat) : Int) := by
  have h1 : 2 ^ i ≤ 2 ^ 31 := Nat.pow_le_pow_right (by decide) (by omega)
  have h2 : b * 2 ^ i ≤ 2 ^ i := by
    have := Nat.mul_le_mul_right (2 ^ i) hb
    omega
  have h3 : (b : Int) * 2 ^ i % 4294967296 = ((b * 2 ^ i : Nat) : Int) := by
    rw [show (b : Int) * 2 ^ i = ((b * 2 ^ i : Nat) : Int) from by simp]
    generalize b * 2 ^ i = z at *
    omega
  rw [h3, u32_or_nat _ _ (by omega) (by omega), Nat.or_comm, nat_join i (b * 2 ^ i) t (Nat.mul_mod_left _ _) ht, Nat.add_comm]

set_option maxHeartbeats 1000000 in
theorem backwards_any (sb db gb o len cap k : Nat) (s : Se) (x : Cx) (w : World) (h : Pr w sb db gb s x) (hk : k ≤ 6) (h8 : 8 ≤ o) (ho : o + 2 ^ k ≤ 14143) (hl : 2 ^ k ≤ len) (h48 : len < 2 ^ 48) :
    Calls Tryz.prog 135 #[.slice (some ⟨sb, o, none⟩) len cap, .pointer (some ⟨db, 0, none⟩), .int .i64 (k : Int)] w fun e w' =>
      e = .returned (.int .u32 (((backM o k 0 1 0 x).1 : Nat) : Int)) ∧ (backM o k 0 1 0 x).1 < 2 ^ k ∧ Pr w' sb db gb s (backM o k 0 1 0 x).2 ∧ Keep (SD sb db) w w' := by
  have hlI : ((2 ^ k : Nat) : Int) ≤ (len : Int) := by omega
  have HP := hid h
  clear h
  generalize hR : backM o k 0 1 0 x = R at *
  have HR := hid hR
  clear hR
  go_enter Tryz.func135, Tryz.ntmps135
  go_wp2_with fail
  go_loopw [12, 7, 8] (fun i m t wr => ∃ (j q u : Nat), i = .int .i64 j ∧ m = .int .i64 q ∧ t = .int .u32 u ∧ j ≤ k ∧ 2 ^ j ≤ q ∧ q < 2 * 2 ^ j ∧ u < 2 ^ j ∧ Hid (∃ y, backM o (k - j) j q u y = R ∧ Pr wr sb db gb s y ∧ Keep (SD sb db) w wr)) (fun i _ _ _ => k - (intOf i).toNat)
  case atStart => exact ⟨0, 1, 0, rfl, rfl, rfl, by omega, by simp, by simp, by simp, (show ∃ y, _ from ⟨x, HR.out, HP.out, Keep.refl _ _⟩)⟩
  case round =>
    obtain ⟨j, q, u, rfl, rfl, rfl, hj, a1, a2, a3, HQ⟩ := hrel
    by_cases hlt : j < k
    · obtain ⟨y, b1, b2, b3⟩ := HQ.out
      clear HQ
      have hltI : (j : Int) < (k : Int) := by omega
      have hp : 2 * 2 ^ j ≤ 2 ^ k := by rw [Nat.mul_comm, ← Nat.pow_succ]; exact Nat.pow_le_pow_right (by decide) (by omega)
      have hqI : (q : Int) < (len : Int) := by omega
      have HC := hid (bit_any sb db gb (o + q) s y _ b2 (by omega) (by omega))
      have hb := bN_le (bitX y (o + q))
      have hor := or_more u (bN (bitX y (o + q))) j a3 hb (by omega)
      have hu : u + bN (bitX y (o + q)) * 2 ^ j < 2 * 2 ^ j := by
        have := Nat.mul_le_mul_right (2 ^ j) hb
        omega
      have HN := (show Hid (backM o (k - (j + 1)) (j + 1) (2 * q + bN (bitX y (o + q))) (u + bN (bitX y (o + q)) * 2 ^ j) (stepX y (o + q)) = R ∧ Keep (SD sb db) w wr) from by
        rw [show k - j = k - (j + 1) + 1 from by omega] at b1
        exact ⟨b1, b3⟩)
      clear b1 b2 b3
      generalize stepX y (o + q) = y' at *
      generalize bN (bitX y (o + q)) = bt at *
      generalize u + bt * 2 ^ j = u' at *
      have hps : 2 ^ (j + 1) = 2 * 2 ^ j := by rw [Nat.pow_succ, Nat.mul_comm]
      go_wp2_with fail
      refine HC.out.mono ?_
      rintro e w1 ⟨rfl, g1, g2⟩
      have HG := (show Hid (Pr w1 sb db gb s y' ∧ Keep (SD sb db) w w1) from ⟨g1, HN.out.2.trans' g2⟩)
      clear g1 g2 HC
      go_wp2_with fail
      go_roundw
      case rel =>
        refine ⟨j + 1, 2 * q + bt, u', by go_num, by go_num, rfl, by omega, by omega, by omega, by omega, (show ∃ y, _ from ⟨y', HN.out.1, HG.out.1, HG.out.2⟩)⟩
      case measure => simp [intOf]; omega
    · obtain ⟨y, b1, b2, b3⟩ := HQ.out
      have hj2 : j = k := by omega
      subst hj2
      rw [Nat.sub_self] at b1
      have e : R = (u, y) := b1.symm
      have HF := (show Hid (R.1 = u ∧ Pr wr sb db gb s R.2 ∧ Keep (SD sb db) w wr) from by rw [e]; exact ⟨rfl, b2, b3⟩)
      clear b1 b2 b3 HQ e
      go_wp2_with fail
      go_ret
      rw [HF.out.1]
      exact ⟨rfl, a3, HF.out.2⟩

theorem and_bit (other k : Nat) (h : other < 256) : bits .and .u8 ((other : Int) / 2 ^ k) 1 = ((other / 2 ^ k % 2 : Nat) : Int) := by
  have e : (other : Int) / 2 ^ k = ((other / 2 ^ k : Nat) : Int) := by simp
  have := Nat.div_le_self other (2 ^ k)
  rw [e]
  generalize other / 2 ^ k = z at *
  have := u8_and_nat z 1 (by omega) (by omega)
  rw [show (((1 : Nat) : Int)) = (1 : Int) from rfl] at this
  rw [this, Nat.and_one_is_mod]

set_option maxHeartbeats 1000000 in
theorem like_any (sb db gb o len cap other : Nat) (s : Se) (x : Cx) (w : World) (h : Pr w sb db gb s x) (hoth : other < 256) (h8 : 8 ≤ o) (ho : o + 768 ≤ 14143) (hl : 768 ≤ len) (h48 : len < 2 ^ 48) :
    Calls Tryz.prog 117 #[.slice (some ⟨sb, o, none⟩) len cap, .pointer (some ⟨db, 0, none⟩), .int .u8 (other : Int)] w fun e w' =>
      e = .returned (.int .u8 (((likeM o other 8 1 x).1 - 256 : Nat) : Int)) ∧ 256 ≤ (likeM o other 8 1 x).1 ∧ (likeM o other 8 1 x).1 < 512 ∧ Pr w' sb db gb s (likeM o other 8 1 x).2 ∧ Keep (SD sb db) w w' := by
  have HP := hid h
  clear h
  generalize hR : likeM o other 8 1 x = R at *
  have HR := hid hR
  clear hR
  go_enter Tryz.func117, Tryz.ntmps117
  go_wp2_with fail
  go_loopw [8, 7] (fun i m wr => ∃ (j : Int) (q : Nat), i = .int .i64 j ∧ m = .int .i64 q ∧ -1 ≤ j ∧ j ≤ 7 ∧ q < 512 ∧ Hid (∃ (A k : Nat) (y : Cx), (k : Int) = j + 1 ∧ A * 2 ^ k = 256 ∧ A ≤ q ∧ q < 2 * A ∧ likeM o other k q y = R ∧ Pr wr sb db gb s y ∧ Keep (SD sb db) w wr)) (fun i _ _ => (intOf i + 1).toNat)
  case atStart => exact ⟨7, 1, rfl, rfl, by omega, by omega, by omega, (show ∃ (A k : Nat) (y : Cx), _ from ⟨1, 8, x, rfl, rfl, by omega, by omega, HR.out, HP.out, Keep.refl _ _⟩)⟩
  case round =>
    obtain ⟨j, q, rfl, rfl, hj1, hj2, hq, HQ⟩ := hrel
    by_cases hlt : 0 ≤ j
    · obtain ⟨A, k, y, b0, b1, b2, b3, b4, b5, b6⟩ := HQ.out
      clear HQ
      obtain ⟨k, rfl⟩ : ∃ k', k = k' + 1 := ⟨k - 1, by omega⟩
      obtain rfl : j = (k : Int) := by omega
      obtain ⟨l, hl2⟩ : ∃ l : Nat, l = other / 2 ^ k % 2 := ⟨_, rfl⟩
      have hl3 : l ≤ 1 := by omega
      have hand := and_bit other k hoth
      rw [← hl2] at hand
      obtain ⟨t, ht⟩ : ∃ t : Nat, t = (1 + l) * 256 + q := ⟨_, rfl⟩
      have htI : (1 + (l : Int)) * 256 + (q : Int) = (t : Int) := by omega
      have hqq : q < 256 := by
        have : 2 * A ≤ 256 := by rw [← b1, Nat.pow_succ, Nat.mul_comm (2 ^ k) 2, ← Nat.mul_assoc, Nat.mul_comm A 2]; exact Nat.le_mul_of_pos_right _ (Nat.two_pow_pos k)
        omega
      have htl : (t : Int) < (len : Int) := by omega
      have HC := hid (bit_any sb db gb (o + t) s y _ b5 (by omega) (by omega))
      have hb := bN_le (bitX y (o + t))
      have HN := (show Hid ((if bN (bitX y (o + t)) = l then likeM o other k (2 * q + bN (bitX y (o + t))) (stepX y (o + t)) else walkM o k (2 * q + bN (bitX y (o + t))) (stepX y (o + t))) = R ∧ (2 * A) * 2 ^ k = 256 ∧ A ≤ q ∧ q < 2 * A ∧ Keep (SD sb db) w wr) from by
        refine ⟨?_, by rw [← b1, Nat.pow_succ, Nat.mul_comm (2 ^ k) 2, ← Nat.mul_assoc, Nat.mul_comm A 2], b2, b3, b6⟩
        rw [← b4, ht, hl2]
        show _ = (bnd (bitM _) _) y
        unfold bnd bitM
        dsimp only
        split <;> rfl)
      clear b1 b2 b3 b4 b5 b6 ht hl2
      generalize stepX y (o + t) = y' at *
      generalize bN (bitX y (o + t)) = bt at *
      go_wp2_with fail
      refine HC.out.mono ?_
      rintro e w1 ⟨rfl, g1, g2⟩
      have HG := (show Hid (Pr w1 sb db gb s y' ∧ Keep (SD sb db) w w1) from ⟨g1, HN.out.2.2.2.2.trans' g2⟩)
      clear g1 g2 HC
      obtain ⟨q', hq'⟩ : ∃ q' : Nat, q' = 2 * q + bt := ⟨_, rfl⟩
      have hqI : 2 * (q : Int) + (bt : Int) = (q' : Int) := by omega
      rw [← hq'] at HN
      have HQ' := hid hq'
      clear hq'
      by_cases hbl : bt = l
      · have hbl2 : ((bt : Int) != (l : Int)) = false := by simp [hbl]
        rw [if_pos hbl] at HN
        clear hbl
        go_wp2_with fail
        go_roundw
        case rel =>
          refine ⟨(k : Int) - 1, q', by go_num, rfl, by omega, by omega, by have := HQ'.out; omega, (show ∃ (A k : Nat) (y : Cx), _ from ⟨2 * A, k, y', by omega, HN.out.2.1, by have := HN.out.2.2.1; have := HQ'.out; omega, by have := HN.out.2.2.2.1; have := HQ'.out; omega, HN.out.1, HG.out.1, HG.out.2⟩)⟩
        case measure => simp [intOf]
      · have hbl2 : ((bt : Int) != (l : Int)) = true := by simp; omega
        rw [if_neg hbl] at HN
        have HW := hid (walk_any sb db gb o len cap k q' (2 * A) 256 s y' w1 HG.out.1 (by have := HN.out.2.2.1; have := HN.out.2.2.2.1; omega) (by have := HN.out.2.2.1; have := HQ'.out; omega) (by have := HN.out.2.2.2.1; have := HQ'.out; omega) HN.out.2.1.symm h8 (by omega) (by omega) h48)
        rw [HN.out.1] at HW
        clear hbl
        go_wp2_with fail
        refine HW.out.mono ?_
        rintro e w2 ⟨rfl, g1, g2, g3, g4⟩
        have HH := (show Hid (256 ≤ R.1 ∧ R.1 < 512 ∧ Pr w2 sb db gb s R.2 ∧ Keep (SD sb db) w w2) from ⟨g1, g2, g3, HG.out.2.trans' g4⟩)
        obtain ⟨z, hz⟩ : ∃ z, z = R.1 - 256 := ⟨_, rfl⟩
        have hr : (z : Int) % 256 = (z : Int) := by omega
        rw [← hz]
        have HZ := hid hz
        clear hz
        clear g1 g2 g3 g4 HW HG
        go_wp2_with fail
        go_ret
        rw [← HZ.out]
        exact ⟨rfl, HH.out⟩
    · obtain ⟨A, k, y, b0, b1, b2, b3, b4, b5, b6⟩ := HQ.out
      clear HQ
      obtain rfl : j = -1 := by omega
      obtain rfl : k = 0 := by omega
      rw [Nat.pow_zero, Nat.mul_one] at b1
      subst b1
      have e : R = (q, y) := b4.symm
      have HW := hid (walk_any sb db gb o len cap 0 q 256 256 s y _ b5 (by omega) b2 b3 rfl h8 (by omega) (by omega) h48)
      rw [show walkM o 0 q y = R from b4] at HW
      have HK := hid b6
      clear b2 b3 b4 b5 b6 e b0
      go_wp2_with fail
      refine HW.out.mono ?_
      rintro e w2 ⟨rfl, g1, g2, g3, g4⟩
      have HH := (show Hid (256 ≤ R.1 ∧ R.1 < 512 ∧ Pr w2 sb db gb s R.2 ∧ Keep (SD sb db) w w2) from ⟨g1, g2, g3, HK.out.trans' g4⟩)
      obtain ⟨z, hz⟩ : ∃ z, z = R.1 - 256 := ⟨_, rfl⟩
      have hr : (z : Int) % 256 = (z : Int) := by omega
      rw [← hz]
      have HZ := hid hz
      clear hz
      clear g1 g2 g3 g4 HW HK
      go_wp2_with fail
      go_ret
      rw [← HZ.out]
      exact ⟨rfl, HH.out⟩

end Go.Proofs.YtnokemcogjoonaaGreatDoor

namespace Go.Proofs.YtnokemcogjoonaaGreatDoor
open Go.RowKit Go.Shelf
set_option linter.unusedVariables false

theorem lenM_eq (L p : Nat) (x : Cx) : lenM L p x = if bN (bitX x L) = 0 then (2 + (readM (L + 2 + p * 8) 3 (stepX x L)).1, (readM (L + 2 + p * 8) 3 (stepX x L)).2) else
    if bN (bitX (stepX x L) (L + 1)) = 0 then (10 + (readM (L + 130 + p * 8) 3 (stepX (stepX x L) (L + 1))).1, (readM (L + 130 + p * 8) 3 (stepX (stepX x L) (L + 1))).2)
    else (18 + (readM (L + 258) 8 (stepX (stepX x L) (L + 1))).1, (readM (L + 258) 8 (stepX (stepX x L) (L + 1))).2) := by
  by_cases h1 : bN (bitX x L) = 0
  · rw [if_pos h1]
    exact bnd_z _ _ _ _ h1
  · rw [if_neg h1]
    by_cases h2 : bN (bitX (stepX x L) (L + 1)) = 0
    · rw [if_pos h2]
      exact (bnd_nz _ _ _ _ h1).trans (bnd_z _ _ _ _ h2)
    · rw [if_neg h2]
      exact (bnd_nz _ _ _ _ h1).trans (bnd_nz _ _ _ _ h2)

set_option maxHeartbeats 1000000 in
theorem length_any (sb db gb L p : Nat) (s : Se) (x : Cx) (w : World) (h : Pr w sb db gb s x) (h8 : 8 ≤ L) (hL : L + 514 ≤ 14143) (hp : p < 16) :
    Calls Tryz.prog 118 #[.pointer (some ⟨sb, L, none⟩), .pointer (some ⟨db, 0, none⟩), .int .i64 (p : Int)] w fun e w' =>
      e = .returned (.int .i64 (((lenM L p x).1 : Nat) : Int)) ∧ 2 ≤ (lenM L p x).1 ∧ (lenM L p x).1 ≤ 273 ∧ Pr w' sb db gb s (lenM L p x).2 ∧ Keep (SD sb db) w w' := by
  have HE := hid (lenM_eq L p x)
  have H1 := hid (bit_any sb db gb L s x w h h8 (by omega))
  have H2 := hid (fun W H => bit_any sb db gb (L + 1) s (stepX x L) W H (by omega) (by omega))
  have H3 := hid (fun W H => read3 sb db gb (L + 2 + p * 8) 8 8 s (stepX x L) W H (by omega) (by omega) (by omega) (by decide))
  have H4 := hid (fun W H => read3 sb db gb (L + 130 + p * 8) 8 8 s (stepX (stepX x L) (L + 1)) W H (by omega) (by omega) (by omega) (by decide))
  have H5 := hid (fun W H => read8 sb db gb (L + 258) 256 256 s (stepX (stepX x L) (L + 1)) W H (by omega) (by omega) (by omega) (by decide))
  clear h
  generalize lenM L p x = R at *
  generalize stepX (stepX x L) (L + 1) = y2 at *
  generalize hy1 : stepX x L = y1 at *
  clear hy1
  generalize bitX x L = t1 at *
  generalize bitX y1 (L + 1) = t2 at *
  generalize readM (L + 2 + p * 8) 3 y1 = V1 at *
  generalize readM (L + 130 + p * 8) 3 y2 = V2 at *
  generalize readM (L + 258) 8 y2 = V3 at *
  have hpI : (p : Int) < 16 := by omega
  go_enter Tryz.func118, Tryz.ntmps118
  go_wp2_with fail
  refine H1.out.mono ?_
  rintro e w1 ⟨rfl, g1, g2⟩
  have HG := (show Hid (Pr w1 sb db gb s y1 ∧ Keep (SD sb db) w w1) from ⟨g1, g2⟩)
  clear g1 g2 H1
  cases t1 with
  | false =>
    rw [show bN false = 0 from rfl] at HE ⊢
    rw [if_pos rfl] at HE
    rw [show (((0 : Nat) : Int)) = (0 : Int) from rfl]
    go_wp2_with fail
    refine (H3.out _ HG.out.1).mono ?_
    rintro e w2 ⟨rfl, g1, g2, g3⟩
    have HH := (show Hid (R.1 = 2 + V1.1 ∧ Pr w2 sb db gb s R.2 ∧ Keep (SD sb db) w w2) from by rw [HE.out]; exact ⟨rfl, g2, HG.out.2.trans' g3⟩)
    clear g2 g3 HE HG H2 H3 H4 H5
    generalize V1.1 = z at *
    go_wp2_with fail
    go_ret
    rw [HH.out.1]
    refine ⟨?_, by omega, by omega, HH.out.2⟩
    go_num
  | true =>
    rw [show bN true = 1 from rfl] at HE ⊢
    rw [if_neg (by decide)] at HE
    rw [show (((1 : Nat) : Int)) = (1 : Int) from rfl]
    go_wp2_with fail
    refine (H2.out _ HG.out.1).mono ?_
    rintro e w2 ⟨rfl, g1, g2⟩
    have HG2 := (show Hid (Pr w2 sb db gb s y2 ∧ Keep (SD sb db) w w2) from ⟨g1, HG.out.2.trans' g2⟩)
    clear g1 g2 HG H2
    cases t2 with
    | false =>
      rw [show bN false = 0 from rfl] at HE ⊢
      rw [if_pos rfl] at HE
      rw [show (((0 : Nat) : Int)) = (0 : Int) from rfl]
      go_wp2_with fail
      refine (H4.out _ HG2.out.1).mono ?_
      rintro e w3 ⟨rfl, g1, g2, g3⟩
      have HH := (show Hid (R.1 = 10 + V2.1 ∧ Pr w3 sb db gb s R.2 ∧ Keep (SD sb db) w w3) from by rw [HE.out]; exact ⟨rfl, g2, HG2.out.2.trans' g3⟩)
      clear g2 g3 HE HG2 H3 H4 H5
      generalize V2.1 = z at *
      go_wp2_with fail
      go_ret
      rw [HH.out.1]
      refine ⟨?_, by omega, by omega, HH.out.2⟩
      go_num
    | true =>
      rw [show bN true = 1 from rfl] at HE ⊢
      rw [if_neg (by decide)] at HE
      rw [show (((1 : Nat) : Int)) = (1 : Int) from rfl]
      go_wp2_with fail
      refine (H5.out _ HG2.out.1).mono ?_
      rintro e w3 ⟨rfl, g1, g2, g3⟩
      have HH := (show Hid (R.1 = 18 + V3.1 ∧ Pr w3 sb db gb s R.2 ∧ Keep (SD sb db) w w3) from by rw [HE.out]; exact ⟨rfl, g2, HG2.out.2.trans' g3⟩)
      clear g2 g3 HE HG2 H3 H4 H5
      generalize V3.1 = z at *
      go_wp2_with fail
      go_ret
      rw [HH.out.1]
      refine ⟨?_, by omega, by omega, HH.out.2⟩
      go_num

theorem distM_eq (len : Nat) (x : Cx) (s : Nat) (y : Cx) (h : readM (13756 + (min len 5 - 2) * 64) 6 x = (s, y)) : distM len x = if s < 4 then (s, y) else
    if s < 14 then ((2 + s % 2) * 2 ^ (s / 2 - 1) + (backM (14012 + ((2 + s % 2) * 2 ^ (s / 2 - 1) - s)) (s / 2 - 1) 0 1 0 y).1, (backM (14012 + ((2 + s % 2) * 2 ^ (s / 2 - 1) - s)) (s / 2 - 1) 0 1 0 y).2)
    else ((2 + s % 2) * 2 ^ (s / 2 - 1) + (dirD (s / 2 - 1 - 4) y.d 0).2 * 16 + (backM 14127 4 0 1 0 ⟨y.c, (dirD (s / 2 - 1 - 4) y.d 0).1⟩).1, (backM 14127 4 0 1 0 ⟨y.c, (dirD (s / 2 - 1 - 4) y.d 0).1⟩).2) := by
  by_cases h1 : s < 4
  · simp only [distM, bnd, ret, h, h1, if_true]
  · by_cases h2 : s < 14
    · simp only [distM, bnd, ret, h, h1, h2, if_true, if_false]
    · simp only [distM, bnd, ret, dirM, h, h1, h2, if_false]

/-- The sizes of slots, by looking at each. -/
theorem slot_bd (s : Nat) (h4 : ¬ s < 4) (h : s < 64) : s / 2 - 1 ≤ 30 ∧ 1 ≤ s / 2 - 1 ∧ (2 + s % 2) * 2 ^ (s / 2 - 1) + 2 ^ (s / 2 - 1) ≤ 4294967296 ∧
    (s < 14 → s ≤ (2 + s % 2) * 2 ^ (s / 2 - 1) ∧ (2 + s % 2) * 2 ^ (s / 2 - 1) - s + 2 ^ (s / 2 - 1) ≤ 115 ∧ s / 2 - 1 ≤ 5) ∧ (¬ s < 14 → 6 ≤ s / 2 - 1) := by
  have : ∀ s : Fin 64, ¬ s.val < 4 → s.val / 2 - 1 ≤ 30 ∧ 1 ≤ s.val / 2 - 1 ∧ (2 + s.val % 2) * 2 ^ (s.val / 2 - 1) + 2 ^ (s.val / 2 - 1) ≤ 4294967296 ∧
    (s.val < 14 → s.val ≤ (2 + s.val % 2) * 2 ^ (s.val / 2 - 1) ∧ (2 + s.val % 2) * 2 ^ (s.val / 2 - 1) - s.val + 2 ^ (s.val / 2 - 1) ≤ 115 ∧ s.val / 2 - 1 ≤ 5) ∧ (¬ s.val < 14 → 6 ≤ s.val / 2 - 1) := by decide
  exact this ⟨s, h⟩ h4

theorem wraps_i64 (n : Int) (h₀ : 0 ≤ n) (h₁ : n < 2 ^ 63) : IntKind.i64.wrap n = n := by rw [IntKind.wrap_i64]; omega
section
attribute [local go_sem] minSem_eq
set_option maxHeartbeats 1000000 in
theorem distance_any (sb db gb len : Nat) (s : Se) (x : Cx) (w : World) (h : Pr w sb db gb s x) (h2 : 2 ≤ len) (h3 : len ≤ 273) :
    Calls Tryz.prog 120 #[.pointer (some ⟨sb, 13756, none⟩), .pointer (some ⟨db, 0, none⟩), .int .i64 (len : Int)] w fun e w' =>
      e = .returned (.int .u32 (((distM len x).1 : Nat) : Int)) ∧ (distM len x).1 < 4294967296 ∧ Pr w' sb db gb s (distM len x).2 ∧ Keep (SD sb db) w w' := by
  obtain ⟨m, hm⟩ : ∃ m : Nat, m = min len 5 := ⟨_, rfl⟩
  obtain ⟨q, hq⟩ : ∃ q : Nat, q = min len 5 - 2 := ⟨_, rfl⟩
  have hmin := minSem_run .i64 #[3, 3] 3 (len : Int) 5 (m : Int) (by omega)
  have hqI : (m : Int) - 2 = (q : Int) := by omega
  have hq4 : q < 4 := by omega
  have hq4I : (q : Int) < 4 := by omega
  have HE := hid (distM_eq len x)
  rw [← hq] at HE
  have H1 := hid (read6 sb db gb (13756 + q * 64) 64 64 s x w h (by omega) (by omega) (by omega) (by decide))
  clear h hm hq
  generalize readM (13756 + q * 64) 6 x = V at *
  obtain ⟨sl, y⟩ := V
  have HE := hid (HE.out sl y rfl)
  generalize distM len x = R at *
  go_enter Tryz.func120, Tryz.ntmps120
  go_wp2_with fail
  refine H1.out.mono ?_
  rintro e w1 ⟨rfl, g1, g2, g3⟩
  have HG := (show Hid (Pr w1 sb db gb s y ∧ Keep (SD sb db) w w1) from ⟨g2, g3⟩)
  clear g2 g3 H1
  by_cases h4 : sl < 4
  · have h4I : (sl : Int) < 4 := by omega
    rw [if_pos h4] at HE
    have HR := hid HE.out
    clear HE
    have hsl : (sl : Int) % 4294967296 = (sl : Int) := by omega
    go_wp2_with fail
    go_ret
    rw [HR.out]
    exact ⟨rfl, by show sl < _; omega, HG.out⟩
  · rw [if_neg h4] at HE
    have h4I : ¬ (sl : Int) < 4 := by omega
    obtain ⟨k1, k2, k3, k4, k5⟩ := slot_bd sl h4 g1
    obtain ⟨k, hk⟩ : ∃ k : Nat, k = sl / 2 - 1 := ⟨_, rfl⟩
    obtain ⟨hf, hhf⟩ : ∃ hf : Nat, hf = sl / 2 := ⟨_, rfl⟩
    obtain ⟨l, hl⟩ : ∃ l : Nat, l = sl % 2 := ⟨_, rfl⟩
    obtain ⟨l2, hl2⟩ : ∃ l2 : Nat, l2 = 2 + l := ⟨_, rfl⟩
    obtain ⟨base, hbase⟩ : ∃ base : Nat, base = l2 * 2 ^ k := ⟨_, rfl⟩
    rw [← hk, ← hl, ← hl2, ← hbase] at HE k3 k4
    rw [← hk] at k1 k2 k5
    have i1 : (sl : Int) / 2 = (hf : Int) := by omega
    have i2 : (hf : Int) - 1 = (k : Int) := by omega
    have i3 : bits .and .i64 (sl : Int) 1 = (l : Int) := (bits_mask .i64 63 (by decide) wraps_i64 1 (by decide) (sl : Int) (by omega) (by omega)).trans (by omega)
    have i4 : 2 + (l : Int) = (l2 : Int) := by omega
    have i5 : (l2 : Int) % 4294967296 = (l2 : Int) := by omega
    have i6 : (l2 : Int) * 2 ^ k = (base : Int) := by
      rw [show (l2 : Int) * 2 ^ k = ((l2 * 2 ^ k : Nat) : Int) from by simp, ← hbase]
    have hbl : base < 4294967296 := by
      have := Nat.two_pow_pos k
      omega
    clear hk hhf hl hl2 hbase
    by_cases h14 : sl < 14
    · have h14I : (sl : Int) < 14 := by omega
      rw [if_pos h14] at HE
      obtain ⟨k4, k6, k7⟩ := k4 h14
      obtain ⟨t, ht⟩ : ∃ t : Nat, t = base - sl := ⟨_, rfl⟩
      have i7 : (base : Int) - (sl : Int) = (t : Int) := by omega
      have hp := Nat.two_pow_pos k
      have i8 : t + 2 ^ k ≤ 115 := by rw [ht]; exact k6
      have i9 : (t : Int) ≤ 115 := by generalize 2 ^ k = P at *; omega
      have HT := hid ht
      clear ht
      have HB := hid (backwards_any sb db gb (14012 + t) (115 - t) (115 - t) k s y w1 HG.out.1 (by omega) (by omega) (by generalize 2 ^ k = P at *; omega) (by generalize 2 ^ k = P at *; omega) (by omega))
      have HE2 := HE.out
      rw [← HT.out] at HE2
      have HE2 := hid HE2
      clear HE
      generalize backM (14012 + t) k 0 1 0 y = V at *
      go_wp2_with fail
      refine HB.out.mono ?_
      rintro e w2 ⟨rfl, g1, g2, g3⟩
      have HH := (show Hid (R.1 = base + V.1 ∧ Pr w2 sb db gb s R.2 ∧ Keep (SD sb db) w w2) from by rw [HE2.out]; exact ⟨rfl, g2, HG.out.2.trans' g3⟩)
      have i10 : base + V.1 < 4294967296 := by generalize 2 ^ k = P at *; omega
      clear g1 g2 g3 HE2 HG HB
      generalize V.1 = z at *
      go_wp2_with fail
      go_ret
      rw [HH.out.1]
      refine ⟨?_, i10, HH.out.2⟩
      go_num
    · have h14I : ¬ (sl : Int) < 14 := by omega
      rw [if_neg h14] at HE
      have k6 := k5 h14
      clear k4 k5
      have HD := hid (direct_any db gb ((k : Int) - 4) y.d w1 HG.out.1.de)
      rw [show bitsN ((k : Int) - 4) = k - 4 from by unfold bitsN; omega] at HD
      have hlt := dirD_lt (k - 4) y.d 0 0 (by decide)
      rw [Nat.zero_add] at hlt
      have hpp : 2 ^ k = 2 ^ (k - 4) * 16 := by rw [show (16 : Nat) = 2 ^ 4 from rfl, ← Nat.pow_add]; congr 1; omega
      generalize dirD (k - 4) y.d 0 = V at *
      obtain ⟨d2, hi⟩ := V
      dsimp only at HD HE hlt
      obtain ⟨h16, hh⟩ : ∃ h16 : Nat, h16 = hi * 16 := ⟨_, rfl⟩
      have j1 : (hi : Int) * 16 = (h16 : Int) := by omega
      rw [← hh] at HE
      have j2 : base + h16 + 16 ≤ 4294967296 := by generalize 2 ^ (k - 4) = P at *; omega
      obtain ⟨bh, hbh⟩ : ∃ bh : Nat, bh = base + h16 := ⟨_, rfl⟩
      have j3 : (base : Int) + (h16 : Int) = (bh : Int) := by omega
      have j4 : bh + 16 ≤ 4294967296 := by omega
      rw [← hbh] at HE
      have hp := Nat.two_pow_pos (k - 4)
      have j5 : h16 < 4294967296 := by omega
      have j6 : hi < 4294967296 := by omega
      clear hh hbh hlt hpp hp k3
      go_wp2_with fail
      refine HD.out.mono ?_
      rintro e w2 ⟨rfl, g1, g2⟩
      have hP2 : Pr w2 sb db gb s ⟨y.c, d2⟩ := ⟨HG.out.1.st.keep g2 (fun e => HG.out.1.sd e), g1, HG.out.1.ne⟩
      have HB := hid (backwards_any sb db gb 14127 16 16 4 s ⟨y.c, d2⟩ w2 hP2 (by omega) (by omega) (by decide) (by decide) (by decide))
      have HK := (show Hid (Keep (SD sb db) w w2) from HG.out.2.trans' (g2.mono (fun _ _ e => .inl e)))
      clear g1 g2 hP2 HD HG
      generalize backM 14127 4 0 1 0 ⟨y.c, d2⟩ = V at *
      rw [show (2 : Nat) ^ 4 = 16 from rfl] at HB
      rw [show (((4 : Nat) : Int)) = (4 : Int) from rfl] at HB
      go_wp2_with fail
      refine HB.out.mono ?_
      rintro e w3 ⟨rfl, g1, g2, g3⟩
      have HH := (show Hid (R.1 = bh + V.1 ∧ Pr w3 sb db gb s R.2 ∧ Keep (SD sb db) w w3) from by rw [HE.out]; exact ⟨rfl, g2, HK.out.trans' g3⟩)
      have i10 : bh + V.1 < 4294967296 := by omega
      clear g1 g2 g3 HE HK HB
      generalize V.1 = z at *
      go_wp2_with fail
      go_ret
      rw [HH.out.1]
      refine ⟨?_, i10, HH.out.2⟩
      go_num
end

end Go.Proofs.YtnokemcogjoonaaGreatDoor

namespace Go.Proofs.YtnokemcogjoonaaGreatDoor
open Go.RowKit Go.Shelf
set_option linter.unusedVariables false

/-- Two numbers in one. -/
def both (now most : Nat) : Nat := most * 4294967296 + now
theorem both_lt {now most : Nat} (h1 : now ≤ 16777216) (h2 : most ≤ 16777216) : both now most < 18446744073709551616 := by unfold both; omega
theorem both_and {now most : Nat} (h1 : now ≤ 16777216) (h2 : most ≤ 16777216) : bits .and .u64 ((both now most : Nat) : Int) 4294967295 = (now : Int) := by
  rw [show (4294967295 : Int) = ((4294967295 : Nat) : Int) from rfl, u64_and_nat _ _ (both_lt h1 h2) (by decide), show (4294967295 : Nat) = 2 ^ 32 - 1 from rfl, Nat.and_two_pow_sub_one_eq_mod]
  congr 1
  unfold both
  omega
theorem both_shr {now most : Nat} (h1 : now ≤ 16777216) : ((both now most : Nat) : Int) / 4294967296 = (most : Int) := by
  unfold both
  omega
theorem both_or {now most : Nat} (h1 : now ≤ 16777216) (h2 : most ≤ 16777216) : bits .or .u64 ((most : Int) * 4294967296) (now : Int) = ((both now most : Nat) : Int) := by
  have e : ((most : Int) * 4294967296) = ((most * 4294967296 : Nat) : Int) := by omega
  rw [e, u64_or_nat _ _ (by omega) (by omega), nat_join 32 _ _ (by omega) (by omega)]
  rfl

def maxSem6 (ats : Array TypeId) (ty : TypeId) (args : Array Value) : Sem Value := Builtin.max_ ats ty args
theorem maxSem6_eq (ats : Array TypeId) (ty : TypeId) (args : Array Value) : Builtin.max_ ats ty args = maxSem6 ats ty args := rfl
theorem maxSem6_run (ats : Array TypeId) (ty : TypeId) (a b c : Int) (h : c = max a b) (w : World) : (maxSem6 ats ty #[.int .i64 a, .int .i64 b]).run Tryz.prog w = .ok (.int .i64 c) w := by
  have e : (maxSem6 ats ty #[.int .i64 a, .int .i64 b]) = pure (.int .i64 (if b > a then b else a)) := rfl
  rw [e, h, show max a b = (if b > a then b else a) from by split <;> omega]
  rfl
def minSem6 (ats : Array TypeId) (ty : TypeId) (args : Array Value) : Sem Value := Builtin.min_ ats ty args
theorem minSem6_eq (ats : Array TypeId) (ty : TypeId) (args : Array Value) : Builtin.min_ ats ty args = minSem6 ats ty args := rfl
theorem minSem6_run (ats : Array TypeId) (ty : TypeId) (a b c : Int) (h : c = min a b) (w : World) : (minSem6 ats ty #[.int .i64 a, .int .i64 b]).run Tryz.prog w = .ok (.int .i64 c) w := by
  have e : (minSem6 ats ty #[.int .i64 a, .int .i64 b]) = pure (.int .i64 (if b < a then b else a)) := rfl
  rw [e, h, show min a b = (if b < a then b else a) from by split <;> omega]
  rfl

/-- Block lb is a ledger: its budget, what is held, the most that ever was. -/
structure IsL (w : World) (lb B now most : Nat) : Prop where
  obj : w.heap[lb]? = some (.cells #[.int .i64 (B : Int), .int .u64 ((both now most : Nat) : Int)] 122 (0, 0))
  le : now ≤ most
  in_ : most ≤ B
  top : B ≤ 16777216
theorem IsL.keep {w w' : World} {S : Nat → Prop} {lb B now most : Nat} (h : IsL w lb B now most) (hk : Keep S w w') (h1 : ¬ S lb) : IsL w' lb B now most := ⟨hk.obj h.obj h1, h.le, h.in_, h.top⟩
theorem IsL.drewN {w : World} {lb B now most : Nat} (h : IsL w lb B now most) (n : Nat) : IsL (w.drewN n) lb B now most := ⟨h.obj, h.le, h.in_, h.top⟩
theorem keep_drewN (w : World) (n : Nat) : Keep noBlock w (w.drewN n) := ⟨rfl, rfl, rfl, Nat.le_refl _, fun _ _ _ => rfl⟩

/-- A budget, brought in. -/
def budget (x : Int) : Nat := (min (max x 0) 16777216).toNat

section
attribute [local go_sem] maxSem6_eq minSem6_eq
set_option maxHeartbeats 400000 in
theorem new_any (x : Int) (w : World) :
    Calls Tryz.prog 20 #[.int .i64 x] w fun e w' => e = .returned (.pointer (some ⟨w.heap.size, 0, none⟩)) ∧ IsL w' w.heap.size (budget x) 0 0 ∧ Keep noBlock w w' := by
  obtain ⟨X, hX⟩ : ∃ X : Int, X = max x 0 := ⟨_, rfl⟩
  obtain ⟨B, hB⟩ : ∃ B : Nat, B = budget x := ⟨_, rfl⟩
  have hB2 : (B : Int) = min X 16777216 := by rw [hB, hX]; unfold budget; omega
  have hB3 : B ≤ 16777216 := by omega
  rw [← hB]
  have hmax := maxSem6_run #[3, 3] 3 x 0 X hX
  have hmin := minSem6_run #[3, 3] 3 X 16777216 B hB2
  clear hX hB hB2
  go_enter Tryz.func20, Tryz.ntmps20
  go_wp2_with fail
  go_ret
  exact ⟨rfl, ⟨alloc_new w _, Nat.le_refl _, Nat.zero_le _, hB3⟩, (Keep.refl _ w).alloc _⟩
end

set_option maxHeartbeats 400000 in
theorem load_any (b off : Nat) (x : Int) (w : World) (hc : w.cell? ⟨b, off, none⟩ = some (.int .u64 x)) (hf : w.frozen? ⟨b, off, none⟩ = false) :
    Calls Tryz.prog 58 #[.pointer (some ⟨b, off, none⟩)] w fun e w' => e = .returned (.int .u64 x) ∧ w' = w := by
  have hl := run_call_load (P := Tryz.prog) Tryz.func87 (by kernel_rfl) (by kernel_rfl) (by kernel_rfl) .u64 (by kernel_rfl) hc
  go_enter Tryz.func58, Tryz.ntmps58
  go_wp2_with fail
  go_ret
  exact ⟨rfl, rfl⟩

set_option maxHeartbeats 400000 in
theorem cas_hit (b off : Nat) (x y : Int) (w : World) (hc : w.cell? ⟨b, off, none⟩ = some (.int .u64 x)) (hf : w.frozen? ⟨b, off, none⟩ = false) :
    Calls Tryz.prog 60 #[.pointer (some ⟨b, off, none⟩), .int .u64 x, .int .u64 y] w fun e w' => e = .returned (.bool true) ∧ w' = w.setCell ⟨b, off, none⟩ (.int .u64 y) := by
  have hl := run_call_cas_hit (P := Tryz.prog) Tryz.func88 (by kernel_rfl) (by kernel_rfl) (by kernel_rfl) .u64 (by kernel_rfl) (y := y) hc hf
  go_enter Tryz.func60, Tryz.ntmps60
  go_wp2_with fail
  go_ret
  exact ⟨rfl, rfl⟩

set_option maxHeartbeats 400000 in
theorem split_any (now most : Nat) (h1 : now ≤ 16777216) (h2 : most ≤ 16777216) (w : World) :
    Calls Tryz.prog 59 #[.int .u64 ((both now most : Nat) : Int)] w fun e w' => e = .returned (.tuple #[.int .i64 (now : Int), .int .i64 (most : Int)]) ∧ w' = w := by
  have e1 := both_and h1 h2
  have e2 := both_shr (most := most) h1
  have e3 := both_lt h1 h2
  go_enter Tryz.func59, Tryz.ntmps59
  go_wp2_with fail
  go_ret2
  exact ⟨rfl, rfl⟩

set_option maxHeartbeats 400000 in
theorem join_any (now most : Nat) (h1 : now ≤ 16777216) (h2 : most ≤ 16777216) (w : World) :
    Calls Tryz.prog 61 #[.int .i64 (now : Int), .int .i64 (most : Int)] w fun e w' => e = .returned (.int .u64 ((both now most : Nat) : Int)) ∧ w' = w := by
  have e1 := both_or h1 h2
  go_enter Tryz.func61, Tryz.ntmps61
  go_wp2_with fail
  go_ret
  exact ⟨rfl, rfl⟩

end Go.Proofs.YtnokemcogjoonaaGreatDoor

namespace Go.Proofs.YtnokemcogjoonaaGreatDoor
open Go.RowKit Go.Shelf
set_option linter.unusedVariables false

theorem IsL.now_top {w : World} {lb B now most : Nat} (h : IsL w lb B now most) : now ≤ 16777216 ∧ most ≤ 16777216 := by
  have := h.le; have := h.in_; have := h.top; omega
/-- What a swap leaves. -/
theorem IsL.swap {w : World} {lb B now most : Nat} (h : IsL w lb B now most) {now' most' : Nat} (h1 : now' ≤ most') (h2 : most' ≤ B) :
    IsL (w.setCell ⟨lb, 1, none⟩ (.int .u64 ((both now' most' : Nat) : Int))) lb B now' most' ∧ Keep (fun k => k = lb) w (w.setCell ⟨lb, 1, none⟩ (.int .u64 ((both now' most' : Nat) : Int))) :=
  ⟨⟨(set_obj h.obj 1 _).trans (by simp), h1, h2, h.top⟩, (Keep.refl (fun k => k = lb) w).setCell (p := ⟨lb, 1, none⟩) (fun _ => rfl) _⟩


set_option maxHeartbeats 400000 in
theorem charge_nil (n : Int) (w : World) : Calls Tryz.prog 32 #[.pointer none, .int .i64 n] w fun e w' => e = .returned (.int .i64 1) ∧ w' = w := by
  go_enter Tryz.func32, Tryz.ntmps32
  go_wp2_with fail
  go_ret
  exact ⟨rfl, rfl⟩
set_option maxHeartbeats 400000 in
theorem charge_arg (lb : Nat) (n : Int) (hn : n < 0) (w : World) : Calls Tryz.prog 32 #[.pointer (some ⟨lb, 0, none⟩), .int .i64 n] w fun e w' => e = .returned (.int .i64 2) ∧ w' = w := by
  go_enter Tryz.func32, Tryz.ntmps32
  go_wp2_with fail
  go_ret
  exact ⟨rfl, rfl⟩

set_option maxHeartbeats 1000000 in
/-- Charge of more than there is room. -/
theorem charge_over (lb B now most n : Nat) (hn : B < now + n) (w : World) (h : IsL w lb B now most) :
    Calls Tryz.prog 32 #[.pointer (some ⟨lb, 0, none⟩), .int .i64 (n : Int)] w fun e w' => e = .returned (.int .i64 40) ∧ w' = w := by
  obtain ⟨h1, h2⟩ := h.now_top
  have htop := h.top
  have hc0 : w.cell? ⟨lb, 0, none⟩ = some (.int .i64 (B : Int)) := cell_of h.obj 0
  have hc : w.cell? ⟨lb, 1, none⟩ = some (.int .u64 ((both now most : Nat) : Int)) := cell_of h.obj 1
  have hf := frozen_of h.obj 1
  have hn0 : ¬ (n : Int) < 0 := by omega
  have hlt : (B : Int) - now < n := by omega
  go_enter Tryz.func32, Tryz.ntmps32
  go_wp2_with fail
  refine wp_loop_rounds 1 ?_
  rw [rounds_succ]
  go_wp2_with fail
  refine (load_any lb 1 _ _ hc hf).mono ?_
  rintro e w1 ⟨rfl, rfl⟩
  go_wp2_with fail
  refine (split_any now most h1 h2 _).mono ?_
  rintro e w2 ⟨rfl, rfl⟩
  go_wp2_with fail
  go_ret
  exact ⟨rfl, rfl⟩

theorem keep_drew' {S : Nat → Prop} (w : World) (n : Nat) : Keep S w (w.drewN n) := ⟨rfl, rfl, rfl, Nat.le_refl _, fun _ _ _ => rfl⟩
theorem wrap_sub (now n : Nat) (h1 : now ≤ 16777216) (h2 : n ≤ now) : IntKind.i64.wrap ((now : Int) - n) = ((now - n : Nat) : Int) := by
  rw [IntKind.wrap_i64]
  omega
theorem join_i (now most : Nat) (ni : Int) (en : ni = (now : Int)) (h1 : now ≤ 16777216) (h2 : most ≤ 16777216) (w : World) :
    Calls Tryz.prog 61 #[.int .i64 ni, .int .i64 (most : Int)] w fun e w' => e = .returned (.int .u64 ((both now most : Nat) : Int)) ∧ w' = w := by
  subst en; exact join_any now most h1 h2 w

section
attribute [local go_sem] maxSem6_eq minSem6_eq
set_option maxHeartbeats 2000000 in
/-- Charge. -/
theorem charge_ok (lb B now most n : Nat) (hn : now + n ≤ B) (w : World) (h : IsL w lb B now most) :
    Calls Tryz.prog 32 #[.pointer (some ⟨lb, 0, none⟩), .int .i64 (n : Int)] w fun e w' => e = .returned (.int .i64 0) ∧ IsL w' lb B (now + n) (max (now + n) most) ∧ Keep (fun k => k = lb) w w' := by
  obtain ⟨h1, h2⟩ := h.now_top
  have htop := h.top
  have hin := h.in_
  have hc0 : w.cell? ⟨lb, 0, none⟩ = some (.int .i64 (B : Int)) := cell_of h.obj 0
  have hc : w.cell? ⟨lb, 1, none⟩ = some (.int .u64 ((both now most : Nat) : Int)) := cell_of h.obj 1
  have hf := frozen_of h.obj 1
  have hn0 : ¬ (n : Int) < 0 := by omega
  have hlt : ¬ (B : Int) - now < n := by omega
  obtain ⟨m', hm'⟩ : ∃ m' : Nat, m' = max (now + n) most := ⟨_, rfl⟩
  have hmax := maxSem6_run #[3, 3] 3 ((now : Int) + n) most (m' : Int) (by omega)
  have h3 : now + n ≤ 16777216 := by omega
  have h4 : m' ≤ 16777216 := by omega
  have h5 : now + n ≤ m' := by omega
  have h6 : m' ≤ B := by omega
  rw [← hm']
  clear hm'
  go_enter Tryz.func32, Tryz.ntmps32
  go_wp2_with fail
  refine wp_loop_rounds 1 ?_
  rw [rounds_succ]
  go_wp2_with fail
  refine (load_any lb 1 _ _ hc hf).mono ?_
  rintro e w1 ⟨rfl, rfl⟩
  go_wp2_with fail
  refine (split_any now most h1 h2 _).mono ?_
  rintro e w2 ⟨rfl, rfl⟩
  obtain ⟨hI, hK⟩ := (h.drewN 1).swap h5 h6
  go_wp2_with fail
  go_region_with (first | (go_at_call 61; refine (join_i (now + n) m' _ ?_ h3 h4 _).mono ?_; omega; rintro e w3 ⟨rfl, rfl⟩) | (go_at_call 60; refine (cas_hit lb 1 _ _ _ ?_ ?_).mono ?_; exact hc; exact hf; rintro e w4 ⟨rfl, rfl⟩))
  go_wp2_with fail
  go_ret
  exact ⟨rfl, hI, (keep_drew' _ 1).trans' hK⟩
end

section

end

/-- What Charge(n) answers, what is held then, the most. -/
def chargeAns (B now most : Nat) (n : Int) : Int × Nat × Nat :=
  if n < 0 then (2, now, most) else if B < now + n.toNat then (40, now, most) else (0, now + n.toNat, max (now + n.toNat) most)

theorem charge_any (lb B now most : Nat) (n : Int) (w : World) (h : IsL w lb B now most) :
    Calls Tryz.prog 32 #[.pointer (some ⟨lb, 0, none⟩), .int .i64 n] w fun e w' => e = .returned (.int .i64 (chargeAns B now most n).1) ∧ IsL w' lb B (chargeAns B now most n).2.1 (chargeAns B now most n).2.2 ∧ Keep (fun k => k = lb) w w' := by
  unfold chargeAns
  by_cases h0 : n < 0
  · rw [if_pos h0]
    refine (charge_arg lb n h0 w).mono ?_
    rintro e w' ⟨rfl, rfl⟩
    exact ⟨rfl, h, Keep.refl _ _⟩
  · rw [if_neg h0]
    obtain ⟨m, rfl⟩ : ∃ m : Nat, n = (m : Int) := ⟨n.toNat, by omega⟩
    rw [Int.toNat_natCast]
    by_cases h1 : B < now + m
    · rw [if_pos h1]
      refine (charge_over lb B now most m h1 w h).mono ?_
      rintro e w' ⟨rfl, rfl⟩
      exact ⟨rfl, h, Keep.refl _ _⟩
    · rw [if_neg h1]
      exact charge_ok lb B now most m (by omega) w h


/-- The same, the answer worked out. -/
theorem charge_i (lb B now most : Nat) (n r : Int) (now' most' : Nat) (ha : chargeAns B now most n = (r, now', most')) (w : World) (h : IsL w lb B now most) :
    Calls Tryz.prog 32 #[.pointer (some ⟨lb, 0, none⟩), .int .i64 n] w fun e w' => e = .returned (.int .i64 r) ∧ IsL w' lb B now' most' ∧ Keep (fun k => k = lb) w w' := by
  have := charge_any lb B now most n w h
  rw [ha] at this
  exact this

end Go.Proofs.YtnokemcogjoonaaGreatDoor

namespace Go.Proofs.YtnokemcogjoonaaGreatDoor
open Go.RowKit Go.Shelf
set_option linter.unusedVariables false





theorem run_low (a : Option Addr) (len cap k : Nat) (h1 : k ≤ len) (w : World) :
    (sliceSem 22 (.slice a len cap) (some (.int .i64 (k : Int))) none none).run Tryz.prog w = .ok (.slice (if cap = k then a else a.map (fun x => x.add k)) (len - k) (cap - k)) w := by
  obtain ⟨i0, hi, hz0, hz1, hz2⟩ := info_parts info5
  simp [sliceSem, Instr.slice, run_underlying Tryz.underlying22, Instr.sliceBounds, Instr.sliceBound, asIntOf, h1, sizeOf, typeInfo, hi, hz1]
theorem run_high (a : Option Addr) (len cap k : Nat) (h1 : k ≤ cap) (w : World) :
    (sliceSem 22 (.slice a len cap) none (some (.int .i64 (k : Int))) none).run Tryz.prog w = .ok (.slice a k cap) w := by
  obtain ⟨i0, hi, hz0, hz1, hz2⟩ := info_parts info5
  have e : (if cap = 0 then a else a.map (fun x => x.add 0)) = a := by
    split
    · rfl
    · cases a <;> simp [Addr.add]
  simp [sliceSem, Instr.slice, run_underlying Tryz.underlying22, Instr.sliceBounds, Instr.sliceBound, asIntOf, h1, sizeOf, typeInfo, hi, e]






end Go.Proofs.YtnokemcogjoonaaGreatDoor

namespace Go.Proofs.YtnokemcogjoonaaGreatDoor
open Go.RowKit Go.Shelf
set_option linter.unusedVariables false

/-- Block wb is a window: its size, its ledger, its ring. -/
structure IsR (w : World) (wb lb s : Nat) (rv : Value) (R : List Nat) (o : Nat) : Prop where
  obj : w.heap[wb]? = some (.cells #[.int .i64 (s : Int), .pointer (some ⟨lb, 0, none⟩), rv, .int .i64 (o : Int)] 114 (0, 0))
  own : w.ownsRow 0 5 1 rv R.length (u8s R)
  lt : ∀ j : Nat, R[j]?.getD 0 < 256
  s1 : 1 ≤ s
  s2 : s ≤ 16777216
  le : R.length ≤ s
  o_ : o < s
  rd : o = 0 ∨ R.length = s
theorem IsR.keep {w w' : World} {S : Nat → Prop} {wb lb s o : Nat} {rv : Value} {R : List Nat} (h : IsR w wb lb s rv R o) (hk : Keep S w w') (h1 : ¬ S wb) (h2 : ∀ g, rv.ownBlock = some g → ¬ S g) : IsR w' wb lb s rv R o :=
  ⟨hk.obj h.obj h1, owns_kept h.own hk h2, h.lt, h.s1, h.s2, h.le, h.o_, h.rd⟩
theorem IsR.drewN {w : World} {wb lb s o : Nat} {rv : Value} {R : List Nat} (h : IsR w wb lb s rv R o) (n : Nat) : IsR (w.drewN n) wb lb s rv R o :=
  h.keep (keep_drewN w n) (fun h => h) (fun _ _ h => h)
theorem IsR.form {w : World} {wb lb s o : Nat} {rv : Value} {R : List Nat} (h : IsR w wb lb s rv R o) : ∃ a cap g, rv = .slice a R.length cap ∧ Bytes w a cap g 0 R ∧ (a = none ∧ R = [] ∨ a = some ⟨g, 0, none⟩ ∧ ∃ cur, w.heap[g]? = some (.cells cur 5 (0, 0)) ∧ cur.size = cap ∧ cur.toList.take R.length = u8s R ∧ cap ≤ maxLen) :=
  bytes_own h.own h.lt (by have := h.le; have := h.s2; omega)
theorem IsR.ole {w : World} {wb lb s o : Nat} {rv : Value} {R : List Nat} (h : IsR w wb lb s rv R o) : o ≤ R.length := by
  have := h.o_; rcases h.rd with e | e <;> omega
/-- .. by the bytes that it holds, the oldest first. -/
def IsW (w : World) (wb lb s : Nat) (rv : Value) (M : List Nat) : Prop := ∃ R o, IsR w wb lb s rv R o ∧ unr R o = M
theorem IsW.keep {w w' : World} {S : Nat → Prop} {wb lb s : Nat} {rv : Value} {M : List Nat} (h : IsW w wb lb s rv M) (hk : Keep S w w') (h1 : ¬ S wb) (h2 : ∀ g, rv.ownBlock = some g → ¬ S g) : IsW w' wb lb s rv M := by
  obtain ⟨R, o, h, e⟩ := h
  exact ⟨R, o, h.keep hk h1 h2, e⟩
theorem IsW.len {w : World} {wb lb s : Nat} {rv : Value} {M : List Nat} (h : IsW w wb lb s rv M) : M.length ≤ s ∧ 1 ≤ s ∧ s ≤ 16777216 := by
  obtain ⟨R, o, h, e⟩ := h
  subst e
  rw [unr_length]
  exact ⟨h.le, h.s1, h.s2⟩
theorem IsW.lt {w : World} {wb lb s : Nat} {rv : Value} {M : List Nat} (h : IsW w wb lb s rv M) : ∀ j : Nat, M[j]?.getD 0 < 256 := by
  obtain ⟨R, o, h, e⟩ := h
  subst e
  exact lt_app (lt_drop h.lt _) (lt_take h.lt _)
theorem IsW.block {w : World} {wb lb s : Nat} {rv : Value} {M : List Nat} (h : IsW w wb lb s rv M) : wb < w.heap.size := by
  obtain ⟨R, o, h, e⟩ := h
  exact obj_lt h.obj
theorem IsW.ring_ne {w : World} {wb lb s : Nat} {rv : Value} {M : List Nat} (h : IsW w wb lb s rv M) {b : Nat} {cs : Array Value} {t : Nat} (ho : w.heap[b]? = some (.cells cs t (0, 0))) (ht : t ≠ 5) : rv.ownBlock ≠ some b := by
  obtain ⟨R, o, h, e⟩ := h
  exact owns_ne h.own ho ht
theorem IsW.ring_lt {w : World} {wb lb s : Nat} {rv : Value} {M : List Nat} (h : IsW w wb lb s rv M) {g : Nat} (hg : rv.ownBlock = some g) : g < w.heap.size := by
  obtain ⟨R, o, h, e⟩ := h
  rcases h.own.2 with ⟨rfl, _⟩ | ⟨g', cap, cur, rfl, _, hh, _⟩
  · cases hg
  · obtain rfl : g' = g := by simpa [Value.ownBlock] using hg
    exact obj_lt hh
/-- Block wb is a window that was dropped. -/
def IsDrop (w : World) (wb : Nat) : Prop := w.heap[wb]? = some (.cells #[.int .i64 0, .pointer none, .slice none 0 0, .int .i64 0] 114 (0, 0))

set_option maxHeartbeats 1000000 in
theorem place_any (wb lb s o : Nat) (rv : Value) (R : List Nat) (back : Nat) (w : World) (h : IsR w wb lb s rv R o) (h1 : 1 ≤ back) (h2 : back ≤ R.length) :
    Calls Tryz.prog 134 #[.pointer (some ⟨wb, 0, none⟩), .int .i64 (back : Int)] w fun e w' => e = .returned (.int .i64 ((place R.length o back : Nat) : Int)) ∧ ∃ n, w' = w.drewN n := by
  obtain ⟨a, cap, g, rfl, -, -⟩ := h.form
  have c2 : w.cell? ⟨wb, 2, none⟩ = some (.slice a R.length cap) := cell_of h.obj 2
  have c3 : w.cell? ⟨wb, 3, none⟩ = some (.int .i64 (o : Int)) := cell_of h.obj 3
  have hle := h.le
  have hs2 := h.s2
  have ho := h.o_
  obtain ⟨p, hpe⟩ : ∃ p, p = place R.length o back := ⟨_, rfl⟩
  have hp : if back ≤ o then (o : Int) - back = (p : Int) else (o : Int) - back + R.length = (p : Int) := by rw [hpe]; unfold place; by_cases hb : back ≤ o <;> simp only [hb, if_true, if_false] <;> omega
  rw [← hpe]
  clear h hpe
  by_cases hb : back ≤ o
  · rw [if_pos hb] at hp
    have hbI : (back : Int) ≤ (o : Int) := by omega
    go_enter Tryz.func134, Tryz.ntmps134
    go_wp2_with fail
    go_ret
    exact ⟨rfl, 0, rfl⟩
  · rw [if_neg hb] at hp
    have hbI : ¬ (back : Int) ≤ (o : Int) := by omega
    go_enter Tryz.func134, Tryz.ntmps134
    go_wp2_with fail
    go_quiet (fail)
    go_wp2_with fail
    go_ret
    exact ⟨rfl, _, rfl⟩

set_option maxHeartbeats 1000000 in
theorem reaches_cell (wb : Nat) (a : Option Addr) (n cap : Nat) (back : Int) (w : World) (c2 : w.cell? ⟨wb, 2, none⟩ = some (.slice a n cap)) :
    Calls Tryz.prog 123 #[.pointer (some ⟨wb, 0, none⟩), .int .i64 back] w fun e w' => e = .returned (.bool (decide (1 ≤ back ∧ back ≤ n))) ∧ w' = w := by
  by_cases h1 : 1 ≤ back
  · by_cases h2 : back ≤ n
    · have e : decide (1 ≤ back ∧ back ≤ (n : Int)) = true := decide_eq_true ⟨h1, h2⟩
      rw [e]
      go_enter Tryz.func123, Tryz.ntmps123
      go_wp2_with fail
      go_ret
      exact ⟨rfl, rfl⟩
    · have e : decide (1 ≤ back ∧ back ≤ (n : Int)) = false := decide_eq_false (fun h => h2 h.2)
      rw [e]
      go_enter Tryz.func123, Tryz.ntmps123
      go_wp2_with fail
      go_ret
      exact ⟨rfl, rfl⟩
  · have e : decide (1 ≤ back ∧ back ≤ (n : Int)) = false := decide_eq_false (fun h => h1 h.1)
    rw [e]
    go_enter Tryz.func123, Tryz.ntmps123
    go_wp2_with fail
    go_ret
    exact ⟨rfl, rfl⟩

set_option maxHeartbeats 1000000 in
theorem at_ok (wb lb s : Nat) (rv : Value) (M : List Nat) (back : Nat) (w : World) (h : IsW w wb lb s rv M) (h1 : 1 ≤ back) (h2 : back ≤ M.length) :
    Calls Tryz.prog 116 #[.pointer (some ⟨wb, 0, none⟩), .int .i64 (back : Int)] w fun e w' => e = .returned (.tuple #[.int .u8 ((M[M.length - back]?.getD 0 : Nat) : Int), .bool true]) ∧ ∃ n, w' = w.drewN n := by
  obtain ⟨R, o, h, rfl⟩ := h
  rw [unr_length] at h2 ⊢
  obtain ⟨a, cap, g, rfl, hB, -⟩ := h.form
  have c2 : w.cell? ⟨wb, 2, none⟩ = some (.slice a R.length cap) := cell_of h.obj 2
  have HP := fun n : Nat => place_any wb lb s o _ R back (w.drewN n) (h.drewN n) h1 h2
  have hr := reaches_cell wb a R.length cap (back : Int) w c2
  rw [decide_eq_true (show 1 ≤ (back : Int) ∧ (back : Int) ≤ (R.length : Int) by omega)] at hr
  have hpl := place_lt R.length o back h.ole h1 h2
  have hpa := place_at R o back h.ole h1 h2
  have hle := h.le
  have hs2 := h.s2
  have hc := hB.cells (place R.length o back) hpl
  rw [hpa] at hc
  obtain rfl : a = some ⟨g, 0, none⟩ := hB.at_.resolve_right (by rintro rfl; simp at hpl)
  generalize place R.length o back = p at HP hpl hc
  generalize (unr R o)[R.length - back]?.getD 0 = x at hc
  rw [Nat.zero_add] at hc
  generalize R.length = n at *
  have hpI : (p : Int) < (n : Int) := by omega
  clear h hB hpa
  go_enter Tryz.func116, Tryz.ntmps116
  go_wp2_with fail
  refine hr.mono ?_
  rintro e w1 ⟨rfl, rfl⟩
  clear hr
  go_wp2_with fail
  go_quiet (first | (go_at_call 134; refine Calls.quiet_of (HP _)))
  go_wp2_with fail
  go_ret2
  exact ⟨rfl, _, rfl⟩

set_option maxHeartbeats 1000000 in
theorem at_none (wb : Nat) (a : Option Addr) (n cap : Nat) (back : Int) (w : World) (c2 : w.cell? ⟨wb, 2, none⟩ = some (.slice a n cap)) (hb : ¬ (1 ≤ back ∧ back ≤ (n : Int))) :
    Calls Tryz.prog 116 #[.pointer (some ⟨wb, 0, none⟩), .int .i64 back] w fun e w' => e = .returned (.tuple #[.int .u8 0, .bool false]) ∧ w' = w := by
  have hr := reaches_cell wb a n cap back w c2
  rw [decide_eq_false hb] at hr
  go_enter Tryz.func116, Tryz.ntmps116
  go_wp2_with fail
  refine hr.mono ?_
  rintro e w1 ⟨rfl, rfl⟩
  go_wp2_with fail
  go_ret2
  exact ⟨rfl, rfl⟩

/-! Of none. -/
set_option maxHeartbeats 1000000 in
theorem at_nil (back : Int) (w : World) : Calls Tryz.prog 116 #[.pointer none, .int .i64 back] w fun e w' => e = .returned (.tuple #[.int .u8 0, .bool false]) ∧ w' = w := by
  go_enter Tryz.func116, Tryz.ntmps116
  go_wp2_with fail
  go_ret2
  exact ⟨rfl, rfl⟩
set_option maxHeartbeats 1000000 in
theorem put_nil (v : Value) (w : World) : Calls Tryz.prog 31 #[.pointer none, v] w fun e w' => e = .returned (.tuple #[]) ∧ w' = w := by
  go_enter Tryz.func31, Tryz.ntmps31
  go_wp2_with fail
  (try simp only [Exit.inBlock, Exit.then]); refine bodyPost_ret (results_none rfl _ _ _) rfl ?_
  exact ⟨rfl, rfl⟩
set_option maxHeartbeats 1000000 in
theorem copy_nil (back n : Int) (w : World) : Calls Tryz.prog 83 #[.pointer none, .int .i64 back, .int .i64 n] w fun e w' => e = .returned (.tuple #[.slice none 0 0, .int .i64 1]) ∧ w' = w := by
  go_enter Tryz.func83, Tryz.ntmps83
  go_wp2_with fail
  go_ret2
  exact ⟨rfl, rfl⟩

/-! Of one that was dropped. -/
set_option maxHeartbeats 1000000 in
theorem put_gone (wb : Nat) (v : Value) (w : World) (h : IsDrop w wb) : Calls Tryz.prog 31 #[.pointer (some ⟨wb, 0, none⟩), v] w fun e w' => e = .returned (.tuple #[]) ∧ w' = w := by
  have c0 : w.cell? ⟨wb, 0, none⟩ = some (.int .i64 0) := cell_of h 0
  go_enter Tryz.func31, Tryz.ntmps31
  go_wp2_with fail
  (try simp only [Exit.inBlock, Exit.then]); refine bodyPost_ret (results_none rfl _ _ _) rfl ?_
  exact ⟨rfl, rfl⟩
set_option maxHeartbeats 1000000 in
theorem copy_gone (wb : Nat) (back n : Int) (w : World) (h : IsDrop w wb) : Calls Tryz.prog 83 #[.pointer (some ⟨wb, 0, none⟩), .int .i64 back, .int .i64 n] w fun e w' => e = .returned (.tuple #[.slice none 0 0, .int .i64 5]) ∧ w' = w := by
  have c0 : w.cell? ⟨wb, 0, none⟩ = some (.int .i64 0) := cell_of h 0
  go_enter Tryz.func83, Tryz.ntmps83
  go_wp2_with fail
  go_ret2
  exact ⟨rfl, rfl⟩

end Go.Proofs.YtnokemcogjoonaaGreatDoor
