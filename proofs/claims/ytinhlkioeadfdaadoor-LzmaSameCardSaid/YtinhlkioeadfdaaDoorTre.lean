/-
  Trees: a number, a number backwards, a byte that is like another one.
-/
import Derived.Test.YtinhlkioeadfdaaDoorWlk
namespace Go.Proofs.YtinhlkioeadfdaaDoor
open Go.RowKit Go.Shelf
set_option linter.unusedVariables false

theorem readM_eq (o n : Nat) (x : Cx) : readM o n x = ((walkM o n 1 x).1 - 2 ^ n, (walkM o n 1 x).2) := rfl
theorem read3 (sb db gb o len cap : Nat) (s : Se) (x : Cx) (w : World) (h : Pr w sb db gb s x) (h8 : 8 ≤ o) (ho : o + 8 ≤ 14143) (hl : 8 ≤ len) (h48 : len < 2 ^ 48) :
    Calls Tryd.prog 53 #[.slice (some ⟨sb, o, none⟩) len cap, .pointer (some ⟨db, 0, none⟩), .int .i64 3] w fun e w' =>
      e = .returned (.int .i64 (((readM o 3 x).1 : Nat) : Int)) ∧ (readM o 3 x).1 < 8 ∧ Pr w' sb db gb s (readM o 3 x).2 ∧ Keep (SD sb db) w w' := by
  have HW := hid (walk_any sb db gb o len cap 3 1 1 8 s x w h (by omega) (by omega) (by omega) (by decide) h8 ho hl h48)
  have HE := readM_eq o 3 x
  rw [show (2 : Nat) ^ 3 = 8 from by decide] at HE
  have HE := hid HE
  clear h
  generalize readM o 3 x = R at *
  generalize walkM o 3 1 x = V at *
  go_enter Tryd.func53, Tryd.ntmps53
  go_wp2_with fail
  refine HW.out.mono ?_
  rintro e w1 ⟨rfl, g1, g2, g3, g4⟩
  go_wp2_with fail
  go_ret
  rw [HE.out]
  exact ⟨rfl, by show V.1 - _ < _; omega, g3, g4⟩
theorem read6 (sb db gb o len cap : Nat) (s : Se) (x : Cx) (w : World) (h : Pr w sb db gb s x) (h8 : 8 ≤ o) (ho : o + 64 ≤ 14143) (hl : 64 ≤ len) (h48 : len < 2 ^ 48) :
    Calls Tryd.prog 53 #[.slice (some ⟨sb, o, none⟩) len cap, .pointer (some ⟨db, 0, none⟩), .int .i64 6] w fun e w' =>
      e = .returned (.int .i64 (((readM o 6 x).1 : Nat) : Int)) ∧ (readM o 6 x).1 < 64 ∧ Pr w' sb db gb s (readM o 6 x).2 ∧ Keep (SD sb db) w w' := by
  have HW := hid (walk_any sb db gb o len cap 6 1 1 64 s x w h (by omega) (by omega) (by omega) (by decide) h8 ho hl h48)
  have HE := readM_eq o 6 x
  rw [show (2 : Nat) ^ 6 = 64 from by decide] at HE
  have HE := hid HE
  clear h
  generalize readM o 6 x = R at *
  generalize walkM o 6 1 x = V at *
  go_enter Tryd.func53, Tryd.ntmps53
  go_wp2_with fail
  refine HW.out.mono ?_
  rintro e w1 ⟨rfl, g1, g2, g3, g4⟩
  go_wp2_with fail
  go_ret
  rw [HE.out]
  exact ⟨rfl, by show V.1 - _ < _; omega, g3, g4⟩
theorem read8 (sb db gb o len cap : Nat) (s : Se) (x : Cx) (w : World) (h : Pr w sb db gb s x) (h8 : 8 ≤ o) (ho : o + 256 ≤ 14143) (hl : 256 ≤ len) (h48 : len < 2 ^ 48) :
    Calls Tryd.prog 53 #[.slice (some ⟨sb, o, none⟩) len cap, .pointer (some ⟨db, 0, none⟩), .int .i64 8] w fun e w' =>
      e = .returned (.int .i64 (((readM o 8 x).1 : Nat) : Int)) ∧ (readM o 8 x).1 < 256 ∧ Pr w' sb db gb s (readM o 8 x).2 ∧ Keep (SD sb db) w w' := by
  have HW := hid (walk_any sb db gb o len cap 8 1 1 256 s x w h (by omega) (by omega) (by omega) (by decide) h8 ho hl h48)
  have HE := readM_eq o 8 x
  rw [show (2 : Nat) ^ 8 = 256 from by decide] at HE
  have HE := hid HE
  clear h
  generalize readM o 8 x = R at *
  generalize walkM o 8 1 x = V at *
  go_enter Tryd.func53, Tryd.ntmps53
  go_wp2_with fail
  refine HW.out.mono ?_
  rintro e w1 ⟨rfl, g1, g2, g3, g4⟩
  go_wp2_with fail
  go_ret
  rw [HE.out]
  exact ⟨rfl, by show V.1 - _ < _; omega, g3, g4⟩

theorem or_more (t b i : Nat) (ht : t < 2 ^ i) (hb : b ≤ 1) (hi : i < 32) : bits .or .u32 (t : Int) ((b : Int) * 2 ^ i % 4294967296) = ((t + b * 2 ^ i : Nat) : Int) := by
  have h1 : 2 ^ i ≤ 2 ^ 31 := Nat.pow_le_pow_right (by decide) (by omega)
  have h2 : b * 2 ^ i ≤ 2 ^ i := by
    have := Nat.mul_le_mul_right (2 ^ i) hb
    omega
  have h3 : (b : Int) * 2 ^ i % 4294967296 = ((b * 2 ^ i : Nat) : Int) := by
    rw [show (b : Int) * 2 ^ i = ((b * 2 ^ i : Nat) : Int) from by simp]
    generalize b * 2 ^ i = z at *
    omega
  rw [h3, u32_or_nat _ _ (by omega) (by omega), Nat.or_comm, nat_join i (b * 2 ^ i) t (Nat.mul_mod_left _ _) ht, Nat.add_comm]

set_option maxHeartbeats 1000000 in
theorem backwards_any (sb db gb o len cap k : Nat) (s : Se) (x : Cx) (w : World) (h : Pr w sb db gb s x) (hk : k ≤ 6) (h8 : 8 ≤ o) (ho : o + 2 ^ k ≤ 14143) (hl : 2 ^ k ≤ len) (h48 : len < 2 ^ 48) :
    Calls Tryd.prog 70 #[.slice (some ⟨sb, o, none⟩) len cap, .pointer (some ⟨db, 0, none⟩), .int .i64 (k : Int)] w fun e w' =>
      e = .returned (.int .u32 (((backM o k 0 1 0 x).1 : Nat) : Int)) ∧ (backM o k 0 1 0 x).1 < 2 ^ k ∧ Pr w' sb db gb s (backM o k 0 1 0 x).2 ∧ Keep (SD sb db) w w' := by
  have hlI : ((2 ^ k : Nat) : Int) ≤ (len : Int) := by omega
  have HP := hid h
  clear h
  generalize hR : backM o k 0 1 0 x = R at *
  have HR := hid hR
  clear hR
  go_enter Tryd.func70, Tryd.ntmps70
  go_wp2_with fail
  go_loopw [12, 7, 8] (fun i m t wr => ∃ (j q u : Nat), i = .int .i64 j ∧ m = .int .i64 q ∧ t = .int .u32 u ∧ j ≤ k ∧ 2 ^ j ≤ q ∧ q < 2 * 2 ^ j ∧ u < 2 ^ j ∧ Hid (∃ y, backM o (k - j) j q u y = R ∧ Pr wr sb db gb s y ∧ Keep (SD sb db) w wr)) (fun i _ _ _ => k - (intOf i).toNat)
  case atStart => exact ⟨0, 1, 0, rfl, rfl, rfl, by omega, by simp, by simp, by simp, (show ∃ y, _ from ⟨x, HR.out, HP.out, Keep.refl _ _⟩)⟩
  case round =>
    obtain ⟨j, q, u, rfl, rfl, rfl, hj, a1, a2, a3, HQ⟩ := hrel
    by_cases hlt : j < k
    · obtain ⟨y, b1, b2, b3⟩ := HQ.out
      clear HQ
      have hltI : (j : Int) < (k : Int) := by omega
      have hp : 2 * 2 ^ j ≤ 2 ^ k := by rw [Nat.mul_comm, ← Nat.pow_succ]; exact Nat.pow_le_pow_right (by decide) (by omega)
      have hqI : (q : Int) < (len : Int) := by omega
      have HC := hid (bit_any sb db gb (o + q) s y _ b2 (by omega) (by omega))
      have hb := bN_le (bitX y (o + q))
      have hor := or_more u (bN (bitX y (o + q))) j a3 hb (by omega)
      have hu : u + bN (bitX y (o + q)) * 2 ^ j < 2 * 2 ^ j := by
        have := Nat.mul_le_mul_right (2 ^ j) hb
        omega
      have HN := (show Hid (backM o (k - (j + 1)) (j + 1) (2 * q + bN (bitX y (o + q))) (u + bN (bitX y (o + q)) * 2 ^ j) (stepX y (o + q)) = R ∧ Keep (SD sb db) w wr) from by
        rw [show k - j = k - (j + 1) + 1 from by omega] at b1
        exact ⟨b1, b3⟩)
      clear b1 b2 b3
      generalize stepX y (o + q) = y' at *
      generalize bN (bitX y (o + q)) = bt at *
      generalize u + bt * 2 ^ j = u' at *
      have hps : 2 ^ (j + 1) = 2 * 2 ^ j := by rw [Nat.pow_succ, Nat.mul_comm]
      go_wp2_with fail
      refine HC.out.mono ?_
      rintro e w1 ⟨rfl, g1, g2⟩
      have HG := (show Hid (Pr w1 sb db gb s y' ∧ Keep (SD sb db) w w1) from ⟨g1, HN.out.2.trans' g2⟩)
      clear g1 g2 HC
      go_wp2_with fail
      go_roundw
      case rel =>
        refine ⟨j + 1, 2 * q + bt, u', by go_num, by go_num, rfl, by omega, by omega, by omega, by omega, (show ∃ y, _ from ⟨y', HN.out.1, HG.out.1, HG.out.2⟩)⟩
      case measure => simp [intOf]; omega
    · obtain ⟨y, b1, b2, b3⟩ := HQ.out
      have hj2 : j = k := by omega
      subst hj2
      rw [Nat.sub_self] at b1
      have e : R = (u, y) := b1.symm
      have HF := (show Hid (R.1 = u ∧ Pr wr sb db gb s R.2 ∧ Keep (SD sb db) w wr) from by rw [e]; exact ⟨rfl, b2, b3⟩)
      clear b1 b2 b3 HQ e
      go_wp2_with fail
      go_ret
      rw [HF.out.1]
      exact ⟨rfl, a3, HF.out.2⟩

theorem and_bit (other k : Nat) (h : other < 256) : bits .and .u8 ((other : Int) / 2 ^ k) 1 = ((other / 2 ^ k % 2 : Nat) : Int) := by
  have e : (other : Int) / 2 ^ k = ((other / 2 ^ k : Nat) : Int) := by simp
  have := Nat.div_le_self other (2 ^ k)
  rw [e]
  generalize other / 2 ^ k = z at *
  have := u8_and_nat z 1 (by omega) (by omega)
  rw [show (((1 : Nat) : Int)) = (1 : Int) from rfl] at this
  rw [this, Nat.and_one_is_mod]

set_option maxHeartbeats 1000000 in
theorem like_any (sb db gb o len cap other : Nat) (s : Se) (x : Cx) (w : World) (h : Pr w sb db gb s x) (hoth : other < 256) (h8 : 8 ≤ o) (ho : o + 768 ≤ 14143) (hl : 768 ≤ len) (h48 : len < 2 ^ 48) :
    Calls Tryd.prog 55 #[.slice (some ⟨sb, o, none⟩) len cap, .pointer (some ⟨db, 0, none⟩), .int .u8 (other : Int)] w fun e w' =>
      e = .returned (.int .u8 (((likeM o other 8 1 x).1 - 256 : Nat) : Int)) ∧ 256 ≤ (likeM o other 8 1 x).1 ∧ (likeM o other 8 1 x).1 < 512 ∧ Pr w' sb db gb s (likeM o other 8 1 x).2 ∧ Keep (SD sb db) w w' := by
  have HP := hid h
  clear h
  generalize hR : likeM o other 8 1 x = R at *
  have HR := hid hR
  clear hR
  go_enter Tryd.func55, Tryd.ntmps55
  go_wp2_with fail
  go_loopw [8, 7] (fun i m wr => ∃ (j : Int) (q : Nat), i = .int .i64 j ∧ m = .int .i64 q ∧ -1 ≤ j ∧ j ≤ 7 ∧ q < 512 ∧ Hid (∃ (A k : Nat) (y : Cx), (k : Int) = j + 1 ∧ A * 2 ^ k = 256 ∧ A ≤ q ∧ q < 2 * A ∧ likeM o other k q y = R ∧ Pr wr sb db gb s y ∧ Keep (SD sb db) w wr)) (fun i _ _ => (intOf i + 1).toNat)
  case atStart => exact ⟨7, 1, rfl, rfl, by omega, by omega, by omega, (show ∃ (A k : Nat) (y : Cx), _ from ⟨1, 8, x, rfl, rfl, by omega, by omega, HR.out, HP.out, Keep.refl _ _⟩)⟩
  case round =>
    obtain ⟨j, q, rfl, rfl, hj1, hj2, hq, HQ⟩ := hrel
    by_cases hlt : 0 ≤ j
    · obtain ⟨A, k, y, b0, b1, b2, b3, b4, b5, b6⟩ := HQ.out
      clear HQ
      obtain ⟨k, rfl⟩ : ∃ k', k = k' + 1 := ⟨k - 1, by omega⟩
      obtain rfl : j = (k : Int) := by omega
      obtain ⟨l, hl2⟩ : ∃ l : Nat, l = other / 2 ^ k % 2 := ⟨_, rfl⟩
      have hl3 : l ≤ 1 := by omega
      have hand := and_bit other k hoth
      rw [← hl2] at hand
      obtain ⟨t, ht⟩ : ∃ t : Nat, t = (1 + l) * 256 + q := ⟨_, rfl⟩
      have htI : (1 + (l : Int)) * 256 + (q : Int) = (t : Int) := by omega
      have hqq : q < 256 := by
        have : 2 * A ≤ 256 := by rw [← b1, Nat.pow_succ, Nat.mul_comm (2 ^ k) 2, ← Nat.mul_assoc, Nat.mul_comm A 2]; exact Nat.le_mul_of_pos_right _ (Nat.two_pow_pos k)
        omega
      have htl : (t : Int) < (len : Int) := by omega
      have HC := hid (bit_any sb db gb (o + t) s y _ b5 (by omega) (by omega))
      have hb := bN_le (bitX y (o + t))
      have HN := (show Hid ((if bN (bitX y (o + t)) = l then likeM o other k (2 * q + bN (bitX y (o + t))) (stepX y (o + t)) else walkM o k (2 * q + bN (bitX y (o + t))) (stepX y (o + t))) = R ∧ (2 * A) * 2 ^ k = 256 ∧ A ≤ q ∧ q < 2 * A ∧ Keep (SD sb db) w wr) from by
        refine ⟨?_, by rw [← b1, Nat.pow_succ, Nat.mul_comm (2 ^ k) 2, ← Nat.mul_assoc, Nat.mul_comm A 2], b2, b3, b6⟩
        rw [← b4, ht, hl2]
        show _ = (bnd (bitM _) _) y
        unfold bnd bitM
        dsimp only
        split <;> rfl)
      clear b1 b2 b3 b4 b5 b6 ht hl2
      generalize stepX y (o + t) = y' at *
      generalize bN (bitX y (o + t)) = bt at *
      go_wp2_with fail
      refine HC.out.mono ?_
      rintro e w1 ⟨rfl, g1, g2⟩
      have HG := (show Hid (Pr w1 sb db gb s y' ∧ Keep (SD sb db) w w1) from ⟨g1, HN.out.2.2.2.2.trans' g2⟩)
      clear g1 g2 HC
      obtain ⟨q', hq'⟩ : ∃ q' : Nat, q' = 2 * q + bt := ⟨_, rfl⟩
      have hqI : 2 * (q : Int) + (bt : Int) = (q' : Int) := by omega
      rw [← hq'] at HN
      have HQ' := hid hq'
      clear hq'
      by_cases hbl : bt = l
      · have hbl2 : ((bt : Int) != (l : Int)) = false := by simp [hbl]
        rw [if_pos hbl] at HN
        clear hbl
        go_wp2_with fail
        go_roundw
        case rel =>
          refine ⟨(k : Int) - 1, q', by go_num, rfl, by omega, by omega, by have := HQ'.out; omega, (show ∃ (A k : Nat) (y : Cx), _ from ⟨2 * A, k, y', by omega, HN.out.2.1, by have := HN.out.2.2.1; have := HQ'.out; omega, by have := HN.out.2.2.2.1; have := HQ'.out; omega, HN.out.1, HG.out.1, HG.out.2⟩)⟩
        case measure => simp [intOf]
      · have hbl2 : ((bt : Int) != (l : Int)) = true := by simp; omega
        rw [if_neg hbl] at HN
        have HW := hid (walk_any sb db gb o len cap k q' (2 * A) 256 s y' w1 HG.out.1 (by have := HN.out.2.2.1; have := HN.out.2.2.2.1; omega) (by have := HN.out.2.2.1; have := HQ'.out; omega) (by have := HN.out.2.2.2.1; have := HQ'.out; omega) HN.out.2.1.symm h8 (by omega) (by omega) h48)
        rw [HN.out.1] at HW
        clear hbl
        go_wp2_with fail
        refine HW.out.mono ?_
        rintro e w2 ⟨rfl, g1, g2, g3, g4⟩
        have HH := (show Hid (256 ≤ R.1 ∧ R.1 < 512 ∧ Pr w2 sb db gb s R.2 ∧ Keep (SD sb db) w w2) from ⟨g1, g2, g3, HG.out.2.trans' g4⟩)
        obtain ⟨z, hz⟩ : ∃ z, z = R.1 - 256 := ⟨_, rfl⟩
        have hr : (z : Int) % 256 = (z : Int) := by omega
        rw [← hz]
        have HZ := hid hz
        clear hz
        clear g1 g2 g3 g4 HW HG
        go_wp2_with fail
        go_ret
        rw [← HZ.out]
        exact ⟨rfl, HH.out⟩
    · obtain ⟨A, k, y, b0, b1, b2, b3, b4, b5, b6⟩ := HQ.out
      clear HQ
      obtain rfl : j = -1 := by omega
      obtain rfl : k = 0 := by omega
      rw [Nat.pow_zero, Nat.mul_one] at b1
      subst b1
      have e : R = (q, y) := b4.symm
      have HW := hid (walk_any sb db gb o len cap 0 q 256 256 s y _ b5 (by omega) b2 b3 rfl h8 (by omega) (by omega) h48)
      rw [show walkM o 0 q y = R from b4] at HW
      have HK := hid b6
      clear b2 b3 b4 b5 b6 e b0
      go_wp2_with fail
      refine HW.out.mono ?_
      rintro e w2 ⟨rfl, g1, g2, g3, g4⟩
      have HH := (show Hid (256 ≤ R.1 ∧ R.1 < 512 ∧ Pr w2 sb db gb s R.2 ∧ Keep (SD sb db) w w2) from ⟨g1, g2, g3, HK.out.trans' g4⟩)
      obtain ⟨z, hz⟩ : ∃ z, z = R.1 - 256 := ⟨_, rfl⟩
      have hr : (z : Int) % 256 = (z : Int) := by omega
      rw [← hz]
      have HZ := hid hz
      clear hz
      clear g1 g2 g3 g4 HW HK
      go_wp2_with fail
      go_ret
      rw [← HZ.out]
      exact ⟨rfl, HH.out⟩

end Go.Proofs.YtinhlkioeadfdaaDoor
