/-
  Trees, written: a number, a number backwards, a byte that is like another one.
  Lengths and distances, written.
  Distances, written.
  A byte that is read: by which tree, and by it.
  A region that draws its order: a head that only reads, and a tail that is forced.
  A writer as it lies: its state, encoder, text and place; small calls of it.
-/
import Derived.StillTailTactics
import Derived.Test.YtnokemcogjoonaaGreatPutP3
import Derived.Test.YtnokemcogjoonaaGreatPutP6
import Derived.Test.YtnokemcogjoonaaGreatPutP7
namespace Go.Proofs.YtnokemcogjoonaaGreat.Pt
open Go.RowKit Go.Shelf
set_option linter.unusedVariables false

theorem tree_any (sb eb o len cap x n : Nat) (s : Se) (y : Ex) (v : Value) (w : World) (h : Pe w sb eb s y v) (hr : Room y (treeA o x n)) (hx : x < 4294967296) (hn : n ≤ 8) (h8 : 8 ≤ o) (ho : o + 2 ^ n ≤ 14143) (hl : 2 ^ n ≤ len) (h48 : len < 2 ^ 48) :
    Writes 62 #[.slice (some ⟨sb, o, none⟩) len cap, .pointer (some ⟨eb, 0, none⟩), .int .i64 (x : Int), .int .i64 (n : Int)] w sb eb s y v (treeA o x n) := by
  unfold Writes
  have HW := hid (walk_any sb eb o len cap n 1 1 x s y v w h hr hx hn (by omega) (by omega) h8 (by omega) (by omega) h48)
  rw [show (((1 : Nat) : Int)) = (1 : Int) from rfl] at HW
  clear h hr ho hl
  go_enter Tryz.func62, Tryz.ntmps62
  go_wp2_with fail
  refine HW.out.mono ?_
  rintro r w1 ⟨rfl, hw⟩
  have HF := hid hw
  clear hw HW
  go_wp2_with fail
  go_end0
  exact ⟨rfl, HF.out⟩

theorem backA_succ (o k i m x : Nat) : backA o (k + 1) i m x = [bitA (o + m) (x / 2 ^ i % 2)] ++ backA o k (i + 1) (2 * m + x / 2 ^ i % 2) x := rfl
set_option maxHeartbeats 2000000 in
theorem back_any (sb eb o len cap k x : Nat) (s : Se) (y : Ex) (v : Value) (w : World) (h : Pe w sb eb s y v) (hr : Room y (backA o k 0 1 x)) (hx : x < 4294967296) (hk : k ≤ 6) (h8 : 8 ≤ o) (ho : o + 2 ^ k ≤ 14143) (hl : 2 ^ k ≤ len) (h48 : len < 2 ^ 48) :
    Writes 87 #[.slice (some ⟨sb, o, none⟩) len cap, .pointer (some ⟨eb, 0, none⟩), .int .u32 (x : Int), .int .i64 (k : Int)] w sb eb s y v (backA o k 0 1 x) := by
  unfold Writes
  have H0 := (show Hid (∃ (z : Ex) (v' : Value), Wlk w w sb eb s v v' (runA (backA o k 0 1 x) y) z (backA o (k - 0) 0 1 x)) from ⟨y, v, rfl, hr, Wrote.refl h⟩)
  have hlen : (len : Int) < 281474976710656 := by omega
  have hxI : (x : Int) < 4294967296 := by omega
  generalize runA (backA o k 0 1 x) y = R at *
  clear h hr
  go_enter Tryz.func87, Tryz.ntmps87
  go_wp2_with fail
  go_loopw [12, 8] (fun i mm wr => ∃ (j q : Nat), i = .int .i64 (j : Int) ∧ mm = .int .i64 (q : Int) ∧ j ≤ k ∧ 2 ^ j ≤ q ∧ q < 2 * 2 ^ j ∧ Hid (∃ (z : Ex) (v' : Value), Wlk w wr sb eb s v v' R z (backA o (k - j) j q x))) (fun i _ _ => k - (intOf i).toNat)
  case atStart => exact ⟨0, 1, rfl, rfl, by omega, by simp, by simp, H0⟩
  case round =>
    clear H0
    obtain ⟨j, q, rfl, rfl, hj, a1, a2, HQ⟩ := hrel
    by_cases hlt : j < k
    · have hltI : (j : Int) < (k : Int) := by omega
      have hp : 2 * 2 ^ j ≤ 2 ^ k := by rw [Nat.mul_comm, ← Nat.pow_succ]; exact Nat.pow_le_pow_right (by decide) (by omega)
      obtain ⟨z, v', b4, b5, b6⟩ := HQ.out
      rw [show k - j = k - (j + 1) + 1 from by omega, backA_succ] at b4 b5
      obtain ⟨xq, hxq⟩ : ∃ xq, xq = x / 2 ^ j := ⟨_, rfl⟩
      have hxI2 : (x : Int) / 2 ^ j = (xq : Int) := by rw [hxq]; simp
      have hxl : xq ≤ x := by rw [hxq]; exact Nat.div_le_self _ _
      rw [← hxq] at b4 b5
      clear hxq
      obtain ⟨bt, hbt⟩ : ∃ bt, bt = xq % 2 := ⟨_, rfl⟩
      have hand : bits .and .u32 (xq : Int) 1 = (bt : Int) := by
        have := u32_and_nat xq 1 (by omega) (by omega)
        rw [Nat.and_one_is_mod, ← hbt] at this
        exact this
      rw [← hbt] at b4 b5
      have hb1 : bt ≤ 1 := by omega
      have hjI : (j : Int) < 32 := by omega
      have HC := hid (bit_any sb eb o len cap q bt s z v' wr b6.pe (by have := b5; unfold Room at this; omega) h8 (by omega) (by omega) h48)
      have HN := (show Hid (runA (backA o (k - (j + 1)) (j + 1) (2 * q + bt) x) (runA [bitA (o + q) bt] z) = R ∧ Room (runA [bitA (o + q) bt] z) (backA o (k - (j + 1)) (j + 1) (2 * q + bt) x) ∧ Wrote w wr sb eb s z v v') from
        ⟨by rw [← runA_app]; exact b4, b5.right, b6⟩)
      clear b4 b5 b6 HQ hbt
      have hps : 2 ^ (j + 1) = 2 * 2 ^ j := by rw [Nat.pow_succ, Nat.mul_comm]
      have HPS := hid hps
      clear hps
      go_wp2_with fail
      refine HC.out.mono ?_
      rintro r w1 ⟨rfl, v1, hw1⟩
      have HG := (show Hid (∃ (z : Ex) (v' : Value), Wlk w w1 sb eb s v v' R z (backA o (k - (j + 1)) (j + 1) (2 * q + bt) x)) from
        ⟨_, v1, HN.out.1, HN.out.2.1, HN.out.2.2.trans hw1⟩)
      clear hw1 HN HC
      go_wp2_with fail
      go_roundw
      case rel => exact ⟨j + 1, 2 * q + bt, by go_num, by go_num, by omega, by rw [HPS.out]; omega, by rw [HPS.out]; omega, HG⟩
      case measure => simp [intOf]; omega
    · have hltI : ¬ (j : Int) < (k : Int) := by omega
      have HF := (show Hid (∃ v', Wrote w wr sb eb s R v v') from by
        obtain ⟨z, v', hz, -, hw⟩ := HQ.out
        rw [show k - j = 0 from by omega] at hz
        have e : z = R := hz
        rw [← e]
        exact ⟨v', hw⟩)
      clear HQ
      go_wp2_with fail
      go_end0
      exact ⟨rfl, HF.out⟩

theorem likeA_succ (o other k m x : Nat) : likeA o other (k + 1) m x = [bitA (o + ((1 + other / 2 ^ k % 2) * 256 + m)) (x / 2 ^ k % 2)] ++ (if x / 2 ^ k % 2 = other / 2 ^ k % 2 then likeA o other k (2 * m + x / 2 ^ k % 2) x else walkA o k (2 * m + x / 2 ^ k % 2) x) := rfl
set_option maxHeartbeats 4000000 in
theorem like_any (sb eb o len cap x other : Nat) (s : Se) (y : Ex) (v : Value) (w : World) (h : Pe w sb eb s y v) (hr : Room y (likeA o other 8 1 x)) (hx : x < 256) (hoth : other < 256) (h8 : 8 ≤ o) (ho : o + 768 ≤ 14143) (hl : 768 ≤ len) (h48 : len < 2 ^ 48) :
    Writes 61 #[.slice (some ⟨sb, o, none⟩) len cap, .pointer (some ⟨eb, 0, none⟩), .int .u8 (x : Int), .int .u8 (other : Int)] w sb eb s y v (likeA o other 8 1 x) := by
  unfold Writes
  have H0 := (show Hid (∃ (B : Nat) (z : Ex) (v' : Value), B ≤ 1 ∧ 1 < 2 * B ∧ B * 2 ^ 8 = 256 ∧ Wlk w w sb eb s v v' (runA (likeA o other 8 1 x) y) z (likeA o other 8 1 x)) from ⟨1, y, v, by omega, by omega, rfl, rfl, hr, Wrote.refl h⟩)
  have hlen : (len : Int) < 281474976710656 := by omega
  have hxI : (x : Int) < 256 := by omega
  have hoI : (other : Int) < 256 := by omega
  generalize runA (likeA o other 8 1 x) y = R at *
  clear h hr
  go_enter Tryz.func61, Tryz.ntmps61
  go_wp2_with fail
  go_loopw [9, 8] (fun i mm wr => ∃ (j q : Nat), i = .int .i64 ((j : Int) - 1) ∧ mm = .int .i64 (q : Int) ∧ j ≤ 8 ∧ q < 512 ∧ Hid (∃ (B : Nat) (z : Ex) (v' : Value), B ≤ q ∧ q < 2 * B ∧ B * 2 ^ j = 256 ∧ Wlk w wr sb eb s v v' R z (likeA o other j q x))) (fun i _ _ => (intOf i + 1).toNat)
  case atStart => exact ⟨8, 1, rfl, rfl, by omega, by omega, H0⟩
  case round =>
    clear H0
    obtain ⟨j, q, rfl, rfl, hj, hq, HQ⟩ := hrel
    cases j with
    | zero =>
      have HF := (show Hid (∃ v', Wrote w wr sb eb s R v v') from by
        obtain ⟨B, z, v', -, -, -, hz, -, hw⟩ := HQ.out
        have e : z = R := hz
        rw [← e]
        exact ⟨v', hw⟩)
      clear HQ
      go_wp2_with fail
      go_end0
      exact ⟨rfl, HF.out⟩
    | succ j =>
      rw [show (((j + 1 : Nat)) : Int) - 1 = (j : Int) from by omega]
      obtain ⟨B, z, v', b1, b2, b3, b4, b5, b6⟩ := HQ.out
      rw [likeA_succ] at b4 b5
      have hqE : 2 * B ≤ 256 := by
        rw [← b3, Nat.pow_succ, Nat.mul_comm (2 ^ j) 2, ← Nat.mul_assoc, Nat.mul_comm B 2]; exact Nat.le_mul_of_pos_right _ (Nat.two_pow_pos j)
      have hB3 : 2 * B * 2 ^ j = 256 := by rw [← b3, Nat.pow_succ, Nat.mul_comm (2 ^ j) 2, ← Nat.mul_assoc, Nat.mul_comm B 2]
      obtain ⟨xq, hxq⟩ : ∃ xq, xq = x / 2 ^ j := ⟨_, rfl⟩
      have hxI2 : (x : Int) / 2 ^ j = (xq : Int) := by rw [hxq]; simp
      have hxl : xq ≤ x := by rw [hxq]; exact Nat.div_le_self _ _
      obtain ⟨oq, hoq⟩ : ∃ oq, oq = other / 2 ^ j := ⟨_, rfl⟩
      have hoI2 : (other : Int) / 2 ^ j = (oq : Int) := by rw [hoq]; simp
      have hol : oq ≤ other := by rw [hoq]; exact Nat.div_le_self _ _
      rw [← hxq, ← hoq] at b4 b5
      clear hxq hoq
      obtain ⟨bt, hbt⟩ : ∃ bt, bt = xq % 2 := ⟨_, rfl⟩
      obtain ⟨lk, hlk⟩ : ∃ lk, lk = oq % 2 := ⟨_, rfl⟩
      have hand : bits .and .u8 (xq : Int) 1 = (bt : Int) := by
        have := u8_and_nat xq 1 (by omega) (by omega)
        rw [Nat.and_one_is_mod, ← hbt] at this
        exact this
      have hand2 : bits .and .u8 (oq : Int) 1 = (lk : Int) := by
        have := u8_and_nat oq 1 (by omega) (by omega)
        rw [Nat.and_one_is_mod, ← hlk] at this
        exact this
      rw [← hbt, ← hlk] at b4 b5
      have hb1 : bt ≤ 1 := by omega
      have hl1 : lk ≤ 1 := by omega
      have hjI : (j : Int) < 32 := by omega
      obtain ⟨t, ht⟩ : ∃ t : Nat, t = (1 + lk) * 256 + q := ⟨_, rfl⟩
      have htI : (1 + (lk : Int)) * 256 + (q : Int) = (t : Int) := by omega
      have htl : (t : Int) < (len : Int) := by omega
      rw [← ht] at b4 b5
      have b6 := b6.drew
      have HC := hid (bit_any sb eb o len cap t bt s z v' wr.drew b6.pe (by have := b5; unfold Room at this; omega) h8 (by omega) (by omega) h48)
      obtain ⟨q', hq'⟩ : ∃ q' : Nat, q' = 2 * q + bt := ⟨_, rfl⟩
      have hqI : 2 * (q : Int) + (bt : Int) = (q' : Int) := by omega
      rw [← hq'] at b4 b5
      have HN := (show Hid (2 * B ≤ q' ∧ q' < 2 * (2 * B) ∧ 2 * B * 2 ^ j = 256 ∧ runA (if bt = lk then likeA o other j q' x else walkA o j q' x) (runA [bitA (o + t) bt] z) = R ∧ Room (runA [bitA (o + t) bt] z) (if bt = lk then likeA o other j q' x else walkA o j q' x) ∧ Wrote w wr.drew sb eb s z v v') from
        ⟨by omega, by omega, hB3, by rw [← runA_app]; exact b4, b5.right, b6⟩)
      have hq5 : q' < 512 := by omega
      clear b1 b2 b3 b4 b5 b6 HQ hbt hlk ht hB3 hq'
      by_cases hbl : bt = lk
      · have hbl2 : ((bt : Int) != (lk : Int)) = false := by simp [hbl]
        rw [if_pos hbl] at HN
        clear hbl
        go_wp2_with fail
        go_region
        go_wp2_with fail
        refine HC.out.mono ?_
        rintro r w1 ⟨rfl, v1, hw1⟩
        have HG := (show Hid (∃ (B : Nat) (z : Ex) (v' : Value), B ≤ q' ∧ q' < 2 * B ∧ B * 2 ^ j = 256 ∧ Wlk w w1 sb eb s v v' R z (likeA o other j q' x)) from
          ⟨2 * B, _, v1, HN.out.1, HN.out.2.1, HN.out.2.2.1, HN.out.2.2.2.1, HN.out.2.2.2.2.1, HN.out.2.2.2.2.2.trans hw1⟩)
        clear hw1 HN HC
        go_wp2_with fail
        go_roundw
        case rel => exact ⟨j, q', by go_num, rfl, by omega, hq5, HG⟩
        case measure => simp [intOf]
      · have hbl2 : ((bt : Int) != (lk : Int)) = true := by simp; omega
        rw [if_neg hbl] at HN
        clear hbl
        go_wp2_with fail
        go_region
        go_wp2_with fail
        refine HC.out.mono ?_
        rintro r w1 ⟨rfl, v1, hw1⟩
        have HW := hid (walk_any sb eb o len cap j q' (2 * B) x s _ v1 w1 hw1.pe HN.out.2.2.2.2.1 (by omega) (by omega) HN.out.1 HN.out.2.1 h8 (by rw [HN.out.2.2.1]; omega) (by rw [HN.out.2.2.1]; omega) h48)
        unfold Writes at HW
        rw [HN.out.2.2.2.1] at HW
        have HG := (show Hid (Wrote w w1 sb eb s (runA [bitA (o + t) bt] z) v v1) from HN.out.2.2.2.2.2.trans hw1)
        clear hw1 HN HC
        generalize runA [bitA (o + t) bt] z = z1 at *
        go_wp2_with fail
        refine HW.out.mono ?_
        rintro r w2 ⟨rfl, v2, hw2⟩
        have HF := (show Hid (∃ v', Wrote w w2 sb eb s R v v') from ⟨v2, HG.out.trans hw2⟩)
        clear hw2 HG HW
        go_wp2_with fail
        exact bodyPost_ret (results_none rfl _ _ _) rfl ⟨rfl, HF.out⟩

end Go.Proofs.YtnokemcogjoonaaGreat.Pt

namespace Go.Proofs.YtnokemcogjoonaaGreat.Pt
open Go.RowKit Go.Shelf
set_option linter.unusedVariables false

theorem Room.one {x : Ex} {L : List Act} (h : Room x L) : manyE x.e ≤ 999990 := by unfold Room at h; omega
set_option maxHeartbeats 2000000 in
theorem length_any (sb eb L p len : Nat) (s : Se) (y : Ex) (v : Value) (w : World) (h : Pe w sb eb s y v) (hr : Room y (lenA L p len)) (h8 : 8 ≤ L) (hL : L + 514 ≤ 14143) (hp : p < 16) (h2 : 2 ≤ len) (h3 : len ≤ 273) :
    Writes 63 #[.pointer (some ⟨sb, L, none⟩), .pointer (some ⟨eb, 0, none⟩), .int .i64 (p : Int), .int .i64 (len : Int)] w sb eb s y v (lenA L p len) := by
  unfold Writes
  have hpI : (p : Int) < 16 := by omega
  by_cases h10 : len < 10
  · have h10I : (len : Int) < 10 := by omega
    have hA : lenA L p len = [bitA L 0] ++ treeA (L + 2 + p * 8) (len - 2) 3 := by unfold lenA; rw [if_pos h10]; rfl
    rw [hA] at hr ⊢
    have H1 := hid (bit_any sb eb L 2 2 0 0 s y v w h hr.one h8 (by omega) (by omega) (by decide))
    have H2 := hid (fun W z v' (HP : Pe W sb eb s z v') (HR : Room z (treeA (L + 2 + p * 8) (len - 2) 3)) => tree_any sb eb (L + 2 + p * 8) 8 8 (len - 2) 3 s z v' W HP HR (by omega) (by omega) (by omega) (by omega) (by omega) (by decide))
    have HR := hid hr.right
    obtain ⟨q, hq⟩ : ∃ q, q = len - 2 := ⟨_, rfl⟩
    have hqI : (len : Int) - 2 = (q : Int) := by omega
    rw [← hq] at H2 HR ⊢
    rw [runA_app]
    clear h hr hA hq
    unfold Writes at H1 H2
    rw [show (((0 : Nat) : Int)) = (0 : Int) from rfl, Nat.add_zero] at H1
    generalize runA [bitA L 0] y = y1 at *
    go_enter Tryz.func63, Tryz.ntmps63
    go_wp2_with fail
    refine H1.out.mono ?_
    rintro r w1 ⟨rfl, v1, hw1⟩
    have H3 := hid (H2.out w1 _ v1 hw1.pe HR.out)
    rw [show (((3 : Nat) : Int)) = (3 : Int) from rfl] at H3
    have HG := hid hw1
    clear hw1 H1 H2 HR
    go_wp2_with fail
    refine H3.out.mono ?_
    rintro r w2 ⟨rfl, v2, hw2⟩
    have HF := (show Hid (∃ v', Wrote w w2 sb eb s (runA (treeA (L + 2 + p * 8) q 3) y1) v v') from ⟨v2, HG.out.trans hw2⟩)
    clear hw2 HG H3
    go_wp2_with fail
    go_end0
    exact ⟨rfl, HF.out⟩
  · have h10I : ¬ (len : Int) < 10 := by omega
    by_cases h18 : len < 18
    · have h18I : (len : Int) < 18 := by omega
      have hA : lenA L p len = [bitA L 1] ++ ([bitA (L + 1) 0] ++ treeA (L + 130 + p * 8) (len - 10) 3) := by unfold lenA; rw [if_neg h10, if_pos h18]; rfl
      rw [hA] at hr ⊢
      have H1 := hid (bit_any sb eb L 2 2 0 1 s y v w h hr.one h8 (by omega) (by omega) (by decide))
      have H2 := hid (fun W z v' (HP : Pe W sb eb s z v') (HR : manyE z.e ≤ 999990) => bit_any sb eb L 2 2 1 0 s z v' W HP HR h8 (by omega) (by omega) (by decide))
      have H3 := hid (fun W z v' (HP : Pe W sb eb s z v') (HR : Room z (treeA (L + 130 + p * 8) (len - 10) 3)) => tree_any sb eb (L + 130 + p * 8) 8 8 (len - 10) 3 s z v' W HP HR (by omega) (by omega) (by omega) (by omega) (by omega) (by decide))
      have HR := hid hr.right.one
      have HR2 := hid hr.right.right
      obtain ⟨q, hq⟩ : ∃ q, q = len - 10 := ⟨_, rfl⟩
      have hqI : (len : Int) - 10 = (q : Int) := by omega
      rw [← hq] at H3 HR2 ⊢
      rw [runA_app, runA_app]
      clear h hr hA hq
      unfold Writes at H1 H2 H3
      rw [show (((0 : Nat) : Int)) = (0 : Int) from rfl, show (((1 : Nat) : Int)) = (1 : Int) from rfl, Nat.add_zero] at H1
      rw [show (((0 : Nat) : Int)) = (0 : Int) from rfl, show (((1 : Nat) : Int)) = (1 : Int) from rfl] at H2
      rw [show (((3 : Nat) : Int)) = (3 : Int) from rfl] at H3
      generalize runA [bitA L 1] y = y1 at *
      go_enter Tryz.func63, Tryz.ntmps63
      go_wp2_with fail
      refine H1.out.mono ?_
      rintro r w1 ⟨rfl, v1, hw1⟩
      have H4 := hid (H2.out w1 _ v1 hw1.pe HR.out)
      have HG := hid hw1
      clear hw1 H1 H2 HR
      go_wp2_with fail
      refine H4.out.mono ?_
      rintro r w2 ⟨rfl, v2, hw2⟩
      have H5 := hid (H3.out w2 _ v2 hw2.pe HR2.out)
      have HG2 := hid (HG.out.trans hw2)
      clear hw2 H4 H3 HR2 HG
      go_wp2_with fail
      refine H5.out.mono ?_
      rintro r w3 ⟨rfl, v3, hw3⟩
      have HF := (show Hid (∃ v', Wrote w w3 sb eb s (runA (treeA (L + 130 + p * 8) q 3) (runA [bitA (L + 1) 0] y1)) v v') from ⟨v3, HG2.out.trans hw3⟩)
      clear hw3 HG2 H5
      go_wp2_with fail
      go_end0
      exact ⟨rfl, HF.out⟩
    · have h18I : ¬ (len : Int) < 18 := by omega
      have hA : lenA L p len = [bitA L 1] ++ ([bitA (L + 1) 1] ++ treeA (L + 258) (len - 18) 8) := by unfold lenA; rw [if_neg h10, if_neg h18]; rfl
      rw [hA] at hr ⊢
      have H1 := hid (bit_any sb eb L 2 2 0 1 s y v w h hr.one h8 (by omega) (by omega) (by decide))
      have H2 := hid (fun W z v' (HP : Pe W sb eb s z v') (HR : manyE z.e ≤ 999990) => bit_any sb eb L 2 2 1 1 s z v' W HP HR h8 (by omega) (by omega) (by decide))
      have H3 := hid (fun W z v' (HP : Pe W sb eb s z v') (HR : Room z (treeA (L + 258) (len - 18) 8)) => tree_any sb eb (L + 258) 256 256 (len - 18) 8 s z v' W HP HR (by omega) (by omega) (by omega) (by omega) (by omega) (by decide))
      have HR := hid hr.right.one
      have HR2 := hid hr.right.right
      obtain ⟨q, hq⟩ : ∃ q, q = len - 18 := ⟨_, rfl⟩
      have hqI : (len : Int) - 18 = (q : Int) := by omega
      rw [← hq] at H3 HR2 ⊢
      rw [runA_app, runA_app]
      clear h hr hA hq
      unfold Writes at H1 H2 H3
      rw [show (((0 : Nat) : Int)) = (0 : Int) from rfl, show (((1 : Nat) : Int)) = (1 : Int) from rfl, Nat.add_zero] at H1
      rw [show (((1 : Nat) : Int)) = (1 : Int) from rfl] at H2
      rw [show (((8 : Nat) : Int)) = (8 : Int) from rfl] at H3
      generalize runA [bitA L 1] y = y1 at *
      go_enter Tryz.func63, Tryz.ntmps63
      go_wp2_with fail
      refine H1.out.mono ?_
      rintro r w1 ⟨rfl, v1, hw1⟩
      have H4 := hid (H2.out w1 _ v1 hw1.pe HR.out)
      have HG := hid hw1
      clear hw1 H1 H2 HR
      go_wp2_with fail
      refine H4.out.mono ?_
      rintro r w2 ⟨rfl, v2, hw2⟩
      have H5 := hid (H3.out w2 _ v2 hw2.pe HR2.out)
      have HG2 := hid (HG.out.trans hw2)
      clear hw2 H4 H3 HR2 HG
      go_wp2_with fail
      refine H5.out.mono ?_
      rintro r w3 ⟨rfl, v3, hw3⟩
      have HF := (show Hid (∃ v', Wrote w w3 sb eb s (runA (treeA (L + 258) q 8) (runA [bitA (L + 1) 1] y1)) v v') from ⟨v3, HG2.out.trans hw3⟩)
      clear hw3 HG2 H5
      go_wp2_with fail
      go_end0
      exact ⟨rfl, HF.out⟩

/-! How many bits a number has. -/
def lenN (x : Nat) : Nat := if x = 0 then 0 else Nat.log2 x + 1
theorem lenN_shift (x : Nat) (h : 256 ≤ x) : lenN x = 8 + lenN (x / 256) := by
  have h0 : x / 256 ≠ 0 := by omega
  have hx0 : x ≠ 0 := by omega
  unfold lenN
  rw [if_neg h0, if_neg hx0]
  have l1 : 2 ^ Nat.log2 (x / 256) ≤ x / 256 := Nat.log2_self_le h0
  have l2 : x / 256 < 2 ^ (Nat.log2 (x / 256) + 1) := Nat.lt_log2_self
  generalize Nat.log2 (x / 256) = k at *
  rw [Nat.pow_succ] at l2
  rw [(Nat.log2_eq_iff hx0 (k := k + 8)).2 ⟨by rw [Nat.pow_add]; omega, by rw [Nat.pow_succ, Nat.pow_add]; omega⟩]
  omega
set_option maxRecDepth 100000 in
set_option maxHeartbeats 1000000 in
/-- math/bits.Len32 of a number below 2^16. -/
theorem len32_any (x : Nat) (hx : x < 65536) (w : World) : Calls Tryz.prog 105 #[.int .u32 (x : Int)] w fun e w' => e = .returned (.int .i64 ((lenN x : Nat) : Int)) ∧ w' = w := by
  have g2 : ¬ (65536 : Int) ≤ (x : Int) := by omega
  by_cases h : x < 256
  · have g3 : ¬ (256 : Int) ≤ (x : Int) := by omega
    go_enter Tryz.func105, Tryz.ntmps105
    go_wp2
    go_ret
    refine ⟨congrArg (fun x => Ending.returned (Value.int .i64 x)) ?_, rfl⟩
    clear w g2 hx
    revert g3 h
    revert x
    decide +kernel
  · have g3 : (256 : Int) ≤ (x : Int) := by omega
    have hs := lenN_shift x (by omega)
    obtain ⟨y, hy⟩ : ∃ y, y = x / 256 := ⟨_, rfl⟩
    have hd : (x : Int) / 2 ^ 8 = (y : Int) := by omega
    have hd' : (x : Int) / 256 = (y : Int) := by omega
    rw [← hy] at hs
    have hy2 : y < 256 := by omega
    have hyI : (y : Int) < 256 := by omega
    generalize lenN x = lx at hs ⊢
    have HS := (show Hid _ from hs)
    have HY := (show Hid _ from hy)
    clear hs hy
    go_enter Tryz.func105, Tryz.ntmps105
    go_wp2
    go_ret
    refine ⟨congrArg (fun x => Ending.returned (Value.int .i64 x)) ?_, rfl⟩
    rw [HS.out]
    clear w g2 hx g3 HS HY hd hd' h lx x
    revert hyI hy2
    revert y
    decide +kernel

end Go.Proofs.YtnokemcogjoonaaGreat.Pt

namespace Go.Proofs.YtnokemcogjoonaaGreat.Pt
open Go.RowKit Go.Shelf
set_option linter.unusedVariables false

set_option maxHeartbeats 2000000 in
theorem slotOf_any (far : Nat) (hf : far < 65536) (w : World) : Calls Tryz.prog 86 #[.int .u32 (far : Int)] w fun e w' => e = .returned (.tuple #[.int .i64 ((slotN far : Nat) : Int), .int .u32 ((baseN far : Nat) : Int), .int .i64 ((lowK far : Nat) : Int)]) ∧ Keep noBlock w w' := by
  have hfI : (far : Int) < 4294967296 := by omega
  by_cases h4 : far < 4
  · have h4I : (far : Int) < 4 := by omega
    have e1 : slotN far = far := by unfold slotN; rw [if_pos h4]
    have e2 : baseN far = far := by unfold baseN; rw [if_pos h4]
    have e3 : lowK far = 0 := by unfold lowK; rw [if_pos h4]
    rw [e1, e2, e3]
    clear e1 e2 e3
    go_enter Tryz.func86, Tryz.ntmps86
    go_wp2_with fail
    exact bodyPost_ret (v := .tuple #[.int .i64 (far : Int), .int .u32 (far : Int), .int .i64 0]) (by simp [results, Tryz.results86]) rfl ⟨rfl, Keep.refl _ _⟩
  · have h4I : ¬ (far : Int) < 4 := by omega
    obtain ⟨a1, a2, a3, a4, a5⟩ := slot_facts far h4 (by omega)
    have hL : lenN far = lowK far + 2 := by
      have h0 : far ≠ 0 := by omega
      have : 2 ≤ Nat.log2 far := (Nat.le_log2 h0).2 (by omega)
      unfold lenN lowK
      rw [if_neg h0, if_neg h4]
      omega
    have es : slotN far = 2 * lowK far + far / 2 ^ lowK far := by unfold slotN; rw [if_neg h4]
    have eb : baseN far = far / 2 ^ lowK far * 2 ^ lowK far := by unfold baseN; rw [if_neg h4]
    have HC := hid (len32_any far hf)
    rw [hL] at HC
    have hbl : baseN far < 65536 := by omega
    generalize lowK far = k at *
    obtain ⟨hi, hhi⟩ : ∃ hi, hi = far / 2 ^ k := ⟨_, rfl⟩
    have hiI : (far : Int) / 2 ^ k = (hi : Int) := by rw [hhi]; simp
    rw [← hhi] at es eb a3
    have kI : (((k + 2 : Nat)) : Int) - 2 = (k : Int) := by omega
    have kI2 : (k : Int) < 32 := by omega
    have hiB : (hi : Int) < 4 := by omega
    have bI : (hi : Int) * 2 ^ k % 4294967296 = ((baseN far : Nat) : Int) := by
      rw [show (hi : Int) * 2 ^ k = ((hi * 2 ^ k : Nat) : Int) from by simp, ← eb]
      omega
    have bI2 : (hi : Int) * 2 ^ k = ((baseN far : Nat) : Int) := by
      rw [show (hi : Int) * 2 ^ k = ((hi * 2 ^ k : Nat) : Int) from by simp, ← eb]
    have hblI : ((baseN far : Nat) : Int) < 65536 := by omega
    have HS := hid es
    clear a4 a5 eb hL hhi es a3 bI
    generalize baseN far = bs at *
    go_enter Tryz.func86, Tryz.ntmps86
    go_wp2_with (go_at_call 105; refine (HC.out _).mono ?_; rintro r w' ⟨rfl, hw⟩; obtain rfl := hw.symm)
    go_region
    go_wp2_with fail
    refine bodyPost_ret (v := .tuple #[.int .i64 (2 * (k : Int) + (hi : Int)), .int .u32 (bs : Int), .int .i64 (k : Int)]) (by simp [results, Tryz.results86]) rfl ⟨?_, (Keep.refl _ w).drew⟩
    rw [HS.out, show ((2 * k + hi : Nat) : Int) = 2 * (k : Int) + (hi : Int) from by omega]

/-- Bits that are as likely. -/
theorem dir_any (sb eb z k : Nat) (s : Se) (y : Ex) (v : Value) (w : World) (h : Pe w sb eb s y v) (hr : Room y [dirA z k]) (hz : z < 4294967296) (hk : k ≤ 32) :
    Writes 88 #[.pointer (some ⟨eb, 0, none⟩), .int .u32 (z : Int), .int .i64 (k : Int)] w sb eb s y v [dirA z k] := by
  unfold Writes
  have hb : bitsN (k : Int) = k := by unfold bitsN; omega
  have H := directE_any eb z (k : Int) y.e v w h.en h.good.ok hz (by unfold Room at hr; simp [costA, dirA] at hr; omega)
  rw [hb] at H
  refine H.mono ?_
  rintro r w1 ⟨rfl, v1, a1, a2, a3⟩
  refine ⟨rfl, v1, ⟨h.st.keep a3 ?_, a1, dirE_good _ _ h.good⟩, a2, a3.mono ?_⟩
  · rintro (e | e)
    · exact h.ne e
    · exact h.nv e
  · rintro i hi (e | e)
    · exact .inr (.inl e)
    · exact .inr (.inr e)
/-- Behind a call that has turned nothing. -/
theorem Wrote.keep {w w1 w2 : World} {sb eb : Nat} {s : Se} {x : Ex} {v v1 : Value} (h : Wrote w w1 sb eb s x v v1) (k : Keep noBlock w1 w2) : Wrote w w2 sb eb s x v v1 :=
  ⟨h.pe.keep k (fun h => h) (fun h => h) (fun _ _ h => h), h.near, h.kp.trans k (fun _ _ h => h.elim)⟩
section
attribute [local go_sem] minSem_eq
set_option maxRecDepth 20000 in
set_option maxHeartbeats 4000000 in
theorem distance_any (sb eb len far : Nat) (s : Se) (y : Ex) (v : Value) (w : World) (h : Pe w sb eb s y v) (hr : Room y (distA len far)) (h2 : 2 ≤ len) (h3 : len ≤ 273) (hf : far < 65536) :
    Writes 64 #[.pointer (some ⟨sb, 13756, none⟩), .pointer (some ⟨eb, 0, none⟩), .int .i64 (len : Int), .int .u32 (far : Int)] w sb eb s y v (distA len far) := by
  unfold Writes
  obtain ⟨m, hm⟩ : ∃ m : Nat, m = min len 5 := ⟨_, rfl⟩
  obtain ⟨q, hq⟩ : ∃ q : Nat, q = min len 5 - 2 := ⟨_, rfl⟩
  have hmin := minSem_run .i64 #[3, 3] 3 (len : Int) 5 (m : Int) (by omega)
  have hqI : (m : Int) - 2 = (q : Int) := by omega
  have hq4 : q < 4 := by omega
  have hq4I : (q : Int) < 4 := by omega
  have hfI : (far : Int) < 65536 := by omega
  have HC := hid (slotOf_any far hf w)
  have hsl := slot_lt far (by omega)
  have HFx := hid (fun h4 => slot_facts far h4 (by omega))
  have hes : ¬ far < 4 → slotN far = 2 * lowK far + far / 2 ^ lowK far := fun h4 => by unfold slotN; rw [if_neg h4]
  have heb : ¬ far < 4 → baseN far = far / 2 ^ lowK far * 2 ^ lowK far := fun h4 => by unfold baseN; rw [if_neg h4]
  have hbl : baseN far ≤ far := by
    by_cases h4 : far < 4
    · unfold baseN; rw [if_pos h4]; exact Nat.le_refl _
    · exact (HFx.out h4).2.2.2.1
  have hs4 : slotN far < 4 ↔ far < 4 := by
    by_cases h4 : far < 4
    · unfold slotN; rw [if_pos h4]
    · obtain ⟨a1, a2, a3, -, -⟩ := HFx.out h4
      have := hes h4
      omega
  have hlk : ¬ far < 4 → 1 ≤ lowK far ∧ lowK far ≤ 30 := fun h4 => ⟨(HFx.out h4).1, (HFx.out h4).2.1⟩
  unfold distA at hr ⊢
  rw [← hq] at hr ⊢
  have HT := hid (fun W (HP : Pe W sb eb s y v) => tree_any sb eb (13756 + q * 64) 64 64 (slotN far) 6 s y v W HP hr.left (by omega) (by omega) (by omega) (by omega) (by omega) (by decide))
  unfold Writes at HT
  rw [show (((6 : Nat) : Int)) = (6 : Int) from rfl] at HT
  have HR := hid hr.right
  have HP := hid h
  obtain ⟨rs, hrs⟩ : ∃ rs, rs = far - baseN far := ⟨_, rfl⟩
  have hrsI : ((far : Int) - ((baseN far : Nat) : Int)) % 4294967296 = (rs : Int) := by omega
  have hrsI2 : (far : Int) - ((baseN far : Nat) : Int) = (rs : Int) := by omega
  have hrsB : rs < 65536 := by omega
  have hbsI : ((baseN far : Nat) : Int) < 65536 := by omega
  rw [runA_app]
  have HX := (show Hid ((¬ far < 4 → rs < 2 ^ lowK far) ∧ (¬ far < 4 → slotN far < 14 → slotN far ≤ baseN far ∧ baseN far - slotN far + 2 ^ lowK far ≤ 115 ∧ lowK far ≤ 5) ∧ (¬ far < 4 → ¬ slotN far < 14 → 6 ≤ lowK far)) from by
    refine ⟨fun h4 => by rw [hrs]; exact (HFx.out h4).2.2.2.2, fun h4 h14 => ?_, fun h4 h14 => ?_⟩
    · obtain ⟨a1, a2, a3, -, -⟩ := HFx.out h4
      have es := hes h4
      have eb := heb h4
      obtain ⟨k1, k2, k3, k4, k5⟩ := slot_bd (slotN far) (by omega) hsl
      have e1 : slotN far / 2 - 1 = lowK far := by omega
      have e2 : 2 + slotN far % 2 = far / 2 ^ lowK far := by omega
      have k6 := k4 h14
      rw [e1, e2, ← eb] at k6
      exact k6
    · obtain ⟨a1, a2, a3, -, -⟩ := HFx.out h4
      have es := hes h4
      omega)
  rw [← hrs] at HR ⊢
  generalize runA (treeA (13756 + q * 64) (slotN far) 6) y = y1 at *
  clear h hr hm hq hrs HFx hes heb
  generalize slotN far = sl at *
  generalize baseN far = bs at *
  generalize lowK far = k at *
  obtain ⟨M, hM⟩ : ∃ M, M = (if sl < 4 then [] else if sl < 14 then backA (14012 + (bs - sl)) k 0 1 rs else dirA (rs / 16) (k - 4) :: backA 14127 4 0 1 rs) := ⟨_, rfl⟩
  rw [← hM] at HR ⊢
  have HM := hid hM
  clear hM
  go_enter Tryz.func64, Tryz.ntmps64
  go_wp2_with fail
  refine HC.out.mono ?_
  rintro r w0 ⟨rfl, hk0⟩
  have HG0 := hid ((Wrote.refl HP.out).keep hk0)
  have HT1 := hid (HT.out w0 HG0.out.pe)
  clear hk0 HC HT
  go_wp2_with fail
  refine HT1.out.mono ?_
  rintro r w1 ⟨rfl, v1, hw1⟩
  have HG := hid (HG0.out.trans hw1)
  clear hw1 HT1 HG0 HP
  by_cases h4 : sl < 4
  · have h4I : (sl : Int) < 4 := by omega
    have HF := (show Hid (∃ v', Wrote w w1 sb eb s (runA M y1) v v') from by rw [HM.out, if_pos h4]; exact ⟨v1, HG.out⟩)
    clear HR HX HM HG
    go_wp2_with fail
    go_end0
    exact ⟨rfl, HF.out⟩
  · have h4I : ¬ (sl : Int) < 4 := by omega
    have hf4 : ¬ far < 4 := fun e => h4 (hs4.2 e)
    obtain ⟨x1, x2, x3⟩ := HX.out
    replace x1 := x1 hf4
    have hd4 : decide ((sl : Int) < 4) = false := decide_eq_false h4I
    obtain ⟨k1, k2⟩ := hlk hf4
    by_cases h14 : sl < 14
    · have h14I : (sl : Int) < 14 := by omega
      obtain ⟨y1', y2', y3'⟩ := x2 hf4 h14
      have hd14 : decide ((sl : Int) < 14) = true := decide_eq_true h14I
      obtain ⟨t, ht⟩ : ∃ t : Nat, t = bs - sl := ⟨_, rfl⟩
      have i7 : (bs : Int) - (sl : Int) = (t : Int) := by omega
      rw [← ht] at y2'
      have HM := hid (show M = backA (14012 + t) k 0 1 rs from by rw [HM.out, if_neg h4, if_pos h14, ht])
      rw [HM.out] at HR
      have hpk := Nat.two_pow_pos k
      have HB := hid (back_any sb eb (14012 + t) (115 - t) (115 - t) k rs s y1 v1 w1 HG.out.pe HR.out (by omega) (by omega) (by omega) (by omega) (by omega) (by omega))
      unfold Writes at HB
      have i9 : (t : Int) ≤ 115 := by omega
      have i11 : t < 115 := by omega
      have i12 : ¬ 115 = t := by omega
      clear HX x1 x2 x3 HR ht hlk hs4 y2' hpk hbl hrsI
      have i10 : (rs : Int) < 65536 := by omega
      go_wp2_with fail
      refine HB.out.mono ?_
      rintro r w2 ⟨rfl, v2, hw2⟩
      have HF := (show Hid (∃ v', Wrote w w2 sb eb s (runA M y1) v v') from by rw [HM.out]; exact ⟨v2, HG.out.trans hw2⟩)
      clear hw2 HG HB HM
      go_wp2_with fail
      go_end0
      exact ⟨rfl, HF.out⟩
    · have h14I : ¬ (sl : Int) < 14 := by omega
      have k6 := x3 hf4 h14
      have hd14 : decide ((sl : Int) < 14) = false := decide_eq_false h14I
      obtain ⟨hi, hhi⟩ : ∃ hi, hi = rs / 16 := ⟨_, rfl⟩
      obtain ⟨k4, hk4⟩ : ∃ k4, k4 = k - 4 := ⟨_, rfl⟩
      have HM := (show Hid (M = [dirA hi k4] ++ backA 14127 4 0 1 rs) from by rw [HM.out, if_neg h4, if_neg h14, hhi, hk4]; rfl)
      rw [HM.out] at HR
      have j1 : (rs : Int) / 16 = (hi : Int) := by omega
      have j2 : (k : Int) - 4 = (k4 : Int) := by omega
      have HD := hid (dir_any sb eb hi k4 s y1 v1 w1 HG.out.pe HR.out.left (by omega) (by omega))
      unfold Writes at HD
      have HR2 := hid HR.out.right
      have HM := hid (show runA M y1 = runA (backA 14127 4 0 1 rs) (runA [dirA hi k4] y1) from by rw [HM.out, runA_app])
      have i10 : (rs : Int) < 65536 := by omega
      clear HX x1 x2 x3 HR hhi hk4 hlk hs4 hbl hrsI
      generalize runA [dirA hi k4] y1 = y2 at *
      go_wp2_with fail
      refine HD.out.mono ?_
      rintro r w2 ⟨rfl, v2, hw2⟩
      have HG2 := hid (HG.out.trans hw2)
      have HB := hid (back_any sb eb 14127 16 16 4 rs s y2 v2 w2 HG2.out.pe HR2.out (by omega) (by omega) (by omega) (by decide) (by decide) (by decide))
      unfold Writes at HB
      rw [show (((4 : Nat) : Int)) = (4 : Int) from rfl] at HB
      clear hw2 HD HG HR2
      go_wp2_with fail
      refine HB.out.mono ?_
      rintro r w3 ⟨rfl, v3, hw3⟩
      have HF := (show Hid (∃ v', Wrote w w3 sb eb s (runA M y1) v v') from by rw [HM.out]; exact ⟨v3, HG2.out.trans hw3⟩)
      clear hw3 HG2 HB HM
      go_wp2_with fail
      go_end0
      exact ⟨rfl, HF.out⟩
end

end Go.Proofs.YtnokemcogjoonaaGreat.Pt

namespace Go.Proofs.YtnokemcogjoonaaGreat
open Go.RowKit Go.Shelf
set_option linter.unusedVariables false

theorem or_i64_16 : ∀ p q : Fin 16, bits .or .i64 ((p.val : Nat) : Int) ((q.val : Nat) : Int) = (((p.val ||| q.val : Nat)) : Int) := by decide
theorem atW_lt {win : List Nat} (h : ∀ j : Nat, win[j]?.getD 0 < 256) (back : Nat) : atW win back < 256 := by
  unfold atW
  split
  · exact h _
  · omega
/-- The byte that stands so far back, or 0. -/
theorem at_any (wb lb sz : Nat) (rv : Value) (win : List Nat) (back : Nat) (hb : 1 ≤ back) (w : World) (h : IsW w wb lb sz rv win) :
    Calls Tryz.prog 96 #[.pointer (some ⟨wb, 0, none⟩), .int .i64 (back : Int)] w fun e w' => e = .returned (.tuple #[.int .u8 ((atW win back : Nat) : Int), .bool (decide (back ≤ win.length))]) ∧ ∃ n, w' = w.drewN n := by
  by_cases hle : back ≤ win.length
  · refine (at_ok wb lb sz rv win back w h hb hle).mono ?_
    rintro e w' ⟨rfl, hn⟩
    unfold atW
    rw [if_pos hle, decide_eq_true hle]
    exact ⟨rfl, hn⟩
  · obtain ⟨R, o, hr, rfl⟩ := h
    obtain ⟨a, cap, g, rfl, -, -⟩ := hr.form
    rw [unr_length] at hle
    refine (at_none wb a R.length cap (back : Int) w (cell_of hr.obj 2) (by omega)).mono ?_
    rintro e w' ⟨rfl, rfl⟩
    unfold atW
    rw [unr_length, if_neg hle, decide_eq_false hle]
    exact ⟨rfl, 0, rfl⟩
theorem litT_parts (K : Ck) (s : Se) (win told : List Nat) (hw : ∀ j : Nat, win[j]?.getD 0 < 256) (h : s.lc + s.lp ≤ 4) :
    lowN K told s.lp < 16 ∧ lowN K told s.lp * 2 ^ s.lc < 16 ∧ lastN1 K win told < 256 ∧ lastN1 K win told / 2 ^ (8 - s.lc) < 2 ^ s.lc ∧ litT K s win told < 16 ∧
    bits .or .i64 ((lowN K told s.lp * 2 ^ s.lc : Nat) : Int) ((lastN1 K win told / 2 ^ (8 - s.lc) : Nat) : Int) = ((litT K s win told : Nat) : Int) := by
  have h1 : lowN K told s.lp < 2 ^ s.lp := Nat.mod_lt _ (Nat.two_pow_pos _)
  have h2 : lastN1 K win told < 256 := by
    unfold lastN1
    split
    · exact atW_lt hw 1
    · omega
  have h3 : lastN1 K win told / 2 ^ (8 - s.lc) < 2 ^ s.lc := by
    rw [Nat.div_lt_iff_lt_mul (Nat.two_pow_pos _), ← Nat.pow_add, show s.lc + (8 - s.lc) = 8 from by omega]
    exact h2
  have h4 : (lowN K told s.lp + 1) * 2 ^ s.lc ≤ 2 ^ s.lp * 2 ^ s.lc := Nat.mul_le_mul_right _ h1
  rw [← Nat.pow_add] at h4
  have h5 : 2 ^ (s.lp + s.lc) ≤ 2 ^ 4 := Nat.pow_le_pow_right (by decide) (by omega)
  rw [Nat.add_mul, Nat.one_mul] at h4
  have h6 : 2 ^ s.lp ≤ 2 ^ 4 := Nat.pow_le_pow_right (by decide) (by omega)
  have h7 : litT K s win told = lowN K told s.lp * 2 ^ s.lc + lastN1 K win told / 2 ^ (8 - s.lc) := rfl
  rw [h7]
  have h8 := nat_join s.lc (lowN K told s.lp * 2 ^ s.lc) (lastN1 K win told / 2 ^ (8 - s.lc)) (Nat.mul_mod_left _ _) h3
  generalize lastN1 K win told / 2 ^ (8 - s.lc) = Q at *
  generalize hP : lowN K told s.lp * 2 ^ s.lc = P at *
  generalize 2 ^ s.lc = c at *
  generalize 2 ^ (s.lp + s.lc) = cc at *
  generalize 2 ^ s.lp = cp at *
  have h9 := or_i64_16 ⟨P, by omega⟩ ⟨Q, by omega⟩
  dsimp only at h9
  rw [h8] at h9
  exact ⟨by omega, by omega, h2, h3, by omega, h9⟩

theorem drewN_two (w : World) (a b : Nat) : (w.drewN a).drewN b = w.drewN (a + b) := by
  induction b with
  | zero => rfl
  | succ b ih => rw [← World.drew_drewN, ih, World.drew_drewN, Nat.add_assoc]
/-- The last step: the tree's number. -/
theorem tree_form (K : Ck) (s : Se) (win told : List Nat) (hw : ∀ j : Nat, win[j]?.getD 0 < 256) (h : s.lc + s.lp ≤ 4) :
    ∃ A P L e Q T : Nat, A = lowN K told s.lp ∧ L = lastN1 K win told ∧ T = litT K s win told ∧ A < 16 ∧ L < 256 ∧ T < 16 ∧ P < 16 ∧ (8 : Int) - (s.lc : Int) = (e : Int) ∧ e ≤ 8 ∧ (A : Int) * 2 ^ s.lc = (P : Int) ∧ (L : Int) / 2 ^ e = (Q : Int) ∧ bits .or .i64 (P : Int) (Q : Int) = (T : Int) := by
  obtain ⟨p1, p2, p3, p4, p5, p6⟩ := litT_parts K s win told hw h
  refine ⟨_, lowN K told s.lp * 2 ^ s.lc, _, 8 - s.lc, lastN1 K win told / 2 ^ (8 - s.lc), _, rfl, rfl, rfl, p1, p3, p5, p2, by omega, by omega, by simp, by simp, p6⟩

set_option maxHeartbeats 2000000 in
theorem literalTree_any (G : Rg) (rv tv : Value) (s : Se) (x : Cx) (win told : List Nat) (w : World) (h : Rd G w rv tv s x win told) :
    Calls Tryz.prog 93 #[.pointer (some ⟨G.rb, 0, none⟩)] w fun e w' => e = .returned (.int .i64 ((litT G.K s win told : Nat) : Int)) ∧ ∃ n, w' = w.drewN n := by
  obtain ⟨A, P, L, ex, Q, T, hA, hL, hT, a1, a2, a3, a4, a5, a6, a7, a8, a9⟩ := tree_form G.K s win told h.wi.lt h.pr.st.ok.lc
  have hlc := h.pr.st.ok.lc
  have hlc4 : s.lc ≤ 4 := by omega
  have hlp4 : s.lp ≤ 4 := by omega
  have HA := hid (at_any G.wb G.lb G.K.size rv win 1 (by omega) w h.wi)
  have HLo := hid (fun k n : Nat => lowest_any G rv tv s x win told s.lp (by omega) ((w.drewN k).drewN n) ((h.kept (keep_drewN w k)).kept (keep_drewN _ n)))
  have HLp := hid (fun n : Nat => lowest_any G rv tv s x win told s.lp (by omega) (w.drewN n) (h.kept (keep_drewN w n)))
  rw [← hA] at HLo HLp
  rw [← hT]
  have HL := hid hL
  obtain ⟨c0, -, c2, c3, -, c5, cf⟩ := h.cells
  obtain ⟨f0, f1, -, -, -⟩ := h.pr.st.first
  obtain ⟨ta, tc, rfl⟩ := h.tform
  have hl0 : told.length = 0 ∨ 0 < told.length := by omega
  clear h hA hT hL hlc
  unfold lastN1 at HL
  generalize s.lc = lc at *
  generalize s.lp = lp at *
  generalize atW win 1 = L1 at *
  generalize told.length = n at *
  generalize G.K.ahead = ah at *
  cases ah with
  | true =>
    obtain rfl : L = L1 := by simpa using HL.out
    go_enter Tryz.func93, Tryz.ntmps93
    go_wp2_with fail
    refine HA.out.mono ?_
    rintro e w1 ⟨rfl, k, hk⟩
    have HL2 := HLo.out k
    rw [← hk] at HL2
    have HL2 := hid HL2
    have d0 : w1.cell? ⟨G.rb, 0, none⟩ = some (.pointer (some ⟨G.sb, 0, none⟩)) := by rw [hk]; exact (World.cell?_drewN w k _).trans c0
    have d1 : w1.cell? ⟨G.sb, 0, none⟩ = some (.int .i64 (lc : Int)) := by rw [hk]; exact (World.cell?_drewN w k _).trans f0
    have d2 : w1.cell? ⟨G.sb, 1, none⟩ = some (.int .i64 (lp : Int)) := by rw [hk]; exact (World.cell?_drewN w k _).trans f1
    have HK := hid hk
    clear HA hk
    go_wp2_with fail
    go_quiet (first | (go_at_call 72; refine Calls.quiet_of (HL2.out _)))
    go_wp2_with fail
    go_ret
    exact ⟨rfl, _, by first | rfl | (rw [HK.out]; exact drewN_two _ _ _)⟩
  | false =>
    rcases hl0 with rfl | hl0
    · obtain rfl : L = 0 := by simpa using HL.out
      rw [show (((0 : Nat) : Int)) = (0 : Int) from rfl] at a8
      go_enter Tryz.func93, Tryz.ntmps93
      go_wp2_with fail
      go_quiet (first | (go_at_call 72; refine Calls.quiet_of (HLp.out _)))
      go_wp2_with fail
      go_ret
      exact ⟨rfl, _, by first | rfl | (rw [HK.out]; exact drewN_two _ _ _)⟩
    · obtain rfl : L = L1 := by simpa [hl0] using HL.out
      have hlI : (0 : Int) < (n : Int) := by omega
      go_enter Tryz.func93, Tryz.ntmps93
      go_wp2_with fail
      refine HA.out.mono ?_
      rintro e w1 ⟨rfl, k, hk⟩
      have HL2 := HLo.out k
      rw [← hk] at HL2
      have HL2 := hid HL2
      have d0 : w1.cell? ⟨G.rb, 0, none⟩ = some (.pointer (some ⟨G.sb, 0, none⟩)) := by rw [hk]; exact (World.cell?_drewN w k _).trans c0
      have d1 : w1.cell? ⟨G.sb, 0, none⟩ = some (.int .i64 (lc : Int)) := by rw [hk]; exact (World.cell?_drewN w k _).trans f0
      have d2 : w1.cell? ⟨G.sb, 1, none⟩ = some (.int .i64 (lp : Int)) := by rw [hk]; exact (World.cell?_drewN w k _).trans f1
      have HK := hid hk
      clear HA hk
      go_wp2_with fail
      go_quiet (first | (go_at_call 72; refine Calls.quiet_of (HL2.out _)))
      go_wp2_with fail
      go_ret
      exact ⟨rfl, _, by first | rfl | (rw [HK.out]; exact drewN_two _ _ _)⟩

theorem litM_lo (K : Ck) (s : Se) (win told : List Nat) (x : Cx) (h : s.ph < 7) : litM K s win told x = readM (440 + litT K s win told * 768) 8 x := by unfold litM; rw [if_pos h]
theorem litM_hi (K : Ck) (s : Se) (win told : List Nat) (x : Cx) (h : ¬ s.ph < 7) : litM K s win told x = ((likeM (440 + litT K s win told * 768) (atW win (s.r0 + 1)) 8 1 x).1 - 256, (likeM (440 + litT K s win told * 768) (atW win (s.r0 + 1)) 8 1 x).2) := by unfold litM; rw [if_neg h]; rfl

set_option maxHeartbeats 2000000 in
theorem literal_any (G : Rg) (rv tv : Value) (s : Se) (x : Cx) (win told : List Nat) (w : World) (h : Rd G w rv tv s x win told) :
    Calls Tryz.prog 75 #[.pointer (some ⟨G.rb, 0, none⟩)] w fun e w' => e = .returned (.int .u8 (((litM G.K s win told x).1 : Nat) : Int)) ∧ (litM G.K s win told x).1 < 256 ∧ Rd G w' rv tv s (litM G.K s win told x).2 win told := by
  obtain ⟨-, -, -, -, p5, -⟩ := litT_parts G.K s win told h.wi.lt h.pr.st.ok.lc
  have HT := hid (fun n : Nat => literalTree_any G rv tv s x win told (w.drewN n) (h.kept (keep_drewN w n)))
  have HH := hid h
  obtain ⟨c0, -⟩ := h.cells
  have HM := (show Hid ((s.ph < 7 → litM G.K s win told x = readM (440 + litT G.K s win told * 768) 8 x) ∧ (¬ s.ph < 7 → litM G.K s win told x = ((likeM (440 + litT G.K s win told * 768) (atW win (s.r0 + 1)) 8 1 x).1 - 256, (likeM (440 + litT G.K s win told * 768) (atW win (s.r0 + 1)) 8 1 x).2))) from ⟨litM_lo _ _ _ _ _, litM_hi _ _ _ _ _⟩)
  have hph := h.pr.st.ok.ph
  clear h
  generalize litT G.K s win told = T at *
  generalize litM G.K s win told x = R at *
  have hTI : (T : Int) < 16 := by omega
  have hc := hid (copied_any s.ph hph)
  obtain ⟨-, -, -, f3, -⟩ := HH.out.pr.st.first
  obtain ⟨-, c1, c2, -⟩ := HH.out.cells
  obtain ⟨p, hp⟩ : ∃ p, p = s.ph := ⟨_, rfl⟩
  rw [← hp] at f3 hc HM hph
  clear hp
  by_cases h7 : p < 7
  · rw [decide_eq_true h7] at hc
    have HM1 := hid (HM.out.1 h7)
    have HR := hid (fun n : Nat => read8 G.sb G.db G.gb (440 + T * 768) 768 768 s x (w.drewN n) (HH.out.kept (keep_drewN w n)).pr (by omega) (by omega) (by omega) (by decide))
    clear HM h7
    go_enter Tryz.func75, Tryz.ntmps75
    go_wp2_with fail
    go_quiet (first | (go_at_call 93; refine Calls.quiet_of (HT.out _)))
    go_wp2_with (go_at_call 94; refine (hc.out _).mono ?_; rintro e w' ⟨rfl, rfl⟩)
    refine (HR.out _).mono ?_
    rintro e w2 ⟨rfl, g1, g2, g3⟩
    have HF := (show Hid (Rd G w2 rv tv s R.2 win told) from by rw [HM1.out]; exact (HH.out.kept (keep_drewN w _)).turn g2 g3)
    rw [← HM1.out] at g1 ⊢
    have hr : ((R.1 : Nat) : Int) % 256 = ((R.1 : Nat) : Int) := by omega
    clear g2 g3 HM1 HR HT
    generalize hz : R.1 = z at *
    have HZ := hid hz
    clear hz
    go_wp2_with fail
    go_ret
    rw [HZ.out]
    exact ⟨rfl, g1, HF.out⟩
  · rw [decide_eq_false h7] at hc
    have HM1 := hid (HM.out.2 h7)
    have hat := atW_lt HH.out.wi.lt (s.r0 + 1)
    clear HM h7
    go_enter Tryz.func75, Tryz.ntmps75
    go_wp2_with fail
    go_quiet (first | (go_at_call 93; refine Calls.quiet_of (HT.out _)))
    go_wp2_with (go_at_call 94; refine (hc.out _).mono ?_; rintro e w' ⟨rfl, rfl⟩)
    have HW := HH.out.kept (keep_drewN w nq)
    generalize w.drewN nq = W at *
    have HB := hid (fun k : Nat => backQ_any G rv tv s x win told (W.drewN k) (HW.kept (keep_drewN _ k)))
    have HA := hid (fun k : Nat => at_any G.wb G.lb G.K.size rv win (s.r0 + 1) (by omega) (W.drewN k) (HW.kept (keep_drewN _ k)).wi)
    have HR := hid (fun k : Nat => like_any G.sb G.db G.gb (440 + T * 768) 768 768 (atW win (s.r0 + 1)) s x (W.drewN k) (HW.kept (keep_drewN _ k)).pr hat (by omega) (by omega) (by omega) (by decide))
    obtain ⟨-, d1, d2, -⟩ := HW.cells
    have HW := hid HW
    clear c0 c1 c2 f3
    generalize atW win (s.r0 + 1) = other at *
    generalize s.r0 + 1 = bk at *
    go_quiet (first | (go_at_call 79; refine Calls.quiet_of (HB.out _)) | (go_at_call 96; refine Calls.quiet_of (HA.out _)))
    go_wp2_with fail
    refine (HR.out _).mono ?_
    rintro e w2 ⟨rfl, g1, g2, g3, g4⟩
    have HF := (show Hid (R.1 < 256 ∧ Rd G w2 rv tv s R.2 win told) from by rw [HM1.out]; exact ⟨by show _ - 256 < 256; omega, (HW.out.kept (keep_drewN _ _)).turn g3 g4⟩)
    have HM2 := congrArg (fun x => x.1) HM1.out
    dsimp only at HM2
    rw [← HM2]
    clear g1 g2 g3 g4 HM1 HM2 HR HT HB HA
    generalize hz : R.1 = z at *
    have HZ := hid hz
    clear hz
    go_wp2_with fail
    go_ret
    rw [HZ.out]
    exact ⟨rfl, HF.out⟩

end Go.Proofs.YtnokemcogjoonaaGreat

namespace Go.Proofs.YtnokemcogjoonaaGreat
open Go.RowKit Go.Shelf
set_option linter.unusedVariables false

theorem still_of_quiet {P : Program} {ops : Array Oper} {w : World} {Q : Go.Act → Prop} : ∀ (l : List Oper) (a : Go.Act), wpQuiet P ops (fun w' => w' = w) Q l a → wpStill P ops w Q l a
  | [], _, h => h
  | o :: l, a, h => by
    unfold wpQuiet at h
    unfold wpStill
    split
    · rename_i hw
      rw [if_pos hw] at h
      obtain ⟨v, h1, h2⟩ := h
      have h3 := h1 w rfl
      have h4 := still_of_quiet l _ h2
      unfold Oper.quietAt at h3
      unfold Oper.still
      generalize (execOp a.eval o).run P w = r at *
      cases r with
      | ok n w' =>
        cases n <;> simp only [Oper.quietUpon] at h3 <;> simp only [Oper.stillUpon]
        case value u =>
          obtain ⟨e1, e2⟩ := h3
          rw [e1, e2]
          exact ⟨rfl, h4⟩
        case skip =>
          obtain ⟨e1, e2⟩ := h3
          rw [e2] at h4
          exact ⟨e1, h4⟩
        case enter f args =>
          exact ⟨h3.1, v, h3.2, h4⟩
      | halt x w' => simp only [Oper.quietUpon] at h3
    · rename_i hw
      rw [if_neg hw] at h
      exact still_of_quiet l _ h
theorem region_tail {P : Program} {id : Nat} {Q : Exit → Go.Act → World → Prop} {a : Go.Act} {w : World} {l : List Oper} (n : Nat) (hm : P.follows .mixedOrders = true) (hB : Region.lexTailB .any l.toArray n = true)
    (h : wpQuiet P l.toArray (fun w' => w' = w.drew) (fun a' => wpList P l.toArray Q (l.drop n) a' w.drew) (l.take n) a) : (Code.region id l.toArray true).wp P Q a w :=
  wp_region_still_tail n hm hB (still_of_quiet _ _ h)
theorem mx : Tryz.prog.follows .mixedOrders = true := by kernel_rfl

end Go.Proofs.YtnokemcogjoonaaGreat

namespace Go.Proofs.YtnokemcogjoonaaGreat.Pt
open Go.RowKit Go.Shelf
set_option linter.unusedVariables false

/-- The blocks of a writer, and its text. -/
structure Wg where
  wb : Nat
  sb : Nat
  eb : Nat
  ta : Option Addr
  tc : Nat
  tg : Nat
  tf : Nat
  k : Tk
/-- Block wb is a writer. -/
structure Wt (G : Wg) (w : World) (s : Se) (x : Ex) (v : Value) (i : Nat) : Prop where
  obj : w.heap[G.wb]? = some (.cells #[.pointer (some ⟨G.sb, 0, none⟩), .pointer (some ⟨G.eb, 0, none⟩), .slice G.ta G.k.T.length G.tc, .int .i64 (G.k.fr : Int), .int .i64 (i : Int), .int .i64 (G.k.place : Int), .bool G.k.ahead] 76 (0, 0))
  pe : Pe w G.sb G.eb s x v
  tx : Bytes w G.ta G.tc G.tg G.tf G.k.T
  t1 : G.tg ≠ G.wb
  t2 : G.tg ≠ G.sb
  t3 : G.tg ≠ G.eb
  t4 : v.ownBlock ≠ some G.tg
  t0 : G.k.T ≠ []
  tl : G.k.T.length ≤ 65536
  fi : G.k.fr ≤ i
  il : i ≤ G.k.T.length
  pl : G.k.place < 16
/-- What a writer may turn. -/
def WS (G : Wg) (v : Value) (k : Nat) : Prop := k = G.wb ∨ PS G.sb G.eb v k
theorem Wt.ws {G : Wg} {w : World} {s : Se} {x : Ex} {v : Value} {i : Nat} (h : Wt G w s x v i) : G.wb ≠ G.sb ∧ G.wb ≠ G.eb ∧ v.ownBlock ≠ some G.wb :=
  ⟨fun e => h.pe.st.ne h.obj (by decide) e.symm, ne_of_type h.obj h.pe.en.obj (by decide), owns_ne h.pe.en.own h.obj (by decide)⟩
theorem Wt.tlt {G : Wg} {w : World} {s : Se} {x : Ex} {v : Value} {i : Nat} (h : Wt G w s x v i) : G.tg < w.heap.size := h.tx.block h.t0
theorem Wt.bytes {G : Wg} {w : World} {s : Se} {x : Ex} {v : Value} {i : Nat} (h : Wt G w s x v i) : ∀ j, byteT G.k.T j < 256 := h.tx.lt
theorem Wt.kept {G : Wg} {w w' : World} {s : Se} {x : Ex} {v : Value} {i : Nat} (h : Wt G w s x v i) (hk : Keep noBlock w w') : Wt G w' s x v i :=
  ⟨hk.obj h.obj (fun h => h), h.pe.keep hk (fun h => h) (fun h => h) (fun _ _ h => h), h.tx.keep hk (fun _ h => h), h.t1, h.t2, h.t3, h.t4, h.t0, h.tl, h.fi, h.il, h.pl⟩
/-- Behind acts. -/
theorem Wt.turn {G : Wg} {w w' : World} {s s' : Se} {x x' : Ex} {v v' : Value} {i : Nat} (h : Wt G w s x v i) (hw : Wrote w w' G.sb G.eb s' x' v v') : Wt G w' s' x' v' i := by
  obtain ⟨n1, n2, n3⟩ := h.ws
  refine ⟨hw.kp.obj h.obj ?_, hw.pe, h.tx.keep hw.kp (fun _ => ?_), h.t1, h.t2, h.t3, ?_, h.t0, h.tl, h.fi, h.il, h.pl⟩
  · rintro (e | e | e)
    · exact n1 e
    · exact n2 e
    · exact n3 e
  · rintro (e | e | e)
    · exact h.t2 e
    · exact h.t3 e
    · exact h.t4 e
  · rcases hw.near with q | ⟨k, q, hk⟩
    · rw [q]; exact h.t4
    · rw [q]
      intro e
      have : k = G.tg := by simpa using e
      have := h.tlt
      omega
theorem ps_ws {G : Wg} {v : Value} : ∀ i, PS G.sb G.eb v i → WS G v i := fun _ h => .inr h
/-- What lies in a writer. -/
theorem Wt.cells {G : Wg} {w : World} {s : Se} {x : Ex} {v : Value} {i : Nat} (h : Wt G w s x v i) :
    w.cell? ⟨G.wb, 0, none⟩ = some (.pointer (some ⟨G.sb, 0, none⟩)) ∧ w.cell? ⟨G.wb, 1, none⟩ = some (.pointer (some ⟨G.eb, 0, none⟩)) ∧ w.cell? ⟨G.wb, 2, none⟩ = some (.slice G.ta G.k.T.length G.tc) ∧ w.cell? ⟨G.wb, 3, none⟩ = some (.int .i64 (G.k.fr : Int)) ∧
    w.cell? ⟨G.wb, 4, none⟩ = some (.int .i64 (i : Int)) ∧ w.cell? ⟨G.wb, 5, none⟩ = some (.int .i64 (G.k.place : Int)) ∧ w.cell? ⟨G.wb, 6, none⟩ = some (.bool G.k.ahead) ∧ ∀ j, w.frozen? ⟨G.wb, j, none⟩ = false :=
  ⟨cell_of h.obj 0, cell_of h.obj 1, cell_of h.obj 2, cell_of h.obj 3, cell_of h.obj 4, cell_of h.obj 5, cell_of h.obj 6, fun j => frozen_of h.obj j⟩
/-- A byte of the text. -/
theorem Wt.byte {G : Wg} {w : World} {s : Se} {x : Ex} {v : Value} {i : Nat} (h : Wt G w s x v i) {j : Nat} (hj : j < G.k.T.length) : G.ta = some ⟨G.tg, G.tf, none⟩ ∧ w.cell? ⟨G.tg, G.tf + j, none⟩ = some (.int .u8 ((byteT G.k.T j : Nat) : Int)) :=
  ⟨h.tx.at_.resolve_right h.t0, h.tx.cells j hj⟩

/-! The state's number. -/
theorem copied_any (p : Nat) (hp : p < 12) (w : World) : Calls Tryz.prog 60 #[.int .u8 (p : Int)] w fun e w' => e = .returned (.bool (!decide (p < 7))) ∧ w' = w := by
  by_cases h : p < 7
  · have hI : ¬ 7 ≤ (p : Int) := by omega
    rw [decide_eq_true h]
    go_enter Tryz.func60, Tryz.ntmps60
    go_wp2
    go_ret
    exact ⟨rfl, rfl⟩
  · have hI : 7 ≤ (p : Int) := by omega
    rw [decide_eq_false h]
    go_enter Tryz.func60, Tryz.ntmps60
    go_wp2
    go_ret
    exact ⟨rfl, rfl⟩
/-- The state behind an operation of a kind. -/
def behK (p k : Nat) : Nat := if k = 0 then behB p else if k = 1 then behM p else behR p
def selK (k : Nat) (x y z : Int) : Int := if k = 0 then x else if k = 1 then y else z
theorem index_ph (k : Nat) (hk : k < 3) (x y z : Int) (W : World) : (Instr.index 152 (.agg #[.int .u8 x, .int .u8 y, .int .u8 z]) (.int .u8 (k : Int))).run Tryz.prog W = .ok (.int .u8 (selK k x y z)) W := by
  rcases (show k = 0 ∨ k = 1 ∨ k = 2 by omega) with rfl | rfl | rfl <;> kernel_rfl
set_option maxHeartbeats 4000000 in
theorem behind_i (p : Int) (k : Nat) (hk : k < 3) (x y z : Int) (h : (p, x, y, z) ∈ [((0 : Int), (0 : Int), (7 : Int), (8 : Int)), (1, 0, 7, 8), (2, 0, 7, 8), (3, 0, 7, 8), (4, 1, 7, 8), (5, 2, 7, 8), (6, 3, 7, 8), (7, 4, 10, 11), (8, 5, 10, 11), (9, 6, 10, 11), (10, 4, 10, 11), (11, 5, 10, 11)]) (w : World) :
    Calls Tryz.prog 46 #[.int .u8 p, .int .u8 (k : Int)] w fun e w' => e = .returned (.int .u8 (selK k x y z)) ∧ w' = w := by
  have hix := index_ph k hk
  clear hk
  simp only [List.mem_cons, List.not_mem_nil, or_false, Prod.mk.injEq] at h
  rcases h with ⟨rfl, rfl, rfl, rfl⟩ | ⟨rfl, rfl, rfl, rfl⟩ | ⟨rfl, rfl, rfl, rfl⟩ | ⟨rfl, rfl, rfl, rfl⟩ | ⟨rfl, rfl, rfl, rfl⟩ | ⟨rfl, rfl, rfl, rfl⟩ | ⟨rfl, rfl, rfl, rfl⟩ | ⟨rfl, rfl, rfl, rfl⟩ | ⟨rfl, rfl, rfl, rfl⟩ | ⟨rfl, rfl, rfl, rfl⟩ | ⟨rfl, rfl, rfl, rfl⟩ | ⟨rfl, rfl, rfl, rfl⟩
  all_goals
    go_enter Tryz.func46, Tryz.ntmps46
    go_wp2
    go_ret
    exact ⟨rfl, rfl⟩
theorem behind_any (p k : Nat) (hp : p < 12) (hk : k < 3) (w : World) : Calls Tryz.prog 46 #[.int .u8 (p : Int), .int .u8 (k : Int)] w fun e w' => e = .returned (.int .u8 ((behK p k : Nat) : Int)) ∧ w' = w := by
  have e : ((behK p k : Nat) : Int) = selK k ((behB p : Nat) : Int) ((behM p : Nat) : Int) ((behR p : Nat) : Int) := by
    unfold behK selK
    split
    · rfl
    · split <;> rfl
  rw [e]
  refine behind_i (p : Int) k hk _ _ _ ?_ w
  have h1 : p = 0 ∨ p = 1 ∨ p = 2 ∨ p = 3 ∨ p = 4 ∨ p = 5 ∨ p = 6 ∨ p = 7 ∨ p = 8 ∨ p = 9 ∨ p = 10 ∨ p = 11 := by omega
  rcases h1 with rfl | rfl | rfl | rfl | rfl | rfl | rfl | rfl | rfl | rfl | rfl | rfl <;> simp [behB, behM, behR]

set_option maxHeartbeats 1000000 in
theorem lowest_any (G : Wg) (s : Se) (x : Ex) (v : Value) (i b : Nat) (hb : b ≤ 4) (w : World) (h : Wt G w s x v i) :
    Calls Tryz.prog 41 #[.pointer (some ⟨G.wb, 0, none⟩), .int .i64 (b : Int)] w fun e w' => e = .returned (.int .i64 ((lowW G.k i b : Nat) : Int)) ∧ ∃ n, w' = w.drewN n := by
  obtain ⟨-, -, -, c3, c4, c5, -⟩ := h.cells
  have hp := h.pl
  have hfi := h.fi
  have hil := h.il
  have htl := h.tl
  have hm := mask_i64 (G.k.place + (i - G.k.fr)) b hb (by omega)
  obtain ⟨z, hz⟩ : ∃ z : Nat, z = G.k.place + (i - G.k.fr) := ⟨_, rfl⟩
  have hzI : (G.k.place : Int) + (i : Int) - (G.k.fr : Int) = (z : Int) := by omega
  have hL : lowW G.k i b = z % 2 ^ b := by rw [hz]; rfl
  rw [hL]
  rw [← hz] at hm
  generalize z % 2 ^ b = m at *
  clear h hL hz
  generalize G.k.T.length = tl at *
  generalize G.k.place = pl at *
  generalize G.k.fr = fr at *
  go_enter Tryz.func41, Tryz.ntmps41
  go_wp2_with fail
  go_quiet (fail)
  go_wp2_with fail
  go_ret
  refine ⟨congrArg (fun x => Ending.returned (Value.int .i64 x)) ?_, _, rfl⟩
  rw [mask_form b hb]
  exact hm

end Go.Proofs.YtnokemcogjoonaaGreat.Pt
