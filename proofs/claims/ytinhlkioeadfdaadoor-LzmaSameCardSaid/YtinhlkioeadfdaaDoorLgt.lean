/-
  Lengths and distances.
-/
import Derived.Test.YtinhlkioeadfdaaDoorTre
namespace Go.Proofs.YtinhlkioeadfdaaDoor
open Go.RowKit Go.Shelf
set_option linter.unusedVariables false

theorem lenM_eq (L p : Nat) (x : Cx) : lenM L p x = if bN (bitX x L) = 0 then (2 + (readM (L + 2 + p * 8) 3 (stepX x L)).1, (readM (L + 2 + p * 8) 3 (stepX x L)).2) else
    if bN (bitX (stepX x L) (L + 1)) = 0 then (10 + (readM (L + 130 + p * 8) 3 (stepX (stepX x L) (L + 1))).1, (readM (L + 130 + p * 8) 3 (stepX (stepX x L) (L + 1))).2)
    else (18 + (readM (L + 258) 8 (stepX (stepX x L) (L + 1))).1, (readM (L + 258) 8 (stepX (stepX x L) (L + 1))).2) := by
  by_cases h1 : bN (bitX x L) = 0
  · rw [if_pos h1]
    exact bnd_z _ _ _ _ h1
  · rw [if_neg h1]
    by_cases h2 : bN (bitX (stepX x L) (L + 1)) = 0
    · rw [if_pos h2]
      exact (bnd_nz _ _ _ _ h1).trans (bnd_z _ _ _ _ h2)
    · rw [if_neg h2]
      exact (bnd_nz _ _ _ _ h1).trans (bnd_nz _ _ _ _ h2)

set_option maxHeartbeats 1000000 in
theorem length_any (sb db gb L p : Nat) (s : Se) (x : Cx) (w : World) (h : Pr w sb db gb s x) (h8 : 8 ≤ L) (hL : L + 514 ≤ 14143) (hp : p < 16) :
    Calls Tryd.prog 56 #[.pointer (some ⟨sb, L, none⟩), .pointer (some ⟨db, 0, none⟩), .int .i64 (p : Int)] w fun e w' =>
      e = .returned (.int .i64 (((lenM L p x).1 : Nat) : Int)) ∧ 2 ≤ (lenM L p x).1 ∧ (lenM L p x).1 ≤ 273 ∧ Pr w' sb db gb s (lenM L p x).2 ∧ Keep (SD sb db) w w' := by
  have HE := hid (lenM_eq L p x)
  have H1 := hid (bit_any sb db gb L s x w h h8 (by omega))
  have H2 := hid (fun W H => bit_any sb db gb (L + 1) s (stepX x L) W H (by omega) (by omega))
  have H3 := hid (fun W H => read3 sb db gb (L + 2 + p * 8) 8 8 s (stepX x L) W H (by omega) (by omega) (by omega) (by decide))
  have H4 := hid (fun W H => read3 sb db gb (L + 130 + p * 8) 8 8 s (stepX (stepX x L) (L + 1)) W H (by omega) (by omega) (by omega) (by decide))
  have H5 := hid (fun W H => read8 sb db gb (L + 258) 256 256 s (stepX (stepX x L) (L + 1)) W H (by omega) (by omega) (by omega) (by decide))
  clear h
  generalize lenM L p x = R at *
  generalize stepX (stepX x L) (L + 1) = y2 at *
  generalize hy1 : stepX x L = y1 at *
  clear hy1
  generalize bitX x L = t1 at *
  generalize bitX y1 (L + 1) = t2 at *
  generalize readM (L + 2 + p * 8) 3 y1 = V1 at *
  generalize readM (L + 130 + p * 8) 3 y2 = V2 at *
  generalize readM (L + 258) 8 y2 = V3 at *
  have hpI : (p : Int) < 16 := by omega
  go_enter Tryd.func56, Tryd.ntmps56
  go_wp2_with fail
  refine H1.out.mono ?_
  rintro e w1 ⟨rfl, g1, g2⟩
  have HG := (show Hid (Pr w1 sb db gb s y1 ∧ Keep (SD sb db) w w1) from ⟨g1, g2⟩)
  clear g1 g2 H1
  cases t1 with
  | false =>
    rw [show bN false = 0 from rfl] at HE ⊢
    rw [if_pos rfl] at HE
    rw [show (((0 : Nat) : Int)) = (0 : Int) from rfl]
    go_wp2_with fail
    refine (H3.out _ HG.out.1).mono ?_
    rintro e w2 ⟨rfl, g1, g2, g3⟩
    have HH := (show Hid (R.1 = 2 + V1.1 ∧ Pr w2 sb db gb s R.2 ∧ Keep (SD sb db) w w2) from by rw [HE.out]; exact ⟨rfl, g2, HG.out.2.trans' g3⟩)
    clear g2 g3 HE HG H2 H3 H4 H5
    generalize V1.1 = z at *
    go_wp2_with fail
    go_ret
    rw [HH.out.1]
    refine ⟨?_, by omega, by omega, HH.out.2⟩
    go_num
  | true =>
    rw [show bN true = 1 from rfl] at HE ⊢
    rw [if_neg (by decide)] at HE
    rw [show (((1 : Nat) : Int)) = (1 : Int) from rfl]
    go_wp2_with fail
    refine (H2.out _ HG.out.1).mono ?_
    rintro e w2 ⟨rfl, g1, g2⟩
    have HG2 := (show Hid (Pr w2 sb db gb s y2 ∧ Keep (SD sb db) w w2) from ⟨g1, HG.out.2.trans' g2⟩)
    clear g1 g2 HG H2
    cases t2 with
    | false =>
      rw [show bN false = 0 from rfl] at HE ⊢
      rw [if_pos rfl] at HE
      rw [show (((0 : Nat) : Int)) = (0 : Int) from rfl]
      go_wp2_with fail
      refine (H4.out _ HG2.out.1).mono ?_
      rintro e w3 ⟨rfl, g1, g2, g3⟩
      have HH := (show Hid (R.1 = 10 + V2.1 ∧ Pr w3 sb db gb s R.2 ∧ Keep (SD sb db) w w3) from by rw [HE.out]; exact ⟨rfl, g2, HG2.out.2.trans' g3⟩)
      clear g2 g3 HE HG2 H3 H4 H5
      generalize V2.1 = z at *
      go_wp2_with fail
      go_ret
      rw [HH.out.1]
      refine ⟨?_, by omega, by omega, HH.out.2⟩
      go_num
    | true =>
      rw [show bN true = 1 from rfl] at HE ⊢
      rw [if_neg (by decide)] at HE
      rw [show (((1 : Nat) : Int)) = (1 : Int) from rfl]
      go_wp2_with fail
      refine (H5.out _ HG2.out.1).mono ?_
      rintro e w3 ⟨rfl, g1, g2, g3⟩
      have HH := (show Hid (R.1 = 18 + V3.1 ∧ Pr w3 sb db gb s R.2 ∧ Keep (SD sb db) w w3) from by rw [HE.out]; exact ⟨rfl, g2, HG2.out.2.trans' g3⟩)
      clear g2 g3 HE HG2 H3 H4 H5
      generalize V3.1 = z at *
      go_wp2_with fail
      go_ret
      rw [HH.out.1]
      refine ⟨?_, by omega, by omega, HH.out.2⟩
      go_num

theorem distM_eq (len : Nat) (x : Cx) (s : Nat) (y : Cx) (h : readM (13756 + (min len 5 - 2) * 64) 6 x = (s, y)) : distM len x = if s < 4 then (s, y) else
    if s < 14 then ((2 + s % 2) * 2 ^ (s / 2 - 1) + (backM (14012 + ((2 + s % 2) * 2 ^ (s / 2 - 1) - s)) (s / 2 - 1) 0 1 0 y).1, (backM (14012 + ((2 + s % 2) * 2 ^ (s / 2 - 1) - s)) (s / 2 - 1) 0 1 0 y).2)
    else ((2 + s % 2) * 2 ^ (s / 2 - 1) + (dirD (s / 2 - 1 - 4) y.d 0).2 * 16 + (backM 14127 4 0 1 0 ⟨y.c, (dirD (s / 2 - 1 - 4) y.d 0).1⟩).1, (backM 14127 4 0 1 0 ⟨y.c, (dirD (s / 2 - 1 - 4) y.d 0).1⟩).2) := by
  by_cases h1 : s < 4
  · simp only [distM, bnd, ret, h, h1, if_true]
  · by_cases h2 : s < 14
    · simp only [distM, bnd, ret, h, h1, h2, if_true, if_false]
    · simp only [distM, bnd, ret, dirM, h, h1, h2, if_false]

/-- The sizes of slots, by looking at each. -/
theorem slot_bd (s : Nat) (h4 : ¬ s < 4) (h : s < 64) : s / 2 - 1 ≤ 30 ∧ 1 ≤ s / 2 - 1 ∧ (2 + s % 2) * 2 ^ (s / 2 - 1) + 2 ^ (s / 2 - 1) ≤ 4294967296 ∧
    (s < 14 → s ≤ (2 + s % 2) * 2 ^ (s / 2 - 1) ∧ (2 + s % 2) * 2 ^ (s / 2 - 1) - s + 2 ^ (s / 2 - 1) ≤ 115 ∧ s / 2 - 1 ≤ 5) ∧ (¬ s < 14 → 6 ≤ s / 2 - 1) := by
  have : ∀ s : Fin 64, ¬ s.val < 4 → s.val / 2 - 1 ≤ 30 ∧ 1 ≤ s.val / 2 - 1 ∧ (2 + s.val % 2) * 2 ^ (s.val / 2 - 1) + 2 ^ (s.val / 2 - 1) ≤ 4294967296 ∧
    (s.val < 14 → s.val ≤ (2 + s.val % 2) * 2 ^ (s.val / 2 - 1) ∧ (2 + s.val % 2) * 2 ^ (s.val / 2 - 1) - s.val + 2 ^ (s.val / 2 - 1) ≤ 115 ∧ s.val / 2 - 1 ≤ 5) ∧ (¬ s.val < 14 → 6 ≤ s.val / 2 - 1) := by decide
  exact this ⟨s, h⟩ h4

theorem wraps_i64 (n : Int) (h₀ : 0 ≤ n) (h₁ : n < 2 ^ 63) : IntKind.i64.wrap n = n := by rw [IntKind.wrap_i64]; omega
section
attribute [local go_sem] minSem_eq
set_option maxHeartbeats 1000000 in
theorem distance_any (sb db gb len : Nat) (s : Se) (x : Cx) (w : World) (h : Pr w sb db gb s x) (h2 : 2 ≤ len) (h3 : len ≤ 273) :
    Calls Tryd.prog 58 #[.pointer (some ⟨sb, 13756, none⟩), .pointer (some ⟨db, 0, none⟩), .int .i64 (len : Int)] w fun e w' =>
      e = .returned (.int .u32 (((distM len x).1 : Nat) : Int)) ∧ (distM len x).1 < 4294967296 ∧ Pr w' sb db gb s (distM len x).2 ∧ Keep (SD sb db) w w' := by
  obtain ⟨m, hm⟩ : ∃ m : Nat, m = min len 5 := ⟨_, rfl⟩
  obtain ⟨q, hq⟩ : ∃ q : Nat, q = min len 5 - 2 := ⟨_, rfl⟩
  have hmin := minSem_run .i64 #[3, 3] 3 (len : Int) 5 (m : Int) (by omega)
  have hqI : (m : Int) - 2 = (q : Int) := by omega
  have hq4 : q < 4 := by omega
  have hq4I : (q : Int) < 4 := by omega
  have HE := hid (distM_eq len x)
  rw [← hq] at HE
  have H1 := hid (read6 sb db gb (13756 + q * 64) 64 64 s x w h (by omega) (by omega) (by omega) (by decide))
  clear h hm hq
  generalize readM (13756 + q * 64) 6 x = V at *
  obtain ⟨sl, y⟩ := V
  have HE := hid (HE.out sl y rfl)
  generalize distM len x = R at *
  go_enter Tryd.func58, Tryd.ntmps58
  go_wp2_with fail
  refine H1.out.mono ?_
  rintro e w1 ⟨rfl, g1, g2, g3⟩
  have HG := (show Hid (Pr w1 sb db gb s y ∧ Keep (SD sb db) w w1) from ⟨g2, g3⟩)
  clear g2 g3 H1
  by_cases h4 : sl < 4
  · have h4I : (sl : Int) < 4 := by omega
    rw [if_pos h4] at HE
    have HR := hid HE.out
    clear HE
    have hsl : (sl : Int) % 4294967296 = (sl : Int) := by omega
    go_wp2_with fail
    go_ret
    rw [HR.out]
    exact ⟨rfl, by show sl < _; omega, HG.out⟩
  · rw [if_neg h4] at HE
    have h4I : ¬ (sl : Int) < 4 := by omega
    obtain ⟨k1, k2, k3, k4, k5⟩ := slot_bd sl h4 g1
    obtain ⟨k, hk⟩ : ∃ k : Nat, k = sl / 2 - 1 := ⟨_, rfl⟩
    obtain ⟨hf, hhf⟩ : ∃ hf : Nat, hf = sl / 2 := ⟨_, rfl⟩
    obtain ⟨l, hl⟩ : ∃ l : Nat, l = sl % 2 := ⟨_, rfl⟩
    obtain ⟨l2, hl2⟩ : ∃ l2 : Nat, l2 = 2 + l := ⟨_, rfl⟩
    obtain ⟨base, hbase⟩ : ∃ base : Nat, base = l2 * 2 ^ k := ⟨_, rfl⟩
    rw [← hk, ← hl, ← hl2, ← hbase] at HE k3 k4
    rw [← hk] at k1 k2 k5
    have i1 : (sl : Int) / 2 = (hf : Int) := by omega
    have i2 : (hf : Int) - 1 = (k : Int) := by omega
    have i3 : bits .and .i64 (sl : Int) 1 = (l : Int) := (bits_mask .i64 63 (by decide) wraps_i64 1 (by decide) (sl : Int) (by omega) (by omega)).trans (by omega)
    have i4 : 2 + (l : Int) = (l2 : Int) := by omega
    have i5 : (l2 : Int) % 4294967296 = (l2 : Int) := by omega
    have i6 : (l2 : Int) * 2 ^ k = (base : Int) := by
      rw [show (l2 : Int) * 2 ^ k = ((l2 * 2 ^ k : Nat) : Int) from by simp, ← hbase]
    have hbl : base < 4294967296 := by
      have := Nat.two_pow_pos k
      omega
    clear hk hhf hl hl2 hbase
    by_cases h14 : sl < 14
    · have h14I : (sl : Int) < 14 := by omega
      rw [if_pos h14] at HE
      obtain ⟨k4, k6, k7⟩ := k4 h14
      obtain ⟨t, ht⟩ : ∃ t : Nat, t = base - sl := ⟨_, rfl⟩
      have i7 : (base : Int) - (sl : Int) = (t : Int) := by omega
      have hp := Nat.two_pow_pos k
      have i8 : t + 2 ^ k ≤ 115 := by rw [ht]; exact k6
      have i9 : (t : Int) ≤ 115 := by generalize 2 ^ k = P at *; omega
      have HT := hid ht
      clear ht
      have HB := hid (backwards_any sb db gb (14012 + t) (115 - t) (115 - t) k s y w1 HG.out.1 (by omega) (by omega) (by generalize 2 ^ k = P at *; omega) (by generalize 2 ^ k = P at *; omega) (by omega))
      have HE2 := HE.out
      rw [← HT.out] at HE2
      have HE2 := hid HE2
      clear HE
      generalize backM (14012 + t) k 0 1 0 y = V at *
      go_wp2_with fail
      refine HB.out.mono ?_
      rintro e w2 ⟨rfl, g1, g2, g3⟩
      have HH := (show Hid (R.1 = base + V.1 ∧ Pr w2 sb db gb s R.2 ∧ Keep (SD sb db) w w2) from by rw [HE2.out]; exact ⟨rfl, g2, HG.out.2.trans' g3⟩)
      have i10 : base + V.1 < 4294967296 := by generalize 2 ^ k = P at *; omega
      clear g1 g2 g3 HE2 HG HB
      generalize V.1 = z at *
      go_wp2_with fail
      go_ret
      rw [HH.out.1]
      refine ⟨?_, i10, HH.out.2⟩
      go_num
    · have h14I : ¬ (sl : Int) < 14 := by omega
      rw [if_neg h14] at HE
      have k6 := k5 h14
      clear k4 k5
      have HD := hid (direct_any db gb ((k : Int) - 4) y.d w1 HG.out.1.de)
      rw [show bitsN ((k : Int) - 4) = k - 4 from by unfold bitsN; omega] at HD
      have hlt := dirD_lt (k - 4) y.d 0 0 (by decide)
      rw [Nat.zero_add] at hlt
      have hpp : 2 ^ k = 2 ^ (k - 4) * 16 := by rw [show (16 : Nat) = 2 ^ 4 from rfl, ← Nat.pow_add]; congr 1; omega
      generalize dirD (k - 4) y.d 0 = V at *
      obtain ⟨d2, hi⟩ := V
      dsimp only at HD HE hlt
      obtain ⟨h16, hh⟩ : ∃ h16 : Nat, h16 = hi * 16 := ⟨_, rfl⟩
      have j1 : (hi : Int) * 16 = (h16 : Int) := by omega
      rw [← hh] at HE
      have j2 : base + h16 + 16 ≤ 4294967296 := by generalize 2 ^ (k - 4) = P at *; omega
      obtain ⟨bh, hbh⟩ : ∃ bh : Nat, bh = base + h16 := ⟨_, rfl⟩
      have j3 : (base : Int) + (h16 : Int) = (bh : Int) := by omega
      have j4 : bh + 16 ≤ 4294967296 := by omega
      rw [← hbh] at HE
      have hp := Nat.two_pow_pos (k - 4)
      have j5 : h16 < 4294967296 := by omega
      have j6 : hi < 4294967296 := by omega
      clear hh hbh hlt hpp hp k3
      go_wp2_with fail
      refine HD.out.mono ?_
      rintro e w2 ⟨rfl, g1, g2⟩
      have hP2 : Pr w2 sb db gb s ⟨y.c, d2⟩ := ⟨HG.out.1.st.keep g2 (fun e => HG.out.1.sd e), g1, HG.out.1.ne⟩
      have HB := hid (backwards_any sb db gb 14127 16 16 4 s ⟨y.c, d2⟩ w2 hP2 (by omega) (by omega) (by decide) (by decide) (by decide))
      have HK := (show Hid (Keep (SD sb db) w w2) from HG.out.2.trans' (g2.mono (fun _ _ e => .inl e)))
      clear g1 g2 hP2 HD HG
      generalize backM 14127 4 0 1 0 ⟨y.c, d2⟩ = V at *
      rw [show (2 : Nat) ^ 4 = 16 from rfl] at HB
      rw [show (((4 : Nat) : Int)) = (4 : Int) from rfl] at HB
      go_wp2_with fail
      refine HB.out.mono ?_
      rintro e w3 ⟨rfl, g1, g2, g3⟩
      have HH := (show Hid (R.1 = bh + V.1 ∧ Pr w3 sb db gb s R.2 ∧ Keep (SD sb db) w w3) from by rw [HE.out]; exact ⟨rfl, g2, HK.out.trans' g3⟩)
      have i10 : bh + V.1 < 4294967296 := by omega
      clear g1 g2 g3 HE HK HB
      generalize V.1 = z at *
      go_wp2_with fail
      go_ret
      rw [HH.out.1]
      refine ⟨?_, i10, HH.out.2⟩
      go_num
end

end Go.Proofs.YtinhlkioeadfdaaDoor
