/-
  putHead.
  section.
  Read of weights, the program's, and what it tells where it tells weights.
  Sections that Read reads as they were meant, whatever stands behind.
  offer, the closure of shortest: the shorter section is kept.
  shortest.
  What the statements' own example comes to: true.
-/
import Derived.Test.YtcoahkmiebeeeaaGreatDoorLitP10
import Derived.Test.YtcoahkmiebeeeaaGreatDoorLitP14
import Derived.Test.YtcoahkmiebeeeaaGreatDoorLitP19
import Derived.Test.YtcoahkmiebeeeaaGreatDoorLitP21
import Derived.Test.YtcoahkmiebeeeaaGreatDoorLitP22
namespace Go.Proofs.YtcoahkmiebeeeaaGreatDoor
open Go.RowKit Go.Shelf
set_option linter.unusedVariables false

theorem whN_four (k size : Nat) (hk : k < 4) : k + 4 * whN k size < 2 ^ frN k (whN k size) := by
  unfold whN frN
  repeat' split
  all_goals omega
theorem size_fits (k size : Nat) (hs : size ≤ 131072) : size < 2 ^ btN k (whN k size) := by
  unfold whN btN
  repeat' split
  all_goals omega
theorem or_next (a b m : Nat) (ha : a < 2 ^ m) (hab : a + 2 ^ m * b < 18446744073709551616) : bits .or .u64 (a : Int) (IntKind.u64.wrap ((b : Int) * 2 ^ m)) = ((a + 2 ^ m * b : Nat) : Int) := by
  have e : IntKind.u64.wrap ((b : Int) * 2 ^ m) = ((2 ^ m * b : Nat) : Int) := by
    rw [show ((b : Int) * 2 ^ m) = ((2 ^ m * b : Nat) : Int) from by rw [Nat.mul_comm]; simp]
    exact wraps_u64 _ (by omega) (by omega)
  rw [e]
  exact or_add64 a b m ha hab
def Put (W : World) (g N HB j : Nat) : Prop := ∃ cur, W.heap[g]? = some (.cells cur 5 (0, 0)) ∧ cur.size = HB ∧ ∀ i, i < j → cur[i]? = some (.int .u8 ((N / 256 ^ i % 256 : Nat) : Int))
theorem Put.next {W : World} {g N HB j : Nat} (h : Put W g N HB j) (hj : j < HB) : Put (W.setCell ⟨g, j, none⟩ (.int .u8 ((N / 256 ^ j % 256 : Nat) : Int))) g N HB (j + 1) := by
  obtain ⟨cur, ho, hs, hc⟩ := h
  refine ⟨_, set_obj ho _ _, by simp [hs], fun i hi => ?_⟩
  by_cases e : i = j
  · subst e; rw [Array.getElem?_setIfInBounds_self_of_lt (by omega)]
  · rw [Array.getElem?_setIfInBounds_ne (by omega)]; exact hc i (by omega)
theorem Put.bytes {W : World} {g N HB : Nat} (h : Put W g N HB HB) (hb : HB ≤ 5) : Bytes W (some ⟨g, 0, none⟩) HB g 0 (leN HB N) := by
  obtain ⟨cur, ho, hs, hc⟩ := h
  refine ⟨.inl rfl, (fun e => by cases e), fun j hj => ?_, lt256 (leN_lt HB N), by rw [leN_length]; exact Nat.le_refl _, by rw [leN_length]; omega⟩
  rw [leN_length] at hj
  rw [cell_of ho, Nat.zero_add, hc j hj, leN_at HB N j hj]
  rfl

def NAns (L : List Nat) (w : World) (e : Ending) (w' : World) : Prop := Keep noBlock w w' ∧ ∃ g n, w.heap.size ≤ g ∧ n = L.length ∧ e = .returned (.slice (some ⟨g, 0, none⟩) n n) ∧ Bytes w' (some ⟨g, 0, none⟩) n g 0 L
set_option maxRecDepth 100000 in
set_option maxHeartbeats 2000000 in
theorem putHead_any (k size bh : Nat) (w : World) (hF : Frm w) (hk : k < 4) (hs : size ≤ 131072) (hb : bh < 1048576) :
    Calls Tryz.prog 23 #[.int .i64 (k : Int), .int .i64 (size : Int), .int .i64 (bh : Int)] w fun e w' => NAns (hdL k size bh) w e w' := by
  have HFF := hid (formFor_any k size w hF hk hs)
  have h4 := whN_four k size hk
  have hfit := size_fits k size hs
  obtain ⟨wh, hwh⟩ : ∃ wh, wh = whN k size := ⟨_, rfl⟩
  have hwh4 : wh < 4 := by rw [hwh]; exact whN_lt k size
  rw [← hwh] at h4 hfit
  obtain ⟨HB, hHB⟩ : ∃ HB, HB = hbN k wh := ⟨_, rfl⟩
  obtain ⟨HR, hHR⟩ : ∃ HR, HR = frN k wh := ⟨_, rfl⟩
  obtain ⟨HT, hHT⟩ : ∃ HT, HT = btN k wh := ⟨_, rfl⟩
  obtain ⟨RW, hRW⟩ : ∃ RW, RW = rwN k wh := ⟨_, rfl⟩
  unfold formV at HFF
  rw [← hwh, ← hHB, ← hHR, ← hHT, ← hRW] at HFF
  rw [← hHR] at h4
  rw [← hHT] at hfit
  have bB : 1 ≤ HB ∧ HB ≤ 5 := by rw [hHB]; exact hbN_le _ _
  have bR : 3 ≤ HR ∧ HR ≤ 4 := by rw [hHR]; exact frN_le _ _
  have bT : 5 ≤ HT ∧ HT ≤ 20 := by rw [hHT]; exact btN_le _ _
  obtain ⟨w4, hw4⟩ : ∃ w4, w4 = 4 * wh := ⟨_, rfl⟩
  obtain ⟨n1, hn1⟩ : ∃ n1, n1 = k + 4 * wh := ⟨_, rfl⟩
  obtain ⟨n2, hn2⟩ : ∃ n2, n2 = n1 + 2 ^ HR * size := ⟨_, rfl⟩
  obtain ⟨FT, hFT⟩ : ∃ FT, FT = HR + HT := ⟨_, rfl⟩
  have hp1 : 2 ^ HR ≤ 16 := Nat.le_trans (Nat.pow_le_pow_right (by decide) bR.2) (by decide)
  have hm1 : 2 ^ HR * size ≤ 16 * 131072 := Nat.mul_le_mul hp1 hs
  have hp2 : 2 ^ FT ≤ 16777216 := Nat.le_trans (Nat.pow_le_pow_right (by decide) (show FT ≤ 24 by omega)) (by decide)
  have hm2 : 2 ^ FT * bh ≤ 16777216 * 1048576 := Nat.mul_le_mul hp2 (by omega)
  have hlt2 : n2 < 2 ^ FT := by
    rw [hn2, hFT, Nat.pow_add]
    have h5 : 2 ^ HR * (size + 1) ≤ 2 ^ HR * 2 ^ HT := Nat.mul_le_mul_left _ hfit
    rw [Nat.mul_add, Nat.mul_one] at h5
    omega
  have x1 : IntKind.u64.wrap (wh : Int) = (wh : Int) := wraps_u64 _ (by omega) (by omega)
  have x2 : IntKind.u64.wrap ((wh : Int) * 4) = (w4 : Int) := by rw [show (wh : Int) * 4 = (w4 : Int) from by omega]; exact wraps_u64 _ (by omega) (by omega)
  have x3 : bits .or .u64 (k : Int) (w4 : Int) = (n1 : Int) := by
    have := or_add64 k wh 2 (by omega) (by omega)
    rw [show 2 ^ 2 * wh = w4 from by omega, show k + w4 = n1 from by omega] at this
    exact this
  have x4 : bits .or .u64 (n1 : Int) (IntKind.u64.wrap ((size : Int) * 2 ^ HR)) = (n2 : Int) := by
    rw [or_next n1 size HR (by omega) (by omega), hn2]
  have hputN : putN k size bh = if k < 2 then n2 else n2 + 2 ^ FT * bh := by
    unfold putN
    rw [← hwh, ← hHR, ← hHT, ← hFT]
    split <;> omega
  have hlen : (hdL k size bh).length = HB := by rw [hdL_length, ← hwh, ← hHB]
  have hhd : hdL k size bh = leN HB (putN k size bh) := by unfold hdL; rw [← hwh, ← hHB]
  have m1 : min HR 64 = HR := by omega
  have x4' : bits .or .u64 (n1 : Int) (IntKind.u64.wrap ((size : Int) * 2 ^ min HR 64)) = (n2 : Int) := by rw [m1]; exact x4
  have hmk := run_make_u8 HB HB (Nat.le_refl _) (by omega)
  have hkI : (k : Int) ≤ 3 := by omega
  have hwI : (wh : Int) ≤ 3 := by omega
  have hsI : (size : Int) ≤ 131072 := by omega
  have hbI : (bh : Int) < 1048576 := by omega
  have hRI : (HR : Int) ≤ 4 := by omega
  have hBI : (HB : Int) ≤ 5 := by omega
  -- the number is put down
  obtain ⟨N, hN⟩ : ∃ N, N = putN k size bh := ⟨_, rfl⟩
  rw [← hN] at hputN hhd
  have hNb : N < 18446744073709551616 := by
    rw [hputN]; split <;> omega
  have HQ := hid (show hdL k size bh = leN HB N ∧ HB = (hdL k size bh).length ∧ 1 ≤ HB ∧ HB ≤ 5 ∧ N < 18446744073709551616 from ⟨hhd, hlen.symm, bB.1, bB.2, hNb⟩)
  by_cases h2 : k < 2
  · rw [if_pos h2] at hputN
    have hR0 : RW = 0 := by rw [hRW]; unfold rwN; rw [if_pos h2]
    subst hR0
    subst hputN
    clear hwh hHB hHR hHT hRW hw4 hn1 hn2 hFT hp1 hm1 hp2 hm2 hlt2 h4 hfit hlen hhd bB bR bT hs hb hN m1 hNb hwh4 h2 hk hF
    go_enter Tryz.func23, Tryz.ntmps23
    go_wp2_with (go_at_call 26; refine HFF.out.mono ?_; rintro e w1 ⟨hk1, rfl⟩; have HK1 := hid hk1; clear hk1)
    have o1 := World.alloc_heap_new (w1.alloc (.cells #[.int .i64 (HB : Int), .int .i64 (HR : Int), .int .i64 (HT : Int), .int .i64 0] 36)) (.cells (u8s (List.replicate HB 0)).toArray 5)
    have k1 := (HK1.out.alloc (.cells #[.int .i64 (HB : Int), .int .i64 (HR : Int), .int .i64 (HT : Int), .int .i64 0] 36)).alloc (.cells (u8s (List.replicate HB 0)).toArray 5)
    rw [World.size_alloc] at o1
    obtain ⟨g, hg⟩ : ∃ g, g = w1.heap.size + 1 := ⟨_, rfl⟩
    have hgw : w.heap.size ≤ g := by have := HK1.out.size; omega
    rw [← hg] at o1 ⊢
    generalize (w1.alloc (.cells #[.int .i64 (HB : Int), .int .i64 (HR : Int), .int .i64 (HT : Int), .int .i64 0] 36)).alloc (.cells (u8s (List.replicate HB 0)).toArray 5) = W1 at o1 k1 ⊢
    have HW := hid (show Keep noBlock w W1 ∧ Put W1 g N HB 0 ∧ w.heap.size ≤ g from ⟨k1, ⟨_, o1, by simp [u8s], fun i hi => absurd hi (Nat.not_lt_zero _)⟩, hgw⟩)
    clear o1 k1 hg hgw hmk
    go_loopw [48] (fun v48 wr => ∃ j : Nat, v48 = .int .i64 (j : Int) ∧ j ≤ HB ∧ Hid (Keep noBlock w wr ∧ Put wr g N HB j)) (fun v48 _ => HB - (intOf v48).toNat)
    case atStart => exact ⟨0, rfl, Nat.zero_le _, HW.out.1, HW.out.2.1⟩
    case round =>
      obtain ⟨j, rfl, hj, HJ⟩ := hrel
      by_cases hlt : j < HB
      · have hltI : (j : Int) < (HB : Int) := by omega
        obtain ⟨hK, cur, ho, hsz, hc⟩ := HJ.out
        obtain ⟨cv, cj⟩ : ∃ cv, wr.cell? ⟨g, j, none⟩ = some cv := ⟨_, (cell_of ho j).trans (Array.getElem?_eq_getElem (by omega))⟩
        have fj := frozen_of ho j
        obtain ⟨j8, hj8⟩ : ∃ j8, j8 = 8 * j := ⟨_, rfl⟩
        have e8 : 8 * (j : Int) = (j8 : Int) := by omega
        have b8 : (j8 : Int) ≤ 40 := by have := HQ.out.2.2.2.1; omega
        obtain ⟨Y, hY⟩ : ∃ Y, Y = N / 256 ^ j := ⟨_, rfl⟩
        obtain ⟨y, hy⟩ : ∃ y, y = Y % 256 := ⟨_, rfl⟩
        have m8 : min j8 64 = j8 := by omega
        have s1 : (N : Int) / 2 ^ j8 = (Y : Int) := by rw [shr_nat, hY, hj8, Nat.pow_mul]
        have s1' : (N : Int) / 2 ^ min j8 64 = (Y : Int) := by rw [m8]; exact s1
        have s2 : IntKind.u8.wrap (Y : Int) = (y : Int) := by rw [IntKind.wrap_u8, hy]; omega
        have s3 : (Y : Int) % 256 = (y : Int) := by rw [hy]; omega
        obtain ⟨j1, hj1⟩ : ∃ j1, j1 = j + 1 := ⟨_, rfl⟩
        have q13 : (j : Int) + 1 = (j1 : Int) := by omega
        have q14 : (j1 : Int) ≤ 6 := by have := HQ.out.2.2.2.1; omega
        have HE := hid (show y = N / 256 ^ j % 256 ∧ j1 = j + 1 from ⟨by rw [hy, hY], hj1⟩)
        have hj0 : (0 : Int) ≤ (j : Int) := by omega
        clear hK ho hsz hc hj8 hY hy m8 hj1
        go_wp2_with fail
        obtain ⟨hK, hP⟩ := HJ.out
        obtain ⟨r1, r2⟩ := HE.out
        have hP2 := hP.next hlt
        rw [← r1, ← r2] at hP2
        refine ⟨⟨j1, rfl, by omega, hK.setCell (p := ⟨g, j, none⟩) (fun h => absurd (show g < _ from h) (by have := HW.out.2.2; omega)) _, hP2⟩, ?_⟩
        simp only [intOf, Int.toNat_natCast]
        omega
      · have hltI : ¬ (j : Int) < (HB : Int) := by omega
        go_wp2_with fail
        go_ret
        obtain ⟨hK, hP⟩ := HJ.out
        obtain rfl : j = HB := by omega
        obtain ⟨r1, r2, r3, r4, r5⟩ := HQ.out
        have hBy := hP.bytes r4
        rw [← r1] at hBy
        exact ⟨hK, g, j, HW.out.2.2, r2, rfl, hBy⟩
  · rw [if_neg h2] at hputN
    have hR0 : 0 < RW := by rw [hRW]; unfold rwN; rw [if_neg h2]; split <;> omega
    have hR1 : decide (0 < RW) = true := decide_eq_true hR0
    have hR2 : (0 : Int) < (RW : Int) := by omega
    have eFT : (HR : Int) + (HT : Int) = (FT : Int) := by omega
    have bFT : (FT : Int) ≤ 24 := by omega
    have m2 : min FT 64 = FT := by omega
    have x5 : bits .or .u64 (n2 : Int) (IntKind.u64.wrap ((bh : Int) * 2 ^ FT)) = (N : Int) := by
      rw [or_next n2 bh FT hlt2 (by omega), hputN]
    have x5' : bits .or .u64 (n2 : Int) (IntKind.u64.wrap ((bh : Int) * 2 ^ min FT 64)) = (N : Int) := by rw [m2]; exact x5
    have hTI : (HT : Int) ≤ 20 := by omega
    clear hputN hwh hHB hHR hHT hRW hw4 hn1 hn2 hFT hp1 hm1 hp2 hm2 hlt2 h4 hfit hlen hhd bB bR bT hs hb hN m1 m2 hNb hwh4 h2 hk hF hR0
    go_enter Tryz.func23, Tryz.ntmps23
    go_wp2_with (go_at_call 26; refine HFF.out.mono ?_; rintro e w1 ⟨hk1, rfl⟩; have HK1 := hid hk1; clear hk1)
    have o1 := World.alloc_heap_new (w1.alloc (.cells #[.int .i64 (HB : Int), .int .i64 (HR : Int), .int .i64 (HT : Int), .int .i64 (RW : Int)] 36)) (.cells (u8s (List.replicate HB 0)).toArray 5)
    have k1 := (HK1.out.alloc (.cells #[.int .i64 (HB : Int), .int .i64 (HR : Int), .int .i64 (HT : Int), .int .i64 (RW : Int)] 36)).alloc (.cells (u8s (List.replicate HB 0)).toArray 5)
    rw [World.size_alloc] at o1
    obtain ⟨g, hg⟩ : ∃ g, g = w1.heap.size + 1 := ⟨_, rfl⟩
    have hgw : w.heap.size ≤ g := by have := HK1.out.size; omega
    rw [← hg] at o1 ⊢
    generalize (w1.alloc (.cells #[.int .i64 (HB : Int), .int .i64 (HR : Int), .int .i64 (HT : Int), .int .i64 (RW : Int)] 36)).alloc (.cells (u8s (List.replicate HB 0)).toArray 5) = W1 at o1 k1 ⊢
    have HW := hid (show Keep noBlock w W1 ∧ Put W1 g N HB 0 ∧ w.heap.size ≤ g from ⟨k1, ⟨_, o1, by simp [u8s], fun i hi => absurd hi (Nat.not_lt_zero _)⟩, hgw⟩)
    clear o1 k1 hg hgw hmk
    go_loopw [48] (fun v48 wr => ∃ j : Nat, v48 = .int .i64 (j : Int) ∧ j ≤ HB ∧ Hid (Keep noBlock w wr ∧ Put wr g N HB j)) (fun v48 _ => HB - (intOf v48).toNat)
    case atStart => exact ⟨0, rfl, Nat.zero_le _, HW.out.1, HW.out.2.1⟩
    case round =>
      obtain ⟨j, rfl, hj, HJ⟩ := hrel
      by_cases hlt : j < HB
      · have hltI : (j : Int) < (HB : Int) := by omega
        obtain ⟨hK, cur, ho, hsz, hc⟩ := HJ.out
        obtain ⟨cv, cj⟩ : ∃ cv, wr.cell? ⟨g, j, none⟩ = some cv := ⟨_, (cell_of ho j).trans (Array.getElem?_eq_getElem (by omega))⟩
        have fj := frozen_of ho j
        obtain ⟨j8, hj8⟩ : ∃ j8, j8 = 8 * j := ⟨_, rfl⟩
        have e8 : 8 * (j : Int) = (j8 : Int) := by omega
        have b8 : (j8 : Int) ≤ 40 := by have := HQ.out.2.2.2.1; omega
        obtain ⟨Y, hY⟩ : ∃ Y, Y = N / 256 ^ j := ⟨_, rfl⟩
        obtain ⟨y, hy⟩ : ∃ y, y = Y % 256 := ⟨_, rfl⟩
        have m8 : min j8 64 = j8 := by omega
        have s1 : (N : Int) / 2 ^ j8 = (Y : Int) := by rw [shr_nat, hY, hj8, Nat.pow_mul]
        have s1' : (N : Int) / 2 ^ min j8 64 = (Y : Int) := by rw [m8]; exact s1
        have s2 : IntKind.u8.wrap (Y : Int) = (y : Int) := by rw [IntKind.wrap_u8, hy]; omega
        have s3 : (Y : Int) % 256 = (y : Int) := by rw [hy]; omega
        obtain ⟨j1, hj1⟩ : ∃ j1, j1 = j + 1 := ⟨_, rfl⟩
        have q13 : (j : Int) + 1 = (j1 : Int) := by omega
        have q14 : (j1 : Int) ≤ 6 := by have := HQ.out.2.2.2.1; omega
        have HE := hid (show y = N / 256 ^ j % 256 ∧ j1 = j + 1 from ⟨by rw [hy, hY], hj1⟩)
        have hj0 : (0 : Int) ≤ (j : Int) := by omega
        clear hK ho hsz hc hj8 hY hy m8 hj1
        go_wp2_with fail
        obtain ⟨hK, hP⟩ := HJ.out
        obtain ⟨r1, r2⟩ := HE.out
        have hP2 := hP.next hlt
        rw [← r1, ← r2] at hP2
        refine ⟨⟨j1, rfl, by omega, hK.setCell (p := ⟨g, j, none⟩) (fun h => absurd (show g < _ from h) (by have := HW.out.2.2; omega)) _, hP2⟩, ?_⟩
        simp only [intOf, Int.toNat_natCast]
        omega
      · have hltI : ¬ (j : Int) < (HB : Int) := by omega
        go_wp2_with fail
        go_ret
        obtain ⟨hK, hP⟩ := HJ.out
        obtain rfl : j = HB := by omega
        obtain ⟨r1, r2, r3, r4, r5⟩ := HQ.out
        have hBy := hP.bytes r4
        rw [← r1] at hBy
        exact ⟨hK, g, j, HW.out.2.2, r2, rfl, hBy⟩
end Go.Proofs.YtcoahkmiebeeeaaGreatDoor

namespace Go.Proofs.YtcoahkmiebeeeaaGreatDoor
open Go.RowKit Go.Shelf
set_option linter.unusedVariables false

def secL (k size : Nat) (body : List Nat) : List Nat := hdL k size body.length ++ body
def OAns (L : List Nat) (w : World) (e : Ending) (w' : World) : Prop := Keep noBlock w w' ∧ ∃ a n c, e = .returned (.slice a n c) ∧ n = L.length ∧ w'.ownsRow 0 5 1 (.slice a n c) n (u8s L) ∧ ∀ q, (Value.slice a n c).ownBlock = some q → w.heap.size ≤ q

theorem two_srcs {w : World} {a1 a2 : Option Addr} {c1 c2 g1 g2 o1 o2 m n : Nat} {A B : List Nat} (h1 : Bytes (w.alloc (.cells #[.slice a1 m c1, .slice a2 n c2] 22)) a1 c1 g1 o1 A) (h2 : Bytes (w.alloc (.cells #[.slice a1 m c1, .slice a2 n c2] 22)) a2 c2 g2 o2 B) (hm : m = A.length) (hn : n = B.length) : Srcs (w.alloc (.cells #[.slice a1 m c1, .slice a2 n c2] 22)) w.heap.size [A, B] := by
  subst hm
  subst hn
  have ho := World.alloc_heap_new w (.cells #[.slice a1 A.length c1, .slice a2 B.length c2] 22)
  refine ⟨fun i bs hb => ?_, obj_lt ho⟩
  match i, hb with
  | 0, hb => cases hb; exact ⟨a1, c1, cell_of ho 0, h1.src⟩
  | 1, hb => cases hb; exact ⟨a2, c2, cell_of ho 1, h2.src⟩
set_option maxRecDepth 100000 in
set_option maxHeartbeats 2000000 in
theorem section_any (k size : Nat) (a : Option Addr) (cap gb off : Nat) (body : List Nat) (w : World) (hF : Frm w) (hB : Bytes w a cap gb off body) (hk : k < 4) (hs : size ≤ 131072) (hb : body.length < 500000) :
    Calls Tryz.prog 13 #[.int .i64 (k : Int), .int .i64 (size : Int), .slice a body.length cap] w fun e w' => OAns (secL k size body) w e w' := by
  have HPH := hid (putHead_any k size body.length w hF hk hs (by omega))
  have hh1 : 1 ≤ (hdL k size body.length).length := by rw [hdL_length]; exact (hbN_le _ _).1
  have hh5 : (hdL k size body.length).length ≤ 5 := by rw [hdL_length]; exact (hbN_le _ _).2
  have HB := hid hB
  obtain ⟨n, hn⟩ : ∃ n, n = body.length := ⟨_, rfl⟩
  have hnI : (n : Int) < 500000 := by omega
  obtain ⟨hd, hhd⟩ : ∃ hd, hd = hdL k size body.length := ⟨_, rfl⟩
  rw [← hhd] at HPH hh1 hh5
  rw [← hn] at HPH ⊢
  have HQ := hid (show n = body.length ∧ hd = hdL k size body.length ∧ 1 ≤ hd.length ∧ hd.length ≤ 5 ∧ body.length < 500000 from ⟨hn, hhd, hh1, hh5, hb⟩)
  clear hB hh1 hh5 hn hhd hF hb
  go_enter Tryz.func13, Tryz.ntmps13
  go_wp2_with fail
  refine HPH.out.mono ?_
  rintro e w1 ⟨hk1, g, m, hg, hm, rfl, hBh⟩
  have H1 := hid (show Keep noBlock w w1 ∧ m = hd.length ∧ Bytes w1 (some ⟨g, 0, none⟩) m g 0 hd from ⟨hk1, hm, hBh⟩)
  clear hk1 hg hm hBh
  go_wp2_with fail
  obtain ⟨q1, q2, q3, q4, q5⟩ := HQ.out
  obtain ⟨r1, r2, r3⟩ := H1.out
  have hka := (Keep.refl noBlock w1).alloc (.cells #[.slice (some ⟨g, 0, none⟩) m m, .slice a n cap] 22)
  have hS : Srcs (w1.alloc (.cells #[.slice (some ⟨g, 0, none⟩) m m, .slice a n cap] 22)) w1.heap.size [hd, body] := two_srcs (r3.keep hka (fun _ h => h)) (HB.out.keep (r1.trans' hka) (fun _ h => h)) r2 q1
  have hl2 : lens [hd, body] = hd.length + body.length := by simp [lens]
  refine (concat_any w1.heap.size [hd, body] _ hS (by rw [hl2]; omega) (by rw [hl2]; omega) (by simp)).mono ?_
  rintro e w2 ⟨v, rfl, ho, hk2, hnew⟩
  rw [show ([hd, body] : List (List Nat)).flatten = secL k size body from by simp [secL, q2]] at ho
  have hkw := (r1.trans' hka).trans' hk2
  have hnw : ∀ q, v.ownBlock = some q → w.heap.size ≤ q := fun q hq => by have := hnew q hq; have := (r1.trans' hka).size; omega
  obtain ⟨a3, c3, rfl⟩ := owns_form ho
  obtain ⟨n3, hn3⟩ : ∃ n3, n3 = (secL k size body).length := ⟨_, rfl⟩
  rw [← hn3] at ho hnw ⊢
  have HE := hid (show Keep noBlock w w2 ∧ n3 = (secL k size body).length ∧ w2.ownsRow 0 5 1 (.slice a3 n3 c3) n3 (u8s (secL k size body)) ∧ ∀ q, (Value.slice a3 n3 c3).ownBlock = some q → w.heap.size ≤ q from ⟨hkw, hn3, ho, hnw⟩)
  clear q1 q2 q3 q4 q5 r1 r2 r3 hka hS hl2 ho hk2 hnew hkw hnw hn3
  go_wp2_with fail
  go_ret
  exact ⟨HE.out.1, a3, n3, c3, rfl, HE.out.2.1, HE.out.2.2.1, HE.out.2.2.2⟩
end Go.Proofs.YtcoahkmiebeeeaaGreatDoor

namespace Go.Proofs.YtcoahkmiebeeeaaGreatDoor
open Go.RowKit Go.Shelf
set_option linter.unusedVariables false

theorem readOf_code {Y : Option (List Nat)} {ws : List Nat} (h : readOf Y = some ws) : codeB ws = true := by
  cases Y with
  | none => cases h
  | some M =>
    cases hc : codeB (M ++ [lastW M]) with
    | false => rw [readOf_no hc] at h; cases h
    | true => rw [readOf_yes hc] at h; cases h; exact hc
theorem rb_ok (Y : Option (List Nat)) (u n : Nat) (hu : u ≤ n) : (if readOf Y = none then 11 else 0) = 0 → (if readOf Y = none then 0 else u) ≤ n ∧ codeB ((readOf Y).getD []) = true := by
  intro h
  cases hr : readOf Y with
  | none => rw [hr] at h; cases h
  | some ws => exact ⟨by rw [if_neg (by simp)]; exact hu, readOf_code hr⟩
theorem read_prog (bs : List Nat) : ∃ (c u : Nat) (V : List Nat), (c = 0 → u ≤ bs.length ∧ codeB V = true) ∧
    (∀ (a : Option Addr) (cap gb off : Nat) (w : World), Bytes w a cap gb off bs → Calls Tryz.prog 21 #[.slice a bs.length cap] w fun e w' => RAns c u V w e w') := by
  by_cases hs : bs.length < usedN (bs[0]?.getD 0)
  · exact ⟨10, 0, [], (fun h => by cases h), fun a cap gb off w hB => (read_short a cap gb off bs w hB hs).mono fun e w' h => rans_short h⟩
  · have hu : 1 ≤ usedN (bs[0]?.getD 0) := by unfold usedN; split <;> omega
    have hne : bs ≠ [] := by intro e; rw [e] at hs hu; exact hs hu
    have htl : (bs.take (usedN (bs[0]?.getD 0))).length = usedN (bs[0]?.getD 0) := by rw [List.length_take]; omega
    have ht0 : (bs.take (usedN (bs[0]?.getD 0)))[0]?.getD 0 = bs[0]?.getD 0 := by rw [List.getElem?_take, if_pos (by omega)]
    have htne : bs.take (usedN (bs[0]?.getD 0)) ≠ [] := by intro h; rw [h] at htl; simp at htl; omega
    by_cases h1 : bs[0]?.getD 0 ≤ 127
    · have hue : usedN (bs[0]?.getD 0) = 1 + bs[0]?.getD 0 := if_pos h1
      obtain ⟨u, hu2⟩ : ∃ u, u = usedN (bs[0]?.getD 0) := ⟨_, rfl⟩
      rw [← hu2] at hs htl ht0 htne hue hu
      obtain ⟨R0, hR0⟩ : ∃ R0, ∀ R, RdRel ((bs.take u).drop 1) 6 11 R → R = R0 := by
        by_cases h : ∃ R, RdRel ((bs.take u).drop 1) 6 11 R
        · obtain ⟨R, hR⟩ := h
          exact ⟨R, fun R' h' => h'.det hR⟩
        · exact ⟨none, fun R' h' => absurd ⟨R', h'⟩ h⟩
      refine ⟨if readOf (tellD ((bs.take u).drop 1) R0) = none then 11 else 0, if readOf (tellD ((bs.take u).drop 1) R0) = none then 0 else u, (readOf (tellD ((bs.take u).drop 1) R0)).getD [], rb_ok _ u bs.length (by omega), fun a cap gb off w hB => ?_⟩
      by_cases hex : RdRel ((bs.take u).drop 1) 6 11 R0
      · have hT := (tell_states a cap gb off (bs.take u) w (hB.take u (by omega)).2 htne (by rw [ht0]; exact h1) (by omega)).mono (fun e w' h => show TellPost (tellT ((bs.take u).drop 1) R0) w e w' from by
          obtain ⟨R, hR, h⟩ := h
          rw [hR0 R hR] at h
          exact h)
        have := read_told a cap gb off bs u _ w hB hne hu2 (by omega) hT (fun M hM => by
          have h := (tellT_iff _ _ _).1 hM
          exact ⟨h.2, tellD_lt hex h.1⟩)
        rw [readOf_tell] at this
        exact this.mono fun e w' h => rans_of h
      · obtain ⟨e, w', fr, ⟨R, hR, -⟩, -⟩ := (tell_states a cap gb off (bs.take u) w (hB.take u (by omega)).2 htne (by rw [ht0]; exact h1) (by omega)) []
        rw [hR0 R hR] at hR
        exact absurd hR hex
    · have hue : usedN (bs[0]?.getD 0) = 1 + (bs[0]?.getD 0 - 127 + 1) / 2 := if_neg h1
      obtain ⟨u, hu2⟩ : ∃ u, u = usedN (bs[0]?.getD 0) := ⟨_, rfl⟩
      rw [← hu2] at hs htl ht0 htne hue hu
      obtain ⟨n, hn⟩ : ∃ n, n = bs[0]?.getD 0 - 127 := ⟨_, rfl⟩
      rw [← hn] at hue
      have hfe : (List.range n).map (fourW ((bs.take u).drop 1)) = (List.range n).map (fourW (bs.drop 1)) := by
        refine List.map_congr_left fun k hk => ?_
        have hk' := List.mem_range.1 hk
        have : ((bs.take u).drop 1)[k / 2]? = (bs.drop 1)[k / 2]? := by rw [List.getElem?_drop, List.getElem?_drop, List.getElem?_take, if_pos (by omega)]
        unfold fourW
        rw [this]
      refine ⟨_, _, _, rb_ok (some ((List.range n).map (fourW (bs.drop 1)))) u bs.length (by omega), fun a cap gb off w hB => ?_⟩
      have hx := hB.lt 0
      have hT := tell_fours a cap gb off (bs.take u) n w (hB.take u (by omega)).2 htne (by rw [ht0]; omega) (by omega) (by omega)
      rw [hfe] at hT
      exact (read_told a cap gb off bs u _ w hB hne hu2 (by omega) hT (fun M hM => by
        cases hM
        refine ⟨by simp; omega, lt256 (fun b hb => ?_)⟩
        obtain ⟨j, -, rfl⟩ := List.mem_map.1 hb
        have := fourW_lt (bs.drop 1) j (lt_drop hB.lt 1)
        omega)).mono fun e w' h => rans_of h

theorem code_ok {V : List Nat} (h : codeB V = true) : V.length ≤ 256 ∧ ∀ j : Nat, V[j]?.getD 0 < 256 := by
  have hI := codeB_is h
  refine ⟨hI.len, fun j => ?_⟩
  by_cases hj : j < V.length
  · have := hI.le j hj
    unfold wt at this
    omega
  · rw [List.getElem?_eq_none (by omega)]; simp
end Go.Proofs.YtcoahkmiebeeeaaGreatDoor

namespace Go.Proofs.YtcoahkmiebeeeaaGreatDoor
open Go.RowKit Go.Shelf
set_option linter.unusedVariables false

def Sec (ws lits S nx : List Nat) : Prop := ∀ (rest : List Nat) (most : Int), (lits.length : Int) ≤ most → most ≤ 131072 →
  ∃ (c u : Nat) (V : List Nat), (c = 0 → u ≤ (bodyN (S ++ rest)).length ∧ codeB V = true) ∧ RdW (bodyN (S ++ rest)) c u V ∧ litR c u V (S ++ rest) ws most = (0, lits, nx, S.length)

theorem sec_of {k : Nat} {lits ws nx body : List Nat} {c u : Nat} {V : List Nat} (hk : k < 4) (hL : lits.length ≤ 131072) (hb : 2 ≤ k → body.length < 2 ^ btN k (whN k lits.length)) (h0 : k = 0 → body.length = lits.length) (h1 : k = 1 → body.length = 1)
    (hc : c = 0 → u ≤ body.length ∧ codeB V = true) (hR : RdW body c u V) (hT : tellL c u V k lits.length (rwN k (whN k lits.length)) body ws = some (lits, nx)) : Sec ws lits (secL k lits.length body) nx := by
  intro rest most hm1 hm2
  obtain ⟨bs, hbs⟩ : ∃ bs, bs = secL k lits.length body ++ rest := ⟨_, rfl⟩
  have hbs2 : bs = hdL k lits.length body.length ++ (body ++ rest) := by rw [hbs]; unfold secL; rw [List.append_assoc]
  have hH := head_back k lits.length body.length (body ++ rest) hk hL hb
  rw [← hbs2] at hH
  obtain ⟨q1, q2, q3, q4, q5⟩ := hH
  have hBe : hBe bs = body.length := by
    unfold hBe
    rw [q1, q3, q4]
    by_cases e0 : k = 0
    · rw [if_pos e0, h0 e0]
    · rw [if_neg e0]
      by_cases e1 : k = 1
      · rw [if_pos e1, h1 e1]
      · rw [if_neg e1, if_neg (by omega)]
  have hlh : (hdL k lits.length body.length).length = hbN k (whN k lits.length) := hdL_length _ _ _
  have hh1 := hbN_le k (whN k lits.length)
  have hbl : bs.length = hbN k (whN k lits.length) + body.length + rest.length := by rw [hbs2, List.length_append, List.length_append, hlh]; omega
  have hbody : bodyN bs = body := by
    unfold bodyN
    rw [q2, hBe, hbs2, ← hlh, List.take_append, List.take_of_length_le (by omega), Nat.add_sub_cancel_left, List.take_left, List.drop_left]
  rw [← hbs]
  refine ⟨c, u, V, by rw [hbody]; exact hc, by rw [hbody]; exact hR, ?_⟩
  have hne : bs ≠ [] := by intro e; rw [e] at hbl; simp at hbl; omega
  unfold litR
  rw [if_neg (by omega), if_neg (by rw [q2]; rintro (h | h); exact hne h; omega), if_neg (by rw [q3]; omega), if_neg (by rw [q2, hBe]; omega), hbody, q1, q3, q5, hT]
  simp only [secL, List.length_append, hlh, q2, hBe]

theorem sec_raw (ws lits : List Nat) (hL : lits.length ≤ 131072) : Sec ws lits (secL 0 lits.length lits) ws := by
  obtain ⟨c, u, V, h1, h2⟩ := read_prog lits
  exact sec_of (by decide) hL (fun h => by omega) (fun _ => rfl) (fun h => by omega) h1 h2 (by unfold tellL; rw [if_pos rfl])
theorem alike_rep {l : List Nat} (h : alikeN l = true) : l = List.replicate l.length (l[0]?.getD 0) ∧ 1 ≤ l.length := by
  have h := of_decide_eq_true h
  refine ⟨List.ext_getElem (by simp) fun i h1 h2 => ?_, List.length_pos_iff.2 h.1⟩
  have := h.2 i h1
  rw [List.getElem?_eq_getElem h1] at this
  rw [List.getElem_replicate]
  exact this
theorem sec_one (ws lits : List Nat) (hL : lits.length ≤ 131072) (h : alikeN lits = true) : Sec ws lits (secL 1 lits.length (lits.take 1)) ws := by
  obtain ⟨c, u, V, h1, h2⟩ := read_prog (lits.take 1)
  obtain ⟨he, hl1⟩ := alike_rep h
  refine sec_of (by decide) hL (fun h => by omega) (fun h => by omega) (fun _ => by rw [List.length_take]; omega) h1 h2 ?_
  unfold tellL
  rw [if_neg (by decide), if_pos rfl]
  have : (lits.take 1)[0]?.getD 0 = lits[0]?.getD 0 := by rw [List.getElem?_take, if_pos (by decide)]
  rw [this, ← he]
theorem wh32 (L : Nat) : whN 3 L = whN 2 L := by simp [whN]
theorem rw32 (f : Nat) : rwN 3 f = rwN 2 f := by simp [rwN]
theorem bt_room {k L n : Nat} (hk : 2 ≤ k) (hL : L ≤ 131072) (hn : n < L) : n < 2 ^ btN k (whN k L) := by
  unfold whN
  rw [if_neg (by omega)]
  by_cases h1 : L < 1024
  · rw [if_pos h1, show btN k 0 = 10 from by unfold btN; rw [if_neg (by omega)]; rfl]; omega
  · rw [if_neg h1]
    by_cases h2 : L < 16384
    · rw [if_pos h2, show btN k 2 = 14 from by unfold btN; rw [if_neg (by omega)]; rfl]; omega
    · rw [if_neg h2, show btN k 3 = 18 from by unfold btN; rw [if_neg (by omega)]; rfl]; omega
theorem unp_back {ws lits b : List Nat} (hL : lits.length ≤ 131072) (h : packP ws lits (rowsOf lits) = some b) : unpL ws b lits.length (rowsOf lits) = some lits := by
  rcases rowsOf_is lits with ⟨e, h1⟩ | ⟨e, h1⟩
  · rw [e] at h ⊢; exact back_one h
  · rw [e] at h ⊢; exact back_four (by omega) hL h
theorem sec_ahead (ws lits b : List Nat) (hL : lits.length ≤ 131072) (h : packP ws lits (rowsOf lits) = some b) (hb : b.length < lits.length) : Sec ws lits (secL 3 lits.length b) ws := by
  obtain ⟨c, u, V, h1, h2⟩ := read_prog b
  refine sec_of (by decide) hL (fun _ => bt_room (by decide) hL hb) (fun h => by omega) (fun h => by omega) h1 h2 ?_
  unfold tellL
  rw [if_neg (by decide), if_neg (by decide), if_pos rfl, wh32, rw32, show rwN 2 (whN 2 lits.length) = rowsOf lits from rfl, unp_back hL h]
  rfl
theorem sec_anew (ws lits own D b : List Nat) (hL : lits.length ≤ 131072) (hD : Desc D own) (h : packP own lits (rowsOf lits) = some b) (hb : (D ++ b).length < lits.length) : Sec ws lits (secL 2 lits.length (D ++ b)) own := by
  refine sec_of (c := 0) (u := D.length) (V := own) (by decide) hL (fun _ => bt_room (by decide) hL hb) (fun h => by omega) (fun h => by omega) (fun _ => ⟨by rw [List.length_append]; omega, packP_code h⟩) (fun a cap gb off w hB => hD.read b a cap gb off w hB) ?_
  unfold tellL
  rw [if_neg (by decide), if_neg (by decide), if_neg (by decide), if_pos rfl, List.drop_left, show rwN 2 (whN 2 lits.length) = rowsOf lits from rfl, unp_back hL h]
  rfl
theorem raw_len (lits : List Nat) : (secL 0 lits.length lits).length ≤ lits.length + 3 := by
  unfold secL
  rw [List.length_append, hdL_length]
  have : hbN 0 (whN 0 lits.length) ≤ 3 := by unfold hbN; repeat' split
                                             all_goals omega
  omega
end Go.Proofs.YtcoahkmiebeeeaaGreatDoor

namespace Go.Proofs.YtcoahkmiebeeeaaGreatDoor
open Go.RowKit Go.Shelf
set_option linter.unusedVariables false

theorem bytes_box {W : World} {a : Option Addr} {cap g o : Nat} {S : List Nat} (h : Bytes W a cap g o S) {bb : Nat} {a' : Option Addr} {n c t : Nat} (hb : W.heap[bb]? = some (.cells #[.slice a' n c] t (0, 0))) (hne : S ≠ []) : g ≠ bb := by
  rintro rfl
  have h0 := h.cells 0 (List.length_pos_iff.2 hne)
  rw [cell_of hb] at h0
  cases ho : o + 0 with
  | zero => rw [ho] at h0; cases h0
  | succ i => rw [ho] at h0; simp at h0
/-- What shortest has: the shortest section as yet and the weights behind it. -/
structure Bst (w : World) (lb bb nb : Nat) (a : Option Addr) (cap : Nat) (lits S nx : List Nat) (W : World) : Prop where
  keep : Keep noBlock w W
  box : W.heap[lb]? = some (.cells #[.slice a lits.length cap] 22 (0, 0))
  b : ∃ a1 n1 c1 g1 o1, W.heap[bb]? = some (.cells #[.slice a1 n1 c1] 22 (0, 0)) ∧ n1 = S.length ∧ Bytes W a1 c1 g1 o1 S
  n : ∃ a1 n1 c1 g1 o1, W.heap[nb]? = some (.cells #[.slice a1 n1 c1] 22 (0, 0)) ∧ n1 = nx.length ∧ Bytes W a1 c1 g1 o1 nx
  at_ : w.heap.size ≤ lb ∧ w.heap.size ≤ bb ∧ w.heap.size ≤ nb ∧ lb ≠ bb ∧ lb ≠ nb ∧ bb ≠ nb
theorem Bst.to {w : World} {lb bb nb : Nat} {a : Option Addr} {cap : Nat} {lits S nx : List Nat} {W W' : World} (h : Bst w lb bb nb a cap lits S nx W) (hk : Keep noBlock W W') : Bst w lb bb nb a cap lits S nx W' := by
  obtain ⟨h1, h2, ⟨a1, n1, c1, g1, o1, p1, p2, p3⟩, ⟨a2, n2, c2, g2, o2, r1, r2, r3⟩, h5⟩ := h
  exact ⟨h1.trans' hk, hk.obj h2 (fun h => h), ⟨a1, n1, c1, g1, o1, hk.obj p1 (fun h => h), p2, p3.keep hk (fun _ h => h)⟩, ⟨a2, n2, c2, g2, o2, hk.obj r1 (fun h => h), r2, r3.keep hk (fun _ h => h)⟩, h5⟩

theorem Bst.put {w : World} {lb bb nb : Nat} {a : Option Addr} {cap : Nat} {lits S nx : List Nat} {W : World} (h : Bst w lb bb nb a cap lits S nx W) {S2 nx2 : List Nat} {a1 a2 : Option Addr} {c1 g1 o1 c2 g2 o2 n1 n2 : Nat} (hb1 : Bytes W a1 c1 g1 o1 S2) (hb2 : Bytes W a2 c2 g2 o2 nx2) (hn1 : n1 = S2.length) (hn2 : n2 = nx2.length) :
    Bst w lb bb nb a cap lits S2 nx2 ((W.setCell ⟨bb, 0, none⟩ (.slice a1 n1 c1)).setCell ⟨nb, 0, none⟩ (.slice a2 n2 c2)) := by
  obtain ⟨h1, h2, ⟨b1, m1, d1, e1, f1, p1, p2, p3⟩, ⟨b2, m2, d2, e2, f2, r1, r2, r3⟩, h5, h6, h7, h8, h9, h10⟩ := h
  have hk : Keep (fun j => j = bb ∨ j = nb) W ((W.setCell ⟨bb, 0, none⟩ (.slice a1 n1 c1)).setCell ⟨nb, 0, none⟩ (.slice a2 n2 c2)) :=
    (((Keep.refl (fun j => j = bb ∨ j = nb) W).setCell (p := ⟨bb, 0, none⟩) (fun _ => .inl rfl) _).setCell (p := ⟨nb, 0, none⟩) (fun _ => .inr rfl) _)
  refine ⟨h1.trans hk (fun i hi e => by omega), hk.obj h2 (by omega), ⟨a1, n1, c1, g1, o1, ?_, hn1, hb1.keep hk (fun hne e => ?_)⟩, ⟨a2, n2, c2, g2, o2, ?_, hn2, hb2.keep hk (fun hne e => ?_)⟩, h5, h6, h7, h8, h9, h10⟩
  · exact set_far ((set_obj p1 0 _).trans (by simp)) h10 _ _
  · rcases e with e | e
    · exact bytes_box hb1 p1 hne e
    · exact bytes_box hb1 r1 hne e
  · exact (set_obj (set_far r1 (fun e => h10 e.symm) 0 _) 0 _).trans (by simp)
  · rcases e with e | e
    · exact bytes_box hb2 p1 hne e
    · exact bytes_box hb2 r1 hne e

set_option maxRecDepth 100000 in
set_option maxHeartbeats 2000000 in
theorem offer_any (w : World) (lb bb nb : Nat) (a : Option Addr) (cap : Nat) (lits S nx : List Nat) (W : World) (k : Nat) (a2 : Option Addr) (cap2 gb2 off2 : Nat) (body : List Nat) (a3 : Option Addr) (cap3 gb3 off3 : Nat) (own : List Nat) (hS : Bst w lb bb nb a cap lits S nx W) (hF : Frm W)
    (hB : Bytes W a2 cap2 gb2 off2 body) (hO : Bytes W a3 cap3 gb3 off3 own) (hk : k < 4) (hL : lits.length ≤ 131072) (hb : body.length < 400000) (ho : own.length ≤ 140737488355327) (hSl : S.length ≤ 500000) :
    Calls Tryz.prog 15 #[.int .i64 (k : Int), .slice a2 body.length cap2, .slice a3 own.length cap3, .pointer (some ⟨lb, 0, none⟩), .pointer (some ⟨bb, 0, none⟩), .pointer (some ⟨nb, 0, none⟩)] W fun e W' => (∃ v, e = .returned v) ∧
      (((secL k lits.length body).length < S.length ∧ Bst w lb bb nb a cap lits (secL k lits.length body) own W') ∨ (¬ (secL k lits.length body).length < S.length ∧ Bst w lb bb nb a cap lits S nx W')) := by
  have hsec := section_any k lits.length a2 cap2 gb2 off2 body W hF hB hk hL (by omega)
  have HC := hid (show ∀ W', Keep noBlock W W' → _ from fun W' hK => cloneB_any a3 cap3 gb3 off3 own W' (hO.keep hK (fun _ h => h)) ho)
  have HS := hid hS
  obtain ⟨L, hLe⟩ : ∃ L, L = lits.length := ⟨_, rfl⟩
  have c1 : W.cell? ⟨lb, 0, none⟩ = some (.slice a L cap) := by rw [hLe]; exact cell_of hS.box 0
  obtain ⟨sec, hsc⟩ : ∃ sec, sec = secL k lits.length body := ⟨_, rfl⟩
  rw [← hsc, ← hLe] at hsec
  rw [← hsc]
  have HSec := hid hsec
  have HLt := hid (show ∀ j : Nat, sec[j]?.getD 0 < 256 from by rw [hsc]; exact lt_app (lt256 (leN_lt _ _)) hB.lt)
  have hscl : sec.length ≤ 500000 := by
    rw [hsc]; unfold secL; rw [List.length_append, hdL_length]
    have := hbN_le k (whN k lits.length); omega
  have hLI : (L : Int) ≤ 131072 := by omega
  have hbI : (body.length : Int) < 400000 := by omega
  obtain ⟨bn, hbn⟩ : ∃ bn, bn = body.length := ⟨_, rfl⟩
  obtain ⟨on, hon⟩ : ∃ on, on = own.length := ⟨_, rfl⟩
  rw [← hbn] at HSec hbI ⊢
  rw [← hon] at HC ⊢
  have HON := hid hon
  clear hS hF hB hO hsec hsc hLe hL hb ho hbn hon
  go_enter Tryz.func15, Tryz.ntmps15
  go_wp2_with fail
  refine HSec.out.mono ?_
  rintro e w1 ⟨hk1, sa, ns, sc, rfl, hns, hos, hfs⟩
  obtain ⟨a1, n1, c1', g1, o1, p1, p2, p3⟩ := (HS.out.to hk1).b
  obtain ⟨a4, n4, c4, g4, o4, r1, r2, r3⟩ := (HS.out.to hk1).n
  have c2 : w1.cell? ⟨bb, 0, none⟩ = some (.slice a1 n1 c1') := cell_of p1 0
  have hn1I : (n1 : Int) ≤ 500000 := by omega
  have hnsI : (ns : Int) ≤ 500000 := by omega
  have H1 := hid (And.intro hk1 (And.intro hns (And.intro hos (And.intro hfs p2))))
  clear hk1 hns hos hfs p1 p2 p3 r1 r2 r3
  by_cases hlt : ns < n1
  · have hltI : (ns : Int) < (n1 : Int) := by omega
    have HC1 := hid (HC.out w1 H1.out.1)
    go_wp2_with fail
    refine HC1.out.mono ?_
    rintro e w2 ⟨hk2, a5, n5, c5, g5, rfl, hn5, hB5⟩
    obtain ⟨q1, q2, q3, q4, q5⟩ := H1.out
    have hS2 := (HS.out.to q1).to hk2
    obtain ⟨sa', sc', sg, hse, hsB, -⟩ := owns_bytes (M := sec) (show w2.ownsRow 0 5 1 (.slice sa ns sc) sec.length (u8s sec) from by rw [← q2]; exact owns_kept q3 hk2 (fun _ _ h => h)) HLt.out (by omega)
    rw [← q2] at hse
    cases hse
    have hfin := hS2.put hsB hB5 q2 (hn5.trans HON.out)
    obtain ⟨b1, m1, d1, e1, f1, p1, p2, p3⟩ := hS2.b
    obtain ⟨b2, m2, d2, e2, f2, r1, r2, r3⟩ := hS2.n
    have fz1 := frozen_of p1 0
    have fz2 : (w2.setCell ⟨bb, 0, none⟩ (.slice sa ns sc)).frozen? ⟨nb, 0, none⟩ = false := frozen_of (set_far r1 (fun e => hS2.at_.2.2.2.2.2 e.symm) 0 _) 0
    have k1 : w2.cell? ⟨bb, 0, none⟩ = some (.slice b1 m1 d1) := cell_of p1 0
    have k2 : (w2.setCell ⟨bb, 0, none⟩ (.slice sa ns sc)).cell? ⟨nb, 0, none⟩ = some (.slice b2 m2 d2) := cell_of (set_far r1 (fun e => hS2.at_.2.2.2.2.2 e.symm) 0 _) 0
    have HE := hid hfin
    clear hk2 hn5 hB5 q1 q2 q3 q4 q5 hS2 hsB hfin p1 p2 p3 r1 r2 r3
    go_wp2_with fail
    refine bodyPost_end (results_none rfl _ _ _) rfl ?_
    exact ⟨⟨_, rfl⟩, .inl ⟨by have := H1.out; omega, HE.out⟩⟩
  · have hltI : ¬ (ns : Int) < (n1 : Int) := by omega
    go_wp2_with fail
    refine bodyPost_end (results_none rfl _ _ _) rfl ?_
    exact ⟨⟨_, rfl⟩, .inr ⟨by have := H1.out; omega, HS.out.to H1.out.1⟩⟩
end Go.Proofs.YtcoahkmiebeeeaaGreatDoor

namespace Go.Proofs.YtcoahkmiebeeeaaGreatDoor
open Go.RowKit Go.Shelf
set_option linter.unusedVariables false

/-- A section that is short enough. -/
structure Short (ws lits S nx : List Nat) : Prop where
  sec : Sec ws lits S nx
  len : S.length ≤ lits.length + 3
  nx_ : nx.length ≤ max ws.length 256
  one : alikeN lits = true → S.length ≤ hbN 1 (whN 1 lits.length) + 1
  few : alikeN lits = false → (2 ≤ kindsN lits ∧ kindsN lits ≤ 2 ^ 11) → ∃ own, Own lits own ∧ ∀ b, packP own lits (rowsOf lits) = some b → lits.length ≤ 129 + b.length ∨ S.length ≤ 134 + b.length
def SAns (ws lits : List Nat) (w : World) (e : Ending) (w' : World) : Prop := Keep noBlock w w' ∧ ∃ S nx a1 n1 c1 g1 o1 a2 n2 c2 g2 o2, Short ws lits S nx ∧ e = .returned (.tuple #[.slice a1 n1 c1, .slice a2 n2 c2]) ∧ n1 = S.length ∧ n2 = nx.length ∧ Bytes w' a1 c1 g1 o1 S ∧ Bytes w' a2 c2 g2 o2 nx

theorem results_cells2 {fn : Func} {x y : Tmp} (h : fn.results = #[.cell x 22, .cell y 22]) (tmps : Array Value) (w : World) (p q : Addr) (v u : Value) (hx : tmps[x]?.getD undef = .pointer (some p)) (hy : tmps[y]?.getD undef = .pointer (some q)) (hv : w.cell? p = some v) (hu : w.cell? q = some u) : (results fn tmps).run Tryz.prog w = .ok (.tuple #[v, u]) w := by
  simp [results, h, hx, hy, asAddr, loadVar22 hv, loadVar22 hu]
def GoodS (ws lits S nx : List Nat) : Prop := Sec ws lits S nx ∧ S.length ≤ lits.length + 3 ∧ nx.length ≤ max ws.length 256
theorem Bst.frz {w : World} {lb bb nb : Nat} {a : Option Addr} {cap : Nat} {lits S nx : List Nat} {W : World} (h : Bst w lb bb nb a cap lits S nx W) : W.frozen? ⟨nb, 0, none⟩ = false := by
  obtain ⟨a2, n2, c2, g2, o2, r1, r2, r3⟩ := h.n
  exact frozen_of r1 0
theorem Bst.again {w : World} {lb bb nb : Nat} {a : Option Addr} {cap : Nat} {lits S nx : List Nat} {W : World} (h : Bst w lb bb nb a cap lits S nx W) :
    ∃ a1 n1 c1 g1 o1 a2 n2 c2 g2 o2, W.cell? ⟨bb, 0, none⟩ = some (.slice a1 n1 c1) ∧ W.frozen? ⟨bb, 0, none⟩ = false ∧ W.cell? ⟨nb, 0, none⟩ = some (.slice a2 n2 c2) ∧ (W.setCell ⟨bb, 0, none⟩ (.slice a1 n1 c1)).cell? ⟨nb, 0, none⟩ = some (.slice a2 n2 c2) ∧ (W.setCell ⟨bb, 0, none⟩ (.slice a1 n1 c1)).frozen? ⟨nb, 0, none⟩ = false ∧ (W.setCell ⟨bb, 0, none⟩ (.slice a1 n1 c1)).cell? ⟨bb, 0, none⟩ = some (.slice a1 n1 c1) ∧
      Hid (Keep noBlock w ((W.setCell ⟨bb, 0, none⟩ (.slice a1 n1 c1)).setCell ⟨nb, 0, none⟩ (.slice a2 n2 c2)) ∧ n1 = S.length ∧ n2 = nx.length ∧ Bytes ((W.setCell ⟨bb, 0, none⟩ (.slice a1 n1 c1)).setCell ⟨nb, 0, none⟩ (.slice a2 n2 c2)) a1 c1 g1 o1 S ∧ Bytes ((W.setCell ⟨bb, 0, none⟩ (.slice a1 n1 c1)).setCell ⟨nb, 0, none⟩ (.slice a2 n2 c2)) a2 c2 g2 o2 nx ∧
        ((W.setCell ⟨bb, 0, none⟩ (.slice a1 n1 c1)).setCell ⟨nb, 0, none⟩ (.slice a2 n2 c2)).cell? ⟨bb, 0, none⟩ = some (.slice a1 n1 c1) ∧ ((W.setCell ⟨bb, 0, none⟩ (.slice a1 n1 c1)).setCell ⟨nb, 0, none⟩ (.slice a2 n2 c2)).cell? ⟨nb, 0, none⟩ = some (.slice a2 n2 c2)) := by
  obtain ⟨a1, n1, c1, g1, o1, p1, p2, p3⟩ := h.b
  obtain ⟨a2, n2, c2, g2, o2, r1, r2, r3⟩ := h.n
  have hne := h.at_.2.2.2.2.2
  have hP := h.put p3 r3 p2 r2
  have hs := set_far (c := bb) r1 (fun e => hne e.symm) 0 (.slice a1 n1 c1)
  have hk : Keep (fun j => j = bb ∨ j = nb) W ((W.setCell ⟨bb, 0, none⟩ (.slice a1 n1 c1)).setCell ⟨nb, 0, none⟩ (.slice a2 n2 c2)) :=
    (((Keep.refl (fun j => j = bb ∨ j = nb) W).setCell (p := ⟨bb, 0, none⟩) (fun _ => .inl rfl) _).setCell (p := ⟨nb, 0, none⟩) (fun _ => .inr rfl) _)
  refine ⟨a1, n1, c1, g1, o1, a2, n2, c2, g2, o2, cell_of p1 0, frozen_of p1 0, cell_of r1 0, cell_of hs 0, frozen_of hs 0, (cell_of (set_obj p1 0 (.slice a1 n1 c1)) 0).trans (by rfl), hP.keep, p2, r2, p3.keep hk (fun hn e => ?_), r3.keep hk (fun hn e => ?_), ?_, ?_⟩
  · rcases e with e | e
    · exact bytes_box p3 p1 hn e
    · exact bytes_box p3 r1 hn e
  · rcases e with e | e
    · exact bytes_box r3 p1 hn e
    · exact bytes_box r3 r1 hn e
  · have h := cell_of (set_far (set_obj p1 0 (.slice a1 n1 c1)) hne 0 (.slice a2 n2 c2)) 0
    rw [h]; rfl
  · have h := cell_of (set_obj hs 0 (.slice a2 n2 c2)) 0
    rw [h]; rfl

set_option maxRecDepth 100000 in
set_option maxHeartbeats 2000000 in
theorem shortest_any (a : Option Addr) (cap gb off : Nat) (lits : List Nat) (a2 : Option Addr) (cap2 gb2 off2 : Nat) (ws : List Nat) (w : World) (hF : Frm w) (hB : Bytes w a cap gb off lits) (hB2 : Bytes w a2 cap2 gb2 off2 ws) (hl : lits.length ≤ 131072) (hl2 : ws.length ≤ 140737488355327) :
    Calls Tryz.prog 9 #[.slice a lits.length cap, .slice a2 ws.length cap2] w fun e w' => SAns ws lits w e w' := by
  have HB := hid (And.intro hF (And.intro hB (And.intro hB2 (And.intro hl hl2))))
  obtain ⟨L, hL⟩ : ∃ L, L = lits.length := ⟨_, rfl⟩
  obtain ⟨N, hN⟩ : ∃ N, N = ws.length := ⟨_, rfl⟩
  have HL := hid (And.intro hL hN)
  rw [← hL] at hl ⊢
  rw [← hN] at ⊢
  have hlI : (L : Int) ≤ 131072 := by omega
  obtain ⟨lb, hlb⟩ : ∃ lb, lb = w.heap.size := ⟨_, rfl⟩
  have HLB := hid hlb
  have hk0 : Keep noBlock w (((w.alloc (.cells #[.slice a L cap] 22)).alloc (.cells #[.slice none 0 0] 22)).alloc (.cells #[.slice none 0 0] 22)) := (((Keep.refl _ w).alloc _).alloc _).alloc _
  have b1 := World.alloc_heap_new w (.cells #[.slice a L cap] 22)
  have b2 := World.alloc_heap_new (w.alloc (.cells #[.slice a L cap] 22)) (.cells #[.slice none 0 0] 22)
  have b3 := World.alloc_heap_new ((w.alloc (.cells #[.slice a L cap] 22)).alloc (.cells #[.slice none 0 0] 22)) (.cells #[.slice none 0 0] 22)
  simp only [World.size_alloc] at b2 b3
  have H0 := hid (show Keep noBlock w (((w.alloc (.cells #[.slice a L cap] 22)).alloc (.cells #[.slice none 0 0] 22)).alloc (.cells #[.slice none 0 0] 22)) ∧
    (((w.alloc (.cells #[.slice a L cap] 22)).alloc (.cells #[.slice none 0 0] 22)).alloc (.cells #[.slice none 0 0] 22)).heap[lb]? = some (.cells #[.slice a L cap] 22 (0, 0)) ∧
    (((w.alloc (.cells #[.slice a L cap] 22)).alloc (.cells #[.slice none 0 0] 22)).alloc (.cells #[.slice none 0 0] 22)).heap[lb + 1]? = some (.cells #[.slice none 0 0] 22 (0, 0)) ∧
    (((w.alloc (.cells #[.slice a L cap] 22)).alloc (.cells #[.slice none 0 0] 22)).alloc (.cells #[.slice none 0 0] 22)).heap[lb + 1 + 1]? = some (.cells #[.slice none 0 0] 22 (0, 0)) from
    ⟨hk0, by rw [hlb]; exact alloc_far (alloc_far b1 _) _, by rw [hlb]; exact alloc_far b2 _, by rw [hlb]; exact b3⟩)
  clear hF hB hB2 hl hl2 hL hN hk0 b1 b2 b3
  have HSc := hid (show ∀ W, Keep noBlock w W → ∀ (k : Nat) (a3 : Option Addr) (c3 g3 o3 : Nat) (body : List Nat), True → k < 4 → Bytes W a3 c3 g3 o3 body → body.length < 500000 → Calls Tryz.prog 13 #[.int .i64 (k : Int), .int .i64 (L : Int), .slice a3 body.length c3] W fun e w' => OAns (secL k L body) W e w' from
    fun W hW k a3 c3 g3 o3 body _ hk hb hbl => section_any k L a3 c3 g3 o3 body W (HB.out.1.keep hW) hb hk (by rw [HL.out.1]; exact HB.out.2.2.2.1) hbl)
  go_enter Tryz.func9, Tryz.ntmps9
  go_wp2_with fail
  rw [← hlb]
  generalize ((w.alloc (.cells #[.slice a L cap] 22)).alloc (.cells #[.slice none 0 0] 22)).alloc (.cells #[.slice none 0 0] 22) = W0 at H0 ⊢
  have hs0 := HSc.out W0 H0.out.1 0 a cap gb off lits trivial (by decide) (HB.out.2.1.keep H0.out.1 (fun _ h => h)) (by have := HB.out.2.2.2.1; omega)
  rw [← HL.out.1] at hs0
  refine (show Calls Tryz.prog 13 #[.int .i64 0, .int .i64 (L : Int), .slice a L cap] W0 _ from hs0).mono ?_
  rintro e w1 ⟨hk1, sa, ns, sc, rfl, hns, hos, hfs⟩
  have H1 := hid (And.intro hk1 (And.intro hns hos))
  have hcl := cloneB_any a2 cap2 gb2 off2 ws w1 (HB.out.2.2.1.keep (H0.out.1.trans' hk1) (fun _ h => h)) HB.out.2.2.2.2
  rw [← HL.out.2] at hcl
  have HCl := hid hcl
  clear hs0 hk1 hns hos hfs hcl hlb
  go_wp2_with fail
  refine HCl.out.mono ?_
  rintro e w2 ⟨hk2, na, nn, nc, ng, rfl, hnn, hBn⟩
  obtain ⟨t1, t2, t3⟩ := H1.out
  have hl := HB.out.2.2.2.1
  have hrl := raw_len lits
  obtain ⟨sa', sc', sg, hse, hsB, -⟩ := owns_bytes (M := secL 0 L lits) (show w2.ownsRow 0 5 1 (.slice sa ns sc) (secL 0 L lits).length (u8s (secL 0 L lits)) from by rw [← t2]; exact owns_kept t3 hk2 (fun _ _ h => h)) (lt_app (lt256 (leN_lt _ _)) HB.out.2.1.lt) (by rw [HL.out.1]; omega)
  rw [← t2] at hse
  cases hse
  have hkw := (H0.out.1.trans' t1).trans' hk2
  have hb0 := hk2.obj (t1.obj H0.out.2.1 (fun h => h)) (fun h => h)
  have hb1 := hk2.obj (t1.obj H0.out.2.2.1 (fun h => h)) (fun h => h)
  have hb2 := hk2.obj (t1.obj H0.out.2.2.2 (fun h => h)) (fun h => h)
  have hS0 : Bst w lb (lb + 1) (lb + 1 + 1) a cap lits [] [] w2 := ⟨hkw, by rw [← HL.out.1]; exact hb0, ⟨none, 0, 0, 0, 0, hb1, rfl, bytes_none _⟩, ⟨none, 0, 0, 0, 0, hb2, rfl, bytes_none _⟩, by have := HLB.out; omega⟩
  have hS := hS0.put hsB hBn t2 (hnn.trans HL.out.2)
  have c0 : w2.cell? ⟨lb, 0, none⟩ = some (.slice a L cap) := cell_of hb0 0
  have c1 : w2.cell? ⟨lb + 1, 0, none⟩ = some (.slice none 0 0) := cell_of hb1 0
  have f1 := frozen_of hb1 0
  have hb2' := set_far (c := lb + 1) hb2 (by omega) 0 (.slice sa ns sc)
  have c2 : (w2.setCell ⟨lb + 1, 0, none⟩ (.slice sa ns sc)).cell? ⟨lb + 1 + 1, 0, none⟩ = some (.slice none 0 0) := cell_of hb2' 0
  have f2 := frozen_of hb2' 0
  have HS := hid hS
  clear hk2 hnn hBn t1 t2 t3 hsB hkw hb0 hb1 hb2 hS0 hS hb2' hrl hl HCl
  go_wp2_with fail
  --TAIL
  generalize (w2.setCell ⟨lb + 1, 0, none⟩ (.slice sa ns sc)).setCell ⟨lb + 1 + 1, 0, none⟩ (.slice na nn nc) = W3 at HS ⊢
  refine (show Calls Tryz.prog 16 #[.slice a L cap] W3 _ from by
    have := alike_any a cap gb off lits W3 (HB.out.2.1.keep HS.out.keep (fun _ h => h)) HB.out.2.2.2.1
    rw [← HL.out.1] at this
    exact this).mono ?_
  rintro e w4 ⟨hk4, rfl⟩
  have HS4 := hid (show Bst w lb (lb + 1) (lb + 1 + 1) a cap lits (secL 0 lits.length lits) ws w4 from by
    have := HS.out.to hk4
    rw [HL.out.1] at this
    exact this)
  clear HS hk4 c0 c1 f1 c2 f2 H1 H0
  have c0 : w4.cell? ⟨lb, 0, none⟩ = some (.slice a L cap) := by rw [HL.out.1]; exact cell_of HS4.out.box 0
  cases hal : alikeN lits with
  | true =>
    have HA := hid hal
    clear hal
    have hcap1 : (1 : Int) ≤ (cap : Int) := by have := (alike_rep HA.out).2; have := HB.out.2.1.cap; omega
    have hL1 : (0 : Int) < (L : Int) := by have := (alike_rep HA.out).2; have := HL.out.1; omega
    have hl := HB.out.2.2.2.1
    have hof := offer_any w lb (lb + 1) (lb + 1 + 1) a cap lits _ _ w4 1 a cap gb off (lits.take 1) a2 cap2 gb2 off2 ws HS4.out (HB.out.1.keep HS4.out.keep) ((HB.out.2.1.keep HS4.out.keep (fun _ h => h)).take 1 (by have := (alike_rep HA.out).2; omega)).2 (HB.out.2.2.1.keep HS4.out.keep (fun _ h => h)) (by decide) hl (by rw [List.length_take]; omega) HB.out.2.2.2.2 (by have := raw_len lits; omega)
    have ht1 : (lits.take 1).length = 1 := by rw [List.length_take]; have := (alike_rep HA.out).2; omega
    have hscl : (secL 1 lits.length (lits.take 1)).length = hbN 1 (whN 1 lits.length) + 1 := by unfold secL; rw [List.length_append, hdL_length, ht1]
    rw [ht1, ← HL.out.2] at hof
    have hsr := raw_len lits
    have hr0 : (secL 0 lits.length lits).length = hbN 0 (whN 0 lits.length) + lits.length := by unfold secL; rw [List.length_append, hdL_length]
    have hhb : hbN 1 (whN 1 lits.length) = hbN 0 (whN 0 lits.length) := by simp [hbN, whN]
    have hL1' : 1 ≤ lits.length := (alike_rep HA.out).2
    have HOF := hid (show Calls Tryz.prog 15 #[.int .i64 1, .slice a 1 cap, .slice a2 N cap2, .pointer (some ⟨lb, 0, none⟩), .pointer (some ⟨lb + 1, 0, none⟩), .pointer (some ⟨lb + 1 + 1, 0, none⟩)] w4 fun e W' => (∃ v, e = .returned v) ∧ ∃ S nx, Hid (Bst w lb (lb + 1) (lb + 1 + 1) a cap lits S nx W') ∧ Hid (Short ws lits S nx) from by
      refine (show Calls Tryz.prog 15 #[.int .i64 1, .slice a 1 cap, .slice a2 N cap2, .pointer (some ⟨lb, 0, none⟩), .pointer (some ⟨lb + 1, 0, none⟩), .pointer (some ⟨lb + 1 + 1, 0, none⟩)] w4 _ from hof).mono ?_
      rintro e W' ⟨he, ⟨hlt, hb⟩ | ⟨hlt, hb⟩⟩
      · exact ⟨he, _, _, hb, ⟨sec_one ws lits hl HA.out, by omega, by omega, fun _ => by omega, fun h => by rw [HA.out] at h; cases h⟩⟩
      · exact ⟨he, _, _, hb, ⟨sec_raw ws lits hl, hsr, by omega, fun _ => by omega, fun h => by rw [HA.out] at h; cases h⟩⟩)
    clear hof hl ht1 hscl hsr hr0 hhb hL1'
    go_wp2_with fail
    refine HOF.out.mono ?_
    rintro e W6 ⟨⟨v6, rfl⟩, S, nx, HS, HG⟩
    clear HOF HS4 c0
    obtain ⟨x1, y1, z1, g1, o1, x2, y2, z2, g2, o2, k1, k2, k3, k4, k5, k6, HF⟩ := (HS.out.to (keep_drewN W6 1)).again
    have i6 := (HS.out.to (keep_drewN W6 1)).frz
    clear HS
    go_wp2_with fail
    have j1 : W6.cell? ⟨lb + 1, 0, none⟩ = some (.slice x1 y1 z1) ∧ W6.cell? ⟨lb + 1 + 1, 0, none⟩ = some (.slice x2 y2 z2) := ⟨k1, k3⟩
    have j2 := And.intro k1 k3
    have i2 : W6.frozen? ⟨lb + 1, 0, none⟩ = false := k2
    have i4 : (W6.setCell ⟨lb + 1, 0, none⟩ (.slice x1 y1 z1)).frozen? ⟨lb + 1 + 1, 0, none⟩ = false := k5
    have i3 : W6.frozen? ⟨lb + 1 + 1, 0, none⟩ = false := i6
    have j3 := And.intro k6 k4
    have j4 := And.intro HF.out.2.2.2.2.2.1 HF.out.2.2.2.2.2.2
    go_region_held3 (fun W => W.cell? ⟨lb + 1, 0, none⟩ = some (.slice x1 y1 z1) ∧ W.cell? ⟨lb + 1 + 1, 0, none⟩ = some (.slice x2 y2 z2)) (first | exact j1 | exact j2 | exact j3 | exact j4 | go_keep) ((fail))
    go_wp2_with fail
    obtain ⟨f1, f2, f3, f4, f5, f6, f7⟩ := HF.out
    refine bodyPost_ret (v := .tuple #[.slice x1 y1 z1, .slice x2 y2 z2]) ?_ rfl ?_
    · exact results_cells2 rfl _ _ ⟨lb + 1, 0, none⟩ ⟨lb + 1 + 1, 0, none⟩ _ _ rfl rfl f6 f7
    exact ⟨f1, S, nx, x1, y1, z1, g1, o1, x2, y2, z2, g2, o2, HG.out, rfl, f2, f3, f4, f5⟩
  | false =>
    have HA := hid hal
    clear hal
    have hpk := packL_any a cap gb off lits a2 cap2 gb2 off2 ws w4 (HB.out.1.keep HS4.out.keep) (HB.out.2.1.keep HS4.out.keep (fun _ h => h)) (HB.out.2.2.1.keep HS4.out.keep (fun _ h => h)) HB.out.2.2.2.1
    rw [show rwN 2 (whN 2 lits.length) = rowsOf lits from rfl, ← HL.out.1, ← HL.out.2] at hpk
    have HPk := hid hpk
    have HG0 := hid (show GoodS ws lits (secL 0 lits.length lits) ws from ⟨sec_raw ws lits HB.out.2.2.2.1, raw_len lits, by omega⟩)
    clear hpk
    go_wp2_with fail
    refine HPk.out.mono ?_
    intro e W hP
    cases hp : packP ws lits (rowsOf lits) with
    | none =>
      rw [hp] at hP
      obtain ⟨hk6, rfl⟩ := hP
      obtain ⟨S, nx, HS, HG⟩ : ∃ S nx, Hid (Bst w lb (lb + 1) (lb + 1 + 1) a cap lits S nx W) ∧ Hid (GoodS ws lits S nx) := ⟨_, _, HS4.out.to hk6, HG0.out⟩
      clear HS4 hk6 HG0 HPk hp c0
      have c0 : W.cell? ⟨lb, 0, none⟩ = some (.slice a L cap) := by rw [HL.out.1]; exact cell_of HS.out.box 0
      have HPA := hid (show Calls Tryz.prog 18 #[.slice a L cap] W fun e w' => AAns lits W e w' from by
        have := packAnew_any a cap gb off lits W (HB.out.1.keep HS.out.keep) (HB.out.2.1.keep HS.out.keep (fun _ h => h)) HB.out.2.2.2.1
        rw [← HL.out.1] at this
        exact this)
      go_wp2_with fail
      refine HPA.out.mono ?_
      rintro e W5 ⟨hk5, ⟨hf, rfl⟩ | ⟨own, body, ok, p1, m1, d1, e1, i1, p2, m2, d2, e2, i2, hOw, rfl, hm1, hm2, hBb, hBo, hok1, hok2⟩⟩
      · have HS5 := hid (HS.out.to hk5)
        have HG5 := hid (show Short ws lits S nx from ⟨HG.out.1, HG.out.2.1, HG.out.2.2, (fun h => by rw [HA.out] at h; cases h), fun _ h => absurd h hf⟩)
        clear HS hk5 hf HPA HG c0
        have HS := HS5
        have HG := HG5
        clear HS5 HG5
        obtain ⟨x1, y1, z1, g1, o1, x2, y2, z2, g2, o2, k1, k2, k3, k4, k5, k6, HF⟩ := (HS.out.to (keep_drewN W5 1)).again
        have i6 := (HS.out.to (keep_drewN W5 1)).frz
        clear HS
        go_wp2_with fail
        have j1 : W5.cell? ⟨lb + 1, 0, none⟩ = some (.slice x1 y1 z1) ∧ W5.cell? ⟨lb + 1 + 1, 0, none⟩ = some (.slice x2 y2 z2) := ⟨k1, k3⟩
        have j2 := And.intro k1 k3
        have i2 : W5.frozen? ⟨lb + 1, 0, none⟩ = false := k2
        have i4 : (W5.setCell ⟨lb + 1, 0, none⟩ (.slice x1 y1 z1)).frozen? ⟨lb + 1 + 1, 0, none⟩ = false := k5
        have i3 : W5.frozen? ⟨lb + 1 + 1, 0, none⟩ = false := i6
        have j3 := And.intro k6 k4
        have j4 := And.intro HF.out.2.2.2.2.2.1 HF.out.2.2.2.2.2.2
        go_region_held3 (fun W => W.cell? ⟨lb + 1, 0, none⟩ = some (.slice x1 y1 z1) ∧ W.cell? ⟨lb + 1 + 1, 0, none⟩ = some (.slice x2 y2 z2)) (first | exact j1 | exact j2 | exact j3 | exact j4 | go_keep) ((fail))
        go_wp2_with fail
        obtain ⟨f1, f2, f3, f4, f5, f6, f7⟩ := HF.out
        refine bodyPost_ret (v := .tuple #[.slice x1 y1 z1, .slice x2 y2 z2]) ?_ rfl ?_
        · exact results_cells2 rfl _ _ ⟨lb + 1, 0, none⟩ ⟨lb + 1 + 1, 0, none⟩ _ _ rfl rfl f6 f7
        exact ⟨f1, S, nx, x1, y1, z1, g1, o1, x2, y2, z2, g2, o2, HG.out, rfl, f2, f3, f4, f5⟩
      · cases ok with
        | false =>
          have HS5 := hid (HS.out.to hk5)
          have HG5 := hid (show Short ws lits S nx from ⟨HG.out.1, HG.out.2.1, HG.out.2.2, (fun h => by rw [HA.out] at h; cases h), fun _ _ => ⟨own, hOw, fun b hb => .inl (hok2 rfl b hb)⟩⟩)
          clear HS hk5 HPA HG c0 hOw hm1 hm2 hBb hBo hok1 hok2
          have HS := HS5
          have HG := HG5
          clear HS5 HG5
          obtain ⟨x1, y1, z1, g1, o1, x2, y2, z2, g2, o2, k1, k2, k3, k4, k5, k6, HF⟩ := (HS.out.to (keep_drewN W5 1)).again
          have i6 := (HS.out.to (keep_drewN W5 1)).frz
          clear HS
          go_wp2_with fail
          have j1 : W5.cell? ⟨lb + 1, 0, none⟩ = some (.slice x1 y1 z1) ∧ W5.cell? ⟨lb + 1 + 1, 0, none⟩ = some (.slice x2 y2 z2) := ⟨k1, k3⟩
          have j2 := And.intro k1 k3
          have i2 : W5.frozen? ⟨lb + 1, 0, none⟩ = false := k2
          have i4 : (W5.setCell ⟨lb + 1, 0, none⟩ (.slice x1 y1 z1)).frozen? ⟨lb + 1 + 1, 0, none⟩ = false := k5
          have i3 : W5.frozen? ⟨lb + 1 + 1, 0, none⟩ = false := i6
          have j3 := And.intro k6 k4
          have j4 := And.intro HF.out.2.2.2.2.2.1 HF.out.2.2.2.2.2.2
          go_region_held3 (fun W => W.cell? ⟨lb + 1, 0, none⟩ = some (.slice x1 y1 z1) ∧ W.cell? ⟨lb + 1 + 1, 0, none⟩ = some (.slice x2 y2 z2)) (first | exact j1 | exact j2 | exact j3 | exact j4 | go_keep) ((fail))
          go_wp2_with fail
          obtain ⟨f1, f2, f3, f4, f5, f6, f7⟩ := HF.out
          refine bodyPost_ret (v := .tuple #[.slice x1 y1 z1, .slice x2 y2 z2]) ?_ rfl ?_
          · exact results_cells2 rfl _ _ ⟨lb + 1, 0, none⟩ ⟨lb + 1 + 1, 0, none⟩ _ _ rfl rfl f6 f7
          exact ⟨f1, S, nx, x1, y1, z1, g1, o1, x2, y2, z2, g2, o2, HG.out, rfl, f2, f3, f4, f5⟩
        | true =>
          obtain ⟨D, b, hD, hpb, hbd, hbl⟩ := hok1 rfl
          have hol := own_len hOw
          have hl := HB.out.2.2.2.1
          have hof := offer_any w lb (lb + 1) (lb + 1 + 1) a cap lits S nx W5 2 p1 d1 e1 i1 body p2 d2 e2 i2 own (HS.out.to hk5) (HB.out.1.keep (HS.out.keep.trans' hk5)) hBb hBo (by decide) hl (by omega) (by omega) (by have := HG.out.2.1; omega)
          rw [← hm1, ← hm2] at hof
          have hsc : (secL 2 lits.length body).length ≤ 5 + 129 + b.length := by
            unfold secL
            rw [List.length_append, hdL_length, hbd, List.length_append]
            have := (hbN_le 2 (whN 2 lits.length)).2
            have := hD.len
            omega
          have hsec : Sec ws lits (secL 2 lits.length body) own := by rw [hbd]; exact sec_anew ws lits own D b hl hD hpb (by rw [← hbd]; exact hbl)
          have HOF := hid (show Calls Tryz.prog 15 #[.int .i64 2, .slice p1 m1 d1, .slice p2 m2 d2, .pointer (some ⟨lb, 0, none⟩), .pointer (some ⟨lb + 1, 0, none⟩), .pointer (some ⟨lb + 1 + 1, 0, none⟩)] W5 fun e W' => (∃ v, e = .returned v) ∧ ∃ S nx, Hid (Bst w lb (lb + 1) (lb + 1 + 1) a cap lits S nx W') ∧ Hid (Short ws lits S nx) from by
            refine hof.mono ?_
            rintro e W' ⟨he, ⟨hlt, hb⟩ | ⟨hlt, hb⟩⟩
            · exact ⟨he, _, _, hb, ⟨hsec, by have := HG.out.2.1; omega, by omega, (fun h => by rw [HA.out] at h; cases h), fun _ _ => ⟨own, hOw, fun b' hb' => .inr (by rw [hpb] at hb'; cases hb'; omega)⟩⟩⟩
            · exact ⟨he, _, _, hb, ⟨HG.out.1, HG.out.2.1, HG.out.2.2, (fun h => by rw [HA.out] at h; cases h), fun _ _ => ⟨own, hOw, fun b' hb' => .inr (by rw [hpb] at hb'; cases hb'; omega)⟩⟩⟩)
          clear hk5 HPA HG c0 hOw hm1 hm2 hBb hBo hok1 hok2 hD hpb hbd hbl hol hl hof hsc hsec HS
          go_wp2_with fail
          refine HOF.out.mono ?_
          rintro e W6 ⟨⟨v6, rfl⟩, S, nx, HS, HG⟩
          clear HOF
          obtain ⟨x1, y1, z1, g1, o1, x2, y2, z2, g2, o2, k1, k2, k3, k4, k5, k6, HF⟩ := (HS.out.to (keep_drewN W6 1)).again
          have i6 := (HS.out.to (keep_drewN W6 1)).frz
          clear HS
          go_wp2_with fail
          have j1 : W6.cell? ⟨lb + 1, 0, none⟩ = some (.slice x1 y1 z1) ∧ W6.cell? ⟨lb + 1 + 1, 0, none⟩ = some (.slice x2 y2 z2) := ⟨k1, k3⟩
          have j2 := And.intro k1 k3
          have i2 : W6.frozen? ⟨lb + 1, 0, none⟩ = false := k2
          have i4 : (W6.setCell ⟨lb + 1, 0, none⟩ (.slice x1 y1 z1)).frozen? ⟨lb + 1 + 1, 0, none⟩ = false := k5
          have i3 : W6.frozen? ⟨lb + 1 + 1, 0, none⟩ = false := i6
          have j3 := And.intro k6 k4
          have j4 := And.intro HF.out.2.2.2.2.2.1 HF.out.2.2.2.2.2.2
          go_region_held3 (fun W => W.cell? ⟨lb + 1, 0, none⟩ = some (.slice x1 y1 z1) ∧ W.cell? ⟨lb + 1 + 1, 0, none⟩ = some (.slice x2 y2 z2)) (first | exact j1 | exact j2 | exact j3 | exact j4 | go_keep) ((fail))
          go_wp2_with fail
          obtain ⟨f1, f2, f3, f4, f5, f6, f7⟩ := HF.out
          refine bodyPost_ret (v := .tuple #[.slice x1 y1 z1, .slice x2 y2 z2]) ?_ rfl ?_
          · exact results_cells2 rfl _ _ ⟨lb + 1, 0, none⟩ ⟨lb + 1 + 1, 0, none⟩ _ _ rfl rfl f6 f7
          exact ⟨f1, S, nx, x1, y1, z1, g1, o1, x2, y2, z2, g2, o2, HG.out, rfl, f2, f3, f4, f5⟩
    | some b =>
      rw [hp] at hP
      obtain ⟨hk6, vb, rfl, hob⟩ := hP
      have hbb : b = bodyP ws lits (rowsOf lits) := by
        unfold packP at hp
        split at hp
        · cases hp; rfl
        · cases hp
      have hbl : b.length ≤ 300000 := by rw [hbb]; exact bodyP_len ws lits HB.out.2.2.2.1
      have hblt : ∀ q : Nat, b[q]?.getD 0 < 256 := by
        rw [hbb]
        exact lt_app (fun q => lens_lt ws lits _ _ _ q) (tails_lt ws lits _ _)
      obtain ⟨ab, cb, gb', heb, hBb, -⟩ := owns_bytes hob hblt (by omega)
      subst heb
      by_cases hlt : b.length < L
      · rw [decide_eq_true hlt]
        have hl := HB.out.2.2.2.1
        have hof := offer_any w lb (lb + 1) (lb + 1 + 1) a cap lits _ _ W 3 ab cb gb' 0 b a2 cap2 gb2 off2 ws (HS4.out.to hk6) (HB.out.1.keep (HS4.out.keep.trans' hk6)) hBb (HB.out.2.2.1.keep (HS4.out.keep.trans' hk6) (fun _ h => h)) (by decide) hl (by omega) HB.out.2.2.2.2 (by have := raw_len lits; omega)
        rw [← HL.out.2] at hof
        obtain ⟨bn, hbn⟩ : ∃ bn, bn = b.length := ⟨_, rfl⟩
        rw [← hbn] at hof ⊢
        have hsec := sec_ahead ws lits b hl hp (by rw [← HL.out.1]; exact hlt)
        have HOF := hid (show Calls Tryz.prog 15 #[.int .i64 3, .slice ab bn cb, .slice a2 N cap2, .pointer (some ⟨lb, 0, none⟩), .pointer (some ⟨lb + 1, 0, none⟩), .pointer (some ⟨lb + 1 + 1, 0, none⟩)] W fun e W' => (∃ v, e = .returned v) ∧ ∃ S nx, Hid (Bst w lb (lb + 1) (lb + 1 + 1) a cap lits S nx W') ∧ Hid (GoodS ws lits S nx) from by
          refine (show Calls Tryz.prog 15 #[.int .i64 3, .slice ab bn cb, .slice a2 N cap2, .pointer (some ⟨lb, 0, none⟩), .pointer (some ⟨lb + 1, 0, none⟩), .pointer (some ⟨lb + 1 + 1, 0, none⟩)] W _ from hof).mono ?_
          rintro e W' ⟨he, ⟨hlt, hb⟩ | ⟨hlt, hb⟩⟩
          · exact ⟨he, _, _, hb, ⟨hsec, by have := HG0.out.2.1; omega, by omega⟩⟩
          · exact ⟨he, _, _, hb, HG0.out⟩)
        clear hk6 hob hbb hbl hblt hBb hl hof hbn hsec HS4 HG0 hp HPk c0 hlt
        go_wp2_with fail
        refine HOF.out.mono ?_
        rintro e W ⟨⟨v6, rfl⟩, S, nx, HS, HG⟩
        clear HOF
        have c0 : W.cell? ⟨lb, 0, none⟩ = some (.slice a L cap) := by rw [HL.out.1]; exact cell_of HS.out.box 0
        have HPA := hid (show Calls Tryz.prog 18 #[.slice a L cap] W fun e w' => AAns lits W e w' from by
          have := packAnew_any a cap gb off lits W (HB.out.1.keep HS.out.keep) (HB.out.2.1.keep HS.out.keep (fun _ h => h)) HB.out.2.2.2.1
          rw [← HL.out.1] at this
          exact this)
        go_wp2_with fail
        refine HPA.out.mono ?_
        rintro e W5 ⟨hk5, ⟨hf, rfl⟩ | ⟨own, body, ok, p1, m1, d1, e1, i1, p2, m2, d2, e2, i2, hOw, rfl, hm1, hm2, hBb, hBo, hok1, hok2⟩⟩
        · have HS5 := hid (HS.out.to hk5)
          have HG5 := hid (show Short ws lits S nx from ⟨HG.out.1, HG.out.2.1, HG.out.2.2, (fun h => by rw [HA.out] at h; cases h), fun _ h => absurd h hf⟩)
          clear HS hk5 hf HPA HG c0
          have HS := HS5
          have HG := HG5
          clear HS5 HG5
          obtain ⟨x1, y1, z1, g1, o1, x2, y2, z2, g2, o2, k1, k2, k3, k4, k5, k6, HF⟩ := (HS.out.to (keep_drewN W5 1)).again
          have i6 := (HS.out.to (keep_drewN W5 1)).frz
          clear HS
          go_wp2_with fail
          have j1 : W5.cell? ⟨lb + 1, 0, none⟩ = some (.slice x1 y1 z1) ∧ W5.cell? ⟨lb + 1 + 1, 0, none⟩ = some (.slice x2 y2 z2) := ⟨k1, k3⟩
          have j2 := And.intro k1 k3
          have i2 : W5.frozen? ⟨lb + 1, 0, none⟩ = false := k2
          have i4 : (W5.setCell ⟨lb + 1, 0, none⟩ (.slice x1 y1 z1)).frozen? ⟨lb + 1 + 1, 0, none⟩ = false := k5
          have i3 : W5.frozen? ⟨lb + 1 + 1, 0, none⟩ = false := i6
          have j3 := And.intro k6 k4
          have j4 := And.intro HF.out.2.2.2.2.2.1 HF.out.2.2.2.2.2.2
          go_region_held3 (fun W => W.cell? ⟨lb + 1, 0, none⟩ = some (.slice x1 y1 z1) ∧ W.cell? ⟨lb + 1 + 1, 0, none⟩ = some (.slice x2 y2 z2)) (first | exact j1 | exact j2 | exact j3 | exact j4 | go_keep) ((fail))
          go_wp2_with fail
          obtain ⟨f1, f2, f3, f4, f5, f6, f7⟩ := HF.out
          refine bodyPost_ret (v := .tuple #[.slice x1 y1 z1, .slice x2 y2 z2]) ?_ rfl ?_
          · exact results_cells2 rfl _ _ ⟨lb + 1, 0, none⟩ ⟨lb + 1 + 1, 0, none⟩ _ _ rfl rfl f6 f7
          exact ⟨f1, S, nx, x1, y1, z1, g1, o1, x2, y2, z2, g2, o2, HG.out, rfl, f2, f3, f4, f5⟩
        · cases ok with
          | false =>
            have HS5 := hid (HS.out.to hk5)
            have HG5 := hid (show Short ws lits S nx from ⟨HG.out.1, HG.out.2.1, HG.out.2.2, (fun h => by rw [HA.out] at h; cases h), fun _ _ => ⟨own, hOw, fun b hb => .inl (hok2 rfl b hb)⟩⟩)
            clear HS hk5 HPA HG c0 hOw hm1 hm2 hBb hBo hok1 hok2
            have HS := HS5
            have HG := HG5
            clear HS5 HG5
            obtain ⟨x1, y1, z1, g1, o1, x2, y2, z2, g2, o2, k1, k2, k3, k4, k5, k6, HF⟩ := (HS.out.to (keep_drewN W5 1)).again
            have i6 := (HS.out.to (keep_drewN W5 1)).frz
            clear HS
            go_wp2_with fail
            have j1 : W5.cell? ⟨lb + 1, 0, none⟩ = some (.slice x1 y1 z1) ∧ W5.cell? ⟨lb + 1 + 1, 0, none⟩ = some (.slice x2 y2 z2) := ⟨k1, k3⟩
            have j2 := And.intro k1 k3
            have i2 : W5.frozen? ⟨lb + 1, 0, none⟩ = false := k2
            have i4 : (W5.setCell ⟨lb + 1, 0, none⟩ (.slice x1 y1 z1)).frozen? ⟨lb + 1 + 1, 0, none⟩ = false := k5
            have i3 : W5.frozen? ⟨lb + 1 + 1, 0, none⟩ = false := i6
            have j3 := And.intro k6 k4
            have j4 := And.intro HF.out.2.2.2.2.2.1 HF.out.2.2.2.2.2.2
            go_region_held3 (fun W => W.cell? ⟨lb + 1, 0, none⟩ = some (.slice x1 y1 z1) ∧ W.cell? ⟨lb + 1 + 1, 0, none⟩ = some (.slice x2 y2 z2)) (first | exact j1 | exact j2 | exact j3 | exact j4 | go_keep) ((fail))
            go_wp2_with fail
            obtain ⟨f1, f2, f3, f4, f5, f6, f7⟩ := HF.out
            refine bodyPost_ret (v := .tuple #[.slice x1 y1 z1, .slice x2 y2 z2]) ?_ rfl ?_
            · exact results_cells2 rfl _ _ ⟨lb + 1, 0, none⟩ ⟨lb + 1 + 1, 0, none⟩ _ _ rfl rfl f6 f7
            exact ⟨f1, S, nx, x1, y1, z1, g1, o1, x2, y2, z2, g2, o2, HG.out, rfl, f2, f3, f4, f5⟩
          | true =>
            obtain ⟨D, b, hD, hpb, hbd, hbl⟩ := hok1 rfl
            have hol := own_len hOw
            have hl := HB.out.2.2.2.1
            have hof := offer_any w lb (lb + 1) (lb + 1 + 1) a cap lits S nx W5 2 p1 d1 e1 i1 body p2 d2 e2 i2 own (HS.out.to hk5) (HB.out.1.keep (HS.out.keep.trans' hk5)) hBb hBo (by decide) hl (by omega) (by omega) (by have := HG.out.2.1; omega)
            rw [← hm1, ← hm2] at hof
            have hsc : (secL 2 lits.length body).length ≤ 5 + 129 + b.length := by
              unfold secL
              rw [List.length_append, hdL_length, hbd, List.length_append]
              have := (hbN_le 2 (whN 2 lits.length)).2
              have := hD.len
              omega
            have hsec : Sec ws lits (secL 2 lits.length body) own := by rw [hbd]; exact sec_anew ws lits own D b hl hD hpb (by rw [← hbd]; exact hbl)
            have HOF := hid (show Calls Tryz.prog 15 #[.int .i64 2, .slice p1 m1 d1, .slice p2 m2 d2, .pointer (some ⟨lb, 0, none⟩), .pointer (some ⟨lb + 1, 0, none⟩), .pointer (some ⟨lb + 1 + 1, 0, none⟩)] W5 fun e W' => (∃ v, e = .returned v) ∧ ∃ S nx, Hid (Bst w lb (lb + 1) (lb + 1 + 1) a cap lits S nx W') ∧ Hid (Short ws lits S nx) from by
              refine hof.mono ?_
              rintro e W' ⟨he, ⟨hlt, hb⟩ | ⟨hlt, hb⟩⟩
              · exact ⟨he, _, _, hb, ⟨hsec, by have := HG.out.2.1; omega, by omega, (fun h => by rw [HA.out] at h; cases h), fun _ _ => ⟨own, hOw, fun b' hb' => .inr (by rw [hpb] at hb'; cases hb'; omega)⟩⟩⟩
              · exact ⟨he, _, _, hb, ⟨HG.out.1, HG.out.2.1, HG.out.2.2, (fun h => by rw [HA.out] at h; cases h), fun _ _ => ⟨own, hOw, fun b' hb' => .inr (by rw [hpb] at hb'; cases hb'; omega)⟩⟩⟩)
            clear hk5 HPA HG c0 hOw hm1 hm2 hBb hBo hok1 hok2 hD hpb hbd hbl hol hl hof hsc hsec HS
            go_wp2_with fail
            refine HOF.out.mono ?_
            rintro e W6 ⟨⟨v6, rfl⟩, S, nx, HS, HG⟩
            clear HOF
            obtain ⟨x1, y1, z1, g1, o1, x2, y2, z2, g2, o2, k1, k2, k3, k4, k5, k6, HF⟩ := (HS.out.to (keep_drewN W6 1)).again
            have i6 := (HS.out.to (keep_drewN W6 1)).frz
            clear HS
            go_wp2_with fail
            have j1 : W6.cell? ⟨lb + 1, 0, none⟩ = some (.slice x1 y1 z1) ∧ W6.cell? ⟨lb + 1 + 1, 0, none⟩ = some (.slice x2 y2 z2) := ⟨k1, k3⟩
            have j2 := And.intro k1 k3
            have i2 : W6.frozen? ⟨lb + 1, 0, none⟩ = false := k2
            have i4 : (W6.setCell ⟨lb + 1, 0, none⟩ (.slice x1 y1 z1)).frozen? ⟨lb + 1 + 1, 0, none⟩ = false := k5
            have i3 : W6.frozen? ⟨lb + 1 + 1, 0, none⟩ = false := i6
            have j3 := And.intro k6 k4
            have j4 := And.intro HF.out.2.2.2.2.2.1 HF.out.2.2.2.2.2.2
            go_region_held3 (fun W => W.cell? ⟨lb + 1, 0, none⟩ = some (.slice x1 y1 z1) ∧ W.cell? ⟨lb + 1 + 1, 0, none⟩ = some (.slice x2 y2 z2)) (first | exact j1 | exact j2 | exact j3 | exact j4 | go_keep) ((fail))
            go_wp2_with fail
            obtain ⟨f1, f2, f3, f4, f5, f6, f7⟩ := HF.out
            refine bodyPost_ret (v := .tuple #[.slice x1 y1 z1, .slice x2 y2 z2]) ?_ rfl ?_
            · exact results_cells2 rfl _ _ ⟨lb + 1, 0, none⟩ ⟨lb + 1 + 1, 0, none⟩ _ _ rfl rfl f6 f7
            exact ⟨f1, S, nx, x1, y1, z1, g1, o1, x2, y2, z2, g2, o2, HG.out, rfl, f2, f3, f4, f5⟩
      · rw [decide_eq_false hlt]
        obtain ⟨bn, hbn⟩ : ∃ bn, bn = b.length := ⟨_, rfl⟩
        rw [← hbn] at ⊢
        obtain ⟨S, nx, HS, HG⟩ : ∃ S nx, Hid (Bst w lb (lb + 1) (lb + 1 + 1) a cap lits S nx W) ∧ Hid (GoodS ws lits S nx) := ⟨_, _, HS4.out.to hk6, HG0.out⟩
        clear HS4 hk6 HG0 HPk hp c0 hbb hbl hblt hBb hob hbn hlt
        have c0 : W.cell? ⟨lb, 0, none⟩ = some (.slice a L cap) := by rw [HL.out.1]; exact cell_of HS.out.box 0
        have HPA := hid (show Calls Tryz.prog 18 #[.slice a L cap] W fun e w' => AAns lits W e w' from by
          have := packAnew_any a cap gb off lits W (HB.out.1.keep HS.out.keep) (HB.out.2.1.keep HS.out.keep (fun _ h => h)) HB.out.2.2.2.1
          rw [← HL.out.1] at this
          exact this)
        go_wp2_with fail
        refine HPA.out.mono ?_
        rintro e W5 ⟨hk5, ⟨hf, rfl⟩ | ⟨own, body, ok, p1, m1, d1, e1, i1, p2, m2, d2, e2, i2, hOw, rfl, hm1, hm2, hBb, hBo, hok1, hok2⟩⟩
        · have HS5 := hid (HS.out.to hk5)
          have HG5 := hid (show Short ws lits S nx from ⟨HG.out.1, HG.out.2.1, HG.out.2.2, (fun h => by rw [HA.out] at h; cases h), fun _ h => absurd h hf⟩)
          clear HS hk5 hf HPA HG c0
          have HS := HS5
          have HG := HG5
          clear HS5 HG5
          obtain ⟨x1, y1, z1, g1, o1, x2, y2, z2, g2, o2, k1, k2, k3, k4, k5, k6, HF⟩ := (HS.out.to (keep_drewN W5 1)).again
          have i6 := (HS.out.to (keep_drewN W5 1)).frz
          clear HS
          go_wp2_with fail
          have j1 : W5.cell? ⟨lb + 1, 0, none⟩ = some (.slice x1 y1 z1) ∧ W5.cell? ⟨lb + 1 + 1, 0, none⟩ = some (.slice x2 y2 z2) := ⟨k1, k3⟩
          have j2 := And.intro k1 k3
          have i2 : W5.frozen? ⟨lb + 1, 0, none⟩ = false := k2
          have i4 : (W5.setCell ⟨lb + 1, 0, none⟩ (.slice x1 y1 z1)).frozen? ⟨lb + 1 + 1, 0, none⟩ = false := k5
          have i3 : W5.frozen? ⟨lb + 1 + 1, 0, none⟩ = false := i6
          have j3 := And.intro k6 k4
          have j4 := And.intro HF.out.2.2.2.2.2.1 HF.out.2.2.2.2.2.2
          go_region_held3 (fun W => W.cell? ⟨lb + 1, 0, none⟩ = some (.slice x1 y1 z1) ∧ W.cell? ⟨lb + 1 + 1, 0, none⟩ = some (.slice x2 y2 z2)) (first | exact j1 | exact j2 | exact j3 | exact j4 | go_keep) ((fail))
          go_wp2_with fail
          obtain ⟨f1, f2, f3, f4, f5, f6, f7⟩ := HF.out
          refine bodyPost_ret (v := .tuple #[.slice x1 y1 z1, .slice x2 y2 z2]) ?_ rfl ?_
          · exact results_cells2 rfl _ _ ⟨lb + 1, 0, none⟩ ⟨lb + 1 + 1, 0, none⟩ _ _ rfl rfl f6 f7
          exact ⟨f1, S, nx, x1, y1, z1, g1, o1, x2, y2, z2, g2, o2, HG.out, rfl, f2, f3, f4, f5⟩
        · cases ok with
          | false =>
            have HS5 := hid (HS.out.to hk5)
            have HG5 := hid (show Short ws lits S nx from ⟨HG.out.1, HG.out.2.1, HG.out.2.2, (fun h => by rw [HA.out] at h; cases h), fun _ _ => ⟨own, hOw, fun b hb => .inl (hok2 rfl b hb)⟩⟩)
            clear HS hk5 HPA HG c0 hOw hm1 hm2 hBb hBo hok1 hok2
            have HS := HS5
            have HG := HG5
            clear HS5 HG5
            obtain ⟨x1, y1, z1, g1, o1, x2, y2, z2, g2, o2, k1, k2, k3, k4, k5, k6, HF⟩ := (HS.out.to (keep_drewN W5 1)).again
            have i6 := (HS.out.to (keep_drewN W5 1)).frz
            clear HS
            go_wp2_with fail
            have j1 : W5.cell? ⟨lb + 1, 0, none⟩ = some (.slice x1 y1 z1) ∧ W5.cell? ⟨lb + 1 + 1, 0, none⟩ = some (.slice x2 y2 z2) := ⟨k1, k3⟩
            have j2 := And.intro k1 k3
            have i2 : W5.frozen? ⟨lb + 1, 0, none⟩ = false := k2
            have i4 : (W5.setCell ⟨lb + 1, 0, none⟩ (.slice x1 y1 z1)).frozen? ⟨lb + 1 + 1, 0, none⟩ = false := k5
            have i3 : W5.frozen? ⟨lb + 1 + 1, 0, none⟩ = false := i6
            have j3 := And.intro k6 k4
            have j4 := And.intro HF.out.2.2.2.2.2.1 HF.out.2.2.2.2.2.2
            go_region_held3 (fun W => W.cell? ⟨lb + 1, 0, none⟩ = some (.slice x1 y1 z1) ∧ W.cell? ⟨lb + 1 + 1, 0, none⟩ = some (.slice x2 y2 z2)) (first | exact j1 | exact j2 | exact j3 | exact j4 | go_keep) ((fail))
            go_wp2_with fail
            obtain ⟨f1, f2, f3, f4, f5, f6, f7⟩ := HF.out
            refine bodyPost_ret (v := .tuple #[.slice x1 y1 z1, .slice x2 y2 z2]) ?_ rfl ?_
            · exact results_cells2 rfl _ _ ⟨lb + 1, 0, none⟩ ⟨lb + 1 + 1, 0, none⟩ _ _ rfl rfl f6 f7
            exact ⟨f1, S, nx, x1, y1, z1, g1, o1, x2, y2, z2, g2, o2, HG.out, rfl, f2, f3, f4, f5⟩
          | true =>
            obtain ⟨D, b, hD, hpb, hbd, hbl⟩ := hok1 rfl
            have hol := own_len hOw
            have hl := HB.out.2.2.2.1
            have hof := offer_any w lb (lb + 1) (lb + 1 + 1) a cap lits S nx W5 2 p1 d1 e1 i1 body p2 d2 e2 i2 own (HS.out.to hk5) (HB.out.1.keep (HS.out.keep.trans' hk5)) hBb hBo (by decide) hl (by omega) (by omega) (by have := HG.out.2.1; omega)
            rw [← hm1, ← hm2] at hof
            have hsc : (secL 2 lits.length body).length ≤ 5 + 129 + b.length := by
              unfold secL
              rw [List.length_append, hdL_length, hbd, List.length_append]
              have := (hbN_le 2 (whN 2 lits.length)).2
              have := hD.len
              omega
            have hsec : Sec ws lits (secL 2 lits.length body) own := by rw [hbd]; exact sec_anew ws lits own D b hl hD hpb (by rw [← hbd]; exact hbl)
            have HOF := hid (show Calls Tryz.prog 15 #[.int .i64 2, .slice p1 m1 d1, .slice p2 m2 d2, .pointer (some ⟨lb, 0, none⟩), .pointer (some ⟨lb + 1, 0, none⟩), .pointer (some ⟨lb + 1 + 1, 0, none⟩)] W5 fun e W' => (∃ v, e = .returned v) ∧ ∃ S nx, Hid (Bst w lb (lb + 1) (lb + 1 + 1) a cap lits S nx W') ∧ Hid (Short ws lits S nx) from by
              refine hof.mono ?_
              rintro e W' ⟨he, ⟨hlt, hb⟩ | ⟨hlt, hb⟩⟩
              · exact ⟨he, _, _, hb, ⟨hsec, by have := HG.out.2.1; omega, by omega, (fun h => by rw [HA.out] at h; cases h), fun _ _ => ⟨own, hOw, fun b' hb' => .inr (by rw [hpb] at hb'; cases hb'; omega)⟩⟩⟩
              · exact ⟨he, _, _, hb, ⟨HG.out.1, HG.out.2.1, HG.out.2.2, (fun h => by rw [HA.out] at h; cases h), fun _ _ => ⟨own, hOw, fun b' hb' => .inr (by rw [hpb] at hb'; cases hb'; omega)⟩⟩⟩)
            clear hk5 HPA HG c0 hOw hm1 hm2 hBb hBo hok1 hok2 hD hpb hbd hbl hol hl hof hsc hsec HS
            go_wp2_with fail
            refine HOF.out.mono ?_
            rintro e W6 ⟨⟨v6, rfl⟩, S, nx, HS, HG⟩
            clear HOF
            obtain ⟨x1, y1, z1, g1, o1, x2, y2, z2, g2, o2, k1, k2, k3, k4, k5, k6, HF⟩ := (HS.out.to (keep_drewN W6 1)).again
            have i6 := (HS.out.to (keep_drewN W6 1)).frz
            clear HS
            go_wp2_with fail
            have j1 : W6.cell? ⟨lb + 1, 0, none⟩ = some (.slice x1 y1 z1) ∧ W6.cell? ⟨lb + 1 + 1, 0, none⟩ = some (.slice x2 y2 z2) := ⟨k1, k3⟩
            have j2 := And.intro k1 k3
            have i2 : W6.frozen? ⟨lb + 1, 0, none⟩ = false := k2
            have i4 : (W6.setCell ⟨lb + 1, 0, none⟩ (.slice x1 y1 z1)).frozen? ⟨lb + 1 + 1, 0, none⟩ = false := k5
            have i3 : W6.frozen? ⟨lb + 1 + 1, 0, none⟩ = false := i6
            have j3 := And.intro k6 k4
            have j4 := And.intro HF.out.2.2.2.2.2.1 HF.out.2.2.2.2.2.2
            go_region_held3 (fun W => W.cell? ⟨lb + 1, 0, none⟩ = some (.slice x1 y1 z1) ∧ W.cell? ⟨lb + 1 + 1, 0, none⟩ = some (.slice x2 y2 z2)) (first | exact j1 | exact j2 | exact j3 | exact j4 | go_keep) ((fail))
            go_wp2_with fail
            obtain ⟨f1, f2, f3, f4, f5, f6, f7⟩ := HF.out
            refine bodyPost_ret (v := .tuple #[.slice x1 y1 z1, .slice x2 y2 z2]) ?_ rfl ?_
            · exact results_cells2 rfl _ _ ⟨lb + 1, 0, none⟩ ⟨lb + 1 + 1, 0, none⟩ _ _ rfl rfl f6 f7
            exact ⟨f1, S, nx, x1, y1, z1, g1, o1, x2, y2, z2, g2, o2, HG.out, rfl, f2, f3, f4, f5⟩
end Go.Proofs.YtcoahkmiebeeeaaGreatDoor

namespace Go.Proofs.YtcoahkmiebeeeaaGreatDoor
open Go.RowKit Go.Shelf
set_option linter.unusedVariables false

theorem readL_some (bs ws : List Nat) (most : Int) : ∃ (c u : Nat) (V : List Nat), (c = 0 → u ≤ (bodyN bs).length ∧ codeB V = true) ∧ RdW (bodyN bs) c u V ∧ ∀ (a : Option Addr) (cap gb off : Nat) (a2 : Option Addr) (cap2 gb2 off2 : Nat) (w : World), Frm w → Bytes w a cap gb off bs → Bytes w a2 cap2 gb2 off2 ws → ws.length ≤ 140737488355327 →
    Calls Tryz.prog 8 #[.slice a bs.length cap, .slice a2 ws.length cap2, .int .i64 most] w fun e w' => LAns (litR c u V bs ws most) w e w' := by
  obtain ⟨c, u, V, h1, h2⟩ := read_prog (bodyN bs)
  exact ⟨c, u, V, h1, h2, fun a cap gb off a2 cap2 gb2 off2 w hF hB hB2 hl => readL_any a cap gb off bs a2 cap2 gb2 off2 ws most c u V w hF hB hB2 hl h2 (fun h => ⟨(h1 h).1, code_ok (h1 h).2⟩)⟩
theorem wk_a (c u : Nat) (V : List Nat) : litR c u V [24, 97, 98, 99] [] 9 = (0, [97, 98, 99], [], 4) := by rfl
theorem wk_b (c u : Nat) (V : List Nat) : litR c u V [41, 97] [] 9 = (0, [97, 97, 97, 97, 97], [], 2) := by rfl
theorem wk_c (c u : Nat) (V : List Nat) : litR c u V [24, 97, 98] [] 9 = (10, [], [], 0) := by rfl
theorem wk_s3 : strOf [97, 98, 99] = ⟨#[97, 98, 99]⟩ := by decide
theorem wk_s5 : strOf [97, 97, 97, 97, 97] = ⟨#[97, 97, 97, 97, 97]⟩ := by decide

theorem wk_one (w : World) (hF : Frm w) (bs : List Nat) (vs : Array Value) (n : Nat) (hn : n = bs.length) (hv : vs = (u8s bs).toArray) (hl : ∀ j : Nat, bs[j]?.getD 0 < 256) (h48 : bs.length < 2 ^ 48) (r : Nat × List Nat × List Nat × Nat) (hr : ∀ c u V, litR c u V bs [] 9 = r) :
    Calls Tryz.prog 8 #[.slice (some ⟨w.heap.size, 0, none⟩) n n, .slice none 0 0, .int .i64 9] (w.alloc (.cells vs 5)) fun e w' => LAns r w e w' := by
  have hk := (Keep.refl noBlock w).alloc (.cells vs 5)
  have hB := bytes_new w bs vs (0, 0) n hn hv hl h48
  obtain ⟨c, u, V, -, -, h⟩ := readL_some bs [] 9
  have := h (some ⟨w.heap.size, 0, none⟩) n w.heap.size 0 none 0 0 0 _ (hF.keep hk) hB (bytes_none _) (by simp)
  rw [hr, ← hn] at this
  refine this.mono fun e w' h => ?_
  exact ⟨hk.trans' h.1, h.2⟩

set_option maxRecDepth 100000 in
set_option maxHeartbeats 2000000 in
theorem wakesL_any (w : World) (hF : Frm w) : Calls Tryz.prog 7 #[] w fun e w' => e = .returned (.bool true) ∧ Keep noBlock w w' := by
  go_enter Tryz.func7, Tryz.ntmps7
  go_wp2_with fail
  refine (wk_one w hF [24, 97, 98, 99] _ 4 rfl rfl (lt256 (by decide)) (by decide) _ (fun c u V => wk_a c u V)).mono ?_
  rintro e w1 ⟨hk1, a1, n1, c1, g1, o1, a2, n2, c2, g2, o2, rfl, hn1, hn2, hB1, hB2⟩
  have hF1 := hF.keep hk1
  have H1 := hid (show Keep noBlock w w1 ∧ Frm w1 ∧ Bytes w1 a1 c1 g1 o1 [97, 98, 99] ∧ n1 = 3 from ⟨hk1, hF1, hB1, hn1⟩)
  clear hk1 hn1 hn2 hB1 hB2 hF1
  go_wp2_with fail
  refine (wk_one w1 H1.out.2.1 [41, 97] _ 2 rfl rfl (lt256 (by decide)) (by decide) _ (fun c u V => wk_b c u V)).mono ?_
  rintro e w2 ⟨hk2, a3, n3, c3, g3, o3, a4, n4, c4, g4, o4, rfl, hn3, hn4, hB3, hB4⟩
  have H2 := hid (show Keep noBlock w w2 ∧ Frm w2 ∧ Bytes w2 a1 c1 g1 o1 [97, 98, 99] ∧ Bytes w2 a3 c3 g3 o3 [97, 97, 97, 97, 97] ∧ n3 = 5 from ⟨H1.out.1.trans' hk2, H1.out.2.1.keep hk2, H1.out.2.2.1.keep hk2 (fun _ h => h), hB3, hn3⟩)
  clear hk2 hn3 hn4 hB3 hB4
  go_wp2_with fail
  refine (wk_one w2 H2.out.2.1 [24, 97, 98] _ 3 rfl rfl (lt256 (by decide)) (by decide) _ (fun c u V => wk_c c u V)).mono ?_
  rintro e w3 ⟨hk3, a5, n5, c5, g5, o5, a6, n6, c6, g6, o6, rfl, hn5, hn6, hB5, hB6⟩
  have hc1 := run_convB ((H2.out.2.2.1.keep hk3 (fun _ h => h)).src)
  have hc2 := run_convB ((H2.out.2.2.2.1.keep hk3 (fun _ h => h)).src)
  rw [wk_s3, show ([97, 98, 99] : List Nat).length = 3 from rfl, ← H1.out.2.2.2] at hc1
  rw [wk_s5, show ([97, 97, 97, 97, 97] : List Nat).length = 5 from rfl, ← H2.out.2.2.2.2] at hc2
  have H3 := hid (H2.out.1.trans' hk3)
  clear hk3 hn5 hn6 hB5 hB6
  go_wp2_with fail
  go_ret
  exact ⟨rfl, H3.out⟩
end Go.Proofs.YtcoahkmiebeeeaaGreatDoor
