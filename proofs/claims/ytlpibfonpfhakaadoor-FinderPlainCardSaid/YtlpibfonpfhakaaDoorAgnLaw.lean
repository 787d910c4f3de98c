/-
  A text's steps, and the bytes that they have as they are, make the text again.
-/
import Derived.Test.YtlpibfonpfhakaaDoorWak
namespace Go.Proofs.YtlpibfonpfhakaaDoor
open Go.RowKit Go.Shelf
set_option linter.unusedVariables false
theorem bringN_nat (x lo hi : Int) (h0 : 0 ≤ lo) (h1 : lo ≤ hi) : ∃ n : Nat, bringN x lo hi = (n : Int) ∧ lo ≤ (n : Int) ∧ (n : Int) ≤ hi := by
  refine ⟨(bringN x lo hi).toNat, ?_, ?_, ?_⟩ <;> unfold bringN <;> omega

set_option maxRecDepth 100000 in
set_option maxHeartbeats 4000000 in
theorem again_law (a : Option Addr) (cap gb off : Nat) (bs : List Nat) (from_ level window least most : Int) (w : World) (hD : Dep w) (hB : Bytes w a cap gb off bs) :
    Calls Tryd.prog 5 #[.slice a bs.length cap, .int .i64 from_, .int .i64 level, .int .i64 window, .int .i64 least, .int .i64 most] w fun e w' => e = .returned (.bool true) ∧ Keep noBlock w w' := by
  have HD := (show Hid (Dep w ∧ Bytes w a cap gb off bs) from ⟨hD, hB⟩)
  have h48 := hB.len
  by_cases hbig : 16384 < bs.length
  · have g1 : (16384 : Int) < (bs.length : Int) := by omega
    clear hD hB hbig
    generalize bs.length = n at *
    go_enter Tryd.func5, Tryd.ntmps5
    go_wp2_with fail
    refine (wakes_any w HD.out.1).mono ?_
    rintro e W1 ⟨rfl, k1⟩
    go_wp2_with fail
    go_ret
    exact ⟨rfl, k1⟩
  · have g1 : ¬ (16384 : Int) < (bs.length : Int) := by omega
    obtain ⟨F, hF, F0, F1⟩ := bringN_nat from_ 0 bs.length (by omega) (by omega)
    obtain ⟨lv, hlv, -, -⟩ := bringN_nat level 0 3 (by omega) (by omega)
    obtain ⟨win, hwin, -, -⟩ := bringN_nat window 1 16777216 (by omega) (by omega)
    obtain ⟨lo, hlo, lo0, lo1⟩ := bringN_nat least 2 65536 (by omega) (by omega)
    obtain ⟨hi, hhi, hi0, hi1⟩ := bringN_nat most lo 65536 (by omega) (by omega)
    have HP := (show Hid (Calls Tryd.prog 11 _ w _) from parse_any a cap gb off bs from_ level window least most F lv win lo hi w hD hB (by omega) hF hlv hwin hlo hhi)
    have HS := (show Hid (∀ W, Calls Tryd.prog 12 _ W _) from fun W => sizes_any bs.length from_ level window least most F lv win lo hi W hF hlv hwin hlo hhi)
    have HN := (show Hid (bs.length < 65536 ∧ F ≤ bs.length ∧ 2 ≤ lo) from ⟨by omega, by omega, by omega⟩)
    obtain ⟨n, hn⟩ : ∃ n, n = bs.length := ⟨_, rfl⟩
    have HNL := (show Hid (n = bs.length) from hn)
    have hP2 := HP.out
    have hS2 := HS.out
    clear HP HS
    rw [← hn] at g1 h48 hP2 hS2 ⊢
    have HP := (show Hid (Calls Tryd.prog 11 _ w _) from hP2)
    have HS := (show Hid (∀ W, Calls Tryd.prog 12 _ W _) from hS2)
    clear hP2 hS2 hF hlv hwin hlo hhi F0 F1 lo0 lo1 hi0 hi1 hD hB hbig hn
    go_enter Tryd.func5, Tryd.ntmps5
    go_wp2_with fail
    refine HP.out.mono ?_
    rintro e W1 ⟨⟨v1, L, rfl, own1, -, hP⟩, k1⟩
    obtain ⟨la, lc, lg, rfl, hQ, -⟩ := ownsQ_row own1 (fun t ht => (hP.right.small HN.out.1 t ht).2.2)
    have HL := (show Hid (RowQ W1 la lc lg 0 (triI L) ∧ RightL (cf0 bs win lo hi) F L ∧ L.length < 1000000 ∧ Bytes W1 a cap gb off bs ∧ Keep noBlock w W1) from ⟨hQ, hP.right, by have := hP.len; have := HN.out.1; omega, HD.out.2.keep k1 (fun _ h => h), k1⟩)
    clear own1 hP hQ k1 HP
    have hC1 := right_any a cap gb off bs F win lo hi la lc lg 0 L W1 HL.out.2.2.2.1 HL.out.1 HL.out.2.1 HN.out.1 HL.out.2.2.1 HN.out.2.1 HN.out.2.2
    have hC2 := fun W2 (k2 : Keep noBlock W1 W2) => round_any a cap gb off bs F win lo hi la lc lg 0 L W2 (HL.out.2.2.2.1.keep k2 (fun _ h => h)) (HL.out.1.keep k2 (fun _ h => h)) HL.out.2.1 HN.out.1 HL.out.2.2.1 HN.out.2.1 HN.out.2.2
    rw [← HNL.out] at hC1 hC2
    have HC1 := (show Hid (Calls Tryd.prog 13 _ W1 _) from hC1)
    have HC2 := (show Hid (∀ W2 (k2 : Keep noBlock W1 W2), Calls Tryd.prog 14 _ W2 _) from hC2)
    clear hC1 hC2
    generalize L.length = ll at *
    go_wp2_with fail
    refine (HS.out W1).mono ?_
    rintro e w1 ⟨rfl, rfl⟩
    clear HS
    go_wp2_with fail
    refine HC1.out.mono ?_
    rintro e W2 ⟨rfl, k2⟩
    have hC := HC2.out W2 k2
    have HK := (show Hid (Keep noBlock w W2 ∧ Bytes W2 a cap gb off bs) from ⟨HL.out.2.2.2.2.trans' k2, HL.out.2.2.2.1.keep k2 (fun _ h => h)⟩)
    have HC := (show Hid (Calls Tryd.prog 14 _ W2 _) from hC)
    clear HC1 HC2 hC HL k2
    go_wp2_with fail
    refine HC.out.mono ?_
    rintro e W3 ⟨⟨x, xl, xc, rfl, hC⟩, k3⟩
    have HC2 := (show Hid (Calls Tryd.prog 9 _ W3 _) from hC)
    clear HC hC k3
    go_wp2_with fail
    refine HC2.out.mono ?_
    rintro e W4 ⟨⟨y, yl, yc, rfl, hy, -⟩, k4⟩
    have c1 := run_conv hy
    have c2 := run_conv (HK.out.2.keep k4 (fun _ h => h)).src
    rw [← HNL.out] at c2
    have HKK := (show Hid (Keep noBlock w W4 ∧ Dep W4) from ⟨HK.out.1.trans' k4, HD.out.1.keep (HK.out.1.trans' k4)⟩)
    clear hy k4 HK HC2
    go_wp2_with fail
    refine (wakes_any _ HKK.out.2).mono ?_
    rintro e W5 ⟨rfl, k5⟩
    go_wp2_with fail
    go_ret
    exact ⟨rfl, HKK.out.1.trans' k5⟩
end Go.Proofs.YtlpibfonpfhakaaDoor
