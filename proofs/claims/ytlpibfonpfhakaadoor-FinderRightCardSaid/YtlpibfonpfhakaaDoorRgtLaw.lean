/-
  The steps of a text tell it.
-/
import Derived.Test.YtlpibfonpfhakaaDoorAgnLaw
namespace Go.Proofs.YtlpibfonpfhakaaDoor
open Go.RowKit Go.Shelf
set_option linter.unusedVariables false

set_option maxRecDepth 100000 in
set_option maxHeartbeats 4000000 in
theorem right_law (a : Option Addr) (cap gb off : Nat) (bs : List Nat) (from_ level window least most : Int) (w : World) (hD : Dep w) (hB : Bytes w a cap gb off bs) :
    Calls Tryd.prog 4 #[.slice a bs.length cap, .int .i64 from_, .int .i64 level, .int .i64 window, .int .i64 least, .int .i64 most] w fun e w' => e = .returned (.bool true) ∧ Keep noBlock w w' := by
  have HD := (show Hid (Dep w ∧ Bytes w a cap gb off bs) from ⟨hD, hB⟩)
  have h48 := hB.len
  by_cases hbig : 16384 < bs.length
  · have g1 : (16384 : Int) < (bs.length : Int) := by omega
    clear hD hB hbig
    generalize bs.length = n at *
    go_enter Tryd.func4, Tryd.ntmps4
    go_wp2_with fail
    refine (wakes_any w HD.out.1).mono ?_
    rintro e W1 ⟨rfl, k1⟩
    go_wp2_with fail
    go_ret
    exact ⟨rfl, k1⟩
  · have g1 : ¬ (16384 : Int) < (bs.length : Int) := by omega
    obtain ⟨F, hF, F0, F1⟩ := bringN_nat from_ 0 bs.length (by omega) (by omega)
    obtain ⟨lv, hlv, -, -⟩ := bringN_nat level 0 3 (by omega) (by omega)
    obtain ⟨win, hwin, -, -⟩ := bringN_nat window 1 16777216 (by omega) (by omega)
    obtain ⟨lo, hlo, lo0, lo1⟩ := bringN_nat least 2 65536 (by omega) (by omega)
    obtain ⟨hi, hhi, hi0, hi1⟩ := bringN_nat most lo 65536 (by omega) (by omega)
    have kA : Keep noBlock w (w.alloc (.cells #[] 5)) := (Keep.refl _ w).alloc _
    have hsrc := (hB.keep kA (fun _ h => h)).src
    obtain ⟨v3, W3, hr3, own3, k3, n3⟩ := run_append_all _ 22 _ [] bs (owns_made w) (by simp; omega) _ hsrc
    have hnew : ∀ g, (Value.slice (some ⟨w.heap.size, 0, none⟩) 0 0).ownBlock = some g → w.heap.size ≤ g := fun g hg => by
      have : w.heap.size = g := by simpa [Value.ownBlock] using hg
      omega
    rw [List.nil_append] at own3
    have kk3 : Keep noBlock w W3 := keep_new kA hnew k3
    obtain ⟨ma, mc, mg, hv3, hBm⟩ := owns_bytes own3 hB.lt (by omega)
    have HP := (show Hid (Calls Tryd.prog 11 _ W3 _) from parse_any ma mc mg 0 bs from_ level window least most F lv win lo hi W3 (hD.keep kk3) hBm (by omega) hF hlv hwin hlo hhi)
    have HS := (show Hid (∀ W, Calls Tryd.prog 12 _ W _) from fun W => sizes_any bs.length from_ level window least most F lv win lo hi W hF hlv hwin hlo hhi)
    have HN := (show Hid (bs.length < 65536 ∧ F ≤ bs.length ∧ 2 ≤ lo) from ⟨by omega, by omega, by omega⟩)
    have HW3 := (show Hid (Keep noBlock w W3 ∧ Bytes W3 ma mc mg 0 bs) from ⟨kk3, hBm⟩)
    obtain ⟨n, hn⟩ : ∃ n, n = bs.length := ⟨_, rfl⟩
    have HNL := (show Hid (n = bs.length) from hn)
    have hP2 := HP.out
    have hS2 := HS.out
    clear HP HS
    rw [← hn] at g1 h48 hP2 hS2 hv3 hr3 F1 ⊢
    have HP := (show Hid (Calls Tryd.prog 11 _ W3 _) from hP2)
    have HS := (show Hid (∀ W, Calls Tryd.prog 12 _ W _) from hS2)
    subst hv3
    clear hP2 hS2 hF hlv hwin hlo hhi lo0 lo1 hi0 hi1 hD hB hbig hn kA hsrc own3 k3 n3 hnew kk3 hBm
    go_enter Tryd.func4, Tryd.ntmps4
    go_wp2_with (at_builtin; refine wpList_append_run _ rfl _ _ 22 rfl (.slice (some ⟨w.heap.size, 0, none⟩) 0 0) (.slice a n cap) (.slice ma n mc) W3 rfl rfl hr3 ?_)
    clear hr3
    refine HP.out.mono ?_
    rintro e W1 ⟨⟨v1, L, rfl, own1, -, hP⟩, k1⟩
    obtain ⟨la, lc, lg, lof, rfl, hQ⟩ : ∃ la lc lg lof, v1 = .slice la L.length lc ∧ RowQ W1 la lc lg lof (triI L) := by
      obtain ⟨x, y, z, h1, h2, -⟩ := ownsQ_row own1 (fun t ht => (hP.right.small HN.out.1 t ht).2.2)
      exact ⟨x, y, z, 0, h1, h2⟩
    have HL := (show Hid (RowQ W1 la lc lg lof (triI L) ∧ RightL (cf0 bs win lo hi) F L ∧ L.length < 1000000 ∧ Bytes W1 a cap gb off bs ∧ Bytes W1 ma mc mg 0 bs ∧ Keep noBlock w W1 ∧ (lv = 0 → ∀ t ∈ L, t.2.1 = 0) ∧ (F = bs.length → L = [])) from ⟨hQ, hP.right, by have := hP.len; have := HN.out.1; omega, HD.out.2.keep (HW3.out.1.trans' k1) (fun _ h => h), HW3.out.2.keep k1 (fun _ h => h), HW3.out.1.trans' k1, hP.zero, hP.none⟩)
    clear own1 hP hQ k1 HP HW3
    obtain ⟨ll, hll⟩ : ∃ ll, ll = L.length := ⟨_, rfl⟩
    have HLL := (show Hid (ll = L.length) from hll)
    rw [← hll]
    clear hll
    have hll6 : ll < 1000000 := by rw [HLL.out]; exact HL.out.2.2.1
    go_wp2_with fail
    refine (HS.out W1).mono ?_
    rintro e w1 ⟨rfl, rfl⟩
    clear HS
    -- what comes last
    have hend : ∀ W, Keep noBlock w1 W → (convert 22 9 (.slice ma n mc)).run Tryd.prog W = .ok (.string (strOf bs)) W ∧ (convert 22 9 (.slice a n cap)).run Tryd.prog W = .ok (.string (strOf bs)) W ∧ Calls Tryd.prog 13 #[.slice a n cap, .int .i64 (F : Int), .int .i64 (win : Int), .int .i64 (lo : Int), .int .i64 (hi : Int), .slice la ll lc] W (fun e w' => e = .returned (.bool true) ∧ Keep noBlock W w') ∧ Keep noBlock w W := fun W k => by
      have h1 := run_conv (HL.out.2.2.2.2.1.keep k (fun _ h => h)).src
      have h2 := run_conv (HL.out.2.2.2.1.keep k (fun _ h => h)).src
      have h3 := right_any a cap gb off bs F win lo hi la lc lg lof L W (HL.out.2.2.2.1.keep k (fun _ h => h)) (HL.out.1.keep k (fun _ h => h)) HL.out.2.1 HN.out.1 HL.out.2.2.1 HN.out.2.1 HN.out.2.2
      rw [← HNL.out] at h1 h2 h3
      rw [← HLL.out] at h3
      exact ⟨h1, h2, h3, HL.out.2.2.2.2.2.1.trans' k⟩
    have HE := (show Hid (∀ W, Keep noBlock w1 W → (convert 22 9 (.slice ma n mc)).run Tryd.prog W = .ok (.string (strOf bs)) W ∧ (convert 22 9 (.slice a n cap)).run Tryd.prog W = .ok (.string (strOf bs)) W ∧ Calls Tryd.prog 13 #[.slice a n cap, .int .i64 (F : Int), .int .i64 (win : Int), .int .i64 (lo : Int), .int .i64 (hi : Int), .slice la ll lc] W (fun e w' => e = .returned (.bool true) ∧ Keep noBlock W w') ∧ Keep noBlock w W) from hend)
    have hlast : (F : Int) < (n : Int) ∨ (¬ (F : Int) < (n : Int) ∧ ((ll : Int) == 0) = true) := by
      by_cases e : F < n
      · left; omega
      · right
        refine ⟨by omega, ?_⟩
        have : L = [] := HL.out.2.2.2.2.2.2.2 (by have := HNL.out; omega)
        have h0 : ll = 0 := by rw [HLL.out, this]; rfl
        simp [h0]
    have HLa := (show Hid ((F : Int) < (n : Int) ∨ (¬ (F : Int) < (n : Int) ∧ ((ll : Int) == 0) = true)) from hlast)
    clear hend hlast F0 F1
    by_cases hl0 : lv = 0
    · have hlb : ((lv : Int) == 0) = true := by simp [hl0]
      have HZ := (show Hid (∀ t ∈ L, t.2.1 = 0) from HL.out.2.2.2.2.2.2.1 hl0)
      clear hl0
      go_wp2_with fail
      go_loopw [20] (fun v20 wr => ∃ i : Nat, v20 = .int .i64 (i : Int) ∧ i ≤ ll ∧ Hid (Keep noBlock w1 wr)) (fun v20 _ => ll - (intOf v20).toNat)
      case atStart => exact ⟨0, rfl, Nat.zero_le _, Keep.refl _ _⟩
      case round =>
        obtain ⟨i, rfl, hi1, HI⟩ := hrel
        by_cases hlt : i < ll
        · have hltI : (i : Int) < (ll : Int) := by omega
          have hlt2 : i < L.length := by have := HLL.out; omega
          obtain ⟨e1, e2, e3⟩ := (HL.out.1.keep HI.out (fun _ h => h)).cells i (by rw [triI_length]; exact hlt2)
          rw [triI_at L i hlt2] at e1 e2 e3
          obtain rfl := HL.out.1.here (i := i) (by rw [triI_length]; exact hlt2)
          have hz : (L[i]?.getD (0, 0, 0)).2.1 = 0 := HZ.out _ (by rw [List.getElem?_eq_getElem hlt2]; exact List.getElem_mem hlt2)
          simp only [hz] at e2
          rw [show (((0 : Nat)) : Int) = (0 : Int) from rfl] at e2
          obtain ⟨i1, hi1e⟩ : ∃ i1, i1 = i + 1 := ⟨_, rfl⟩
          have hadd : (i : Int) + 1 = (i1 : Int) := by omega
          have HI1 := (show Hid (i1 = i + 1) from hi1e)
          clear e1 e3 hz hi1e
          go_wp2_with fail
          go_roundw
          case rel => exact ⟨i1, rfl, by have := HI1.out; omega, HI.out⟩
          case measure => have := HI1.out; simp [intOf]; omega
        · have hltI : ¬ (i : Int) < (ll : Int) := by omega
          obtain ⟨c1, c2, c3, k4⟩ := HE.out wr HI.out
          have HC := (show Hid (Calls Tryd.prog 13 _ wr _) from c3)
          have HK := (show Hid (Keep noBlock w wr) from k4)
          clear c3 k4 HI
          rcases HLa.out with g3 | ⟨g3, g4⟩
          all_goals (
            go_wp2_with fail
            refine HC.out.mono ?_
            rintro e W5 ⟨rfl, k5⟩
            go_wp2_with fail
            refine (wakes_any _ (HD.out.1.keep (HK.out.trans' k5))).mono ?_
            rintro e W6 ⟨rfl, k6⟩
            go_wp2_with fail
            go_ret
            exact ⟨rfl, (HK.out.trans' k5).trans' k6⟩)
    · have hlb : ((lv : Int) == 0) = false := by rw [beq_eq_false_iff_ne]; omega
      obtain ⟨c1, c2, c3, k4⟩ := HE.out w1 (Keep.refl _ _)
      have HC := (show Hid (Calls Tryd.prog 13 _ w1 _) from c3)
      have HK := (show Hid (Keep noBlock w w1) from k4)
      clear c3 k4 hl0
      rcases HLa.out with g3 | ⟨g3, g4⟩
      all_goals (
        go_wp2_with fail
        refine HC.out.mono ?_
        rintro e W5 ⟨rfl, k5⟩
        go_wp2_with fail
        refine (wakes_any _ (HD.out.1.keep (HK.out.trans' k5))).mono ?_
        rintro e W6 ⟨rfl, k6⟩
        go_wp2_with fail
        go_ret
        exact ⟨rfl, (HK.out.trans' k5).trans' k6⟩)
end Go.Proofs.YtlpibfonpfhakaaDoor
