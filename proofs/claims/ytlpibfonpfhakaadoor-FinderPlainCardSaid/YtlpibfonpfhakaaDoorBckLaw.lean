/-
  Steps tell a text, as the document says.
-/
import Derived.Test.YtlpibfonpfhakaaDoorWak
import Derived.Test.YtlpibfonpfhakaaDoorRefB
namespace Go.Proofs.YtlpibfonpfhakaaDoor
open Go.RowKit Go.Shelf
set_option linter.unusedVariables false

theorem owns_slice {w : World} {v : Value} {M : List Nat} (h : ownsU w v M) : ∃ a cap, v = .slice a M.length cap := by
  rcases h.2 with ⟨e, h0⟩ | ⟨g, cap, cur, e, hb, hg, hr⟩
  · exact ⟨none, 0, by rw [h0]; exact e⟩
  · exact ⟨_, cap, e⟩
theorem owns_src {w : World} {v : Value} {M : List Nat} (h : ownsU w v M) : SrcB w v M := by
  rcases h.2 with ⟨e, h0⟩ | ⟨g, cap, cur, e, _, hg, h1, h2, h3, h4⟩
  · exact .inl ⟨e, List.length_eq_zero_iff.1 h0⟩
  · refine .inr ⟨⟨g, 0, none⟩, cap, e, fun j u hu => ?_⟩
    have hj : j < M.length := by rw [← u8s_length]; exact (List.getElem?_eq_some_iff.1 hu).1
    rw [add0, cell_of hg, ← hu]
    rw [← h4, List.getElem?_take, if_pos (by omega), Array.getElem?_toList]
/-- Both answer alike. -/
theorem both_back (a : Option Addr) (cap gb off : Nat) (bs : List Nat) (from_ : Int) (la : Option Addr) (lcap lg loff : Nat) (ts : List Tri) (w : World) (hB : Bytes w a cap gb off bs) (hQ : RowQ w la lcap lg loff ts) (hn : bs.length < 65537) (hT : ts.length < 140737488355328) :
    Calls Tryd.prog 9 #[.slice a bs.length cap, .int .i64 from_, .slice la ts.length lcap] w fun e w1 => ∃ (x : Option Addr) (xl xc : Nat) (r : Int), e = .returned (.tuple #[.slice x xl xc, .int .i64 r]) ∧ Keep noBlock w w1 ∧
      Calls Tryd.prog 10 #[.slice a bs.length cap, .int .i64 from_, .slice la ts.length lcap] w1 fun e2 w2 => ∃ (y : Option Addr) (yl yc : Nat) (M : List Nat), e2 = .returned (.tuple #[.slice y yl yc, .int .i64 r]) ∧ Keep noBlock w w2 ∧ SrcB w2 (.slice x xl xc) M ∧ SrcB w2 (.slice y yl yc) M := by
  by_cases h : from_ < 0 ∨ (bs.length : Int) < from_
  · refine (back_arg a bs.length cap from_ _ la ts.length lcap rfl w h).mono ?_
    rintro e w1 ⟨rfl, rfl⟩
    refine ⟨none, 0, 0, 2, rfl, Keep.refl _ _, ?_⟩
    refine (ref_arg a bs.length cap from_ _ la ts.length lcap rfl _ h).mono ?_
    rintro e w2 ⟨rfl, rfl⟩
    exact ⟨none, 0, 0, [], rfl, Keep.refl _ _, .inl ⟨rfl, rfl⟩, .inl ⟨rfl, rfl⟩⟩
  · obtain ⟨F, rfl⟩ := Int.eq_ofNat_of_zero_le (show 0 ≤ from_ by omega)
    have hF : F ≤ bs.length := by omega
    cases hok : okB ((bs.length - F : Nat) : Int) F ts with
    | false =>
      refine (back_bad a cap bs.length F la lcap lg loff ts w hF hQ (by omega) hT hok).mono ?_
      rintro e w1 ⟨rfl, k1⟩
      refine ⟨none, 0, 0, 11, rfl, k1, ?_⟩
      refine (ref_back a cap gb off F bs la lcap lg loff ts w1 hF (hB.keep k1 (fun _ h => h)) (hQ.keep k1 (fun _ h => h)) hn hT).mono ?_
      rintro e w2 ⟨h2 | h2, k2⟩
      · obtain ⟨v, e1, -⟩ := h2
        rw [hok] at e1; cases e1
      · obtain ⟨-, rfl⟩ := h2
        exact ⟨none, 0, 0, [], rfl, k1.trans' k2, .inl ⟨rfl, rfl⟩, .inl ⟨rfl, rfl⟩⟩
    | true =>
      have hsz := sizeB_le hok (by omega)
      refine (back_ok a cap gb off F bs la lcap lg loff ts w hF hB hQ hn hT hok).mono ?_
      rintro e w1 ⟨⟨v, rfl, own1, -⟩, k1⟩
      obtain ⟨x, xc, e1⟩ := owns_slice own1
      have s1 := owns_src own1
      subst e1
      refine ⟨x, _, xc, 0, rfl, k1, ?_⟩
      refine (ref_back a cap gb off F bs la lcap lg loff ts w1 hF (hB.keep k1 (fun _ h => h)) (hQ.keep k1 (fun _ h => h)) hn hT).mono ?_
      rintro e w2 ⟨h2 | h2, k2⟩
      · obtain ⟨v2, -, rfl, own2⟩ := h2
        obtain ⟨y, yc, e2⟩ := owns_slice own2
        have s2 := owns_src own2
        subst e2
        exact ⟨y, _, yc, _, rfl, k1.trans' k2, s1.keep k2, s2⟩
      · rw [hok] at h2
        cases h2.1

set_option maxRecDepth 100000 in
set_option maxHeartbeats 4000000 in
theorem back_law (a : Option Addr) (cap gb off : Nat) (bs : List Nat) (from_ : Int) (la : Option Addr) (lcap lg loff : Nat) (ts : List Tri) (w : World) (hD : Dep w) (hB : Bytes w a cap gb off bs) (hQ : RowQ w la lcap lg loff ts) :
    Calls Tryd.prog 3 #[.slice a bs.length cap, .int .i64 from_, .slice la ts.length lcap] w fun e w' => e = .returned (.bool true) ∧ Keep noBlock w w' := by
  have HD := (show Hid (Dep w ∧ Bytes w a cap gb off bs ∧ RowQ w la lcap lg loff ts) from ⟨hD, hB, hQ⟩)
  have HC := (show Hid (bs.length < 65537 → ts.length < 140737488355328 → ∀ W, Keep noBlock w W → Calls Tryd.prog 9 _ W _) from fun h1 h2 W k => both_back a cap gb off bs from_ la lcap lg loff ts W (hB.keep k (fun _ h => h)) (hQ.keep k (fun _ h => h)) h1 h2)
  have h48 := hB.len
  obtain ⟨tl, htl⟩ : ∃ tl, tl = ts.length := ⟨_, rfl⟩
  obtain ⟨n, hn⟩ : ∃ n, n = bs.length := ⟨_, rfl⟩
  have hC := HC.out
  clear HC
  rw [← htl, ← hn] at hC ⊢
  rw [← hn] at h48
  have HC := (show Hid (n < 65537 → tl < 140737488355328 → ∀ W, Keep noBlock w W → Calls Tryd.prog 9 _ W _) from hC)
  have HN := (show Hid (tl = ts.length) from htl)
  clear hC hD hB hQ htl hn
  go_enter Tryd.func3, Tryd.ntmps3
  go_wp2_with fail
  go_loopw [7, 8] (fun v7 v8 wr => ∃ (s i : Nat), v7 = .int .i64 (s : Int) ∧ v8 = .int .i64 (i : Int) ∧ i ≤ 4097 ∧ i ≤ tl ∧ s ≤ 131072 + 16777216 ∧ Hid (Keep noBlock w wr)) (fun _ v8 _ => tl - (intOf v8).toNat)
  case atStart => exact ⟨0, 0, rfl, rfl, Nat.zero_le _, Nat.zero_le _, Nat.zero_le _, Keep.refl _ _⟩
  case round =>
    obtain ⟨s, i, rfl, rfl, hi1, hi2, hs, HI⟩ := hrel
    by_cases hgo : i < tl ∧ i ≤ 4096 ∧ s ≤ 131072
    · obtain ⟨g1, g2, g3⟩ := hgo
      have g1' : decide (i < tl) = true := decide_eq_true g1
      have g1I : (i : Int) < (tl : Int) := by omega
      have g2' : decide ((i : Int) ≤ 4096) = true := decide_eq_true (by omega)
      have g2I : (i : Int) ≤ 4096 := by omega
      have g3' : decide ((s : Int) ≤ 131072) = true := decide_eq_true (by omega)
      have g3I : (s : Int) ≤ 131072 := by omega
      have hlt2 : i < ts.length := by have := HN.out; omega
      obtain ⟨e1, e2, e3⟩ := (HD.out.2.2.keep HI.out (fun _ h => h)).cells i hlt2
      obtain rfl := HD.out.2.2.here hlt2
      generalize (ts[i]?.getD (0, 0, 0)).2.1 = m at e2
      obtain ⟨i1, hi1e⟩ : ∃ i1, i1 = i + 1 := ⟨_, rfl⟩
      have hadd : (i : Int) + 1 = (i1 : Int) := by omega
      have HI1 := (show Hid (i1 = i + 1) from hi1e)
      clear e1 e3 hi1e
      by_cases hm : 0 < m
      · have m1 : decide (0 < m) = true := decide_eq_true hm
        by_cases hm2 : m ≤ 16777216
        · have m2 : decide (m ≤ 16777216) = true := decide_eq_true hm2
          obtain ⟨mn, rfl⟩ := Int.eq_ofNat_of_zero_le (show 0 ≤ m by omega)
          obtain ⟨s1, hs1⟩ : ∃ s1, s1 = s + mn := ⟨_, rfl⟩
          have hadd2 : (s : Int) + (mn : Int) = (s1 : Int) := by omega
          have hs1b : s1 ≤ 131072 + 16777216 := by omega
          clear hs1
          go_wp2_with fail
          go_roundw
          case rel => exact ⟨s1, i1, rfl, rfl, by have := HI1.out; omega, by have := HI1.out; omega, hs1b, HI.out⟩
          case measure => have := HI1.out; simp [intOf]; omega
        · have m2 : decide (m ≤ 16777216) = false := decide_eq_false hm2
          go_wp2_with fail
          go_roundw
          case rel => exact ⟨s, i1, rfl, rfl, by have := HI1.out; omega, by have := HI1.out; omega, hs, HI.out⟩
          case measure => have := HI1.out; simp [intOf]; omega
      · have m1 : decide (0 < m) = false := decide_eq_false hm
        go_wp2_with fail
        go_roundw
        case rel => exact ⟨s, i1, rfl, rfl, by have := HI1.out; omega, by have := HI1.out; omega, hs, HI.out⟩
        case measure => have := HI1.out; simp [intOf]; omega
    · have hc : (decide (i < tl) = false ∧ ¬ (i : Int) < (tl : Int)) ∨ ((decide (i < tl) = true ∧ (i : Int) < (tl : Int)) ∧ decide ((i : Int) ≤ 4096) = false ∧ ¬ (i : Int) ≤ 4096) ∨ ((decide (i < tl) = true ∧ (i : Int) < (tl : Int)) ∧ (decide ((i : Int) ≤ 4096) = true ∧ (i : Int) ≤ 4096) ∧ decide ((s : Int) ≤ 131072) = false ∧ ¬ (s : Int) ≤ 131072) := by
        by_cases x1 : i < tl
        · by_cases x2 : i ≤ 4096
          · exact .inr (.inr ⟨⟨decide_eq_true x1, by omega⟩, ⟨decide_eq_true (by omega), by omega⟩, decide_eq_false (by omega), by omega⟩)
          · exact .inr (.inl ⟨⟨decide_eq_true x1, by omega⟩, decide_eq_false (by omega), by omega⟩)
        · exact .inl ⟨decide_eq_false x1, by omega⟩
      have hlast : (decide ((65536 : Int) < (n : Int)) = true ∧ (65536 : Int) < (n : Int)) ∨ ((decide ((65536 : Int) < (n : Int)) = false ∧ ¬ (65536 : Int) < (n : Int)) ∧ decide ((4096 : Int) < (tl : Int)) = true ∧ (4096 : Int) < (tl : Int)) ∨ ((decide ((65536 : Int) < (n : Int)) = false ∧ ¬ (65536 : Int) < (n : Int)) ∧ (decide ((4096 : Int) < (tl : Int)) = false ∧ ¬ (4096 : Int) < (tl : Int)) ∧ decide ((131072 : Int) < (s : Int)) = true ∧ (131072 : Int) < (s : Int)) ∨ ((decide ((65536 : Int) < (n : Int)) = false ∧ ¬ (65536 : Int) < (n : Int)) ∧ (decide ((4096 : Int) < (tl : Int)) = false ∧ ¬ (4096 : Int) < (tl : Int)) ∧ decide ((131072 : Int) < (s : Int)) = false ∧ ¬ (131072 : Int) < (s : Int)) := by
        by_cases x1 : (65536 : Int) < (n : Int)
        · exact .inl ⟨decide_eq_true x1, x1⟩
        · by_cases x2 : (4096 : Int) < (tl : Int)
          · exact .inr (.inl ⟨⟨decide_eq_false x1, x1⟩, decide_eq_true x2, x2⟩)
          · by_cases x3 : (131072 : Int) < (s : Int)
            · exact .inr (.inr (.inl ⟨⟨decide_eq_false x1, x1⟩, ⟨decide_eq_false x2, x2⟩, decide_eq_true x3, x3⟩))
            · exact .inr (.inr (.inr ⟨⟨decide_eq_false x1, x1⟩, ⟨decide_eq_false x2, x2⟩, decide_eq_false x3, x3⟩))
      have HLast := (show Hid ((decide ((65536 : Int) < (n : Int)) = true ∧ (65536 : Int) < (n : Int)) ∨ ((decide ((65536 : Int) < (n : Int)) = false ∧ ¬ (65536 : Int) < (n : Int)) ∧ decide ((4096 : Int) < (tl : Int)) = true ∧ (4096 : Int) < (tl : Int)) ∨ ((decide ((65536 : Int) < (n : Int)) = false ∧ ¬ (65536 : Int) < (n : Int)) ∧ (decide ((4096 : Int) < (tl : Int)) = false ∧ ¬ (4096 : Int) < (tl : Int)) ∧ decide ((131072 : Int) < (s : Int)) = true ∧ (131072 : Int) < (s : Int)) ∨ ((decide ((65536 : Int) < (n : Int)) = false ∧ ¬ (65536 : Int) < (n : Int)) ∧ (decide ((4096 : Int) < (tl : Int)) = false ∧ ¬ (4096 : Int) < (tl : Int)) ∧ decide ((131072 : Int) < (s : Int)) = false ∧ ¬ (131072 : Int) < (s : Int))) from hlast)
      clear hlast hgo
      rcases hc with ⟨c1, c1'⟩ | ⟨⟨c1, c1'⟩, c2, c2'⟩ | ⟨⟨c1, c1'⟩, ⟨c2, c2'⟩, c3, c3'⟩
      all_goals (
        rcases HLast.out with ⟨d1, d1'⟩ | ⟨⟨d1, d1'⟩, d2, d2'⟩ | ⟨⟨d1, d1'⟩, ⟨d2, d2'⟩, d3, d3'⟩ | ⟨⟨d1, d1'⟩, ⟨d2, d2'⟩, d3, d3'⟩
        iterate 3 (
          · clear HLast
            go_wp2_with fail
            refine (wakes_any _ (HD.out.1.keep HI.out)).mono ?_
            rintro e W5 ⟨rfl, k5⟩
            go_wp2_with fail
            go_ret
            exact ⟨rfl, HI.out.trans' k5⟩)
        · clear HLast
          have HC1 := (show Hid (Calls Tryd.prog 9 _ wr _) from HC.out (by omega) (by omega) wr HI.out)
          go_wp2_with fail
          refine HC1.out.mono ?_
          rintro e W1 ⟨x, xl, xc, r, rfl, k1, hC2⟩
          have HC2 := (show Hid (Calls Tryd.prog 10 _ W1 _) from hC2)
          clear hC2 HC1 k1
          go_wp2_with fail
          refine HC2.out.mono ?_
          rintro e W2 ⟨y, yl, yc, M, rfl, k2, s1, s2⟩
          have e1 := run_conv s1
          have e2 := run_conv s2
          have HK := (show Hid (Keep noBlock w W2) from HI.out.trans' k2)
          have hrr : (r == r) = true := by simp
          clear s1 s2 k2 HC2
          go_wp2_with fail
          refine (wakes_any _ (HD.out.1.keep HK.out)).mono ?_
          rintro e W5 ⟨rfl, k5⟩
          go_wp2_with fail
          go_ret
          exact ⟨rfl, HK.out.trans' k5⟩)
end Go.Proofs.YtlpibfonpfhakaaDoor
