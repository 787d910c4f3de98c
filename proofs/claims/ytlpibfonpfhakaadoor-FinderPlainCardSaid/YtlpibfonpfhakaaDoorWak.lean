/-
  What the document says of abcabcabc: wakes.
-/
import Derived.Test.YtlpibfonpfhakaaDoorStr
namespace Go.Proofs.YtlpibfonpfhakaaDoor
open Go.RowKit Go.Shelf
set_option linter.unusedVariables false
set_option maxRecDepth 100000 in
set_option maxHeartbeats 4000000 in
theorem wakes_any (w : World) (hD : Dep w) : Calls Tryd.prog 8 #[] w fun e w' => e = .returned (.bool true) ∧ Keep noBlock w w' := by
  have HD := (show Hid (Dep w) from hD)
  clear hD
  have hcv := fun (w : World) (C : Array Value) (n c : Nat) => Lib.run_convert_bytes_const (P := Tryd.prog) w 22 5 C n c Tryd.underlying22 Tryd.underlying5
  go_enter Tryd.func8, Tryd.ntmps8
  go_wp2_with fail
  obtain ⟨W0, hW0⟩ : ∃ W0, W0 = w.alloc (.cells #[.int .u8 97, .int .u8 98, .int .u8 99, .int .u8 97, .int .u8 98, .int .u8 99, .int .u8 97, .int .u8 98, .int .u8 99] 5 (9, 10)) := ⟨_, rfl⟩
  obtain ⟨g0, hg0⟩ : ∃ g0, g0 = w.heap.size := ⟨_, rfl⟩
  have HB0 := (show Hid (Bytes W0 (some ⟨g0, 0, none⟩) 9 g0 0 [97, 98, 99, 97, 98, 99, 97, 98, 99] ∧ Keep noBlock w W0) from by
    rw [hW0, hg0]
    exact ⟨bytes_new w [97, 98, 99, 97, 98, 99, 97, 98, 99] _ _ 9 rfl rfl lt9 (by decide), (Keep.refl _ w).alloc _⟩)
  rw [← hW0, ← hg0]
  clear hW0 hg0
  refine (parse_any (some ⟨g0, 0, none⟩) 9 g0 0 [97, 98, 99, 97, 98, 99, 97, 98, 99] 0 1 100 3 100 0 1 100 3 100 W0 (HD.out.keep HB0.out.2) HB0.out.1 (by decide) (by decide) (by decide) (by decide) (by decide) (by decide)).mono ?_
  rintro e W1 ⟨⟨v1, L, rfl, own1, -, hP⟩, k1⟩
  obtain ⟨la, lc, lg, rfl, hQ, -⟩ := ownsQ_row own1 (fun t ht => (hP.right.small (by decide) t ht).2.2)
  have HL := (show Hid (RowQ W1 la lc lg 0 (triI L) ∧ RightL (cf0 [97, 98, 99, 97, 98, 99, 97, 98, 99] 100 3 100) 0 L ∧ L.length ≤ 10 ∧ Bytes W1 (some ⟨g0, 0, none⟩) 9 g0 0 [97, 98, 99, 97, 98, 99, 97, 98, 99] ∧ Keep noBlock w W1) from ⟨hQ, hP.right, hP.len, HB0.out.1.keep k1 (fun _ h => h), HB0.out.2.trans' k1⟩)
  clear own1 hP hQ k1 HB0
  have HC := (show Hid (Calls Tryd.prog 13 _ W1 _) from right_any (some ⟨g0, 0, none⟩) 9 g0 0 _ 0 100 3 100 la lc lg 0 L W1 HL.out.2.2.2.1 HL.out.1 HL.out.2.1 (by decide) (by have := HL.out.2.2.1; omega) (by decide) (by decide))
  go_wp2_with fail
  refine HC.out.mono ?_
  rintro e W2 ⟨rfl, k2⟩
  clear HC
  have HC := (show Hid (Calls Tryd.prog 14 _ W2 _) from round_any (some ⟨g0, 0, none⟩) 9 g0 0 _ 0 100 3 100 la lc lg 0 L W2 (HL.out.2.2.2.1.keep k2 (fun _ h => h)) (HL.out.1.keep k2 (fun _ h => h)) HL.out.2.1 (by decide) (by have := HL.out.2.2.1; omega) (by decide) (by decide))
  have HK := (show Hid (Keep noBlock w W2 ∧ Bytes W2 (some ⟨g0, 0, none⟩) 9 g0 0 [97, 98, 99, 97, 98, 99, 97, 98, 99]) from ⟨HL.out.2.2.2.2.trans' k2, HL.out.2.2.2.1.keep k2 (fun _ h => h)⟩)
  clear HL k2
  generalize L.length = ll at *
  go_wp2_with fail
  refine HC.out.mono ?_
  rintro e W3 ⟨⟨x, xl, xc, rfl, hC⟩, k3⟩
  have HC2 := (show Hid (Calls Tryd.prog 9 _ W3 _) from hC)
  clear HC hC k3
  go_wp2_with fail
  refine HC2.out.mono ?_
  rintro e W4 ⟨⟨y, yl, yc, rfl, hy, -⟩, k4⟩
  have HY := (show Hid (SrcB W4 (.slice y yl yc) [97, 98, 99, 97, 98, 99, 97, 98, 99] ∧ Keep noBlock w W4 ∧ Bytes W4 (some ⟨g0, 0, none⟩) 9 g0 0 [97, 98, 99, 97, 98, 99, 97, 98, 99]) from ⟨hy, HK.out.1.trans' k4, HK.out.2.keep k4 (fun _ h => h)⟩)
  clear HC2 hy k4 HK
  go_wp2_with fail
  obtain ⟨h5, q5, k5⟩ := two_new W4 3 6 3 (by decide) (3, 4) [97, 98, 99] #[.int .u8 97, .int .u8 98, .int .u8 99] 3 rfl rfl lt3 (by decide)
  obtain ⟨g1, hg1⟩ : ∃ g1, g1 = W4.heap.size := ⟨_, rfl⟩
  obtain ⟨g2, hg2⟩ : ∃ g2, g2 = W4.heap.size + 1 := ⟨_, rfl⟩
  rw [← hg2] at q5 ⊢
  rw [← hg1] at h5 ⊢
  clear hg1 hg2
  generalize (W4.alloc (.cells #[.int .u8 97, .int .u8 98, .int .u8 99] 5 (3, 4))).alloc (.cells #[.int .i64 3, .int .i64 6, .int .i64 3] 25) = W5 at *
  have HC := (show Hid (Calls Tryd.prog 9 _ W5 _) from back_ok (some ⟨g1, 0, none⟩) 3 g1 0 0 [97, 98, 99] (some ⟨g2, 0, none⟩) 1 g2 0 [(3, 6, 3)] W5 (by decide) h5 q5 (by decide) (by decide) okB_a)
  have HK := (show Hid (SrcB W5 (.slice y yl yc) [97, 98, 99, 97, 98, 99, 97, 98, 99] ∧ Keep noBlock w W5 ∧ Bytes W5 (some ⟨g0, 0, none⟩) 9 g0 0 [97, 98, 99, 97, 98, 99, 97, 98, 99]) from ⟨HY.out.1.keep k5, HY.out.2.1.trans' k5, HY.out.2.2.keep k5 (fun _ h => h)⟩)
  clear HY h5 q5 k5
  refine HC.out.mono ?_
  rintro e W6 ⟨⟨v6, rfl, o6, -⟩, k6⟩
  rw [outB_a] at o6
  obtain ⟨z, zc, zg, rfl, hz⟩ := owns_bytes o6 lt9 (by decide)
  have HZ := (show Hid (SrcB W6 (.slice z 9 zc) [97, 98, 99, 97, 98, 99, 97, 98, 99] ∧ SrcB W6 (.slice y yl yc) [97, 98, 99, 97, 98, 99, 97, 98, 99] ∧ Keep noBlock w W6 ∧ Bytes W6 (some ⟨g0, 0, none⟩) 9 g0 0 [97, 98, 99, 97, 98, 99, 97, 98, 99]) from ⟨hz.src, HK.out.1.keep k6, HK.out.2.1.trans' k6, HK.out.2.2.keep k6 (fun _ h => h)⟩)
  clear HC HK o6 hz k6
  rw [len9]
  go_wp2_with fail
  obtain ⟨h7, q7, k7⟩ := two_new W6 1 1 2 (by decide) (3, 4) [97, 98, 99] #[.int .u8 97, .int .u8 98, .int .u8 99] 3 rfl rfl lt3 (by decide)
  obtain ⟨g3, hg3⟩ : ∃ g3, g3 = W6.heap.size := ⟨_, rfl⟩
  obtain ⟨g4, hg4⟩ : ∃ g4, g4 = W6.heap.size + 1 := ⟨_, rfl⟩
  rw [← hg4] at q7 ⊢
  rw [← hg3] at h7 ⊢
  clear hg3 hg4
  generalize (W6.alloc (.cells #[.int .u8 97, .int .u8 98, .int .u8 99] 5 (3, 4))).alloc (.cells #[.int .i64 1, .int .i64 1, .int .i64 2] 25) = W7 at *
  have HC := (show Hid (Calls Tryd.prog 9 _ W7 _) from back_bad (some ⟨g3, 0, none⟩) 3 3 0 (some ⟨g4, 0, none⟩) 1 g4 0 [(1, 1, 2)] W7 (by decide) q7 (by decide) (by decide) okB_b)
  refine HC.out.mono ?_
  rintro e W8 ⟨rfl, k8⟩
  have kk := k7.trans' k8
  have c1 := run_conv (HZ.out.1.keep kk)
  have c2 := run_conv (HZ.out.2.1.keep kk)
  have c3 := run_conv (HZ.out.2.2.2.keep kk (fun _ h => h)).src
  rw [show strOf [97, 98, 99, 97, 98, 99, 97, 98, 99] = ⟨#[97, 98, 99, 97, 98, 99, 97, 98, 99]⟩ from rfl] at c1 c2 c3
  rw [len9] at c3
  have HK := (show Hid (Keep noBlock w W8) from HZ.out.2.2.1.trans' kk)
  clear HC HZ h7 q7 k7 k8 kk
  go_wp2_with fail
  go_ret
  exact ⟨rfl, HK.out⟩
end Go.Proofs.YtlpibfonpfhakaaDoor
