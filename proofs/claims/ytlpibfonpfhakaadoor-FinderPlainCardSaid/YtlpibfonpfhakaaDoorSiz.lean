/-
  Slices of steps that are read; size.
-/
import Derived.Test.YtlpibfonpfhakaaDoorBck
import Derived.Test.YtlpibfonpfhakaaDoorSeq
namespace Go.Proofs.YtlpibfonpfhakaaDoor
open Go.RowKit Go.Shelf
set_option linter.unusedVariables false

/-- The slice reads as steps. -/
structure RowQ (w : World) (a : Option Addr) (cap gb off : Nat) (ts : List Tri) : Prop where
  at_ : a = some (⟨gb, off, none⟩ : Addr) ∨ ts = []
  cells : ∀ j, j < ts.length → w.cell? ⟨gb, off + j * 3, none⟩ = some (.int .i64 (ts[j]?.getD (0, 0, 0)).1) ∧ w.cell? ⟨gb, off + j * 3 + 1, none⟩ = some (.int .i64 (ts[j]?.getD (0, 0, 0)).2.1) ∧ w.cell? ⟨gb, off + j * 3 + 2, none⟩ = some (.int .i64 (ts[j]?.getD (0, 0, 0)).2.2)
  b63 : ∀ j : Nat, (ts[j]?.getD (0, 0, 0)).2.2 < 9223372036854775808
theorem RowQ.block {w : World} {a : Option Addr} {cap gb off : Nat} {ts : List Tri} (h : RowQ w a cap gb off ts) (hb : ts ≠ []) : gb < w.heap.size :=
  World.block_lt_of_cell? w ⟨gb, off + 0 * 3, none⟩ (h.cells 0 (List.length_pos_iff.2 hb)).1
theorem RowQ.keep {w w' : World} {S : Nat → Prop} {a : Option Addr} {cap gb off : Nat} {ts : List Tri} (h : RowQ w a cap gb off ts) (hk : Keep S w w') (hS : ts ≠ [] → ¬ S gb) : RowQ w' a cap gb off ts :=
  ⟨h.at_, fun j hj => by
    have hne : ts ≠ [] := by rintro rfl; simp at hj
    have e := hk.block gb (h.block hne) (hS hne)
    obtain ⟨q1, q2, q3⟩ := h.cells j hj
    exact ⟨(World.cell?_of_block e).trans q1, (World.cell?_of_block e).trans q2, (World.cell?_of_block e).trans q3⟩, h.b63⟩
theorem RowQ.here {w : World} {a : Option Addr} {cap gb off : Nat} {ts : List Tri} (h : RowQ w a cap gb off ts) {i : Nat} (hi : i < ts.length) : a = some ⟨gb, off, none⟩ := by
  rcases h.at_ with h | h
  · exact h
  · rw [h] at hi; simp at hi

set_option maxRecDepth 100000 in
set_option maxHeartbeats 2000000 in
theorem size_any (a : Option Addr) (cap gb off : Nat) (ts : List Tri) (R F : Nat) (w : World) (h : RowQ w a cap gb off ts) (hR : R + F < 140737488355328) (hT : ts.length < 140737488355328) :
    Calls Tryd.prog 15 #[.int .i64 (R : Int), .int .i64 (F : Int), .slice a ts.length cap] w fun e w' => (∃ x : Int, e = .returned (.tuple #[.int .i64 x, .bool (okB R F ts)]) ∧ (okB R F ts = true → x = sizeB F ts)) ∧ Keep noBlock w w' := by
  have HR := (show Hid (RowQ w a cap gb off ts) from h)
  clear h
  go_enter Tryd.func15, Tryd.ntmps15
  go_wp2_with fail
  go_loopw [0, 8, 14] (fun v0 v8 v14 wr => ∃ (i : Nat) (r f : Int), v0 = .int .i64 r ∧ v8 = .int .i64 f ∧ v14 = .int .i64 (i : Int) ∧ i ≤ ts.length ∧ 0 ≤ r ∧ r ≤ (R : Int) ∧ 0 ≤ f ∧ f + r ≤ (R : Int) + F + 16777216 ∧
    Hid (okB R F ts = okB r f (ts.drop i) ∧ sizeB F ts = sizeB f (ts.drop i) ∧ Keep noBlock w wr)) (fun _ _ v14 _ => ts.length - (intOf v14).toNat)
  case atStart => exact ⟨0, (R : Int), (F : Int), rfl, rfl, rfl, Nat.zero_le _, by omega, Int.le_refl _, by omega, by omega, rfl, rfl, Keep.refl _ _⟩
  case round =>
    obtain ⟨i, r, f, rfl, rfl, rfl, hi, hr0, hr1, hf0, hf1, HI⟩ := hrel
    by_cases hlt : i < ts.length
    · have hltI : (i : Int) < (ts.length : Int) := by omega
      obtain ⟨e1, e2, e3⟩ := (HR.out.keep HI.out.2.2 (fun _ h => h)).cells i hlt
      obtain rfl := HR.out.here hlt
      have hdr := drop_cons hlt
      obtain ⟨⟨l, m, b⟩, ht⟩ : ∃ t : Tri, ts[i]?.getD (0, 0, 0) = t := ⟨_, rfl⟩
      rw [ht] at e1 e2 e3 hdr
      obtain ⟨i1, hi1⟩ : ∃ i1, i1 = i + 1 := ⟨_, rfl⟩
      have hadd : (i : Int) + 1 = (i1 : Int) := by omega
      have he : ts.drop (i + 1) = ts.drop i1 := by rw [hi1]
      clear ht
      by_cases hA : l < 0
      · have hA' : decide (l < 0) = true := decide_eq_true hA
        have HB := (show Hid (okB (R : Int) F ts = false) from by rw [HI.out.1, hdr]; exact okB_no (fun h => by obtain ⟨q1, q2, q3, q4, q5, q6⟩ := h; exact absurd q1 (by show ¬ (0 : Int) ≤ l; omega)))
        clear hdr
        go_wp2_with fail
        go_ret2
        rw [HB.out]
        exact ⟨⟨0, rfl, fun e => by cases e⟩, HI.out.2.2.alloc _⟩
      · have hA' : decide (l < 0) = false := decide_eq_false hA
        by_cases hB : m < 0
        · have hB' : decide (m < 0) = true := decide_eq_true hB
          have HB := (show Hid (okB (R : Int) F ts = false) from by rw [HI.out.1, hdr]; exact okB_no (fun h => by obtain ⟨q1, q2, q3, q4, q5, q6⟩ := h; exact absurd q2 (by show ¬ (0 : Int) ≤ m; omega)))
          clear hdr
          go_wp2_with fail
          go_ret2
          rw [HB.out]
          exact ⟨⟨0, rfl, fun e => by cases e⟩, HI.out.2.2.alloc _⟩
        · have hB' : decide (m < 0) = false := decide_eq_false hB
          by_cases hC : b < 0
          · have hC' : decide (b < 0) = true := decide_eq_true hC
            have HB := (show Hid (okB (R : Int) F ts = false) from by rw [HI.out.1, hdr]; exact okB_no (fun h => by obtain ⟨q1, q2, q3, q4, q5, q6⟩ := h; exact absurd q3 (by show ¬ (0 : Int) ≤ b; omega)))
            clear hdr
            go_wp2_with fail
            go_ret2
            rw [HB.out]
            exact ⟨⟨0, rfl, fun e => by cases e⟩, HI.out.2.2.alloc _⟩
          · have hC' : decide (b < 0) = false := decide_eq_false hC
            by_cases hD : r < l
            · have hD' : decide (r < l) = true := decide_eq_true hD
              have HB := (show Hid (okB (R : Int) F ts = false) from by rw [HI.out.1, hdr]; exact okB_no (fun h => by obtain ⟨q1, q2, q3, q4, q5, q6⟩ := h; exact absurd q4 (by show ¬ l ≤ r; omega)))
              clear hdr
              go_wp2_with fail
              go_ret2
              rw [HB.out]
              exact ⟨⟨0, rfl, fun e => by cases e⟩, HI.out.2.2.alloc _⟩
            · have hD' : decide (r < l) = false := decide_eq_false hD
              obtain ⟨r1, hr1e⟩ : ∃ r1, r1 = r - l := ⟨_, rfl⟩
              have hsub : r - l = r1 := hr1e.symm
              obtain ⟨f1, hf1e⟩ : ∃ f1, f1 = f + l := ⟨_, rfl⟩
              have hadd1 : f + l = f1 := hf1e.symm
              obtain ⟨lim, hlim⟩ : ∃ lim, lim = 16777216 - f1 := ⟨_, rfl⟩
              have hsub1 : 16777216 - f1 = lim := hlim.symm
              have hw1 : IntKind.i64.wrap r1 = r1 := by rw [IntKind.wrap_i64]; omega
              have hw2 : IntKind.i64.wrap f1 = f1 := by rw [IntKind.wrap_i64]; omega
              have hw3 : IntKind.i64.wrap lim = lim := by rw [IntKind.wrap_i64]; omega
              have HLIM := (show Hid (lim = 16777216 - f1 ∧ f1 = f + l) from ⟨hlim, hf1e⟩)
              by_cases hE : lim < m
              · have hE' : decide (lim < m) = true := decide_eq_true hE
                have HB := (show Hid (okB (R : Int) F ts = false) from by rw [HI.out.1, hdr]; exact okB_no (fun h => by obtain ⟨q1, q2, q3, q4, q5, q6⟩ := h; exact absurd q5 (by show ¬ m ≤ 16777216 - (f + l); have := HLIM.out; omega)))
                clear hdr hlim hf1e hr1e he hi1
                go_wp2_with fail
                go_ret2
                rw [HB.out]
                exact ⟨⟨0, rfl, fun e => by cases e⟩, HI.out.2.2.alloc _⟩
              · have hE' : decide (lim < m) = false := decide_eq_false hE
                obtain ⟨f2, hf2e⟩ : ∃ f2, f2 = f1 + m := ⟨_, rfl⟩
                have hadd2 : f1 + m = f2 := hf2e.symm
                have hw4 : IntKind.i64.wrap f2 = f2 := by rw [IntKind.wrap_i64]; omega
                by_cases hG : 0 < m
                · have hG' : decide (0 < m) = true := decide_eq_true hG
                  by_cases hH : b = 0
                  · have hH' : (b == 0) = true := by simp [hH]
                    have HB := (show Hid (okB (R : Int) F ts = false) from by rw [HI.out.1, hdr]; exact okB_no (fun h => by obtain ⟨q1, q2, q3, q4, q5, q6⟩ := h; exact absurd (q6 hG).1 (by show ¬ b ≠ 0; omega)))
                    clear hdr hlim hf1e hr1e he hi1 hf2e
                    go_wp2_with fail
                    go_ret2
                    rw [HB.out]
                    exact ⟨⟨0, rfl, fun e => by cases e⟩, HI.out.2.2.alloc _⟩
                  · have hH' : (b == 0) = false := by rw [beq_eq_false_iff_ne]; exact hH
                    by_cases hK : f1 < b
                    · have hK' : decide (f1 < b) = true := decide_eq_true hK
                      have HB := (show Hid (okB (R : Int) F ts = false) from by rw [HI.out.1, hdr]; exact okB_no (fun h => by obtain ⟨q1, q2, q3, q4, q5, q6⟩ := h; exact absurd (q6 hG).2 (by show ¬ b ≤ f + l; have := HLIM.out; omega)))
                      clear hdr hlim hf1e hr1e he hi1 hf2e
                      go_wp2_with fail
                      go_ret2
                      rw [HB.out]
                      exact ⟨⟨0, rfl, fun e => by cases e⟩, HI.out.2.2.alloc _⟩
                    · have hK' : decide (f1 < b) = false := decide_eq_false hK
                      clear hlim
                      have HN := (show Hid (okB (R : Int) F ts = okB r1 f2 (ts.drop i1) ∧ sizeB (F : Int) ts = sizeB f2 (ts.drop i1) ∧ Keep noBlock w (wr.alloc (.cells #[.int .i64 l, .int .i64 m, .int .i64 b] 25))) from by
                        refine ⟨?_, ?_, HI.out.2.2.alloc _⟩
                        · have hok : okT r f (l, m, b) := by
                            show 0 ≤ l ∧ 0 ≤ m ∧ 0 ≤ b ∧ l ≤ r ∧ m ≤ 16777216 - (f + l) ∧ (0 < m → b ≠ 0 ∧ b ≤ f + l)
                            have := HLIM.out
                            exact ⟨by omega, by omega, by omega, by omega, by omega, fun h => ⟨by omega, by omega⟩⟩
                          rw [HI.out.1, hdr, okB_go hok, he]
                          show okB (r - l) (f + l + m) _ = _
                          rw [show (r - l) = r1 from hr1e.symm, show f + l + m = f2 from by have := HLIM.out; omega]
                        · rw [HI.out.2.1, hdr, he]
                          show sizeB (f + l + m) _ = _
                          rw [show f + l + m = f2 from by have := HLIM.out; omega])
                      have HX := (show Hid (i1 = i + 1 ∧ 0 ≤ r1 ∧ r1 ≤ r ∧ 0 ≤ f2 ∧ f2 + r1 ≤ (R : Int) + F + 16777216) from ⟨hi1, by omega, by omega, by omega, by omega⟩)
                      clear hdr he hr1e hf1e hf2e hi1 HI
                      go_wp2_with fail
                      go_roundw
                      case rel => exact ⟨i1, r1, f2, rfl, rfl, rfl, by have := HX.out.1; omega, HX.out.2.1, by have := HX.out.2.2.1; omega, HX.out.2.2.2.1, HX.out.2.2.2.2, HN.out⟩
                      case measure => have := HX.out.1; simp [intOf]; omega
                · have hG' : decide (0 < m) = false := decide_eq_false hG
                  clear hlim
                  have HN := (show Hid (okB (R : Int) F ts = okB r1 f2 (ts.drop i1) ∧ sizeB (F : Int) ts = sizeB f2 (ts.drop i1) ∧ Keep noBlock w (wr.alloc (.cells #[.int .i64 l, .int .i64 m, .int .i64 b] 25))) from by
                    refine ⟨?_, ?_, HI.out.2.2.alloc _⟩
                    · have hok : okT r f (l, m, b) := by
                        show 0 ≤ l ∧ 0 ≤ m ∧ 0 ≤ b ∧ l ≤ r ∧ m ≤ 16777216 - (f + l) ∧ (0 < m → b ≠ 0 ∧ b ≤ f + l)
                        have := HLIM.out
                        exact ⟨by omega, by omega, by omega, by omega, by omega, fun h => ⟨by omega, by omega⟩⟩
                      rw [HI.out.1, hdr, okB_go hok, he]
                      show okB (r - l) (f + l + m) _ = _
                      rw [show (r - l) = r1 from hr1e.symm, show f + l + m = f2 from by have := HLIM.out; omega]
                    · rw [HI.out.2.1, hdr, he]
                      show sizeB (f + l + m) _ = _
                      rw [show f + l + m = f2 from by have := HLIM.out; omega])
                  have HX := (show Hid (i1 = i + 1 ∧ 0 ≤ r1 ∧ r1 ≤ r ∧ 0 ≤ f2 ∧ f2 + r1 ≤ (R : Int) + F + 16777216) from ⟨hi1, by omega, by omega, by omega, by omega⟩)
                  clear hdr he hr1e hf1e hf2e hi1 HI
                  go_wp2_with fail
                  go_roundw
                  case rel => exact ⟨i1, r1, f2, rfl, rfl, rfl, by have := HX.out.1; omega, HX.out.2.1, by have := HX.out.2.2.1; omega, HX.out.2.2.2.1, HX.out.2.2.2.2, HN.out⟩
                  case measure => have := HX.out.1; simp [intOf]; omega
    · have hltI : ¬ (i : Int) < (ts.length : Int) := by omega
      have HB := (show Hid (okB (R : Int) F ts = decide (f ≤ 16777216) ∧ sizeB (F : Int) ts = f) from by
        rw [HI.out.1, HI.out.2.1, List.drop_eq_nil_of_le (by omega)]; exact ⟨rfl, rfl⟩)
      go_wp2_with fail
      go_ret2
      rw [HB.out.1]
      exact ⟨⟨f, rfl, fun _ => HB.out.2.symm⟩, HI.out.2.2⟩
end Go.Proofs.YtlpibfonpfhakaaDoor
