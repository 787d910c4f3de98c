/-
  LzmaSame: the same chunks tell the same, whatever others did in between.
-/
import Derived.Test.YtinhlkioeadfdaaDoorSms
import Derived.Test.YtinhlkioeadfdaaDoorStc
namespace Go.Proofs.YtinhlkioeadfdaaDoor
open Go.RowKit Go.Shelf
set_option linter.unusedVariables false

section
set_option maxRecDepth 20000 in
set_option maxHeartbeats 8000000 in
theorem lsame_far (a a2 : Option Addr) (bl bl2 cap cap2 : Nat) (n k total : Int) (w : World) (h1 : bl < 281474976710656) (h2 : bl2 < 281474976710656) (h : 16384 < bl + bl2 ∨ 16384 < n ∨ 16384 < k) :
    Calls Tryd.prog 3 #[.slice a bl cap, .int .i64 n, .slice a2 bl2 cap2, .int .i64 k, .int .i64 total] w fun e w' => e = .returned (.bool true) ∧ Keep noBlock w w' := by
  have HWk := hid (wakes_any w)
  by_cases c1 : 16384 < bl + bl2
  · have c1I : 16384 < (bl : Int) + (bl2 : Int) := by omega
    clear h
    go_enter Tryd.func3, Tryd.ntmps3
    go_wp2_with fail
    refine HWk.out.mono ?_
    rintro e w1 ⟨rfl, k1⟩
    go_wp2_with fail
    go_ret
    exact ⟨rfl, k1⟩
  · have c1I : ¬ 16384 < (bl : Int) + (bl2 : Int) := by omega
    by_cases c2 : 16384 < n
    · clear h
      go_enter Tryd.func3, Tryd.ntmps3
      go_wp2_with fail
      refine HWk.out.mono ?_
      rintro e w1 ⟨rfl, k1⟩
      go_wp2_with fail
      go_ret
      exact ⟨rfl, k1⟩
    · have c3 : 16384 < k := by omega
      clear h
      go_enter Tryd.func3, Tryd.ntmps3
      go_wp2_with fail
      refine HWk.out.mono ?_
      rintro e w1 ⟨rfl, k1⟩
      go_wp2_with fail
      go_ret
      exact ⟨rfl, k1⟩
/-- The string that a round says. -/
def said (r : Rz) : ByteArray := errS r.err ++ strOf r.told

set_option maxRecDepth 20000 in
set_option maxHeartbeats 16000000 in
theorem lsame_near (a a2 : Option Addr) (cap gb off cap2 gb2 off2 : Nat) (b b2 : List Nat) (n k total : Int) (ht : total < 9223372036854775808) (w : World) (hB : Bytes w a cap gb off b) (hB2 : Bytes w a2 cap2 gb2 off2 b2) (h : ¬ (16384 < b.length + b2.length ∨ 16384 < n ∨ 16384 < k)) :
    Calls Tryd.prog 3 #[.slice a b.length cap, .int .i64 n, .slice a2 b2.length cap2, .int .i64 k, .int .i64 total] w fun e w' => e = .returned (.bool true) ∧ Keep noBlock w w' := by
  have h1 := hB.len
  have h2 := hB2.len
  have c1I : ¬ 16384 < (b.length : Int) + (b2.length : Int) := by omega
  have c2 : ¬ 16384 < n := by omega
  have c3 : ¬ 16384 < k := by omega
  have HB := hid hB
  have HB2 := hid hB2
  have HN := hid new_state
  have HR4 := hid (room_any 4096 (by omega) (by omega))
  rw [show (((4096 : Nat) : Int)) = (4096 : Int) from rfl] at HR4
  have HR9 := hid (room_any 9 (by omega) (by omega))
  rw [show (((9 : Nat) : Int)) = (9 : Int) from rfl] at HR9
  have HT := (show Hid (total < 9223372036854775808 ∧ b.length ≤ 16384 ∧ b2.length ≤ 16384 ∧ n ≤ 16384 ∧ k ≤ 16384) from ⟨ht, by omega, by omega, by omega, by omega⟩)
  obtain ⟨r1, hr1⟩ : ∃ r1, r1 = rz 4096 (newS 3 0 2) even [] 0 b n := ⟨_, rfl⟩
  have hz1 : r1.err = 0 ∨ r1.err = 2 ∨ r1.err = 11 := by rw [hr1]; exact rz_err _ _ _ _ _ _ _
  obtain ⟨r2, hr2⟩ : ∃ r2, r2 = rz 4096 r1.s r1.c r1.win total b2 k := ⟨_, rfl⟩
  have hz2 : r2.err = 0 ∨ r2.err = 2 ∨ r2.err = 11 := by rw [hr2]; exact rz_err _ _ _ _ _ _ _
  have HE := hid (error_any r2.err hz2)
  have HQ := (show Hid (r1 = rz 4096 (newS 3 0 2) even [] 0 b n ∧ r2 = rz 4096 r1.s r1.c r1.win total b2 k) from ⟨hr1, hr2⟩)
  have HZ1 := hid hz1
  have HS0 := (show Hid (Sm w w 0 (said r2) (.slice none 0 0)) from ⟨⟨rfl, .inl ⟨rfl, rfl⟩⟩, Keep.refl _ _, fun g hg => by cases hg⟩)
  clear h hB hB2 ht hr1 hr2 hz1 hz2
  generalize hbl : b.length = bl at *
  generalize hbl2 : b2.length = bl2 at *
  have HBL := (show Hid (b.length = bl ∧ b2.length = bl2) from ⟨hbl, hbl2⟩)
  clear hbl hbl2
  go_enter Tryd.func3, Tryd.ntmps3
  go_wp2_with fail
  go_loopw [11, 12] (fun vs vi wr => ∃ (j : Nat) (aa : Option Addr) (ac : Nat), vi = .int .i64 (j : Int) ∧ vs = .slice aa j ac ∧ j ≤ 2 ∧ Hid (Sm w wr j (said r2) (.slice aa j ac))) (fun _ vi _ => 2 - (intOf vi).toNat)
  case atStart => exact ⟨0, none, 0, rfl, rfl, by omega, HS0⟩
  case round =>
    clear HS0
    obtain ⟨j, aa, ac, rfl, rfl, hj, HS⟩ := hrel
    by_cases hlt : j < 2
    · have hltI : (j : Int) < 2 := by omega
      go_wp2_with fail
      refine (HN.out wr).mono ?_
      rintro e w1 ⟨rfl, s1, k1⟩
      have H1 := hid (And.intro s1 k1)
      clear s1 k1
      go_wp2_with fail
      refine (HR4.out w1).mono ?_
      rintro e w2 ⟨wb, lb, rfl, p1, p2, p3⟩
      have H2 := hid (And.intro p1 (And.intro p2 p3))
      have HF := hid (whole 4096 wr.heap.size wb lb (.slice none 0 0) (newS 3 0 2) even [] 0 (by omega) w2 a cap gb off b n (H1.out.1.keep p3 (fun h => h)) p2 (HB.out.keep ((HS.out.keep.trans H1.out.2 (fun _ _ h => h)).trans p3 (fun _ _ h => h)) (fun _ h => h)) (by have := HT.out; have := HBL.out; omega) (by have := HT.out; omega))
      rw [HBL.out.1, ← HQ.out.1] at HF
      clear p1 p2 p3
      go_wp2_with fail
      refine HF.out.mono ?_
      rintro e w3 ⟨⟨a3, cap3, g3, off3, rv3, rfl, q1, q2⟩, q⟩
      have K3 : Keep noBlock wr w3 := (H1.out.2.trans H2.out.2.2 (fun _ _ h => h)).trans q (by
        rintro i hi (e | e | e)
        · omega
        · have := H2.out.1; have := H1.out.2.size; omega
        · cases e)
      have HK3 := (show Hid (Keep noBlock wr w3 ∧ wr.heap.size < w3.heap.size) from ⟨K3, by have := H1.out.1.block; have := H2.out.2.2.size; have := q.size; omega⟩)
      have HQ2 := hid q2
      clear K3 q1 q2 q HF
      by_cases c4 : r1.err = 11
      · rw [c4]
        generalize r1.told.length = tl1 at *
        go_wp2_with fail
        refine (wakes_any w3).mono ?_
        rintro e w4 ⟨rfl, k4⟩
        have HK4 := hid ((HS.out.keep.trans HK3.out.1 (fun _ _ h => h)).trans k4 (fun _ _ h => h))
        clear k4
        go_wp2_with fail
        go_ret
        exact ⟨rfl, HK4.out⟩
      · have HW3 := hid (HQ2.out c4)
        have HN3 := hid (HN.out w3)
        have hz : r1.err = 0 ∨ r1.err = 2 := by have := HZ1.out; omega
        clear c4 HQ2
        generalize r1.told.length = tl1 at *
        rcases hz with hz | hz
        all_goals
          rw [hz]
          clear hz
          go_wp2_with fail
          refine HN3.out.mono ?_
          rintro e w4 ⟨rfl, s4, k4⟩
          have H4 := hid (And.intro s4 k4)
          clear s4 k4 HN3
          go_wp2_with fail
          refine (HR9.out w4).mono ?_
          rintro e w5 ⟨wb5, lb5, rfl, p1, p2, p3⟩
          have H5 := hid (And.intro p1 (And.intro p2 p3))
          have HF := hid (whole 9 w3.heap.size wb5 lb5 (.slice none 0 0) (newS 3 0 2) even [] total HT.out.1 w5 a2 cap2 gb2 off2 b2 k (H4.out.1.keep p3 (fun h => h)) p2 (HB2.out.keep (((HS.out.keep.trans HK3.out.1 (fun _ _ h => h)).trans H4.out.2 (fun _ _ h => h)).trans p3 (fun _ _ h => h)) (fun _ h => h)) (by have := HT.out; have := HBL.out; omega) (by have := HT.out; omega))
          rw [HBL.out.2] at HF
          clear p1 p2 p3
          go_wp2_with fail
          refine HF.out.mono ?_
          rintro e w6 ⟨⟨a6, cap6, g6, off6, rv6, rfl, q1, q2⟩, q⟩
          have K36 : Keep noBlock w3 w6 := (H4.out.2.trans H5.out.2.2 (fun _ _ h => h)).trans q (by
            rintro i hi (e | e | e)
            · omega
            · have := H5.out.1; have := H4.out.2.size; omega
            · cases e)
          have HF7 := hid (whole 4096 wr.heap.size wb lb rv3 r1.s r1.c r1.win total HT.out.1 w6 a2 cap2 gb2 off2 b2 k (HW3.out.1.keep K36 (fun h => h)) (HW3.out.2.1.keep K36 (fun h => h) (fun _ _ h => h)) (HB2.out.keep ((HS.out.keep.trans HK3.out.1 (fun _ _ h => h)).trans K36 (fun _ _ h => h)) (fun _ h => h)) (by have := HT.out; have := HBL.out; omega) (by have := HT.out; omega))
          rw [HBL.out.2, ← HQ.out.2] at HF7
          have HK6 := hid (HK3.out.1.trans K36 (fun _ _ h => h))
          clear K36 q1 q2 q HF H4 H5
          generalize (rz 9 (newS 3 0 2) even [] total b2 k).told.length = tl6 at *
          generalize (rz 9 (newS 3 0 2) even [] total b2 k).err = z6 at *
          go_wp2_with fail
          refine HF7.out.mono ?_
          rintro e w7 ⟨⟨a7, cap7, g7, off7, rv7, rfl, q1, q2⟩, q⟩
          have K7 : Keep noBlock wr w7 := HK6.out.trans q (by
            rintro i hi (e | e | e)
            · omega
            · have := H2.out.1; have := H1.out.2.size; omega
            · rcases HW3.out.2.2 with e1 | ⟨g, e1, hg⟩
              · rw [e1] at e; cases e
              · rw [e1] at e
                have : g = i := by simpa using e
                have := H2.out.2.2.size; have := H1.out.2.size; omega)
          obtain ⟨g8, cp8, W8, r8, S8⟩ := HS.out.more (by omega) K7.drew
          have hc := run_convB (q1.keep ((Keep.refl noBlock w7).drew) (fun _ h => h)).src
          have hl7 : r2.told.length < 281474976710656 := q1.len
          have HS8 := hid S8
          unfold said at r8
          have hsz1 := errS_size r2.err
          have hsz2 : (strOf r2.told).size ≤ 281474976710656 := by rw [strOf_size]; omega
          clear q1 q2 q K7 S8 HF7 HK6 HW3 H1 H2 HK3
          generalize r2.told.length = tl7 at *
          generalize r2.err = z7 at *
          generalize errS z7 = E7 at *
          generalize strOf r2.told = T7 at *
          have hsum : ¬ (9223372036854775807 < E7.size + T7.size) := by omega
          clear hsz1 hsz2
          go_wp2_with fail
          go_region_law (first | (refine step_call_same _ (.int .i64 z7) (.string E7) (by rfl) (HE.out _) ?_) | (refine step_append_run _ (by rfl) _ _ 24 (by rfl) (.slice aa j ac) (.slice (some ⟨w7.heap.size, 0, none⟩) 1 1) (.slice (some ⟨g8, 0, none⟩) (j + 1) cp8) W8 (by rfl) (by rfl) r8 ?_))
          all_goals go_wp2_with fail
          all_goals go_roundw
          case rel => exact ⟨j + 1, some ⟨g8, 0, none⟩, cp8, by go_num, rfl, by omega, HS8⟩
          case measure => simp [intOf]; omega
          case rel => exact ⟨j + 1, some ⟨g8, 0, none⟩, cp8, by go_num, rfl, by omega, HS8⟩
          case measure => simp [intOf]; omega
    · obtain rfl : j = 2 := by omega
      obtain ⟨g, rfl, d0, d1⟩ := HS.out.cells
      have HK := hid HS.out.keep
      generalize said r2 = S at *
      clear hlt hj HS
      obtain ⟨W9, hW9⟩ : ∃ W9, W9 = wr.drew := ⟨_, rfl⟩
      have d0' : W9.cell? ⟨g, 0, none⟩ = some (.string S) := by rw [hW9]; exact d0
      have d1' : W9.cell? ⟨g, 1, none⟩ = some (.string S) := by rw [hW9]; exact d1
      have HK9 := (show Hid (Keep noBlock w W9) from by rw [hW9]; exact HK.out.drew)
      clear d0 d1 HK
      go_wp2_with fail
      refine region_tail 8 mx (by kernel_rfl) ?_
      rw [← hW9]
      clear hW9
      simp only [List.take_succ_cons, List.take_zero, List.drop_succ_cons, List.drop_zero]
      repeat (quiet_step (fail))
      refine wpQuiet_nil ?_
      go_wp2_with fail
      refine (wakes_any W9).mono ?_
      rintro e w4 ⟨rfl, k4⟩
      have HK4 := hid (HK9.out.trans k4 (fun _ _ h => h))
      clear k4
      go_wp2_with fail
      go_ret
      exact ⟨rfl, HK4.out⟩
theorem lsame_law (a a2 : Option Addr) (cap gb off cap2 gb2 off2 : Nat) (b b2 : List Nat) (n k total : Int) (ht : total < 9223372036854775808) (w : World) (hB : Bytes w a cap gb off b) (hB2 : Bytes w a2 cap2 gb2 off2 b2) :
    Calls Tryd.prog 3 #[.slice a b.length cap, .int .i64 n, .slice a2 b2.length cap2, .int .i64 k, .int .i64 total] w fun e w' => e = .returned (.bool true) ∧ Keep noBlock w w' := by
  by_cases h : 16384 < b.length + b2.length ∨ 16384 < n ∨ 16384 < k
  · exact lsame_far a a2 _ _ cap cap2 n k total w hB.len hB2.len h
  · exact lsame_near a a2 cap gb off cap2 gb2 off2 b b2 n k total ht w hB hB2 h
end
end Go.Proofs.YtinhlkioeadfdaaDoor
