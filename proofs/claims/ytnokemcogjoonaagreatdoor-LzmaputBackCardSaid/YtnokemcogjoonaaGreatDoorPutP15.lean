/-
  A repeat: which of the last distances is taken again, and how many bytes are.
  An operation.
  What catches a panic: the closure that a chunk defers.
  A chunk's operations, one behind the other, and its end.
-/
import Derived.Defers
import Derived.Recover
import Derived.WalkMore
import Derived.Test.YtnokemcogjoonaaGreatDoorPutP10
namespace Go.Proofs.YtnokemcogjoonaaGreatDoor
open Go.RowKit Go.Shelf
set_option linter.unusedVariables false

theorem repM_short (s : Se) (p : Nat) (x : Cx) (h1 : bN (bitX x (404 + s.ph)) = 0) (h2 : bN (bitX (stepX x (404 + s.ph)) (200 + s.ph * 16 + p)) = 0) :
    repM s p x = (({ s with ph := behS s.ph }, 1), stepX (stepX x (404 + s.ph)) (200 + s.ph * 16 + p)) :=
  (bnd_z _ _ _ _ h1).trans (bnd_z _ _ _ _ h2)
theorem repM_0 (s : Se) (p : Nat) (x : Cx) (h1 : bN (bitX x (404 + s.ph)) = 0) (h2 : ¬ bN (bitX (stepX x (404 + s.ph)) (200 + s.ph * 16 + p)) = 0) :
    repM s p x = lastM s p 0 (stepX (stepX x (404 + s.ph)) (200 + s.ph * 16 + p)) :=
  (bnd_z _ _ _ _ h1).trans (bnd_nz _ _ _ _ h2)
theorem repM_1 (s : Se) (p : Nat) (x : Cx) (h1 : ¬ bN (bitX x (404 + s.ph)) = 0) (h2 : bN (bitX (stepX x (404 + s.ph)) (416 + s.ph)) = 0) :
    repM s p x = lastM s p 1 (stepX (stepX x (404 + s.ph)) (416 + s.ph)) :=
  (bnd_nz _ _ _ _ h1).trans (bnd_z _ _ _ _ h2)
theorem repM_2 (s : Se) (p : Nat) (x : Cx) (h1 : ¬ bN (bitX x (404 + s.ph)) = 0) (h2 : ¬ bN (bitX (stepX x (404 + s.ph)) (416 + s.ph)) = 0) (h3 : bN (bitX (stepX (stepX x (404 + s.ph)) (416 + s.ph)) (428 + s.ph)) = 0) :
    repM s p x = lastM s p 2 (stepX (stepX (stepX x (404 + s.ph)) (416 + s.ph)) (428 + s.ph)) :=
  (bnd_nz _ _ _ _ h1).trans ((bnd_nz _ _ _ _ h2).trans (bnd_z _ _ _ _ h3))
theorem repM_3 (s : Se) (p : Nat) (x : Cx) (h1 : ¬ bN (bitX x (404 + s.ph)) = 0) (h2 : ¬ bN (bitX (stepX x (404 + s.ph)) (416 + s.ph)) = 0) (h3 : ¬ bN (bitX (stepX (stepX x (404 + s.ph)) (416 + s.ph)) (428 + s.ph)) = 0) :
    repM s p x = lastM s p 3 (stepX (stepX (stepX x (404 + s.ph)) (416 + s.ph)) (428 + s.ph)) :=
  (bnd_nz _ _ _ _ h1).trans ((bnd_nz _ _ _ _ h2).trans (bnd_nz _ _ _ _ h3))
theorem lastM_eq (s : Se) (p k : Nat) (x : Cx) : lastM s p k x = (({ takeR s k with ph := behR s.ph }, (lenM 13242 p x).1), (lenM 13242 p x).2) := rfl
/-- A bit by one of a reader's chances. -/
theorem Rd.bit {G : Rg} {w : World} {rv tv : Value} {s : Se} {x : Cx} {win told : List Nat} (h : Rd G w rv tv s x win told) (i : Nat) (h8 : 8 ≤ i) (hi : i < 14143) :
    Calls Tryz.prog 78 #[.pointer (some ⟨G.db, 0, none⟩), .pointer (some ⟨G.sb, i, none⟩)] w fun e w' => e = .returned (.int .i64 ((bN (bitX x i) : Nat) : Int)) ∧ Rd G w' rv tv s (stepX x i) win told := by
  refine (bit_any G.sb G.db G.gb i s x w h.pr h8 hi).mono ?_
  rintro e w' ⟨rfl, h1, h2⟩
  exact ⟨rfl, h.turn h1 h2⟩

set_option maxRecDepth 20000 in
set_option maxHeartbeats 8000000 in
theorem repeat_any (G : Rg) (rv tv : Value) (s : Se) (x : Cx) (win told : List Nat) (p : Nat) (hp : p < 16) (w : World) (h : Rd G w rv tv s x win told) :
    Calls Tryz.prog 82 #[.pointer (some ⟨G.rb, 0, none⟩), .int .i64 (p : Int)] w fun e w' => e = .returned (.int .i64 ((repM s p x).1.2 : Int)) ∧ 1 ≤ (repM s p x).1.2 ∧ (repM s p x).1.2 ≤ 273 ∧ Rd G w' rv tv (repM s p x).1.1 (repM s p x).2 win told := by
  have hph := h.pr.st.ok.ph
  have hphI : (s.ph : Int) < 12 := by omega
  have hpI : (p : Int) < 16 := by omega
  have R0 := hid (repM_short s p x)
  have R1 := hid (repM_0 s p x)
  have R2 := hid (repM_1 s p x)
  have R3 := hid (repM_2 s p x)
  have R4 := hid (repM_3 s p x)
  obtain ⟨W1, hW1⟩ : ∃ W1, W1 = w.drew := ⟨_, rfl⟩
  have h1 := h.kept ((Keep.refl noBlock w).drew)
  rw [← hW1] at h1
  obtain ⟨a0, -⟩ := h.cells
  obtain ⟨c0, c1, -⟩ := h1.cells
  obtain ⟨-, -, -, c3, -⟩ := h1.pr.st.first
  have HB := hid (h1.bit (404 + s.ph) (by omega) (by omega))
  generalize repM s p x = RR at *
  generalize hx1 : stepX x (404 + s.ph) = x1 at *
  clear hx1
  generalize bitX x (404 + s.ph) = t1 at *
  clear h h1
  go_enter Tryz.func82, Tryz.ntmps82
  go_wp2_with fail
  refine region_tail 15 mx (by kernel_rfl) ?_
  rw [← hW1]
  clear hW1 a0
  simp only [List.take_succ_cons, List.take_zero, List.drop_succ_cons, List.drop_zero]
  repeat (quiet_step (fail))
  refine wpQuiet_nil ?_
  go_wp2_with fail
  refine HB.out.mono ?_
  rintro e w2 ⟨rfl, h2⟩
  clear HB c0 c1 c3
  obtain ⟨W3, hW3⟩ : ∃ W3, W3 = w2.drew := ⟨_, rfl⟩
  have h3 := h2.kept ((Keep.refl noBlock w2).drew)
  rw [← hW3] at h3
  obtain ⟨c0, c1, -⟩ := h3.cells
  obtain ⟨-, -, -, c3, -⟩ := h3.pr.st.first
  clear h2
  cases t1 with
  | false =>
    rw [show bN false = 0 from rfl]
    have R0 := hid (R0.out (by decide))
    have R1 := hid (R1.out (by decide))
    clear R2 R3 R4
    rw [show (((0 : Nat) : Int)) = (0 : Int) from rfl]
    have HB := hid (h3.bit (200 + s.ph * 16 + p) (by omega) (by omega))
    generalize hx2 : stepX x1 (200 + s.ph * 16 + p) = x2 at *
    clear hx2
    generalize bitX x1 (200 + s.ph * 16 + p) = t2 at *
    clear h3
    go_wp2_with fail
    refine region_tail 17 mx (by kernel_rfl) ?_
    rw [← hW3]
    clear hW3
    simp only [List.take_succ_cons, List.take_zero, List.drop_succ_cons, List.drop_zero]
    repeat (quiet_step (fail))
    refine wpQuiet_nil ?_
    go_wp2_with fail
    refine HB.out.mono ?_
    rintro e w4 ⟨rfl, h4⟩
    clear HB c0 c1 c3
    cases t2 with
    | false =>
      rw [show bN false = 0 from rfl]
      have R0 := hid (R0.out (by decide))
      clear R1
      rw [show (((0 : Nat) : Int)) = (0 : Int) from rfl]
      obtain ⟨W5, hW5⟩ : ∃ W5, W5 = w4.drew := ⟨_, rfl⟩
      have h5 := h4.kept ((Keep.refl noBlock w4).drew)
      rw [← hW5] at h5
      obtain ⟨c0, -⟩ := h5.cells
      obtain ⟨-, -, -, c3, -, -, -, -, cf⟩ := h5.pr.st.first
      have cf3 := cf 3
      have HS := hid (behindShort_any s.ph hph)
      have hbs : behS s.ph < 12 := by unfold behS; split <;> omega
      have HF := hid (h5.ph (behS s.ph) hbs)
      generalize behS s.ph = p' at *
      clear h4 h5 cf hbs
      go_wp2_with fail
      refine region_tail 14 mx (by kernel_rfl) ?_
      rw [← hW5]
      clear hW5
      simp only [List.take_succ_cons, List.take_zero, List.drop_succ_cons, List.drop_zero]
      iterate 11 (quiet_step (fail))
      refine wpQuiet_step (fun K hK => ?_)
      go_simp
      refine ⟨_, HS.out _, hK _ ?_⟩
      clear hK K
      repeat (quiet_step (fail))
      refine wpQuiet_nil ?_
      go_wp2_with fail
      go_ret
      rw [R0.out]
      exact ⟨rfl, by show 1 ≤ 1; omega, by show 1 ≤ 273; omega, HF.out⟩
    | true =>
      rw [show bN true = 1 from rfl]
      have RX := hid (R1.out (by decide))
      clear R0 R1
      rw [show (((1 : Nat) : Int)) = (1 : Int) from rfl]
      obtain ⟨A0, AH⟩ := (show w4.cell? ⟨G.rb, 0, none⟩ = some (.pointer (some ⟨G.sb, 0, none⟩)) ∧ w4.cell? ⟨G.sb, 4, none⟩ = some (.int .u32 (s.r0 : Int)) from ⟨h4.cells.1, h4.pr.st.first.2.2.2.2.1⟩)
      obtain ⟨WA, hWA⟩ : ∃ WA, WA = w4.drew := ⟨_, rfl⟩
      have hA := h4.kept ((Keep.refl noBlock w4).drew)
      rw [← hWA] at hA
      have b0 := hA.cells.1
      obtain ⟨WB, u1, u2, u3⟩ := hA.pr.shift 0 3 (by omega)
      rw [show (((0 : Nat) : Int)) = (0 : Int) from rfl] at u1
      have hB := hA.turn u2 u3
      have b1 := hB.cells.1
      have b2 := hB.pr.st.first.2.2.2.2.2.2.2.2 4
      have b3 := hB.pr.st.first.2.2.2.2.1
      have hrk : s.r0 < 4294967296 := h4.pr.st.ok.r0
      have hC := hB.r0 s.r0 hrk
      obtain ⟨WD, hWD⟩ : ∃ WD, WD = (WB.setCell ⟨G.sb, 4, none⟩ (.int .u32 (s.r0 : Int))).drew := ⟨_, rfl⟩
      have hD := hC.kept ((Keep.refl noBlock _).drew)
      rw [← hWD] at hD
      obtain ⟨g0, g1, -⟩ := hD.cells
      have HL := hid (length_any G.sb G.db G.gb 13242 p _ x2 WD hD.pr (by omega) (by omega) hp)
      have HD := (show Hid (Rd G WD rv tv (takeR s 0) x2 win told) from hD)
      rw [lastM_eq] at RX
      have HS := hid (behindRepeat_any s.ph hph)
      have hbr : behR s.ph < 12 := by unfold behR; split <;> omega
      generalize behR s.ph = p' at *
      generalize lenM 13242 p x2 = LE at *
      obtain ⟨l, xl⟩ := LE
      dsimp only at HL RX
      clear h4 hA hB hC hD u2 u3 hrk
      go_wp2_with fail
      have hw1 : IntKind.i64.wrap 1 = 1 := wraps_i64 _ (by omega) (by omega)
      have hw2 : IntKind.i64.wrap 2 = 2 := wraps_i64 _ (by omega) (by omega)
      have hw3 : IntKind.i64.wrap 3 = 3 := wraps_i64 _ (by omega) (by omega)
      have hw4 : IntKind.i64.wrap 4 = 4 := wraps_i64 _ (by omega) (by omega)
      refine region_tail 16 mx (by kernel_rfl) ?_
      rw [← hWA]
      clear hWA A0 AH
      simp only [List.take_succ_cons, List.take_zero, List.drop_succ_cons, List.drop_zero]
      repeat (quiet_step (fail))
      refine wpQuiet_nil ?_
      refine wpList_copy_run _ rfl _ _ 206 rfl _ _ _ _ rfl rfl u1 ?_
      go_wp2_with fail
      refine region_tail 8 mx (by kernel_rfl) ?_
      rw [← hWD]
      clear hWD u1 b0 b1 b2 b3
      simp only [List.take_succ_cons, List.take_zero, List.drop_succ_cons, List.drop_zero]
      repeat (quiet_step (fail))
      refine wpQuiet_nil ?_
      go_wp2_with fail
      refine HL.out.mono ?_
      rintro e w8 ⟨rfl, l1, l2, q1, q2⟩
      have h8 := HD.out.turn q1 q2
      obtain ⟨W9, hW9⟩ : ∃ W9, W9 = w8.drew := ⟨_, rfl⟩
      have h9 := h8.kept ((Keep.refl noBlock w8).drew)
      rw [← hW9] at h9
      have m0 := h9.cells.1
      obtain ⟨m3, mf3⟩ := (show W9.cell? ⟨G.sb, 3, none⟩ = some (.int .u8 (s.ph : Int)) ∧ W9.frozen? ⟨G.sb, 3, none⟩ = false from ⟨h9.pr.st.first.2.2.2.1, h9.pr.st.first.2.2.2.2.2.2.2.2 3⟩)
      have HF := hid (h9.ph p' hbr)
      clear h8 h9 q1 q2 HL HD g0 g1 hbr
      go_wp2_with fail
      refine region_tail 14 mx (by kernel_rfl) ?_
      rw [← hW9]
      clear hW9
      simp only [List.take_succ_cons, List.take_zero, List.drop_succ_cons, List.drop_zero]
      iterate 11 (quiet_step (fail))
      refine wpQuiet_step (fun K hK => ?_)
      go_simp
      refine ⟨_, HS.out _, hK _ ?_⟩
      clear hK K
      repeat (quiet_step (fail))
      refine wpQuiet_nil ?_
      go_wp2_with fail
      go_ret
      rw [RX.out]
      exact ⟨rfl, by show 1 ≤ l; omega, l2, HF.out⟩
  | true =>
    rw [show bN true = 1 from rfl]
    have R2 := hid (R2.out (by decide))
    have R3 := hid (R3.out (by decide))
    have R4 := hid (R4.out (by decide))
    clear R0 R1
    rw [show (((1 : Nat) : Int)) = (1 : Int) from rfl]
    have HB := hid (h3.bit (416 + s.ph) (by omega) (by omega))
    generalize hx2 : stepX x1 (416 + s.ph) = x2 at *
    clear hx2
    generalize bitX x1 (416 + s.ph) = t2 at *
    clear h3
    go_wp2_with fail
    refine region_tail 15 mx (by kernel_rfl) ?_
    rw [← hW3]
    clear hW3
    simp only [List.take_succ_cons, List.take_zero, List.drop_succ_cons, List.drop_zero]
    repeat (quiet_step (fail))
    refine wpQuiet_nil ?_
    go_wp2_with fail
    refine HB.out.mono ?_
    rintro e w4 ⟨rfl, h4⟩
    clear HB c0 c1 c3
    cases t2 with
    | false =>
      rw [show bN false = 0 from rfl]
      have RX := hid (R2.out (by decide))
      clear R2 R3 R4
      rw [show (((0 : Nat) : Int)) = (0 : Int) from rfl]
      obtain ⟨A0, AH⟩ := (show w4.cell? ⟨G.rb, 0, none⟩ = some (.pointer (some ⟨G.sb, 0, none⟩)) ∧ w4.cell? ⟨G.sb, 5, none⟩ = some (.int .u32 (s.r1 : Int)) from ⟨h4.cells.1, h4.pr.st.first.2.2.2.2.2.1⟩)
      obtain ⟨WA, hWA⟩ : ∃ WA, WA = w4.drew := ⟨_, rfl⟩
      have hA := h4.kept ((Keep.refl noBlock w4).drew)
      rw [← hWA] at hA
      have b0 := hA.cells.1
      obtain ⟨WB, u1, u2, u3⟩ := hA.pr.shift 1 3 (by omega)
      rw [show (((1 : Nat) : Int)) = (1 : Int) from rfl] at u1
      have hB := hA.turn u2 u3
      have b1 := hB.cells.1
      have b2 := hB.pr.st.first.2.2.2.2.2.2.2.2 4
      have b3 := hB.pr.st.first.2.2.2.2.1
      have hrk : s.r1 < 4294967296 := h4.pr.st.ok.r1
      have hC := hB.r0 s.r1 hrk
      obtain ⟨WD, hWD⟩ : ∃ WD, WD = (WB.setCell ⟨G.sb, 4, none⟩ (.int .u32 (s.r1 : Int))).drew := ⟨_, rfl⟩
      have hD := hC.kept ((Keep.refl noBlock _).drew)
      rw [← hWD] at hD
      obtain ⟨g0, g1, -⟩ := hD.cells
      have HL := hid (length_any G.sb G.db G.gb 13242 p _ x2 WD hD.pr (by omega) (by omega) hp)
      have HD := (show Hid (Rd G WD rv tv (takeR s 1) x2 win told) from hD)
      rw [lastM_eq] at RX
      have HS := hid (behindRepeat_any s.ph hph)
      have hbr : behR s.ph < 12 := by unfold behR; split <;> omega
      generalize behR s.ph = p' at *
      generalize lenM 13242 p x2 = LE at *
      obtain ⟨l, xl⟩ := LE
      dsimp only at HL RX
      clear h4 hA hB hC hD u2 u3 hrk
      go_wp2_with fail
      have hw1 : IntKind.i64.wrap 1 = 1 := wraps_i64 _ (by omega) (by omega)
      have hw2 : IntKind.i64.wrap 2 = 2 := wraps_i64 _ (by omega) (by omega)
      have hw3 : IntKind.i64.wrap 3 = 3 := wraps_i64 _ (by omega) (by omega)
      have hw4 : IntKind.i64.wrap 4 = 4 := wraps_i64 _ (by omega) (by omega)
      refine region_tail 16 mx (by kernel_rfl) ?_
      rw [← hWA]
      clear hWA A0 AH
      simp only [List.take_succ_cons, List.take_zero, List.drop_succ_cons, List.drop_zero]
      repeat (quiet_step (fail))
      refine wpQuiet_nil ?_
      refine wpList_copy_run _ rfl _ _ 206 rfl _ _ _ _ rfl rfl u1 ?_
      go_wp2_with fail
      refine region_tail 8 mx (by kernel_rfl) ?_
      rw [← hWD]
      clear hWD u1 b0 b1 b2 b3
      simp only [List.take_succ_cons, List.take_zero, List.drop_succ_cons, List.drop_zero]
      repeat (quiet_step (fail))
      refine wpQuiet_nil ?_
      go_wp2_with fail
      refine HL.out.mono ?_
      rintro e w8 ⟨rfl, l1, l2, q1, q2⟩
      have h8 := HD.out.turn q1 q2
      obtain ⟨W9, hW9⟩ : ∃ W9, W9 = w8.drew := ⟨_, rfl⟩
      have h9 := h8.kept ((Keep.refl noBlock w8).drew)
      rw [← hW9] at h9
      have m0 := h9.cells.1
      obtain ⟨m3, mf3⟩ := (show W9.cell? ⟨G.sb, 3, none⟩ = some (.int .u8 (s.ph : Int)) ∧ W9.frozen? ⟨G.sb, 3, none⟩ = false from ⟨h9.pr.st.first.2.2.2.1, h9.pr.st.first.2.2.2.2.2.2.2.2 3⟩)
      have HF := hid (h9.ph p' hbr)
      clear h8 h9 q1 q2 HL HD g0 g1 hbr
      go_wp2_with fail
      refine region_tail 14 mx (by kernel_rfl) ?_
      rw [← hW9]
      clear hW9
      simp only [List.take_succ_cons, List.take_zero, List.drop_succ_cons, List.drop_zero]
      iterate 11 (quiet_step (fail))
      refine wpQuiet_step (fun K hK => ?_)
      go_simp
      refine ⟨_, HS.out _, hK _ ?_⟩
      clear hK K
      repeat (quiet_step (fail))
      refine wpQuiet_nil ?_
      go_wp2_with fail
      go_ret
      rw [RX.out]
      exact ⟨rfl, by show 1 ≤ l; omega, l2, HF.out⟩
    | true =>
      rw [show bN true = 1 from rfl]
      have R3 := hid (R3.out (by decide))
      have R4 := hid (R4.out (by decide))
      clear R2
      rw [show (((1 : Nat) : Int)) = (1 : Int) from rfl]
      obtain ⟨W5, hW5⟩ : ∃ W5, W5 = w4.drew := ⟨_, rfl⟩
      have h5 := h4.kept ((Keep.refl noBlock w4).drew)
      rw [← hW5] at h5
      obtain ⟨c0, c1, -⟩ := h5.cells
      obtain ⟨-, -, -, c3, -⟩ := h5.pr.st.first
      have HB := hid (h5.bit (428 + s.ph) (by omega) (by omega))
      generalize hx3 : stepX x2 (428 + s.ph) = x3 at *
      clear hx3
      generalize bitX x2 (428 + s.ph) = t3 at *
      clear h4 h5
      go_wp2_with fail
      refine region_tail 15 mx (by kernel_rfl) ?_
      rw [← hW5]
      clear hW5
      simp only [List.take_succ_cons, List.take_zero, List.drop_succ_cons, List.drop_zero]
      repeat (quiet_step (fail))
      refine wpQuiet_nil ?_
      go_wp2_with fail
      refine HB.out.mono ?_
      rintro e w6 ⟨rfl, h6⟩
      clear HB c0 c1 c3
      cases t3 with
      | false =>
        rw [show bN false = 0 from rfl]
        have RX := hid (R3.out (by decide))
        clear R3 R4
        rw [show (((0 : Nat) : Int)) = (0 : Int) from rfl]
        obtain ⟨A0, AH⟩ := (show w6.cell? ⟨G.rb, 0, none⟩ = some (.pointer (some ⟨G.sb, 0, none⟩)) ∧ w6.cell? ⟨G.sb, 6, none⟩ = some (.int .u32 (s.r2 : Int)) from ⟨h6.cells.1, h6.pr.st.first.2.2.2.2.2.2.1⟩)
        obtain ⟨WA, hWA⟩ : ∃ WA, WA = w6.drew := ⟨_, rfl⟩
        have hA := h6.kept ((Keep.refl noBlock w6).drew)
        rw [← hWA] at hA
        have b0 := hA.cells.1
        obtain ⟨WB, u1, u2, u3⟩ := hA.pr.shift 2 3 (by omega)
        rw [show (((2 : Nat) : Int)) = (2 : Int) from rfl] at u1
        have hB := hA.turn u2 u3
        have b1 := hB.cells.1
        have b2 := hB.pr.st.first.2.2.2.2.2.2.2.2 4
        have b3 := hB.pr.st.first.2.2.2.2.1
        have hrk : s.r2 < 4294967296 := h6.pr.st.ok.r2
        have hC := hB.r0 s.r2 hrk
        obtain ⟨WD, hWD⟩ : ∃ WD, WD = (WB.setCell ⟨G.sb, 4, none⟩ (.int .u32 (s.r2 : Int))).drew := ⟨_, rfl⟩
        have hD := hC.kept ((Keep.refl noBlock _).drew)
        rw [← hWD] at hD
        obtain ⟨g0, g1, -⟩ := hD.cells
        have HL := hid (length_any G.sb G.db G.gb 13242 p _ x3 WD hD.pr (by omega) (by omega) hp)
        have HD := (show Hid (Rd G WD rv tv (takeR s 2) x3 win told) from hD)
        rw [lastM_eq] at RX
        have HS := hid (behindRepeat_any s.ph hph)
        have hbr : behR s.ph < 12 := by unfold behR; split <;> omega
        generalize behR s.ph = p' at *
        generalize lenM 13242 p x3 = LE at *
        obtain ⟨l, xl⟩ := LE
        dsimp only at HL RX
        clear h6 hA hB hC hD u2 u3 hrk
        go_wp2_with fail
        have hw1 : IntKind.i64.wrap 1 = 1 := wraps_i64 _ (by omega) (by omega)
        have hw2 : IntKind.i64.wrap 2 = 2 := wraps_i64 _ (by omega) (by omega)
        have hw3 : IntKind.i64.wrap 3 = 3 := wraps_i64 _ (by omega) (by omega)
        have hw4 : IntKind.i64.wrap 4 = 4 := wraps_i64 _ (by omega) (by omega)
        refine region_tail 16 mx (by kernel_rfl) ?_
        rw [← hWA]
        clear hWA A0 AH
        simp only [List.take_succ_cons, List.take_zero, List.drop_succ_cons, List.drop_zero]
        repeat (quiet_step (fail))
        refine wpQuiet_nil ?_
        refine wpList_copy_run _ rfl _ _ 206 rfl _ _ _ _ rfl rfl u1 ?_
        go_wp2_with fail
        refine region_tail 8 mx (by kernel_rfl) ?_
        rw [← hWD]
        clear hWD u1 b0 b1 b2 b3
        simp only [List.take_succ_cons, List.take_zero, List.drop_succ_cons, List.drop_zero]
        repeat (quiet_step (fail))
        refine wpQuiet_nil ?_
        go_wp2_with fail
        refine HL.out.mono ?_
        rintro e w8 ⟨rfl, l1, l2, q1, q2⟩
        have h8 := HD.out.turn q1 q2
        obtain ⟨W9, hW9⟩ : ∃ W9, W9 = w8.drew := ⟨_, rfl⟩
        have h9 := h8.kept ((Keep.refl noBlock w8).drew)
        rw [← hW9] at h9
        have m0 := h9.cells.1
        obtain ⟨m3, mf3⟩ := (show W9.cell? ⟨G.sb, 3, none⟩ = some (.int .u8 (s.ph : Int)) ∧ W9.frozen? ⟨G.sb, 3, none⟩ = false from ⟨h9.pr.st.first.2.2.2.1, h9.pr.st.first.2.2.2.2.2.2.2.2 3⟩)
        have HF := hid (h9.ph p' hbr)
        clear h8 h9 q1 q2 HL HD g0 g1 hbr
        go_wp2_with fail
        refine region_tail 14 mx (by kernel_rfl) ?_
        rw [← hW9]
        clear hW9
        simp only [List.take_succ_cons, List.take_zero, List.drop_succ_cons, List.drop_zero]
        iterate 11 (quiet_step (fail))
        refine wpQuiet_step (fun K hK => ?_)
        go_simp
        refine ⟨_, HS.out _, hK _ ?_⟩
        clear hK K
        repeat (quiet_step (fail))
        refine wpQuiet_nil ?_
        go_wp2_with fail
        go_ret
        rw [RX.out]
        exact ⟨rfl, by show 1 ≤ l; omega, l2, HF.out⟩
      | true =>
        rw [show bN true = 1 from rfl]
        have RX := hid (R4.out (by decide))
        clear R3 R4
        rw [show (((1 : Nat) : Int)) = (1 : Int) from rfl]
        obtain ⟨A0, AH⟩ := (show w6.cell? ⟨G.rb, 0, none⟩ = some (.pointer (some ⟨G.sb, 0, none⟩)) ∧ w6.cell? ⟨G.sb, 7, none⟩ = some (.int .u32 (s.r3 : Int)) from ⟨h6.cells.1, h6.pr.st.first.2.2.2.2.2.2.2.1⟩)
        obtain ⟨WA, hWA⟩ : ∃ WA, WA = w6.drew := ⟨_, rfl⟩
        have hA := h6.kept ((Keep.refl noBlock w6).drew)
        rw [← hWA] at hA
        have b0 := hA.cells.1
        obtain ⟨WB, u1, u2, u3⟩ := hA.pr.shift 3 3 (by omega)
        rw [show (((3 : Nat) : Int)) = (3 : Int) from rfl] at u1
        have hB := hA.turn u2 u3
        have b1 := hB.cells.1
        have b2 := hB.pr.st.first.2.2.2.2.2.2.2.2 4
        have b3 := hB.pr.st.first.2.2.2.2.1
        have hrk : s.r3 < 4294967296 := h6.pr.st.ok.r3
        have hC := hB.r0 s.r3 hrk
        obtain ⟨WD, hWD⟩ : ∃ WD, WD = (WB.setCell ⟨G.sb, 4, none⟩ (.int .u32 (s.r3 : Int))).drew := ⟨_, rfl⟩
        have hD := hC.kept ((Keep.refl noBlock _).drew)
        rw [← hWD] at hD
        obtain ⟨g0, g1, -⟩ := hD.cells
        have HL := hid (length_any G.sb G.db G.gb 13242 p _ x3 WD hD.pr (by omega) (by omega) hp)
        have HD := (show Hid (Rd G WD rv tv (takeR s 3) x3 win told) from hD)
        rw [lastM_eq] at RX
        have HS := hid (behindRepeat_any s.ph hph)
        have hbr : behR s.ph < 12 := by unfold behR; split <;> omega
        generalize behR s.ph = p' at *
        generalize lenM 13242 p x3 = LE at *
        obtain ⟨l, xl⟩ := LE
        dsimp only at HL RX
        clear h6 hA hB hC hD u2 u3 hrk
        go_wp2_with fail
        have hw1 : IntKind.i64.wrap 1 = 1 := wraps_i64 _ (by omega) (by omega)
        have hw2 : IntKind.i64.wrap 2 = 2 := wraps_i64 _ (by omega) (by omega)
        have hw3 : IntKind.i64.wrap 3 = 3 := wraps_i64 _ (by omega) (by omega)
        have hw4 : IntKind.i64.wrap 4 = 4 := wraps_i64 _ (by omega) (by omega)
        refine region_tail 16 mx (by kernel_rfl) ?_
        rw [← hWA]
        clear hWA A0 AH
        simp only [List.take_succ_cons, List.take_zero, List.drop_succ_cons, List.drop_zero]
        repeat (quiet_step (fail))
        refine wpQuiet_nil ?_
        refine wpList_copy_run _ rfl _ _ 206 rfl _ _ _ _ rfl rfl u1 ?_
        go_wp2_with fail
        refine region_tail 8 mx (by kernel_rfl) ?_
        rw [← hWD]
        clear hWD u1 b0 b1 b2 b3
        simp only [List.take_succ_cons, List.take_zero, List.drop_succ_cons, List.drop_zero]
        repeat (quiet_step (fail))
        refine wpQuiet_nil ?_
        go_wp2_with fail
        refine HL.out.mono ?_
        rintro e w8 ⟨rfl, l1, l2, q1, q2⟩
        have h8 := HD.out.turn q1 q2
        obtain ⟨W9, hW9⟩ : ∃ W9, W9 = w8.drew := ⟨_, rfl⟩
        have h9 := h8.kept ((Keep.refl noBlock w8).drew)
        rw [← hW9] at h9
        have m0 := h9.cells.1
        obtain ⟨m3, mf3⟩ := (show W9.cell? ⟨G.sb, 3, none⟩ = some (.int .u8 (s.ph : Int)) ∧ W9.frozen? ⟨G.sb, 3, none⟩ = false from ⟨h9.pr.st.first.2.2.2.1, h9.pr.st.first.2.2.2.2.2.2.2.2 3⟩)
        have HF := hid (h9.ph p' hbr)
        clear h8 h9 q1 q2 HL HD g0 g1 hbr
        go_wp2_with fail
        refine region_tail 14 mx (by kernel_rfl) ?_
        rw [← hW9]
        clear hW9
        simp only [List.take_succ_cons, List.take_zero, List.drop_succ_cons, List.drop_zero]
        iterate 11 (quiet_step (fail))
        refine wpQuiet_step (fun K hK => ?_)
        go_simp
        refine ⟨_, HS.out _, hK _ ?_⟩
        clear hK K
        repeat (quiet_step (fail))
        refine wpQuiet_nil ?_
        go_wp2_with fail
        go_ret
        rw [RX.out]
        exact ⟨rfl, by show 1 ≤ l; omega, l2, HF.out⟩

end Go.Proofs.YtnokemcogjoonaaGreatDoor

namespace Go.Proofs.YtnokemcogjoonaaGreatDoor
open Go.RowKit Go.Shelf
set_option linter.unusedVariables false

/-- How an operation ends. -/
def OpP (G : Rg) (w' : World) (rv tv : Value) (win told : List Nat) (r : (Se × Option (Bool × Nat)) × Cx) (e : Ending) : Prop := match r.1.2 with
  | none => e = .panicked malP ∧ Rd G w' rv tv r.1.1 r.2 win told
  | some (true, v) => e = .returned (.int .i64 0) ∧ ∃ rv' tv', Rd G w' rv' tv' r.1.1 r.2 (lastN G.K.size (win ++ [v])) (told ++ [v])
  | some (false, l) => e = .returned (.int .i64 (l : Int)) ∧ 1 ≤ l ∧ l ≤ 273 ∧ Rd G w' rv tv r.1.1 r.2 win told
theorem opM_lit (K : Ck) (s : Se) (win told : List Nat) (x : Cx) (h : bN (bitX x (8 + s.ph * 16 + lowN K told s.pb)) = 0) :
    opM K s win told x = (({ s with ph := behB s.ph }, some (true, (litM K s win told (stepX x (8 + s.ph * 16 + lowN K told s.pb))).1)), (litM K s win told (stepX x (8 + s.ph * 16 + lowN K told s.pb))).2) :=
  bnd_z _ _ _ _ h
theorem opM_match (K : Ck) (s : Se) (win told : List Nat) (x : Cx) (h : ¬ bN (bitX x (8 + s.ph * 16 + lowN K told s.pb)) = 0) (h2 : bN (bitX (stepX x (8 + s.ph * 16 + lowN K told s.pb)) (392 + s.ph)) = 0) :
    opM K s win told x = (((matchM s (lowN K told s.pb) (stepX (stepX x (8 + s.ph * 16 + lowN K told s.pb)) (392 + s.ph))).1.1, if (matchM s (lowN K told s.pb) (stepX (stepX x (8 + s.ph * 16 + lowN K told s.pb)) (392 + s.ph))).1.1.r0 = endMark then none else some (false, (matchM s (lowN K told s.pb) (stepX (stepX x (8 + s.ph * 16 + lowN K told s.pb)) (392 + s.ph))).1.2)), (matchM s (lowN K told s.pb) (stepX (stepX x (8 + s.ph * 16 + lowN K told s.pb)) (392 + s.ph))).2) :=
  (bnd_nz _ _ _ _ h).trans (bnd_z _ _ _ _ h2)
theorem opM_rep (K : Ck) (s : Se) (win told : List Nat) (x : Cx) (h : ¬ bN (bitX x (8 + s.ph * 16 + lowN K told s.pb)) = 0) (h2 : ¬ bN (bitX (stepX x (8 + s.ph * 16 + lowN K told s.pb)) (392 + s.ph)) = 0) :
    opM K s win told x = (((repM s (lowN K told s.pb) (stepX (stepX x (8 + s.ph * 16 + lowN K told s.pb)) (392 + s.ph))).1.1, some (false, (repM s (lowN K told s.pb) (stepX (stepX x (8 + s.ph * 16 + lowN K told s.pb)) (392 + s.ph))).1.2)), (repM s (lowN K told s.pb) (stepX (stepX x (8 + s.ph * 16 + lowN K told s.pb)) (392 + s.ph))).2) :=
  (bnd_nz _ _ _ _ h).trans (bnd_nz _ _ _ _ h2)

set_option maxRecDepth 20000 in
set_option maxHeartbeats 4000000 in
theorem operation_any (G : Rg) (rv tv : Value) (s : Se) (x : Cx) (win told : List Nat) (w : World) (h : Rd G w rv tv s x win told) (hl : told.length < G.K.n) :
    Calls Tryz.prog 54 #[.pointer (some ⟨G.rb, 0, none⟩)] w fun e w' => OpP G w' rv tv win told (opM G.K s win told x) e := by
  have hph := h.pr.st.ok.ph
  have hpb := h.pr.st.ok.pb
  have hphI : (s.ph : Int) < 12 := by omega
  have R0 := hid (opM_lit G.K s win told x)
  have R1 := hid (opM_match G.K s win told x)
  have R2 := hid (opM_rep G.K s win told x)
  have hlow : lowN G.K told s.pb < 16 := by
    have h1 : lowN G.K told s.pb < 2 ^ s.pb := Nat.mod_lt _ (Nat.two_pow_pos _)
    have h2 : 2 ^ s.pb ≤ 2 ^ 4 := Nat.pow_le_pow_right (by decide) hpb
    omega
  obtain ⟨c0, -⟩ := h.cells
  obtain ⟨-, -, c2, -⟩ := h.pr.st.first
  have HL := hid (lowest_any G rv tv s x win told s.pb hpb w h)
  have HF := hid h
  generalize opM G.K s win told x = RR at *
  generalize lowN G.K told s.pb = p at *
  have hpI : (p : Int) < 16 := by omega
  clear h
  go_enter Tryz.func54, Tryz.ntmps54
  go_wp2_with fail
  refine HL.out.mono ?_
  rintro e w1 ⟨rfl, n, hn⟩
  have h1 := HF.out.kept (keep_drewN w n)
  rw [← hn] at h1
  clear HF hn HL c0 c2
  obtain ⟨W2, hW2⟩ : ∃ W2, W2 = w1.drew := ⟨_, rfl⟩
  have h2 := h1.kept ((Keep.refl noBlock w1).drew)
  rw [← hW2] at h2
  obtain ⟨c0, c1, -⟩ := h2.cells
  obtain ⟨-, -, -, c3, -⟩ := h2.pr.st.first
  have HB := hid (h2.bit (8 + s.ph * 16 + p) (by omega) (by omega))
  generalize hx1 : stepX x (8 + s.ph * 16 + p) = x1 at *
  clear hx1
  generalize bitX x (8 + s.ph * 16 + p) = t1 at *
  clear h1 h2
  go_wp2_with fail
  refine region_tail 21 mx (by kernel_rfl) ?_
  rw [← hW2]
  clear hW2
  simp only [List.take_succ_cons, List.take_zero, List.drop_succ_cons, List.drop_zero]
  repeat (quiet_step (fail))
  refine wpQuiet_nil ?_
  go_wp2_with fail
  refine HB.out.mono ?_
  rintro e w3 ⟨rfl, h3⟩
  clear HB c0 c1 c3
  cases t1 with
  | false =>
    replace R0 := hid (R0.out (by decide))
    rw [show bN false = 0 from rfl, show (((0 : Nat) : Int)) = (0 : Int) from rfl]
    clear R1 R2
    have HLi := hid (literal_any G rv tv s x1 win told w3 h3)
    generalize litM G.K s win told x1 = LI at *
    obtain ⟨v, x2⟩ := LI
    dsimp only at HLi R0
    go_wp2_with fail
    refine HLi.out.mono ?_
    rintro e w4 ⟨rfl, v1, h4⟩
    have HP := hid (putByte_any G rv tv s x2 win told v v1 w4 h4 hl)
    clear h3 h4 HLi
    go_wp2_with fail
    refine HP.out.mono ?_
    rintro e w5 ⟨rfl, h5⟩
    have H5 := hid h5
    clear h5 HP
    go_wp2_with fail
    go_ret
    rw [R0.out]
    exact ⟨rfl, H5.out⟩
  | true =>
    replace R1 := hid (R1.out (by decide))
    replace R2 := hid (R2.out (by decide))
    rw [show bN true = 1 from rfl, show (((1 : Nat) : Int)) = (1 : Int) from rfl]
    clear R0
    obtain ⟨W4, hW4⟩ : ∃ W4, W4 = w3.drew := ⟨_, rfl⟩
    have h4 := h3.kept ((Keep.refl noBlock w3).drew)
    rw [← hW4] at h4
    obtain ⟨c0, c1, -⟩ := h4.cells
    obtain ⟨-, -, -, c3, -⟩ := h4.pr.st.first
    have HB := hid (h4.bit (392 + s.ph) (by omega) (by omega))
    generalize hx2 : stepX x1 (392 + s.ph) = x2 at *
    clear hx2
    generalize bitX x1 (392 + s.ph) = t2 at *
    clear h3 h4
    go_wp2_with fail
    refine region_tail 19 mx (by kernel_rfl) ?_
    rw [← hW4]
    clear hW4
    simp only [List.take_succ_cons, List.take_zero, List.drop_succ_cons, List.drop_zero]
    repeat (quiet_step (fail))
    refine wpQuiet_nil ?_
    go_wp2_with fail
    refine HB.out.mono ?_
    rintro e w5 ⟨rfl, h5⟩
    clear HB c0 c1 c3
    cases t2 with
    | false =>
      replace R1 := hid (R1.out (by decide))
      rw [show bN false = 0 from rfl, show (((0 : Nat) : Int)) = (0 : Int) from rfl]
      have HM := hid (match_any G rv tv s x2 win told p hlow w5 h5)
      clear R2 h5
      generalize matchM s p x2 = MM at *
      obtain ⟨⟨s', l⟩, x3⟩ := MM
      dsimp only at HM R1
      go_wp2_with fail
      refine HM.out.mono ?_
      rintro e w6 ⟨he, l1, l2, h6⟩
      have H6 := hid h6
      clear h6 HM
      unfold matchE at he
      dsimp only at he
      by_cases hd : s'.r0 = endMark
      · rw [if_pos hd] at he
        rw [if_pos hd] at R1
        subst he
        refine ⟨rfl, ?_⟩
        rw [R1.out]
        exact ⟨rfl, H6.out⟩
      · rw [if_neg hd] at he
        rw [if_neg hd] at R1
        subst he
        clear hd
        go_wp2_with fail
        go_ret
        rw [R1.out]
        exact ⟨rfl, by omega, l2, H6.out⟩
    | true =>
      replace R2 := hid (R2.out (by decide))
      rw [show bN true = 1 from rfl, show (((1 : Nat) : Int)) = (1 : Int) from rfl]
      have HM := hid (repeat_any G rv tv s x2 win told p hlow w5 h5)
      clear R1 h5
      generalize repM s p x2 = MM at *
      obtain ⟨⟨s', l⟩, x3⟩ := MM
      dsimp only at HM R2
      go_wp2_with fail
      refine HM.out.mono ?_
      rintro e w6 ⟨rfl, l1, l2, h6⟩
      have H6 := hid h6
      clear h6 HM
      go_wp2_with fail
      go_ret
      rw [R2.out]
      exact ⟨rfl, l1, l2, H6.out⟩

end Go.Proofs.YtnokemcogjoonaaGreatDoor

namespace Go.Proofs.YtnokemcogjoonaaGreatDoor
open Go.RowKit Go.Shelf
set_option linter.unusedVariables false

def taSem (x : Value) (a b : TypeId) (ok : Bool) : Sem Value := Instr.typeAssert x a b ok
theorem taSem_eq (x : Value) (a b : TypeId) (ok : Bool) : Instr.typeAssert x a b ok = taSem x a b ok := rfl
theorem taSem_run (w : World) : (taSem (.iface 26 (.int .i64 11)) 20 26 true).run Tryz.prog w = .ok (.tuple #[.int .i64 11, .bool true]) w := by
  unfold taSem
  kernel_rfl
section
attribute [local go_sem] taSem_eq
theorem errorOf_any (w : World) : Calls Tryz.prog 53 #[.iface 26 (.int .i64 11)] w fun e w' => e = .returned (.int .i64 11) ∧ w' = w := by
  have h := taSem_run
  go_enter Tryz.func53, Tryz.ntmps53
  go_wp2_with fail
  go_ret
  exact ⟨rfl, rfl⟩
end

theorem catch_idle (p q : Addr) (w : World) :
    CallsD Tryz.prog 52 #[.pointer (some p), .pointer (some q)] .returning w fun e u' w' => e = .returned (.tuple #[]) ∧ u' = .returning ∧ w' = w := by
  refine callsD_of_wpS Tryz.func52 rfl fun c₀ cs hu => ?_
  apply wpS_seq
  apply wpS_region
  simp [wpOpsS, go_sem, recoverD, hu, Tryz.ntmps52, Exit.thenS]
  apply wpS_seq
  apply wpS_region
  simp [wpOpsS, go_sem, Exit.thenS]
  refine wpS_cond (t := false) (by simp [Go.Act.eval, Array.replicate]) ?_
  simp only [Bool.false_eq_true, if_false]
  refine wpS_of_wp (wp_skip ?_)
  cases c₀
  simp_all [bodyPostS, results, Tryz.results52]
theorem catch_panicking (p q : Addr) (v1 v2 : Value) (older : List PanicEntry) (w : World) (c1 : w.cell? p = some v1) (c2 : w.cell? q = some v2) (f1 : w.frozen? p = false) (f2 : w.frozen? q = false) (hne : p.block ≠ q.block) :
    CallsD Tryz.prog 52 #[.pointer (some p), .pointer (some q)] (.panicking ({ v := .iface 26 (.int .i64 11), recovered := false } :: older)) w fun e u' w' =>
      e = .returned (.tuple #[]) ∧ u' = .panicking ({ v := .iface 26 (.int .i64 11), recovered := true } :: older) ∧ w' = (w.setCell p (.slice none 0 0)).setCell q (.int .i64 11) := by
  have HE := errorOf_any w
  refine callsD_of_wpS Tryz.func52 rfl fun c₀ cs hu => ?_
  apply wpS_seq
  apply wpS_region
  simp [wpOpsS, go_sem, recoverD, hu, Tryz.ntmps52, Exit.thenS]
  apply wpS_seq
  apply wpS_region
  simp [wpOpsS, go_sem, Exit.thenS]
  refine wpS_cond (t := true) (by simp [Go.Act.eval, Array.replicate]) ?_
  simp only [if_true]
  apply wpS_region
  simp [wpOpsS, go_sem]
  refine HE.mono ?_
  rintro e w' ⟨rfl, rfl⟩
  have c2' : (w'.setCell p (.slice none 0 0)).cell? q = some v2 := by rw [World.cell?_setCell_other _ _ _ _ (fun e => hne (by rw [e]))]; exact c2
  have f2' : (w'.setCell p (.slice none 0 0)).frozen? q = false := by rw [World.frozen?_setCell]; exact f2
  simp [c1, f1, c2', f2', go_sem, bodyPostS, results, Tryz.results52]

end Go.Proofs.YtnokemcogjoonaaGreatDoor

namespace Go.Proofs.YtnokemcogjoonaaGreatDoor
open Go.RowKit Go.Shelf
set_option linter.unusedVariables false

theorem runM_none {K : Ck} {k : Nat} {s s1 : Se} {win told : List Nat} {x x1 : Cx} (h : told.length < K.n) (ho : opM K s win told x = ((s1, none), x1)) : runM K (k + 1) s win told x = (none, x1) := by
  unfold runM
  rw [if_neg (by omega)]
  unfold bnd
  rw [ho]
  rfl
theorem runM_byte {K : Ck} {k v : Nat} {s s1 : Se} {win told : List Nat} {x x1 : Cx} (h : told.length < K.n) (ho : opM K s win told x = ((s1, some (true, v)), x1)) : runM K (k + 1) s win told x = runM K k s1 (lastN K.size (win ++ [v])) (told ++ [v]) x1 := by
  conv => lhs; unfold runM
  rw [if_neg (by omega)]
  unfold bnd
  rw [ho]
theorem runM_long {K : Ck} {k l : Nat} {s s1 : Se} {win told : List Nat} {x x1 : Cx} (h : told.length < K.n) (ho : opM K s win told x = ((s1, some (false, l)), x1)) (hl : K.n - told.length < l) : runM K (k + 1) s win told x = (none, x1) := by
  unfold runM
  rw [if_neg (by omega)]
  unfold bnd
  rw [ho]
  dsimp only
  rw [if_pos hl]
  rfl
theorem runM_far {K : Ck} {k l : Nat} {s s1 : Se} {win told : List Nat} {x x1 : Cx} (h : told.length < K.n) (ho : opM K s win told x = ((s1, some (false, l)), x1)) (hl : ¬ K.n - told.length < l) (hf : win.length < s1.r0 + 1) : runM K (k + 1) s win told x = (none, x1) := by
  unfold runM
  rw [if_neg (by omega)]
  unfold bnd
  rw [ho]
  dsimp only
  rw [if_neg hl, if_pos hf]
  rfl
theorem runM_copy {K : Ck} {k l : Nat} {s s1 : Se} {win told : List Nat} {x x1 : Cx} (h : told.length < K.n) (ho : opM K s win told x = ((s1, some (false, l)), x1)) (hl : ¬ K.n - told.length < l) (hf : ¬ win.length < s1.r0 + 1) :
    runM K (k + 1) s win told x = runM K k s1 (lastN K.size (win ++ outL win (s1.r0 + 1) l)) (told ++ outL win (s1.r0 + 1) l) x1 := by
  conv => lhs; unfold runM
  rw [if_neg (by omega)]
  unfold bnd
  rw [ho]
  dsimp only
  rw [if_neg hl, if_neg hf]

theorem Rd.far {G : Rg} {w w' : World} {rv tv : Value} {s : Se} {x : Cx} {win told : List Nat} {S : Nat → Prop} (h : Rd G w rv tv s x win told) (hk : Keep S w w') (hS : ∀ k, S k → G.w0.heap.size ≤ k ∧ k ≠ G.sb ∧ k ≠ G.db ∧ k ≠ G.gb ∧ k ≠ G.wb ∧ k ≠ G.rb ∧ rv.ownBlock ≠ some k ∧ tv.ownBlock ≠ some k) : Rd G w' rv tv s x win told :=
  ⟨hk.obj h.obj (fun q => (hS _ q).2.2.2.2.2.1 rfl), h.pr.keep hk (fun q => (hS _ q).2.1 rfl) (fun q => (hS _ q).2.2.1 rfl) (fun q => (hS _ q).2.2.2.1 rfl), h.wi.keep hk (fun q => (hS _ q).2.2.2.2.1 rfl) (fun g hg q => (hS _ q).2.2.2.2.2.2.1 hg), owns_kept h.own hk (fun g hg q => (hS _ q).2.2.2.2.2.2.2 hg), h.lt, h.gt, h.gr, h.tr, h.g1, h.g2, Nat.lt_of_lt_of_le h.gl hk.size, h.kp.trans hk (fun i hi q => absurd hi (by have := (hS i q).1; omega)), h.n4, h.n5, h.pl, h.tl, h.nn⟩
/-- The world ahead of a reader is another one. -/
def Rg.at (G : Rg) (w : World) : Rg := ⟨w, G.rb, G.sb, G.db, G.gb, G.wb, G.lb, G.rv0, G.tv0, G.K⟩
theorem Rd.rebase {G : Rg} {w w' : World} {s : Se} {x : Cx} {win told : List Nat} (h : Rd G w G.rv0 G.tv0 s x win told) (hk : Keep noBlock w w') : Rd (G.at w') w' G.rv0 G.tv0 s x win told :=
  let h' := h.kept hk
  ⟨h'.obj, h'.pr, h'.wi, h'.own, h'.lt, h'.gt, h'.gr, h'.tr, h'.g1, h'.g2, h'.gl, Keep.refl _ _, Near.refl _ _, Near.refl _ _, h'.pl, h'.tl, h'.nn⟩
theorem Rd.back {G : Rg} {w1 w : World} {rv tv : Value} {s : Se} {x : Cx} {win told : List Nat} (h : Rd (G.at w1) w rv tv s x win told) (hk : Keep noBlock G.w0 w1) : Rd G w rv tv s x win told := by
  have hk2 : Keep (RS G) w1 w := h.kp
  refine ⟨h.obj, h.pr, h.wi, h.own, h.lt, h.gt, h.gr, h.tr, h.g1, h.g2, h.gl, (hk.mono (fun _ _ h => h.elim)).trans hk2 (fun _ _ h => h), ?_, ?_, h.pl, h.tl, h.nn⟩
  · rcases h.n4 with e | ⟨k, e, hk'⟩
    · exact .inl e
    · exact .inr ⟨k, e, Nat.le_trans hk.size hk'⟩
  · rcases h.n5 with e | ⟨k, e, hk'⟩
    · exact .inl e
    · exact .inr ⟨k, e, Nat.le_trans hk.size hk'⟩
/-- How many bytes are told, as it lies. -/
def toldW (rb : Nat) (W : World) : Nat := match W.cell? ⟨rb, 3, none⟩ with | some (.slice _ n _) => n | _ => 0
theorem toldW_of {G : Rg} {w : World} {rv tv : Value} {s : Se} {x : Cx} {win told : List Nat} (h : Rd G w rv tv s x win told) : toldW G.rb w = told.length := by
  obtain ⟨ta, tc, rfl⟩ := h.tform
  unfold toldW
  rw [cell_of h.obj 3]
  rfl
theorem Rd.var {G : Rg} {w1 W : World} {rv tv : Value} {s s' : Se} {x x' : Cx} {win win' told told' : List Nat} (h1 : Rd (G.at w1) w1 G.rv0 G.tv0 s x win told) (h : Rd (G.at w1) W rv tv s' x' win' told') {vb : Nat} {cs : Array Value} {t : TypeId} (hv : w1.heap[vb]? = some (.cells cs t (0, 0)))
    (t1 : t ≠ 88) (t2 : t ≠ 114) (t3 : t ≠ 109) (t4 : t ≠ 160) (t5 : t ≠ 5) : W.heap[vb]? = some (.cells cs t (0, 0)) := by
  refine h.kp.obj hv ?_
  obtain ⟨R, o, hw, -⟩ := h1.wi
  obtain ⟨a, cap, off, hd, hB⟩ := h1.pr.de.obj
  rintro (e | e | e | e | e | e)
  · exact h1.pr.st.ne hv t1 e.symm
  · exact ne_of_type hv hw.obj t2 e
  · exact ne_of_type hv h1.obj t3 e
  · exact ne_of_type hv hd t4 e
  · exact h1.wi.ring_ne hv t5 e
  · exact owns_ne h1.own hv t5 e
/-- The two variables are set. -/
theorem Rd.vars {G : Rg} {w1 W W' : World} {rv tv : Value} {s : Se} {x : Cx} {win told : List Nat} (h : Rd (G.at w1) W rv tv s x win told) (hk : Keep noBlock G.w0 w1) (vb : Nat) {c1 c2 : Array Value} (hv1 : W.heap[vb]? = some (.cells c1 22 (0, 0))) (hv2 : W.heap[vb + 1]? = some (.cells c2 26 (0, 0))) (hb : G.w0.heap.size ≤ vb) (hg : G.gb < G.w0.heap.size)
    (hK : Keep (fun k => k = vb ∨ k = vb + 1) W W') : Rd G W' rv tv s x win told := by
  obtain ⟨R, o, hw, -⟩ := h.wi
  obtain ⟨a, cap, off, hd, hB⟩ := h.pr.de.obj
  refine (h.back hk).far hK ?_
  rintro k (rfl | rfl)
  · exact ⟨hb, fun e => h.pr.st.ne hv1 (by decide) e.symm, ne_of_type hv1 hd (by decide), by omega, ne_of_type hv1 hw.obj (by decide), ne_of_type hv1 h.obj (by decide), h.wi.ring_ne hv1 (by decide), owns_ne h.own hv1 (by decide)⟩
  · exact ⟨by omega, fun e => h.pr.st.ne hv2 (by decide) e.symm, ne_of_type hv2 hd (by decide), by omega, ne_of_type hv2 hw.obj (by decide), ne_of_type hv2 h.obj (by decide), h.wi.ring_ne hv2 (by decide), owns_ne h.own hv2 (by decide)⟩
theorem two_cells (W : World) (b : Nat) (A B a0 b0 : Value) (t1 t2 : TypeId) (h1 : W.heap[b]? = some (.cells #[a0] t1 (0, 0))) (h2 : W.heap[b + 1]? = some (.cells #[b0] t2 (0, 0))) :
    ((W.setCell ⟨b, 0, none⟩ A).setCell ⟨b + 1, 0, none⟩ B).cell? ⟨b, 0, none⟩ = some A ∧ ((W.setCell ⟨b, 0, none⟩ A).setCell ⟨b + 1, 0, none⟩ B).cell? ⟨b + 1, 0, none⟩ = some B := by
  have q1 := set_far (set_obj h1 0 A) (show b ≠ b + 1 by omega) 0 B
  have q2 := set_obj (set_far h2 (show b + 1 ≠ b by omega) 0 A) 0 B
  exact ⟨(cell_of q1 0).trans (by simp), (cell_of q2 0).trans (by simp)⟩
/-- How a chunk ends. -/
def ChP (G : Rg) (w' : World) (r : Option Out) (e : Ending) : Prop := match r with
  | none => e = .returned (.tuple #[.slice none 0 0, .int .i64 11]) ∧ ∃ rv' tv' s' x' win' told', Rd G w' rv' tv' s' x' win' told'
  | some o => ∃ rv' tv' d, e = .returned (.tuple #[tv', .int .i64 0]) ∧ Rd G w' rv' tv' o.s ⟨o.c, d⟩ o.win o.told

set_option maxRecDepth 20000 in
set_option maxHeartbeats 4000000 in
theorem chunk_any (G : Rg) (s : Se) (x : Cx) (win : List Nat) (w : World) (hG : G.w0 = w) (h : Rd G w G.rv0 G.tv0 s x win []) :
    Calls Tryz.prog 30 #[.pointer (some ⟨G.rb, 0, none⟩), .int .i64 (G.K.n : Int)] w fun e w' => ChP G w' (chunkR (runM G.K G.K.n s win [] x)) e := by
  have hmf : ∀ (fn : Fn) (first cap : Array Value) (w : World), (Instr.makeFunc fn first cap).run Tryz.prog w = .ok (.func fn first cap) w := fun _ _ _ _ => rfl
  have hk1 : Keep noBlock w ((w.alloc (.cells #[.slice none 0 0] 22)).alloc (.cells #[.int .i64 0] 26)) := ((Keep.refl noBlock w).alloc _).alloc _
  have h1 := h.rebase hk1
  generalize hR : runM G.K G.K.n s win [] x = R at *
  have HR := hid hR
  have hnn := h.nn
  clear hR
  go_enter_defers Tryz.func30, Tryz.ntmps30
  go_wp2_with fail
  go_step3
  go_wp2_with fail
  go_step3
  go_wp2_with fail
  obtain ⟨W1, hW1⟩ : ∃ W1, W1 = (w.alloc (.cells #[.slice none 0 0] 22)).alloc (.cells #[.int .i64 0] 26) := ⟨_, rfl⟩
  rw [← hW1] at hk1 h1
  rw [← hW1]
  have v1 : W1.heap[w.heap.size]? = some (.cells #[.slice none 0 0] 22 (0, 0)) := by rw [hW1]; exact alloc_far (alloc_new w _) _
  have v2 : W1.heap[w.heap.size + 1]? = some (.cells #[.int .i64 0] 26 (0, 0)) := by
    have := alloc_new (w.alloc (.cells #[.slice none 0 0] 22)) (.cells #[.int .i64 0] 26)
    rw [World.size_alloc] at this
    rw [hW1]; exact this
  have HV := (show Hid (W1.heap[w.heap.size]? = some (.cells #[.slice none 0 0] 22 (0, 0)) ∧ W1.heap[w.heap.size + 1]? = some (.cells #[.int .i64 0] 26 (0, 0)) ∧ Keep noBlock w W1 ∧ G.gb < w.heap.size) from ⟨v1, v2, hk1, h.gl⟩)
  have H1 := hid h1
  clear hW1 v1 v2 hk1 h1 h
  go_loopw [6] (fun i wr => Hid (∃ k s' x' win' told' rv' tv', runM G.K k s' win' told' x' = R ∧ G.K.n ≤ told'.length + k ∧ Rd (G.at W1) wr rv' tv' s' x' win' told')) (fun _ wr => G.K.n - toldW G.rb wr)
  case atStart => exact (show ∃ k s' x' win' told' rv' tv', _ from ⟨G.K.n, s, x, win, [], G.rv0, G.tv0, HR.out, by simp, H1.out⟩)
  case round =>
    obtain ⟨k, s', x', win', told', rv', tv', b1, b2, h2⟩ := hrel.out
    have HB := hid hrel.out
    clear hrel
    obtain ⟨va1, va2, va3, va4⟩ := HV.out
    have e1 := H1.out.var h2 va1 (by decide) (by decide) (by decide) (by decide) (by decide)
    have e2 := H1.out.var h2 va2 (by decide) (by decide) (by decide) (by decide) (by decide)
    have y1 := cell_of e1 0
    have y2 := cell_of e2 0
    have y3 := frozen_of e1 0
    have y4 := frozen_of e2 0
    have HW2 := hid h2
    have htw : toldW G.rb wr = told'.length := toldW_of (G := G.at W1) h2
    obtain ⟨ta, tc, rfl⟩ := h2.tform
    have c3 : wr.cell? ⟨G.rb, 3, none⟩ = some (.slice ta told'.length tc) := h2.cells.2.2.2.1
    by_cases hlt : told'.length < G.K.n
    · have hltI : (told'.length : Int) < (G.K.n : Int) := by omega
      have HO := hid (operation_any (G.at W1) rv' _ s' x' win' told' wr h2 hlt)
      have hop := (show opM G.K s' win' told' x' = opM (G.at W1).K s' win' told' x' from rfl)
      generalize opM (G.at W1).K s' win' told' x' = OP at *
      obtain ⟨⟨s1, q⟩, x1⟩ := OP
      obtain ⟨k, rfl⟩ : ∃ k', k = k' + 1 := ⟨k - 1, by omega⟩
      have HRN := hid (fun hq => runM_none (k := k) (s1 := s1) (x1 := x1) hlt (hop.trans hq))
      have HRB := hid (fun v hq => runM_byte (k := k) (s1 := s1) (x1 := x1) (v := v) hlt (hop.trans hq))
      have HRL := hid (fun l hq => runM_long (k := k) (s1 := s1) (x1 := x1) (l := l) hlt (hop.trans hq))
      have HRF := hid (fun l hq => runM_far (k := k) (s1 := s1) (x1 := x1) (l := l) hlt (hop.trans hq))
      have HRC := hid (fun l hq => runM_copy (k := k) (s1 := s1) (x1 := x1) (l := l) hlt (hop.trans hq))
      rw [b1] at HRN HRB HRL HRF HRC
      have HB2 := (show Hid (G.K.n ≤ told'.length + (k + 1) ∧ toldW G.rb wr = told'.length) from ⟨b2, htw⟩)
      clear b1 b2 h2 va1 va2 va3 va4 e1 e2 y1 y2 y3 y4 HB htw hop HW2
      match q with
      | none =>
        go_wp2_with fail
        refine HO.out.mono ?_
        rintro e w3 ⟨rfl, h3⟩
        have HRR := hid (show chunkR R = none from by rw [HRN.out (by first | rfl | trivial)]; rfl)
        obtain ⟨va1, va2, va3, va4⟩ := HV.out
        have e1 := H1.out.var h3 va1 (by decide) (by decide) (by decide) (by decide) (by decide)
        have e2 := H1.out.var h3 va2 (by decide) (by decide) (by decide) (by decide) (by decide)
        have y1 : w3.cell? ⟨w.heap.size, 0, none⟩ = some (.slice none 0 0) := cell_of e1 0
        have y2 : w3.cell? ⟨w.heap.size + 1, 0, none⟩ = some (.int .i64 0) := cell_of e2 0
        have y3 := frozen_of e1 0
        have y4 := frozen_of e2 0
        have HX := hid (h3.vars (G := G) (W' := (w3.setCell ⟨w.heap.size, 0, none⟩ (.slice none 0 0)).setCell ⟨w.heap.size + 1, 0, none⟩ (.int .i64 11)) (by rw [hG]; exact va3) w.heap.size e1 e2 (by rw [hG]; omega) (by rw [hG]; exact va4) (((Keep.refl (fun k => k = w.heap.size ∨ k = w.heap.size + 1) w3).setCell (p := ⟨w.heap.size, 0, none⟩) (fun _ => .inl rfl) _).setCell (p := ⟨w.heap.size + 1, 0, none⟩) (fun _ => .inr rfl) _))
        obtain ⟨z1, z2⟩ := two_cells w3 w.heap.size (.slice none 0 0) (.int .i64 11) _ _ 22 26 e1 e2
        clear va1 va2 va3 va4 e1 e2
        refine leaves_cons (f := 52) (args := #[.pointer (some ⟨w.heap.size, 0, none⟩), .pointer (some ⟨w.heap.size + 1, 0, none⟩)]) (by simp) (by simp [go_sem]) ?_
        refine (catch_panicking ⟨w.heap.size, 0, none⟩ ⟨w.heap.size + 1, 0, none⟩ _ _ [] w3 y1 y2 y3 y4 (by simp)).mono ?_
        rintro e u' w'' ⟨rfl, rfl, rfl⟩
        generalize (w3.setCell ⟨w.heap.size, 0, none⟩ (.slice none 0 0)).setCell ⟨w.heap.size + 1, 0, none⟩ (.int .i64 11) = W9 at *
        simp [Leaves, settle, results, Tryz.results30, go_sem, z1, z2]
        rw [HRR.out]
        exact ⟨rfl, _, _, _, _, _, _, HX.out⟩
      | some (true, v) =>
        go_wp2_with fail
        refine HO.out.mono ?_
        rintro e w3 ⟨rfl, rv2, tv2, h3⟩
        have HRX := hid (HRB.out v rfl)
        obtain ⟨ta2, tc2, rfl⟩ := h3.tform
        have c4 : w3.cell? ⟨G.rb, 3, none⟩ = some (.slice ta2 (told' ++ [v]).length tc2) := h3.cells.2.2.2.1
        have ht2 : toldW G.rb w3 = (told' ++ [v]).length := toldW_of (G := G.at W1) h3
        have hl2 : (told' ++ [v]).length = told'.length + 1 := by simp
        rw [hl2] at c4
        have H3 := hid h3
        have HT2 := hid (show toldW G.rb w3 = told'.length + 1 from by rw [ht2, hl2])
        have hI3 : ¬ ((G.K.n : Int) - ((told'.length : Int) + 1) < 0) := by omega
        clear h3 ht2 hl2 HRN HRB HRL HRF HRC HO
        go_wp2_with fail
        go_roundw
        case rel => exact (show ∃ k s' x' win' told' rv' tv', _ from ⟨k, s1, x1, _, _, rv2, _, HRX.out.symm, by have := HB2.out.1; rw [List.length_append, List.length_singleton]; omega, H3.out⟩)
        case measure => rw [HT2.out, HB2.out.2]; omega
      | some (false, l) =>
        go_wp2_with fail
        refine HO.out.mono ?_
        rintro e w3 ⟨rfl, l1, l2, h3⟩
        have c4 : w3.cell? ⟨G.rb, 3, none⟩ = some (.slice ta told'.length tc) := h3.cells.2.2.2.1
        have HRL := hid (HRL.out l rfl)
        have HRF := hid (HRF.out l rfl)
        have HRC := hid (HRC.out l rfl)
        clear HRN HRB HO
        by_cases hl : G.K.n - told'.length < l
        · have hlI : (G.K.n : Int) - (told'.length : Int) < (l : Int) := by omega
          have HRR := (show Hid (chunkR R = none) from by rw [HRL.out hl]; rfl)
          obtain ⟨va1, va2, va3, va4⟩ := HV.out
          have e1 := H1.out.var h3 va1 (by decide) (by decide) (by decide) (by decide) (by decide)
          have e2 := H1.out.var h3 va2 (by decide) (by decide) (by decide) (by decide) (by decide)
          have y1 : w3.cell? ⟨w.heap.size, 0, none⟩ = some (.slice none 0 0) := cell_of e1 0
          have y2 : w3.cell? ⟨w.heap.size + 1, 0, none⟩ = some (.int .i64 0) := cell_of e2 0
          have y3 := frozen_of e1 0
          have y4 := frozen_of e2 0
          have HX := hid (h3.vars (G := G) (W' := (w3.setCell ⟨w.heap.size, 0, none⟩ (.slice none 0 0)).setCell ⟨w.heap.size + 1, 0, none⟩ (.int .i64 11)) (by rw [hG]; exact va3) w.heap.size e1 e2 (by rw [hG]; omega) (by rw [hG]; exact va4) (((Keep.refl (fun k => k = w.heap.size ∨ k = w.heap.size + 1) w3).setCell (p := ⟨w.heap.size, 0, none⟩) (fun _ => .inl rfl) _).setCell (p := ⟨w.heap.size + 1, 0, none⟩) (fun _ => .inr rfl) _))
          obtain ⟨z1, z2⟩ := two_cells w3 w.heap.size (.slice none 0 0) (.int .i64 11) _ _ 22 26 e1 e2
          clear va1 va2 va3 va4 e1 e2
          clear HRL HRF HRC hl
          go_wp2_with fail
          generalize (w3.setCell ⟨w.heap.size, 0, none⟩ (.slice none 0 0)).setCell ⟨w.heap.size + 1, 0, none⟩ (.int .i64 11) = W9 at *
          refine leaves_cons (f := 52) (args := #[.pointer (some ⟨w.heap.size, 0, none⟩), .pointer (some ⟨w.heap.size + 1, 0, none⟩)]) (by simp) (by simp [go_sem]) ?_
          refine (catch_idle _ _ _).mono ?_
          rintro e u' w'' ⟨rfl, rfl, rfl⟩
          simp [Leaves, settle, results, Tryz.results30, go_sem, z1, z2]
          rw [HRR.out]
          exact ⟨rfl, _, _, _, _, _, _, HX.out⟩
        · have hlI : ¬ (G.K.n : Int) - (told'.length : Int) < (l : Int) := by omega
          have hl0 : (0 : Int) < (l : Int) := by omega
          have HRF := hid (HRF.out hl)
          have HRC := hid (HRC.out hl)
          by_cases hf : win'.length < s1.r0 + 1
          · have HRR := (show Hid (chunkR R = none) from by rw [HRF.out hf]; rfl)
            have HPC := hid (putCopy_far (G.at W1) rv' _ s1 x1 win' told' l l2 w3 h3 hf)
            clear HRL HRF HRC hl hf h3
            go_wp2_with fail
            refine HPC.out.mono ?_
            rintro e w4 ⟨rfl, h4⟩
            obtain ⟨va1, va2, va3, va4⟩ := HV.out
            have e1 := H1.out.var h4 va1 (by decide) (by decide) (by decide) (by decide) (by decide)
            have e2 := H1.out.var h4 va2 (by decide) (by decide) (by decide) (by decide) (by decide)
            have y1 : w4.cell? ⟨w.heap.size, 0, none⟩ = some (.slice none 0 0) := cell_of e1 0
            have y2 : w4.cell? ⟨w.heap.size + 1, 0, none⟩ = some (.int .i64 0) := cell_of e2 0
            have y3 := frozen_of e1 0
            have y4 := frozen_of e2 0
            have HX := hid (h4.vars (G := G) (W' := (w4.setCell ⟨w.heap.size, 0, none⟩ (.slice none 0 0)).setCell ⟨w.heap.size + 1, 0, none⟩ (.int .i64 11)) (by rw [hG]; exact va3) w.heap.size e1 e2 (by rw [hG]; omega) (by rw [hG]; exact va4) (((Keep.refl (fun k => k = w.heap.size ∨ k = w.heap.size + 1) w4).setCell (p := ⟨w.heap.size, 0, none⟩) (fun _ => .inl rfl) _).setCell (p := ⟨w.heap.size + 1, 0, none⟩) (fun _ => .inr rfl) _))
            obtain ⟨z1, z2⟩ := two_cells w4 w.heap.size (.slice none 0 0) (.int .i64 11) _ _ 22 26 e1 e2
            clear va1 va2 va3 va4 e1 e2
            refine leaves_cons (f := 52) (args := #[.pointer (some ⟨w.heap.size, 0, none⟩), .pointer (some ⟨w.heap.size + 1, 0, none⟩)]) (by simp) (by simp [go_sem]) ?_
            refine (catch_panicking ⟨w.heap.size, 0, none⟩ ⟨w.heap.size + 1, 0, none⟩ _ _ [] w4 y1 y2 y3 y4 (by simp)).mono ?_
            rintro e u' w'' ⟨rfl, rfl, rfl⟩
            generalize (w4.setCell ⟨w.heap.size, 0, none⟩ (.slice none 0 0)).setCell ⟨w.heap.size + 1, 0, none⟩ (.int .i64 11) = W9 at *
            simp [Leaves, settle, results, Tryz.results30, go_sem, z1, z2]
            rw [HRR.out]
            exact ⟨rfl, _, _, _, _, _, _, HX.out⟩
          · have HRX := hid (HRC.out hf)
            have HPC := hid (putCopy_ok (G.at W1) rv' _ s1 x1 win' told' l l2 w3 h3 (by omega) (show told'.length + l ≤ G.K.n by omega))
            clear HRL HRF HRC hl hf h3
            go_wp2_with fail
            refine HPC.out.mono ?_
            rintro e w4 ⟨rfl, rv2, tv2, h4⟩
            have ht2 : toldW G.rb w4 = (told' ++ outL win' (s1.r0 + 1) l).length := toldW_of (G := G.at W1) h4
            rw [List.length_append, outL_length] at ht2
            have H4 := hid h4
            have HT2 := hid ht2
            clear h4 ht2 HPC
            go_wp2_with fail
            go_roundw
            case rel => exact (show ∃ k s' x' win' told' rv' tv', _ from ⟨k, s1, x1, _, _, rv2, tv2, HRX.out.symm, by have := HB2.out.1; rw [List.length_append, outL_length]; omega, H4.out⟩)
            case measure => rw [HT2.out, HB2.out.2]; omega
    · have hltI : ¬ (told'.length : Int) < (G.K.n : Int) := by omega
      have HE := hid (ended_any (G.at W1) rv' _ s' x' win' told' wr h2)
      have hRd : R = (some (s', win', told'), x') := by
        rw [← b1, runM_done G.K k s' win' told' (by omega)]; rfl
      have HRR := (show Hid (chunkR R = if okEnd x'.d then some ⟨s', x'.c, win', told'⟩ else none) from by rw [hRd]; rfl)
      clear b1 hRd h2 va1 va2 va3 va4 HB htw
      generalize okEnd x'.d = ok at *
      go_wp2_with fail
      refine HE.out.mono ?_
      rintro e w3 ⟨rfl, h3⟩
      obtain ⟨va1, va2, va3, va4⟩ := HV.out
      have e1 := H1.out.var h3 va1 (by decide) (by decide) (by decide) (by decide) (by decide)
      have e2 := H1.out.var h3 va2 (by decide) (by decide) (by decide) (by decide) (by decide)
      have y1 : w3.cell? ⟨w.heap.size, 0, none⟩ = some (.slice none 0 0) := cell_of e1 0
      have y2 : w3.cell? ⟨w.heap.size + 1, 0, none⟩ = some (.int .i64 0) := cell_of e2 0
      have y3 := frozen_of e1 0
      have y4 := frozen_of e2 0
      have c3 : w3.cell? ⟨G.rb, 3, none⟩ = some (.slice ta told'.length tc) := h3.cells.2.2.2.1
      have HX := hid (fun (a b : Value) => h3.vars (G := G) (W' := (w3.setCell ⟨w.heap.size, 0, none⟩ a).setCell ⟨w.heap.size + 1, 0, none⟩ b) (by rw [hG]; exact va3) w.heap.size e1 e2 (by rw [hG]; omega) (by rw [hG]; exact va4) (((Keep.refl (fun k => k = w.heap.size ∨ k = w.heap.size + 1) w3).setCell (p := ⟨w.heap.size, 0, none⟩) (fun _ => .inl rfl) a).setCell (p := ⟨w.heap.size + 1, 0, none⟩) (fun _ => .inr rfl) b))
      have HY := hid (fun (a b : Value) => two_cells w3 w.heap.size a b _ _ 22 26 e1 e2)
      clear h3 va1 va2 va3 va4 e1 e2 HE HW2
      cases ok with
      | true =>
        have HX := hid (HX.out (.slice ta told'.length tc) (.int .i64 0))
        obtain ⟨z1, z2⟩ := HY.out (.slice ta told'.length tc) (.int .i64 0)
        go_wp2_with fail
        generalize (w3.setCell ⟨w.heap.size, 0, none⟩ (.slice ta told'.length tc)).setCell ⟨w.heap.size + 1, 0, none⟩ (.int .i64 0) = W4 at *
        refine leaves_cons (f := 52) (args := #[.pointer (some ⟨w.heap.size, 0, none⟩), .pointer (some ⟨w.heap.size + 1, 0, none⟩)]) (by simp) (by simp [go_sem]) ?_
        refine (catch_idle _ _ _).mono ?_
        rintro e u' w'' ⟨rfl, rfl, rfl⟩
        simp [Leaves, settle, results, Tryz.results30, go_sem, z1, z2]
        rw [HRR.out]
        exact ⟨_, _, _, rfl, HX.out⟩
      | false =>
        have HX := hid (HX.out (.slice none 0 0) (.int .i64 11))
        obtain ⟨z1, z2⟩ := HY.out (.slice none 0 0) (.int .i64 11)
        go_wp2_with fail
        generalize (w3.setCell ⟨w.heap.size, 0, none⟩ (.slice none 0 0)).setCell ⟨w.heap.size + 1, 0, none⟩ (.int .i64 11) = W4 at *
        refine leaves_cons (f := 52) (args := #[.pointer (some ⟨w.heap.size, 0, none⟩), .pointer (some ⟨w.heap.size + 1, 0, none⟩)]) (by simp) (by simp [go_sem]) ?_
        refine (catch_idle _ _ _).mono ?_
        rintro e u' w'' ⟨rfl, rfl, rfl⟩
        simp [Leaves, settle, results, Tryz.results30, go_sem, z1, z2]
        rw [HRR.out]
        exact ⟨rfl, _, _, _, _, _, _, HX.out⟩

end Go.Proofs.YtnokemcogjoonaaGreatDoor
