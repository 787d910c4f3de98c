/-
  A repeat: which of the last distances is taken again, and how many bytes are.
-/
import Derived.Test.YtinhlkioeadfdaaDoorMch
namespace Go.Proofs.YtinhlkioeadfdaaDoor
open Go.RowKit Go.Shelf
set_option linter.unusedVariables false

theorem repM_short (s : Se) (p : Nat) (x : Cx) (h1 : bN (bitX x (404 + s.ph)) = 0) (h2 : bN (bitX (stepX x (404 + s.ph)) (200 + s.ph * 16 + p)) = 0) :
    repM s p x = (({ s with ph := behS s.ph }, 1), stepX (stepX x (404 + s.ph)) (200 + s.ph * 16 + p)) :=
  (bnd_z _ _ _ _ h1).trans (bnd_z _ _ _ _ h2)
theorem repM_0 (s : Se) (p : Nat) (x : Cx) (h1 : bN (bitX x (404 + s.ph)) = 0) (h2 : ¬ bN (bitX (stepX x (404 + s.ph)) (200 + s.ph * 16 + p)) = 0) :
    repM s p x = lastM s p 0 (stepX (stepX x (404 + s.ph)) (200 + s.ph * 16 + p)) :=
  (bnd_z _ _ _ _ h1).trans (bnd_nz _ _ _ _ h2)
theorem repM_1 (s : Se) (p : Nat) (x : Cx) (h1 : ¬ bN (bitX x (404 + s.ph)) = 0) (h2 : bN (bitX (stepX x (404 + s.ph)) (416 + s.ph)) = 0) :
    repM s p x = lastM s p 1 (stepX (stepX x (404 + s.ph)) (416 + s.ph)) :=
  (bnd_nz _ _ _ _ h1).trans (bnd_z _ _ _ _ h2)
theorem repM_2 (s : Se) (p : Nat) (x : Cx) (h1 : ¬ bN (bitX x (404 + s.ph)) = 0) (h2 : ¬ bN (bitX (stepX x (404 + s.ph)) (416 + s.ph)) = 0) (h3 : bN (bitX (stepX (stepX x (404 + s.ph)) (416 + s.ph)) (428 + s.ph)) = 0) :
    repM s p x = lastM s p 2 (stepX (stepX (stepX x (404 + s.ph)) (416 + s.ph)) (428 + s.ph)) :=
  (bnd_nz _ _ _ _ h1).trans ((bnd_nz _ _ _ _ h2).trans (bnd_z _ _ _ _ h3))
theorem repM_3 (s : Se) (p : Nat) (x : Cx) (h1 : ¬ bN (bitX x (404 + s.ph)) = 0) (h2 : ¬ bN (bitX (stepX x (404 + s.ph)) (416 + s.ph)) = 0) (h3 : ¬ bN (bitX (stepX (stepX x (404 + s.ph)) (416 + s.ph)) (428 + s.ph)) = 0) :
    repM s p x = lastM s p 3 (stepX (stepX (stepX x (404 + s.ph)) (416 + s.ph)) (428 + s.ph)) :=
  (bnd_nz _ _ _ _ h1).trans ((bnd_nz _ _ _ _ h2).trans (bnd_nz _ _ _ _ h3))
theorem lastM_eq (s : Se) (p k : Nat) (x : Cx) : lastM s p k x = (({ takeR s k with ph := behR s.ph }, (lenM 13242 p x).1), (lenM 13242 p x).2) := rfl
/-- A bit by one of a reader's chances. -/
theorem Rd.bit {G : Rg} {w : World} {rv tv : Value} {s : Se} {x : Cx} {win told : List Nat} (h : Rd G w rv tv s x win told) (i : Nat) (h8 : 8 ≤ i) (hi : i < 14143) :
    Calls Tryd.prog 34 #[.pointer (some ⟨G.db, 0, none⟩), .pointer (some ⟨G.sb, i, none⟩)] w fun e w' => e = .returned (.int .i64 ((bN (bitX x i) : Nat) : Int)) ∧ Rd G w' rv tv s (stepX x i) win told := by
  refine (bit_any G.sb G.db G.gb i s x w h.pr h8 hi).mono ?_
  rintro e w' ⟨rfl, h1, h2⟩
  exact ⟨rfl, h.turn h1 h2⟩

set_option maxRecDepth 20000 in
set_option maxHeartbeats 8000000 in
theorem repeat_any (G : Rg) (rv tv : Value) (s : Se) (x : Cx) (win told : List Nat) (p : Nat) (hp : p < 16) (w : World) (h : Rd G w rv tv s x win told) :
    Calls Tryd.prog 38 #[.pointer (some ⟨G.rb, 0, none⟩), .int .i64 (p : Int)] w fun e w' => e = .returned (.int .i64 ((repM s p x).1.2 : Int)) ∧ 1 ≤ (repM s p x).1.2 ∧ (repM s p x).1.2 ≤ 273 ∧ Rd G w' rv tv (repM s p x).1.1 (repM s p x).2 win told := by
  have hph := h.pr.st.ok.ph
  have hphI : (s.ph : Int) < 12 := by omega
  have hpI : (p : Int) < 16 := by omega
  have R0 := hid (repM_short s p x)
  have R1 := hid (repM_0 s p x)
  have R2 := hid (repM_1 s p x)
  have R3 := hid (repM_2 s p x)
  have R4 := hid (repM_3 s p x)
  obtain ⟨W1, hW1⟩ : ∃ W1, W1 = w.drew := ⟨_, rfl⟩
  have h1 := h.kept ((Keep.refl noBlock w).drew)
  rw [← hW1] at h1
  obtain ⟨a0, -⟩ := h.cells
  obtain ⟨c0, c1, -⟩ := h1.cells
  obtain ⟨-, -, -, c3, -⟩ := h1.pr.st.first
  have HB := hid (h1.bit (404 + s.ph) (by omega) (by omega))
  generalize repM s p x = RR at *
  generalize hx1 : stepX x (404 + s.ph) = x1 at *
  clear hx1
  generalize bitX x (404 + s.ph) = t1 at *
  clear h h1
  go_enter Tryd.func38, Tryd.ntmps38
  go_wp2_with fail
  refine region_tail 15 mx (by kernel_rfl) ?_
  rw [← hW1]
  clear hW1 a0
  simp only [List.take_succ_cons, List.take_zero, List.drop_succ_cons, List.drop_zero]
  repeat (quiet_step (fail))
  refine wpQuiet_nil ?_
  go_wp2_with fail
  refine HB.out.mono ?_
  rintro e w2 ⟨rfl, h2⟩
  clear HB c0 c1 c3
  obtain ⟨W3, hW3⟩ : ∃ W3, W3 = w2.drew := ⟨_, rfl⟩
  have h3 := h2.kept ((Keep.refl noBlock w2).drew)
  rw [← hW3] at h3
  obtain ⟨c0, c1, -⟩ := h3.cells
  obtain ⟨-, -, -, c3, -⟩ := h3.pr.st.first
  clear h2
  cases t1 with
  | false =>
    rw [show bN false = 0 from rfl]
    have R0 := hid (R0.out (by decide))
    have R1 := hid (R1.out (by decide))
    clear R2 R3 R4
    rw [show (((0 : Nat) : Int)) = (0 : Int) from rfl]
    have HB := hid (h3.bit (200 + s.ph * 16 + p) (by omega) (by omega))
    generalize hx2 : stepX x1 (200 + s.ph * 16 + p) = x2 at *
    clear hx2
    generalize bitX x1 (200 + s.ph * 16 + p) = t2 at *
    clear h3
    go_wp2_with fail
    refine region_tail 17 mx (by kernel_rfl) ?_
    rw [← hW3]
    clear hW3
    simp only [List.take_succ_cons, List.take_zero, List.drop_succ_cons, List.drop_zero]
    repeat (quiet_step (fail))
    refine wpQuiet_nil ?_
    go_wp2_with fail
    refine HB.out.mono ?_
    rintro e w4 ⟨rfl, h4⟩
    clear HB c0 c1 c3
    cases t2 with
    | false =>
      rw [show bN false = 0 from rfl]
      have R0 := hid (R0.out (by decide))
      clear R1
      rw [show (((0 : Nat) : Int)) = (0 : Int) from rfl]
      obtain ⟨W5, hW5⟩ : ∃ W5, W5 = w4.drew := ⟨_, rfl⟩
      have h5 := h4.kept ((Keep.refl noBlock w4).drew)
      rw [← hW5] at h5
      obtain ⟨c0, -⟩ := h5.cells
      obtain ⟨-, -, -, c3, -, -, -, -, cf⟩ := h5.pr.st.first
      have cf3 := cf 3
      have HS := hid (behindShort_any s.ph hph)
      have hbs : behS s.ph < 12 := by unfold behS; split <;> omega
      have HF := hid (h5.ph (behS s.ph) hbs)
      generalize behS s.ph = p' at *
      clear h4 h5 cf hbs
      go_wp2_with fail
      refine region_tail 14 mx (by kernel_rfl) ?_
      rw [← hW5]
      clear hW5
      simp only [List.take_succ_cons, List.take_zero, List.drop_succ_cons, List.drop_zero]
      iterate 11 (quiet_step (fail))
      refine wpQuiet_step (fun K hK => ?_)
      go_simp
      refine ⟨_, HS.out _, hK _ ?_⟩
      clear hK K
      repeat (quiet_step (fail))
      refine wpQuiet_nil ?_
      go_wp2_with fail
      go_ret
      rw [R0.out]
      exact ⟨rfl, by show 1 ≤ 1; omega, by show 1 ≤ 273; omega, HF.out⟩
    | true =>
      rw [show bN true = 1 from rfl]
      have RX := hid (R1.out (by decide))
      clear R0 R1
      rw [show (((1 : Nat) : Int)) = (1 : Int) from rfl]
      obtain ⟨A0, AH⟩ := (show w4.cell? ⟨G.rb, 0, none⟩ = some (.pointer (some ⟨G.sb, 0, none⟩)) ∧ w4.cell? ⟨G.sb, 4, none⟩ = some (.int .u32 (s.r0 : Int)) from ⟨h4.cells.1, h4.pr.st.first.2.2.2.2.1⟩)
      obtain ⟨WA, hWA⟩ : ∃ WA, WA = w4.drew := ⟨_, rfl⟩
      have hA := h4.kept ((Keep.refl noBlock w4).drew)
      rw [← hWA] at hA
      have b0 := hA.cells.1
      obtain ⟨WB, u1, u2, u3⟩ := hA.pr.shift 0 3 (by omega)
      rw [show (((0 : Nat) : Int)) = (0 : Int) from rfl] at u1
      have hB := hA.turn u2 u3
      have b1 := hB.cells.1
      have b2 := hB.pr.st.first.2.2.2.2.2.2.2.2 4
      have b3 := hB.pr.st.first.2.2.2.2.1
      have hrk : s.r0 < 4294967296 := h4.pr.st.ok.r0
      have hC := hB.r0 s.r0 hrk
      obtain ⟨WD, hWD⟩ : ∃ WD, WD = (WB.setCell ⟨G.sb, 4, none⟩ (.int .u32 (s.r0 : Int))).drew := ⟨_, rfl⟩
      have hD := hC.kept ((Keep.refl noBlock _).drew)
      rw [← hWD] at hD
      obtain ⟨g0, g1, -⟩ := hD.cells
      have HL := hid (length_any G.sb G.db G.gb 13242 p _ x2 WD hD.pr (by omega) (by omega) hp)
      have HD := (show Hid (Rd G WD rv tv (takeR s 0) x2 win told) from hD)
      rw [lastM_eq] at RX
      have HS := hid (behindRepeat_any s.ph hph)
      have hbr : behR s.ph < 12 := by unfold behR; split <;> omega
      generalize behR s.ph = p' at *
      generalize lenM 13242 p x2 = LE at *
      obtain ⟨l, xl⟩ := LE
      dsimp only at HL RX
      clear h4 hA hB hC hD u2 u3 hrk
      go_wp2_with fail
      have hw1 : IntKind.i64.wrap 1 = 1 := wraps_i64 _ (by omega) (by omega)
      have hw2 : IntKind.i64.wrap 2 = 2 := wraps_i64 _ (by omega) (by omega)
      have hw3 : IntKind.i64.wrap 3 = 3 := wraps_i64 _ (by omega) (by omega)
      have hw4 : IntKind.i64.wrap 4 = 4 := wraps_i64 _ (by omega) (by omega)
      refine region_tail 16 mx (by kernel_rfl) ?_
      rw [← hWA]
      clear hWA A0 AH
      simp only [List.take_succ_cons, List.take_zero, List.drop_succ_cons, List.drop_zero]
      repeat (quiet_step (fail))
      refine wpQuiet_nil ?_
      refine wpList_copy_run _ rfl _ _ 126 rfl _ _ _ _ rfl rfl u1 ?_
      go_wp2_with fail
      refine region_tail 8 mx (by kernel_rfl) ?_
      rw [← hWD]
      clear hWD u1 b0 b1 b2 b3
      simp only [List.take_succ_cons, List.take_zero, List.drop_succ_cons, List.drop_zero]
      repeat (quiet_step (fail))
      refine wpQuiet_nil ?_
      go_wp2_with fail
      refine HL.out.mono ?_
      rintro e w8 ⟨rfl, l1, l2, q1, q2⟩
      have h8 := HD.out.turn q1 q2
      obtain ⟨W9, hW9⟩ : ∃ W9, W9 = w8.drew := ⟨_, rfl⟩
      have h9 := h8.kept ((Keep.refl noBlock w8).drew)
      rw [← hW9] at h9
      have m0 := h9.cells.1
      obtain ⟨m3, mf3⟩ := (show W9.cell? ⟨G.sb, 3, none⟩ = some (.int .u8 (s.ph : Int)) ∧ W9.frozen? ⟨G.sb, 3, none⟩ = false from ⟨h9.pr.st.first.2.2.2.1, h9.pr.st.first.2.2.2.2.2.2.2.2 3⟩)
      have HF := hid (h9.ph p' hbr)
      clear h8 h9 q1 q2 HL HD g0 g1 hbr
      go_wp2_with fail
      refine region_tail 14 mx (by kernel_rfl) ?_
      rw [← hW9]
      clear hW9
      simp only [List.take_succ_cons, List.take_zero, List.drop_succ_cons, List.drop_zero]
      iterate 11 (quiet_step (fail))
      refine wpQuiet_step (fun K hK => ?_)
      go_simp
      refine ⟨_, HS.out _, hK _ ?_⟩
      clear hK K
      repeat (quiet_step (fail))
      refine wpQuiet_nil ?_
      go_wp2_with fail
      go_ret
      rw [RX.out]
      exact ⟨rfl, by show 1 ≤ l; omega, l2, HF.out⟩
  | true =>
    rw [show bN true = 1 from rfl]
    have R2 := hid (R2.out (by decide))
    have R3 := hid (R3.out (by decide))
    have R4 := hid (R4.out (by decide))
    clear R0 R1
    rw [show (((1 : Nat) : Int)) = (1 : Int) from rfl]
    have HB := hid (h3.bit (416 + s.ph) (by omega) (by omega))
    generalize hx2 : stepX x1 (416 + s.ph) = x2 at *
    clear hx2
    generalize bitX x1 (416 + s.ph) = t2 at *
    clear h3
    go_wp2_with fail
    refine region_tail 15 mx (by kernel_rfl) ?_
    rw [← hW3]
    clear hW3
    simp only [List.take_succ_cons, List.take_zero, List.drop_succ_cons, List.drop_zero]
    repeat (quiet_step (fail))
    refine wpQuiet_nil ?_
    go_wp2_with fail
    refine HB.out.mono ?_
    rintro e w4 ⟨rfl, h4⟩
    clear HB c0 c1 c3
    cases t2 with
    | false =>
      rw [show bN false = 0 from rfl]
      have RX := hid (R2.out (by decide))
      clear R2 R3 R4
      rw [show (((0 : Nat) : Int)) = (0 : Int) from rfl]
      obtain ⟨A0, AH⟩ := (show w4.cell? ⟨G.rb, 0, none⟩ = some (.pointer (some ⟨G.sb, 0, none⟩)) ∧ w4.cell? ⟨G.sb, 5, none⟩ = some (.int .u32 (s.r1 : Int)) from ⟨h4.cells.1, h4.pr.st.first.2.2.2.2.2.1⟩)
      obtain ⟨WA, hWA⟩ : ∃ WA, WA = w4.drew := ⟨_, rfl⟩
      have hA := h4.kept ((Keep.refl noBlock w4).drew)
      rw [← hWA] at hA
      have b0 := hA.cells.1
      obtain ⟨WB, u1, u2, u3⟩ := hA.pr.shift 1 3 (by omega)
      rw [show (((1 : Nat) : Int)) = (1 : Int) from rfl] at u1
      have hB := hA.turn u2 u3
      have b1 := hB.cells.1
      have b2 := hB.pr.st.first.2.2.2.2.2.2.2.2 4
      have b3 := hB.pr.st.first.2.2.2.2.1
      have hrk : s.r1 < 4294967296 := h4.pr.st.ok.r1
      have hC := hB.r0 s.r1 hrk
      obtain ⟨WD, hWD⟩ : ∃ WD, WD = (WB.setCell ⟨G.sb, 4, none⟩ (.int .u32 (s.r1 : Int))).drew := ⟨_, rfl⟩
      have hD := hC.kept ((Keep.refl noBlock _).drew)
      rw [← hWD] at hD
      obtain ⟨g0, g1, -⟩ := hD.cells
      have HL := hid (length_any G.sb G.db G.gb 13242 p _ x2 WD hD.pr (by omega) (by omega) hp)
      have HD := (show Hid (Rd G WD rv tv (takeR s 1) x2 win told) from hD)
      rw [lastM_eq] at RX
      have HS := hid (behindRepeat_any s.ph hph)
      have hbr : behR s.ph < 12 := by unfold behR; split <;> omega
      generalize behR s.ph = p' at *
      generalize lenM 13242 p x2 = LE at *
      obtain ⟨l, xl⟩ := LE
      dsimp only at HL RX
      clear h4 hA hB hC hD u2 u3 hrk
      go_wp2_with fail
      have hw1 : IntKind.i64.wrap 1 = 1 := wraps_i64 _ (by omega) (by omega)
      have hw2 : IntKind.i64.wrap 2 = 2 := wraps_i64 _ (by omega) (by omega)
      have hw3 : IntKind.i64.wrap 3 = 3 := wraps_i64 _ (by omega) (by omega)
      have hw4 : IntKind.i64.wrap 4 = 4 := wraps_i64 _ (by omega) (by omega)
      refine region_tail 16 mx (by kernel_rfl) ?_
      rw [← hWA]
      clear hWA A0 AH
      simp only [List.take_succ_cons, List.take_zero, List.drop_succ_cons, List.drop_zero]
      repeat (quiet_step (fail))
      refine wpQuiet_nil ?_
      refine wpList_copy_run _ rfl _ _ 126 rfl _ _ _ _ rfl rfl u1 ?_
      go_wp2_with fail
      refine region_tail 8 mx (by kernel_rfl) ?_
      rw [← hWD]
      clear hWD u1 b0 b1 b2 b3
      simp only [List.take_succ_cons, List.take_zero, List.drop_succ_cons, List.drop_zero]
      repeat (quiet_step (fail))
      refine wpQuiet_nil ?_
      go_wp2_with fail
      refine HL.out.mono ?_
      rintro e w8 ⟨rfl, l1, l2, q1, q2⟩
      have h8 := HD.out.turn q1 q2
      obtain ⟨W9, hW9⟩ : ∃ W9, W9 = w8.drew := ⟨_, rfl⟩
      have h9 := h8.kept ((Keep.refl noBlock w8).drew)
      rw [← hW9] at h9
      have m0 := h9.cells.1
      obtain ⟨m3, mf3⟩ := (show W9.cell? ⟨G.sb, 3, none⟩ = some (.int .u8 (s.ph : Int)) ∧ W9.frozen? ⟨G.sb, 3, none⟩ = false from ⟨h9.pr.st.first.2.2.2.1, h9.pr.st.first.2.2.2.2.2.2.2.2 3⟩)
      have HF := hid (h9.ph p' hbr)
      clear h8 h9 q1 q2 HL HD g0 g1 hbr
      go_wp2_with fail
      refine region_tail 14 mx (by kernel_rfl) ?_
      rw [← hW9]
      clear hW9
      simp only [List.take_succ_cons, List.take_zero, List.drop_succ_cons, List.drop_zero]
      iterate 11 (quiet_step (fail))
      refine wpQuiet_step (fun K hK => ?_)
      go_simp
      refine ⟨_, HS.out _, hK _ ?_⟩
      clear hK K
      repeat (quiet_step (fail))
      refine wpQuiet_nil ?_
      go_wp2_with fail
      go_ret
      rw [RX.out]
      exact ⟨rfl, by show 1 ≤ l; omega, l2, HF.out⟩
    | true =>
      rw [show bN true = 1 from rfl]
      have R3 := hid (R3.out (by decide))
      have R4 := hid (R4.out (by decide))
      clear R2
      rw [show (((1 : Nat) : Int)) = (1 : Int) from rfl]
      obtain ⟨W5, hW5⟩ : ∃ W5, W5 = w4.drew := ⟨_, rfl⟩
      have h5 := h4.kept ((Keep.refl noBlock w4).drew)
      rw [← hW5] at h5
      obtain ⟨c0, c1, -⟩ := h5.cells
      obtain ⟨-, -, -, c3, -⟩ := h5.pr.st.first
      have HB := hid (h5.bit (428 + s.ph) (by omega) (by omega))
      generalize hx3 : stepX x2 (428 + s.ph) = x3 at *
      clear hx3
      generalize bitX x2 (428 + s.ph) = t3 at *
      clear h4 h5
      go_wp2_with fail
      refine region_tail 15 mx (by kernel_rfl) ?_
      rw [← hW5]
      clear hW5
      simp only [List.take_succ_cons, List.take_zero, List.drop_succ_cons, List.drop_zero]
      repeat (quiet_step (fail))
      refine wpQuiet_nil ?_
      go_wp2_with fail
      refine HB.out.mono ?_
      rintro e w6 ⟨rfl, h6⟩
      clear HB c0 c1 c3
      cases t3 with
      | false =>
        rw [show bN false = 0 from rfl]
        have RX := hid (R3.out (by decide))
        clear R3 R4
        rw [show (((0 : Nat) : Int)) = (0 : Int) from rfl]
        obtain ⟨A0, AH⟩ := (show w6.cell? ⟨G.rb, 0, none⟩ = some (.pointer (some ⟨G.sb, 0, none⟩)) ∧ w6.cell? ⟨G.sb, 6, none⟩ = some (.int .u32 (s.r2 : Int)) from ⟨h6.cells.1, h6.pr.st.first.2.2.2.2.2.2.1⟩)
        obtain ⟨WA, hWA⟩ : ∃ WA, WA = w6.drew := ⟨_, rfl⟩
        have hA := h6.kept ((Keep.refl noBlock w6).drew)
        rw [← hWA] at hA
        have b0 := hA.cells.1
        obtain ⟨WB, u1, u2, u3⟩ := hA.pr.shift 2 3 (by omega)
        rw [show (((2 : Nat) : Int)) = (2 : Int) from rfl] at u1
        have hB := hA.turn u2 u3
        have b1 := hB.cells.1
        have b2 := hB.pr.st.first.2.2.2.2.2.2.2.2 4
        have b3 := hB.pr.st.first.2.2.2.2.1
        have hrk : s.r2 < 4294967296 := h6.pr.st.ok.r2
        have hC := hB.r0 s.r2 hrk
        obtain ⟨WD, hWD⟩ : ∃ WD, WD = (WB.setCell ⟨G.sb, 4, none⟩ (.int .u32 (s.r2 : Int))).drew := ⟨_, rfl⟩
        have hD := hC.kept ((Keep.refl noBlock _).drew)
        rw [← hWD] at hD
        obtain ⟨g0, g1, -⟩ := hD.cells
        have HL := hid (length_any G.sb G.db G.gb 13242 p _ x3 WD hD.pr (by omega) (by omega) hp)
        have HD := (show Hid (Rd G WD rv tv (takeR s 2) x3 win told) from hD)
        rw [lastM_eq] at RX
        have HS := hid (behindRepeat_any s.ph hph)
        have hbr : behR s.ph < 12 := by unfold behR; split <;> omega
        generalize behR s.ph = p' at *
        generalize lenM 13242 p x3 = LE at *
        obtain ⟨l, xl⟩ := LE
        dsimp only at HL RX
        clear h6 hA hB hC hD u2 u3 hrk
        go_wp2_with fail
        have hw1 : IntKind.i64.wrap 1 = 1 := wraps_i64 _ (by omega) (by omega)
        have hw2 : IntKind.i64.wrap 2 = 2 := wraps_i64 _ (by omega) (by omega)
        have hw3 : IntKind.i64.wrap 3 = 3 := wraps_i64 _ (by omega) (by omega)
        have hw4 : IntKind.i64.wrap 4 = 4 := wraps_i64 _ (by omega) (by omega)
        refine region_tail 16 mx (by kernel_rfl) ?_
        rw [← hWA]
        clear hWA A0 AH
        simp only [List.take_succ_cons, List.take_zero, List.drop_succ_cons, List.drop_zero]
        repeat (quiet_step (fail))
        refine wpQuiet_nil ?_
        refine wpList_copy_run _ rfl _ _ 126 rfl _ _ _ _ rfl rfl u1 ?_
        go_wp2_with fail
        refine region_tail 8 mx (by kernel_rfl) ?_
        rw [← hWD]
        clear hWD u1 b0 b1 b2 b3
        simp only [List.take_succ_cons, List.take_zero, List.drop_succ_cons, List.drop_zero]
        repeat (quiet_step (fail))
        refine wpQuiet_nil ?_
        go_wp2_with fail
        refine HL.out.mono ?_
        rintro e w8 ⟨rfl, l1, l2, q1, q2⟩
        have h8 := HD.out.turn q1 q2
        obtain ⟨W9, hW9⟩ : ∃ W9, W9 = w8.drew := ⟨_, rfl⟩
        have h9 := h8.kept ((Keep.refl noBlock w8).drew)
        rw [← hW9] at h9
        have m0 := h9.cells.1
        obtain ⟨m3, mf3⟩ := (show W9.cell? ⟨G.sb, 3, none⟩ = some (.int .u8 (s.ph : Int)) ∧ W9.frozen? ⟨G.sb, 3, none⟩ = false from ⟨h9.pr.st.first.2.2.2.1, h9.pr.st.first.2.2.2.2.2.2.2.2 3⟩)
        have HF := hid (h9.ph p' hbr)
        clear h8 h9 q1 q2 HL HD g0 g1 hbr
        go_wp2_with fail
        refine region_tail 14 mx (by kernel_rfl) ?_
        rw [← hW9]
        clear hW9
        simp only [List.take_succ_cons, List.take_zero, List.drop_succ_cons, List.drop_zero]
        iterate 11 (quiet_step (fail))
        refine wpQuiet_step (fun K hK => ?_)
        go_simp
        refine ⟨_, HS.out _, hK _ ?_⟩
        clear hK K
        repeat (quiet_step (fail))
        refine wpQuiet_nil ?_
        go_wp2_with fail
        go_ret
        rw [RX.out]
        exact ⟨rfl, by show 1 ≤ l; omega, l2, HF.out⟩
      | true =>
        rw [show bN true = 1 from rfl]
        have RX := hid (R4.out (by decide))
        clear R3 R4
        rw [show (((1 : Nat) : Int)) = (1 : Int) from rfl]
        obtain ⟨A0, AH⟩ := (show w6.cell? ⟨G.rb, 0, none⟩ = some (.pointer (some ⟨G.sb, 0, none⟩)) ∧ w6.cell? ⟨G.sb, 7, none⟩ = some (.int .u32 (s.r3 : Int)) from ⟨h6.cells.1, h6.pr.st.first.2.2.2.2.2.2.2.1⟩)
        obtain ⟨WA, hWA⟩ : ∃ WA, WA = w6.drew := ⟨_, rfl⟩
        have hA := h6.kept ((Keep.refl noBlock w6).drew)
        rw [← hWA] at hA
        have b0 := hA.cells.1
        obtain ⟨WB, u1, u2, u3⟩ := hA.pr.shift 3 3 (by omega)
        rw [show (((3 : Nat) : Int)) = (3 : Int) from rfl] at u1
        have hB := hA.turn u2 u3
        have b1 := hB.cells.1
        have b2 := hB.pr.st.first.2.2.2.2.2.2.2.2 4
        have b3 := hB.pr.st.first.2.2.2.2.1
        have hrk : s.r3 < 4294967296 := h6.pr.st.ok.r3
        have hC := hB.r0 s.r3 hrk
        obtain ⟨WD, hWD⟩ : ∃ WD, WD = (WB.setCell ⟨G.sb, 4, none⟩ (.int .u32 (s.r3 : Int))).drew := ⟨_, rfl⟩
        have hD := hC.kept ((Keep.refl noBlock _).drew)
        rw [← hWD] at hD
        obtain ⟨g0, g1, -⟩ := hD.cells
        have HL := hid (length_any G.sb G.db G.gb 13242 p _ x3 WD hD.pr (by omega) (by omega) hp)
        have HD := (show Hid (Rd G WD rv tv (takeR s 3) x3 win told) from hD)
        rw [lastM_eq] at RX
        have HS := hid (behindRepeat_any s.ph hph)
        have hbr : behR s.ph < 12 := by unfold behR; split <;> omega
        generalize behR s.ph = p' at *
        generalize lenM 13242 p x3 = LE at *
        obtain ⟨l, xl⟩ := LE
        dsimp only at HL RX
        clear h6 hA hB hC hD u2 u3 hrk
        go_wp2_with fail
        have hw1 : IntKind.i64.wrap 1 = 1 := wraps_i64 _ (by omega) (by omega)
        have hw2 : IntKind.i64.wrap 2 = 2 := wraps_i64 _ (by omega) (by omega)
        have hw3 : IntKind.i64.wrap 3 = 3 := wraps_i64 _ (by omega) (by omega)
        have hw4 : IntKind.i64.wrap 4 = 4 := wraps_i64 _ (by omega) (by omega)
        refine region_tail 16 mx (by kernel_rfl) ?_
        rw [← hWA]
        clear hWA A0 AH
        simp only [List.take_succ_cons, List.take_zero, List.drop_succ_cons, List.drop_zero]
        repeat (quiet_step (fail))
        refine wpQuiet_nil ?_
        refine wpList_copy_run _ rfl _ _ 126 rfl _ _ _ _ rfl rfl u1 ?_
        go_wp2_with fail
        refine region_tail 8 mx (by kernel_rfl) ?_
        rw [← hWD]
        clear hWD u1 b0 b1 b2 b3
        simp only [List.take_succ_cons, List.take_zero, List.drop_succ_cons, List.drop_zero]
        repeat (quiet_step (fail))
        refine wpQuiet_nil ?_
        go_wp2_with fail
        refine HL.out.mono ?_
        rintro e w8 ⟨rfl, l1, l2, q1, q2⟩
        have h8 := HD.out.turn q1 q2
        obtain ⟨W9, hW9⟩ : ∃ W9, W9 = w8.drew := ⟨_, rfl⟩
        have h9 := h8.kept ((Keep.refl noBlock w8).drew)
        rw [← hW9] at h9
        have m0 := h9.cells.1
        obtain ⟨m3, mf3⟩ := (show W9.cell? ⟨G.sb, 3, none⟩ = some (.int .u8 (s.ph : Int)) ∧ W9.frozen? ⟨G.sb, 3, none⟩ = false from ⟨h9.pr.st.first.2.2.2.1, h9.pr.st.first.2.2.2.2.2.2.2.2 3⟩)
        have HF := hid (h9.ph p' hbr)
        clear h8 h9 q1 q2 HL HD g0 g1 hbr
        go_wp2_with fail
        refine region_tail 14 mx (by kernel_rfl) ?_
        rw [← hW9]
        clear hW9
        simp only [List.take_succ_cons, List.take_zero, List.drop_succ_cons, List.drop_zero]
        iterate 11 (quiet_step (fail))
        refine wpQuiet_step (fun K hK => ?_)
        go_simp
        refine ⟨_, HS.out _, hK _ ?_⟩
        clear hK K
        repeat (quiet_step (fail))
        refine wpQuiet_nil ?_
        go_wp2_with fail
        go_ret
        rw [RX.out]
        exact ⟨rfl, by show 1 ≤ l; omega, l2, HF.out⟩

end Go.Proofs.YtinhlkioeadfdaaDoor
