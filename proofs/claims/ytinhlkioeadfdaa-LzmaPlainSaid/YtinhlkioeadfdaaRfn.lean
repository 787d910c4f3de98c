/-
  The document's state: Reset and New.
-/
import Derived.Test.YtinhlkioeadfdaaRfs
namespace Go.Proofs.Ytinhlkioeadfdaa
open Go.RowKit Go.Shelf
set_option linter.unusedVariables false

theorem info64 : (Try.prog.info? 64).map (fun i => (i.zero, i.size, i.bytes)) = some (some (.int .u16 0), 1, 2) := by kernel_rfl
theorem made_u16 (n : Nat) : madeCells #[.int .u16 0] n = (List.replicate n (Value.int .u16 0)).toArray := by
  refine Array.ext (by simp [size_madeCells]) fun i h1 h2 => ?_
  simp [madeCells, Nat.mod_one]
/-- make of l bytes, room for c. -/
theorem run_make_u16 (l : Nat) (hl : l ≤ 100000) (w : World) :
    (Instr.makeSlice 88 (.int .i64 (l : Int)) (.int .i64 (l : Int))).run Try.prog w = .ok (.slice (some ⟨w.heap.size, 0, none⟩) l l) (w.alloc (.cells (List.replicate l (Value.int .u16 0)).toArray 64)) := by
  obtain ⟨i0, hi, hz0, hz1, hz2⟩ := info_parts info64
  have hr := run_make (P := Try.prog) w 88 64 i0 (.int .u16 0) Try.underlying88 hi hz0 .i64 .i64 (l : Int) (l : Int) (by omega) (by omega) (by rw [hz2]; omega) (by omega)
  simp only [Int.toNat_natCast, hz1, Nat.mul_one] at hr
  rw [show (Value.int .u16 0).cells = #[.int .u16 0] from rfl, made_u16] at hr
  exact hr
/-- A row of even chances. -/
def lits0 : Array Value := (List.replicate 6144 (Value.int .u16 0)).toArray
theorem lits0_size : lits0.size = 6144 := by unfold lits0; rw [List.size_toArray, List.length_replicate]
/-- The document's state as at first: its chances that bytes are read by. -/
structure Qn (W : World) (qb lb : Nat) (c : Nat → Nat) : Prop where
  obj : ∃ cs, W.heap[qb]? = some (.cells cs 90 (0, 0)) ∧ cs[1868]? = some (.slice (some ⟨lb, 0, none⟩) 6144 6144) ∧ ∀ i, i < 4 → cs[8 + i]? = some (.int .u16 ((c (8 + i) : Nat) : Int))
  lit : ∃ cs, W.heap[lb]? = some (.cells cs 64 (0, 0)) ∧ cs.size = 6144 ∧ ∀ i, i < 6144 → cs[i]? = some (.int .u16 ((c (440 + i) : Nat) : Int))
  lt : ∀ i, c i < 65536

set_option maxRecDepth 20000 in
set_option maxHeartbeats 4000000 in
theorem qreset_any (w : World) (qb : Nat) (W : World) (h : Qr w W qb 0) :
    Calls Try.prog 19 #[.pointer (some ⟨qb, 0, none⟩)] W fun e W' => e = .returned (.tuple #[]) ∧ ∃ lb, Qn W' qb lb (fun _ => 1024) ∧ w.heap.size ≤ lb ∧ Keep (fun k => k = qb) w W' := by
  obtain ⟨v3, c3⟩ := h.cell 3 (by omega)
  obtain ⟨v4, c4⟩ := h.cell 4 (by omega)
  obtain ⟨v5, c5⟩ := h.cell 5 (by omega)
  obtain ⟨v6, c6⟩ := h.cell 6 (by omega)
  obtain ⟨v7, c7⟩ := h.cell 7 (by omega)
  have f3 := h.fro 3
  have f4 := h.fro 4
  have f5 := h.fro 5
  have f6 := h.fro 6
  have f7 := h.fro 7
  have h1 := ((((h.set 3 (.int .i64 0) (by omega) (by omega)).set 4 (.int .u32 0) (by omega) (by omega)).set 5 (.int .u32 0) (by omega) (by omega)).set 6 (.int .u32 0) (by omega) (by omega)).set 7 (.int .u32 0) (by omega) (by omega)
  have H1 := hid h1
  clear h h1
  go_enter Try.func19, Try.ntmps19
  go_wp2_with fail
  go_loopw [2] (fun i wr => ∃ j : Nat, i = .int .i64 j ∧ j ≤ 12 ∧ Hid (Qr w wr qb (j * 16))) (fun i _ => 12 - (intOf i).toNat)
  case atStart => exact ⟨0, rfl, by omega, H1⟩
  case round =>
    obtain ⟨j, rfl, hj, HQ⟩ := hrel
    by_cases hlt : j < 12
    · have hltI : (j : Int) < 12 := by omega
      have HA := hid (HQ.out.even (by omega) (8 + j * 16) 16 16 (by omega) (by omega) ((j + 1) * 16) (.inr ⟨rfl, by omega⟩))
      clear HQ
      go_wp2_with fail
      refine HA.out.mono ?_
      rintro e w3 ⟨rfl, r3⟩
      have HB := hid (r3.even (by omega) (248 + j * 16) 16 16 (by omega) (by omega) ((j + 1) * 16) (.inl rfl))
      clear r3 HA
      go_wp2_with fail
      refine HB.out.mono ?_
      rintro e w4 ⟨rfl, r4⟩
      have H4 := hid r4
      clear r4 HB
      go_wp2_with fail
      go_roundw
      case rel => exact ⟨j + 1, by go_num, by omega, H4⟩
      case measure => simp [intOf]; omega
    · have hltI : ¬ (j : Int) < 12 := by omega
      obtain rfl : j = 12 := by omega
      have HA := hid (HQ.out.even (by omega) 200 12 12 (by omega) (by omega) 192 (.inl rfl))
      clear HQ H1
      go_wp2_with fail
      refine HA.out.mono ?_
      rintro e w3 ⟨rfl, r3⟩
      have HB := hid (r3.even (by omega) 212 12 12 (by omega) (by omega) 192 (.inl rfl))
      clear r3 HA
      go_wp2_with fail
      refine HB.out.mono ?_
      rintro e w4 ⟨rfl, r4⟩
      have HC := hid (r4.even (by omega) 224 12 12 (by omega) (by omega) 192 (.inl rfl))
      clear r4 HB
      go_wp2_with fail
      refine HC.out.mono ?_
      rintro e w5 ⟨rfl, r5⟩
      have HD := hid (r5.even (by omega) 236 12 12 (by omega) (by omega) 192 (.inl rfl))
      clear r5 HC
      go_wp2_with fail
      refine HD.out.mono ?_
      rintro e w6 ⟨rfl, r6⟩
      have H6 := hid r6
      clear r6 HD
      go_wp2_with fail
      go_loopw [3] (fun i wt => ∃ j : Nat, i = .int .i64 j ∧ j ≤ 4 ∧ Hid (Qr w wt qb 192)) (fun i _ => 4 - (intOf i).toNat)
      case atStart => exact ⟨0, rfl, by omega, H6⟩
      case round =>
        obtain ⟨j, rfl, hj, HQ⟩ := hrel
        by_cases hlt : j < 4
        · have hltI : (j : Int) < 4 := by omega
          have HA := hid (HQ.out.even (by omega) (440 + j * 64) 64 64 (by omega) (by omega) 192 (.inl rfl))
          clear HQ
          go_wp2_with fail
          refine HA.out.mono ?_
          rintro e w3 ⟨rfl, r3⟩
          have H3 := hid r3
          clear r3 HA
          go_wp2_with fail
          go_roundw
          case rel => exact ⟨j + 1, by go_num, by omega, H3⟩
          case measure => simp [intOf]; omega
        · have hltI : ¬ (j : Int) < 4 := by omega
          obtain rfl : j = 4 := by omega
          have HA := hid (HQ.out.even (by omega) 696 128 128 (by omega) (by omega) 192 (.inl rfl))
          clear HQ H6
          go_wp2_with fail
          refine HA.out.mono ?_
          rintro e w7 ⟨rfl, r7⟩
          have HB := hid (r7.even (by omega) 824 16 16 (by omega) (by omega) 192 (.inl rfl))
          clear r7 HA
          go_wp2_with fail
          refine HB.out.mono ?_
          rintro e w8 ⟨rfl, r8⟩
          have HC := hid (qlen_any w qb 840 w8 r8 (by omega) (by omega))
          clear r8 HB
          go_wp2_with fail
          refine HC.out.mono ?_
          rintro e w9 ⟨rfl, r9⟩
          have HD := hid (qlen_any w qb 1354 w9 r9 (by omega) (by omega))
          clear r9 HC
          go_wp2_with fail
          refine HD.out.mono ?_
          rintro e wa ⟨rfl, ra⟩
          clear HD
          have kd : Keep noBlock wa wa.drew := (Keep.refl noBlock wa).drew
          have ka : Keep noBlock wa (wa.drew.alloc (.cells lits0 64)) := kd.alloc _
          have rd := ra.kept kd
          have rb := ra.kept ka
          obtain ⟨cs, q1, q2, q3, q4, q5⟩ := rd.obj
          have d0 : wa.drew.cell? ⟨qb, 0, none⟩ = some (.int .i64 3) := (cell_of q1 0).trans q3
          have d1 : wa.drew.cell? ⟨qb, 1, none⟩ = some (.int .i64 0) := (cell_of q1 1).trans q4
          obtain ⟨cs', p1, p2, p3, p4, p5⟩ := rb.obj
          have g0 : (wa.drew.alloc (.cells lits0 64)).cell? ⟨qb, 1868, none⟩ = some (cs'[1868]'(by omega)) := (cell_of p1 1868).trans (Array.getElem?_eq_getElem (by omega))
          have g1 := frozen_of p1 1868
          have g2 : (wa.alloc (.cells lits0 64)).cell? ⟨qb, 1868, none⟩ = some (cs'[1868]'(by omega)) := g0
          have g3 : (wa.alloc (.cells lits0 64)).frozen? ⟨qb, 1868, none⟩ = false := g1
          have hmk : ∀ W : World, (Instr.makeSlice 88 (.int .i64 6144) (.int .i64 6144)).run Try.prog W = .ok (.slice (some ⟨W.heap.size, 0, none⟩) 6144 6144) (W.alloc (.cells lits0 64)) := fun W => run_make_u16 6144 (by omega) W
          have HA := (show Hid (Qr w wa qb 192) from ra)
          generalize (cs'[1868]'(by omega)) = vv at *
          clear ra rd rb q1 q2 q3 q4 q5 p1 p2 p3 p4 p5 kd ka
          go_wp2_with fail
          go_region
          obtain ⟨V, hV⟩ : ∃ V, V = ((wa.alloc (.cells lits0 64)).setCell ⟨qb, 1868, none⟩ (.slice (some ⟨wa.heap.size, 0, none⟩) 6144 6144)).drew := ⟨_, rfl⟩
          have HV := (show Hid ((∃ cs, V.heap[qb]? = some (.cells cs 90 (0, 0)) ∧ cs[1868]? = some (.slice (some ⟨wa.heap.size, 0, none⟩) 6144 6144) ∧ ∀ i, i < 4 → cs[8 + i]? = some (.int .u16 1024)) ∧ V.heap[wa.heap.size]? = some (.cells lits0 64 (0, 0)) ∧ Keep (fun k => k = qb) w V ∧ qb ≠ wa.heap.size ∧ w.heap.size ≤ wa.heap.size) from by
            obtain ⟨cs, q1, q2, q3, q4, q5⟩ := HA.out.obj
            have hlt := obj_lt q1
            have a1 := set_obj (alloc_far q1 (.cells lits0 64)) 1868 (.slice (some ⟨wa.heap.size, 0, none⟩) 6144 6144)
            have a2 := set_far (alloc_new wa (.cells lits0 64)) (show wa.heap.size ≠ qb by omega) 1868 (.slice (some ⟨wa.heap.size, 0, none⟩) 6144 6144)
            refine ⟨⟨_, by rw [hV]; exact a1, ?_, fun i hi => ?_⟩, by rw [hV]; exact a2, ?_, by omega, HA.out.kp.size⟩
            · rw [Array.getElem?_setIfInBounds, if_pos rfl, if_pos (by omega)]
            · rw [Array.getElem?_setIfInBounds, if_neg (by omega)]
              exact q5 (8 + i) (by omega) (by omega)
            · rw [hV]
              exact ((HA.out.kp.alloc _).setCell (p := ⟨qb, 1868, none⟩) (fun _ => rfl) _).drew)
          rw [← hV]
          clear hV d0 d1 g0 g1 g2 g3 hmk HA
          generalize wa.heap.size = lb at *
          obtain ⟨⟨cs3, q1, q2, q3⟩, q4, q5, q6, q7⟩ := HV.out
          have e0 := (cell_of q1 1868).trans q2
          have HE := hid (even_any lb 0 6144 6144 64 lits0 V q4 (by rw [lits0_size]; omega) (by omega))
          clear q1 q2 q3 q4 q5 q6 q7
          go_wp2_with fail
          refine HE.out.mono ?_
          rintro e wb ⟨rfl, cs4, t1, t2, t3⟩
          have HF := (show Hid (∃ lb, Qn wb qb lb (fun _ => 1024) ∧ w.heap.size ≤ lb ∧ Keep (fun k => k = qb) w wb) from by
            obtain ⟨⟨cs3, q1, q2, q3⟩, q4, q5, q6, q7⟩ := HV.out
            refine ⟨lb, ⟨⟨cs3, t3.obj q1 q6, q2, fun i hi => q3 i hi⟩, ⟨cs4, t1, t2.size.trans lits0_size, fun i hi => t2.in_ i (by omega) (by omega)⟩, fun i => by show 1024 < _; omega⟩, q7, q5.trans t3 (fun i hi e => by omega)⟩)
          clear t1 t2 t3 HE HV
          go_wp2_with fail
          go_end0
          exact ⟨rfl, HF.out⟩

theorem zero90 : Try.zeroCells90.size = 1869 := by kernel_rfl
set_option maxRecDepth 20000 in
set_option maxHeartbeats 4000000 in
theorem newQ_any (w : World) : Calls Try.prog 13 #[] w fun e w' => e = .returned (.pointer (some ⟨w.heap.size, 0, none⟩)) ∧ ∃ lb, Qn w' w.heap.size lb (fun _ => 1024) ∧ w.heap.size ≤ lb ∧ Keep noBlock w w' := by
  have hz : Qr (w.alloc (.cells ((Try.zeroCells90.setIfInBounds 0 (.int .i64 3)).setIfInBounds 2 (.int .i64 2)) 90)) (w.alloc (.cells ((Try.zeroCells90.setIfInBounds 0 (.int .i64 3)).setIfInBounds 2 (.int .i64 2)) 90)) w.heap.size 0 := by
    refine ⟨⟨_, alloc_new w _, ?_, ?_, ?_, fun i h1 h2 => by omega⟩, Keep.refl _ _⟩
    · rw [Array.size_setIfInBounds, Array.size_setIfInBounds]; exact zero90
    · rw [Array.getElem?_setIfInBounds, if_neg (by omega), Array.getElem?_setIfInBounds, if_pos rfl, if_pos (by rw [zero90]; omega)]
    · rw [Array.getElem?_setIfInBounds, if_neg (by omega), Array.getElem?_setIfInBounds, if_neg (by omega)]
      kernel_rfl
  have HR := hid (qreset_any _ w.heap.size _ hz)
  clear hz
  generalize hzz : (Try.zeroCells90.setIfInBounds 0 (.int .i64 3)).setIfInBounds 2 (.int .i64 2) = zz at *
  have HZ := hid hzz
  clear hzz
  go_enter Try.func13, Try.ntmps13
  go_wp2_with fail
  rw [HZ.out]
  refine HR.out.mono ?_
  rintro e w2 ⟨rfl, lb, h2, h3, k2⟩
  have HF := (show Hid (∃ lb, Qn w2 w.heap.size lb (fun _ => 1024) ∧ w.heap.size ≤ lb ∧ Keep noBlock w w2) from ⟨lb, h2, by rw [World.size_alloc] at h3; omega, ((Keep.refl noBlock w).alloc _).trans k2 (fun i hi e => by omega)⟩)
  clear h2 h3 k2 HR
  go_wp2_with fail
  go_ret
  exact ⟨rfl, HF.out⟩

end Go.Proofs.Ytinhlkioeadfdaa
