/-
  Read of a section that was laid.
  Same of rows that are the same; Read of what Write gave.
  SequencesBack: steps that are told are read as they were.
-/
import Derived.Test.YtgaepmmpedaaiaaGreatDoorBackQ8
import Derived.Test.YtgaepmmpedaaiaaGreatDoorBackQ18
namespace Go.Proofs.YtgaepmmpedaaiaaGreatDoor
open Go.RowKit Go.Shelf
set_option linter.unusedVariables false

set_option maxHeartbeats 1000000 in
theorem three_none (w : World) : Calls Tryz.prog 17 #[.agg #[.slice none 0 0, .slice none 0 0, .slice none 0 0]] w fun e w' => e = .returned (.agg #[.slice none 0 0, .slice none 0 0, .slice none 0 0]) ∧ Keep noBlock w w' := by
  go_enter Tryz.func17, Tryz.ntmps17
  go_wp2_with fail
  refine bodyPost_ret (results_cell rfl _ _ _ ⟨w.heap.size + 1, 0, none⟩ (.agg #[.slice none 0 0, .slice none 0 0, .slice none 0 0]) rfl (run_loadVar_row _ _ 30 30 _ (0, 0) _ (alloc_new1 _ _ _) Tryz.underlying30 rfl (by kernel_rfl))) rfl ?_
  exact ⟨rfl, ((Keep.refl _ w).alloc _).alloc _⟩
def RdPost (w : World) (t : Tri) (e : Ending) (w' : World) : Prop :=
  ∃ (g cap : Nat) (t0 : Option Addr) (q0 c0 : Nat) (t1 : Option Addr) (q1 c1 : Nat) (t2 : Option Addr) (q2 c2 : Nat), e = .returned (.tuple #[.slice (some ⟨g, 0, none⟩) t.n cap, .agg #[.slice t0 q0 c0, .slice t1 q1 c1, .slice t2 q2 c2], .int .i64 0]) ∧ Seqs w' (some ⟨g, 0, none⟩) cap g 0 (stepsT t t.n) ∧ Keep noBlock w w'

set_option maxRecDepth 100000 in
set_option maxHeartbeats 16000000 in
theorem readL_any (w : World) (a : Option Addr) (cap g off : Nat) (l : List Stp) (B : List Nat) (t : Tri) (hB : Bytes w a cap g off B) (hL : IsLaid l B t) (hO : Ords w) (hl : B.length ≤ 131072) (hg : g < w.heap.size) :
    Calls Tryz.prog 6 #[.slice a B.length cap, .agg #[.slice none 0 0, .slice none 0 0, .slice none 0 0]] w fun e w' => RdPost w t e w' := by
  obtain ⟨n, hn⟩ : ∃ n, n = t.n := ⟨_, rfl⟩
  have hn1 := hL.ok.pos
  have hn2 := hL.ok.le
  rw [← hn] at hn1 hn2
  obtain ⟨N, hN⟩ : ∃ N, N = B.length := ⟨_, rfl⟩
  rw [← hN] at hl ⊢
  have hbg := begun w (.slice a N cap)
  unfold z3 at hbg
  have hlI : ¬ (131072 : Int) < (N : Int) := by omega
  have HH := (show Hid (Bytes w a cap g off B ∧ IsLaid l B t ∧ Ords w ∧ n = t.n ∧ N = B.length ∧ g < w.heap.size ∧ N ≤ 131072) from ⟨hB, hL, hO, hn, hN, hg, hl⟩)
  clear hB hL hO hn hN hg
  go_enter Tryz.func6, Tryz.ntmps6
  go_wp2_with fail
  generalize ((w.alloc (.cells #[.slice none 0 0, .slice none 0 0, .slice none 0 0] 26)).alloc (.cells #[.slice none 0 0, .slice none 0 0, .slice none 0 0] 26)).alloc (.cells #[.slice a N cap] 48) = W at *
  generalize hb0 : w.heap.size = b0 at *
  generalize hb1 : b0 + 1 = b1 at *
  generalize hb2 : b1 + 1 = b2 at *
  have HNm := (show Hid (Calls Tryz.prog 13 #[.pointer (some ⟨b2, 0, none⟩)] W fun e w' => e = .returned (.tuple #[.int .i64 (n : Int), .bool true]) ∧ Hid (Sec w' b2 g (kbS t.R 3 :: (tolds t.R 3 ++ pack (tlAll t ++ [1]))) ∧ Keep (fun k => k = b2) W w')) from by
    obtain ⟨y1, y2, y3, y4, y5, y6, y7⟩ := HH.out
    have hsec : Sec W b2 g (numB n ++ (kbS t.R 3 :: (tolds t.R 3 ++ pack (tlAll t ++ [1])))) := by
      have e : numB n ++ (kbS t.R 3 :: (tolds t.R 3 ++ pack (tlAll t ++ [1]))) = B := by rw [y2.eq, y4]; simp
      rw [e]
      exact ⟨a, cap, off, by rw [← y5]; exact hbg.o2, y1.keep hbg.kp (fun _ h => h), by omega⟩
    refine (number_any b2 g n hn2 _ W hsec).mono ?_
    rintro e w' ⟨rfl, q1, q2⟩
    exact ⟨rfl, q1, q2⟩)
  refine HNm.out.mono ?_
  rintro e W1 ⟨rfl, HX1⟩
  have hB1 := hbg.next (v' := (match W1.cell? ⟨b2, 0, none⟩ with | some v => v | none => undef)) (by
    obtain ⟨a', c', o', q1, -⟩ := HX1.out.1
    have : W1.cell? ⟨b2, 0, none⟩ = some _ := cell_of q1 0
    rw [this]
    exact q1) HX1.out.2
  have HBg := hid hB1
  have hn0 : ((n : Int) == 0) = false := by simp; omega
  have HC := hid (codings_any W1)
  have HBB := hid (And.intro hb0 (And.intro hb1 hb2))
  clear hbg hB1 HNm hb0 hb1 hb2
  go_wp2_with fail
  refine HC.out.mono ?_
  rintro e w1 ⟨g0, g1, g2, rfl, o0, o1, o2, l0, l1, l2, k1⟩
  generalize hA : (codA (.slice (some ⟨g0, 0, none⟩) 36 36) (.slice (some ⟨g1, 0, none⟩) 29 29) (.slice (some ⟨g2, 0, none⟩) 53 53)).toArray = A
  have hsz : A.size = 330 := by rw [← hA, List.size_toArray]; exact codA_length _ _ _
  have HJ : Hid ((Tryz.prog.info? 58).map (·.size) = some A.size) := by rw [hsz]; exact info58
  have HJ2 := hid (show Tryz.zeroCells58.size = A.size from by rw [hsz]; exact zero58_size)
  have H1 : Hid (A.all (·.oneCell') = true) := by rw [← hA]; exact codA_one _ _ _ _ _ _
  obtain ⟨cK, hcK⟩ : ∃ cK, cK = w1.heap.size := ⟨_, rfl⟩
  have H2 := (show Hid (∀ W2, W2 = w1.alloc (.cells A 58) → Cods W2 cK g0 g1 g2 ∧ Keep noBlock W1 W2 ∧ W1.heap.size ≤ cK ∧ W1.heap.size ≤ g0 ∧ W1.heap.size ≤ g1 ∧ W1.heap.size ≤ g2) from fun W2 e => by
    rw [e, hcK]
    exact ⟨cods_of ⟨by rw [hA]; exact alloc_new w1 _, alloc_far o0 _, alloc_far o1 _, alloc_far o2 _⟩, k1.alloc _, k1.size, l0, l1, l2⟩)
  have d0 : (w1.alloc (.cells A 58)).cell? ⟨b0, 0, none⟩ = some (.slice none 0 0) := keep_cell0 (k1.alloc _) (by rw [cell_of HBg.out.o0]; rfl)
  have d1 : (w1.alloc (.cells A 58)).cell? ⟨b0, 1, none⟩ = some (.slice none 0 0) := keep_cell0 (k1.alloc _) (by rw [cell_of HBg.out.o0]; rfl)
  have d2 : (w1.alloc (.cells A 58)).cell? ⟨b0, 2, none⟩ = some (.slice none 0 0) := keep_cell0 (k1.alloc _) (by rw [cell_of HBg.out.o0]; rfl)
  have HCK := hid hcK
  clear hA hsz o0 o1 o2 l0 l1 l2 k1 HC hcK
  have H3 := (show Hid (∀ W : World, _) from fun W => three_none W)
  go_wp2_with (refine wpList_store_row rfl 58 (.tmp 10) (.tmp 38) rfl w1.heap.size A rfl rfl 58 _ (World.alloc_heap_new w1 _) HJ.out HJ2.out H1.out ?_; rw [World.setRow_alloc_new])
  obtain ⟨W2, hW2⟩ : ∃ W2, W2 = w1.alloc (.cells A 58) := ⟨_, rfl⟩
  rw [← hW2, ← HCK.out]
  have HW2 := hid (H2.out W2 hW2)
  clear H2 hW2 HCK d0 d1 d2 HJ HJ2 H1
  refine (H3.out W2).mono ?_
  rintro e W3 ⟨rfl, k3⟩
  have HT := (show Hid (Calls Tryz.prog 16 #[.pointer (some ⟨b2, 0, none⟩), .pointer (some ⟨cK, 0, none⟩), .agg #[.slice none 0 0, .slice none 0 0, .slice none 0 0]] W3 fun e w' => TbsPost W3 b2 g t.R (pack (tlAll t ++ [1])) e w') from by
    obtain ⟨y1, y2, y3, y4, y5, y6, y7⟩ := HH.out
    obtain ⟨x1, x2⟩ := HX1.out
    obtain ⟨z1, z2, z3, z4, z5, z6⟩ := HW2.out
    have kk := z2.trans' k3
    have hb2l : b2 < W1.heap.size := obj_lt HBg.out.o2
    have hbb := HBB.out
    have hsz := kk.size
    have hsw := HBg.out.kp.size
    refine tables_any W3 b2 g cK g0 g1 g2 t.R _ (x1.keep kk (fun h => h) (fun h => h)) (z1.keep k3 (fun h => h) (fun h => h) (fun h => h) (fun h => h)) (fun v hv => (y2.ok.row v hv).told) (by omega) (by omega) (by omega) ?_
    have : B.length = (numB t.n ++ [kbS t.R 3] ++ tolds t.R 3).length + (pack (tlAll t ++ [1])).length := by rw [← List.length_append, ← y2.eq]
    omega)
  have HK3 := (show Hid (Keep noBlock W1 W3 ∧ Cods W3 cK g0 g1 g2 ∧ W1.heap.size ≤ cK ∧ W1.heap.size ≤ g0 ∧ W1.heap.size ≤ g1 ∧ W1.heap.size ≤ g2) from ⟨HW2.out.2.1.trans' k3, HW2.out.1.keep k3 (fun h => h) (fun h => h) (fun h => h) (fun h => h), HW2.out.2.2⟩)
  clear k3 H3 HW2
  go_wp2_with fail
  refine HT.out.mono ?_
  rintro e W4 ⟨tg, tcap, rfl, p1, p2, p3⟩
  have HP := hid (And.intro p1 (And.intro p2 p3))
  obtain ⟨U, hU⟩ : ∃ U, U = usedA t.R tg tcap 3 := ⟨_, rfl⟩
  have hU3 : U.size = 3 := by rw [hU]; rfl
  have HU := hid (show (Tryz.prog.info? 30).map (·.size) = some U.size from by rw [hU3]; kernel_rfl)
  have HUo := hid (show U.all (·.oneCell') = true from by rw [hU]; exact all_oneCell_toArray (fun v hv => by simp only [List.mem_cons, List.not_mem_nil, or_false] at hv; rcases hv with rfl | rfl | rfl <;> rfl))
  have HUz := hid (show (#[.slice none 0 0, .slice none 0 0, .slice none 0 0] : Array Value).size = U.size from by rw [hU3]; rfl)
  rw [← hU]
  have HUe := hid hU
  clear p1 p2 p3 hU hU3 HT
  have HZ := (show Hid ((W4.alloc (.cells U 30)).heap[W4.heap.size]? = some (.cells U 30 (0, 0))) from alloc_new W4 _)
  go_wp2_with (first | (refine wpList_store_row rfl 30 (.tmp 11) (.tmp 44) rfl W4.heap.size U rfl rfl 30 _ (World.alloc_heap_new W4 _) HU.out HUz.out HUo.out ?_; rw [World.setRow_alloc_new]) | (refine wpList_load_row rfl 30 (.tmp 11) rfl W4.heap.size rfl 30 U (0, 0) _ HZ.out Tryz.underlying30 rfl HU.out ?_))
  obtain ⟨ub, hub⟩ : ∃ ub, ub = W4.heap.size := ⟨_, rfl⟩
  obtain ⟨W5, hW5⟩ : ∃ W5, W5 = W4.alloc (.cells U 30) := ⟨_, rfl⟩
  rw [← hW5, ← hub]
  have H5 := (show Hid (Keep noBlock w W5 ∧ Sec W5 b2 g (pack (tlAll t ++ [1])) ∧ Cods W5 cK g0 g1 g2 ∧ (∀ v, v < 3 → IsTb W5 (tg v) (t.R v).T) ∧ W5.heap[ub]? = some (.cells U 30 (0, 0)) ∧ W5.heap[b1]? = some (.cells #[.slice none 0 0, .slice none 0 0, .slice none 0 0] 26 (0, 0)) ∧ w.heap.size ≤ b1 ∧ b1 < ub) from by
    obtain ⟨p1, p2, p3⟩ := HP.out
    obtain ⟨q1, q2, q3, q4, q5, q6⟩ := HK3.out
    have hbb := HBB.out
    have hb2l : b2 < W1.heap.size := obj_lt HBg.out.o2
    have hb1l : b1 < W1.heap.size := obj_lt HBg.out.o1
    have k5 : Keep noBlock W4 W5 := by rw [hW5]; exact (Keep.refl _ W4).alloc _
    have s1 := q1.size
    have s2 := p3.size
    refine ⟨((HBg.out.kp.trans' q1).trans p3 (fun j hj e => by omega)).trans' k5, p2.keep k5 (fun h => h) (fun h => h), (q2.keep p3 (by omega) (by omega) (by omega) (by omega)).keep k5 (fun h => h) (fun h => h) (fun h => h) (fun h => h), fun v hv => (p1 v hv).1.keep k5 (fun h => h), by rw [hW5, hub]; exact alloc_new W4 _, k5.obj (p3.obj (q1.obj HBg.out.o1 (fun h => h)) (by omega)) (fun h => h), by omega, by omega⟩)
  have HSt := (show Hid (Calls Tryz.prog 18 #[.pointer (some ⟨b2, 0, none⟩), .int .i64 (n : Int), .pointer (some ⟨cK, 0, none⟩), .agg U] W5 fun e w' => StpPost W5 t e w') from by
    obtain ⟨y1, y2, y3, y4, y5, y6, y7⟩ := HH.out
    obtain ⟨h1, h2, h3, h4, h5⟩ := H5.out
    rw [y4, HUe.out]
    exact steps_any W5 b2 g cK g0 g1 g2 t tg tcap h2 h3 h4 y2.ok (y3.keep h1))
  obtain ⟨t0, q0, c0, t1, q1, c1, t2, q2, c2, hu⟩ : ∃ (t0 : Option Addr) (q0 c0 : Nat) (t1 : Option Addr) (q1 c1 : Nat) (t2 : Option Addr) (q2 c2 : Nat), U = #[.slice t0 q0 c0, .slice t1 q1 c1, .slice t2 q2 c2] := ⟨_, _, _, _, _, _, _, _, _, HUe.out⟩
  have HUU := hid hu
  clear HZ hub hW5 HP HK3 HU HUo HUz hu HBg HBB HX1
  refine HSt.out.mono ?_
  rintro e W6 ⟨gm, capm, rfl, m1, m2, m3⟩
  rw [← HH.out.2.2.2.1]
  have HM := hid (And.intro m1 (And.intro m3 m2))
  clear m1 m2 m3 HSt
  go_wp2_with fail
  obtain ⟨W9, hW9⟩ : ∃ W9, W9 = W6.drew := ⟨_, rfl⟩
  have k9 : Keep noBlock W5 W9 := by rw [hW9]; exact HM.out.2.1.drew
  have ou := k9.obj H5.out.2.2.2.2.1 (fun h => h)
  rw [HUU.out] at ou
  have ob := k9.obj H5.out.2.2.2.2.2.1 (fun h => h)
  have g1' : W9.cell? ⟨ub, 0, none⟩ = some (.slice t0 q0 c0) ∧ W9.cell? ⟨ub, 1, none⟩ = some (.slice t1 q1 c1) ∧ W9.cell? ⟨ub, 2, none⟩ = some (.slice t2 q2 c2) := ⟨cell_of ou 0, cell_of ou 1, cell_of ou 2⟩
  have kz : Keep (fun k => k = b1) W9 (W9.setCells b1 0 [(.slice t0 q0 c0), (.slice t1 q1 c1), (.slice t2 q2 c2)]) := keep_setCells (S := fun k => k = b1) b1 (fun _ => rfl) _ _ _ (Keep.refl _ W9)
  have hub1 : ub ≠ b1 := by have := H5.out.2.2.2.2.2.2; omega
  have g2' : (W9.setCells b1 0 [(.slice t0 q0 c0), (.slice t1 q1 c1), (.slice t2 q2 c2)]).cell? ⟨ub, 0, none⟩ = some (.slice t0 q0 c0) ∧ (W9.setCells b1 0 [(.slice t0 q0 c0), (.slice t1 q1 c1), (.slice t2 q2 c2)]).cell? ⟨ub, 1, none⟩ = some (.slice t1 q1 c1) ∧ (W9.setCells b1 0 [(.slice t0 q0 c0), (.slice t1 q1 c1), (.slice t2 q2 c2)]).cell? ⟨ub, 2, none⟩ = some (.slice t2 q2 c2) := ⟨cell_of (kz.obj ou hub1) 0, cell_of (kz.obj ou hub1) 1, cell_of (kz.obj ou hub1) 2⟩
  have HST := (show Hid (W9.there b1 0 (#[(.slice t0 q0 c0), (.slice t1 q1 c1), (.slice t2 q2 c2)] : Array Value).size ∧ (Tryz.prog.info? 26).map (·.size) = some (#[(.slice t0 q0 c0), (.slice t1 q1 c1), (.slice t2 q2 c2)] : Array Value).size ∧ (#[(.slice t0 q0 c0), (.slice t1 q1 c1), (.slice t2 q2 c2)] : Array Value).all (·.oneCell') = true) from
    ⟨fun j hj => ⟨by have hj3 : j < 3 := hj; rw [cell_of ob, Array.getElem?_eq_getElem (by show 0 + j < 3; omega)]; rfl, frozen_of ob _⟩, (by kernel_rfl : (Tryz.prog.info? 26).map (·.size) = some 3), all_oneCell_toArray (fun v hv => by simp only [List.mem_cons, List.not_mem_nil, or_false] at hv; rcases hv with rfl | rfl | rfl <;> rfl)⟩)
  have HF := (show Hid ((W9.setCells b1 0 [(.slice t0 q0 c0), (.slice t1 q1 c1), (.slice t2 q2 c2)]).heap[b1]? = some (.cells #[(.slice t0 q0 c0), (.slice t1 q1 c1), (.slice t2 q2 c2)] 26 (0, 0)) ∧ Seqs (W9.setCells b1 0 [(.slice t0 q0 c0), (.slice t1 q1 c1), (.slice t2 q2 c2)]) (some ⟨gm, 0, none⟩) capm gm 0 (stepsT t t.n) ∧ Keep noBlock w (W9.setCells b1 0 [(.slice t0 q0 c0), (.slice t1 q1 c1), (.slice t2 q2 c2)])) from by
    refine ⟨setCells_obj b1 26 [(.slice t0 q0 c0), (.slice t1 q1 c1), (.slice t2 q2 c2)] 0 _ W9 ob, ?_, (H5.out.1.trans' k9).trans kz (fun j hj e => by have := H5.out.2.2.2.2.2.2; omega)⟩
    have hs := HM.out.1.keep (show Keep noBlock W6 W9 from by rw [hW9]; exact (Keep.refl _ W6).drew)
    have hgm := HM.out.2.2
    have hbl := obj_lt H5.out.2.2.2.2.1
    have hb1u := H5.out.2.2.2.2.2.2
    exact ⟨hs.at_, fun j hj => ⟨keep_cellS kz (by omega) (hs.cells j hj).1, keep_cellS kz (by omega) (hs.cells j hj).2.1, keep_cellS kz (by omega) (hs.cells j hj).2.2⟩⟩)
  have HW9 := hid hW9
  clear hW9 k9 ou ob kz hub1
  refine region_last (fun W => W.cell? ⟨ub, 0, none⟩ = some (.slice t0 q0 c0) ∧ W.cell? ⟨ub, 1, none⟩ = some (.slice t1 q1 c1) ∧ W.cell? ⟨ub, 2, none⟩ = some (.slice t2 q2 c2)) 10 mx (by rw [← HW9.out]; exact g1') (fun hS => ?_)
  refine last_take (i := 0) (v := ?_) rfl (by kernel_rfl) (by kernel_rfl) (by kernel_rfl) (by kernel_rfl) (fun _ _ _ h => h) (Or.inl ⟨by rfl, ?_⟩) (by assumption) ?_
  rotate_left 1
  · intro w hSw; (try dsimp only at hSw); (try obtain ⟨hSw1, hSw2, hSw3⟩ := hSw); (go_simp <;> with_reducible rfl)
  simp only [Act.put, List.getElem_toArray, List.getElem_cons_zero, List.setIfInBounds_toArray, List.set_cons_zero, List.set_cons_succ]
  refine last_take (i := 1) (v := ?_) rfl (by kernel_rfl) (by kernel_rfl) (by kernel_rfl) (by kernel_rfl) (fun _ _ _ h => h) (Or.inl ⟨by rfl, ?_⟩) (by assumption) ?_
  rotate_left 1
  · intro w hSw; (try dsimp only at hSw); (try obtain ⟨hSw1, hSw2, hSw3⟩ := hSw); (go_simp <;> with_reducible rfl)
  simp only [Act.put, List.getElem_toArray, List.getElem_cons_zero, List.getElem_cons_succ, List.setIfInBounds_toArray, List.set_cons_zero, List.set_cons_succ]
  refine last_take (i := 2) (v := ?_) rfl (by kernel_rfl) (by kernel_rfl) (by kernel_rfl) (by kernel_rfl) (fun _ _ _ h => h) (Or.inl ⟨by rfl, ?_⟩) (by assumption) ?_
  rotate_left 1
  · intro w hSw; (try dsimp only at hSw); (try obtain ⟨hSw1, hSw2, hSw3⟩ := hSw); (go_simp <;> with_reducible rfl)
  simp only [Act.put, List.getElem_toArray, List.getElem_cons_zero, List.getElem_cons_succ, List.setIfInBounds_toArray, List.set_cons_zero, List.set_cons_succ]
  refine last_take (i := 3) (v := ?_) rfl (by kernel_rfl) (by kernel_rfl) (by kernel_rfl) (by kernel_rfl) (fun _ _ _ h => h) (Or.inl ⟨by rfl, ?_⟩) (by assumption) ?_
  rotate_left 1
  · intro w hSw; (try dsimp only at hSw); (try obtain ⟨hSw1, hSw2, hSw3⟩ := hSw); (go_simp <;> with_reducible rfl)
  simp only [Act.put, List.getElem_toArray, List.getElem_cons_zero, List.getElem_cons_succ, List.setIfInBounds_toArray, List.set_cons_zero, List.set_cons_succ]
  refine last_take (i := 4) (v := ?_) rfl (by kernel_rfl) (by kernel_rfl) (by kernel_rfl) (by kernel_rfl) (fun _ _ _ h => h) (Or.inl ⟨by rfl, ?_⟩) (by assumption) ?_
  rotate_left 1
  · intro w hSw; (try dsimp only at hSw); (try obtain ⟨hSw1, hSw2, hSw3⟩ := hSw); (go_simp <;> with_reducible rfl)
  simp only [Act.put, List.getElem_toArray, List.getElem_cons_zero, List.getElem_cons_succ, List.setIfInBounds_toArray, List.set_cons_zero, List.set_cons_succ]
  refine last_take (i := 5) (v := ?_) rfl (by kernel_rfl) (by kernel_rfl) (by kernel_rfl) (by kernel_rfl) (fun _ _ _ h => h) (Or.inl ⟨by rfl, ?_⟩) (by assumption) ?_
  rotate_left 1
  · intro w hSw; (try dsimp only at hSw); (try obtain ⟨hSw1, hSw2, hSw3⟩ := hSw); (go_simp <;> with_reducible rfl)
  simp only [Act.put, List.getElem_toArray, List.getElem_cons_zero, List.getElem_cons_succ, List.setIfInBounds_toArray, List.set_cons_zero, List.set_cons_succ]
  refine last_take (i := 6) (v := ?_) rfl (by kernel_rfl) (by kernel_rfl) (by kernel_rfl) (by kernel_rfl) (fun _ _ _ h => h) (Or.inl ⟨by rfl, ?_⟩) (by assumption) ?_
  rotate_left 1
  · intro w hSw; (try dsimp only at hSw); (try obtain ⟨hSw1, hSw2, hSw3⟩ := hSw); (go_simp <;> with_reducible rfl)
  simp only [Act.put, List.getElem_toArray, List.getElem_cons_zero, List.getElem_cons_succ, List.setIfInBounds_toArray, List.set_cons_zero, List.set_cons_succ]
  refine last_take (i := 7) (v := ?_) rfl (by kernel_rfl) (by kernel_rfl) (by kernel_rfl) (by kernel_rfl) (fun _ _ _ h => h) (Or.inl ⟨by rfl, ?_⟩) (by assumption) ?_
  rotate_left 1
  · intro w hSw; (try dsimp only at hSw); (try obtain ⟨hSw1, hSw2, hSw3⟩ := hSw); (go_simp <;> with_reducible rfl)
  simp only [Act.put, List.getElem_toArray, List.getElem_cons_zero, List.getElem_cons_succ, List.setIfInBounds_toArray, List.set_cons_zero, List.set_cons_succ]
  refine last_take (i := 8) (v := ?_) rfl (by kernel_rfl) (by kernel_rfl) (by kernel_rfl) (by kernel_rfl) (fun _ _ _ h => h) (Or.inl ⟨by rfl, ?_⟩) (by assumption) ?_
  rotate_left 1
  · intro w hSw; (try dsimp only at hSw); (try obtain ⟨hSw1, hSw2, hSw3⟩ := hSw); (go_simp <;> with_reducible rfl)
  simp only [Act.put, List.getElem_toArray, List.getElem_cons_zero, List.getElem_cons_succ, List.setIfInBounds_toArray, List.set_cons_zero, List.set_cons_succ]
  rw [← HW9.out]
  refine last_one (j := 9) (by kernel_rfl) rfl (fun K hK => ?_)
  rw [if_pos (by rfl)]
  refine wp_store_mid 26 (.tmp 5) (.tmp 67) rfl b1 0 #[(.slice t0 q0 c0), (.slice t1 q1 c1), (.slice t2 q2 c2)] rfl rfl HST.out.1 HST.out.2.1 HST.out.2.2 ?_
  refine hK.out _ _ (fun _ => g2') ?_
  try simp only [Act.put, List.getElem_toArray, List.getElem_cons_zero, List.getElem_cons_succ]
  clear hK K
  refine last_one (j := 10) (by kernel_rfl) rfl (fun K hK => ?_)
  rw [if_pos (by rfl)]
  simp only [List.getElem_toArray, List.getElem_cons_zero, List.getElem_cons_succ]
  go_simp
  refine hK.out _ _ (fun e => absurd rfl e) ?_
  clear hK K
  refine last_done (by kernel_rfl) ?_ _
  go_wp2_with fail
  obtain ⟨f1, f2, f3⟩ := HF.out
  refine bodyPost_ret (results_tct rfl _ _ _ ⟨b1, 0, none⟩ (.agg #[(.slice t0 q0 c0), (.slice t1 q1 c1), (.slice t2 q2 c2)]) rfl (run_loadVar_row _ _ 26 26 _ (0, 0) _ f1 Tryz.underlying26 rfl HST.out.2.1)) rfl ?_
  exact ⟨gm, capm, t0, q0, c0, t1, q1, c1, t2, q2, c2, by rw [← HH.out.2.2.2.1]; rfl, f2, f3⟩
end Go.Proofs.YtgaepmmpedaaiaaGreatDoor

namespace Go.Proofs.YtgaepmmpedaaiaaGreatDoor
open Go.RowKit Go.Shelf
set_option linter.unusedVariables false

set_option maxRecDepth 100000 in
set_option maxHeartbeats 4000000 in
theorem same_true (a b : Option Addr) (ca cb ga oa gb ob : Nat) (l : List Stp) (w : World) (hA : Seqs w a ca ga oa l) (hB : Seqs w b cb gb ob l) (hl : l.length ≤ 140737488355328) :
    Calls Tryz.prog 8 #[.slice a l.length ca, .slice b l.length cb] w fun e w' => e = .returned (.bool true) ∧ ∃ q, w' = w.drewN q := by
  obtain ⟨n, hn⟩ : ∃ n, n = l.length := ⟨_, rfl⟩
  have HR := (show Hid (Seqs w a ca ga oa l ∧ Seqs w b cb gb ob l ∧ n = l.length) from ⟨hA, hB, hn⟩)
  rw [← hn] at hl ⊢
  have hle : ((n : Int) != (n : Int)) = false := by simp
  have hnI : (n : Int) ≤ 140737488355328 := by omega
  clear hA hB hn
  go_enter Tryz.func8, Tryz.ntmps8
  go_wp2_with fail
  go_loopw [13] (fun vi wr => ∃ i : Nat, vi = .int .i64 (i : Int) ∧ i ≤ n ∧ Hid (∃ q, wr = w.drewN q)) (fun vi _ => n - (intOf vi).toNat)
  case atStart => exact ⟨0, rfl, Nat.zero_le _, ⟨0, rfl⟩⟩
  case round =>
    obtain ⟨i, rfl, hi, HQ⟩ := hrel
    by_cases hlt : i < n
    · obtain ⟨q, rfl⟩ := HQ.out
      obtain ⟨rA, rB, e1⟩ := HR.out
      obtain rfl := rA.at_.resolve_right (fun e => by rw [e] at e1; simp at e1; omega)
      obtain rfl := rB.at_.resolve_right (fun e => by rw [e] at e1; simp at e1; omega)
      obtain ⟨c1, c2, c3⟩ := rA.cells i (by omega)
      obtain ⟨d1, d2, d3⟩ := rB.cells i (by omega)
      have c1 : (w.drewN q).cell? ⟨ga, oa + i * 3, none⟩ = _ := c1
      have c2 : (w.drewN q).cell? ⟨ga, oa + i * 3 + 1, none⟩ = _ := c2
      have c3 : (w.drewN q).cell? ⟨ga, oa + i * 3 + 2, none⟩ = _ := c3
      have d1 : (w.drewN q).cell? ⟨gb, ob + i * 3, none⟩ = _ := d1
      have d2 : (w.drewN q).cell? ⟨gb, ob + i * 3 + 1, none⟩ = _ := d2
      have d3 : (w.drewN q).cell? ⟨gb, ob + i * 3 + 2, none⟩ = _ := d3
      obtain ⟨s, hs⟩ : ∃ s, s = l[i]?.getD (0, 0, 0) := ⟨_, rfl⟩
      rw [← hs] at c1 c2 c3 d1 d2 d3
      obtain ⟨x, y, z⟩ := s
      dsimp only at c1 c2 c3 d1 d2 d3
      generalize hw : w.drewN q = wq at c1 c2 c3 d1 d2 d3 ⊢
      have HW := (show Hid (w.drewN q = wq) from hw)
      have hltI : (i : Int) < (n : Int) := by omega
      clear hw rA rB HQ e1 hs
      go_wp2_with fail
      go_quiet (fail)
      go_wp2_with fail
      go_roundw
      case rel => exact ⟨i + 1, by go_num, by omega, q + nq, by rw [← HW.out, World.drewN_drewN]⟩
      case measure => simp [intOf]; omega
    · obtain rfl : i = n := by omega
      have hltI : ¬ (i : Int) < (i : Int) := by omega
      go_wp2_with fail
      go_ret
      exact ⟨rfl, HQ.out⟩

theorem steps_eq {l : List Stp} {B : List Nat} {t : Tri} (h : IsLaid l B t) : stepsT t t.n = l := by
  apply List.ext_getElem?
  intro k
  unfold stepsT
  rw [List.getElem?_map]
  by_cases hk : k < l.length
  · rw [List.getElem?_range (by rw [h.n]; exact hk), List.getElem?_eq_getElem hk]
    have x0 := h.x 0 (by omega) k (by rw [h.n]; exact hk)
    have x1 := h.x 1 (by omega) k (by rw [h.n]; exact hk)
    have x2 := h.x 2 (by omega) k (by rw [h.n]; exact hk)
    rw [List.getElem?_eq_getElem hk] at x0 x1 x2
    show some (stepT t k) = some l[k]
    unfold stepT
    rw [← x0, ← x1, ← x2]
    rfl
  · rw [List.getElem?_eq_none (by simp; rw [h.n]; omega), List.getElem?_eq_none (by omega)]
    rfl
/-- What Read answers of a section that tells l. -/
def RdAns (w : World) (l : List Stp) (e : Ending) (w' : World) : Prop :=
  ∃ (a : Option Addr) (cap g off : Nat) (t0 : Option Addr) (q0 c0 : Nat) (t1 : Option Addr) (q1 c1 : Nat) (t2 : Option Addr) (q2 c2 : Nat), e = .returned (.tuple #[.slice a l.length cap, .agg #[.slice t0 q0 c0, .slice t1 q1 c1, .slice t2 q2 c2], .int .i64 0]) ∧ Seqs w' a cap g off l ∧ Keep noBlock w w'
theorem slice_zero (g cap : Nat) (h : 1 ≤ cap) (W : World) : ∃ a' c', ∀ W, (sliceSem 22 (.slice (some ⟨g, 0, none⟩) 1 cap) (some (.int .i64 1)) none none).run Tryz.prog W = .ok (.slice a' 0 c') W := by
  have := run_low5 (some ⟨g, 0, none⟩) 1 cap 1 (Nat.le_refl _)
  exact ⟨_, _, this⟩
theorem readBack_any (w : World) (v : Value) (l : List Stp) (B : List Nat) (hS : SecOf l B) (hO : Ords w) (hown : w.ownsRow 0 5 1 v B.length (u8s B)) (hlt : ∀ j : Nat, B[j]?.getD 0 < 256) (hl : B.length ≤ 131072) :
    Calls Tryz.prog 6 #[v, .agg #[.slice none 0 0, .slice none 0 0, .slice none 0 0]] w fun e w' => RdAns w l e w' := by
  obtain ⟨a, cap, g, rfl, hB, hh⟩ := bytes_own hown hlt (by omega)
  rcases hS with ⟨rfl, rfl⟩ | ⟨t, hL⟩
  · rcases hh with ⟨-, h⟩ | ⟨rfl, cur, h1, h2, -⟩
    · cases h
    · have hc := hB.cells 0 (by simp)
      rw [Nat.add_zero] at hc
      obtain ⟨a', c', hsl⟩ := slice_zero g cap (by have := hB.cap; simpa using this) w
      refine (read_nought g cap w hc (obj_lt h1) c' a' hsl).mono ?_
      rintro e w' ⟨rfl, k⟩
      exact ⟨none, 0, 0, 0, none, 0, 0, none, 0, 0, none, 0, 0, rfl, ⟨.inr rfl, fun j hj => by simp at hj⟩, k⟩
  · have hBl : 1 ≤ B.length := by
      rw [hL.eq]
      simp only [List.length_append, List.length_cons]
      omega
    have hg : g < w.heap.size := hB.block (fun e => by rw [e] at hBl; simp at hBl)
    refine (readL_any w a cap g 0 l B t hB hL hO hl hg).mono ?_
    rintro e w' ⟨gm, cm, t0, q0, c0, t1, q1, c1, t2, q2, c2, rfl, h1, h2⟩
    have e1 := steps_eq hL
    rw [e1] at h1
    exact ⟨some ⟨gm, 0, none⟩, cm, gm, 0, t0, q0, c0, t1, q1, c1, t2, q2, c2, by rw [hL.n], h1, h2⟩
theorem sec_lt {l : List Stp} {B : List Nat} (h : SecOf l B) : ∀ j : Nat, B[j]?.getD 0 < 256 := by
  rcases h with ⟨-, rfl⟩ | ⟨t, h⟩
  · exact lt256 (fun b hb => by simp at hb; omega)
  · rw [h.eq]
    have hk3 : ∀ v, v < 3 → (t.R v).k < 3 := fun v hv => (h.ok.row v hv).told.k
    refine lt_app (lt_app (lt_app (numB_lt _ h.ok.le) (lt256 (fun b hb => by simp at hb; have := kb_lt t.R hk3 3 (Nat.le_refl _); omega))) (tolds_lt t.R 3 (fun v hv q => ?_))) (pack_lt _)
    rcases (h.ok.row v hv).told with ⟨_, e, _⟩ | ⟨c, _, hc, e, _⟩ | ⟨xs, l, _, _, _, _, _, e, _⟩
    · rw [e]; simp
    · rw [e]
      have := (kokV v).le
      match q with
      | 0 => show c < 256; omega
      | _ + 1 => simp
    · rw [e]; exact pack_lt _ q
end Go.Proofs.YtgaepmmpedaaiaaGreatDoor

namespace Go.Proofs.YtgaepmmpedaaiaaGreatDoor
open Go.RowKit Go.Shelf
set_option linter.unusedVariables false

theorem run_high23 (a : Option Addr) (len cap k : Nat) (h1 : k ≤ cap) (w : World) :
    (sliceSem 23 (.slice a len cap) none (some (.int .i64 (k : Int))) none).run Tryz.prog w = .ok (.slice a k cap) w := by
  obtain ⟨i0, hi, hz0, hz1, hz2⟩ := info_parts info42s
  have e : (if cap = 0 then a else a.map (fun x => x.add 0)) = a := by
    split
    · rfl
    · cases a <;> simp [Addr.add]
  simp [sliceSem, Instr.slice, run_underlying Tryz.underlying23, Instr.sliceBounds, Instr.sliceBound, asIntOf, h1, sizeOf, typeInfo, hi, e]
theorem Seqs.take {w : World} {a : Option Addr} {cap g off : Nat} {l : List Stp} (h : Seqs w a cap g off l) (k : Nat) : Seqs w a cap g off (l.take k) := by
  refine ⟨?_, fun j hj => ?_⟩
  · rcases h.at_ with e | e
    · exact .inl e
    · exact .inr (by rw [e]; simp)
  · rw [List.length_take] at hj
    rw [List.getElem?_take, if_pos (by omega)]
    exact h.cells j (by omega)
/-- Can the first i steps be told? -/
def toldP (l : List Stp) (i : Nat) : Bool := toldB (l.take i)
theorem toldP_succ (l : List Stp) (i : Nat) (h : i < l.length) : toldP l (i + 1) = (toldP l i && tellS (l[i]?.getD (0, 0, 0)).1 (l[i]?.getD (0, 0, 0)).2.1 (l[i]?.getD (0, 0, 0)).2.2) := by
  unfold toldP toldB
  rw [List.take_add_one, List.all_append, List.getElem?_eq_getElem h]
  simp
theorem toldP_all (l : List Stp) : toldP l l.length = toldB l := by unfold toldP; rw [List.take_length]

theorem sec_len {l : List Stp} {B : List Nat} (h : SecOf l B) : B.length ≤ 2000000 := by
  rcases h with ⟨-, rfl⟩ | ⟨t, h⟩
  · simp
  · have e1 := h.ok.tl_le t.n (Nat.le_refl _)
    have e2 := h.ok.fs_le 3
    have e3 := (numB_len t.n).1
    have e4 := tolds_len t.R 3 (fun v hv => (h.ok.row v hv).told.len)
    have e5 := h.ok.le
    have e6 : (pack (tlAll t ++ [1])).length = ((tlAll t).length + 8) / 8 := by rw [pack_length, List.length_append]; rfl
    have e7 : (tlAll t).length = (tlD t t.n).length + (fsB t 3).length := by unfold tlAll; rw [List.length_append]
    rw [h.eq]
    simp only [List.length_append, List.length_cons, List.length_nil]
    omega
section
attribute [local go_sem] sliceSem_eq
set_option maxRecDepth 100000 in
set_option maxHeartbeats 16000000 in
theorem bk_law (a : Option Addr) (cap g off : Nat) (l : List Stp) (W : World) (hS : Seqs W a cap g off l) (hO : Ords W) (hl : l.length ≤ 5864062014805) (hle : l.length ≤ cap) :
    Calls Tryz.prog 5 #[.slice a l.length cap] W fun e w' => e = .returned (.bool true) ∧ Keep noBlock W w' := by
  obtain ⟨n, hn⟩ : ∃ n, n = l.length := ⟨_, rfl⟩
  have HWk := (show Hid (∀ w : World, _) from fun w => wakes_any w)
  rw [← hn] at hl hle ⊢
  have hnI : (n : Int) ≤ 5864062014805 := by omega
  have HH := (show Hid (Seqs W a cap g off l ∧ Ords W ∧ n = l.length) from ⟨hS, hO, hn⟩)
  clear hS hO hn
  by_cases hc : 3000 < n ∧ n ≤ 65535
  · have g1 : decide ((3000 : Int) < (n : Int)) = true := decide_eq_true (by omega)
    have g2 : decide ((n : Int) ≤ 65535) = true := decide_eq_true (by omega)
    have hsl := run_high23 a n cap 3000 (by omega)
    rw [show (((3000 : Nat) : Int)) = (3000 : Int) from rfl] at hsl
    obtain ⟨l', hl'⟩ : ∃ l', l' = l.take 3000 := ⟨_, rfl⟩
    have HIn := (show Hid (Seqs W a cap g off l' ∧ Ords W ∧ 3000 = l'.length) from ⟨by rw [hl']; exact HH.out.1.take 3000, HH.out.2.1, by rw [hl', List.length_take]; have := HH.out.2.2; omega⟩)
    obtain ⟨m, hm⟩ : ∃ m, m = 3000 := ⟨_, rfl⟩
    rw [← hm] at HIn
    have hmI : (m : Int) ≤ 5864062014805 := by omega
    rw [show (3000 : Nat) = m from hm.symm] at hsl
    have HMm := hid hm
    clear hc hl' HH hm
    go_enter Tryz.func5, Tryz.ntmps5
    go_wp2_with fail
    go_loopw [3, 23] (fun v3 v23 wr => ∃ i : Nat, v23 = .int .i64 (i : Int) ∧ v3 = .bool (toldP l' i) ∧ i ≤ m ∧ Hid (Keep noBlock W wr)) (fun _ v23 _ => m - (intOf v23).toNat)
    case atStart => exact ⟨0, rfl, by simp [toldP, toldB], Nat.zero_le _, Keep.refl _ _⟩
    case round =>
      obtain ⟨i, rfl, rfl, hi, HC⟩ := hrel
      by_cases hlt : i < m
      · have hiI : (i : Int) < (m : Int) := by omega
        obtain ⟨y1, y2, y3⟩ := HIn.out
        have hS' := y1.keep HC.out
        obtain rfl := hS'.at_.resolve_right (fun e => by rw [e] at y3; simp at y3; omega)
        obtain ⟨d1, d2, d3⟩ := hS'.cells i (by omega)
        have hts := toldP_succ l' i (by omega)
        obtain ⟨s, hs⟩ : ∃ s, s = l'[i]?.getD (0, 0, 0) := ⟨_, rfl⟩
        rw [← hs] at d1 d2 d3 hts
        obtain ⟨x, y, z⟩ := s
        dsimp only at d1 d2 d3 hts
        have HAL := (show Hid (Keep noBlock W (wr.alloc (.cells #[.int .i64 x, .int .i64 y, .int .i64 z] 42))) from HC.out.alloc _)
        have HTS := hid hts
        clear y1 y2 y3 hS' hs hts HC
        cases hb : toldP l' i with
        | false =>
          rw [hb, Bool.false_and] at HTS
          clear hb
          go_wp2_with fail
          go_roundw
          case rel => exact ⟨i + 1, by go_num, by rw [HTS.out], by omega, HAL.out⟩
          case measure => simp [intOf]; omega
        | true =>
          rw [hb, Bool.true_and] at HTS
          clear hb
          by_cases h1 : 0 ≤ x
          rotate_left
          · have g1 : decide (0 ≤ x) = false := decide_eq_false h1
            rw [show tellS x y z = false from by unfold tellS; simp [g1]] at HTS
            clear h1
            go_wp2_with fail
            go_roundw
            case rel => exact ⟨i + 1, by go_num, by rw [HTS.out], by omega, HAL.out⟩
            case measure => simp [intOf]; omega
          have g1 : decide (0 ≤ x) = true := decide_eq_true h1
          by_cases h2 : x ≤ 131071
          rotate_left
          · have g2 : decide (x ≤ 131071) = false := decide_eq_false h2
            rw [show tellS x y z = false from by unfold tellS; simp [g2, g1]] at HTS
            clear h2
            go_wp2_with fail
            go_roundw
            case rel => exact ⟨i + 1, by go_num, by rw [HTS.out], by omega, HAL.out⟩
            case measure => simp [intOf]; omega
          have g2 : decide (x ≤ 131071) = true := decide_eq_true h2
          by_cases h3 : 3 ≤ y
          rotate_left
          · have g3 : decide (3 ≤ y) = false := decide_eq_false h3
            rw [show tellS x y z = false from by unfold tellS; simp [g3, g1, g2]] at HTS
            clear h3
            go_wp2_with fail
            go_roundw
            case rel => exact ⟨i + 1, by go_num, by rw [HTS.out], by omega, HAL.out⟩
            case measure => simp [intOf]; omega
          have g3 : decide (3 ≤ y) = true := decide_eq_true h3
          by_cases h4 : y ≤ 131074
          rotate_left
          · have g4 : decide (y ≤ 131074) = false := decide_eq_false h4
            rw [show tellS x y z = false from by unfold tellS; simp [g4, g1, g2, g3]] at HTS
            clear h4
            go_wp2_with fail
            go_roundw
            case rel => exact ⟨i + 1, by go_num, by rw [HTS.out], by omega, HAL.out⟩
            case measure => simp [intOf]; omega
          have g4 : decide (y ≤ 131074) = true := decide_eq_true h4
          by_cases h5 : 1 ≤ z
          rotate_left
          · have g5 : decide (1 ≤ z) = false := decide_eq_false h5
            rw [show tellS x y z = false from by unfold tellS; simp [g5, g1, g2, g3, g4]] at HTS
            clear h5
            go_wp2_with fail
            go_roundw
            case rel => exact ⟨i + 1, by go_num, by rw [HTS.out], by omega, HAL.out⟩
            case measure => simp [intOf]; omega
          have g5 : decide (1 ≤ z) = true := decide_eq_true h5
          by_cases h6 : z ≤ 268435456
          rotate_left
          · have g6 : decide (z ≤ 268435456) = false := decide_eq_false h6
            rw [show tellS x y z = false from by unfold tellS; simp [g6, g1, g2, g3, g4, g5]] at HTS
            clear h6
            go_wp2_with fail
            go_roundw
            case rel => exact ⟨i + 1, by go_num, by rw [HTS.out], by omega, HAL.out⟩
            case measure => simp [intOf]; omega
          have g6 : decide (z ≤ 268435456) = true := decide_eq_true h6
          rw [show tellS x y z = true from by unfold tellS; simp only [g1, g2, g3, g4, g5, g6]; rfl] at HTS
          clear h1 h2 h3 h4 h5 h6
          go_wp2_with fail
          go_roundw
          case rel => exact ⟨i + 1, by go_num, by rw [HTS.out], by omega, HAL.out⟩
          case measure => simp [intOf]; omega
      · obtain rfl : i = m := by omega
        have hltI : ¬ (i : Int) < (i : Int) := by omega
        obtain ⟨y1, y2, y3⟩ := HIn.out
        have hwr := writeS_any wr a cap g off l' (y1.keep HC.out) (y2.keep HC.out) (by omega)
        rw [show toldP l' i = toldB l' from by rw [y3]; exact toldP_all l']
        rw [← y3] at hwr
        have HWr := hid hwr
        have HS := (show Hid (Seqs wr a cap g off l' ∧ Ords wr ∧ i = l'.length ∧ Keep noBlock W wr) from ⟨y1.keep HC.out, y2.keep HC.out, y3, HC.out⟩)
        clear y1 y2 y3 hwr HC
        cases hb : toldB l' with
        | false =>
          have HB := hid hb
          clear hb
          go_wp2_with fail
          refine HWr.out.mono ?_
          rintro e w2 ⟨k2, ⟨-, rfl⟩ | ⟨h, -⟩ | ⟨h, -⟩⟩
          · have HK2 := hid (HS.out.2.2.2.trans' k2)
            clear k2
            go_wp2_with (go_at_call 10; refine (HWk.out _).mono ?_; rintro e w3 ⟨rfl, k3⟩)
            go_ret
            exact ⟨rfl, HK2.out.trans' k3⟩
          · rw [HB.out] at h; cases h
          · rw [HB.out] at h; cases h
        | true =>
          have HB := hid hb
          clear hb
          by_cases hbig : 65535 < i
          · have hbI : (65535 : Int) < (i : Int) := by omega
            go_wp2_with fail
            refine HWr.out.mono ?_
            rintro e w2 ⟨k2, ⟨h, -⟩ | ⟨-, -, rfl⟩ | ⟨-, h, -⟩⟩
            · rw [HB.out] at h; cases h
            · have HK2 := hid (HS.out.2.2.2.trans' k2)
              clear k2
              go_wp2_with (go_at_call 10; refine (HWk.out _).mono ?_; rintro e w3 ⟨rfl, k3⟩)
              go_ret
              exact ⟨rfl, HK2.out.trans' k3⟩
            · have := HS.out.2.2.1; omega
          · have hbI : ¬ (65535 : Int) < (i : Int) := by omega
            go_wp2_with fail
            refine HWr.out.mono ?_
            rintro e w2 ⟨k2, ⟨h, -⟩ | ⟨-, h, -⟩ | ⟨-, -, v, B, rfl, b1, b2⟩⟩
            · rw [HB.out] at h; cases h
            · have := HS.out.2.2.1; omega
            · have HK2 := (show Hid (Keep noBlock W w2 ∧ Seqs w2 a cap g off l' ∧ i = l'.length) from ⟨HS.out.2.2.2.trans' k2, HS.out.1.keep k2, HS.out.2.2.1⟩)
              have hO2 := HS.out.2.1.keep k2
              have hBl : B.length ≤ 2000000 := sec_len b1
              obtain ⟨ab, capb, gb, hv, -⟩ := bytes_own b2 (sec_lt b1) (by omega)
              have HRd := (show Hid (B.length ≤ 131072 → Calls Tryz.prog 6 #[.slice ab B.length capb, .agg #[.slice none 0 0, .slice none 0 0, .slice none 0 0]] w2 fun e w' => RdAns w2 l' e w') from fun h => by
                have := readBack_any w2 v l' B b1 hO2 b2 (sec_lt b1) h
                rw [hv] at this
                exact this)
              obtain ⟨NB, hNB⟩ : ∃ NB, NB = B.length := ⟨_, rfl⟩
              rw [← hNB] at hv HRd hBl
              subst hv
              have hNI : (NB : Int) ≤ 2000000 := by omega
              clear b1 b2 hO2 hNB k2 HWr HS
              by_cases hlong : 131072 < NB
              · have hgI : (131072 : Int) < (NB : Int) := by omega
                go_wp2_with (go_at_call 10; refine (HWk.out _).mono ?_; rintro e w3 ⟨rfl, k3⟩)
                go_ret
                exact ⟨rfl, HK2.out.1.trans' k3⟩
              · have hgI : ¬ (131072 : Int) < (NB : Int) := by omega
                have HR := hid (HRd.out (by omega))
                clear HRd
                go_wp2_with fail
                refine HR.out.mono ?_
                rintro e w3 ⟨am, cm, gm, om, t0, q0, c0, t1, q1, c1, t2, q2, c2, rfl, s1, s2⟩
                rw [← HK2.out.2.2]
                have HSm := (show Hid (∀ w4, Keep noBlock w3 w4 → Calls Tryz.prog 8 #[.slice a i cap, .slice am i cm] w4 fun e w' => e = .returned (.bool true) ∧ Hid (Keep noBlock W w')) from fun w4 k4 => by
                  have hA := (HK2.out.2.1.keep s2).keep k4
                  have hB := s1.keep k4
                  have := same_true a am cap cm g off gm om l' w4 hA hB (by rw [← HK2.out.2.2]; omega)
                  rw [← HK2.out.2.2] at this
                  refine this.mono ?_
                  rintro e w5 ⟨rfl, q, rfl⟩
                  exact ⟨rfl, ((HK2.out.1.trans' s2).trans' k4).trans' (keep_drewN w4 q)⟩)
                clear s1 s2 HR
                go_wp2_with (go_at_call 8; refine (HSm.out _ ((Keep.refl _ _).alloc _)).mono ?_; rintro e w5 ⟨rfl, HK5⟩)
                refine (HWk.out _).mono ?_
                rintro e w6 ⟨rfl, k6⟩
                go_wp2_with fail
                go_ret
                exact ⟨rfl, HK5.out.trans' k6⟩
  · by_cases hs : 3000 < n
    · have g1 : decide ((3000 : Int) < (n : Int)) = true := decide_eq_true (by omega)
      have g2 : decide ((n : Int) ≤ 65535) = false := decide_eq_false (by omega)
      obtain ⟨m, hm⟩ : ∃ m, m = n := ⟨_, rfl⟩
      obtain ⟨l', hl'⟩ : ∃ l', l' = l := ⟨_, rfl⟩
      have HIn := HH
      rw [← hl', ← hm] at HIn
      rw [← hm] at g1 g2 ⊢
      have hmI : (m : Int) ≤ 5864062014805 := by omega
      clear hc hs hl' HH hl hle hnI hm
      go_enter Tryz.func5, Tryz.ntmps5
      go_wp2_with fail
      go_loopw [3, 23] (fun v3 v23 wr => ∃ i : Nat, v23 = .int .i64 (i : Int) ∧ v3 = .bool (toldP l' i) ∧ i ≤ m ∧ Hid (Keep noBlock W wr)) (fun _ v23 _ => m - (intOf v23).toNat)
      case atStart => exact ⟨0, rfl, by simp [toldP, toldB], Nat.zero_le _, Keep.refl _ _⟩
      case round =>
        obtain ⟨i, rfl, rfl, hi, HC⟩ := hrel
        by_cases hlt : i < m
        · have hiI : (i : Int) < (m : Int) := by omega
          obtain ⟨y1, y2, y3⟩ := HIn.out
          have hS' := y1.keep HC.out
          obtain rfl := hS'.at_.resolve_right (fun e => by rw [e] at y3; simp at y3; omega)
          obtain ⟨d1, d2, d3⟩ := hS'.cells i (by omega)
          have hts := toldP_succ l' i (by omega)
          obtain ⟨s, hs⟩ : ∃ s, s = l'[i]?.getD (0, 0, 0) := ⟨_, rfl⟩
          rw [← hs] at d1 d2 d3 hts
          obtain ⟨x, y, z⟩ := s
          dsimp only at d1 d2 d3 hts
          have HAL := (show Hid (Keep noBlock W (wr.alloc (.cells #[.int .i64 x, .int .i64 y, .int .i64 z] 42))) from HC.out.alloc _)
          have HTS := hid hts
          clear y1 y2 y3 hS' hs hts HC
          cases hb : toldP l' i with
          | false =>
            rw [hb, Bool.false_and] at HTS
            clear hb
            go_wp2_with fail
            go_roundw
            case rel => exact ⟨i + 1, by go_num, by rw [HTS.out], by omega, HAL.out⟩
            case measure => simp [intOf]; omega
          | true =>
            rw [hb, Bool.true_and] at HTS
            clear hb
            by_cases h1 : 0 ≤ x
            rotate_left
            · have g1 : decide (0 ≤ x) = false := decide_eq_false h1
              rw [show tellS x y z = false from by unfold tellS; simp [g1]] at HTS
              clear h1
              go_wp2_with fail
              go_roundw
              case rel => exact ⟨i + 1, by go_num, by rw [HTS.out], by omega, HAL.out⟩
              case measure => simp [intOf]; omega
            have g1 : decide (0 ≤ x) = true := decide_eq_true h1
            by_cases h2 : x ≤ 131071
            rotate_left
            · have g2 : decide (x ≤ 131071) = false := decide_eq_false h2
              rw [show tellS x y z = false from by unfold tellS; simp [g2, g1]] at HTS
              clear h2
              go_wp2_with fail
              go_roundw
              case rel => exact ⟨i + 1, by go_num, by rw [HTS.out], by omega, HAL.out⟩
              case measure => simp [intOf]; omega
            have g2 : decide (x ≤ 131071) = true := decide_eq_true h2
            by_cases h3 : 3 ≤ y
            rotate_left
            · have g3 : decide (3 ≤ y) = false := decide_eq_false h3
              rw [show tellS x y z = false from by unfold tellS; simp [g3, g1, g2]] at HTS
              clear h3
              go_wp2_with fail
              go_roundw
              case rel => exact ⟨i + 1, by go_num, by rw [HTS.out], by omega, HAL.out⟩
              case measure => simp [intOf]; omega
            have g3 : decide (3 ≤ y) = true := decide_eq_true h3
            by_cases h4 : y ≤ 131074
            rotate_left
            · have g4 : decide (y ≤ 131074) = false := decide_eq_false h4
              rw [show tellS x y z = false from by unfold tellS; simp [g4, g1, g2, g3]] at HTS
              clear h4
              go_wp2_with fail
              go_roundw
              case rel => exact ⟨i + 1, by go_num, by rw [HTS.out], by omega, HAL.out⟩
              case measure => simp [intOf]; omega
            have g4 : decide (y ≤ 131074) = true := decide_eq_true h4
            by_cases h5 : 1 ≤ z
            rotate_left
            · have g5 : decide (1 ≤ z) = false := decide_eq_false h5
              rw [show tellS x y z = false from by unfold tellS; simp [g5, g1, g2, g3, g4]] at HTS
              clear h5
              go_wp2_with fail
              go_roundw
              case rel => exact ⟨i + 1, by go_num, by rw [HTS.out], by omega, HAL.out⟩
              case measure => simp [intOf]; omega
            have g5 : decide (1 ≤ z) = true := decide_eq_true h5
            by_cases h6 : z ≤ 268435456
            rotate_left
            · have g6 : decide (z ≤ 268435456) = false := decide_eq_false h6
              rw [show tellS x y z = false from by unfold tellS; simp [g6, g1, g2, g3, g4, g5]] at HTS
              clear h6
              go_wp2_with fail
              go_roundw
              case rel => exact ⟨i + 1, by go_num, by rw [HTS.out], by omega, HAL.out⟩
              case measure => simp [intOf]; omega
            have g6 : decide (z ≤ 268435456) = true := decide_eq_true h6
            rw [show tellS x y z = true from by unfold tellS; simp only [g1, g2, g3, g4, g5, g6]; rfl] at HTS
            clear h1 h2 h3 h4 h5 h6
            go_wp2_with fail
            go_roundw
            case rel => exact ⟨i + 1, by go_num, by rw [HTS.out], by omega, HAL.out⟩
            case measure => simp [intOf]; omega
        · obtain rfl : i = m := by omega
          have hltI : ¬ (i : Int) < (i : Int) := by omega
          obtain ⟨y1, y2, y3⟩ := HIn.out
          have hwr := writeS_any wr a cap g off l' (y1.keep HC.out) (y2.keep HC.out) (by omega)
          rw [show toldP l' i = toldB l' from by rw [y3]; exact toldP_all l']
          rw [← y3] at hwr
          have HWr := hid hwr
          have HS := (show Hid (Seqs wr a cap g off l' ∧ Ords wr ∧ i = l'.length ∧ Keep noBlock W wr) from ⟨y1.keep HC.out, y2.keep HC.out, y3, HC.out⟩)
          clear y1 y2 y3 hwr HC
          cases hb : toldB l' with
          | false =>
            have HB := hid hb
            clear hb
            go_wp2_with fail
            refine HWr.out.mono ?_
            rintro e w2 ⟨k2, ⟨-, rfl⟩ | ⟨h, -⟩ | ⟨h, -⟩⟩
            · have HK2 := hid (HS.out.2.2.2.trans' k2)
              clear k2
              go_wp2_with (go_at_call 10; refine (HWk.out _).mono ?_; rintro e w3 ⟨rfl, k3⟩)
              go_ret
              exact ⟨rfl, HK2.out.trans' k3⟩
            · rw [HB.out] at h; cases h
            · rw [HB.out] at h; cases h
          | true =>
            have HB := hid hb
            clear hb
            by_cases hbig : 65535 < i
            · have hbI : (65535 : Int) < (i : Int) := by omega
              go_wp2_with fail
              refine HWr.out.mono ?_
              rintro e w2 ⟨k2, ⟨h, -⟩ | ⟨-, -, rfl⟩ | ⟨-, h, -⟩⟩
              · rw [HB.out] at h; cases h
              · have HK2 := hid (HS.out.2.2.2.trans' k2)
                clear k2
                go_wp2_with (go_at_call 10; refine (HWk.out _).mono ?_; rintro e w3 ⟨rfl, k3⟩)
                go_ret
                exact ⟨rfl, HK2.out.trans' k3⟩
              · have := HS.out.2.2.1; omega
            · have hbI : ¬ (65535 : Int) < (i : Int) := by omega
              go_wp2_with fail
              refine HWr.out.mono ?_
              rintro e w2 ⟨k2, ⟨h, -⟩ | ⟨-, h, -⟩ | ⟨-, -, v, B, rfl, b1, b2⟩⟩
              · rw [HB.out] at h; cases h
              · have := HS.out.2.2.1; omega
              · have HK2 := (show Hid (Keep noBlock W w2 ∧ Seqs w2 a cap g off l' ∧ i = l'.length) from ⟨HS.out.2.2.2.trans' k2, HS.out.1.keep k2, HS.out.2.2.1⟩)
                have hO2 := HS.out.2.1.keep k2
                have hBl : B.length ≤ 2000000 := sec_len b1
                obtain ⟨ab, capb, gb, hv, -⟩ := bytes_own b2 (sec_lt b1) (by omega)
                have HRd := (show Hid (B.length ≤ 131072 → Calls Tryz.prog 6 #[.slice ab B.length capb, .agg #[.slice none 0 0, .slice none 0 0, .slice none 0 0]] w2 fun e w' => RdAns w2 l' e w') from fun h => by
                  have := readBack_any w2 v l' B b1 hO2 b2 (sec_lt b1) h
                  rw [hv] at this
                  exact this)
                obtain ⟨NB, hNB⟩ : ∃ NB, NB = B.length := ⟨_, rfl⟩
                rw [← hNB] at hv HRd hBl
                subst hv
                have hNI : (NB : Int) ≤ 2000000 := by omega
                clear b1 b2 hO2 hNB k2 HWr HS
                by_cases hlong : 131072 < NB
                · have hgI : (131072 : Int) < (NB : Int) := by omega
                  go_wp2_with (go_at_call 10; refine (HWk.out _).mono ?_; rintro e w3 ⟨rfl, k3⟩)
                  go_ret
                  exact ⟨rfl, HK2.out.1.trans' k3⟩
                · have hgI : ¬ (131072 : Int) < (NB : Int) := by omega
                  have HR := hid (HRd.out (by omega))
                  clear HRd
                  go_wp2_with fail
                  refine HR.out.mono ?_
                  rintro e w3 ⟨am, cm, gm, om, t0, q0, c0, t1, q1, c1, t2, q2, c2, rfl, s1, s2⟩
                  rw [← HK2.out.2.2]
                  have HSm := (show Hid (∀ w4, Keep noBlock w3 w4 → Calls Tryz.prog 8 #[.slice a i cap, .slice am i cm] w4 fun e w' => e = .returned (.bool true) ∧ Hid (Keep noBlock W w')) from fun w4 k4 => by
                    have hA := (HK2.out.2.1.keep s2).keep k4
                    have hB := s1.keep k4
                    have := same_true a am cap cm g off gm om l' w4 hA hB (by rw [← HK2.out.2.2]; omega)
                    rw [← HK2.out.2.2] at this
                    refine this.mono ?_
                    rintro e w5 ⟨rfl, q, rfl⟩
                    exact ⟨rfl, ((HK2.out.1.trans' s2).trans' k4).trans' (keep_drewN w4 q)⟩)
                  clear s1 s2 HR
                  go_wp2_with (go_at_call 8; refine (HSm.out _ ((Keep.refl _ _).alloc _)).mono ?_; rintro e w5 ⟨rfl, HK5⟩)
                  refine (HWk.out _).mono ?_
                  rintro e w6 ⟨rfl, k6⟩
                  go_wp2_with fail
                  go_ret
                  exact ⟨rfl, HK5.out.trans' k6⟩
    · have g1 : decide ((3000 : Int) < (n : Int)) = false := decide_eq_false (by omega)
      obtain ⟨m, hm⟩ : ∃ m, m = n := ⟨_, rfl⟩
      obtain ⟨l', hl'⟩ : ∃ l', l' = l := ⟨_, rfl⟩
      have HIn := HH
      rw [← hl', ← hm] at HIn
      rw [← hm] at g1 ⊢
      have hmI : (m : Int) ≤ 5864062014805 := by omega
      clear hc hs hl' HH hl hle hnI hm
      go_enter Tryz.func5, Tryz.ntmps5
      go_wp2_with fail
      go_loopw [3, 23] (fun v3 v23 wr => ∃ i : Nat, v23 = .int .i64 (i : Int) ∧ v3 = .bool (toldP l' i) ∧ i ≤ m ∧ Hid (Keep noBlock W wr)) (fun _ v23 _ => m - (intOf v23).toNat)
      case atStart => exact ⟨0, rfl, by simp [toldP, toldB], Nat.zero_le _, Keep.refl _ _⟩
      case round =>
        obtain ⟨i, rfl, rfl, hi, HC⟩ := hrel
        by_cases hlt : i < m
        · have hiI : (i : Int) < (m : Int) := by omega
          obtain ⟨y1, y2, y3⟩ := HIn.out
          have hS' := y1.keep HC.out
          obtain rfl := hS'.at_.resolve_right (fun e => by rw [e] at y3; simp at y3; omega)
          obtain ⟨d1, d2, d3⟩ := hS'.cells i (by omega)
          have hts := toldP_succ l' i (by omega)
          obtain ⟨s, hs⟩ : ∃ s, s = l'[i]?.getD (0, 0, 0) := ⟨_, rfl⟩
          rw [← hs] at d1 d2 d3 hts
          obtain ⟨x, y, z⟩ := s
          dsimp only at d1 d2 d3 hts
          have HAL := (show Hid (Keep noBlock W (wr.alloc (.cells #[.int .i64 x, .int .i64 y, .int .i64 z] 42))) from HC.out.alloc _)
          have HTS := hid hts
          clear y1 y2 y3 hS' hs hts HC
          cases hb : toldP l' i with
          | false =>
            rw [hb, Bool.false_and] at HTS
            clear hb
            go_wp2_with fail
            go_roundw
            case rel => exact ⟨i + 1, by go_num, by rw [HTS.out], by omega, HAL.out⟩
            case measure => simp [intOf]; omega
          | true =>
            rw [hb, Bool.true_and] at HTS
            clear hb
            by_cases h1 : 0 ≤ x
            rotate_left
            · have g1 : decide (0 ≤ x) = false := decide_eq_false h1
              rw [show tellS x y z = false from by unfold tellS; simp [g1]] at HTS
              clear h1
              go_wp2_with fail
              go_roundw
              case rel => exact ⟨i + 1, by go_num, by rw [HTS.out], by omega, HAL.out⟩
              case measure => simp [intOf]; omega
            have g1 : decide (0 ≤ x) = true := decide_eq_true h1
            by_cases h2 : x ≤ 131071
            rotate_left
            · have g2 : decide (x ≤ 131071) = false := decide_eq_false h2
              rw [show tellS x y z = false from by unfold tellS; simp [g2, g1]] at HTS
              clear h2
              go_wp2_with fail
              go_roundw
              case rel => exact ⟨i + 1, by go_num, by rw [HTS.out], by omega, HAL.out⟩
              case measure => simp [intOf]; omega
            have g2 : decide (x ≤ 131071) = true := decide_eq_true h2
            by_cases h3 : 3 ≤ y
            rotate_left
            · have g3 : decide (3 ≤ y) = false := decide_eq_false h3
              rw [show tellS x y z = false from by unfold tellS; simp [g3, g1, g2]] at HTS
              clear h3
              go_wp2_with fail
              go_roundw
              case rel => exact ⟨i + 1, by go_num, by rw [HTS.out], by omega, HAL.out⟩
              case measure => simp [intOf]; omega
            have g3 : decide (3 ≤ y) = true := decide_eq_true h3
            by_cases h4 : y ≤ 131074
            rotate_left
            · have g4 : decide (y ≤ 131074) = false := decide_eq_false h4
              rw [show tellS x y z = false from by unfold tellS; simp [g4, g1, g2, g3]] at HTS
              clear h4
              go_wp2_with fail
              go_roundw
              case rel => exact ⟨i + 1, by go_num, by rw [HTS.out], by omega, HAL.out⟩
              case measure => simp [intOf]; omega
            have g4 : decide (y ≤ 131074) = true := decide_eq_true h4
            by_cases h5 : 1 ≤ z
            rotate_left
            · have g5 : decide (1 ≤ z) = false := decide_eq_false h5
              rw [show tellS x y z = false from by unfold tellS; simp [g5, g1, g2, g3, g4]] at HTS
              clear h5
              go_wp2_with fail
              go_roundw
              case rel => exact ⟨i + 1, by go_num, by rw [HTS.out], by omega, HAL.out⟩
              case measure => simp [intOf]; omega
            have g5 : decide (1 ≤ z) = true := decide_eq_true h5
            by_cases h6 : z ≤ 268435456
            rotate_left
            · have g6 : decide (z ≤ 268435456) = false := decide_eq_false h6
              rw [show tellS x y z = false from by unfold tellS; simp [g6, g1, g2, g3, g4, g5]] at HTS
              clear h6
              go_wp2_with fail
              go_roundw
              case rel => exact ⟨i + 1, by go_num, by rw [HTS.out], by omega, HAL.out⟩
              case measure => simp [intOf]; omega
            have g6 : decide (z ≤ 268435456) = true := decide_eq_true h6
            rw [show tellS x y z = true from by unfold tellS; simp only [g1, g2, g3, g4, g5, g6]; rfl] at HTS
            clear h1 h2 h3 h4 h5 h6
            go_wp2_with fail
            go_roundw
            case rel => exact ⟨i + 1, by go_num, by rw [HTS.out], by omega, HAL.out⟩
            case measure => simp [intOf]; omega
        · obtain rfl : i = m := by omega
          have hltI : ¬ (i : Int) < (i : Int) := by omega
          obtain ⟨y1, y2, y3⟩ := HIn.out
          have hwr := writeS_any wr a cap g off l' (y1.keep HC.out) (y2.keep HC.out) (by omega)
          rw [show toldP l' i = toldB l' from by rw [y3]; exact toldP_all l']
          rw [← y3] at hwr
          have HWr := hid hwr
          have HS := (show Hid (Seqs wr a cap g off l' ∧ Ords wr ∧ i = l'.length ∧ Keep noBlock W wr) from ⟨y1.keep HC.out, y2.keep HC.out, y3, HC.out⟩)
          clear y1 y2 y3 hwr HC
          cases hb : toldB l' with
          | false =>
            have HB := hid hb
            clear hb
            go_wp2_with fail
            refine HWr.out.mono ?_
            rintro e w2 ⟨k2, ⟨-, rfl⟩ | ⟨h, -⟩ | ⟨h, -⟩⟩
            · have HK2 := hid (HS.out.2.2.2.trans' k2)
              clear k2
              go_wp2_with (go_at_call 10; refine (HWk.out _).mono ?_; rintro e w3 ⟨rfl, k3⟩)
              go_ret
              exact ⟨rfl, HK2.out.trans' k3⟩
            · rw [HB.out] at h; cases h
            · rw [HB.out] at h; cases h
          | true =>
            have HB := hid hb
            clear hb
            by_cases hbig : 65535 < i
            · have hbI : (65535 : Int) < (i : Int) := by omega
              go_wp2_with fail
              refine HWr.out.mono ?_
              rintro e w2 ⟨k2, ⟨h, -⟩ | ⟨-, -, rfl⟩ | ⟨-, h, -⟩⟩
              · rw [HB.out] at h; cases h
              · have HK2 := hid (HS.out.2.2.2.trans' k2)
                clear k2
                go_wp2_with (go_at_call 10; refine (HWk.out _).mono ?_; rintro e w3 ⟨rfl, k3⟩)
                go_ret
                exact ⟨rfl, HK2.out.trans' k3⟩
              · have := HS.out.2.2.1; omega
            · have hbI : ¬ (65535 : Int) < (i : Int) := by omega
              go_wp2_with fail
              refine HWr.out.mono ?_
              rintro e w2 ⟨k2, ⟨h, -⟩ | ⟨-, h, -⟩ | ⟨-, -, v, B, rfl, b1, b2⟩⟩
              · rw [HB.out] at h; cases h
              · have := HS.out.2.2.1; omega
              · have HK2 := (show Hid (Keep noBlock W w2 ∧ Seqs w2 a cap g off l' ∧ i = l'.length) from ⟨HS.out.2.2.2.trans' k2, HS.out.1.keep k2, HS.out.2.2.1⟩)
                have hO2 := HS.out.2.1.keep k2
                have hBl : B.length ≤ 2000000 := sec_len b1
                obtain ⟨ab, capb, gb, hv, -⟩ := bytes_own b2 (sec_lt b1) (by omega)
                have HRd := (show Hid (B.length ≤ 131072 → Calls Tryz.prog 6 #[.slice ab B.length capb, .agg #[.slice none 0 0, .slice none 0 0, .slice none 0 0]] w2 fun e w' => RdAns w2 l' e w') from fun h => by
                  have := readBack_any w2 v l' B b1 hO2 b2 (sec_lt b1) h
                  rw [hv] at this
                  exact this)
                obtain ⟨NB, hNB⟩ : ∃ NB, NB = B.length := ⟨_, rfl⟩
                rw [← hNB] at hv HRd hBl
                subst hv
                have hNI : (NB : Int) ≤ 2000000 := by omega
                clear b1 b2 hO2 hNB k2 HWr HS
                by_cases hlong : 131072 < NB
                · have hgI : (131072 : Int) < (NB : Int) := by omega
                  go_wp2_with (go_at_call 10; refine (HWk.out _).mono ?_; rintro e w3 ⟨rfl, k3⟩)
                  go_ret
                  exact ⟨rfl, HK2.out.1.trans' k3⟩
                · have hgI : ¬ (131072 : Int) < (NB : Int) := by omega
                  have HR := hid (HRd.out (by omega))
                  clear HRd
                  go_wp2_with fail
                  refine HR.out.mono ?_
                  rintro e w3 ⟨am, cm, gm, om, t0, q0, c0, t1, q1, c1, t2, q2, c2, rfl, s1, s2⟩
                  rw [← HK2.out.2.2]
                  have HSm := (show Hid (∀ w4, Keep noBlock w3 w4 → Calls Tryz.prog 8 #[.slice a i cap, .slice am i cm] w4 fun e w' => e = .returned (.bool true) ∧ Hid (Keep noBlock W w')) from fun w4 k4 => by
                    have hA := (HK2.out.2.1.keep s2).keep k4
                    have hB := s1.keep k4
                    have := same_true a am cap cm g off gm om l' w4 hA hB (by rw [← HK2.out.2.2]; omega)
                    rw [← HK2.out.2.2] at this
                    refine this.mono ?_
                    rintro e w5 ⟨rfl, q, rfl⟩
                    exact ⟨rfl, ((HK2.out.1.trans' s2).trans' k4).trans' (keep_drewN w4 q)⟩)
                  clear s1 s2 HR
                  go_wp2_with (go_at_call 8; refine (HSm.out _ ((Keep.refl _ _).alloc _)).mono ?_; rintro e w5 ⟨rfl, HK5⟩)
                  refine (HWk.out _).mono ?_
                  rintro e w6 ⟨rfl, k6⟩
                  go_wp2_with fail
                  go_ret
                  exact ⟨rfl, HK5.out.trans' k6⟩
end
end Go.Proofs.YtgaepmmpedaaiaaGreatDoor
