/-
  newChains.
-/
import Derived.Test.YtlpibfonpfhakaaDoorNChp
import Derived.Test.YtlpibfonpfhakaaDoorLen
import Derived.Test.YtlpibfonpfhakaaDoorLst
namespace Go.Proofs.YtlpibfonpfhakaaDoor
open Go.RowKit Go.Shelf
set_option linter.unusedVariables false

theorem wrapI_small (r : Nat) (h : r ≤ 1000000) : IntKind.i64.wrap (r : Int) = (r : Int) := by rw [IntKind.wrap_i64]; omega

section
attribute [local go_sem] minSem_eq
set_option maxRecDepth 100000 in
set_option maxHeartbeats 2000000 in
theorem newChains_any (gb off cap window least : Nat) (bs : List Nat) (w : World) (hB : Bytes w (some ⟨gb, off, none⟩) cap gb off bs) (hn2 : 2 ≤ bs.length) (hn : bs.length < 65536) (hw1 : 1 ≤ window) (hw2 : window ≤ 16777216) (hl : least ≤ 65536) :
    Calls Tryd.prog 20 #[.slice (some ⟨gb, off, none⟩) bs.length cap, .int .i64 (window : Int), .int .i64 (least : Int)] w fun e w' => (∃ hb ob hk rk : Nat, e = .returned (.agg #[.slice (some ⟨gb, off, none⟩) bs.length cap, .int .i64 0, .int .i64 (least : Int), .int .u64 ((sumN bs least 0 : Nat) : Int), .int .u64 ((leadM bs least : Nat) : Int), .int .i64 ((64 - hk : Nat) : Int), .slice (some ⟨hb, 0, none⟩) (2 ^ hk) (2 ^ hk), .slice (some ⟨ob, 0, none⟩) (2 ^ rk) (2 ^ rk)]) ∧
      6 ≤ hk ∧ hk ≤ 18 ∧ rk ≤ 16 ∧ w.heap.size ≤ hb ∧ w.heap.size ≤ ob ∧ hb ≠ ob ∧ w'.heap[hb]? = some (.cells (i32s (List.replicate (2 ^ hk) 0)).toArray 21 (0, 0)) ∧ w'.heap[ob]? = some (.cells (i32s (List.replicate (2 ^ rk) 0)).toArray 21 (0, 0))) ∧ Keep noBlock w w' := by
  obtain ⟨g6, hg6⟩ : ∃ g6, g6 = w.heap.size := ⟨_, rfl⟩
  obtain ⟨W0, hW0⟩ : ∃ W0, W0 = w.alloc (.cells #[.slice none 0 0, .int .i64 0, .int .i64 0, .int .u64 0, .int .u64 0, .int .i64 0, .slice none 0 0, .slice none 0 0] 53) := ⟨_, rfl⟩
  have k0 : Keep noBlock w W0 := by rw [hW0]; exact (Keep.refl _ w).alloc _
  have z0 : W0.heap[g6]? = some (.cells #[.slice none 0 0, .int .i64 0, .int .i64 0, .int .u64 0, .int .u64 0, .int .i64 0, .slice none 0 0, .slice none 0 0] 53 (0, 0)) := by rw [hW0, hg6]; exact alloc_new w _
  have HL1 := len_any bs.length (by omega) W0
  obtain ⟨l1, hl1⟩ : ∃ l1, l1 = lenN bs.length := ⟨_, rfl⟩
  rw [← hl1] at HL1
  have HBR := bring_any (l1 : Int) 6 18 W0
  obtain ⟨hk, hhk⟩ : ∃ hk : Nat, bringN (l1 : Int) 6 18 = (hk : Int) := ⟨(bringN (l1 : Int) 6 18).toNat, by unfold bringN; omega⟩
  have hk6 : 6 ≤ hk ∧ hk ≤ 18 := by unfold bringN at hhk; omega
  rw [hhk] at HBR
  obtain ⟨mn, hmn⟩ : ∃ mn, mn = min window bs.length := ⟨_, rfl⟩
  have hmin := minSem_run #[3, 3] 3 (window : Int) (bs.length : Int) (mn : Int) (by omega)
  obtain ⟨m1, hm1⟩ : ∃ m1, m1 = mn - 1 := ⟨_, rfl⟩
  have hsub : (mn : Int) - 1 = (m1 : Int) := by omega
  have HL2 := len_any m1 (by omega) W0
  obtain ⟨rk, hrk⟩ : ∃ rk, rk = lenN m1 := ⟨_, rfl⟩
  rw [← hrk] at HL2
  have hrk2 : rk ≤ 16 := by rw [hrk]; exact lenN_le m1 16 (by omega)
  have HK := (show Hid (Keep noBlock w W0 ∧ W0.heap[g6]? = some (.cells #[.slice none 0 0, .int .i64 0, .int .i64 0, .int .u64 0, .int .u64 0, .int .i64 0, .slice none 0 0, .slice none 0 0] 53 (0, 0)) ∧ w.heap.size ≤ g6) from ⟨k0, z0, Nat.le_of_eq hg6.symm⟩)
  have HNR := (show Hid (∀ W, Keep noBlock w W → Calls Tryd.prog 26 #[.slice (some ⟨gb, off, none⟩) bs.length cap, .int .i64 (least : Int)] W fun e w' => e = .returned (.agg (rollC (some ⟨gb, off, none⟩) bs.length cap 0 least (sumN bs least 0) (leadM bs least))) ∧ Keep noBlock W w') from
    fun W kW => newRoll_any gb off cap least bs W (hB.keep kW (fun _ h => h)) hn (by omega))
  obtain ⟨s0, hs0⟩ : ∃ s0, s0 = sumN bs least 0 := ⟨_, rfl⟩
  obtain ⟨l0, hl0⟩ : ∃ l0, l0 = leadM bs least := ⟨_, rfl⟩
  rw [← hs0, ← hl0] at HNR ⊢
  have hm65 : m1 < 65536 := by omega
  obtain ⟨hh, hhe⟩ : ∃ hh, hh = 2 ^ hk := ⟨_, rfl⟩
  obtain ⟨rr, hre⟩ : ∃ rr, rr = 2 ^ rk := ⟨_, rfl⟩
  obtain ⟨sh, hse⟩ : ∃ sh, sh = 64 - hk := ⟨_, rfl⟩
  have hhb : hh ≤ 262144 := by rw [hhe]; exact Nat.pow_le_pow_right (n := 2) (by omega) hk6.2
  have hrb : rr ≤ 65536 := by rw [hre]; exact Nat.pow_le_pow_right (n := 2) (by omega) hrk2
  have hpw1 : (2 : Int) ^ hk = (hh : Int) := by rw [hhe]; norm_cast
  have hpw2 : (2 : Int) ^ rk = (rr : Int) := by rw [hre]; norm_cast
  have hsh : (64 : Int) - (hk : Int) = (sh : Int) := by omega
  have HSZ := (show Hid (hh ≤ 262144 ∧ rr ≤ 65536) from ⟨hhb, hrb⟩)
  have HEND := (show Hid (∀ (X W' : World) (hb ob : Nat), X.heap[hb]? = some (.cells (i32s (List.replicate hh 0)).toArray 21 (0, 0)) → X.heap[ob]? = some (.cells (i32s (List.replicate rr 0)).toArray 21 (0, 0)) → Keep noBlock w X → (w.heap.size ≤ hb ∧ w.heap.size ≤ ob ∧ hb ≠ ob ∧ hb ≠ g6 ∧ ob ≠ g6) → Keep (fun k => k = g6) X W' →
    (∃ hb' ob' hk' rk' : Nat, Ending.returned (.agg #[.slice (some ⟨gb, off, none⟩) bs.length cap, .int .i64 0, .int .i64 (least : Int), .int .u64 (s0 : Int), .int .u64 (l0 : Int), .int .i64 (sh : Int), .slice (some ⟨hb, 0, none⟩) hh hh, .slice (some ⟨ob, 0, none⟩) rr rr]) = .returned (.agg #[.slice (some ⟨gb, off, none⟩) bs.length cap, .int .i64 0, .int .i64 (least : Int), .int .u64 (s0 : Int), .int .u64 (l0 : Int), .int .i64 ((64 - hk' : Nat) : Int), .slice (some ⟨hb', 0, none⟩) (2 ^ hk') (2 ^ hk'), .slice (some ⟨ob', 0, none⟩) (2 ^ rk') (2 ^ rk')]) ∧
      6 ≤ hk' ∧ hk' ≤ 18 ∧ rk' ≤ 16 ∧ w.heap.size ≤ hb' ∧ w.heap.size ≤ ob' ∧ hb' ≠ ob' ∧ W'.heap[hb']? = some (.cells (i32s (List.replicate (2 ^ hk') 0)).toArray 21 (0, 0)) ∧ W'.heap[ob']? = some (.cells (i32s (List.replicate (2 ^ rk') 0)).toArray 21 (0, 0))) ∧ Keep noBlock w W') from fun X W' hb ob q1 q2 q3 q4 q5 =>
    ⟨⟨hb, ob, hk, rk, by rw [hhe, hre, hse], hk6.1, hk6.2, hrk2, q4.1, q4.2.1, q4.2.2.1, by rw [← hhe]; exact q5.obj q1 q4.2.2.2.1, by rw [← hre]; exact q5.obj q2 q4.2.2.2.2⟩, q3.trans q5 (fun i hi e => by omega)⟩)
  have HW1 := (show Hid (wrap64 ((2 : Int) ^ rk) = (rr : Int)) from (by rw [hpw2]; exact wrap64_small rr (by omega) : wrap64 ((2 : Int) ^ rk) = (rr : Int)))
  have HW6 := (show Hid (IntKind.i64.wrap ((2 : Int) ^ hk) = (hh : Int)) from (by rw [hpw1]; exact wrapI_small hh (by omega) : IntKind.i64.wrap ((2 : Int) ^ hk) = (hh : Int)))
  have hw5 : IntKind.i64.wrap (sh : Int) = (sh : Int) := wrapI_small sh (by omega)
  clear hhe hre hse hpw1 hpw2
  clear hB k0 z0 hl1 hhk hmn hm1 hrk hs0 hl0
  generalize bs.length = n at *
  go_enter Tryd.func20, Tryd.ntmps20
  go_wp2_with fail
  rw [← hW0, ← hg6]
  clear hW0 hg6
  refine HL1.mono ?_
  rintro e W1 ⟨rfl, rfl⟩
  clear HL1
  go_wp2_with fail
  refine HBR.mono ?_
  rintro e W2 ⟨rfl, rfl⟩
  clear HBR
  go_wp2_with fail
  refine HL2.mono ?_
  rintro e W3 ⟨rfl, rfl⟩
  clear HL2
  go_wp2_with fail
  rw [HW1.out]
  have hmkA := run_make_i32 hh (Nat.le_trans HSZ.out.1 (by decide))
  have hmkB := run_make_i32 rr (Nat.le_trans HSZ.out.2 (by decide))
  have k00 : Keep noBlock W3 W3.drew := (Keep.refl _ _).drew
  refine wp_region_any (by kernel_rfl) ?_
  change wpAny _ _ _ _ _ _ _ (World.drew _)
  refine wpAny_take (i := 0) (v := ?_) rfl (by kernel_rfl) (by kernel_rfl) (by kernel_rfl) (fun _ _ _ h => h) (Or.inl ⟨by rfl, ?_⟩) ?_
  rotate_left 1
  · (intro w; go_simp; try with_reducible rfl)
  simp only [Act.put, List.getElem_toArray, List.getElem_cons_zero, List.setIfInBounds_toArray, List.set_cons_zero, List.set_cons_succ]
  refine wpAny_take (i := 1) (v := ?_) rfl (by kernel_rfl) (by kernel_rfl) (by kernel_rfl) (fun _ _ _ h => h) (Or.inl ⟨by rfl, ?_⟩) ?_
  rotate_left 1
  · (intro w; go_simp; try with_reducible rfl)
  simp only [Act.put, List.getElem_toArray, List.getElem_cons_zero, List.getElem_cons_succ, List.setIfInBounds_toArray, List.set_cons_zero, List.set_cons_succ]
  refine wpAny_take (i := 3) (v := ?_) rfl (by kernel_rfl) (by kernel_rfl) (by kernel_rfl) (fun _ _ _ h => h) (Or.inl ⟨by rfl, ?_⟩) ?_
  rotate_left 1
  · (intro w; go_simp; try with_reducible rfl)
  simp only [Act.put, List.getElem_toArray, List.getElem_cons_zero, List.getElem_cons_succ, List.setIfInBounds_toArray, List.set_cons_zero, List.set_cons_succ]
  refine wpAny_take (i := 4) (v := ?_) rfl (by kernel_rfl) (by kernel_rfl) (by kernel_rfl) (fun _ _ _ h => h) (Or.inl ⟨by rfl, ?_⟩) ?_
  rotate_left 1
  · (intro w; go_simp; try with_reducible rfl)
  simp only [Act.put, List.getElem_toArray, List.getElem_cons_zero, List.getElem_cons_succ, List.setIfInBounds_toArray, List.set_cons_zero, List.set_cons_succ]
  refine wpAny_take (i := 5) (v := ?_) rfl (by kernel_rfl) (by kernel_rfl) (by kernel_rfl) (fun _ _ _ h => h) (Or.inl ⟨by rfl, ?_⟩) ?_
  rotate_left 1
  · (intro w; go_simp; try with_reducible rfl)
  simp only [Act.put, List.getElem_toArray, List.getElem_cons_zero, List.getElem_cons_succ, List.setIfInBounds_toArray, List.set_cons_zero, List.set_cons_succ]
  refine wpAny_take (i := 6) (v := ?_) rfl (by kernel_rfl) (by kernel_rfl) (by kernel_rfl) (fun _ _ _ h => h) (Or.inl ⟨by rfl, ?_⟩) ?_
  rotate_left 1
  · (intro w; go_simp; try with_reducible rfl)
  simp only [Act.put, List.getElem_toArray, List.getElem_cons_zero, List.getElem_cons_succ, List.setIfInBounds_toArray, List.set_cons_zero, List.set_cons_succ]
  rw [HW6.out]
  refine wpAny_take (i := 8) (v := ?_) rfl (by kernel_rfl) (by kernel_rfl) (by kernel_rfl) (fun _ _ _ h => h) (Or.inl ⟨by rfl, ?_⟩) ?_
  rotate_left 1
  · (intro w; go_simp; try with_reducible rfl)
  simp only [Act.put, List.getElem_toArray, List.getElem_cons_zero, List.getElem_cons_succ, List.setIfInBounds_toArray, List.set_cons_zero, List.set_cons_succ]
  obtain ⟨X0, eX0⟩ : ∃ X, X = W3.drew := ⟨_, rfl⟩
  have kx0 : Keep noBlock W3 X0 := by rw [eX0]; exact (Keep.refl _ _).drew
  rw [← eX0]
  clear eX0
  refine wpAny_ready (rs := [2, 7, 9]) (by kernel_rfl) (by simp) ?_
  refine AllReady.cons rfl (fun K hK => ?_) ?_
  · rw [if_pos (by rfl)]
    simp only [List.getElem_toArray, List.getElem_cons_zero, List.getElem_cons_succ]
    go_simp
    refine (HNR.out X0 (HK.out.1.trans' kx0)).mono ?_
    rintro e X1 ⟨rfl, kk1⟩
    have kx1 : Keep noBlock W3 X1 := Keep.trans' kx0 kk1
    refine hK _ _ ?_
    clear hK K
    try simp only [Act.put, List.getElem_toArray, List.getElem_cons_zero, List.getElem_cons_succ, List.setIfInBounds_toArray, List.set_cons_zero, List.set_cons_succ]
    refine wpAny_ready (rs := [7, 9]) (by kernel_rfl) (by simp) ?_
    refine AllReady.cons rfl (fun K hK => ?_) ?_
    · rw [if_pos (by rfl)]
      simp only [List.getElem_toArray, List.getElem_cons_zero, List.getElem_cons_succ]
      go_simp
      obtain ⟨X2, eX2⟩ : ∃ X, X = World.alloc X1 (.cells (i32s (List.replicate hh 0)).toArray 21) := ⟨_, rfl⟩
      have kx2 : Keep noBlock W3 X2 := by rw [eX2]; exact Keep.alloc kx1 _
      have xn2 : X2.heap[X1.heap.size]? = some (.cells (i32s (List.replicate hh 0)).toArray 21 (0, 0)) := by rw [eX2]; exact alloc_new X1 _
      have bb7 : w.heap.size ≤ X1.heap.size ∧ X1.heap.size ≠ g6 := ⟨(HK.out.1.trans' kx1).size, Nat.ne_of_gt (obj_lt (kx1.obj HK.out.2.1 (fun h => h)))⟩
      refine hK _ _ ?_
      clear hK K
      try simp only [Act.put, List.getElem_toArray, List.getElem_cons_zero, List.getElem_cons_succ, List.setIfInBounds_toArray, List.set_cons_zero, List.set_cons_succ]
      try rw [← eX2]
      clear eX2
      refine wpAny_ready (rs := [9]) (by kernel_rfl) (by simp) ?_
      refine AllReady.cons rfl (fun K hK => ?_) ?_
      · rw [if_pos (by rfl)]
        simp only [List.getElem_toArray, List.getElem_cons_zero, List.getElem_cons_succ]
        go_simp
        obtain ⟨X3, eX3⟩ : ∃ X, X = World.alloc X2 (.cells (i32s (List.replicate rr 0)).toArray 21) := ⟨_, rfl⟩
        have kx3 : Keep noBlock W3 X3 := by rw [eX3]; exact Keep.alloc kx2 _
        have xn3 : X3.heap[X2.heap.size]? = some (.cells (i32s (List.replicate rr 0)).toArray 21 (0, 0)) := by rw [eX3]; exact alloc_new X2 _
        have bb9 : w.heap.size ≤ X2.heap.size ∧ X2.heap.size ≠ g6 := ⟨(HK.out.1.trans' kx2).size, Nat.ne_of_gt (obj_lt (kx2.obj HK.out.2.1 (fun h => h)))⟩
        have nn : X1.heap.size ≠ X2.heap.size := Nat.ne_of_lt (obj_lt xn2)
        have xh3 : X3.heap[X1.heap.size]? = some (.cells (i32s (List.replicate hh 0)).toArray 21 (0, 0)) := by rw [eX3]; exact alloc_far xn2 _
        refine hK _ _ ?_
        clear hK K
        try simp only [Act.put, List.getElem_toArray, List.getElem_cons_zero, List.getElem_cons_succ, List.setIfInBounds_toArray, List.set_cons_zero, List.set_cons_succ]
        try rw [← eX3]
        clear eX3
        have zl := kx3.obj HK.out.2.1 (fun h => h)
        have y0 : World.cell? X3 ⟨g6, 0, none⟩ = some (.slice none 0 0) := cell_of zl 0
        have y1 : World.cell? X3 ⟨g6, 1, none⟩ = some (.int .i64 0) := cell_of zl 1
        have y2 : World.cell? X3 ⟨g6, 2, none⟩ = some (.int .i64 0) := cell_of zl 2
        have y3 : World.cell? X3 ⟨g6, 3, none⟩ = some (.int .u64 0) := cell_of zl 3
        have y4 : World.cell? X3 ⟨g6, 4, none⟩ = some (.int .u64 0) := cell_of zl 4
        have y5 : World.cell? X3 ⟨g6, 5, none⟩ = some (.int .i64 0) := cell_of zl 5
        have y6 : World.cell? X3 ⟨g6, 6, none⟩ = some (.slice none 0 0) := cell_of zl 6
        have y7 : World.cell? X3 ⟨g6, 7, none⟩ = some (.slice none 0 0) := cell_of zl 7
        have f0 := frozen_of zl 0
        have f1 := frozen_of zl 1
        have f2 := frozen_of zl 2
        have f3 := frozen_of zl 3
        have f4 := frozen_of zl 4
        have f5 := frozen_of zl 5
        have f6 := frozen_of zl 6
        have f7 := frozen_of zl 7
        have HH := (show Hid (X3.heap[X1.heap.size]? = some (.cells (i32s (List.replicate hh 0)).toArray 21 (0, 0)) ∧ X3.heap[X2.heap.size]? = some (.cells (i32s (List.replicate rr 0)).toArray 21 (0, 0)) ∧ Keep noBlock w X3 ∧ X3.heap[g6]? = some (.cells #[.slice none 0 0, .int .i64 0, .int .i64 0, .int .u64 0, .int .u64 0, .int .i64 0, .slice none 0 0, .slice none 0 0] 53 (0, 0))) from ⟨xh3, xn3, HK.out.1.trans' kx3, zl⟩)
        have HS := (show Hid (w.heap.size ≤ X1.heap.size ∧ w.heap.size ≤ X2.heap.size ∧ X1.heap.size ≠ X2.heap.size ∧ X1.heap.size ≠ g6 ∧ X2.heap.size ≠ g6) from ⟨bb7.1, bb9.1, nn, bb7.2, bb9.2⟩)
        refine wpAny_take (i := 10) (v := ?_) rfl (by kernel_rfl) (by kernel_rfl) (by kernel_rfl) (fun _ _ _ h => h) (Or.inl ⟨by rfl, ?_⟩) ?_
        rotate_left 1
        · (intro w; go_simp; try with_reducible rfl)
        simp only [Act.put, List.getElem_toArray, List.getElem_cons_zero, List.getElem_cons_succ, List.setIfInBounds_toArray, List.set_cons_zero, List.set_cons_succ]
        refine wpAny_ready (rs := [11]) (by kernel_rfl) (by simp) ?_
        refine AllReady.cons rfl (fun K hK => ?_) AllReady.nil
        rw [if_pos (by rfl)]
        simp only [List.getElem_toArray, List.getElem_cons_zero, List.getElem_cons_succ]
        go_simp
        refine hK _ _ ?_
        clear hK K
        refine wpAny_done (by kernel_rfl) ?_ _
        go_wp2_with fail
        refine bodyPost_ret (ret53 rfl _ _ g6 53 _ rfl (put8 HH.out.2.2.2 _ _ _ _ _ _ _ _) rfl) rfl ?_
        exact HEND.out X3 _ _ _ HH.out.1 HH.out.2.1 HH.out.2.2.1 HS.out (keep8 _ _ _ _ _ _ _ _ _ _)
      exact AllReady.nil
    refine AllReady.cons rfl (fun K hK => ?_) ?_
    · rw [if_pos (by rfl)]
      simp only [List.getElem_toArray, List.getElem_cons_zero, List.getElem_cons_succ]
      go_simp
      obtain ⟨X4, eX4⟩ : ∃ X, X = World.alloc X1 (.cells (i32s (List.replicate rr 0)).toArray 21) := ⟨_, rfl⟩
      have kx4 : Keep noBlock W3 X4 := by rw [eX4]; exact Keep.alloc kx1 _
      have xn4 : X4.heap[X1.heap.size]? = some (.cells (i32s (List.replicate rr 0)).toArray 21 (0, 0)) := by rw [eX4]; exact alloc_new X1 _
      have bb9 : w.heap.size ≤ X1.heap.size ∧ X1.heap.size ≠ g6 := ⟨(HK.out.1.trans' kx1).size, Nat.ne_of_gt (obj_lt (kx1.obj HK.out.2.1 (fun h => h)))⟩
      refine hK _ _ ?_
      clear hK K
      try simp only [Act.put, List.getElem_toArray, List.getElem_cons_zero, List.getElem_cons_succ, List.setIfInBounds_toArray, List.set_cons_zero, List.set_cons_succ]
      try rw [← eX4]
      clear eX4
      refine wpAny_ready (rs := [7]) (by kernel_rfl) (by simp) ?_
      refine AllReady.cons rfl (fun K hK => ?_) ?_
      · rw [if_pos (by rfl)]
        simp only [List.getElem_toArray, List.getElem_cons_zero, List.getElem_cons_succ]
        go_simp
        obtain ⟨X5, eX5⟩ : ∃ X, X = World.alloc X4 (.cells (i32s (List.replicate hh 0)).toArray 21) := ⟨_, rfl⟩
        have kx5 : Keep noBlock W3 X5 := by rw [eX5]; exact Keep.alloc kx4 _
        have xn5 : X5.heap[X4.heap.size]? = some (.cells (i32s (List.replicate hh 0)).toArray 21 (0, 0)) := by rw [eX5]; exact alloc_new X4 _
        have bb7 : w.heap.size ≤ X4.heap.size ∧ X4.heap.size ≠ g6 := ⟨(HK.out.1.trans' kx4).size, Nat.ne_of_gt (obj_lt (kx4.obj HK.out.2.1 (fun h => h)))⟩
        have nn : X4.heap.size ≠ X1.heap.size := Nat.ne_of_gt (obj_lt xn4)
        have xo5 : X5.heap[X1.heap.size]? = some (.cells (i32s (List.replicate rr 0)).toArray 21 (0, 0)) := by rw [eX5]; exact alloc_far xn4 _
        refine hK _ _ ?_
        clear hK K
        try simp only [Act.put, List.getElem_toArray, List.getElem_cons_zero, List.getElem_cons_succ, List.setIfInBounds_toArray, List.set_cons_zero, List.set_cons_succ]
        try rw [← eX5]
        clear eX5
        have zl := kx5.obj HK.out.2.1 (fun h => h)
        have y0 : World.cell? X5 ⟨g6, 0, none⟩ = some (.slice none 0 0) := cell_of zl 0
        have y1 : World.cell? X5 ⟨g6, 1, none⟩ = some (.int .i64 0) := cell_of zl 1
        have y2 : World.cell? X5 ⟨g6, 2, none⟩ = some (.int .i64 0) := cell_of zl 2
        have y3 : World.cell? X5 ⟨g6, 3, none⟩ = some (.int .u64 0) := cell_of zl 3
        have y4 : World.cell? X5 ⟨g6, 4, none⟩ = some (.int .u64 0) := cell_of zl 4
        have y5 : World.cell? X5 ⟨g6, 5, none⟩ = some (.int .i64 0) := cell_of zl 5
        have y6 : World.cell? X5 ⟨g6, 6, none⟩ = some (.slice none 0 0) := cell_of zl 6
        have y7 : World.cell? X5 ⟨g6, 7, none⟩ = some (.slice none 0 0) := cell_of zl 7
        have f0 := frozen_of zl 0
        have f1 := frozen_of zl 1
        have f2 := frozen_of zl 2
        have f3 := frozen_of zl 3
        have f4 := frozen_of zl 4
        have f5 := frozen_of zl 5
        have f6 := frozen_of zl 6
        have f7 := frozen_of zl 7
        have HH := (show Hid (X5.heap[X4.heap.size]? = some (.cells (i32s (List.replicate hh 0)).toArray 21 (0, 0)) ∧ X5.heap[X1.heap.size]? = some (.cells (i32s (List.replicate rr 0)).toArray 21 (0, 0)) ∧ Keep noBlock w X5 ∧ X5.heap[g6]? = some (.cells #[.slice none 0 0, .int .i64 0, .int .i64 0, .int .u64 0, .int .u64 0, .int .i64 0, .slice none 0 0, .slice none 0 0] 53 (0, 0))) from ⟨xn5, xo5, HK.out.1.trans' kx5, zl⟩)
        have HS := (show Hid (w.heap.size ≤ X4.heap.size ∧ w.heap.size ≤ X1.heap.size ∧ X4.heap.size ≠ X1.heap.size ∧ X4.heap.size ≠ g6 ∧ X1.heap.size ≠ g6) from ⟨bb7.1, bb9.1, nn, bb7.2, bb9.2⟩)
        refine wpAny_take (i := 10) (v := ?_) rfl (by kernel_rfl) (by kernel_rfl) (by kernel_rfl) (fun _ _ _ h => h) (Or.inl ⟨by rfl, ?_⟩) ?_
        rotate_left 1
        · (intro w; go_simp; try with_reducible rfl)
        simp only [Act.put, List.getElem_toArray, List.getElem_cons_zero, List.getElem_cons_succ, List.setIfInBounds_toArray, List.set_cons_zero, List.set_cons_succ]
        refine wpAny_ready (rs := [11]) (by kernel_rfl) (by simp) ?_
        refine AllReady.cons rfl (fun K hK => ?_) AllReady.nil
        rw [if_pos (by rfl)]
        simp only [List.getElem_toArray, List.getElem_cons_zero, List.getElem_cons_succ]
        go_simp
        refine hK _ _ ?_
        clear hK K
        refine wpAny_done (by kernel_rfl) ?_ _
        go_wp2_with fail
        refine bodyPost_ret (ret53 rfl _ _ g6 53 _ rfl (put8 HH.out.2.2.2 _ _ _ _ _ _ _ _) rfl) rfl ?_
        exact HEND.out X5 _ _ _ HH.out.1 HH.out.2.1 HH.out.2.2.1 HS.out (keep8 _ _ _ _ _ _ _ _ _ _)
      exact AllReady.nil
    exact AllReady.nil
  refine AllReady.cons rfl (fun K hK => ?_) ?_
  · rw [if_pos (by rfl)]
    simp only [List.getElem_toArray, List.getElem_cons_zero, List.getElem_cons_succ]
    go_simp
    obtain ⟨X6, eX6⟩ : ∃ X, X = World.alloc X0 (.cells (i32s (List.replicate hh 0)).toArray 21) := ⟨_, rfl⟩
    have kx6 : Keep noBlock W3 X6 := by rw [eX6]; exact Keep.alloc kx0 _
    have xn6 : X6.heap[X0.heap.size]? = some (.cells (i32s (List.replicate hh 0)).toArray 21 (0, 0)) := by rw [eX6]; exact alloc_new X0 _
    have bb7 : w.heap.size ≤ X0.heap.size ∧ X0.heap.size ≠ g6 := ⟨(HK.out.1.trans' kx0).size, Nat.ne_of_gt (obj_lt (kx0.obj HK.out.2.1 (fun h => h)))⟩
    refine hK _ _ ?_
    clear hK K
    try simp only [Act.put, List.getElem_toArray, List.getElem_cons_zero, List.getElem_cons_succ, List.setIfInBounds_toArray, List.set_cons_zero, List.set_cons_succ]
    try rw [← eX6]
    clear eX6
    refine wpAny_ready (rs := [2, 9]) (by kernel_rfl) (by simp) ?_
    refine AllReady.cons rfl (fun K hK => ?_) ?_
    · rw [if_pos (by rfl)]
      simp only [List.getElem_toArray, List.getElem_cons_zero, List.getElem_cons_succ]
      go_simp
      refine (HNR.out X6 (HK.out.1.trans' kx6)).mono ?_
      rintro e X7 ⟨rfl, kk7⟩
      have kx7 : Keep noBlock W3 X7 := Keep.trans' kx6 kk7
      have xh7 := kk7.obj xn6 (fun h => h)
      refine hK _ _ ?_
      clear hK K
      try simp only [Act.put, List.getElem_toArray, List.getElem_cons_zero, List.getElem_cons_succ, List.setIfInBounds_toArray, List.set_cons_zero, List.set_cons_succ]
      refine wpAny_ready (rs := [9]) (by kernel_rfl) (by simp) ?_
      refine AllReady.cons rfl (fun K hK => ?_) ?_
      · rw [if_pos (by rfl)]
        simp only [List.getElem_toArray, List.getElem_cons_zero, List.getElem_cons_succ]
        go_simp
        obtain ⟨X8, eX8⟩ : ∃ X, X = World.alloc X7 (.cells (i32s (List.replicate rr 0)).toArray 21) := ⟨_, rfl⟩
        have kx8 : Keep noBlock W3 X8 := by rw [eX8]; exact Keep.alloc kx7 _
        have xn8 : X8.heap[X7.heap.size]? = some (.cells (i32s (List.replicate rr 0)).toArray 21 (0, 0)) := by rw [eX8]; exact alloc_new X7 _
        have bb9 : w.heap.size ≤ X7.heap.size ∧ X7.heap.size ≠ g6 := ⟨(HK.out.1.trans' kx7).size, Nat.ne_of_gt (obj_lt (kx7.obj HK.out.2.1 (fun h => h)))⟩
        have nn : X0.heap.size ≠ X7.heap.size := Nat.ne_of_lt (obj_lt xh7)
        have xh8 : X8.heap[X0.heap.size]? = some (.cells (i32s (List.replicate hh 0)).toArray 21 (0, 0)) := by rw [eX8]; exact alloc_far xh7 _
        refine hK _ _ ?_
        clear hK K
        try simp only [Act.put, List.getElem_toArray, List.getElem_cons_zero, List.getElem_cons_succ, List.setIfInBounds_toArray, List.set_cons_zero, List.set_cons_succ]
        try rw [← eX8]
        clear eX8
        have zl := kx8.obj HK.out.2.1 (fun h => h)
        have y0 : World.cell? X8 ⟨g6, 0, none⟩ = some (.slice none 0 0) := cell_of zl 0
        have y1 : World.cell? X8 ⟨g6, 1, none⟩ = some (.int .i64 0) := cell_of zl 1
        have y2 : World.cell? X8 ⟨g6, 2, none⟩ = some (.int .i64 0) := cell_of zl 2
        have y3 : World.cell? X8 ⟨g6, 3, none⟩ = some (.int .u64 0) := cell_of zl 3
        have y4 : World.cell? X8 ⟨g6, 4, none⟩ = some (.int .u64 0) := cell_of zl 4
        have y5 : World.cell? X8 ⟨g6, 5, none⟩ = some (.int .i64 0) := cell_of zl 5
        have y6 : World.cell? X8 ⟨g6, 6, none⟩ = some (.slice none 0 0) := cell_of zl 6
        have y7 : World.cell? X8 ⟨g6, 7, none⟩ = some (.slice none 0 0) := cell_of zl 7
        have f0 := frozen_of zl 0
        have f1 := frozen_of zl 1
        have f2 := frozen_of zl 2
        have f3 := frozen_of zl 3
        have f4 := frozen_of zl 4
        have f5 := frozen_of zl 5
        have f6 := frozen_of zl 6
        have f7 := frozen_of zl 7
        have HH := (show Hid (X8.heap[X0.heap.size]? = some (.cells (i32s (List.replicate hh 0)).toArray 21 (0, 0)) ∧ X8.heap[X7.heap.size]? = some (.cells (i32s (List.replicate rr 0)).toArray 21 (0, 0)) ∧ Keep noBlock w X8 ∧ X8.heap[g6]? = some (.cells #[.slice none 0 0, .int .i64 0, .int .i64 0, .int .u64 0, .int .u64 0, .int .i64 0, .slice none 0 0, .slice none 0 0] 53 (0, 0))) from ⟨xh8, xn8, HK.out.1.trans' kx8, zl⟩)
        have HS := (show Hid (w.heap.size ≤ X0.heap.size ∧ w.heap.size ≤ X7.heap.size ∧ X0.heap.size ≠ X7.heap.size ∧ X0.heap.size ≠ g6 ∧ X7.heap.size ≠ g6) from ⟨bb7.1, bb9.1, nn, bb7.2, bb9.2⟩)
        refine wpAny_take (i := 10) (v := ?_) rfl (by kernel_rfl) (by kernel_rfl) (by kernel_rfl) (fun _ _ _ h => h) (Or.inl ⟨by rfl, ?_⟩) ?_
        rotate_left 1
        · (intro w; go_simp; try with_reducible rfl)
        simp only [Act.put, List.getElem_toArray, List.getElem_cons_zero, List.getElem_cons_succ, List.setIfInBounds_toArray, List.set_cons_zero, List.set_cons_succ]
        refine wpAny_ready (rs := [11]) (by kernel_rfl) (by simp) ?_
        refine AllReady.cons rfl (fun K hK => ?_) AllReady.nil
        rw [if_pos (by rfl)]
        simp only [List.getElem_toArray, List.getElem_cons_zero, List.getElem_cons_succ]
        go_simp
        refine hK _ _ ?_
        clear hK K
        refine wpAny_done (by kernel_rfl) ?_ _
        go_wp2_with fail
        refine bodyPost_ret (ret53 rfl _ _ g6 53 _ rfl (put8 HH.out.2.2.2 _ _ _ _ _ _ _ _) rfl) rfl ?_
        exact HEND.out X8 _ _ _ HH.out.1 HH.out.2.1 HH.out.2.2.1 HS.out (keep8 _ _ _ _ _ _ _ _ _ _)
      exact AllReady.nil
    refine AllReady.cons rfl (fun K hK => ?_) ?_
    · rw [if_pos (by rfl)]
      simp only [List.getElem_toArray, List.getElem_cons_zero, List.getElem_cons_succ]
      go_simp
      obtain ⟨X9, eX9⟩ : ∃ X, X = World.alloc X6 (.cells (i32s (List.replicate rr 0)).toArray 21) := ⟨_, rfl⟩
      have kx9 : Keep noBlock W3 X9 := by rw [eX9]; exact Keep.alloc kx6 _
      have xn9 : X9.heap[X6.heap.size]? = some (.cells (i32s (List.replicate rr 0)).toArray 21 (0, 0)) := by rw [eX9]; exact alloc_new X6 _
      have bb9 : w.heap.size ≤ X6.heap.size ∧ X6.heap.size ≠ g6 := ⟨(HK.out.1.trans' kx6).size, Nat.ne_of_gt (obj_lt (kx6.obj HK.out.2.1 (fun h => h)))⟩
      have nn : X0.heap.size ≠ X6.heap.size := Nat.ne_of_lt (obj_lt xn6)
      have xh9 : X9.heap[X0.heap.size]? = some (.cells (i32s (List.replicate hh 0)).toArray 21 (0, 0)) := by rw [eX9]; exact alloc_far xn6 _
      refine hK _ _ ?_
      clear hK K
      try simp only [Act.put, List.getElem_toArray, List.getElem_cons_zero, List.getElem_cons_succ, List.setIfInBounds_toArray, List.set_cons_zero, List.set_cons_succ]
      try rw [← eX9]
      clear eX9
      refine wpAny_ready (rs := [2]) (by kernel_rfl) (by simp) ?_
      refine AllReady.cons rfl (fun K hK => ?_) ?_
      · rw [if_pos (by rfl)]
        simp only [List.getElem_toArray, List.getElem_cons_zero, List.getElem_cons_succ]
        go_simp
        refine (HNR.out X9 (HK.out.1.trans' kx9)).mono ?_
        rintro e X10 ⟨rfl, kk10⟩
        have kx10 : Keep noBlock W3 X10 := Keep.trans' kx9 kk10
        have xh10 := kk10.obj xh9 (fun h => h)
        have xo10 := kk10.obj xn9 (fun h => h)
        refine hK _ _ ?_
        clear hK K
        try simp only [Act.put, List.getElem_toArray, List.getElem_cons_zero, List.getElem_cons_succ, List.setIfInBounds_toArray, List.set_cons_zero, List.set_cons_succ]
        have zl := kx10.obj HK.out.2.1 (fun h => h)
        have y0 : World.cell? X10 ⟨g6, 0, none⟩ = some (.slice none 0 0) := cell_of zl 0
        have y1 : World.cell? X10 ⟨g6, 1, none⟩ = some (.int .i64 0) := cell_of zl 1
        have y2 : World.cell? X10 ⟨g6, 2, none⟩ = some (.int .i64 0) := cell_of zl 2
        have y3 : World.cell? X10 ⟨g6, 3, none⟩ = some (.int .u64 0) := cell_of zl 3
        have y4 : World.cell? X10 ⟨g6, 4, none⟩ = some (.int .u64 0) := cell_of zl 4
        have y5 : World.cell? X10 ⟨g6, 5, none⟩ = some (.int .i64 0) := cell_of zl 5
        have y6 : World.cell? X10 ⟨g6, 6, none⟩ = some (.slice none 0 0) := cell_of zl 6
        have y7 : World.cell? X10 ⟨g6, 7, none⟩ = some (.slice none 0 0) := cell_of zl 7
        have f0 := frozen_of zl 0
        have f1 := frozen_of zl 1
        have f2 := frozen_of zl 2
        have f3 := frozen_of zl 3
        have f4 := frozen_of zl 4
        have f5 := frozen_of zl 5
        have f6 := frozen_of zl 6
        have f7 := frozen_of zl 7
        have HH := (show Hid (X10.heap[X0.heap.size]? = some (.cells (i32s (List.replicate hh 0)).toArray 21 (0, 0)) ∧ X10.heap[X6.heap.size]? = some (.cells (i32s (List.replicate rr 0)).toArray 21 (0, 0)) ∧ Keep noBlock w X10 ∧ X10.heap[g6]? = some (.cells #[.slice none 0 0, .int .i64 0, .int .i64 0, .int .u64 0, .int .u64 0, .int .i64 0, .slice none 0 0, .slice none 0 0] 53 (0, 0))) from ⟨xh10, xo10, HK.out.1.trans' kx10, zl⟩)
        have HS := (show Hid (w.heap.size ≤ X0.heap.size ∧ w.heap.size ≤ X6.heap.size ∧ X0.heap.size ≠ X6.heap.size ∧ X0.heap.size ≠ g6 ∧ X6.heap.size ≠ g6) from ⟨bb7.1, bb9.1, nn, bb7.2, bb9.2⟩)
        refine wpAny_take (i := 10) (v := ?_) rfl (by kernel_rfl) (by kernel_rfl) (by kernel_rfl) (fun _ _ _ h => h) (Or.inl ⟨by rfl, ?_⟩) ?_
        rotate_left 1
        · (intro w; go_simp; try with_reducible rfl)
        simp only [Act.put, List.getElem_toArray, List.getElem_cons_zero, List.getElem_cons_succ, List.setIfInBounds_toArray, List.set_cons_zero, List.set_cons_succ]
        refine wpAny_ready (rs := [11]) (by kernel_rfl) (by simp) ?_
        refine AllReady.cons rfl (fun K hK => ?_) AllReady.nil
        rw [if_pos (by rfl)]
        simp only [List.getElem_toArray, List.getElem_cons_zero, List.getElem_cons_succ]
        go_simp
        refine hK _ _ ?_
        clear hK K
        refine wpAny_done (by kernel_rfl) ?_ _
        go_wp2_with fail
        refine bodyPost_ret (ret53 rfl _ _ g6 53 _ rfl (put8 HH.out.2.2.2 _ _ _ _ _ _ _ _) rfl) rfl ?_
        exact HEND.out X10 _ _ _ HH.out.1 HH.out.2.1 HH.out.2.2.1 HS.out (keep8 _ _ _ _ _ _ _ _ _ _)
      exact AllReady.nil
    exact AllReady.nil
  refine AllReady.cons rfl (fun K hK => ?_) ?_
  · rw [if_pos (by rfl)]
    simp only [List.getElem_toArray, List.getElem_cons_zero, List.getElem_cons_succ]
    go_simp
    obtain ⟨X11, eX11⟩ : ∃ X, X = World.alloc X0 (.cells (i32s (List.replicate rr 0)).toArray 21) := ⟨_, rfl⟩
    have kx11 : Keep noBlock W3 X11 := by rw [eX11]; exact Keep.alloc kx0 _
    have xn11 : X11.heap[X0.heap.size]? = some (.cells (i32s (List.replicate rr 0)).toArray 21 (0, 0)) := by rw [eX11]; exact alloc_new X0 _
    have bb9 : w.heap.size ≤ X0.heap.size ∧ X0.heap.size ≠ g6 := ⟨(HK.out.1.trans' kx0).size, Nat.ne_of_gt (obj_lt (kx0.obj HK.out.2.1 (fun h => h)))⟩
    refine hK _ _ ?_
    clear hK K
    try simp only [Act.put, List.getElem_toArray, List.getElem_cons_zero, List.getElem_cons_succ, List.setIfInBounds_toArray, List.set_cons_zero, List.set_cons_succ]
    try rw [← eX11]
    clear eX11
    refine wpAny_ready (rs := [2, 7]) (by kernel_rfl) (by simp) ?_
    refine AllReady.cons rfl (fun K hK => ?_) ?_
    · rw [if_pos (by rfl)]
      simp only [List.getElem_toArray, List.getElem_cons_zero, List.getElem_cons_succ]
      go_simp
      refine (HNR.out X11 (HK.out.1.trans' kx11)).mono ?_
      rintro e X12 ⟨rfl, kk12⟩
      have kx12 : Keep noBlock W3 X12 := Keep.trans' kx11 kk12
      have xo12 := kk12.obj xn11 (fun h => h)
      refine hK _ _ ?_
      clear hK K
      try simp only [Act.put, List.getElem_toArray, List.getElem_cons_zero, List.getElem_cons_succ, List.setIfInBounds_toArray, List.set_cons_zero, List.set_cons_succ]
      refine wpAny_ready (rs := [7]) (by kernel_rfl) (by simp) ?_
      refine AllReady.cons rfl (fun K hK => ?_) ?_
      · rw [if_pos (by rfl)]
        simp only [List.getElem_toArray, List.getElem_cons_zero, List.getElem_cons_succ]
        go_simp
        obtain ⟨X13, eX13⟩ : ∃ X, X = World.alloc X12 (.cells (i32s (List.replicate hh 0)).toArray 21) := ⟨_, rfl⟩
        have kx13 : Keep noBlock W3 X13 := by rw [eX13]; exact Keep.alloc kx12 _
        have xn13 : X13.heap[X12.heap.size]? = some (.cells (i32s (List.replicate hh 0)).toArray 21 (0, 0)) := by rw [eX13]; exact alloc_new X12 _
        have bb7 : w.heap.size ≤ X12.heap.size ∧ X12.heap.size ≠ g6 := ⟨(HK.out.1.trans' kx12).size, Nat.ne_of_gt (obj_lt (kx12.obj HK.out.2.1 (fun h => h)))⟩
        have nn : X12.heap.size ≠ X0.heap.size := Nat.ne_of_gt (obj_lt xo12)
        have xo13 : X13.heap[X0.heap.size]? = some (.cells (i32s (List.replicate rr 0)).toArray 21 (0, 0)) := by rw [eX13]; exact alloc_far xo12 _
        refine hK _ _ ?_
        clear hK K
        try simp only [Act.put, List.getElem_toArray, List.getElem_cons_zero, List.getElem_cons_succ, List.setIfInBounds_toArray, List.set_cons_zero, List.set_cons_succ]
        try rw [← eX13]
        clear eX13
        have zl := kx13.obj HK.out.2.1 (fun h => h)
        have y0 : World.cell? X13 ⟨g6, 0, none⟩ = some (.slice none 0 0) := cell_of zl 0
        have y1 : World.cell? X13 ⟨g6, 1, none⟩ = some (.int .i64 0) := cell_of zl 1
        have y2 : World.cell? X13 ⟨g6, 2, none⟩ = some (.int .i64 0) := cell_of zl 2
        have y3 : World.cell? X13 ⟨g6, 3, none⟩ = some (.int .u64 0) := cell_of zl 3
        have y4 : World.cell? X13 ⟨g6, 4, none⟩ = some (.int .u64 0) := cell_of zl 4
        have y5 : World.cell? X13 ⟨g6, 5, none⟩ = some (.int .i64 0) := cell_of zl 5
        have y6 : World.cell? X13 ⟨g6, 6, none⟩ = some (.slice none 0 0) := cell_of zl 6
        have y7 : World.cell? X13 ⟨g6, 7, none⟩ = some (.slice none 0 0) := cell_of zl 7
        have f0 := frozen_of zl 0
        have f1 := frozen_of zl 1
        have f2 := frozen_of zl 2
        have f3 := frozen_of zl 3
        have f4 := frozen_of zl 4
        have f5 := frozen_of zl 5
        have f6 := frozen_of zl 6
        have f7 := frozen_of zl 7
        have HH := (show Hid (X13.heap[X12.heap.size]? = some (.cells (i32s (List.replicate hh 0)).toArray 21 (0, 0)) ∧ X13.heap[X0.heap.size]? = some (.cells (i32s (List.replicate rr 0)).toArray 21 (0, 0)) ∧ Keep noBlock w X13 ∧ X13.heap[g6]? = some (.cells #[.slice none 0 0, .int .i64 0, .int .i64 0, .int .u64 0, .int .u64 0, .int .i64 0, .slice none 0 0, .slice none 0 0] 53 (0, 0))) from ⟨xn13, xo13, HK.out.1.trans' kx13, zl⟩)
        have HS := (show Hid (w.heap.size ≤ X12.heap.size ∧ w.heap.size ≤ X0.heap.size ∧ X12.heap.size ≠ X0.heap.size ∧ X12.heap.size ≠ g6 ∧ X0.heap.size ≠ g6) from ⟨bb7.1, bb9.1, nn, bb7.2, bb9.2⟩)
        refine wpAny_take (i := 10) (v := ?_) rfl (by kernel_rfl) (by kernel_rfl) (by kernel_rfl) (fun _ _ _ h => h) (Or.inl ⟨by rfl, ?_⟩) ?_
        rotate_left 1
        · (intro w; go_simp; try with_reducible rfl)
        simp only [Act.put, List.getElem_toArray, List.getElem_cons_zero, List.getElem_cons_succ, List.setIfInBounds_toArray, List.set_cons_zero, List.set_cons_succ]
        refine wpAny_ready (rs := [11]) (by kernel_rfl) (by simp) ?_
        refine AllReady.cons rfl (fun K hK => ?_) AllReady.nil
        rw [if_pos (by rfl)]
        simp only [List.getElem_toArray, List.getElem_cons_zero, List.getElem_cons_succ]
        go_simp
        refine hK _ _ ?_
        clear hK K
        refine wpAny_done (by kernel_rfl) ?_ _
        go_wp2_with fail
        refine bodyPost_ret (ret53 rfl _ _ g6 53 _ rfl (put8 HH.out.2.2.2 _ _ _ _ _ _ _ _) rfl) rfl ?_
        exact HEND.out X13 _ _ _ HH.out.1 HH.out.2.1 HH.out.2.2.1 HS.out (keep8 _ _ _ _ _ _ _ _ _ _)
      exact AllReady.nil
    refine AllReady.cons rfl (fun K hK => ?_) ?_
    · rw [if_pos (by rfl)]
      simp only [List.getElem_toArray, List.getElem_cons_zero, List.getElem_cons_succ]
      go_simp
      obtain ⟨X14, eX14⟩ : ∃ X, X = World.alloc X11 (.cells (i32s (List.replicate hh 0)).toArray 21) := ⟨_, rfl⟩
      have kx14 : Keep noBlock W3 X14 := by rw [eX14]; exact Keep.alloc kx11 _
      have xn14 : X14.heap[X11.heap.size]? = some (.cells (i32s (List.replicate hh 0)).toArray 21 (0, 0)) := by rw [eX14]; exact alloc_new X11 _
      have bb7 : w.heap.size ≤ X11.heap.size ∧ X11.heap.size ≠ g6 := ⟨(HK.out.1.trans' kx11).size, Nat.ne_of_gt (obj_lt (kx11.obj HK.out.2.1 (fun h => h)))⟩
      have nn : X11.heap.size ≠ X0.heap.size := Nat.ne_of_gt (obj_lt xn11)
      have xo14 : X14.heap[X0.heap.size]? = some (.cells (i32s (List.replicate rr 0)).toArray 21 (0, 0)) := by rw [eX14]; exact alloc_far xn11 _
      refine hK _ _ ?_
      clear hK K
      try simp only [Act.put, List.getElem_toArray, List.getElem_cons_zero, List.getElem_cons_succ, List.setIfInBounds_toArray, List.set_cons_zero, List.set_cons_succ]
      try rw [← eX14]
      clear eX14
      refine wpAny_ready (rs := [2]) (by kernel_rfl) (by simp) ?_
      refine AllReady.cons rfl (fun K hK => ?_) ?_
      · rw [if_pos (by rfl)]
        simp only [List.getElem_toArray, List.getElem_cons_zero, List.getElem_cons_succ]
        go_simp
        refine (HNR.out X14 (HK.out.1.trans' kx14)).mono ?_
        rintro e X15 ⟨rfl, kk15⟩
        have kx15 : Keep noBlock W3 X15 := Keep.trans' kx14 kk15
        have xh15 := kk15.obj xn14 (fun h => h)
        have xo15 := kk15.obj xo14 (fun h => h)
        refine hK _ _ ?_
        clear hK K
        try simp only [Act.put, List.getElem_toArray, List.getElem_cons_zero, List.getElem_cons_succ, List.setIfInBounds_toArray, List.set_cons_zero, List.set_cons_succ]
        have zl := kx15.obj HK.out.2.1 (fun h => h)
        have y0 : World.cell? X15 ⟨g6, 0, none⟩ = some (.slice none 0 0) := cell_of zl 0
        have y1 : World.cell? X15 ⟨g6, 1, none⟩ = some (.int .i64 0) := cell_of zl 1
        have y2 : World.cell? X15 ⟨g6, 2, none⟩ = some (.int .i64 0) := cell_of zl 2
        have y3 : World.cell? X15 ⟨g6, 3, none⟩ = some (.int .u64 0) := cell_of zl 3
        have y4 : World.cell? X15 ⟨g6, 4, none⟩ = some (.int .u64 0) := cell_of zl 4
        have y5 : World.cell? X15 ⟨g6, 5, none⟩ = some (.int .i64 0) := cell_of zl 5
        have y6 : World.cell? X15 ⟨g6, 6, none⟩ = some (.slice none 0 0) := cell_of zl 6
        have y7 : World.cell? X15 ⟨g6, 7, none⟩ = some (.slice none 0 0) := cell_of zl 7
        have f0 := frozen_of zl 0
        have f1 := frozen_of zl 1
        have f2 := frozen_of zl 2
        have f3 := frozen_of zl 3
        have f4 := frozen_of zl 4
        have f5 := frozen_of zl 5
        have f6 := frozen_of zl 6
        have f7 := frozen_of zl 7
        have HH := (show Hid (X15.heap[X11.heap.size]? = some (.cells (i32s (List.replicate hh 0)).toArray 21 (0, 0)) ∧ X15.heap[X0.heap.size]? = some (.cells (i32s (List.replicate rr 0)).toArray 21 (0, 0)) ∧ Keep noBlock w X15 ∧ X15.heap[g6]? = some (.cells #[.slice none 0 0, .int .i64 0, .int .i64 0, .int .u64 0, .int .u64 0, .int .i64 0, .slice none 0 0, .slice none 0 0] 53 (0, 0))) from ⟨xh15, xo15, HK.out.1.trans' kx15, zl⟩)
        have HS := (show Hid (w.heap.size ≤ X11.heap.size ∧ w.heap.size ≤ X0.heap.size ∧ X11.heap.size ≠ X0.heap.size ∧ X11.heap.size ≠ g6 ∧ X0.heap.size ≠ g6) from ⟨bb7.1, bb9.1, nn, bb7.2, bb9.2⟩)
        refine wpAny_take (i := 10) (v := ?_) rfl (by kernel_rfl) (by kernel_rfl) (by kernel_rfl) (fun _ _ _ h => h) (Or.inl ⟨by rfl, ?_⟩) ?_
        rotate_left 1
        · (intro w; go_simp; try with_reducible rfl)
        simp only [Act.put, List.getElem_toArray, List.getElem_cons_zero, List.getElem_cons_succ, List.setIfInBounds_toArray, List.set_cons_zero, List.set_cons_succ]
        refine wpAny_ready (rs := [11]) (by kernel_rfl) (by simp) ?_
        refine AllReady.cons rfl (fun K hK => ?_) AllReady.nil
        rw [if_pos (by rfl)]
        simp only [List.getElem_toArray, List.getElem_cons_zero, List.getElem_cons_succ]
        go_simp
        refine hK _ _ ?_
        clear hK K
        refine wpAny_done (by kernel_rfl) ?_ _
        go_wp2_with fail
        refine bodyPost_ret (ret53 rfl _ _ g6 53 _ rfl (put8 HH.out.2.2.2 _ _ _ _ _ _ _ _) rfl) rfl ?_
        exact HEND.out X15 _ _ _ HH.out.1 HH.out.2.1 HH.out.2.2.1 HS.out (keep8 _ _ _ _ _ _ _ _ _ _)
      exact AllReady.nil
    exact AllReady.nil
  exact AllReady.nil
end
end Go.Proofs.YtlpibfonpfhakaaDoor
