/-
  newChains.
  newSearch.
  Parse: the steps of a text.
-/
import Derived.Test.YtnokemcogjoonaaGreatDoorPutP4
import Derived.Test.YtnokemcogjoonaaGreatDoorPutP20
import Derived.Test.YtnokemcogjoonaaGreatDoorPutP21
namespace Go.Proofs.YtnokemcogjoonaaGreatDoor.Fd
open Go.RowKit Go.Shelf
set_option linter.unusedVariables false

theorem wrapI_small (r : Nat) (h : r ≤ 1000000) : IntKind.i64.wrap (r : Int) = (r : Int) := by rw [IntKind.wrap_i64]; omega

section
attribute [local go_sem] minSem_eq
set_option maxRecDepth 100000 in
set_option maxHeartbeats 2000000 in
theorem newChains_any (gb off cap window least : Nat) (bs : List Nat) (w : World) (hB : Bytes w (some ⟨gb, off, none⟩) cap gb off bs) (hn2 : 2 ≤ bs.length) (hn : bs.length < 65536) (hw1 : 1 ≤ window) (hw2 : window ≤ 16777216) (hl : least ≤ 65536) :
    Calls Tryz.prog 39 #[.slice (some ⟨gb, off, none⟩) bs.length cap, .int .i64 (window : Int), .int .i64 (least : Int)] w fun e w' => (∃ hb ob hk rk : Nat, e = .returned (.agg #[.slice (some ⟨gb, off, none⟩) bs.length cap, .int .i64 0, .int .i64 (least : Int), .int .u64 ((sumN bs least 0 : Nat) : Int), .int .u64 ((leadM bs least : Nat) : Int), .int .i64 ((64 - hk : Nat) : Int), .slice (some ⟨hb, 0, none⟩) (2 ^ hk) (2 ^ hk), .slice (some ⟨ob, 0, none⟩) (2 ^ rk) (2 ^ rk)]) ∧
      6 ≤ hk ∧ hk ≤ 18 ∧ rk ≤ 16 ∧ w.heap.size ≤ hb ∧ w.heap.size ≤ ob ∧ hb ≠ ob ∧ w'.heap[hb]? = some (.cells (i32s (List.replicate (2 ^ hk) 0)).toArray 21 (0, 0)) ∧ w'.heap[ob]? = some (.cells (i32s (List.replicate (2 ^ rk) 0)).toArray 21 (0, 0))) ∧ Keep noBlock w w' := by
  obtain ⟨g6, hg6⟩ : ∃ g6, g6 = w.heap.size := ⟨_, rfl⟩
  obtain ⟨W0, hW0⟩ : ∃ W0, W0 = w.alloc (.cells #[.slice none 0 0, .int .i64 0, .int .i64 0, .int .u64 0, .int .u64 0, .int .i64 0, .slice none 0 0, .slice none 0 0] 135) := ⟨_, rfl⟩
  have k0 : Keep noBlock w W0 := by rw [hW0]; exact (Keep.refl _ w).alloc _
  have z0 : W0.heap[g6]? = some (.cells #[.slice none 0 0, .int .i64 0, .int .i64 0, .int .u64 0, .int .u64 0, .int .i64 0, .slice none 0 0, .slice none 0 0] 135 (0, 0)) := by rw [hW0, hg6]; exact alloc_new w _
  have HL1 := len_any bs.length (by omega) W0
  obtain ⟨l1, hl1⟩ : ∃ l1, l1 = lenN bs.length := ⟨_, rfl⟩
  rw [← hl1] at HL1
  have HBR := bring_any (l1 : Int) 6 18 W0
  obtain ⟨hk, hhk⟩ : ∃ hk : Nat, bringN (l1 : Int) 6 18 = (hk : Int) := ⟨(bringN (l1 : Int) 6 18).toNat, by unfold bringN; omega⟩
  have hk6 : 6 ≤ hk ∧ hk ≤ 18 := by unfold bringN at hhk; omega
  rw [hhk] at HBR
  obtain ⟨mn, hmn⟩ : ∃ mn, mn = min window bs.length := ⟨_, rfl⟩
  have hmin := minSem_run #[3, 3] 3 (window : Int) (bs.length : Int) (mn : Int) (by omega)
  obtain ⟨m1, hm1⟩ : ∃ m1, m1 = mn - 1 := ⟨_, rfl⟩
  have hsub : (mn : Int) - 1 = (m1 : Int) := by omega
  have HL2 := len_any m1 (by omega) W0
  obtain ⟨rk, hrk⟩ : ∃ rk, rk = lenN m1 := ⟨_, rfl⟩
  rw [← hrk] at HL2
  have hrk2 : rk ≤ 16 := by rw [hrk]; exact lenN_le m1 16 (by omega)
  have HK := (show Hid (Keep noBlock w W0 ∧ W0.heap[g6]? = some (.cells #[.slice none 0 0, .int .i64 0, .int .i64 0, .int .u64 0, .int .u64 0, .int .i64 0, .slice none 0 0, .slice none 0 0] 135 (0, 0)) ∧ w.heap.size ≤ g6) from ⟨k0, z0, Nat.le_of_eq hg6.symm⟩)
  have HNR := (show Hid (∀ W, Keep noBlock w W → Calls Tryz.prog 63 #[.slice (some ⟨gb, off, none⟩) bs.length cap, .int .i64 (least : Int)] W fun e w' => e = .returned (.agg (rollC (some ⟨gb, off, none⟩) bs.length cap 0 least (sumN bs least 0) (leadM bs least))) ∧ Keep noBlock W w') from
    fun W kW => newRoll_any gb off cap least bs W (hB.keep kW (fun _ h => h)) hn (by omega))
  obtain ⟨s0, hs0⟩ : ∃ s0, s0 = sumN bs least 0 := ⟨_, rfl⟩
  obtain ⟨l0, hl0⟩ : ∃ l0, l0 = leadM bs least := ⟨_, rfl⟩
  rw [← hs0, ← hl0] at HNR ⊢
  have hm65 : m1 < 65536 := by omega
  obtain ⟨hh, hhe⟩ : ∃ hh, hh = 2 ^ hk := ⟨_, rfl⟩
  obtain ⟨rr, hre⟩ : ∃ rr, rr = 2 ^ rk := ⟨_, rfl⟩
  obtain ⟨sh, hse⟩ : ∃ sh, sh = 64 - hk := ⟨_, rfl⟩
  have hhb : hh ≤ 262144 := by rw [hhe]; exact Nat.pow_le_pow_right (n := 2) (by omega) hk6.2
  have hrb : rr ≤ 65536 := by rw [hre]; exact Nat.pow_le_pow_right (n := 2) (by omega) hrk2
  have hpw1 : (2 : Int) ^ hk = (hh : Int) := by rw [hhe]; norm_cast
  have hpw2 : (2 : Int) ^ rk = (rr : Int) := by rw [hre]; norm_cast
  have hsh : (64 : Int) - (hk : Int) = (sh : Int) := by omega
  have HSZ := (show Hid (hh ≤ 262144 ∧ rr ≤ 65536) from ⟨hhb, hrb⟩)
  have HEND := (show Hid (∀ (X W' : World) (hb ob : Nat), X.heap[hb]? = some (.cells (i32s (List.replicate hh 0)).toArray 21 (0, 0)) → X.heap[ob]? = some (.cells (i32s (List.replicate rr 0)).toArray 21 (0, 0)) → Keep noBlock w X → (w.heap.size ≤ hb ∧ w.heap.size ≤ ob ∧ hb ≠ ob ∧ hb ≠ g6 ∧ ob ≠ g6) → Keep (fun k => k = g6) X W' →
    (∃ hb' ob' hk' rk' : Nat, Ending.returned (.agg #[.slice (some ⟨gb, off, none⟩) bs.length cap, .int .i64 0, .int .i64 (least : Int), .int .u64 (s0 : Int), .int .u64 (l0 : Int), .int .i64 (sh : Int), .slice (some ⟨hb, 0, none⟩) hh hh, .slice (some ⟨ob, 0, none⟩) rr rr]) = .returned (.agg #[.slice (some ⟨gb, off, none⟩) bs.length cap, .int .i64 0, .int .i64 (least : Int), .int .u64 (s0 : Int), .int .u64 (l0 : Int), .int .i64 ((64 - hk' : Nat) : Int), .slice (some ⟨hb', 0, none⟩) (2 ^ hk') (2 ^ hk'), .slice (some ⟨ob', 0, none⟩) (2 ^ rk') (2 ^ rk')]) ∧
      6 ≤ hk' ∧ hk' ≤ 18 ∧ rk' ≤ 16 ∧ w.heap.size ≤ hb' ∧ w.heap.size ≤ ob' ∧ hb' ≠ ob' ∧ W'.heap[hb']? = some (.cells (i32s (List.replicate (2 ^ hk') 0)).toArray 21 (0, 0)) ∧ W'.heap[ob']? = some (.cells (i32s (List.replicate (2 ^ rk') 0)).toArray 21 (0, 0))) ∧ Keep noBlock w W') from fun X W' hb ob q1 q2 q3 q4 q5 =>
    ⟨⟨hb, ob, hk, rk, by rw [hhe, hre, hse], hk6.1, hk6.2, hrk2, q4.1, q4.2.1, q4.2.2.1, by rw [← hhe]; exact q5.obj q1 q4.2.2.2.1, by rw [← hre]; exact q5.obj q2 q4.2.2.2.2⟩, q3.trans q5 (fun i hi e => by omega)⟩)
  have HW1 := (show Hid (wrap64 ((2 : Int) ^ rk) = (rr : Int)) from (by rw [hpw2]; exact wrap64_small rr (by omega) : wrap64 ((2 : Int) ^ rk) = (rr : Int)))
  have HW6 := (show Hid (IntKind.i64.wrap ((2 : Int) ^ hk) = (hh : Int)) from (by rw [hpw1]; exact wrapI_small hh (by omega) : IntKind.i64.wrap ((2 : Int) ^ hk) = (hh : Int)))
  have hw5 : IntKind.i64.wrap (sh : Int) = (sh : Int) := wrapI_small sh (by omega)
  clear hhe hre hse hpw1 hpw2
  clear hB k0 z0 hl1 hhk hmn hm1 hrk hs0 hl0
  generalize bs.length = n at *
  go_enter Tryz.func39, Tryz.ntmps39
  go_wp2_with fail
  rw [← hW0, ← hg6]
  clear hW0 hg6
  refine HL1.mono ?_
  rintro e W1 ⟨rfl, rfl⟩
  clear HL1
  go_wp2_with fail
  refine HBR.mono ?_
  rintro e W2 ⟨rfl, rfl⟩
  clear HBR
  go_wp2_with fail
  refine HL2.mono ?_
  rintro e W3 ⟨rfl, rfl⟩
  clear HL2
  go_wp2_with fail
  rw [HW1.out]
  have hmkA := run_make_i32 hh (Nat.le_trans HSZ.out.1 (by decide))
  have hmkB := run_make_i32 rr (Nat.le_trans HSZ.out.2 (by decide))
  have k00 : Keep noBlock W3 W3.drew := (Keep.refl _ _).drew
  refine wp_region_any (by kernel_rfl) ?_
  change wpAny _ _ _ _ _ _ _ (World.drew _)
  refine wpAny_take (i := 0) (v := ?_) rfl (by kernel_rfl) (by kernel_rfl) (by kernel_rfl) (fun _ _ _ h => h) (Or.inl ⟨by rfl, ?_⟩) ?_
  rotate_left 1
  · (intro w; go_simp; try with_reducible rfl)
  simp only [Go.Act.put, List.getElem_toArray, List.getElem_cons_zero, List.setIfInBounds_toArray, List.set_cons_zero, List.set_cons_succ]
  refine wpAny_take (i := 1) (v := ?_) rfl (by kernel_rfl) (by kernel_rfl) (by kernel_rfl) (fun _ _ _ h => h) (Or.inl ⟨by rfl, ?_⟩) ?_
  rotate_left 1
  · (intro w; go_simp; try with_reducible rfl)
  simp only [Go.Act.put, List.getElem_toArray, List.getElem_cons_zero, List.getElem_cons_succ, List.setIfInBounds_toArray, List.set_cons_zero, List.set_cons_succ]
  refine wpAny_take (i := 3) (v := ?_) rfl (by kernel_rfl) (by kernel_rfl) (by kernel_rfl) (fun _ _ _ h => h) (Or.inl ⟨by rfl, ?_⟩) ?_
  rotate_left 1
  · (intro w; go_simp; try with_reducible rfl)
  simp only [Go.Act.put, List.getElem_toArray, List.getElem_cons_zero, List.getElem_cons_succ, List.setIfInBounds_toArray, List.set_cons_zero, List.set_cons_succ]
  refine wpAny_take (i := 4) (v := ?_) rfl (by kernel_rfl) (by kernel_rfl) (by kernel_rfl) (fun _ _ _ h => h) (Or.inl ⟨by rfl, ?_⟩) ?_
  rotate_left 1
  · (intro w; go_simp; try with_reducible rfl)
  simp only [Go.Act.put, List.getElem_toArray, List.getElem_cons_zero, List.getElem_cons_succ, List.setIfInBounds_toArray, List.set_cons_zero, List.set_cons_succ]
  refine wpAny_take (i := 5) (v := ?_) rfl (by kernel_rfl) (by kernel_rfl) (by kernel_rfl) (fun _ _ _ h => h) (Or.inl ⟨by rfl, ?_⟩) ?_
  rotate_left 1
  · (intro w; go_simp; try with_reducible rfl)
  simp only [Go.Act.put, List.getElem_toArray, List.getElem_cons_zero, List.getElem_cons_succ, List.setIfInBounds_toArray, List.set_cons_zero, List.set_cons_succ]
  refine wpAny_take (i := 6) (v := ?_) rfl (by kernel_rfl) (by kernel_rfl) (by kernel_rfl) (fun _ _ _ h => h) (Or.inl ⟨by rfl, ?_⟩) ?_
  rotate_left 1
  · (intro w; go_simp; try with_reducible rfl)
  simp only [Go.Act.put, List.getElem_toArray, List.getElem_cons_zero, List.getElem_cons_succ, List.setIfInBounds_toArray, List.set_cons_zero, List.set_cons_succ]
  rw [HW6.out]
  refine wpAny_take (i := 8) (v := ?_) rfl (by kernel_rfl) (by kernel_rfl) (by kernel_rfl) (fun _ _ _ h => h) (Or.inl ⟨by rfl, ?_⟩) ?_
  rotate_left 1
  · (intro w; go_simp; try with_reducible rfl)
  simp only [Go.Act.put, List.getElem_toArray, List.getElem_cons_zero, List.getElem_cons_succ, List.setIfInBounds_toArray, List.set_cons_zero, List.set_cons_succ]
  obtain ⟨X0, eX0⟩ : ∃ X, X = W3.drew := ⟨_, rfl⟩
  have kx0 : Keep noBlock W3 X0 := by rw [eX0]; exact (Keep.refl _ _).drew
  rw [← eX0]
  clear eX0
  refine wpAny_ready (rs := [2, 7, 9]) (by kernel_rfl) (by simp) ?_
  refine AllReady.cons rfl (fun K hK => ?_) ?_
  · rw [if_pos (by rfl)]
    simp only [List.getElem_toArray, List.getElem_cons_zero, List.getElem_cons_succ]
    go_simp
    refine (HNR.out X0 (HK.out.1.trans' kx0)).mono ?_
    rintro e X1 ⟨rfl, kk1⟩
    have kx1 : Keep noBlock W3 X1 := Keep.trans' kx0 kk1
    refine hK _ _ ?_
    clear hK K
    try simp only [Go.Act.put, List.getElem_toArray, List.getElem_cons_zero, List.getElem_cons_succ, List.setIfInBounds_toArray, List.set_cons_zero, List.set_cons_succ]
    refine wpAny_ready (rs := [7, 9]) (by kernel_rfl) (by simp) ?_
    refine AllReady.cons rfl (fun K hK => ?_) ?_
    · rw [if_pos (by rfl)]
      simp only [List.getElem_toArray, List.getElem_cons_zero, List.getElem_cons_succ]
      go_simp
      obtain ⟨X2, eX2⟩ : ∃ X, X = World.alloc X1 (.cells (i32s (List.replicate hh 0)).toArray 21) := ⟨_, rfl⟩
      have kx2 : Keep noBlock W3 X2 := by rw [eX2]; exact Keep.alloc kx1 _
      have xn2 : X2.heap[X1.heap.size]? = some (.cells (i32s (List.replicate hh 0)).toArray 21 (0, 0)) := by rw [eX2]; exact alloc_new X1 _
      have bb7 : w.heap.size ≤ X1.heap.size ∧ X1.heap.size ≠ g6 := ⟨(HK.out.1.trans' kx1).size, Nat.ne_of_gt (obj_lt (kx1.obj HK.out.2.1 (fun h => h)))⟩
      refine hK _ _ ?_
      clear hK K
      try simp only [Go.Act.put, List.getElem_toArray, List.getElem_cons_zero, List.getElem_cons_succ, List.setIfInBounds_toArray, List.set_cons_zero, List.set_cons_succ]
      try rw [← eX2]
      clear eX2
      refine wpAny_ready (rs := [9]) (by kernel_rfl) (by simp) ?_
      refine AllReady.cons rfl (fun K hK => ?_) ?_
      · rw [if_pos (by rfl)]
        simp only [List.getElem_toArray, List.getElem_cons_zero, List.getElem_cons_succ]
        go_simp
        obtain ⟨X3, eX3⟩ : ∃ X, X = World.alloc X2 (.cells (i32s (List.replicate rr 0)).toArray 21) := ⟨_, rfl⟩
        have kx3 : Keep noBlock W3 X3 := by rw [eX3]; exact Keep.alloc kx2 _
        have xn3 : X3.heap[X2.heap.size]? = some (.cells (i32s (List.replicate rr 0)).toArray 21 (0, 0)) := by rw [eX3]; exact alloc_new X2 _
        have bb9 : w.heap.size ≤ X2.heap.size ∧ X2.heap.size ≠ g6 := ⟨(HK.out.1.trans' kx2).size, Nat.ne_of_gt (obj_lt (kx2.obj HK.out.2.1 (fun h => h)))⟩
        have nn : X1.heap.size ≠ X2.heap.size := Nat.ne_of_lt (obj_lt xn2)
        have xh3 : X3.heap[X1.heap.size]? = some (.cells (i32s (List.replicate hh 0)).toArray 21 (0, 0)) := by rw [eX3]; exact alloc_far xn2 _
        refine hK _ _ ?_
        clear hK K
        try simp only [Go.Act.put, List.getElem_toArray, List.getElem_cons_zero, List.getElem_cons_succ, List.setIfInBounds_toArray, List.set_cons_zero, List.set_cons_succ]
        try rw [← eX3]
        clear eX3
        have zl := kx3.obj HK.out.2.1 (fun h => h)
        have y0 : World.cell? X3 ⟨g6, 0, none⟩ = some (.slice none 0 0) := cell_of zl 0
        have y1 : World.cell? X3 ⟨g6, 1, none⟩ = some (.int .i64 0) := cell_of zl 1
        have y2 : World.cell? X3 ⟨g6, 2, none⟩ = some (.int .i64 0) := cell_of zl 2
        have y3 : World.cell? X3 ⟨g6, 3, none⟩ = some (.int .u64 0) := cell_of zl 3
        have y4 : World.cell? X3 ⟨g6, 4, none⟩ = some (.int .u64 0) := cell_of zl 4
        have y5 : World.cell? X3 ⟨g6, 5, none⟩ = some (.int .i64 0) := cell_of zl 5
        have y6 : World.cell? X3 ⟨g6, 6, none⟩ = some (.slice none 0 0) := cell_of zl 6
        have y7 : World.cell? X3 ⟨g6, 7, none⟩ = some (.slice none 0 0) := cell_of zl 7
        have f0 := frozen_of zl 0
        have f1 := frozen_of zl 1
        have f2 := frozen_of zl 2
        have f3 := frozen_of zl 3
        have f4 := frozen_of zl 4
        have f5 := frozen_of zl 5
        have f6 := frozen_of zl 6
        have f7 := frozen_of zl 7
        have HH := (show Hid (X3.heap[X1.heap.size]? = some (.cells (i32s (List.replicate hh 0)).toArray 21 (0, 0)) ∧ X3.heap[X2.heap.size]? = some (.cells (i32s (List.replicate rr 0)).toArray 21 (0, 0)) ∧ Keep noBlock w X3 ∧ X3.heap[g6]? = some (.cells #[.slice none 0 0, .int .i64 0, .int .i64 0, .int .u64 0, .int .u64 0, .int .i64 0, .slice none 0 0, .slice none 0 0] 135 (0, 0))) from ⟨xh3, xn3, HK.out.1.trans' kx3, zl⟩)
        have HS := (show Hid (w.heap.size ≤ X1.heap.size ∧ w.heap.size ≤ X2.heap.size ∧ X1.heap.size ≠ X2.heap.size ∧ X1.heap.size ≠ g6 ∧ X2.heap.size ≠ g6) from ⟨bb7.1, bb9.1, nn, bb7.2, bb9.2⟩)
        refine wpAny_take (i := 10) (v := ?_) rfl (by kernel_rfl) (by kernel_rfl) (by kernel_rfl) (fun _ _ _ h => h) (Or.inl ⟨by rfl, ?_⟩) ?_
        rotate_left 1
        · (intro w; go_simp; try with_reducible rfl)
        simp only [Go.Act.put, List.getElem_toArray, List.getElem_cons_zero, List.getElem_cons_succ, List.setIfInBounds_toArray, List.set_cons_zero, List.set_cons_succ]
        refine wpAny_ready (rs := [11]) (by kernel_rfl) (by simp) ?_
        refine AllReady.cons rfl (fun K hK => ?_) AllReady.nil
        rw [if_pos (by rfl)]
        simp only [List.getElem_toArray, List.getElem_cons_zero, List.getElem_cons_succ]
        go_simp
        refine hK _ _ ?_
        clear hK K
        refine wpAny_done (by kernel_rfl) ?_ _
        go_wp2_with fail
        refine bodyPost_ret (ret53 rfl _ _ g6 135 _ rfl (put8 HH.out.2.2.2 _ _ _ _ _ _ _ _) rfl) rfl ?_
        exact HEND.out X3 _ _ _ HH.out.1 HH.out.2.1 HH.out.2.2.1 HS.out (keep8 _ _ _ _ _ _ _ _ _ _)
      exact AllReady.nil
    refine AllReady.cons rfl (fun K hK => ?_) ?_
    · rw [if_pos (by rfl)]
      simp only [List.getElem_toArray, List.getElem_cons_zero, List.getElem_cons_succ]
      go_simp
      obtain ⟨X4, eX4⟩ : ∃ X, X = World.alloc X1 (.cells (i32s (List.replicate rr 0)).toArray 21) := ⟨_, rfl⟩
      have kx4 : Keep noBlock W3 X4 := by rw [eX4]; exact Keep.alloc kx1 _
      have xn4 : X4.heap[X1.heap.size]? = some (.cells (i32s (List.replicate rr 0)).toArray 21 (0, 0)) := by rw [eX4]; exact alloc_new X1 _
      have bb9 : w.heap.size ≤ X1.heap.size ∧ X1.heap.size ≠ g6 := ⟨(HK.out.1.trans' kx1).size, Nat.ne_of_gt (obj_lt (kx1.obj HK.out.2.1 (fun h => h)))⟩
      refine hK _ _ ?_
      clear hK K
      try simp only [Go.Act.put, List.getElem_toArray, List.getElem_cons_zero, List.getElem_cons_succ, List.setIfInBounds_toArray, List.set_cons_zero, List.set_cons_succ]
      try rw [← eX4]
      clear eX4
      refine wpAny_ready (rs := [7]) (by kernel_rfl) (by simp) ?_
      refine AllReady.cons rfl (fun K hK => ?_) ?_
      · rw [if_pos (by rfl)]
        simp only [List.getElem_toArray, List.getElem_cons_zero, List.getElem_cons_succ]
        go_simp
        obtain ⟨X5, eX5⟩ : ∃ X, X = World.alloc X4 (.cells (i32s (List.replicate hh 0)).toArray 21) := ⟨_, rfl⟩
        have kx5 : Keep noBlock W3 X5 := by rw [eX5]; exact Keep.alloc kx4 _
        have xn5 : X5.heap[X4.heap.size]? = some (.cells (i32s (List.replicate hh 0)).toArray 21 (0, 0)) := by rw [eX5]; exact alloc_new X4 _
        have bb7 : w.heap.size ≤ X4.heap.size ∧ X4.heap.size ≠ g6 := ⟨(HK.out.1.trans' kx4).size, Nat.ne_of_gt (obj_lt (kx4.obj HK.out.2.1 (fun h => h)))⟩
        have nn : X4.heap.size ≠ X1.heap.size := Nat.ne_of_gt (obj_lt xn4)
        have xo5 : X5.heap[X1.heap.size]? = some (.cells (i32s (List.replicate rr 0)).toArray 21 (0, 0)) := by rw [eX5]; exact alloc_far xn4 _
        refine hK _ _ ?_
        clear hK K
        try simp only [Go.Act.put, List.getElem_toArray, List.getElem_cons_zero, List.getElem_cons_succ, List.setIfInBounds_toArray, List.set_cons_zero, List.set_cons_succ]
        try rw [← eX5]
        clear eX5
        have zl := kx5.obj HK.out.2.1 (fun h => h)
        have y0 : World.cell? X5 ⟨g6, 0, none⟩ = some (.slice none 0 0) := cell_of zl 0
        have y1 : World.cell? X5 ⟨g6, 1, none⟩ = some (.int .i64 0) := cell_of zl 1
        have y2 : World.cell? X5 ⟨g6, 2, none⟩ = some (.int .i64 0) := cell_of zl 2
        have y3 : World.cell? X5 ⟨g6, 3, none⟩ = some (.int .u64 0) := cell_of zl 3
        have y4 : World.cell? X5 ⟨g6, 4, none⟩ = some (.int .u64 0) := cell_of zl 4
        have y5 : World.cell? X5 ⟨g6, 5, none⟩ = some (.int .i64 0) := cell_of zl 5
        have y6 : World.cell? X5 ⟨g6, 6, none⟩ = some (.slice none 0 0) := cell_of zl 6
        have y7 : World.cell? X5 ⟨g6, 7, none⟩ = some (.slice none 0 0) := cell_of zl 7
        have f0 := frozen_of zl 0
        have f1 := frozen_of zl 1
        have f2 := frozen_of zl 2
        have f3 := frozen_of zl 3
        have f4 := frozen_of zl 4
        have f5 := frozen_of zl 5
        have f6 := frozen_of zl 6
        have f7 := frozen_of zl 7
        have HH := (show Hid (X5.heap[X4.heap.size]? = some (.cells (i32s (List.replicate hh 0)).toArray 21 (0, 0)) ∧ X5.heap[X1.heap.size]? = some (.cells (i32s (List.replicate rr 0)).toArray 21 (0, 0)) ∧ Keep noBlock w X5 ∧ X5.heap[g6]? = some (.cells #[.slice none 0 0, .int .i64 0, .int .i64 0, .int .u64 0, .int .u64 0, .int .i64 0, .slice none 0 0, .slice none 0 0] 135 (0, 0))) from ⟨xn5, xo5, HK.out.1.trans' kx5, zl⟩)
        have HS := (show Hid (w.heap.size ≤ X4.heap.size ∧ w.heap.size ≤ X1.heap.size ∧ X4.heap.size ≠ X1.heap.size ∧ X4.heap.size ≠ g6 ∧ X1.heap.size ≠ g6) from ⟨bb7.1, bb9.1, nn, bb7.2, bb9.2⟩)
        refine wpAny_take (i := 10) (v := ?_) rfl (by kernel_rfl) (by kernel_rfl) (by kernel_rfl) (fun _ _ _ h => h) (Or.inl ⟨by rfl, ?_⟩) ?_
        rotate_left 1
        · (intro w; go_simp; try with_reducible rfl)
        simp only [Go.Act.put, List.getElem_toArray, List.getElem_cons_zero, List.getElem_cons_succ, List.setIfInBounds_toArray, List.set_cons_zero, List.set_cons_succ]
        refine wpAny_ready (rs := [11]) (by kernel_rfl) (by simp) ?_
        refine AllReady.cons rfl (fun K hK => ?_) AllReady.nil
        rw [if_pos (by rfl)]
        simp only [List.getElem_toArray, List.getElem_cons_zero, List.getElem_cons_succ]
        go_simp
        refine hK _ _ ?_
        clear hK K
        refine wpAny_done (by kernel_rfl) ?_ _
        go_wp2_with fail
        refine bodyPost_ret (ret53 rfl _ _ g6 135 _ rfl (put8 HH.out.2.2.2 _ _ _ _ _ _ _ _) rfl) rfl ?_
        exact HEND.out X5 _ _ _ HH.out.1 HH.out.2.1 HH.out.2.2.1 HS.out (keep8 _ _ _ _ _ _ _ _ _ _)
      exact AllReady.nil
    exact AllReady.nil
  refine AllReady.cons rfl (fun K hK => ?_) ?_
  · rw [if_pos (by rfl)]
    simp only [List.getElem_toArray, List.getElem_cons_zero, List.getElem_cons_succ]
    go_simp
    obtain ⟨X6, eX6⟩ : ∃ X, X = World.alloc X0 (.cells (i32s (List.replicate hh 0)).toArray 21) := ⟨_, rfl⟩
    have kx6 : Keep noBlock W3 X6 := by rw [eX6]; exact Keep.alloc kx0 _
    have xn6 : X6.heap[X0.heap.size]? = some (.cells (i32s (List.replicate hh 0)).toArray 21 (0, 0)) := by rw [eX6]; exact alloc_new X0 _
    have bb7 : w.heap.size ≤ X0.heap.size ∧ X0.heap.size ≠ g6 := ⟨(HK.out.1.trans' kx0).size, Nat.ne_of_gt (obj_lt (kx0.obj HK.out.2.1 (fun h => h)))⟩
    refine hK _ _ ?_
    clear hK K
    try simp only [Go.Act.put, List.getElem_toArray, List.getElem_cons_zero, List.getElem_cons_succ, List.setIfInBounds_toArray, List.set_cons_zero, List.set_cons_succ]
    try rw [← eX6]
    clear eX6
    refine wpAny_ready (rs := [2, 9]) (by kernel_rfl) (by simp) ?_
    refine AllReady.cons rfl (fun K hK => ?_) ?_
    · rw [if_pos (by rfl)]
      simp only [List.getElem_toArray, List.getElem_cons_zero, List.getElem_cons_succ]
      go_simp
      refine (HNR.out X6 (HK.out.1.trans' kx6)).mono ?_
      rintro e X7 ⟨rfl, kk7⟩
      have kx7 : Keep noBlock W3 X7 := Keep.trans' kx6 kk7
      have xh7 := kk7.obj xn6 (fun h => h)
      refine hK _ _ ?_
      clear hK K
      try simp only [Go.Act.put, List.getElem_toArray, List.getElem_cons_zero, List.getElem_cons_succ, List.setIfInBounds_toArray, List.set_cons_zero, List.set_cons_succ]
      refine wpAny_ready (rs := [9]) (by kernel_rfl) (by simp) ?_
      refine AllReady.cons rfl (fun K hK => ?_) ?_
      · rw [if_pos (by rfl)]
        simp only [List.getElem_toArray, List.getElem_cons_zero, List.getElem_cons_succ]
        go_simp
        obtain ⟨X8, eX8⟩ : ∃ X, X = World.alloc X7 (.cells (i32s (List.replicate rr 0)).toArray 21) := ⟨_, rfl⟩
        have kx8 : Keep noBlock W3 X8 := by rw [eX8]; exact Keep.alloc kx7 _
        have xn8 : X8.heap[X7.heap.size]? = some (.cells (i32s (List.replicate rr 0)).toArray 21 (0, 0)) := by rw [eX8]; exact alloc_new X7 _
        have bb9 : w.heap.size ≤ X7.heap.size ∧ X7.heap.size ≠ g6 := ⟨(HK.out.1.trans' kx7).size, Nat.ne_of_gt (obj_lt (kx7.obj HK.out.2.1 (fun h => h)))⟩
        have nn : X0.heap.size ≠ X7.heap.size := Nat.ne_of_lt (obj_lt xh7)
        have xh8 : X8.heap[X0.heap.size]? = some (.cells (i32s (List.replicate hh 0)).toArray 21 (0, 0)) := by rw [eX8]; exact alloc_far xh7 _
        refine hK _ _ ?_
        clear hK K
        try simp only [Go.Act.put, List.getElem_toArray, List.getElem_cons_zero, List.getElem_cons_succ, List.setIfInBounds_toArray, List.set_cons_zero, List.set_cons_succ]
        try rw [← eX8]
        clear eX8
        have zl := kx8.obj HK.out.2.1 (fun h => h)
        have y0 : World.cell? X8 ⟨g6, 0, none⟩ = some (.slice none 0 0) := cell_of zl 0
        have y1 : World.cell? X8 ⟨g6, 1, none⟩ = some (.int .i64 0) := cell_of zl 1
        have y2 : World.cell? X8 ⟨g6, 2, none⟩ = some (.int .i64 0) := cell_of zl 2
        have y3 : World.cell? X8 ⟨g6, 3, none⟩ = some (.int .u64 0) := cell_of zl 3
        have y4 : World.cell? X8 ⟨g6, 4, none⟩ = some (.int .u64 0) := cell_of zl 4
        have y5 : World.cell? X8 ⟨g6, 5, none⟩ = some (.int .i64 0) := cell_of zl 5
        have y6 : World.cell? X8 ⟨g6, 6, none⟩ = some (.slice none 0 0) := cell_of zl 6
        have y7 : World.cell? X8 ⟨g6, 7, none⟩ = some (.slice none 0 0) := cell_of zl 7
        have f0 := frozen_of zl 0
        have f1 := frozen_of zl 1
        have f2 := frozen_of zl 2
        have f3 := frozen_of zl 3
        have f4 := frozen_of zl 4
        have f5 := frozen_of zl 5
        have f6 := frozen_of zl 6
        have f7 := frozen_of zl 7
        have HH := (show Hid (X8.heap[X0.heap.size]? = some (.cells (i32s (List.replicate hh 0)).toArray 21 (0, 0)) ∧ X8.heap[X7.heap.size]? = some (.cells (i32s (List.replicate rr 0)).toArray 21 (0, 0)) ∧ Keep noBlock w X8 ∧ X8.heap[g6]? = some (.cells #[.slice none 0 0, .int .i64 0, .int .i64 0, .int .u64 0, .int .u64 0, .int .i64 0, .slice none 0 0, .slice none 0 0] 135 (0, 0))) from ⟨xh8, xn8, HK.out.1.trans' kx8, zl⟩)
        have HS := (show Hid (w.heap.size ≤ X0.heap.size ∧ w.heap.size ≤ X7.heap.size ∧ X0.heap.size ≠ X7.heap.size ∧ X0.heap.size ≠ g6 ∧ X7.heap.size ≠ g6) from ⟨bb7.1, bb9.1, nn, bb7.2, bb9.2⟩)
        refine wpAny_take (i := 10) (v := ?_) rfl (by kernel_rfl) (by kernel_rfl) (by kernel_rfl) (fun _ _ _ h => h) (Or.inl ⟨by rfl, ?_⟩) ?_
        rotate_left 1
        · (intro w; go_simp; try with_reducible rfl)
        simp only [Go.Act.put, List.getElem_toArray, List.getElem_cons_zero, List.getElem_cons_succ, List.setIfInBounds_toArray, List.set_cons_zero, List.set_cons_succ]
        refine wpAny_ready (rs := [11]) (by kernel_rfl) (by simp) ?_
        refine AllReady.cons rfl (fun K hK => ?_) AllReady.nil
        rw [if_pos (by rfl)]
        simp only [List.getElem_toArray, List.getElem_cons_zero, List.getElem_cons_succ]
        go_simp
        refine hK _ _ ?_
        clear hK K
        refine wpAny_done (by kernel_rfl) ?_ _
        go_wp2_with fail
        refine bodyPost_ret (ret53 rfl _ _ g6 135 _ rfl (put8 HH.out.2.2.2 _ _ _ _ _ _ _ _) rfl) rfl ?_
        exact HEND.out X8 _ _ _ HH.out.1 HH.out.2.1 HH.out.2.2.1 HS.out (keep8 _ _ _ _ _ _ _ _ _ _)
      exact AllReady.nil
    refine AllReady.cons rfl (fun K hK => ?_) ?_
    · rw [if_pos (by rfl)]
      simp only [List.getElem_toArray, List.getElem_cons_zero, List.getElem_cons_succ]
      go_simp
      obtain ⟨X9, eX9⟩ : ∃ X, X = World.alloc X6 (.cells (i32s (List.replicate rr 0)).toArray 21) := ⟨_, rfl⟩
      have kx9 : Keep noBlock W3 X9 := by rw [eX9]; exact Keep.alloc kx6 _
      have xn9 : X9.heap[X6.heap.size]? = some (.cells (i32s (List.replicate rr 0)).toArray 21 (0, 0)) := by rw [eX9]; exact alloc_new X6 _
      have bb9 : w.heap.size ≤ X6.heap.size ∧ X6.heap.size ≠ g6 := ⟨(HK.out.1.trans' kx6).size, Nat.ne_of_gt (obj_lt (kx6.obj HK.out.2.1 (fun h => h)))⟩
      have nn : X0.heap.size ≠ X6.heap.size := Nat.ne_of_lt (obj_lt xn6)
      have xh9 : X9.heap[X0.heap.size]? = some (.cells (i32s (List.replicate hh 0)).toArray 21 (0, 0)) := by rw [eX9]; exact alloc_far xn6 _
      refine hK _ _ ?_
      clear hK K
      try simp only [Go.Act.put, List.getElem_toArray, List.getElem_cons_zero, List.getElem_cons_succ, List.setIfInBounds_toArray, List.set_cons_zero, List.set_cons_succ]
      try rw [← eX9]
      clear eX9
      refine wpAny_ready (rs := [2]) (by kernel_rfl) (by simp) ?_
      refine AllReady.cons rfl (fun K hK => ?_) ?_
      · rw [if_pos (by rfl)]
        simp only [List.getElem_toArray, List.getElem_cons_zero, List.getElem_cons_succ]
        go_simp
        refine (HNR.out X9 (HK.out.1.trans' kx9)).mono ?_
        rintro e X10 ⟨rfl, kk10⟩
        have kx10 : Keep noBlock W3 X10 := Keep.trans' kx9 kk10
        have xh10 := kk10.obj xh9 (fun h => h)
        have xo10 := kk10.obj xn9 (fun h => h)
        refine hK _ _ ?_
        clear hK K
        try simp only [Go.Act.put, List.getElem_toArray, List.getElem_cons_zero, List.getElem_cons_succ, List.setIfInBounds_toArray, List.set_cons_zero, List.set_cons_succ]
        have zl := kx10.obj HK.out.2.1 (fun h => h)
        have y0 : World.cell? X10 ⟨g6, 0, none⟩ = some (.slice none 0 0) := cell_of zl 0
        have y1 : World.cell? X10 ⟨g6, 1, none⟩ = some (.int .i64 0) := cell_of zl 1
        have y2 : World.cell? X10 ⟨g6, 2, none⟩ = some (.int .i64 0) := cell_of zl 2
        have y3 : World.cell? X10 ⟨g6, 3, none⟩ = some (.int .u64 0) := cell_of zl 3
        have y4 : World.cell? X10 ⟨g6, 4, none⟩ = some (.int .u64 0) := cell_of zl 4
        have y5 : World.cell? X10 ⟨g6, 5, none⟩ = some (.int .i64 0) := cell_of zl 5
        have y6 : World.cell? X10 ⟨g6, 6, none⟩ = some (.slice none 0 0) := cell_of zl 6
        have y7 : World.cell? X10 ⟨g6, 7, none⟩ = some (.slice none 0 0) := cell_of zl 7
        have f0 := frozen_of zl 0
        have f1 := frozen_of zl 1
        have f2 := frozen_of zl 2
        have f3 := frozen_of zl 3
        have f4 := frozen_of zl 4
        have f5 := frozen_of zl 5
        have f6 := frozen_of zl 6
        have f7 := frozen_of zl 7
        have HH := (show Hid (X10.heap[X0.heap.size]? = some (.cells (i32s (List.replicate hh 0)).toArray 21 (0, 0)) ∧ X10.heap[X6.heap.size]? = some (.cells (i32s (List.replicate rr 0)).toArray 21 (0, 0)) ∧ Keep noBlock w X10 ∧ X10.heap[g6]? = some (.cells #[.slice none 0 0, .int .i64 0, .int .i64 0, .int .u64 0, .int .u64 0, .int .i64 0, .slice none 0 0, .slice none 0 0] 135 (0, 0))) from ⟨xh10, xo10, HK.out.1.trans' kx10, zl⟩)
        have HS := (show Hid (w.heap.size ≤ X0.heap.size ∧ w.heap.size ≤ X6.heap.size ∧ X0.heap.size ≠ X6.heap.size ∧ X0.heap.size ≠ g6 ∧ X6.heap.size ≠ g6) from ⟨bb7.1, bb9.1, nn, bb7.2, bb9.2⟩)
        refine wpAny_take (i := 10) (v := ?_) rfl (by kernel_rfl) (by kernel_rfl) (by kernel_rfl) (fun _ _ _ h => h) (Or.inl ⟨by rfl, ?_⟩) ?_
        rotate_left 1
        · (intro w; go_simp; try with_reducible rfl)
        simp only [Go.Act.put, List.getElem_toArray, List.getElem_cons_zero, List.getElem_cons_succ, List.setIfInBounds_toArray, List.set_cons_zero, List.set_cons_succ]
        refine wpAny_ready (rs := [11]) (by kernel_rfl) (by simp) ?_
        refine AllReady.cons rfl (fun K hK => ?_) AllReady.nil
        rw [if_pos (by rfl)]
        simp only [List.getElem_toArray, List.getElem_cons_zero, List.getElem_cons_succ]
        go_simp
        refine hK _ _ ?_
        clear hK K
        refine wpAny_done (by kernel_rfl) ?_ _
        go_wp2_with fail
        refine bodyPost_ret (ret53 rfl _ _ g6 135 _ rfl (put8 HH.out.2.2.2 _ _ _ _ _ _ _ _) rfl) rfl ?_
        exact HEND.out X10 _ _ _ HH.out.1 HH.out.2.1 HH.out.2.2.1 HS.out (keep8 _ _ _ _ _ _ _ _ _ _)
      exact AllReady.nil
    exact AllReady.nil
  refine AllReady.cons rfl (fun K hK => ?_) ?_
  · rw [if_pos (by rfl)]
    simp only [List.getElem_toArray, List.getElem_cons_zero, List.getElem_cons_succ]
    go_simp
    obtain ⟨X11, eX11⟩ : ∃ X, X = World.alloc X0 (.cells (i32s (List.replicate rr 0)).toArray 21) := ⟨_, rfl⟩
    have kx11 : Keep noBlock W3 X11 := by rw [eX11]; exact Keep.alloc kx0 _
    have xn11 : X11.heap[X0.heap.size]? = some (.cells (i32s (List.replicate rr 0)).toArray 21 (0, 0)) := by rw [eX11]; exact alloc_new X0 _
    have bb9 : w.heap.size ≤ X0.heap.size ∧ X0.heap.size ≠ g6 := ⟨(HK.out.1.trans' kx0).size, Nat.ne_of_gt (obj_lt (kx0.obj HK.out.2.1 (fun h => h)))⟩
    refine hK _ _ ?_
    clear hK K
    try simp only [Go.Act.put, List.getElem_toArray, List.getElem_cons_zero, List.getElem_cons_succ, List.setIfInBounds_toArray, List.set_cons_zero, List.set_cons_succ]
    try rw [← eX11]
    clear eX11
    refine wpAny_ready (rs := [2, 7]) (by kernel_rfl) (by simp) ?_
    refine AllReady.cons rfl (fun K hK => ?_) ?_
    · rw [if_pos (by rfl)]
      simp only [List.getElem_toArray, List.getElem_cons_zero, List.getElem_cons_succ]
      go_simp
      refine (HNR.out X11 (HK.out.1.trans' kx11)).mono ?_
      rintro e X12 ⟨rfl, kk12⟩
      have kx12 : Keep noBlock W3 X12 := Keep.trans' kx11 kk12
      have xo12 := kk12.obj xn11 (fun h => h)
      refine hK _ _ ?_
      clear hK K
      try simp only [Go.Act.put, List.getElem_toArray, List.getElem_cons_zero, List.getElem_cons_succ, List.setIfInBounds_toArray, List.set_cons_zero, List.set_cons_succ]
      refine wpAny_ready (rs := [7]) (by kernel_rfl) (by simp) ?_
      refine AllReady.cons rfl (fun K hK => ?_) ?_
      · rw [if_pos (by rfl)]
        simp only [List.getElem_toArray, List.getElem_cons_zero, List.getElem_cons_succ]
        go_simp
        obtain ⟨X13, eX13⟩ : ∃ X, X = World.alloc X12 (.cells (i32s (List.replicate hh 0)).toArray 21) := ⟨_, rfl⟩
        have kx13 : Keep noBlock W3 X13 := by rw [eX13]; exact Keep.alloc kx12 _
        have xn13 : X13.heap[X12.heap.size]? = some (.cells (i32s (List.replicate hh 0)).toArray 21 (0, 0)) := by rw [eX13]; exact alloc_new X12 _
        have bb7 : w.heap.size ≤ X12.heap.size ∧ X12.heap.size ≠ g6 := ⟨(HK.out.1.trans' kx12).size, Nat.ne_of_gt (obj_lt (kx12.obj HK.out.2.1 (fun h => h)))⟩
        have nn : X12.heap.size ≠ X0.heap.size := Nat.ne_of_gt (obj_lt xo12)
        have xo13 : X13.heap[X0.heap.size]? = some (.cells (i32s (List.replicate rr 0)).toArray 21 (0, 0)) := by rw [eX13]; exact alloc_far xo12 _
        refine hK _ _ ?_
        clear hK K
        try simp only [Go.Act.put, List.getElem_toArray, List.getElem_cons_zero, List.getElem_cons_succ, List.setIfInBounds_toArray, List.set_cons_zero, List.set_cons_succ]
        try rw [← eX13]
        clear eX13
        have zl := kx13.obj HK.out.2.1 (fun h => h)
        have y0 : World.cell? X13 ⟨g6, 0, none⟩ = some (.slice none 0 0) := cell_of zl 0
        have y1 : World.cell? X13 ⟨g6, 1, none⟩ = some (.int .i64 0) := cell_of zl 1
        have y2 : World.cell? X13 ⟨g6, 2, none⟩ = some (.int .i64 0) := cell_of zl 2
        have y3 : World.cell? X13 ⟨g6, 3, none⟩ = some (.int .u64 0) := cell_of zl 3
        have y4 : World.cell? X13 ⟨g6, 4, none⟩ = some (.int .u64 0) := cell_of zl 4
        have y5 : World.cell? X13 ⟨g6, 5, none⟩ = some (.int .i64 0) := cell_of zl 5
        have y6 : World.cell? X13 ⟨g6, 6, none⟩ = some (.slice none 0 0) := cell_of zl 6
        have y7 : World.cell? X13 ⟨g6, 7, none⟩ = some (.slice none 0 0) := cell_of zl 7
        have f0 := frozen_of zl 0
        have f1 := frozen_of zl 1
        have f2 := frozen_of zl 2
        have f3 := frozen_of zl 3
        have f4 := frozen_of zl 4
        have f5 := frozen_of zl 5
        have f6 := frozen_of zl 6
        have f7 := frozen_of zl 7
        have HH := (show Hid (X13.heap[X12.heap.size]? = some (.cells (i32s (List.replicate hh 0)).toArray 21 (0, 0)) ∧ X13.heap[X0.heap.size]? = some (.cells (i32s (List.replicate rr 0)).toArray 21 (0, 0)) ∧ Keep noBlock w X13 ∧ X13.heap[g6]? = some (.cells #[.slice none 0 0, .int .i64 0, .int .i64 0, .int .u64 0, .int .u64 0, .int .i64 0, .slice none 0 0, .slice none 0 0] 135 (0, 0))) from ⟨xn13, xo13, HK.out.1.trans' kx13, zl⟩)
        have HS := (show Hid (w.heap.size ≤ X12.heap.size ∧ w.heap.size ≤ X0.heap.size ∧ X12.heap.size ≠ X0.heap.size ∧ X12.heap.size ≠ g6 ∧ X0.heap.size ≠ g6) from ⟨bb7.1, bb9.1, nn, bb7.2, bb9.2⟩)
        refine wpAny_take (i := 10) (v := ?_) rfl (by kernel_rfl) (by kernel_rfl) (by kernel_rfl) (fun _ _ _ h => h) (Or.inl ⟨by rfl, ?_⟩) ?_
        rotate_left 1
        · (intro w; go_simp; try with_reducible rfl)
        simp only [Go.Act.put, List.getElem_toArray, List.getElem_cons_zero, List.getElem_cons_succ, List.setIfInBounds_toArray, List.set_cons_zero, List.set_cons_succ]
        refine wpAny_ready (rs := [11]) (by kernel_rfl) (by simp) ?_
        refine AllReady.cons rfl (fun K hK => ?_) AllReady.nil
        rw [if_pos (by rfl)]
        simp only [List.getElem_toArray, List.getElem_cons_zero, List.getElem_cons_succ]
        go_simp
        refine hK _ _ ?_
        clear hK K
        refine wpAny_done (by kernel_rfl) ?_ _
        go_wp2_with fail
        refine bodyPost_ret (ret53 rfl _ _ g6 135 _ rfl (put8 HH.out.2.2.2 _ _ _ _ _ _ _ _) rfl) rfl ?_
        exact HEND.out X13 _ _ _ HH.out.1 HH.out.2.1 HH.out.2.2.1 HS.out (keep8 _ _ _ _ _ _ _ _ _ _)
      exact AllReady.nil
    refine AllReady.cons rfl (fun K hK => ?_) ?_
    · rw [if_pos (by rfl)]
      simp only [List.getElem_toArray, List.getElem_cons_zero, List.getElem_cons_succ]
      go_simp
      obtain ⟨X14, eX14⟩ : ∃ X, X = World.alloc X11 (.cells (i32s (List.replicate hh 0)).toArray 21) := ⟨_, rfl⟩
      have kx14 : Keep noBlock W3 X14 := by rw [eX14]; exact Keep.alloc kx11 _
      have xn14 : X14.heap[X11.heap.size]? = some (.cells (i32s (List.replicate hh 0)).toArray 21 (0, 0)) := by rw [eX14]; exact alloc_new X11 _
      have bb7 : w.heap.size ≤ X11.heap.size ∧ X11.heap.size ≠ g6 := ⟨(HK.out.1.trans' kx11).size, Nat.ne_of_gt (obj_lt (kx11.obj HK.out.2.1 (fun h => h)))⟩
      have nn : X11.heap.size ≠ X0.heap.size := Nat.ne_of_gt (obj_lt xn11)
      have xo14 : X14.heap[X0.heap.size]? = some (.cells (i32s (List.replicate rr 0)).toArray 21 (0, 0)) := by rw [eX14]; exact alloc_far xn11 _
      refine hK _ _ ?_
      clear hK K
      try simp only [Go.Act.put, List.getElem_toArray, List.getElem_cons_zero, List.getElem_cons_succ, List.setIfInBounds_toArray, List.set_cons_zero, List.set_cons_succ]
      try rw [← eX14]
      clear eX14
      refine wpAny_ready (rs := [2]) (by kernel_rfl) (by simp) ?_
      refine AllReady.cons rfl (fun K hK => ?_) ?_
      · rw [if_pos (by rfl)]
        simp only [List.getElem_toArray, List.getElem_cons_zero, List.getElem_cons_succ]
        go_simp
        refine (HNR.out X14 (HK.out.1.trans' kx14)).mono ?_
        rintro e X15 ⟨rfl, kk15⟩
        have kx15 : Keep noBlock W3 X15 := Keep.trans' kx14 kk15
        have xh15 := kk15.obj xn14 (fun h => h)
        have xo15 := kk15.obj xo14 (fun h => h)
        refine hK _ _ ?_
        clear hK K
        try simp only [Go.Act.put, List.getElem_toArray, List.getElem_cons_zero, List.getElem_cons_succ, List.setIfInBounds_toArray, List.set_cons_zero, List.set_cons_succ]
        have zl := kx15.obj HK.out.2.1 (fun h => h)
        have y0 : World.cell? X15 ⟨g6, 0, none⟩ = some (.slice none 0 0) := cell_of zl 0
        have y1 : World.cell? X15 ⟨g6, 1, none⟩ = some (.int .i64 0) := cell_of zl 1
        have y2 : World.cell? X15 ⟨g6, 2, none⟩ = some (.int .i64 0) := cell_of zl 2
        have y3 : World.cell? X15 ⟨g6, 3, none⟩ = some (.int .u64 0) := cell_of zl 3
        have y4 : World.cell? X15 ⟨g6, 4, none⟩ = some (.int .u64 0) := cell_of zl 4
        have y5 : World.cell? X15 ⟨g6, 5, none⟩ = some (.int .i64 0) := cell_of zl 5
        have y6 : World.cell? X15 ⟨g6, 6, none⟩ = some (.slice none 0 0) := cell_of zl 6
        have y7 : World.cell? X15 ⟨g6, 7, none⟩ = some (.slice none 0 0) := cell_of zl 7
        have f0 := frozen_of zl 0
        have f1 := frozen_of zl 1
        have f2 := frozen_of zl 2
        have f3 := frozen_of zl 3
        have f4 := frozen_of zl 4
        have f5 := frozen_of zl 5
        have f6 := frozen_of zl 6
        have f7 := frozen_of zl 7
        have HH := (show Hid (X15.heap[X11.heap.size]? = some (.cells (i32s (List.replicate hh 0)).toArray 21 (0, 0)) ∧ X15.heap[X0.heap.size]? = some (.cells (i32s (List.replicate rr 0)).toArray 21 (0, 0)) ∧ Keep noBlock w X15 ∧ X15.heap[g6]? = some (.cells #[.slice none 0 0, .int .i64 0, .int .i64 0, .int .u64 0, .int .u64 0, .int .i64 0, .slice none 0 0, .slice none 0 0] 135 (0, 0))) from ⟨xh15, xo15, HK.out.1.trans' kx15, zl⟩)
        have HS := (show Hid (w.heap.size ≤ X11.heap.size ∧ w.heap.size ≤ X0.heap.size ∧ X11.heap.size ≠ X0.heap.size ∧ X11.heap.size ≠ g6 ∧ X0.heap.size ≠ g6) from ⟨bb7.1, bb9.1, nn, bb7.2, bb9.2⟩)
        refine wpAny_take (i := 10) (v := ?_) rfl (by kernel_rfl) (by kernel_rfl) (by kernel_rfl) (fun _ _ _ h => h) (Or.inl ⟨by rfl, ?_⟩) ?_
        rotate_left 1
        · (intro w; go_simp; try with_reducible rfl)
        simp only [Go.Act.put, List.getElem_toArray, List.getElem_cons_zero, List.getElem_cons_succ, List.setIfInBounds_toArray, List.set_cons_zero, List.set_cons_succ]
        refine wpAny_ready (rs := [11]) (by kernel_rfl) (by simp) ?_
        refine AllReady.cons rfl (fun K hK => ?_) AllReady.nil
        rw [if_pos (by rfl)]
        simp only [List.getElem_toArray, List.getElem_cons_zero, List.getElem_cons_succ]
        go_simp
        refine hK _ _ ?_
        clear hK K
        refine wpAny_done (by kernel_rfl) ?_ _
        go_wp2_with fail
        refine bodyPost_ret (ret53 rfl _ _ g6 135 _ rfl (put8 HH.out.2.2.2 _ _ _ _ _ _ _ _) rfl) rfl ?_
        exact HEND.out X15 _ _ _ HH.out.1 HH.out.2.1 HH.out.2.2.1 HS.out (keep8 _ _ _ _ _ _ _ _ _ _)
      exact AllReady.nil
    exact AllReady.nil
  exact AllReady.nil
end
end Go.Proofs.YtnokemcogjoonaaGreatDoor.Fd

namespace Go.Proofs.YtnokemcogjoonaaGreatDoor.Fd
open Go.RowKit Go.Shelf
set_option linter.unusedVariables false

/-- How many places are tried, by level. -/
def depthN : Nat → Nat
  | 0 => 0
  | 1 => 8
  | 2 => 24
  | _ => 64
/-- The table of depths, as it lies. -/
def Dep (w : World) : Prop := ∀ i, i < 4 → w.cell? ⟨0, i, none⟩ = some (.int .i64 ((depthN i : Nat) : Int))
theorem Dep.keep {w w' : World} (h : Dep w) (hk : Keep noBlock w w') : Dep w' := fun i hi =>
  (World.cell?_of_block (hk.block 0 (World.block_lt_of_cell? w ⟨0, i, none⟩ (h i hi)) (fun h => h))).trans (h i hi)

set_option maxRecDepth 100000 in
set_option maxHeartbeats 2000000 in
theorem newSearch_any (gb off cap level window least most : Nat) (bs : List Nat) (w : World) (hD : Dep w) (hB : Bytes w (some ⟨gb, off, none⟩) cap gb off bs) (hn2 : 2 ≤ bs.length) (hn : bs.length < 65536) (hlv : level < 4) (hw1 : 1 ≤ window) (hw2 : window ≤ 16777216) (hl2 : 2 ≤ least) (hlm : least ≤ most) (hm : most ≤ 65536) :
    Calls Tryz.prog 24 #[.slice (some ⟨gb, off, none⟩) bs.length cap, .int .i64 (level : Int), .int .i64 (window : Int), .int .i64 (least : Int), .int .i64 (most : Int)] w fun e w' => (∃ c : Cf, e = .returned (.pointer (some ⟨c.sb, 0, none⟩)) ∧ c.bs = bs ∧ c.window = window ∧ c.least = least ∧ c.most = most ∧ IsS w' c 0 0 0 0 0 ∧ (∀ k, mine c k → w.heap.size ≤ k)) ∧ Keep noBlock w w' := by
  obtain ⟨d, hd⟩ : ∃ d, d = depthN level := ⟨_, rfl⟩
  have hc : w.cell? ⟨0, level, none⟩ = some (.int .i64 (d : Int)) := by rw [hd]; exact hD level hlv
  have hd64 : d ≤ 64 := by
    rw [hd]
    match level, hlv with
    | 0, _ => decide
    | 1, _ => decide
    | 2, _ => decide
    | 3, _ => decide
  have hlI : (level : Int) < 4 := by omega
  have hgl : gb < w.heap.size := hB.block (fun e => by rw [e] at hn2; simp at hn2)
  have HCH := (show Hid (∀ W, Keep noBlock w W → _) from fun W (kW : Keep noBlock w W) => newChains_any gb off cap window least bs W (hB.keep kW (fun _ h => h)) hn2 hn hw1 hw2 (by omega))
  have HMK := (show Hid (∀ W, Keep noBlock w W → _) from fun W (kW : Keep noBlock w W) => newMarks_any gb off cap least bs W (hB.keep kW (fun _ h => h)) hn (by omega))
  have HG := (show Hid (Bytes w (some ⟨gb, off, none⟩) cap gb off bs ∧ gb < w.heap.size ∧ 2 ≤ bs.length ∧ bs.length < 65536 ∧ 1 ≤ window ∧ window ≤ 16777216 ∧ 2 ≤ least ∧ least ≤ most ∧ most ≤ 65536 ∧ d ≤ 64) from ⟨hB, hgl, hn2, hn, hw1, hw2, hl2, hlm, hm, hd64⟩)
  have hD0 := hD.keep (Keep.refl noBlock w).drew
  clear hB hD hd hgl
  go_enter Tryz.func24, Tryz.ntmps24
  go_wp2_with fail
  go_region_held3 (fun W' => W'.cell? ⟨0, level, none⟩ = some (.int .i64 (d : Int))) (first | exact hc | exact c1 | exact c2 | go_keep) ((first
    | (go_at_call 39; refine (HCH.out _ ?_).mono ?_; exact (Keep.refl _ _).drew; rintro e W1 ⟨⟨hb, ob, hk, rk, rfl, hcf⟩, k1⟩; have kk1 : Keep noBlock w W1 := Keep.trans' (Keep.refl noBlock w).drew k1; have c1 : W1.cell? ⟨0, level, none⟩ = some (.int .i64 (d : Int)) := (World.cell?_of_block (kk1.block 0 (World.block_lt_of_cell? w ⟨0, level, none⟩ hc) (fun h => h))).trans hc)
    | (go_at_call 40; refine (HMK.out _ kk1).mono ?_; rintro e W2 ⟨⟨mb, rfl, hmb⟩, k2⟩; have c2 : W2.cell? ⟨0, level, none⟩ = some (.int .i64 (d : Int)) := (World.cell?_of_block ((kk1.trans' k2).block 0 (World.block_lt_of_cell? w ⟨0, level, none⟩ hc) (fun h => h))).trans hc)))
  obtain ⟨q1, q2, q3, q4, q5, q6, q7, q8⟩ := hcf
  have hk2 := kk1.trans' k2
  have hsz1 := kk1.size
  have hsz0 : w.drew.heap.size = w.heap.size := rfl
  rw [hsz0] at q4 q5
  have hh2 := k2.obj q7 (fun h => h)
  have ho2 := k2.obj q8 (fun h => h)
  have hlh := obj_lt q7
  have hlo := obj_lt q8
  have hmg := hmb.1
  have hml := hmb.2.lt
  have hsz2 := k2.size
  have HF := (show Hid (IsS (W2.alloc (.cells (srch ⟨W2.heap.size, hb, ob, mb, gb, off, cap, bs, d, window, least, most, hk, rk⟩ 0 0 0 0 0) 142)) ⟨W2.heap.size, hb, ob, mb, gb, off, cap, bs, d, window, least, most, hk, rk⟩ 0 0 0 0 0 ∧ (∀ k, mine ⟨W2.heap.size, hb, ob, mb, gb, off, cap, bs, d, window, least, most, hk, rk⟩ k → w.heap.size ≤ k) ∧ Keep noBlock w (W2.alloc (.cells (srch ⟨W2.heap.size, hb, ob, mb, gb, off, cap, bs, d, window, least, most, hk, rk⟩ 0 0 0 0 0) 142))) from by
    obtain ⟨g1, g2, g3, g4, g5, g6, g7, g8, g9, g10⟩ := HG.out
    refine ⟨⟨⟨g3, g4, g5, g6, g7, g8, g9, g10, q1, q2, q3, ?_, ?_, ?_, ?_, q6, ?_, ?_, ?_, ?_, ?_⟩, alloc_new W2 _, ⟨List.replicate (2 ^ hk) 0, List.replicate (2 ^ rk) 0, ⟨alloc_far hh2 _, by simp, fun j => ?_, fun h => absurd h (by omega), alloc_far ho2 _, by simp, fun j => ?_⟩⟩, hmb.2.keep ((Keep.refl noBlock W2).alloc _) (fun h => h), g1.keep (hk2.alloc _) (fun _ h => h)⟩, fun k e => ?_, hk2.alloc _⟩
    · show W2.heap.size ≠ hb; omega
    · show W2.heap.size ≠ ob; omega
    · show W2.heap.size ≠ mb; omega
    · show W2.heap.size ≠ gb; omega
    · show hb ≠ mb; omega
    · show hb ≠ gb; omega
    · show ob ≠ mb; omega
    · show ob ≠ gb; omega
    · show mb ≠ gb; omega
    · rw [List.getElem?_replicate]; split <;> simp
    · rw [List.getElem?_replicate]; split <;> simp
    · rcases e with e | e | e | e
      · rw [e]; show w.heap.size ≤ W2.heap.size; omega
      · rw [e]; exact q4
      · rw [e]; exact q5
      · rw [e]; show w.heap.size ≤ mb; omega)
  clear hk2 hsz1 hsz0 hh2 ho2 hlh hlo hmg hml hsz2 q1 q2 q3 q4 q5 q6 q7 q8 hmb k2 kk1 k1 HCH HMK
  go_wp2_with fail
  go_ret
  exact ⟨⟨⟨W2.heap.size, hb, ob, mb, gb, off, cap, bs, d, window, least, most, hk, rk⟩, rfl, rfl, rfl, rfl, rfl, HF.out.1, HF.out.2.1⟩, HF.out.2.2⟩
end Go.Proofs.YtnokemcogjoonaaGreatDoor.Fd

namespace Go.Proofs.YtnokemcogjoonaaGreatDoor.Fd
open Go.RowKit Go.Shelf
set_option linter.unusedVariables false

/-- A text, and how far and how long matches may be. -/
def cf0 (bs : List Nat) (win lo hi : Nat) : Cf := ⟨0, 0, 0, 0, 0, 0, 0, bs, 0, win, lo, hi, 0, 0⟩
theorem byteN_drop (bs : List Nat) (k i : Nat) : byteN (bs.drop k) i = byteN bs (k + i) := by unfold byteN; rw [List.getElem?_drop]
theorem OkM.shift {c : Cf} {bs : List Nat} {k a m b : Nat} (h : OkM c a m b) (hb : c.bs = bs.drop k) (hk : k ≤ bs.length) : OkM (cf0 bs c.window c.least c.most) (a + k) m b := by
  refine ⟨h.lo, h.hi, ?_, h.b1, h.bw, ?_, fun i hi => ?_⟩
  · have := h.fin
    rw [hb, List.length_drop] at this
    show a + k + m ≤ bs.length
    omega
  · have := h.ba; omega
  · have := h.same i hi
    rw [hb, byteN_drop, byteN_drop] at this
    have e := h.ba
    show byteN bs (a + k + i) = byteN bs (a + k - b + i)
    rw [show a + k + i = k + (a + i) from by omega, show a + k - b + i = k + (a - b + i) from by omega]
    exact this
theorem RightL.shift {c : Cf} {bs : List Nat} {k : Nat} (hb : c.bs = bs.drop k) (hk : k ≤ bs.length) : ∀ {L : List Trip} {p : Nat}, RightL c p L → RightL (cf0 bs c.window c.least c.most) (p + k) L
  | [], p, h => by
    have h : p = c.bs.length := h
    rw [hb, List.length_drop] at h
    show p + k = bs.length
    omega
  | (l, m, b) :: r, p, h => by
    rcases h with ⟨q1, q2, q3, q4, q5⟩ | ⟨q1, q2⟩
    · refine .inl ⟨q1, q2, q3, q4, ?_⟩
      rw [hb, List.length_drop] at q5
      show p + k + l = bs.length
      omega
    · refine .inr ⟨?_, ?_⟩
      · have := q1.shift hb hk
        rwa [show p + l + k = p + k + l from by omega] at this
      · have := RightL.shift hb hk q2
        rwa [show p + l + m + k = p + k + l + m from by omega] at this
theorem Uni.shift {c : Cf} {bs : List Nat} {k p win lo hi : Nat} (hb : c.bs = bs.drop k) (h : Uni (cf0 bs win lo hi) (p + k)) : Uni c p := fun i h1 h2 => by
  rw [hb, List.length_drop] at h2
  rw [hb, byteN_drop, byteN_drop]
  have := h (k + i) (by omega) (by show k + i + 1 < bs.length; omega)
  rwa [show k + i + 1 = k + (i + 1) from by omega] at this
/-- What Parse tells. -/
structure Parsed (bs : List Nat) (F lv win lo hi : Nat) (L : List Trip) : Prop where
  right : RightL (cf0 bs win lo hi) F L
  few : lv ≠ 0 → Uni (cf0 bs win lo hi) F → L.length ≤ 2 + (bs.length - F) / hi
  zero : lv = 0 → ∀ t ∈ L, t.2.1 = 0
  none : F = bs.length → L = []
  len : L.length ≤ bs.length + 1

section
attribute [local go_sem] maxSem_eq sliceSem_eq
set_option maxRecDepth 100000 in
set_option maxHeartbeats 4000000 in
theorem parse_any (a : Option Addr) (cap gb off : Nat) (bs : List Nat) (from_ level window least most : Int) (F lv win lo hi : Nat) (w : World) (hD : Dep w) (hB : Bytes w a cap gb off bs) (hn : bs.length < 65536)
    (hF : bringN from_ 0 bs.length = (F : Int)) (hlv : bringN level 0 3 = (lv : Int)) (hwin : bringN window 1 16777216 = (win : Int)) (hlo : bringN least 2 65536 = (lo : Int)) (hhi : bringN most lo 65536 = (hi : Int)) :
    Calls Tryz.prog 14 #[.slice a bs.length cap, .int .i64 from_, .int .i64 level, .int .i64 window, .int .i64 least, .int .i64 most] w fun e w' => (∃ (v : Value) (L : List Trip), e = .returned v ∧ ownsQ w' v L ∧ (∀ g, v.ownBlock = some g → w.heap.size ≤ g) ∧ Parsed bs F lv win lo hi L) ∧ Keep noBlock w w' := by
  have H1 := bring_any from_ 0 bs.length w
  have H2 := bring_any level 0 3 w
  have H3 := bring_any window 1 16777216 w
  have H4 := bring_any least 2 65536 w
  have H5 := bring_any most lo 65536 w
  rw [hF] at H1
  rw [hlv] at H2
  rw [hwin] at H3
  rw [hlo] at H4
  rw [hhi] at H5
  have bF : F ≤ bs.length := by unfold bringN at hF; omega
  have bl : lv < 4 := by unfold bringN at hlv; omega
  have bw : 1 ≤ win ∧ win ≤ 16777216 := by unfold bringN at hwin; omega
  have blo : 2 ≤ lo ∧ lo ≤ 65536 := by unfold bringN at hlo; omega
  have bhi : lo ≤ hi ∧ hi ≤ 65536 := by unfold bringN at hhi; omega
  obtain ⟨r, hr⟩ : ∃ r, r = bs.length - F := ⟨_, rfl⟩
  have hsub : (bs.length : Int) - (F : Int) = (r : Int) := by omega
  clear hF hlv hwin hlo hhi
  have HB := (show Hid (Bytes w a cap gb off bs ∧ Dep w) from ⟨hB, hD⟩)
  have HR := (show Hid (r = bs.length - F ∧ F ≤ bs.length ∧ bs.length < 65536) from ⟨hr, bF, hn⟩)
  clear hD
  by_cases h0 : r = 0
  · have h0b : ((r : Int) == 0) = true := by simp [h0]
    have HF := (show Hid (Parsed bs F lv win lo hi []) from ⟨by show F = bs.length; omega, fun _ _ => Nat.zero_le _, fun _ t ht => (by cases ht), fun _ => rfl, Nat.zero_le _⟩)
    clear hB hr h0
    generalize bs.length = n at *
    go_enter Tryz.func14, Tryz.ntmps14
    go_wp2_with fail
    refine H1.mono ?_
    rintro e w1 ⟨rfl, rfl⟩
    go_wp2_with fail
    refine H2.mono ?_
    rintro e w1 ⟨rfl, rfl⟩
    go_wp2_with fail
    refine H3.mono ?_
    rintro e w1 ⟨rfl, rfl⟩
    go_wp2_with fail
    refine H4.mono ?_
    rintro e w1 ⟨rfl, rfl⟩
    go_wp2_with fail
    refine H5.mono ?_
    rintro e w1 ⟨rfl, rfl⟩
    go_wp2_with fail
    go_ret
    exact ⟨⟨.slice none 0 0, [], rfl, ownsQ_nil _, (fun g e => by cases e), HF.out⟩, Keep.refl _ _⟩
  · have h0b : ((r : Int) == 0) = false := by rw [beq_eq_false_iff_ne]; omega
    by_cases h1 : lv = 0 ∨ r < lo
    · have HF := (show Hid (Parsed bs F lv win lo hi [(r, 0, 0)]) from ⟨.inl ⟨rfl, rfl, rfl, h0, by show F + r = bs.length; omega⟩, fun _ _ => Nat.le_trans (show 1 ≤ 2 by decide) (Nat.le_add_right 2 _), fun _ t ht => by simp at ht; rw [ht], fun e => by omega, by simp⟩)
      have HO := (show Hid (∀ W : World, ownsQ (W.alloc (.cells #[.int .i64 (r : Int), .int .i64 0, .int .i64 0] 46)) (.slice (some ⟨W.heap.size, 0, none⟩) 1 1) [(r, 0, 0)]) from fun W =>
        ⟨rfl, .inr ⟨W.heap.size, 1, _, rfl, Nat.zero_le _, alloc_new W _, Nat.le_refl _, by unfold maxLen; omega, rfl, rfl⟩⟩)
      have hc : ((lv : Int) == 0) = true ∨ (((lv : Int) == 0) = false ∧ (r : Int) < (lo : Int)) := by
        by_cases e : lv = 0
        · left; simp [e]
        · right; exact ⟨by rw [beq_eq_false_iff_ne]; omega, by omega⟩
      clear hB hr h0 h1
      generalize bs.length = n at *
      rcases hc with hc | ⟨hc, hc2⟩
      · go_enter Tryz.func14, Tryz.ntmps14
        go_wp2_with fail
        refine H1.mono ?_
        rintro e w1 ⟨rfl, rfl⟩
        go_wp2_with fail
        refine H2.mono ?_
        rintro e w1 ⟨rfl, rfl⟩
        go_wp2_with fail
        refine H3.mono ?_
        rintro e w1 ⟨rfl, rfl⟩
        go_wp2_with fail
        refine H4.mono ?_
        rintro e w1 ⟨rfl, rfl⟩
        go_wp2_with fail
        refine H5.mono ?_
        rintro e w1 ⟨rfl, rfl⟩
        go_wp2_with fail
        go_ret
        exact ⟨⟨.slice (some ⟨w1.heap.size, 0, none⟩) 1 1, _, rfl, HO.out _, (fun g e => by simp [Value.ownBlock] at e; omega), HF.out⟩, (Keep.refl _ _).alloc _⟩
      · go_enter Tryz.func14, Tryz.ntmps14
        go_wp2_with fail
        refine H1.mono ?_
        rintro e w1 ⟨rfl, rfl⟩
        go_wp2_with fail
        refine H2.mono ?_
        rintro e w1 ⟨rfl, rfl⟩
        go_wp2_with fail
        refine H3.mono ?_
        rintro e w1 ⟨rfl, rfl⟩
        go_wp2_with fail
        refine H4.mono ?_
        rintro e w1 ⟨rfl, rfl⟩
        go_wp2_with fail
        refine H5.mono ?_
        rintro e w1 ⟨rfl, rfl⟩
        go_wp2_with fail
        go_ret
        exact ⟨⟨.slice (some ⟨w1.heap.size, 0, none⟩) 1 1, _, rfl, HO.out _, (fun g e => by simp [Value.ownBlock] at e; omega), HF.out⟩, (Keep.refl _ _).alloc _⟩
    · have hc1 : ((lv : Int) == 0) = false := by rw [beq_eq_false_iff_ne]; omega
      have hc2 : ¬ (r : Int) < (lo : Int) := by omega
      have hc2' : decide (r < lo) = false := decide_eq_false (by omega)
      obtain ⟨dd, hdd⟩ : ∃ dd : Int, dd = (F : Int) - (win : Int) := ⟨_, rfl⟩
      have hsub2 : (F : Int) - (win : Int) = dd := hdd.symm
      have hdw : IntKind.i64.wrap dd = dd := by rw [IntKind.wrap_i64]; omega
      obtain ⟨k, hk⟩ : ∃ k, k = F - win := ⟨_, rfl⟩
      have hmax := maxSem_run #[3, 3] 3 0 dd (k : Int) (by omega)
      obtain ⟨p, hp⟩ : ∃ p, p = F - k := ⟨_, rfl⟩
      have hsub3 : (F : Int) - (k : Int) = (p : Int) := by omega
      obtain ⟨a2, off2, hdr, hB2, -⟩ := hB.drop k (by omega)
      have hdl : (bs.drop k).length = bs.length - k := List.length_drop
      have ha2 : a2 = some ⟨gb, off2, none⟩ := by
        rcases hB2.at_ with e | e
        · exact e
        · have : (bs.drop k).length = 0 := by rw [e]; rfl
          omega
      subst ha2
      obtain ⟨c2, hc2e⟩ : ∃ c2, c2 = cap - k := ⟨_, rfl⟩
      rw [← hc2e] at hdr hB2
      have HNS := newSearch_any gb off2 c2 lv win lo hi (bs.drop k) w HB.out.2 hB2 (by omega) (by omega) bl bw.1 bw.2 blo.1 bhi.1 bhi.2
      have HEND := (show Hid (∀ (c : Cf) (L : List Trip), c.bs = bs.drop k → c.window = win → c.least = lo → c.most = hi → Told c p L → L.length ≤ c.bs.length + 1 → Parsed bs F lv win lo hi L) from fun c L e1 e2 e3 e4 hT hL => by
        have hkb : k ≤ bs.length := by omega
        have hpk : p + k = F := by omega
        have hr2 := hT.right.shift e1 hkb
        rw [e2, e3, e4, hpk] at hr2
        refine ⟨hr2, fun _ hu => ?_, fun e => by omega, fun e => by omega, by rw [e1, hdl] at hL; omega⟩
        have := hT.few (Uni.shift e1 (by rw [hpk]; exact hu))
        rw [e1, e4, hdl] at this
        rwa [show bs.length - k - p = bs.length - F from by omega] at this)
      have HPL := (show Hid (p ≤ (bs.drop k).length) from (by omega : p ≤ (bs.drop k).length))
      obtain ⟨ln, hln⟩ : ∃ ln, ln = (bs.drop k).length := ⟨_, rfl⟩
      rw [← hln] at hdr HNS
      clear hB hB2 hr h0 h1 hdd hk hp hdl hc2e hln
      generalize bs.length = n at *
      go_enter Tryz.func14, Tryz.ntmps14
      go_wp2_with fail
      refine H1.mono ?_
      rintro e w1 ⟨rfl, rfl⟩
      go_wp2_with fail
      refine H2.mono ?_
      rintro e w1 ⟨rfl, rfl⟩
      go_wp2_with fail
      refine H3.mono ?_
      rintro e w1 ⟨rfl, rfl⟩
      go_wp2_with fail
      refine H4.mono ?_
      rintro e w1 ⟨rfl, rfl⟩
      go_wp2_with fail
      refine H5.mono ?_
      rintro e w1 ⟨rfl, rfl⟩
      go_wp2_with fail
      refine HNS.mono ?_
      rintro e W1 ⟨⟨c, rfl, e1, e2, e3, e4, s1, hnew⟩, k1⟩
      have HST := steps_any c p W1 s1 (by rw [e1]; exact HPL.out)
      clear HNS H1 H2 H3 H4 H5
      go_wp2_with fail
      refine HST.mono ?_
      rintro e W2 ⟨⟨v, L, rfl, own2, new2, hT, hL⟩, k2⟩
      have HF := (show Hid (ownsQ W2 v L ∧ (∀ g, v.ownBlock = some g → w1.heap.size ≤ g) ∧ Parsed bs F lv win lo hi L ∧ Keep noBlock w1 W2) from
        ⟨own2, fun g hg => Nat.le_trans k1.size (new2 g hg), HEND.out c L e1 e2 e3 e4 hT hL, k1.trans k2 (fun i hi e => by have := hnew i e; omega)⟩)
      clear HST own2 new2 hT hL k2 k1 hnew s1
      go_wp2_with fail
      go_ret
      exact ⟨⟨v, L, rfl, HF.out.1, HF.out.2.1, HF.out.2.2.1⟩, HF.out.2.2.2⟩
end
end Go.Proofs.YtnokemcogjoonaaGreatDoor.Fd
