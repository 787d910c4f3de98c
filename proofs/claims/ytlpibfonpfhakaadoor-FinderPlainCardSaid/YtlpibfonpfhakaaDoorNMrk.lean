/-
  newMarks.
-/
import Derived.Test.YtlpibfonpfhakaaDoorNRol
namespace Go.Proofs.YtlpibfonpfhakaaDoor
open Go.RowKit Go.Shelf
set_option linter.unusedVariables false

theorem put6 {W : World} {g t : Nat} {a0 a1 a2 a3 a4 a5 : Value} (hz : W.heap[g]? = some (.cells #[a0, a1, a2, a3, a4, a5] t (0, 0))) (v0 v1 v2 v3 v4 v5 : Value) :
    ((((((W.setCell ⟨g, 0, none⟩ v0).setCell ⟨g, 1, none⟩ v1).setCell ⟨g, 2, none⟩ v2).setCell ⟨g, 3, none⟩ v3).setCell ⟨g, 4, none⟩ v4).setCell ⟨g, 5, none⟩ v5).heap[g]? = some (.cells #[v0, v1, v2, v3, v4, v5] t (0, 0)) := by
  rw [set_obj (set_obj (set_obj (set_obj (set_obj (set_obj hz 0 v0) 1 v1) 2 v2) 3 v3) 4 v4) 5 v5]; rfl
theorem map_made (w : World) : MapOK (w.alloc (.map #[] 0)) w.heap.size 0 :=
  ⟨.map [], World.ownsMap_made w _ _ _, Maps.isMap_empty, fun kl c hc => by
    have e : (DataW.map [] : DataW Unit).atKey kl (.lit (.int .i32 0)) = .lit (.int .i32 0) := rfl
    rw [e] at hc
    simp only [DataW.lit.injEq, Lit.int.injEq, true_and] at hc
    omega⟩

section
attribute [local go_sem] maxSem_eq
set_option maxRecDepth 100000 in
set_option maxHeartbeats 2000000 in
theorem newMarks_any (gb off cap least : Nat) (bs : List Nat) (w : World) (hB : Bytes w (some ⟨gb, off, none⟩) cap gb off bs) (hn : bs.length < 65536) (hl : least ≤ 65536) :
    Calls Tryd.prog 21 #[.slice (some ⟨gb, off, none⟩) bs.length cap, .int .i64 (least : Int)] w fun e w' => (∃ mb : Nat, e = .returned (.agg #[.slice (some ⟨gb, off, none⟩) bs.length cap, .int .i64 0, .int .i64 ((max 32 least : Nat) : Int), .int .u64 ((sumN bs (max 32 least) 0 : Nat) : Int), .int .u64 ((leadM bs (max 32 least) : Nat) : Int), .map (some mb)]) ∧ w.heap.size ≤ mb ∧ MapOK w' mb 0) ∧ Keep noBlock w w' := by
  obtain ⟨g4, hg4⟩ : ∃ g4, g4 = w.heap.size := ⟨_, rfl⟩
  obtain ⟨W0, hW0⟩ : ∃ W0, W0 = w.alloc (.cells #[.slice none 0 0, .int .i64 0, .int .i64 0, .int .u64 0, .int .u64 0, .map none] 57) := ⟨_, rfl⟩
  have k0 : Keep noBlock w W0 := by rw [hW0]; exact (Keep.refl _ w).alloc _
  have z4 : W0.heap[g4]? = some (.cells #[.slice none 0 0, .int .i64 0, .int .i64 0, .int .u64 0, .int .u64 0, .map none] 57 (0, 0)) := by rw [hW0, hg4]; exact alloc_new w _
  obtain ⟨sp, hsp⟩ : ∃ sp, sp = max 32 least := ⟨_, rfl⟩
  rw [← hsp]
  have hmax := maxSem_run #[3, 3] 3 32 (least : Int) (sp : Int) (by omega)
  have HN := newRoll_any gb off cap sp bs W0 (hB.keep k0 (fun _ h => h)) hn (by omega)
  have HZ := (show Hid (Keep noBlock w W0 ∧ W0.heap[g4]? = some (.cells #[.slice none 0 0, .int .i64 0, .int .i64 0, .int .u64 0, .int .u64 0, .map none] 57 (0, 0)) ∧ w.heap.size ≤ g4) from ⟨k0, z4, Nat.le_of_eq hg4.symm⟩)
  have hmm := @run_makeMap Tryd.prog
  clear hB k0 z4 hsp
  obtain ⟨s0, hs0⟩ : ∃ s0, s0 = sumN bs sp 0 := ⟨_, rfl⟩
  obtain ⟨l0, hl0⟩ : ∃ l0, l0 = leadM bs sp := ⟨_, rfl⟩
  rw [← hs0, ← hl0] at HN ⊢
  clear hs0 hl0
  generalize bs.length = n at *
  go_enter Tryd.func21, Tryd.ntmps21
  go_wp2_with fail
  rw [← hW0, ← hg4]
  clear hW0 hg4
  refine HN.mono ?_
  rintro e W1 ⟨rfl, k1⟩
  clear HN
  have z1 := k1.obj HZ.out.2.1 (fun h => h)
  have z2 : (W1.alloc (.map #[] 0)).heap[g4]? = some (.cells #[.slice none 0 0, .int .i64 0, .int .i64 0, .int .u64 0, .int .u64 0, .map none] 57 (0, 0)) := alloc_far z1 _
  have y0 : (W1.alloc (.map #[] 0)).cell? ⟨g4, 0, none⟩ = some (.slice none 0 0) := cell_of z2 0
  have y1 : (W1.alloc (.map #[] 0)).cell? ⟨g4, 1, none⟩ = some (.int .i64 0) := cell_of z2 1
  have y2 : (W1.alloc (.map #[] 0)).cell? ⟨g4, 2, none⟩ = some (.int .i64 0) := cell_of z2 2
  have y3 : (W1.alloc (.map #[] 0)).cell? ⟨g4, 3, none⟩ = some (.int .u64 0) := cell_of z2 3
  have y4 : (W1.alloc (.map #[] 0)).cell? ⟨g4, 4, none⟩ = some (.int .u64 0) := cell_of z2 4
  have y5 : (W1.alloc (.map #[] 0)).cell? ⟨g4, 5, none⟩ = some (.map none) := cell_of z2 5
  have f0 := frozen_of z2 0
  have f1 := frozen_of z2 1
  have f2 := frozen_of z2 2
  have f3 := frozen_of z2 3
  have f4 := frozen_of z2 4
  have f5 := frozen_of z2 5
  have HZ2 := (show Hid (Keep noBlock w (W1.alloc (.map #[] 0)) ∧ (W1.alloc (.map #[] 0)).heap[g4]? = some (.cells #[.slice none 0 0, .int .i64 0, .int .i64 0, .int .u64 0, .int .u64 0, .map none] 57 (0, 0)) ∧ MapOK (W1.alloc (.map #[] 0)) W1.heap.size 0 ∧ w.heap.size ≤ W1.heap.size ∧ g4 < W1.heap.size) from
    ⟨(HZ.out.1.trans' k1).alloc _, z2, map_made W1, (HZ.out.1.trans' k1).size, obj_lt z1⟩)
  clear z1 z2 k1
  go_wp2_with fail
  refine bodyPost_ret (ret57 rfl _ _ g4 57 _ rfl (put6 HZ2.out.2.1 _ _ _ _ _ _) rfl) rfl ?_
  refine ⟨⟨_, rfl, HZ2.out.2.2.2.1, ?_⟩, keep_one (keep_one (keep_one (keep_one (keep_one (keep_one HZ2.out.1 HZ.out.2.2 _) HZ.out.2.2 _) HZ.out.2.2 _) HZ.out.2.2 _) HZ.out.2.2 _) HZ.out.2.2 _⟩
  have hne : W1.heap.size ≠ g4 := by have := HZ2.out.2.2.2.2; omega
  refine HZ2.out.2.2.1.block ?_
  rw [Below.heap_setCell _ _ _ _ hne, Below.heap_setCell _ _ _ _ hne, Below.heap_setCell _ _ _ _ hne, Below.heap_setCell _ _ _ _ hne, Below.heap_setCell _ _ _ _ hne, Below.heap_setCell _ _ _ _ hne]
end
end Go.Proofs.YtlpibfonpfhakaaDoor
