/-
  newRoll and newMarks.
  newMarks.
  newChains: small facts.
-/
import Derived.Laws.Rows
import Derived.Test.YtnokemcogjoonaaGreatDoorPutP4
import Derived.Test.YtnokemcogjoonaaGreatDoorPutP16
import Derived.Test.YtnokemcogjoonaaGreatDoorPutP20
namespace Go.Proofs.YtnokemcogjoonaaGreatDoor.Fd
open Go.RowKit Go.Shelf
set_option linter.unusedVariables false

theorem size50 : (Tryz.prog.info? 132).map (·.size) = some 5 := by kernel_rfl
theorem size57 : (Tryz.prog.info? 139).map (·.size) = some 6 := by kernel_rfl
theorem size53 : (Tryz.prog.info? 135).map (·.size) = some 8 := by kernel_rfl
theorem ret50 {fn : Func} {p : Tmp} (h : fn.results = #[.cell p 132]) (tmps : Array Value) (w : World) (g : Nat) (t : TypeId) (cs : Array Value) (hp : tmps.getD p undef = .pointer (some ⟨g, 0, none⟩)) (hg : w.heap[g]? = some (.cells cs t (0, 0))) (h3 : cs.size = 5) :
    (results fn tmps).run Tryz.prog w = .ok (.agg cs) w :=
  results_cell_row h tmps w g t cs (0, 0) _ hp hg Tryz.underlying132 rfl (by rw [h3]; exact size50)
theorem ret57 {fn : Func} {p : Tmp} (h : fn.results = #[.cell p 139]) (tmps : Array Value) (w : World) (g : Nat) (t : TypeId) (cs : Array Value) (hp : tmps.getD p undef = .pointer (some ⟨g, 0, none⟩)) (hg : w.heap[g]? = some (.cells cs t (0, 0))) (h3 : cs.size = 6) :
    (results fn tmps).run Tryz.prog w = .ok (.agg cs) w :=
  results_cell_row h tmps w g t cs (0, 0) _ hp hg Tryz.underlying139 rfl (by rw [h3]; exact size57)

/-- The five cells of a roll. -/
abbrev rollC (a : Option Addr) (n cap p span s l : Nat) : Array Value := #[.slice a n cap, .int .i64 (p : Int), .int .i64 (span : Int), .int .u64 (s : Int), .int .u64 (l : Int)]

theorem put5 {W : World} {g t : Nat} {a0 a1 a2 a3 a4 : Value} (hz : W.heap[g]? = some (.cells #[a0, a1, a2, a3, a4] t (0, 0))) (v0 v1 v2 v3 v4 : Value) :
    (((((W.setCell ⟨g, 0, none⟩ v0).setCell ⟨g, 1, none⟩ v1).setCell ⟨g, 2, none⟩ v2).setCell ⟨g, 3, none⟩ v3).setCell ⟨g, 4, none⟩ v4).heap[g]? = some (.cells #[v0, v1, v2, v3, v4] t (0, 0)) := by
  rw [set_obj (set_obj (set_obj (set_obj (set_obj hz 0 v0) 1 v1) 2 v2) 3 v3) 4 v4]; rfl
theorem keep_one {w W : World} {g i : Nat} (h : Keep noBlock w W) (hg : w.heap.size ≤ g) (v : Value) : Keep noBlock w (W.setCell ⟨g, i, none⟩ v) :=
  h.setCell (p := ⟨g, i, none⟩) (fun hh => absurd hh (Nat.not_lt.2 hg)) v

section
attribute [local go_sem] sliceSem_eq
set_option maxRecDepth 100000 in
set_option maxHeartbeats 2000000 in
theorem newRoll_any (gb off cap span : Nat) (bs : List Nat) (w : World) (hB : Bytes w (some ⟨gb, off, none⟩) cap gb off bs) (hn : bs.length < 65536) (hs : span < 1000000) :
    Calls Tryz.prog 63 #[.slice (some ⟨gb, off, none⟩) bs.length cap, .int .i64 (span : Int)] w fun e w' => e = .returned (.agg (rollC (some ⟨gb, off, none⟩) bs.length cap 0 span (sumN bs span 0) (leadM bs span))) ∧ Keep noBlock w w' := by
  obtain ⟨g4, hg4⟩ : ∃ g4, g4 = w.heap.size := ⟨_, rfl⟩
  obtain ⟨g5, hg5⟩ : ∃ g5, g5 = w.heap.size + 1 := ⟨_, rfl⟩
  obtain ⟨W0, hW0⟩ : ∃ W0, W0 = (w.alloc (.cells #[.slice none 0 0, .int .i64 0, .int .i64 0, .int .u64 0, .int .u64 0] 132)).alloc (.cells #[.slice (some ⟨gb, off, none⟩) bs.length cap, .int .i64 0, .int .i64 (span : Int), .int .u64 0, .int .u64 1] 132) := ⟨_, rfl⟩
  have hsz : (w.alloc (.cells #[.slice none 0 0, .int .i64 0, .int .i64 0, .int .u64 0, .int .u64 0] 132)).heap.size = w.heap.size + 1 := by simp
  have k0 : Keep noBlock w W0 := by rw [hW0]; exact ((Keep.refl _ w).alloc _).alloc _
  have z4 : W0.heap[g4]? = some (.cells #[.slice none 0 0, .int .i64 0, .int .i64 0, .int .u64 0, .int .u64 0] 132 (0, 0)) := by rw [hW0, hg4]; exact alloc_far (alloc_new w _) _
  have z5 : W0.heap[g5]? = some (.cells #[.slice (some ⟨gb, off, none⟩) bs.length cap, .int .i64 0, .int .i64 (span : Int), .int .u64 0, .int .u64 1] 132 (0, 0)) := by rw [hW0, hg5, ← hsz]; exact alloc_new _ _
  have HZ := (show Hid (Keep noBlock w W0 ∧ W0.heap[g4]? = some (.cells #[.slice none 0 0, .int .i64 0, .int .i64 0, .int .u64 0, .int .u64 0] 132 (0, 0)) ∧ W0.heap[g5]? = some (.cells #[.slice (some ⟨gb, off, none⟩) bs.length cap, .int .i64 0, .int .i64 (span : Int), .int .u64 0, .int .u64 1] 132 (0, 0)) ∧ w.heap.size ≤ g4 ∧ w.heap.size ≤ g5 ∧ g4 ≠ g5) from ⟨k0, z4, z5, by omega, by omega, by omega⟩)
  have HB := (show Hid (Bytes w (some ⟨gb, off, none⟩) cap gb off bs) from hB)
  by_cases hgt : bs.length < span
  · have hgI : (bs.length : Int) < (span : Int) := by omega
    have e1 : sumN bs span 0 = 0 := by unfold sumN; rw [if_neg (by omega)]
    have e2 : leadM bs span = 1 := by unfold leadM; rw [if_neg (by omega)]
    rw [e1, e2]
    clear hB z4 z5 k0 hsz e1 e2
    generalize bs.length = n at *
    clear hW0 HZ
    go_enter Tryz.func63, Tryz.ntmps63
    go_wp2_with fail
    refine bodyPost_ret (ret50 rfl _ _ w.heap.size 132 _ (by first | rfl | (rw [← hg4]; rfl)) (alloc_far (alloc_new w _) _) rfl) rfl ?_
    exact ⟨rfl, ((Keep.refl _ w).alloc _).alloc _⟩
  · have hgI : ¬ (bs.length : Int) < (span : Int) := by omega
    obtain ⟨htk, hBt⟩ := hB.take span (by omega)
    have hlt : (bs.take span).length = span := by rw [List.length_take]; omega
    rw [hlt] at htk
    have e1 : sumN bs span 0 = hashN bs 0 span := sumN_in bs span 0 (by omega)
    have e2 : leadM bs span = leadN span := by unfold leadM; rw [if_pos (by omega)]
    rw [e1, e2]
    clear hB z4 z5 k0 hsz e1 e2 hBt hlt
    have HB2 := (show Hid (∀ W, Keep noBlock w W → ∀ i, i < span → W.cell? ⟨gb, off + i, none⟩ = some (.int .u8 ((byteN bs i : Nat) : Int))) from fun W kW i hi => (HB.out.keep kW (fun _ h => h)).cells i (by omega))
    have HB3 := (show Hid (∀ i, byteN bs i < 256) from HB.out.lt)
    clear HB
    generalize bs.length = n at *
    go_enter Tryz.func63, Tryz.ntmps63
    go_wp2_with fail
    rw [← hW0, ← hg5, ← hg4]
    clear hW0 hg5 hg4
    go_loopw [20] (fun v20 wr => ∃ i : Nat, v20 = .int .i64 (i : Int) ∧ i ≤ span ∧ Hid (Keep noBlock w wr ∧ wr.heap[g4]? = some (.cells #[.slice none 0 0, .int .i64 0, .int .i64 0, .int .u64 0, .int .u64 0] 132 (0, 0)) ∧ wr.heap[g5]? = some (.cells (rollC (some ⟨gb, off, none⟩) n cap 0 span (hashN bs 0 i) (leadN i)) 132 (0, 0)))) (fun v20 _ => span - (intOf v20).toNat)
    case atStart => exact ⟨0, rfl, Nat.zero_le _, HZ.out.1, HZ.out.2.1, HZ.out.2.2.1⟩
    case round =>
      obtain ⟨i, rfl, hi, HI⟩ := hrel
      by_cases hlt : i < span
      · have hltI : (i : Int) < (span : Int) := by omega
        have hc : wr.cell? ⟨gb, off + i, none⟩ = some (.int .u8 ((byteN bs i : Nat) : Int)) := HB2.out wr HI.out.1 i hlt
        have hxb : byteN bs i < 256 := HB3.out i
        obtain ⟨x, hx⟩ : ∃ x, x = byteN bs i := ⟨_, rfl⟩
        have r3 : wr.cell? ⟨g5, 3, none⟩ = some (.int .u64 ((hashN bs 0 i : Nat) : Int)) := cell_of HI.out.2.2 3
        have r4 : wr.cell? ⟨g5, 4, none⟩ = some (.int .u64 ((leadN i : Nat) : Int)) := cell_of HI.out.2.2 4
        have q3 := frozen_of HI.out.2.2 3
        have q4 := frozen_of HI.out.2.2 4
        have hsum := hashN_succ bs 0 i
        rw [Nat.zero_add] at hsum
        have hlead := leadN_succ i
        have hlead0 : i = 0 → leadN (i + 1) = leadN i := fun e => by rw [e]; rfl
        obtain ⟨i1, hi1⟩ : ∃ i1, i1 = i + 1 := ⟨_, rfl⟩
        rw [← hi1] at hsum hlead hlead0
        rw [← hx] at hc hxb hsum
        obtain ⟨s0, hs0⟩ : ∃ s0, s0 = hashN bs 0 i := ⟨_, rfl⟩
        obtain ⟨l0, hl0⟩ : ∃ l0, l0 = leadN i := ⟨_, rfl⟩
        rw [← hs0] at r3 hsum
        rw [← hl0] at r4 hlead hlead0
        obtain ⟨s1, hs1⟩ : ∃ s1, s1 = hashN bs 0 i1 := ⟨_, rfl⟩
        rw [← hs1] at hsum
        obtain ⟨m1, hm1⟩ : ∃ m1 : Nat, m1 = s0 * spreadN % 18446744073709551616 := ⟨_, rfl⟩
        have k1 : IntKind.u64.wrap ((s0 : Int) * 11400714819323198485) = (m1 : Int) := by rw [IntKind.wrap_u64, hm1]; unfold spreadN; omega
        have k2 : IntKind.u64.wrap ((m1 : Int) + (x : Int)) = (s1 : Int) := by rw [IntKind.wrap_u64, ← hsum, hm1]; unfold spreadN; omega
        have hadd : (i : Int) + 1 = (i1 : Int) := by omega
        have w5 : ∀ l1 : Nat, l1 = leadN i1 → Keep noBlock w ((wr.setCell ⟨g5, 3, none⟩ (.int .u64 (s1 : Int))).setCell ⟨g5, 4, none⟩ (.int .u64 (l1 : Int))) ∧ ((wr.setCell ⟨g5, 3, none⟩ (.int .u64 (s1 : Int))).setCell ⟨g5, 4, none⟩ (.int .u64 (l1 : Int))).heap[g4]? = some (.cells #[.slice none 0 0, .int .i64 0, .int .i64 0, .int .u64 0, .int .u64 0] 132 (0, 0)) ∧ ((wr.setCell ⟨g5, 3, none⟩ (.int .u64 (s1 : Int))).setCell ⟨g5, 4, none⟩ (.int .u64 (l1 : Int))).heap[g5]? = some (.cells (rollC (some ⟨gb, off, none⟩) n cap 0 span (hashN bs 0 i1) (leadN i1)) 132 (0, 0)) := fun l1 hl1 => by
          refine ⟨keep_one (keep_one HI.out.1 HZ.out.2.2.2.2.1 _) HZ.out.2.2.2.2.1 _, set_far (set_far HI.out.2.1 HZ.out.2.2.2.2.2 _ _) HZ.out.2.2.2.2.2 _ _, ?_⟩
          rw [set_obj (set_obj HI.out.2.2 3 _) 4 _, hl1, hs1]; rfl
        have HW5 := (show Hid (∀ l1 : Nat, l1 = leadN i1 → _) from w5)
        have HI1 := (show Hid (i1 = i + 1) from hi1)
        by_cases h0 : i = 0
        · have hg0 : ¬ (0 : Int) < (i : Int) := by omega
          have e0 := hlead0 h0
          have HN := (show Hid (Keep noBlock w (wr.setCell ⟨g5, 3, none⟩ (.int .u64 (s1 : Int))) ∧ (wr.setCell ⟨g5, 3, none⟩ (.int .u64 (s1 : Int))).heap[g4]? = some (.cells #[.slice none 0 0, .int .i64 0, .int .i64 0, .int .u64 0, .int .u64 0] 132 (0, 0)) ∧ (wr.setCell ⟨g5, 3, none⟩ (.int .u64 (s1 : Int))).heap[g5]? = some (.cells (rollC (some ⟨gb, off, none⟩) n cap 0 span (hashN bs 0 i1) (leadN i1)) 132 (0, 0))) from
            ⟨keep_one HI.out.1 HZ.out.2.2.2.2.1 _, set_far HI.out.2.1 HZ.out.2.2.2.2.2 _ _, by rw [set_obj HI.out.2.2 3 _, ← hs1, e0, hl0]; rfl⟩)
          clear HW5 w5 hx hs0 hl0 hs1 hm1 hsum hlead hlead0 hi1 h0 e0 HI
          go_wp2_with fail
          generalize wr.setCell ⟨g5, 3, none⟩ (.int .u64 (s1 : Int)) = W7 at *
          go_roundw
          case rel => exact ⟨i1, rfl, by have := HI1.out; omega, HN.out⟩
          case measure => have := HI1.out; simp [intOf]; omega
        · have hg0 : (0 : Int) < (i : Int) := by omega
          obtain ⟨l1, hl1⟩ : ∃ l1, l1 = leadN i1 := ⟨_, rfl⟩
          have k3 : IntKind.u64.wrap ((l0 : Int) * 11400714819323198485) = (l1 : Int) := by rw [IntKind.wrap_u64, hl1, ← hlead (by omega)]; unfold spreadN; omega
          have HN := (show Hid _ from HW5.out l1 hl1)
          clear HW5 w5 hx hs0 hl0 hs1 hm1 hsum hlead hlead0 hi1 h0 hl1 HI
          go_wp2_with fail
          generalize (wr.setCell ⟨g5, 3, none⟩ (.int .u64 (s1 : Int))).setCell ⟨g5, 4, none⟩ (.int .u64 (l1 : Int)) = W7 at *
          go_roundw
          case rel => exact ⟨i1, rfl, by have := HI1.out; omega, HN.out⟩
          case measure => have := HI1.out; simp [intOf]; omega
      · obtain rfl : i = span := by omega
        have hltI : ¬ (i : Int) < (i : Int) := by omega
        have r0 : wr.cell? ⟨g5, 0, none⟩ = some (.slice (some ⟨gb, off, none⟩) n cap) := cell_of HI.out.2.2 0
        have r1 : wr.cell? ⟨g5, 1, none⟩ = some (.int .i64 0) := cell_of HI.out.2.2 1
        have r2 : wr.cell? ⟨g5, 2, none⟩ = some (.int .i64 (i : Int)) := cell_of HI.out.2.2 2
        have r3 : wr.cell? ⟨g5, 3, none⟩ = some (.int .u64 ((hashN bs 0 i : Nat) : Int)) := cell_of HI.out.2.2 3
        have r4 : wr.cell? ⟨g5, 4, none⟩ = some (.int .u64 ((leadN i : Nat) : Int)) := cell_of HI.out.2.2 4
        have y0 : wr.cell? ⟨g4, 0, none⟩ = some (.slice none 0 0) := cell_of HI.out.2.1 0
        have y1 : wr.cell? ⟨g4, 1, none⟩ = some (.int .i64 0) := cell_of HI.out.2.1 1
        have y2 : wr.cell? ⟨g4, 2, none⟩ = some (.int .i64 0) := cell_of HI.out.2.1 2
        have y3 : wr.cell? ⟨g4, 3, none⟩ = some (.int .u64 0) := cell_of HI.out.2.1 3
        have y4 : wr.cell? ⟨g4, 4, none⟩ = some (.int .u64 0) := cell_of HI.out.2.1 4
        have f0 := frozen_of HI.out.2.1 0
        have f1 := frozen_of HI.out.2.1 1
        have f2 := frozen_of HI.out.2.1 2
        have f3 := frozen_of HI.out.2.1 3
        have f4 := frozen_of HI.out.2.1 4
        go_wp2_with fail
        refine bodyPost_ret (ret50 rfl _ _ g4 132 _ rfl (put5 HI.out.2.1 _ _ _ _ _) rfl) rfl ?_
        exact ⟨rfl, keep_one (keep_one (keep_one (keep_one (keep_one HI.out.1 HZ.out.2.2.2.1 _) HZ.out.2.2.2.1 _) HZ.out.2.2.2.1 _) HZ.out.2.2.2.1 _) HZ.out.2.2.2.1 _⟩
end
end Go.Proofs.YtnokemcogjoonaaGreatDoor.Fd

namespace Go.Proofs.YtnokemcogjoonaaGreatDoor.Fd
open Go.RowKit Go.Shelf
set_option linter.unusedVariables false

theorem put6 {W : World} {g t : Nat} {a0 a1 a2 a3 a4 a5 : Value} (hz : W.heap[g]? = some (.cells #[a0, a1, a2, a3, a4, a5] t (0, 0))) (v0 v1 v2 v3 v4 v5 : Value) :
    ((((((W.setCell ⟨g, 0, none⟩ v0).setCell ⟨g, 1, none⟩ v1).setCell ⟨g, 2, none⟩ v2).setCell ⟨g, 3, none⟩ v3).setCell ⟨g, 4, none⟩ v4).setCell ⟨g, 5, none⟩ v5).heap[g]? = some (.cells #[v0, v1, v2, v3, v4, v5] t (0, 0)) := by
  rw [set_obj (set_obj (set_obj (set_obj (set_obj (set_obj hz 0 v0) 1 v1) 2 v2) 3 v3) 4 v4) 5 v5]; rfl
theorem map_made (w : World) : MapOK (w.alloc (.map #[] 0)) w.heap.size 0 :=
  ⟨.map [], World.ownsMap_made w _ _ _, Maps.isMap_empty, fun kl c hc => by
    have e : (DataW.map [] : DataW Unit).atKey kl (.lit (.int .i32 0)) = .lit (.int .i32 0) := rfl
    rw [e] at hc
    simp only [DataW.lit.injEq, Lit.int.injEq, true_and] at hc
    omega⟩

section
attribute [local go_sem] maxSem_eq
set_option maxRecDepth 100000 in
set_option maxHeartbeats 2000000 in
theorem newMarks_any (gb off cap least : Nat) (bs : List Nat) (w : World) (hB : Bytes w (some ⟨gb, off, none⟩) cap gb off bs) (hn : bs.length < 65536) (hl : least ≤ 65536) :
    Calls Tryz.prog 40 #[.slice (some ⟨gb, off, none⟩) bs.length cap, .int .i64 (least : Int)] w fun e w' => (∃ mb : Nat, e = .returned (.agg #[.slice (some ⟨gb, off, none⟩) bs.length cap, .int .i64 0, .int .i64 ((max 32 least : Nat) : Int), .int .u64 ((sumN bs (max 32 least) 0 : Nat) : Int), .int .u64 ((leadM bs (max 32 least) : Nat) : Int), .map (some mb)]) ∧ w.heap.size ≤ mb ∧ MapOK w' mb 0) ∧ Keep noBlock w w' := by
  obtain ⟨g4, hg4⟩ : ∃ g4, g4 = w.heap.size := ⟨_, rfl⟩
  obtain ⟨W0, hW0⟩ : ∃ W0, W0 = w.alloc (.cells #[.slice none 0 0, .int .i64 0, .int .i64 0, .int .u64 0, .int .u64 0, .map none] 139) := ⟨_, rfl⟩
  have k0 : Keep noBlock w W0 := by rw [hW0]; exact (Keep.refl _ w).alloc _
  have z4 : W0.heap[g4]? = some (.cells #[.slice none 0 0, .int .i64 0, .int .i64 0, .int .u64 0, .int .u64 0, .map none] 139 (0, 0)) := by rw [hW0, hg4]; exact alloc_new w _
  obtain ⟨sp, hsp⟩ : ∃ sp, sp = max 32 least := ⟨_, rfl⟩
  rw [← hsp]
  have hmax := maxSem_run #[3, 3] 3 32 (least : Int) (sp : Int) (by omega)
  have HN := newRoll_any gb off cap sp bs W0 (hB.keep k0 (fun _ h => h)) hn (by omega)
  have HZ := (show Hid (Keep noBlock w W0 ∧ W0.heap[g4]? = some (.cells #[.slice none 0 0, .int .i64 0, .int .i64 0, .int .u64 0, .int .u64 0, .map none] 139 (0, 0)) ∧ w.heap.size ≤ g4) from ⟨k0, z4, Nat.le_of_eq hg4.symm⟩)
  have hmm := @run_makeMap Tryz.prog
  clear hB k0 z4 hsp
  obtain ⟨s0, hs0⟩ : ∃ s0, s0 = sumN bs sp 0 := ⟨_, rfl⟩
  obtain ⟨l0, hl0⟩ : ∃ l0, l0 = leadM bs sp := ⟨_, rfl⟩
  rw [← hs0, ← hl0] at HN ⊢
  clear hs0 hl0
  generalize bs.length = n at *
  go_enter Tryz.func40, Tryz.ntmps40
  go_wp2_with fail
  rw [← hW0, ← hg4]
  clear hW0 hg4
  refine HN.mono ?_
  rintro e W1 ⟨rfl, k1⟩
  clear HN
  have z1 := k1.obj HZ.out.2.1 (fun h => h)
  have z2 : (W1.alloc (.map #[] 0)).heap[g4]? = some (.cells #[.slice none 0 0, .int .i64 0, .int .i64 0, .int .u64 0, .int .u64 0, .map none] 139 (0, 0)) := alloc_far z1 _
  have y0 : (W1.alloc (.map #[] 0)).cell? ⟨g4, 0, none⟩ = some (.slice none 0 0) := cell_of z2 0
  have y1 : (W1.alloc (.map #[] 0)).cell? ⟨g4, 1, none⟩ = some (.int .i64 0) := cell_of z2 1
  have y2 : (W1.alloc (.map #[] 0)).cell? ⟨g4, 2, none⟩ = some (.int .i64 0) := cell_of z2 2
  have y3 : (W1.alloc (.map #[] 0)).cell? ⟨g4, 3, none⟩ = some (.int .u64 0) := cell_of z2 3
  have y4 : (W1.alloc (.map #[] 0)).cell? ⟨g4, 4, none⟩ = some (.int .u64 0) := cell_of z2 4
  have y5 : (W1.alloc (.map #[] 0)).cell? ⟨g4, 5, none⟩ = some (.map none) := cell_of z2 5
  have f0 := frozen_of z2 0
  have f1 := frozen_of z2 1
  have f2 := frozen_of z2 2
  have f3 := frozen_of z2 3
  have f4 := frozen_of z2 4
  have f5 := frozen_of z2 5
  have HZ2 := (show Hid (Keep noBlock w (W1.alloc (.map #[] 0)) ∧ (W1.alloc (.map #[] 0)).heap[g4]? = some (.cells #[.slice none 0 0, .int .i64 0, .int .i64 0, .int .u64 0, .int .u64 0, .map none] 139 (0, 0)) ∧ MapOK (W1.alloc (.map #[] 0)) W1.heap.size 0 ∧ w.heap.size ≤ W1.heap.size ∧ g4 < W1.heap.size) from
    ⟨(HZ.out.1.trans' k1).alloc _, z2, map_made W1, (HZ.out.1.trans' k1).size, obj_lt z1⟩)
  clear z1 z2 k1
  go_wp2_with fail
  refine bodyPost_ret (ret57 rfl _ _ g4 139 _ rfl (put6 HZ2.out.2.1 _ _ _ _ _ _) rfl) rfl ?_
  refine ⟨⟨_, rfl, HZ2.out.2.2.2.1, ?_⟩, keep_one (keep_one (keep_one (keep_one (keep_one (keep_one HZ2.out.1 HZ.out.2.2 _) HZ.out.2.2 _) HZ.out.2.2 _) HZ.out.2.2 _) HZ.out.2.2 _) HZ.out.2.2 _⟩
  have hne : W1.heap.size ≠ g4 := by have := HZ2.out.2.2.2.2; omega
  refine HZ2.out.2.2.1.block ?_
  rw [Below.heap_setCell _ _ _ _ hne, Below.heap_setCell _ _ _ _ hne, Below.heap_setCell _ _ _ _ hne, Below.heap_setCell _ _ _ _ hne, Below.heap_setCell _ _ _ _ hne, Below.heap_setCell _ _ _ _ hne]
end
end Go.Proofs.YtnokemcogjoonaaGreatDoor.Fd

namespace Go.Proofs.YtnokemcogjoonaaGreatDoor.Fd
open Go.RowKit Go.Shelf
set_option linter.unusedVariables false

theorem ret53 {fn : Func} {p : Tmp} (h : fn.results = #[.cell p 135]) (tmps : Array Value) (w : World) (g : Nat) (t : TypeId) (cs : Array Value) (hp : tmps.getD p undef = .pointer (some ⟨g, 0, none⟩)) (hg : w.heap[g]? = some (.cells cs t (0, 0))) (h3 : cs.size = 8) :
    (results fn tmps).run Tryz.prog w = .ok (.agg cs) w :=
  results_cell_row h tmps w g t cs (0, 0) _ hp hg Tryz.underlying135 rfl (by rw [h3]; exact size53)
theorem info21 : (Tryz.prog.info? 21).map (fun i => (i.zero, i.size, i.bytes)) = some (some (.int .i32 0), 1, 4) := by kernel_rfl
theorem made_i32 (n : Nat) : madeCells #[.int .i32 0] n = (i32s (List.replicate n 0)).toArray := by
  refine Array.ext (by simp [size_madeCells, i32s]) fun i h1 h2 => ?_
  simp [madeCells, i32s, Nat.mod_one]
/-- make of l numbers of 32 bits. -/
theorem run_make_i32 (l : Nat) (hc : l ≤ 1000000) (w : World) :
    (Instr.makeSlice 133 (.int .i64 (l : Int)) (.int .i64 (l : Int))).run Tryz.prog w = .ok (.slice (some ⟨w.heap.size, 0, none⟩) l l) (w.alloc (.cells (i32s (List.replicate l 0)).toArray 21)) := by
  obtain ⟨i0, hi, hz0, hz1, hz2⟩ := info_parts info21
  have hr := run_make (P := Tryz.prog) w 133 21 i0 (.int .i32 0) Tryz.underlying133 hi hz0 .i64 .i64 (l : Int) (l : Int) (by omega) (by omega) (by rw [hz2]; omega) (by omega)
  simp only [Int.toNat_natCast, hz1, Nat.mul_one] at hr
  rw [show (Value.int .i32 0).cells = #[.int .i32 0] from rfl, made_i32] at hr
  exact hr
theorem wrap64_small (r : Nat) (h : r ≤ 1000000) : wrap64 (r : Int) = (r : Int) := by
  unfold wrap64
  omega
set_option maxHeartbeats 2000000 in
theorem put8 {W : World} {g t : Nat} {a0 a1 a2 a3 a4 a5 a6 a7 : Value} (hz : W.heap[g]? = some (.cells #[a0, a1, a2, a3, a4, a5, a6, a7] t (0, 0))) (v0 v1 v2 v3 v4 v5 v6 v7 : Value) :
    ((((((((W.setCell ⟨g, 0, none⟩ v0).setCell ⟨g, 1, none⟩ v1).setCell ⟨g, 2, none⟩ v2).setCell ⟨g, 3, none⟩ v3).setCell ⟨g, 4, none⟩ v4).setCell ⟨g, 5, none⟩ v5).setCell ⟨g, 6, none⟩ v6).setCell ⟨g, 7, none⟩ v7).heap[g]? = some (.cells #[v0, v1, v2, v3, v4, v5, v6, v7] t (0, 0)) := by
  rw [set_obj (set_obj (set_obj (set_obj (set_obj (set_obj (set_obj (set_obj hz 0 v0) 1 v1) 2 v2) 3 v3) 4 v4) 5 v5) 6 v6) 7 v7]; rfl
theorem keep8 (W : World) (g : Nat) (v0 v1 v2 v3 v4 v5 v6 v7 : Value) : Keep (fun k => k = g) W ((((((((W.setCell ⟨g, 0, none⟩ v0).setCell ⟨g, 1, none⟩ v1).setCell ⟨g, 2, none⟩ v2).setCell ⟨g, 3, none⟩ v3).setCell ⟨g, 4, none⟩ v4).setCell ⟨g, 5, none⟩ v5).setCell ⟨g, 6, none⟩ v6).setCell ⟨g, 7, none⟩ v7) :=
  (((((((Keep.setCell (Keep.refl (fun k => k = g) W) (p := ⟨g, 0, none⟩) (fun _ => rfl) v0).setCell (p := ⟨g, 1, none⟩) (fun _ => rfl) v1).setCell (p := ⟨g, 2, none⟩) (fun _ => rfl) v2).setCell (p := ⟨g, 3, none⟩) (fun _ => rfl) v3).setCell (p := ⟨g, 4, none⟩) (fun _ => rfl) v4).setCell (p := ⟨g, 5, none⟩) (fun _ => rfl) v5).setCell (p := ⟨g, 6, none⟩) (fun _ => rfl) v6).setCell (p := ⟨g, 7, none⟩) (fun _ => rfl) v7

end Go.Proofs.YtnokemcogjoonaaGreatDoor.Fd
