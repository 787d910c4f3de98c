/-
  newRoll and newMarks.
-/
import Derived.Test.YtlpibfonpfhakaaDoorObj
import Derived.Laws.Rows
namespace Go.Proofs.YtlpibfonpfhakaaDoor
open Go.RowKit Go.Shelf
set_option linter.unusedVariables false

theorem size50 : (Tryd.prog.info? 50).map (·.size) = some 5 := by kernel_rfl
theorem size57 : (Tryd.prog.info? 57).map (·.size) = some 6 := by kernel_rfl
theorem size53 : (Tryd.prog.info? 53).map (·.size) = some 8 := by kernel_rfl
theorem ret50 {fn : Func} {p : Tmp} (h : fn.results = #[.cell p 50]) (tmps : Array Value) (w : World) (g : Nat) (t : TypeId) (cs : Array Value) (hp : tmps.getD p undef = .pointer (some ⟨g, 0, none⟩)) (hg : w.heap[g]? = some (.cells cs t (0, 0))) (h3 : cs.size = 5) :
    (results fn tmps).run Tryd.prog w = .ok (.agg cs) w :=
  results_cell_row h tmps w g t cs (0, 0) _ hp hg Tryd.underlying50 rfl (by rw [h3]; exact size50)
theorem ret57 {fn : Func} {p : Tmp} (h : fn.results = #[.cell p 57]) (tmps : Array Value) (w : World) (g : Nat) (t : TypeId) (cs : Array Value) (hp : tmps.getD p undef = .pointer (some ⟨g, 0, none⟩)) (hg : w.heap[g]? = some (.cells cs t (0, 0))) (h3 : cs.size = 6) :
    (results fn tmps).run Tryd.prog w = .ok (.agg cs) w :=
  results_cell_row h tmps w g t cs (0, 0) _ hp hg Tryd.underlying57 rfl (by rw [h3]; exact size57)

/-- The five cells of a roll. -/
abbrev rollC (a : Option Addr) (n cap p span s l : Nat) : Array Value := #[.slice a n cap, .int .i64 (p : Int), .int .i64 (span : Int), .int .u64 (s : Int), .int .u64 (l : Int)]

theorem put5 {W : World} {g t : Nat} {a0 a1 a2 a3 a4 : Value} (hz : W.heap[g]? = some (.cells #[a0, a1, a2, a3, a4] t (0, 0))) (v0 v1 v2 v3 v4 : Value) :
    (((((W.setCell ⟨g, 0, none⟩ v0).setCell ⟨g, 1, none⟩ v1).setCell ⟨g, 2, none⟩ v2).setCell ⟨g, 3, none⟩ v3).setCell ⟨g, 4, none⟩ v4).heap[g]? = some (.cells #[v0, v1, v2, v3, v4] t (0, 0)) := by
  rw [set_obj (set_obj (set_obj (set_obj (set_obj hz 0 v0) 1 v1) 2 v2) 3 v3) 4 v4]; rfl
theorem keep_one {w W : World} {g i : Nat} (h : Keep noBlock w W) (hg : w.heap.size ≤ g) (v : Value) : Keep noBlock w (W.setCell ⟨g, i, none⟩ v) :=
  h.setCell (p := ⟨g, i, none⟩) (fun hh => absurd hh (Nat.not_lt.2 hg)) v

section
attribute [local go_sem] sliceSem_eq
set_option maxRecDepth 100000 in
set_option maxHeartbeats 2000000 in
theorem newRoll_any (gb off cap span : Nat) (bs : List Nat) (w : World) (hB : Bytes w (some ⟨gb, off, none⟩) cap gb off bs) (hn : bs.length < 65536) (hs : span < 1000000) :
    Calls Tryd.prog 26 #[.slice (some ⟨gb, off, none⟩) bs.length cap, .int .i64 (span : Int)] w fun e w' => e = .returned (.agg (rollC (some ⟨gb, off, none⟩) bs.length cap 0 span (sumN bs span 0) (leadM bs span))) ∧ Keep noBlock w w' := by
  obtain ⟨g4, hg4⟩ : ∃ g4, g4 = w.heap.size := ⟨_, rfl⟩
  obtain ⟨g5, hg5⟩ : ∃ g5, g5 = w.heap.size + 1 := ⟨_, rfl⟩
  obtain ⟨W0, hW0⟩ : ∃ W0, W0 = (w.alloc (.cells #[.slice none 0 0, .int .i64 0, .int .i64 0, .int .u64 0, .int .u64 0] 50)).alloc (.cells #[.slice (some ⟨gb, off, none⟩) bs.length cap, .int .i64 0, .int .i64 (span : Int), .int .u64 0, .int .u64 1] 50) := ⟨_, rfl⟩
  have hsz : (w.alloc (.cells #[.slice none 0 0, .int .i64 0, .int .i64 0, .int .u64 0, .int .u64 0] 50)).heap.size = w.heap.size + 1 := by simp
  have k0 : Keep noBlock w W0 := by rw [hW0]; exact ((Keep.refl _ w).alloc _).alloc _
  have z4 : W0.heap[g4]? = some (.cells #[.slice none 0 0, .int .i64 0, .int .i64 0, .int .u64 0, .int .u64 0] 50 (0, 0)) := by rw [hW0, hg4]; exact alloc_far (alloc_new w _) _
  have z5 : W0.heap[g5]? = some (.cells #[.slice (some ⟨gb, off, none⟩) bs.length cap, .int .i64 0, .int .i64 (span : Int), .int .u64 0, .int .u64 1] 50 (0, 0)) := by rw [hW0, hg5, ← hsz]; exact alloc_new _ _
  have HZ := (show Hid (Keep noBlock w W0 ∧ W0.heap[g4]? = some (.cells #[.slice none 0 0, .int .i64 0, .int .i64 0, .int .u64 0, .int .u64 0] 50 (0, 0)) ∧ W0.heap[g5]? = some (.cells #[.slice (some ⟨gb, off, none⟩) bs.length cap, .int .i64 0, .int .i64 (span : Int), .int .u64 0, .int .u64 1] 50 (0, 0)) ∧ w.heap.size ≤ g4 ∧ w.heap.size ≤ g5 ∧ g4 ≠ g5) from ⟨k0, z4, z5, by omega, by omega, by omega⟩)
  have HB := (show Hid (Bytes w (some ⟨gb, off, none⟩) cap gb off bs) from hB)
  by_cases hgt : bs.length < span
  · have hgI : (bs.length : Int) < (span : Int) := by omega
    have e1 : sumN bs span 0 = 0 := by unfold sumN; rw [if_neg (by omega)]
    have e2 : leadM bs span = 1 := by unfold leadM; rw [if_neg (by omega)]
    rw [e1, e2]
    clear hB z4 z5 k0 hsz e1 e2
    generalize bs.length = n at *
    clear hW0 HZ
    go_enter Tryd.func26, Tryd.ntmps26
    go_wp2_with fail
    refine bodyPost_ret (ret50 rfl _ _ w.heap.size 50 _ (by first | rfl | (rw [← hg4]; rfl)) (alloc_far (alloc_new w _) _) rfl) rfl ?_
    exact ⟨rfl, ((Keep.refl _ w).alloc _).alloc _⟩
  · have hgI : ¬ (bs.length : Int) < (span : Int) := by omega
    obtain ⟨htk, hBt⟩ := hB.take span (by omega)
    have hlt : (bs.take span).length = span := by rw [List.length_take]; omega
    rw [hlt] at htk
    have e1 : sumN bs span 0 = hashN bs 0 span := sumN_in bs span 0 (by omega)
    have e2 : leadM bs span = leadN span := by unfold leadM; rw [if_pos (by omega)]
    rw [e1, e2]
    clear hB z4 z5 k0 hsz e1 e2 hBt hlt
    have HB2 := (show Hid (∀ W, Keep noBlock w W → ∀ i, i < span → W.cell? ⟨gb, off + i, none⟩ = some (.int .u8 ((byteN bs i : Nat) : Int))) from fun W kW i hi => (HB.out.keep kW (fun _ h => h)).cells i (by omega))
    have HB3 := (show Hid (∀ i, byteN bs i < 256) from HB.out.lt)
    clear HB
    generalize bs.length = n at *
    go_enter Tryd.func26, Tryd.ntmps26
    go_wp2_with fail
    rw [← hW0, ← hg5, ← hg4]
    clear hW0 hg5 hg4
    go_loopw [20] (fun v20 wr => ∃ i : Nat, v20 = .int .i64 (i : Int) ∧ i ≤ span ∧ Hid (Keep noBlock w wr ∧ wr.heap[g4]? = some (.cells #[.slice none 0 0, .int .i64 0, .int .i64 0, .int .u64 0, .int .u64 0] 50 (0, 0)) ∧ wr.heap[g5]? = some (.cells (rollC (some ⟨gb, off, none⟩) n cap 0 span (hashN bs 0 i) (leadN i)) 50 (0, 0)))) (fun v20 _ => span - (intOf v20).toNat)
    case atStart => exact ⟨0, rfl, Nat.zero_le _, HZ.out.1, HZ.out.2.1, HZ.out.2.2.1⟩
    case round =>
      obtain ⟨i, rfl, hi, HI⟩ := hrel
      by_cases hlt : i < span
      · have hltI : (i : Int) < (span : Int) := by omega
        have hc : wr.cell? ⟨gb, off + i, none⟩ = some (.int .u8 ((byteN bs i : Nat) : Int)) := HB2.out wr HI.out.1 i hlt
        have hxb : byteN bs i < 256 := HB3.out i
        obtain ⟨x, hx⟩ : ∃ x, x = byteN bs i := ⟨_, rfl⟩
        have r3 : wr.cell? ⟨g5, 3, none⟩ = some (.int .u64 ((hashN bs 0 i : Nat) : Int)) := cell_of HI.out.2.2 3
        have r4 : wr.cell? ⟨g5, 4, none⟩ = some (.int .u64 ((leadN i : Nat) : Int)) := cell_of HI.out.2.2 4
        have q3 := frozen_of HI.out.2.2 3
        have q4 := frozen_of HI.out.2.2 4
        have hsum := hashN_succ bs 0 i
        rw [Nat.zero_add] at hsum
        have hlead := leadN_succ i
        have hlead0 : i = 0 → leadN (i + 1) = leadN i := fun e => by rw [e]; rfl
        obtain ⟨i1, hi1⟩ : ∃ i1, i1 = i + 1 := ⟨_, rfl⟩
        rw [← hi1] at hsum hlead hlead0
        rw [← hx] at hc hxb hsum
        obtain ⟨s0, hs0⟩ : ∃ s0, s0 = hashN bs 0 i := ⟨_, rfl⟩
        obtain ⟨l0, hl0⟩ : ∃ l0, l0 = leadN i := ⟨_, rfl⟩
        rw [← hs0] at r3 hsum
        rw [← hl0] at r4 hlead hlead0
        obtain ⟨s1, hs1⟩ : ∃ s1, s1 = hashN bs 0 i1 := ⟨_, rfl⟩
        rw [← hs1] at hsum
        obtain ⟨m1, hm1⟩ : ∃ m1 : Nat, m1 = s0 * spreadN % 18446744073709551616 := ⟨_, rfl⟩
        have k1 : IntKind.u64.wrap ((s0 : Int) * 11400714819323198485) = (m1 : Int) := by rw [IntKind.wrap_u64, hm1]; unfold spreadN; omega
        have k2 : IntKind.u64.wrap ((m1 : Int) + (x : Int)) = (s1 : Int) := by rw [IntKind.wrap_u64, ← hsum, hm1]; unfold spreadN; omega
        have hadd : (i : Int) + 1 = (i1 : Int) := by omega
        have w5 : ∀ l1 : Nat, l1 = leadN i1 → Keep noBlock w ((wr.setCell ⟨g5, 3, none⟩ (.int .u64 (s1 : Int))).setCell ⟨g5, 4, none⟩ (.int .u64 (l1 : Int))) ∧ ((wr.setCell ⟨g5, 3, none⟩ (.int .u64 (s1 : Int))).setCell ⟨g5, 4, none⟩ (.int .u64 (l1 : Int))).heap[g4]? = some (.cells #[.slice none 0 0, .int .i64 0, .int .i64 0, .int .u64 0, .int .u64 0] 50 (0, 0)) ∧ ((wr.setCell ⟨g5, 3, none⟩ (.int .u64 (s1 : Int))).setCell ⟨g5, 4, none⟩ (.int .u64 (l1 : Int))).heap[g5]? = some (.cells (rollC (some ⟨gb, off, none⟩) n cap 0 span (hashN bs 0 i1) (leadN i1)) 50 (0, 0)) := fun l1 hl1 => by
          refine ⟨keep_one (keep_one HI.out.1 HZ.out.2.2.2.2.1 _) HZ.out.2.2.2.2.1 _, set_far (set_far HI.out.2.1 HZ.out.2.2.2.2.2 _ _) HZ.out.2.2.2.2.2 _ _, ?_⟩
          rw [set_obj (set_obj HI.out.2.2 3 _) 4 _, hl1, hs1]; rfl
        have HW5 := (show Hid (∀ l1 : Nat, l1 = leadN i1 → _) from w5)
        have HI1 := (show Hid (i1 = i + 1) from hi1)
        by_cases h0 : i = 0
        · have hg0 : ¬ (0 : Int) < (i : Int) := by omega
          have e0 := hlead0 h0
          have HN := (show Hid (Keep noBlock w (wr.setCell ⟨g5, 3, none⟩ (.int .u64 (s1 : Int))) ∧ (wr.setCell ⟨g5, 3, none⟩ (.int .u64 (s1 : Int))).heap[g4]? = some (.cells #[.slice none 0 0, .int .i64 0, .int .i64 0, .int .u64 0, .int .u64 0] 50 (0, 0)) ∧ (wr.setCell ⟨g5, 3, none⟩ (.int .u64 (s1 : Int))).heap[g5]? = some (.cells (rollC (some ⟨gb, off, none⟩) n cap 0 span (hashN bs 0 i1) (leadN i1)) 50 (0, 0))) from
            ⟨keep_one HI.out.1 HZ.out.2.2.2.2.1 _, set_far HI.out.2.1 HZ.out.2.2.2.2.2 _ _, by rw [set_obj HI.out.2.2 3 _, ← hs1, e0, hl0]; rfl⟩)
          clear HW5 w5 hx hs0 hl0 hs1 hm1 hsum hlead hlead0 hi1 h0 e0 HI
          go_wp2_with fail
          generalize wr.setCell ⟨g5, 3, none⟩ (.int .u64 (s1 : Int)) = W7 at *
          go_roundw
          case rel => exact ⟨i1, rfl, by have := HI1.out; omega, HN.out⟩
          case measure => have := HI1.out; simp [intOf]; omega
        · have hg0 : (0 : Int) < (i : Int) := by omega
          obtain ⟨l1, hl1⟩ : ∃ l1, l1 = leadN i1 := ⟨_, rfl⟩
          have k3 : IntKind.u64.wrap ((l0 : Int) * 11400714819323198485) = (l1 : Int) := by rw [IntKind.wrap_u64, hl1, ← hlead (by omega)]; unfold spreadN; omega
          have HN := (show Hid _ from HW5.out l1 hl1)
          clear HW5 w5 hx hs0 hl0 hs1 hm1 hsum hlead hlead0 hi1 h0 hl1 HI
          go_wp2_with fail
          generalize (wr.setCell ⟨g5, 3, none⟩ (.int .u64 (s1 : Int))).setCell ⟨g5, 4, none⟩ (.int .u64 (l1 : Int)) = W7 at *
          go_roundw
          case rel => exact ⟨i1, rfl, by have := HI1.out; omega, HN.out⟩
          case measure => have := HI1.out; simp [intOf]; omega
      · obtain rfl : i = span := by omega
        have hltI : ¬ (i : Int) < (i : Int) := by omega
        have r0 : wr.cell? ⟨g5, 0, none⟩ = some (.slice (some ⟨gb, off, none⟩) n cap) := cell_of HI.out.2.2 0
        have r1 : wr.cell? ⟨g5, 1, none⟩ = some (.int .i64 0) := cell_of HI.out.2.2 1
        have r2 : wr.cell? ⟨g5, 2, none⟩ = some (.int .i64 (i : Int)) := cell_of HI.out.2.2 2
        have r3 : wr.cell? ⟨g5, 3, none⟩ = some (.int .u64 ((hashN bs 0 i : Nat) : Int)) := cell_of HI.out.2.2 3
        have r4 : wr.cell? ⟨g5, 4, none⟩ = some (.int .u64 ((leadN i : Nat) : Int)) := cell_of HI.out.2.2 4
        have y0 : wr.cell? ⟨g4, 0, none⟩ = some (.slice none 0 0) := cell_of HI.out.2.1 0
        have y1 : wr.cell? ⟨g4, 1, none⟩ = some (.int .i64 0) := cell_of HI.out.2.1 1
        have y2 : wr.cell? ⟨g4, 2, none⟩ = some (.int .i64 0) := cell_of HI.out.2.1 2
        have y3 : wr.cell? ⟨g4, 3, none⟩ = some (.int .u64 0) := cell_of HI.out.2.1 3
        have y4 : wr.cell? ⟨g4, 4, none⟩ = some (.int .u64 0) := cell_of HI.out.2.1 4
        have f0 := frozen_of HI.out.2.1 0
        have f1 := frozen_of HI.out.2.1 1
        have f2 := frozen_of HI.out.2.1 2
        have f3 := frozen_of HI.out.2.1 3
        have f4 := frozen_of HI.out.2.1 4
        go_wp2_with fail
        refine bodyPost_ret (ret50 rfl _ _ g4 50 _ rfl (put5 HI.out.2.1 _ _ _ _ _) rfl) rfl ?_
        exact ⟨rfl, keep_one (keep_one (keep_one (keep_one (keep_one HI.out.1 HZ.out.2.2.2.1 _) HZ.out.2.2.2.1 _) HZ.out.2.2.2.1 _) HZ.out.2.2.2.1 _) HZ.out.2.2.2.1 _⟩
end
end Go.Proofs.YtlpibfonpfhakaaDoor
