/-
  A state as at first.
  A state as at first.
  Chunk of a writer's state: no state, what is no place, steps that do not make the text, and a chunk.
  A new state; settings.
  A new writer's state.
-/
import Derived.Laws.Tables
import Derived.Test.YtnokemcogjoonaaGreatDoorPutP13
namespace Go.Proofs.YtnokemcogjoonaaGreatDoor
open Go.RowKit Go.Shelf
set_option linter.unusedVariables false

set_option maxRecDepth 20000 in
set_option maxHeartbeats 4000000 in
theorem reset_chances (sb : Nat) (s : Se) (c : Nat → Nat) (w : World) (h : IsS w sb s c) :
    Calls Tryz.prog 22 #[.pointer (some ⟨sb, 8, none⟩)] w fun e w' => e = .returned (.tuple #[]) ∧ ∃ c', Rs w w' sb s c c' 8 14143 := by
  have HI := hid h
  clear h
  go_enter Tryz.func22, Tryz.ntmps22
  go_wp2_with fail
  go_loopw [6] (fun i wr => ∃ j : Nat, i = .int .i64 j ∧ j ≤ 12 ∧ Hid (∃ c', Rs w wr sb s c c' 8 8 ∧ Ev c' 8 (8 + j * 16) ∧ Ev c' 200 (200 + j * 16))) (fun i _ => 12 - (intOf i).toNat)
  case atStart => exact ⟨0, rfl, by omega, (show ∃ c', _ from ⟨c, Rs.nil HI.out 8, fun i h1 h2 => by omega, fun i h1 h2 => by omega⟩)⟩
  case round =>
    obtain ⟨j, rfl, hj, HQ⟩ := hrel
    by_cases hlt : j < 12
    · have hltI : (j : Int) < 12 := by omega
      obtain ⟨c2, q1, q2, q3⟩ := HQ.out
      have HA := hid (reset_tree sb (8 + j * 16) 16 16 s c2 wr q1.st (by omega) (by omega))
      have HC := hid (And.intro q1 (And.intro q2 q3))
      clear q1 q2 q3 HQ
      go_wp2_with fail
      refine HA.out.mono ?_
      rintro e w3 ⟨rfl, c3, r3⟩
      have HB := hid (reset_tree sb (200 + j * 16) 16 16 s c3 w3 r3.st (by omega) (by omega))
      have R3 := hid r3
      clear r3 HA
      go_wp2_with fail
      refine HB.out.mono ?_
      rintro e w4 ⟨rfl, c4, r4⟩
      have HG := (show Hid (∃ c', Rs w w4 sb s c c' 8 8 ∧ Ev c' 8 (8 + (j + 1) * 16) ∧ Ev c' 200 (200 + (j + 1) * 16)) from by
        obtain ⟨q1, q2, q3⟩ := HC.out
        have m := R3.out.mo.trans r4.mo
        refine ⟨c4, ⟨r4.st, q1.ev.mo m, q1.mo.trans m, (q1.kp.trans' R3.out.kp).trans' r4.kp⟩, fun i h1 h2 => ?_, fun i h1 h2 => ?_⟩
        · by_cases hb : i < 8 + j * 16
          · exact m i (q2 i h1 hb)
          · exact r4.mo i (R3.out.ev i (by omega) (by omega))
        · by_cases hb : i < 200 + j * 16
          · exact m i (q3 i h1 hb)
          · exact r4.ev i (by omega) (by omega))
      clear r4 HB HC R3
      go_wp2_with fail
      go_roundw
      case rel => exact ⟨j + 1, by go_num, by omega, HG⟩
      case measure => simp [intOf]; omega
    · have hltI : ¬ (j : Int) < 12 := by omega
      obtain rfl : j = 12 := by omega
      have HD := (show Hid (∃ c', Rs w wr sb s c c' 8 392) from by
        obtain ⟨c2, q1, q2, q3⟩ := HQ.out
        refine ⟨c2, q1.st, fun i h1 h2 => ?_, q1.mo, q1.kp⟩
        by_cases b : i < 200
        · exact q2 i h1 (by omega)
        · exact q3 i (by omega) (by omega))
      clear HQ
      go_wp2_with fail
      go_region
      obtain ⟨V, hV⟩ : ∃ V, V = (wr.alloc (.cells #[.slice (some ⟨sb, 392, none⟩) 12 12, .slice (some ⟨sb, 404, none⟩) 12 12, .slice (some ⟨sb, 416, none⟩) 12 12, .slice (some ⟨sb, 428, none⟩) 12 12] 128)).drew := ⟨_, rfl⟩
      have HT := (show Hid (V.heap[wr.heap.size]? = some (.cells #[.slice (some ⟨sb, 392, none⟩) 12 12, .slice (some ⟨sb, 404, none⟩) 12 12, .slice (some ⟨sb, 416, none⟩) 12 12, .slice (some ⟨sb, 428, none⟩) 12 12] 128 (0, 0)) ∧ ∃ c', Rs w V sb s c c' 8 392) from by
        obtain ⟨c2, q⟩ := HD.out
        have kk : Keep noBlock wr V := by rw [hV]; exact ((Keep.refl noBlock wr).alloc _).drew
        exact ⟨by rw [hV]; exact alloc_new wr _, c2, q.st.keep kk (fun h => h), q.ev, q.mo, q.kp.trans kk (fun _ _ h => h.elim)⟩)
      rw [← hV]
      clear hV HD
      generalize wr.heap.size = nb at *
      go_wp2_with fail
      go_loopw [42] (fun i wt => ∃ j : Nat, i = .int .i64 j ∧ j ≤ 4 ∧ Hid (wt.heap[nb]? = some (.cells #[.slice (some ⟨sb, 392, none⟩) 12 12, .slice (some ⟨sb, 404, none⟩) 12 12, .slice (some ⟨sb, 416, none⟩) 12 12, .slice (some ⟨sb, 428, none⟩) 12 12] 128 (0, 0)) ∧ ∃ c', Rs w wt sb s c c' 8 (392 + j * 12))) (fun i _ => 4 - (intOf i).toNat)
      case atStart => exact ⟨0, rfl, by omega, HT⟩
      case round =>
        obtain ⟨j, rfl, hj, HQ⟩ := hrel
        by_cases hlt : j < 4
        · have hltI : (j : Int) < 4 := by omega
          obtain ⟨hnb, c2, q1⟩ := HQ.out
          have hcell : wr.cell? ⟨nb, j, none⟩ = some (.slice (some ⟨sb, 392 + j * 12, none⟩) 12 12) := by
            rw [cell_of hnb j]
            have : j = 0 ∨ j = 1 ∨ j = 2 ∨ j = 3 := by omega
            rcases this with rfl | rfl | rfl | rfl <;> rfl
          have HA := hid (reset_tree sb (392 + j * 12) 12 12 s c2 wr q1.st (by omega) (by omega))
          have HC := hid (And.intro hnb q1)
          have hnn : nb ≠ sb := fun e => q1.st.ne hnb (by decide) e.symm
          clear q1 HQ hnb
          go_wp2_with fail
          refine HA.out.mono ?_
          rintro e w3 ⟨rfl, c3, r3⟩
          have HG := (show Hid (w3.heap[nb]? = some (.cells #[.slice (some ⟨sb, 392, none⟩) 12 12, .slice (some ⟨sb, 404, none⟩) 12 12, .slice (some ⟨sb, 416, none⟩) 12 12, .slice (some ⟨sb, 428, none⟩) 12 12] 128 (0, 0)) ∧ ∃ c', Rs w w3 sb s c c' 8 (392 + (j + 1) * 12)) from by
            refine ⟨r3.kp.obj HC.out.1 hnn, c3, ?_⟩
            have := HC.out.2.and r3
            rw [show 392 + (j + 1) * 12 = 392 + j * 12 + 12 from by omega]
            exact this)
          clear r3 HA HC hnn hcell
          go_wp2_with fail
          go_roundw
          case rel => exact ⟨j + 1, by go_num, by omega, HG⟩
          case measure => simp [intOf]; omega
        · have hltI : ¬ (j : Int) < 4 := by omega
          obtain rfl : j = 4 := by omega
          have HD := (show Hid (∃ c', Rs w wr sb s c c' 8 440) from HQ.out.2)
          clear HQ HT
          go_wp2_with fail
          go_loopw [49] (fun i wt => ∃ j : Nat, i = .int .i64 j ∧ j ≤ 16 ∧ Hid (∃ c', Rs w wt sb s c c' 8 (440 + j * 768))) (fun i _ => 16 - (intOf i).toNat)
          case atStart => exact ⟨0, rfl, by omega, HD⟩
          case round =>
            obtain ⟨j, rfl, hj, HQ⟩ := hrel
            by_cases hlt : j < 16
            · have hltI : (j : Int) < 16 := by omega
              obtain ⟨c2, q1⟩ := HQ.out
              have HA := hid (reset_tree sb (440 + j * 768) 768 768 s c2 wr q1.st (by omega) (by omega))
              have HC := hid q1
              clear q1 HQ
              go_wp2_with fail
              refine HA.out.mono ?_
              rintro e w3 ⟨rfl, c3, r3⟩
              have HG := (show Hid (∃ c', Rs w w3 sb s c c' 8 (440 + (j + 1) * 768)) from by
                refine ⟨c3, ?_⟩
                have := HC.out.and r3
                rw [show 440 + (j + 1) * 768 = 440 + j * 768 + 768 from by omega]
                exact this)
              clear r3 HA HC
              go_wp2_with fail
              go_roundw
              case rel => exact ⟨j + 1, by go_num, by omega, HG⟩
              case measure => simp [intOf]; omega
            · have hltI : ¬ (j : Int) < 16 := by omega
              obtain rfl : j = 16 := by omega
              obtain ⟨c2, q1⟩ := HQ.out
              have HA := hid (reset_lengths sb 12728 s c2 wr q1.st (by omega) (by omega))
              have HC := hid q1
              clear q1 HQ HD
              go_wp2_with fail
              refine HA.out.mono ?_
              rintro e w3 ⟨rfl, c3, r3⟩
              have HB := hid (reset_lengths sb 13242 s c3 w3 r3.st (by omega) (by omega))
              have R3 := hid r3
              clear r3 HA
              go_wp2_with fail
              refine HB.out.mono ?_
              rintro e w4 ⟨rfl, c4, r4⟩
              have HE := hid (reset_distances sb s c4 w4 r4.st)
              have R4 := hid r4
              clear r4 HB
              go_wp2_with fail
              refine HE.out.mono ?_
              rintro e w5 ⟨rfl, c5, r5⟩
              have HG := (show Hid (∃ c', Rs w w5 sb s c c' 8 14143) from ⟨c5, ((HC.out.and R3.out).and R4.out).and r5⟩)
              clear r5 HE HC R3 R4
              go_wp2_with fail
              go_end0
              exact ⟨rfl, HG.out⟩

/-- A state as at first, with these settings. -/
def newS (lc lp pb : Nat) : Se := ⟨lc, lp, pb, 0, 0, 0, 0, 0⟩
theorem IsS.even {w : World} {b : Nat} {s : Se} {c : Nat → Nat} (h : IsS w b s c) (he : Ev c 8 14143) : IsS w b s (fun _ => 1024) := by
  obtain ⟨cs, ho, hc⟩ := h.obj
  exact ⟨⟨cs, ho, ⟨hc.size, hc.e0, hc.e1, hc.e2, hc.e3, hc.e4, hc.e5, hc.e6, hc.e7, fun i h1 h2 => by rw [hc.ch i h1 h2, he i h1 h2]⟩⟩, h.ok, fun i => by show 1024 < _; omega⟩
theorem Cells.zero {cs : Array Value} {s : Se} {c : Nat → Nat} (h : Cells cs s c) : Cells (((((cs.setIfInBounds 3 (.int .u8 0)).setIfInBounds 4 (.int .u32 0)).setIfInBounds 5 (.int .u32 0)).setIfInBounds 6 (.int .u32 0)).setIfInBounds 7 (.int .u32 0)) (newS s.lc s.lp s.pb) c := by
  have hs := h.size
  have e0 := h.e0
  have e1 := h.e1
  have e2 := h.e2
  refine ⟨by simp [hs], ?_, ?_, ?_, ?_, ?_, ?_, ?_, ?_, fun i h1 h2 => ?_⟩
  · simp [newS, e0]
  · simp [newS, e1]
  · simp [newS, e2]
  · simp [hs]; rfl
  · simp [hs]; rfl
  · simp [hs]; rfl
  · simp [hs]; rfl
  · simp [hs]; rfl
  · rw [Array.getElem?_setIfInBounds, if_neg (by omega), Array.getElem?_setIfInBounds, if_neg (by omega), Array.getElem?_setIfInBounds, if_neg (by omega), Array.getElem?_setIfInBounds, if_neg (by omega), Array.getElem?_setIfInBounds, if_neg (by omega)]
    exact h.ch i h1 h2
theorem IsS.zero {w : World} {b : Nat} {s : Se} {c : Nat → Nat} (h : IsS w b s c) : IsS (((((w.setCell ⟨b, 3, none⟩ (.int .u8 0)).setCell ⟨b, 4, none⟩ (.int .u32 0)).setCell ⟨b, 5, none⟩ (.int .u32 0)).setCell ⟨b, 6, none⟩ (.int .u32 0)).setCell ⟨b, 7, none⟩ (.int .u32 0)) b (newS s.lc s.lp s.pb) c := by
  obtain ⟨cs, ho, hc⟩ := h.obj
  exact ⟨⟨_, set_obj (set_obj (set_obj (set_obj (set_obj ho 3 _) 4 _) 5 _) 6 _) 7 _, hc.zero⟩, ⟨h.ok.lc, h.ok.pb, (by show 0 < 12; omega), (by show 0 < 4294967296; omega), (by show 0 < 4294967296; omega), (by show 0 < 4294967296; omega), (by show 0 < 4294967296; omega)⟩, h.lt⟩
theorem reset_nil (w : World) : Calls Tryz.prog 13 #[.pointer none] w fun e w' => e = .returned (.tuple #[]) ∧ w' = w := by
  go_enter Tryz.func13, Tryz.ntmps13
  go_wp2
  first | go_end0 | refine bodyPost_ret (results_none rfl _ _ _) rfl ?_
  exact ⟨rfl, rfl⟩
set_option maxRecDepth 20000 in
set_option maxHeartbeats 2000000 in
theorem reset_any (sb : Nat) (s : Se) (c : Nat → Nat) (w : World) (h : IsS w sb s c) :
    Calls Tryz.prog 13 #[.pointer (some ⟨sb, 0, none⟩)] w fun e w' => e = .returned (.tuple #[]) ∧ IsS w' sb (newS s.lc s.lp s.pb) (fun _ => 1024) ∧ Keep (fun k => k = sb) w w' := by
  obtain ⟨f0, f1, f2, f3, f4, f5, f6, f7, ff⟩ := h.first
  have g3 := ff 3
  have g4 := ff 4
  have g5 := ff 5
  have g6 := ff 6
  have g7 := ff 7
  have HI := hid h
  clear h ff
  go_enter Tryz.func13, Tryz.ntmps13
  go_wp2_with fail
  have h1 := HI.out.zero
  have k1 := (((((Keep.refl (fun k => k = sb) w).setCell (p := ⟨sb, 3, none⟩) (fun _ => rfl) (.int .u8 0)).setCell (p := ⟨sb, 4, none⟩) (fun _ => rfl) (.int .u32 0)).setCell (p := ⟨sb, 5, none⟩) (fun _ => rfl) (.int .u32 0)).setCell (p := ⟨sb, 6, none⟩) (fun _ => rfl) (.int .u32 0)).setCell (p := ⟨sb, 7, none⟩) (fun _ => rfl) (.int .u32 0)
  generalize ((((w.setCell ⟨sb, 3, none⟩ (.int .u8 0)).setCell ⟨sb, 4, none⟩ (.int .u32 0)).setCell ⟨sb, 5, none⟩ (.int .u32 0)).setCell ⟨sb, 6, none⟩ (.int .u32 0)).setCell ⟨sb, 7, none⟩ (.int .u32 0) = W at *
  have HR := hid (reset_chances sb _ c W h1)
  have HK := hid k1
  clear h1 k1 f0 f1 f2 f3 f4 f5 f6 f7 g3 g4 g5 g6 g7
  refine HR.out.mono ?_
  rintro e w2 ⟨rfl, c2, r2⟩
  have HF := (show Hid (IsS w2 sb (newS s.lc s.lp s.pb) (fun _ => 1024) ∧ Keep (fun k => k = sb) w w2) from ⟨r2.st.even r2.ev, HK.out.trans' r2.kp⟩)
  clear r2 HR HK
  go_wp2_with fail
  go_end0
  exact ⟨rfl, HF.out⟩

end Go.Proofs.YtnokemcogjoonaaGreatDoor

namespace Go.Proofs.YtnokemcogjoonaaGreatDoor.Pt
open Go.RowKit Go.Shelf
set_option linter.unusedVariables false

set_option maxRecDepth 20000 in
set_option maxHeartbeats 4000000 in
theorem reset_chances (sb : Nat) (s : Se) (c : Nat → Nat) (w : World) (h : IsS w sb s c) :
    Calls Tryz.prog 21 #[.pointer (some ⟨sb, 8, none⟩)] w fun e w' => e = .returned (.tuple #[]) ∧ ∃ c', Rs w w' sb s c c' 8 14143 := by
  have HI := hid h
  clear h
  go_enter Tryz.func21, Tryz.ntmps21
  go_wp2_with fail
  go_loopw [6] (fun i wr => ∃ j : Nat, i = .int .i64 j ∧ j ≤ 12 ∧ Hid (∃ c', Rs w wr sb s c c' 8 8 ∧ Ev c' 8 (8 + j * 16) ∧ Ev c' 200 (200 + j * 16))) (fun i _ => 12 - (intOf i).toNat)
  case atStart => exact ⟨0, rfl, by omega, (show ∃ c', _ from ⟨c, Rs.nil HI.out 8, fun i h1 h2 => by omega, fun i h1 h2 => by omega⟩)⟩
  case round =>
    obtain ⟨j, rfl, hj, HQ⟩ := hrel
    by_cases hlt : j < 12
    · have hltI : (j : Int) < 12 := by omega
      obtain ⟨c2, q1, q2, q3⟩ := HQ.out
      have HA := hid (reset_tree sb (8 + j * 16) 16 16 s c2 wr q1.st (by omega) (by omega))
      have HC := hid (And.intro q1 (And.intro q2 q3))
      clear q1 q2 q3 HQ
      go_wp2_with fail
      refine HA.out.mono ?_
      rintro e w3 ⟨rfl, c3, r3⟩
      have HB := hid (reset_tree sb (200 + j * 16) 16 16 s c3 w3 r3.st (by omega) (by omega))
      have R3 := hid r3
      clear r3 HA
      go_wp2_with fail
      refine HB.out.mono ?_
      rintro e w4 ⟨rfl, c4, r4⟩
      have HG := (show Hid (∃ c', Rs w w4 sb s c c' 8 8 ∧ Ev c' 8 (8 + (j + 1) * 16) ∧ Ev c' 200 (200 + (j + 1) * 16)) from by
        obtain ⟨q1, q2, q3⟩ := HC.out
        have m := R3.out.mo.trans r4.mo
        refine ⟨c4, ⟨r4.st, q1.ev.mo m, q1.mo.trans m, (q1.kp.trans' R3.out.kp).trans' r4.kp⟩, fun i h1 h2 => ?_, fun i h1 h2 => ?_⟩
        · by_cases hb : i < 8 + j * 16
          · exact m i (q2 i h1 hb)
          · exact r4.mo i (R3.out.ev i (by omega) (by omega))
        · by_cases hb : i < 200 + j * 16
          · exact m i (q3 i h1 hb)
          · exact r4.ev i (by omega) (by omega))
      clear r4 HB HC R3
      go_wp2_with fail
      go_roundw
      case rel => exact ⟨j + 1, by go_num, by omega, HG⟩
      case measure => simp [intOf]; omega
    · have hltI : ¬ (j : Int) < 12 := by omega
      obtain rfl : j = 12 := by omega
      have HD := (show Hid (∃ c', Rs w wr sb s c c' 8 392) from by
        obtain ⟨c2, q1, q2, q3⟩ := HQ.out
        refine ⟨c2, q1.st, fun i h1 h2 => ?_, q1.mo, q1.kp⟩
        by_cases b : i < 200
        · exact q2 i h1 (by omega)
        · exact q3 i (by omega) (by omega))
      clear HQ
      go_wp2_with fail
      go_region
      obtain ⟨V, hV⟩ : ∃ V, V = (wr.alloc (.cells #[.slice (some ⟨sb, 392, none⟩) 12 12, .slice (some ⟨sb, 404, none⟩) 12 12, .slice (some ⟨sb, 416, none⟩) 12 12, .slice (some ⟨sb, 428, none⟩) 12 12] 125)).drew := ⟨_, rfl⟩
      have HT := (show Hid (V.heap[wr.heap.size]? = some (.cells #[.slice (some ⟨sb, 392, none⟩) 12 12, .slice (some ⟨sb, 404, none⟩) 12 12, .slice (some ⟨sb, 416, none⟩) 12 12, .slice (some ⟨sb, 428, none⟩) 12 12] 125 (0, 0)) ∧ ∃ c', Rs w V sb s c c' 8 392) from by
        obtain ⟨c2, q⟩ := HD.out
        have kk : Keep noBlock wr V := by rw [hV]; exact ((Keep.refl noBlock wr).alloc _).drew
        exact ⟨by rw [hV]; exact alloc_new wr _, c2, q.st.keep kk (fun h => h), q.ev, q.mo, q.kp.trans kk (fun _ _ h => h.elim)⟩)
      rw [← hV]
      clear hV HD
      generalize wr.heap.size = nb at *
      go_wp2_with fail
      go_loopw [42] (fun i wt => ∃ j : Nat, i = .int .i64 j ∧ j ≤ 4 ∧ Hid (wt.heap[nb]? = some (.cells #[.slice (some ⟨sb, 392, none⟩) 12 12, .slice (some ⟨sb, 404, none⟩) 12 12, .slice (some ⟨sb, 416, none⟩) 12 12, .slice (some ⟨sb, 428, none⟩) 12 12] 125 (0, 0)) ∧ ∃ c', Rs w wt sb s c c' 8 (392 + j * 12))) (fun i _ => 4 - (intOf i).toNat)
      case atStart => exact ⟨0, rfl, by omega, HT⟩
      case round =>
        obtain ⟨j, rfl, hj, HQ⟩ := hrel
        by_cases hlt : j < 4
        · have hltI : (j : Int) < 4 := by omega
          obtain ⟨hnb, c2, q1⟩ := HQ.out
          have hcell : wr.cell? ⟨nb, j, none⟩ = some (.slice (some ⟨sb, 392 + j * 12, none⟩) 12 12) := by
            rw [cell_of hnb j]
            have : j = 0 ∨ j = 1 ∨ j = 2 ∨ j = 3 := by omega
            rcases this with rfl | rfl | rfl | rfl <;> rfl
          have HA := hid (reset_tree sb (392 + j * 12) 12 12 s c2 wr q1.st (by omega) (by omega))
          have HC := hid (And.intro hnb q1)
          have hnn : nb ≠ sb := fun e => q1.st.ne hnb (by decide) e.symm
          clear q1 HQ hnb
          go_wp2_with fail
          refine HA.out.mono ?_
          rintro e w3 ⟨rfl, c3, r3⟩
          have HG := (show Hid (w3.heap[nb]? = some (.cells #[.slice (some ⟨sb, 392, none⟩) 12 12, .slice (some ⟨sb, 404, none⟩) 12 12, .slice (some ⟨sb, 416, none⟩) 12 12, .slice (some ⟨sb, 428, none⟩) 12 12] 125 (0, 0)) ∧ ∃ c', Rs w w3 sb s c c' 8 (392 + (j + 1) * 12)) from by
            refine ⟨r3.kp.obj HC.out.1 hnn, c3, ?_⟩
            have := HC.out.2.and r3
            rw [show 392 + (j + 1) * 12 = 392 + j * 12 + 12 from by omega]
            exact this)
          clear r3 HA HC hnn hcell
          go_wp2_with fail
          go_roundw
          case rel => exact ⟨j + 1, by go_num, by omega, HG⟩
          case measure => simp [intOf]; omega
        · have hltI : ¬ (j : Int) < 4 := by omega
          obtain rfl : j = 4 := by omega
          have HD := (show Hid (∃ c', Rs w wr sb s c c' 8 440) from HQ.out.2)
          clear HQ HT
          go_wp2_with fail
          go_loopw [49] (fun i wt => ∃ j : Nat, i = .int .i64 j ∧ j ≤ 16 ∧ Hid (∃ c', Rs w wt sb s c c' 8 (440 + j * 768))) (fun i _ => 16 - (intOf i).toNat)
          case atStart => exact ⟨0, rfl, by omega, HD⟩
          case round =>
            obtain ⟨j, rfl, hj, HQ⟩ := hrel
            by_cases hlt : j < 16
            · have hltI : (j : Int) < 16 := by omega
              obtain ⟨c2, q1⟩ := HQ.out
              have HA := hid (reset_tree sb (440 + j * 768) 768 768 s c2 wr q1.st (by omega) (by omega))
              have HC := hid q1
              clear q1 HQ
              go_wp2_with fail
              refine HA.out.mono ?_
              rintro e w3 ⟨rfl, c3, r3⟩
              have HG := (show Hid (∃ c', Rs w w3 sb s c c' 8 (440 + (j + 1) * 768)) from by
                refine ⟨c3, ?_⟩
                have := HC.out.and r3
                rw [show 440 + (j + 1) * 768 = 440 + j * 768 + 768 from by omega]
                exact this)
              clear r3 HA HC
              go_wp2_with fail
              go_roundw
              case rel => exact ⟨j + 1, by go_num, by omega, HG⟩
              case measure => simp [intOf]; omega
            · have hltI : ¬ (j : Int) < 16 := by omega
              obtain rfl : j = 16 := by omega
              obtain ⟨c2, q1⟩ := HQ.out
              have HA := hid (reset_lengths sb 12728 s c2 wr q1.st (by omega) (by omega))
              have HC := hid q1
              clear q1 HQ HD
              go_wp2_with fail
              refine HA.out.mono ?_
              rintro e w3 ⟨rfl, c3, r3⟩
              have HB := hid (reset_lengths sb 13242 s c3 w3 r3.st (by omega) (by omega))
              have R3 := hid r3
              clear r3 HA
              go_wp2_with fail
              refine HB.out.mono ?_
              rintro e w4 ⟨rfl, c4, r4⟩
              have HE := hid (reset_distances sb s c4 w4 r4.st)
              have R4 := hid r4
              clear r4 HB
              go_wp2_with fail
              refine HE.out.mono ?_
              rintro e w5 ⟨rfl, c5, r5⟩
              have HG := (show Hid (∃ c', Rs w w5 sb s c c' 8 14143) from ⟨c5, ((HC.out.and R3.out).and R4.out).and r5⟩)
              clear r5 HE HC R3 R4
              go_wp2_with fail
              go_end0
              exact ⟨rfl, HG.out⟩

theorem IsS.even {w : World} {b : Nat} {s : Se} {c : Nat → Nat} (h : IsS w b s c) (he : Ev c 8 14143) : IsS w b s (fun _ => 1024) := by
  obtain ⟨cs, ho, hc⟩ := h.obj
  exact ⟨⟨cs, ho, ⟨hc.size, hc.e0, hc.e1, hc.e2, hc.e3, hc.e4, hc.e5, hc.e6, hc.e7, fun i h1 h2 => by rw [hc.ch i h1 h2, he i h1 h2]⟩⟩, h.ok, fun i => by show 1024 < _; omega⟩
theorem IsS.zero {w : World} {b : Nat} {s : Se} {c : Nat → Nat} (h : IsS w b s c) : IsS (((((w.setCell ⟨b, 3, none⟩ (.int .u8 0)).setCell ⟨b, 4, none⟩ (.int .u32 0)).setCell ⟨b, 5, none⟩ (.int .u32 0)).setCell ⟨b, 6, none⟩ (.int .u32 0)).setCell ⟨b, 7, none⟩ (.int .u32 0)) b (newS s.lc s.lp s.pb) c := by
  obtain ⟨cs, ho, hc⟩ := h.obj
  exact ⟨⟨_, set_obj (set_obj (set_obj (set_obj (set_obj ho 3 _) 4 _) 5 _) 6 _) 7 _, hc.zero⟩, ⟨h.ok.lc, h.ok.pb, (by show 0 < 12; omega), (by show 0 < 4294967296; omega), (by show 0 < 4294967296; omega), (by show 0 < 4294967296; omega), (by show 0 < 4294967296; omega)⟩, h.lt⟩
theorem reset_nil (w : World) : Calls Tryz.prog 12 #[.pointer none] w fun e w' => e = .returned (.tuple #[]) ∧ w' = w := by
  go_enter Tryz.func12, Tryz.ntmps12
  go_wp2
  first | go_end0 | refine bodyPost_ret (results_none rfl _ _ _) rfl ?_
  exact ⟨rfl, rfl⟩
set_option maxRecDepth 20000 in
set_option maxHeartbeats 2000000 in
theorem reset_any (sb : Nat) (s : Se) (c : Nat → Nat) (w : World) (h : IsS w sb s c) :
    Calls Tryz.prog 12 #[.pointer (some ⟨sb, 0, none⟩)] w fun e w' => e = .returned (.tuple #[]) ∧ IsS w' sb (newS s.lc s.lp s.pb) (fun _ => 1024) ∧ Keep (fun k => k = sb) w w' := by
  obtain ⟨f0, f1, f2, f3, f4, f5, f6, f7, ff⟩ := h.first
  have g3 := ff 3
  have g4 := ff 4
  have g5 := ff 5
  have g6 := ff 6
  have g7 := ff 7
  have HI := hid h
  clear h ff
  go_enter Tryz.func12, Tryz.ntmps12
  go_wp2_with fail
  have h1 := HI.out.zero
  have k1 := (((((Keep.refl (fun k => k = sb) w).setCell (p := ⟨sb, 3, none⟩) (fun _ => rfl) (.int .u8 0)).setCell (p := ⟨sb, 4, none⟩) (fun _ => rfl) (.int .u32 0)).setCell (p := ⟨sb, 5, none⟩) (fun _ => rfl) (.int .u32 0)).setCell (p := ⟨sb, 6, none⟩) (fun _ => rfl) (.int .u32 0)).setCell (p := ⟨sb, 7, none⟩) (fun _ => rfl) (.int .u32 0)
  generalize ((((w.setCell ⟨sb, 3, none⟩ (.int .u8 0)).setCell ⟨sb, 4, none⟩ (.int .u32 0)).setCell ⟨sb, 5, none⟩ (.int .u32 0)).setCell ⟨sb, 6, none⟩ (.int .u32 0)).setCell ⟨sb, 7, none⟩ (.int .u32 0) = W at *
  have HR := hid (reset_chances sb _ c W h1)
  have HK := hid k1
  clear h1 k1 f0 f1 f2 f3 f4 f5 f6 f7 g3 g4 g5 g6 g7
  refine HR.out.mono ?_
  rintro e w2 ⟨rfl, c2, r2⟩
  have HF := (show Hid (IsS w2 sb (newS s.lc s.lp s.pb) (fun _ => 1024) ∧ Keep (fun k => k = sb) w w2) from ⟨r2.st.even r2.ev, HK.out.trans' r2.kp⟩)
  clear r2 HR HK
  go_wp2_with fail
  go_end0
  exact ⟨rfl, HF.out⟩

end Go.Proofs.YtnokemcogjoonaaGreatDoor.Pt

namespace Go.Proofs.YtnokemcogjoonaaGreatDoor.Pt
open Go.RowKit Go.Shelf
set_option linter.unusedVariables false

theorem chunkP_nil (b l : Value) (fr total : Int) (w : World) : Calls Tryz.prog 15 #[.pointer none, b, .int .i64 fr, .int .i64 total, l] w fun e w' => e = .returned (.tuple #[.slice none 0 0, .int .i64 1]) ∧ w' = w := by
  go_enter Tryz.func15, Tryz.ntmps15
  go_wp2
  exact bodyPost_ret (v := .tuple #[.slice none 0 0, .int .i64 1]) (by simp [results, Tryz.results15]) rfl ⟨rfl, rfl⟩
set_option maxHeartbeats 1000000 in
theorem chunkP_arg (sb : Nat) (ta : Option Addr) (n tc : Nat) (l : Value) (fr total : Int) (h : fr < 0 ∨ (n : Int) < fr ∨ total < 0) (w : World) : Calls Tryz.prog 15 #[.pointer (some ⟨sb, 0, none⟩), .slice ta n tc, .int .i64 fr, .int .i64 total, l] w fun e w' => e = .returned (.tuple #[.slice none 0 0, .int .i64 2]) ∧ w' = w := by
  by_cases h1 : fr < 0
  · have h1' : decide (fr < 0) = true := decide_eq_true h1
    clear h
    go_enter Tryz.func15, Tryz.ntmps15
    go_wp2_with fail
    exact bodyPost_ret (v := .tuple #[.slice none 0 0, .int .i64 2]) (by simp [results, Tryz.results15]) rfl ⟨rfl, rfl⟩
  · have h1' : decide (fr < 0) = false := decide_eq_false h1
    by_cases h2 : (n : Int) < fr
    · have h2' : decide ((n : Int) < fr) = true := decide_eq_true h2
      clear h
      go_enter Tryz.func15, Tryz.ntmps15
      go_wp2_with fail
      exact bodyPost_ret (v := .tuple #[.slice none 0 0, .int .i64 2]) (by simp [results, Tryz.results15]) rfl ⟨rfl, rfl⟩
    · have h2' : decide ((n : Int) < fr) = false := decide_eq_false h2
      have h3' : decide (total < 0) = true := decide_eq_true (by omega)
      clear h
      go_enter Tryz.func15, Tryz.ntmps15
      go_wp2_with fail
      exact bodyPost_ret (v := .tuple #[.slice none 0 0, .int .i64 2]) (by simp [results, Tryz.results15]) rfl ⟨rfl, rfl⟩
set_option maxHeartbeats 1000000 in
theorem chunkP_mal (sb : Nat) (ta : Option Addr) (tc tg tf : Nat) (T : List Nat) (fr : Nat) (la : Option Addr) (lc lg lo : Nat) (ts : List Tri) (total : Int) (w : World) (hB : Bytes w ta tc tg tf T) (hQ : Fd.RowQ w la lc lg lo ts) (hT : T.length ≤ 1099511627776) (hf : fr ≤ T.length) (hTs : ts.length < 140737488355328) (ht : 0 ≤ total)
    (h : fr = T.length ∨ madeB T ts fr = false) :
    Calls Tryz.prog 15 #[.pointer (some ⟨sb, 0, none⟩), .slice ta T.length tc, .int .i64 (fr : Int), .int .i64 total, .slice la ts.length lc] w fun e w' => e = .returned (.tuple #[.slice none 0 0, .int .i64 11]) ∧ Keep noBlock w w' := by
  have h1' : decide ((fr : Int) < 0) = false := decide_eq_false (by omega)
  have h2' : decide ((T.length : Int) < (fr : Int)) = false := decide_eq_false (by omega)
  have h2n : decide (T.length < fr) = false := decide_eq_false (by omega)
  have h3' : decide (total < 0) = false := decide_eq_false (by omega)
  by_cases he : fr = T.length
  · have he' : ((fr : Int) == (T.length : Int)) = true := by simp [he]
    clear h hB hQ
    generalize T.length = tl at *
    clear he
    go_enter Tryz.func15, Tryz.ntmps15
    go_wp2_with fail
    exact bodyPost_ret (v := .tuple #[.slice none 0 0, .int .i64 11]) (by simp [results, Tryz.results15]) rfl ⟨rfl, Keep.refl _ _⟩
  · have he' : ((fr : Int) == (T.length : Int)) = false := by simp; omega
    have HM := hid (made_any ta tc tg tf T fr la lc lg lo ts w hB hQ hT hf hTs)
    rw [h.resolve_left he] at HM
    clear h hB hQ he
    generalize T.length = tl at *
    generalize ts.length = tsl at *
    go_enter Tryz.func15, Tryz.ntmps15
    go_wp2_with fail
    refine HM.out.mono ?_
    rintro e w1 ⟨rfl, k1⟩
    have HK := hid k1
    clear k1 HM
    go_wp2_with fail
    exact bodyPost_ret (v := .tuple #[.slice none 0 0, .int .i64 11]) (by simp [results, Tryz.results15]) rfl ⟨rfl, HK.out⟩
/-- A chunk's own. -/
def tkOf (T : List Nat) (fr : Nat) (total : Int) : Tk := ⟨T, fr, (total % 16).toNat, decide (0 < total)⟩
def opsOf (T : List Nat) (fr : Nat) (total : Int) (ts : List Tri) (s : Se) : List Opn := chunkO (tkOf T fr total) (max fr 1) ts s fr
/-- Behind a chunk: its bytes in new memory, the state. -/
structure PutP (w w' : World) (sb : Nat) (T : List Nat) (fr : Nat) (total : Int) (ts : List Tri) (s : Se) (c : Nat → Nat) (u : Value) : Prop where
  st : IsS w' sb (opsS (opsOf T fr total ts s) s) (runA (opsA (tkOf T fr total) (opsOf T fr total ts s) s fr) ⟨c, newE⟩).c
  row : NewB w w' u (outA (opsA (tkOf T fr total) (opsOf T fr total ts s) s fr) c)
  kp : Keep (fun k => k = sb) w w'
theorem mid_low {k : Tk} {s : Se} {i : Nat} (h : s.ph < 7) : Mid k s i := ⟨by omega, fun e => by omega⟩
set_option maxHeartbeats 2000000 in
theorem chunkP_good (sb : Nat) (s : Se) (c : Nat → Nat) (ta : Option Addr) (tc tg tf : Nat) (T : List Nat) (fr : Nat) (la : Option Addr) (lc lg lo : Nat) (ts : List Tri) (total : Int) (w : World) (hS : IsS w sb s c) (hph : s.ph < 7) (hB : Bytes w ta tc tg tf T) (hQ : Fd.RowQ w la lc lg lo ts) (hT : T.length ≤ 32768) (hf : fr < T.length) (hTs : ts.length < 140737488355328) (ht : 0 ≤ total) (ht2 : total < 9223372036854775808)
    (hm : madeB T ts fr = true) (hgs : tg ≠ sb) (hls : ts ≠ [] → lg ≠ sb) :
    Calls Tryz.prog 15 #[.pointer (some ⟨sb, 0, none⟩), .slice ta T.length tc, .int .i64 (fr : Int), .int .i64 total, .slice la ts.length lc] w fun e w' => ∃ u, e = .returned (.tuple #[u, .int .i64 0]) ∧ PutP w w' sb T fr total ts s c u := by
  have h1' : decide ((fr : Int) < 0) = false := decide_eq_false (by omega)
  have h2n : decide (T.length < fr) = false := decide_eq_false (by omega)
  have h2' : decide ((T.length : Int) < (fr : Int)) = false := decide_eq_false (by omega)
  have h3' : decide (total < 0) = false := decide_eq_false (by omega)
  have he' : ((fr : Int) == (T.length : Int)) = false := by simp; omega
  have hl1 : ¬ 2097152 < (T.length : Int) - (fr : Int) := by omega
  have hne : T ≠ [] := fun e => by rw [e] at hf; simp at hf
  have HM := hid (made_any ta tc tg tf T fr la lc lg lo ts w hB hQ (by omega) (by omega) hTs)
  rw [hm] at HM
  have i4 : bits .and .i64 total 15 = (((total % 16).toNat : Nat) : Int) := by
    have := bits_mask .i64 63 (by decide) wraps_i64 4 (by decide) total ht (by omega)
    exact this.trans (by omega)
  obtain ⟨pl, hpl⟩ : ∃ pl, pl = (total % 16).toNat := ⟨_, rfl⟩
  rw [← hpl] at i4
  have hpl16 : pl < 16 := by omega
  obtain ⟨ah, hah⟩ : ∃ ah, ah = decide (0 < total) := ⟨_, rfl⟩
  have hahI : decide (0 < total) = ah := hah.symm
  have hK : tkOf T fr total = ⟨T, fr, pl, ah⟩ := by unfold tkOf; rw [← hpl, ← hah]
  have HH := hid (And.intro hS (And.intro hB (And.intro hQ hK)))
  clear hS hB hQ hpl hah hK
  obtain ⟨tl, htl⟩ : ∃ tl, tl = T.length := ⟨_, rfl⟩
  rw [← htl] at h2n h2' he' hl1 HM ⊢
  obtain ⟨tsl, htsl⟩ : ∃ tsl, tsl = ts.length := ⟨_, rfl⟩
  rw [← htsl] at HM ⊢
  have HL := hid (And.intro htl htsl)
  clear htl htsl
  go_enter Tryz.func15, Tryz.ntmps15
  go_wp2_with fail
  refine HM.out.mono ?_
  rintro e w1 ⟨rfl, k1⟩
  have HN := hid (newE_any w1)
  have HK1 := hid k1
  clear k1 HM
  go_wp2_with fail
  refine HN.out.mono ?_
  rintro e w2 ⟨rfl, n1, n2⟩
  obtain ⟨hS, hB, hQ, hK⟩ := HH.out
  have k2 : Keep noBlock w w2 := HK1.out.trans' n2
  have k3 : Keep noBlock w (w2.alloc (.cells #[.pointer (some ⟨sb, 0, none⟩), .pointer (some ⟨w1.heap.size, 0, none⟩), .slice ta tl tc, .int .i64 (fr : Int), .int .i64 (fr : Int), .int .i64 (pl : Int), .bool ah] 102)) := k2.alloc _
  have sz1 := HK1.out.size
  have sz2 := k2.size
  have hgl := hB.block hne
  have hsl := hS.block
  have hWt : Wt ⟨w2.heap.size, sb, w1.heap.size, ta, tc, tg, tf, ⟨T, fr, pl, ah⟩⟩ (w2.alloc (.cells #[.pointer (some ⟨sb, 0, none⟩), .pointer (some ⟨w1.heap.size, 0, none⟩), .slice ta tl tc, .int .i64 (fr : Int), .int .i64 (fr : Int), .int .i64 (pl : Int), .bool ah] 102)) s ⟨c, newE⟩ (.slice none 0 0) fr := by
    refine ⟨?_, ⟨hS.keep k3 (fun h => h), n1.keep ((Keep.refl noBlock w2).alloc _) (fun h => h) (fun _ _ h => h), newE_good⟩, hB.keep k3 (fun _ h => h), ?_, hgs, ?_, ?_, hne, ?_, Nat.le_refl _, ?_, hpl16⟩
    · rw [HL.out.1]; exact alloc_new w2 _
    · show tg ≠ w2.heap.size; omega
    · show tg ≠ w1.heap.size; omega
    · intro e; cases e
    · show T.length ≤ 65536; omega
    · show fr ≤ T.length; omega
  obtain ⟨o1, o2, o3⟩ := chunkO_ok (k := ⟨T, fr, pl, ah⟩) (reach := max fr 1) (by show T.length ≤ 65536; omega) (mid_low hph) (by show fr ≤ T.length; omega) hm
  have hcost := opsA_cost o1
  rw [o2] at hcost
  have hroom : Room (⟨c, newE⟩ : Ex) (opsA ⟨T, fr, pl, ah⟩ (chunkO ⟨T, fr, pl, ah⟩ (max fr 1) ts s fr) s fr) := by
    unfold Room
    have : manyE newE = 1 := rfl
    show manyE newE + _ ≤ 999900
    have hh : (⟨T, fr, pl, ah⟩ : Tk).T.length = T.length := rfl
    rw [hh] at hcost
    omega
  have hmany := runA_many (opsA ⟨T, fr, pl, ah⟩ (chunkO ⟨T, fr, pl, ah⟩ (max fr 1) ts s fr) s fr) (⟨c, newE⟩ : Ex)
  have hmx : manyE (runA (opsA ⟨T, fr, pl, ah⟩ (chunkO ⟨T, fr, pl, ah⟩ (max fr 1) ts s fr) s fr) ⟨c, newE⟩).e ≤ 999990 := by unfold Room at hroom; omega
  have HC := hid (chunk_any ⟨w2.heap.size, sb, w1.heap.size, ta, tc, tg, tf, ⟨T, fr, pl, ah⟩⟩ s ⟨c, newE⟩ (.slice none 0 0) _ la lc lg lo ts _ _ (max fr 1) rfl hWt (hQ.keep k3 (fun _ h => h)) (fun hne2 => by
    have h1 := hQ.block hne2
    have h2 := hls hne2
    rintro (e | e | e | e)
    · have e : lg = w2.heap.size := e; omega
    · exact h2 e
    · have e : lg = w1.heap.size := e; omega
    · cases e) hm hTs ⟨⟨c, newE⟩, .slice none 0 0, Puts.refl hWt, o1, hroom, rfl, rfl⟩ hmx)
  have HF := hid (show ∀ w' u, Chd ⟨w2.heap.size, sb, w1.heap.size, ta, tc, tg, tf, ⟨T, fr, pl, ah⟩⟩ (w2.alloc (.cells #[.pointer (some ⟨sb, 0, none⟩), .pointer (some ⟨w1.heap.size, 0, none⟩), .slice ta tl tc, .int .i64 (fr : Int), .int .i64 (fr : Int), .int .i64 (pl : Int), .bool ah] 102)) w' (.slice none 0 0) (opsS (chunkO ⟨T, fr, pl, ah⟩ (max fr 1) ts s fr) s) (runA (opsA ⟨T, fr, pl, ah⟩ (chunkO ⟨T, fr, pl, ah⟩ (max fr 1) ts s fr) s fr) ⟨c, newE⟩) u → PutP w w' sb T fr total ts s c u from fun w' u q => by
    have q2 : Keep (fun k => k = sb) w w' := (k3.mono (T := fun k => k = sb) (fun _ _ h => h.elim)).trans q.kp (by
      rintro i hi (e | e | e | e)
      · have e : i = w2.heap.size := e; omega
      · exact e
      · have e : i = w1.heap.size := e; omega
      · cases e)
    obtain ⟨cap, g, g1, g2, g3⟩ := q.row.ex
    have k3s := k3.size
    refine ⟨?_, ⟨cap, g, ?_, ?_, by omega⟩, q2⟩
    · unfold opsOf; rw [hK]; exact q.st
    · unfold opsOf outA; rw [hK]; exact g1
    · unfold opsOf outA; rw [hK]; exact g2)
  rw [← HL.out.2] at HC
  rw [show (⟨T, fr, pl, ah⟩ : Tk).T.length = T.length from rfl] at *
  clear hS hB hQ hK k2 k3 hWt o1 o2 o3 hcost hroom hmany hmx n1 n2 HN
  go_wp2_with fail
  refine HC.out.mono ?_
  rintro e w3 ⟨u, rfl, q⟩
  have HG := hid (HF.out w3 u q)
  clear q HC HF
  go_wp2_with fail
  exact bodyPost_ret (v := .tuple #[u, .int .i64 0]) (by simp [results, Tryz.results15]) rfl ⟨u, rfl, HG.out⟩

end Go.Proofs.YtnokemcogjoonaaGreatDoor.Pt

namespace Go.Proofs.YtnokemcogjoonaaGreatDoor
open Go.RowKit Go.Shelf
set_option linter.unusedVariables false

/-! A new state: its cells are looked through by the kernel. -/
def isI (k : IntKind) (m : Int) : Value → Bool
  | .int k' n => decide (k' = k) && n == m
  | _ => false
theorem isI_eq {k : IntKind} {m : Int} {v : Value} (h : isI k m v = true) : v = .int k m := by
  cases v with
  | int k' n =>
    simp only [isI, Bool.and_eq_true, decide_eq_true_eq, beq_iff_eq] at h
    rw [h.1, h.2]
  | _ => simp [isI] at h
def ok16 : Nat → List Value → Bool
  | 0, [] => true
  | n + 1, a :: r => isI .u16 0 a && ok16 n r
  | _, _ => false
theorem ok16_eq : ∀ (n : Nat) (l : List Value), ok16 n l = true → l = List.replicate n (.int .u16 0)
  | 0, [], _ => rfl
  | 0, _ :: _, h => by simp [ok16] at h
  | n + 1, [], h => by simp [ok16] at h
  | n + 1, a :: r, h => by
    simp only [ok16, Bool.and_eq_true] at h
    rw [isI_eq h.1, ok16_eq n r h.2, List.replicate_succ]
def okS : List Value → Bool
  | a0 :: a1 :: a2 :: a3 :: a4 :: a5 :: a6 :: a7 :: r => isI .i64 0 a0 && (isI .i64 0 a1 && (isI .i64 0 a2 && (isI .u8 0 a3 && (isI .u32 0 a4 && (isI .u32 0 a5 && (isI .u32 0 a6 && (isI .u32 0 a7 && ok16 14135 r)))))))
  | _ => false
theorem chkS : okS Tryz.zeroCells88.toList = true := by kernel_rfl
theorem okS_cells (a : Array Value) (h : okS a.toList = true) : Cells a (newS 0 0 0) (fun _ => 0) := by
  obtain ⟨l⟩ := a
  match l, h with
  | a0 :: a1 :: a2 :: a3 :: a4 :: a5 :: a6 :: a7 :: r, h =>
    simp only [okS, Bool.and_eq_true] at h
    obtain ⟨h0, h1, h2, h3, h4, h5, h6, h7, h8⟩ := h
    rw [isI_eq h0, isI_eq h1, isI_eq h2, isI_eq h3, isI_eq h4, isI_eq h5, isI_eq h6, isI_eq h7]
    have hr := ok16_eq 14135 r h8
    clear h8
    generalize hn : 14135 = n at hr
    subst hr
    refine ⟨by simp; omega, rfl, rfl, rfl, rfl, rfl, rfl, rfl, rfl, fun i i1 i2 => ?_⟩
    obtain ⟨k, rfl⟩ : ∃ k, i = k + 8 := ⟨i - 8, by omega⟩
    rw [List.getElem?_toArray]
    simp only [List.getElem?_cons_succ]
    rw [List.getElem?_replicate, if_pos (by omega)]
    rfl
/-- Settings are set. -/
theorem Cells.sett {cs : Array Value} {s : Se} {c : Nat → Nat} (h : Cells cs s c) (lc lp pb : Nat) : Cells (((cs.setIfInBounds 0 (.int .i64 (lc : Int))).setIfInBounds 1 (.int .i64 (lp : Int))).setIfInBounds 2 (.int .i64 (pb : Int))) { s with lc := lc, lp := lp, pb := pb } c := by
  have hs := h.size
  have far : ∀ k, 3 ≤ k → (((cs.setIfInBounds 0 (.int .i64 (lc : Int))).setIfInBounds 1 (.int .i64 (lp : Int))).setIfInBounds 2 (.int .i64 (pb : Int)))[k]? = cs[k]? := fun k hk => by
    rw [Array.getElem?_setIfInBounds, if_neg (by omega), Array.getElem?_setIfInBounds, if_neg (by omega), Array.getElem?_setIfInBounds, if_neg (by omega)]
  refine ⟨by simp [hs], ?_, ?_, ?_, (far 3 (by omega)).trans h.e3, (far 4 (by omega)).trans h.e4, (far 5 (by omega)).trans h.e5, (far 6 (by omega)).trans h.e6, (far 7 (by omega)).trans h.e7, fun k k1 k2 => (far k (by omega)).trans (h.ch k k1 k2)⟩
  · simp [hs]
  · simp [hs]
  · simp [hs]
theorem IsS.sett {w : World} {b : Nat} {s : Se} {c : Nat → Nat} (h : IsS w b s c) (lc lp pb : Nat) (h1 : lc + lp ≤ 4) (h2 : pb ≤ 4) : IsS (((w.setCell ⟨b, 0, none⟩ (.int .i64 (lc : Int))).setCell ⟨b, 1, none⟩ (.int .i64 (lp : Int))).setCell ⟨b, 2, none⟩ (.int .i64 (pb : Int))) b { s with lc := lc, lp := lp, pb := pb } c := by
  obtain ⟨cs, ho, hc⟩ := h.obj
  exact ⟨⟨_, set_obj (set_obj (set_obj ho 0 _) 1 _) 2 _, hc.sett lc lp pb⟩, ⟨h1, h2, h.ok.ph, h.ok.r0, h.ok.r1, h.ok.r2, h.ok.r3⟩, h.lt⟩
set_option maxRecDepth 20000 in
set_option maxHeartbeats 2000000 in
theorem new_state (w : World) : Calls Tryz.prog 8 #[] w fun e w' => e = .returned (.pointer (some ⟨w.heap.size, 0, none⟩)) ∧ IsS w' w.heap.size (newS 3 0 2) (fun _ => 1024) ∧ Keep noBlock w w' := by
  have hS : IsS (w.alloc (.cells (((Tryz.zeroCells88.setIfInBounds 0 (.int .i64 3)).setIfInBounds 1 (.int .i64 0)).setIfInBounds 2 (.int .i64 2)) 88)) w.heap.size (newS 3 0 2) (fun _ => 0) := ⟨⟨_, alloc_new w _, (okS_cells _ chkS).sett 3 0 2⟩, ⟨by decide, by decide, by decide, by decide, by decide, by decide, by decide⟩, fun _ => by show 0 < 65536; omega⟩
  have HR := hid (reset_any w.heap.size _ _ _ hS)
  clear hS
  generalize hzz : ((Tryz.zeroCells88.setIfInBounds 0 (.int .i64 3)).setIfInBounds 1 (.int .i64 0)).setIfInBounds 2 (.int .i64 2) = zz at *
  have HZ := hid hzz
  clear hzz
  go_enter Tryz.func8, Tryz.ntmps8
  go_wp2_with fail
  rw [HZ.out]
  refine HR.out.mono ?_
  rintro e w2 ⟨rfl, h2, k2⟩
  have HF := (show Hid (IsS w2 w.heap.size (newS 3 0 2) (fun _ => 1024) ∧ Keep noBlock w w2) from ⟨h2, ((Keep.refl noBlock w).alloc _).trans k2 (fun i hi e => by omega)⟩)
  clear h2 k2 HR
  go_wp2_with fail
  go_ret
  exact ⟨rfl, HF.out⟩

theorem props_nil (b : Int) (w : World) : Calls Tryz.prog 10 #[.pointer none, .int .u8 b] w fun e w' => e = .returned (.int .i64 1) ∧ w' = w := by
  go_enter Tryz.func10, Tryz.ntmps10
  go_wp2
  go_ret
  exact ⟨rfl, rfl⟩
/-- What Props answers. -/
def propsE (b : Nat) : Nat := if 4 < b / 45 ∨ 4 < b % 9 + b / 9 % 5 then 11 else 0
set_option maxRecDepth 20000 in
set_option maxHeartbeats 2000000 in
theorem props_any (sb : Nat) (s : Se) (c : Nat → Nat) (b : Nat) (hb : b < 256) (w : World) (h : IsS w sb s c) :
    Calls Tryz.prog 10 #[.pointer (some ⟨sb, 0, none⟩), .int .u8 (b : Int)] w fun e w' => e = .returned (.int .i64 ((propsE b : Nat) : Int)) ∧ (∃ s' c', IsS w' sb s' c') ∧ Keep (fun k => k = sb) w w' := by
  obtain ⟨lc, hlc⟩ : ∃ lc : Nat, lc = b % 9 := ⟨_, rfl⟩
  obtain ⟨b9, hb9⟩ : ∃ b9 : Nat, b9 = b / 9 := ⟨_, rfl⟩
  obtain ⟨lp, hlp⟩ : ∃ lp : Nat, lp = b9 % 5 := ⟨_, rfl⟩
  obtain ⟨pb, hpb⟩ : ∃ pb : Nat, pb = b / 45 := ⟨_, rfl⟩
  have i1 : (b : Int) % 9 = (lc : Int) := by omega
  have i2 : (b : Int) / 9 = (b9 : Int) := by omega
  have i3 : (b9 : Int) % 5 = (lp : Int) := by omega
  have i4 : (b : Int) / 45 = (pb : Int) := by omega
  have hE : propsE b = if 4 < pb ∨ 4 < lc + lp then 11 else 0 := by rw [hpb, hlc, hlp, hb9]; rfl
  rw [hE]
  have l1 : lc < 9 := by omega
  have l2 : lp < 5 := by omega
  have l3 : pb < 6 := by omega
  have l4 : b9 < 30 := by omega
  obtain ⟨f0, f1, f2, -, -, -, -, -, ff⟩ := h.first
  have g0 := ff 0
  have g1 := ff 1
  have g2 := ff 2
  have HI := hid h
  clear hlc hb9 hlp hpb hE h ff
  by_cases h1 : 4 < pb
  · have h1I : 4 < (pb : Int) := by omega
    rw [if_pos (.inl h1)]
    go_enter Tryz.func10, Tryz.ntmps10
    go_wp2_with fail
    go_ret
    exact ⟨rfl, ⟨s, c, HI.out.keep (S := noBlock) ((Keep.refl _ w).alloc _) (fun h => h)⟩, (Keep.refl _ w).alloc _⟩
  · have h1I : ¬ 4 < (pb : Int) := by omega
    by_cases h2 : 4 < lc + lp
    · have h2I : 4 < (lc : Int) + (lp : Int) := by omega
      rw [if_pos (.inr h2)]
      go_enter Tryz.func10, Tryz.ntmps10
      go_wp2_with fail
      go_ret
      exact ⟨rfl, ⟨s, c, HI.out.keep (S := noBlock) ((Keep.refl _ w).alloc _) (fun h => h)⟩, (Keep.refl _ w).alloc _⟩
    · have h2I : ¬ 4 < (lc : Int) + (lp : Int) := by omega
      rw [if_neg (by omega)]
      have ka : Keep noBlock w (w.alloc (.cells #[.int .i64 (lc : Int), .int .i64 (lp : Int), .int .i64 (pb : Int)] 79)) := (Keep.refl noBlock w).alloc _
      have h3 := HI.out.keep ka (fun h => h)
      obtain ⟨b0, b1, b2, -, -, -, -, -, bf⟩ := h3.first
      have d0 := bf 0
      have d1 := bf 1
      have d2 := bf 2
      have h4 := h3.sett lc lp pb (by omega) (by omega)
      have HR := hid (reset_any sb _ _ _ h4)
      have HK := (show Hid (Keep (fun k => k = sb) w (((((w.alloc (.cells #[.int .i64 (lc : Int), .int .i64 (lp : Int), .int .i64 (pb : Int)] 79)).setCell ⟨sb, 0, none⟩ (.int .i64 (lc : Int))).setCell ⟨sb, 1, none⟩ (.int .i64 (lp : Int))).setCell ⟨sb, 2, none⟩ (.int .i64 (pb : Int))))) from (((ka.mono (T := fun k => k = sb) (fun _ _ h => h.elim)).setCell (p := ⟨sb, 0, none⟩) (fun _ => rfl) _).setCell (p := ⟨sb, 1, none⟩) (fun _ => rfl) _).setCell (p := ⟨sb, 2, none⟩) (fun _ => rfl) _)
      clear h3 h4 bf ka
      go_enter Tryz.func10, Tryz.ntmps10
      go_wp2_with fail
      refine HR.out.mono ?_
      rintro e w5 ⟨rfl, h5, k5⟩
      have HF := (show Hid ((∃ s' c', IsS w5 sb s' c') ∧ Keep (fun k => k = sb) w w5) from ⟨⟨_, _, h5⟩, HK.out.trans' k5⟩)
      clear h5 k5 HR HK
      go_wp2_with fail
      go_ret
      exact ⟨rfl, HF.out⟩

end Go.Proofs.YtnokemcogjoonaaGreatDoor

namespace Go.Proofs.YtnokemcogjoonaaGreatDoor.Pt
open Go.RowKit Go.Shelf
set_option linter.unusedVariables false

theorem chkS : okS Tryz.zeroCells77.toList = true := by kernel_rfl
/-- Settings that may be. -/
def okSet (lc lp pb : Int) : Bool := decide (0 ≤ lc) && (decide (0 ≤ lp) && (decide (0 ≤ pb) && (decide (lp ≤ 4 - lc) && decide (pb ≤ 4))))
set_option maxHeartbeats 1000000 in
theorem letIn_any (lc lp pb : Int) (hl : lc < 9223372036854775808) (w : World) : Calls Tryz.prog 18 #[.agg #[.int .i64 lc, .int .i64 lp, .int .i64 pb]] w fun e w' => e = .returned (.bool (okSet lc lp pb)) ∧ Keep noBlock w w' := by
  have HK := hid ((Keep.refl noBlock w).alloc (.cells #[.int .i64 lc, .int .i64 lp, .int .i64 pb] 53))
  unfold okSet
  by_cases h1 : lc < 0
  · have d1 : decide (lc < 0) = true := decide_eq_true h1
    rw [decide_eq_false (show ¬ 0 ≤ lc by omega)]
    go_enter Tryz.func18, Tryz.ntmps18
    go_wp2_with fail
    go_ret
    exact ⟨rfl, HK.out⟩
  · have d1 : decide (lc < 0) = false := decide_eq_false h1
    rw [decide_eq_true (show 0 ≤ lc by omega), Bool.true_and]
    by_cases h2 : lp < 0
    · have d2 : decide (lp < 0) = true := decide_eq_true h2
      rw [decide_eq_false (show ¬ 0 ≤ lp by omega)]
      go_enter Tryz.func18, Tryz.ntmps18
      go_wp2_with fail
      go_ret
      exact ⟨rfl, HK.out⟩
    · have d2 : decide (lp < 0) = false := decide_eq_false h2
      rw [decide_eq_true (show 0 ≤ lp by omega), Bool.true_and]
      by_cases h3 : pb < 0
      · have d3 : decide (pb < 0) = true := decide_eq_true h3
        rw [decide_eq_false (show ¬ 0 ≤ pb by omega)]
        go_enter Tryz.func18, Tryz.ntmps18
        go_wp2_with fail
        go_ret
        exact ⟨rfl, HK.out⟩
      · have d3 : decide (pb < 0) = false := decide_eq_false h3
        rw [decide_eq_true (show 0 ≤ pb by omega), Bool.true_and]
        by_cases h4 : lp ≤ 4 - lc
        · have d4 : decide (lp ≤ 4 - lc) = true := decide_eq_true h4
          rw [d4, Bool.true_and]
          go_enter Tryz.func18, Tryz.ntmps18
          go_wp2_with fail
          go_ret
          exact ⟨rfl, HK.out⟩
        · have d4 : decide (lp ≤ 4 - lc) = false := decide_eq_false h4
          rw [d4, Bool.false_and]
          go_enter Tryz.func18, Tryz.ntmps18
          go_wp2_with fail
          go_ret
          exact ⟨rfl, HK.out⟩

theorem new_bad (lc lp pb : Int) (hl : lc < 9223372036854775808) (h : okSet lc lp pb = false) (w : World) : Calls Tryz.prog 6 #[.int .i64 lc, .int .i64 lp, .int .i64 pb] w fun e w' => e = .returned (.tuple #[.pointer none, .int .i64 2]) ∧ Keep noBlock w w' := by
  have HL := hid (letIn_any lc lp pb hl)
  rw [h] at HL
  clear h
  go_enter Tryz.func6, Tryz.ntmps6
  go_wp2_with fail
  refine (HL.out _).mono ?_
  rintro e w1 ⟨rfl, k1⟩
  have HK := (show Hid (Keep noBlock w w1) from ((Keep.refl noBlock w).alloc _).trans k1 (fun _ _ h => h))
  clear k1 HL
  go_wp2_with fail
  exact bodyPost_ret (v := .tuple #[.pointer none, .int .i64 2]) (by simp [results, Tryz.results6]) rfl ⟨rfl, HK.out⟩
set_option maxRecDepth 20000 in
set_option maxHeartbeats 2000000 in
theorem new_good (lc lp pb : Nat) (h1 : lc + lp ≤ 4) (h2 : pb ≤ 4) (w : World) : Calls Tryz.prog 6 #[.int .i64 (lc : Int), .int .i64 (lp : Int), .int .i64 (pb : Int)] w fun e w' => ∃ sb, e = .returned (.tuple #[.pointer (some ⟨sb, 0, none⟩), .int .i64 0]) ∧ w.heap.size ≤ sb ∧ IsS w' sb (newS lc lp pb) (fun _ => 1024) ∧ Keep noBlock w w' := by
  have HL := hid (letIn_any (lc : Int) (lp : Int) (pb : Int) (by omega))
  rw [show okSet (lc : Int) (lp : Int) (pb : Int) = true from by unfold okSet; simp; omega] at HL
  obtain ⟨W0, hW0⟩ : ∃ W0, W0 = w.alloc (.cells #[.int .i64 (lc : Int), .int .i64 (lp : Int), .int .i64 (pb : Int)] 53) := ⟨_, rfl⟩
  have ho : W0.heap[w.heap.size]? = some (.cells #[.int .i64 (lc : Int), .int .i64 (lp : Int), .int .i64 (pb : Int)] 53 (0, 0)) := by rw [hW0]; exact alloc_new w _
  have hk : Keep noBlock w W0 := by rw [hW0]; exact (Keep.refl noBlock w).alloc _
  have HO := hid (And.intro ho hk)
  have HZ := (show Hid (∀ W : World, IsS (W.alloc (.cells (((Tryz.zeroCells77.setIfInBounds 0 (.int .i64 (lc : Int))).setIfInBounds 1 (.int .i64 (lp : Int))).setIfInBounds 2 (.int .i64 (pb : Int))) 77)) W.heap.size (newS lc lp pb) (fun _ => 0)) from fun W =>
    ⟨⟨_, alloc_new W _, (okS_cells _ chkS).sett lc lp pb⟩, ⟨h1, h2, by show 0 < 12; omega, by show 0 < 4294967296; omega, by show 0 < 4294967296; omega, by show 0 < 4294967296; omega, by show 0 < 4294967296; omega⟩, fun _ => by show 0 < 65536; omega⟩)
  generalize hzz : ((Tryz.zeroCells77.setIfInBounds 0 (.int .i64 (lc : Int))).setIfInBounds 1 (.int .i64 (lp : Int))).setIfInBounds 2 (.int .i64 (pb : Int)) = zz at *
  have HZZ := hid hzz
  clear hzz ho hk
  go_enter Tryz.func6, Tryz.ntmps6
  go_wp2_with fail
  rw [← hW0]
  clear hW0
  refine (HL.out _).mono ?_
  rintro e w1 ⟨rfl, k1⟩
  have c0 : w1.cell? ⟨w.heap.size, 0, none⟩ = some (.int .i64 (lc : Int)) := cell_of (k1.obj HO.out.1 (fun h => h)) 0
  have c1 : w1.cell? ⟨w.heap.size, 1, none⟩ = some (.int .i64 (lp : Int)) := cell_of (k1.obj HO.out.1 (fun h => h)) 1
  have c2 : w1.cell? ⟨w.heap.size, 2, none⟩ = some (.int .i64 (pb : Int)) := cell_of (k1.obj HO.out.1 (fun h => h)) 2
  have HK := (show Hid (Keep noBlock w w1) from HO.out.2.trans k1 (fun _ _ h => h))
  clear k1 HL HO
  generalize w.heap.size = nb at *
  go_wp2_with fail
  rw [HZZ.out]
  have HS := HZ.out w1
  have HR := hid (reset_any w1.heap.size _ _ _ HS)
  clear HS HZ c0 c1 c2
  refine HR.out.mono ?_
  rintro e w2 ⟨rfl, h2, k2⟩
  have HF := (show Hid (w.heap.size ≤ w1.heap.size ∧ IsS w2 w1.heap.size (newS lc lp pb) (fun _ => 1024) ∧ Keep noBlock w w2) from ⟨HK.out.size, h2, (HK.out.alloc _).trans k2 (fun i hi e => by have := HK.out.size; omega)⟩)
  clear h2 k2 HR
  go_wp2_with fail
  exact bodyPost_ret (v := .tuple #[.pointer (some ⟨w1.heap.size, 0, none⟩), .int .i64 0]) (by simp [results, Tryz.results6]) rfl ⟨_, rfl, HF.out⟩

end Go.Proofs.YtnokemcogjoonaaGreatDoor.Pt
