/-
  A state as at first.
-/
import Derived.Test.YtinhlkioeadfdaaDoorRst
namespace Go.Proofs.YtinhlkioeadfdaaDoor
open Go.RowKit Go.Shelf
set_option linter.unusedVariables false

set_option maxRecDepth 20000 in
set_option maxHeartbeats 4000000 in
theorem reset_chances (sb : Nat) (s : Se) (c : Nat → Nat) (w : World) (h : IsS w sb s c) :
    Calls Tryd.prog 16 #[.pointer (some ⟨sb, 8, none⟩)] w fun e w' => e = .returned (.tuple #[]) ∧ ∃ c', Rs w w' sb s c c' 8 14143 := by
  have HI := hid h
  clear h
  go_enter Tryd.func16, Tryd.ntmps16
  go_wp2_with fail
  go_loopw [6] (fun i wr => ∃ j : Nat, i = .int .i64 j ∧ j ≤ 12 ∧ Hid (∃ c', Rs w wr sb s c c' 8 8 ∧ Ev c' 8 (8 + j * 16) ∧ Ev c' 200 (200 + j * 16))) (fun i _ => 12 - (intOf i).toNat)
  case atStart => exact ⟨0, rfl, by omega, (show ∃ c', _ from ⟨c, Rs.nil HI.out 8, fun i h1 h2 => by omega, fun i h1 h2 => by omega⟩)⟩
  case round =>
    obtain ⟨j, rfl, hj, HQ⟩ := hrel
    by_cases hlt : j < 12
    · have hltI : (j : Int) < 12 := by omega
      obtain ⟨c2, q1, q2, q3⟩ := HQ.out
      have HA := hid (reset_tree sb (8 + j * 16) 16 16 s c2 wr q1.st (by omega) (by omega))
      have HC := hid (And.intro q1 (And.intro q2 q3))
      clear q1 q2 q3 HQ
      go_wp2_with fail
      refine HA.out.mono ?_
      rintro e w3 ⟨rfl, c3, r3⟩
      have HB := hid (reset_tree sb (200 + j * 16) 16 16 s c3 w3 r3.st (by omega) (by omega))
      have R3 := hid r3
      clear r3 HA
      go_wp2_with fail
      refine HB.out.mono ?_
      rintro e w4 ⟨rfl, c4, r4⟩
      have HG := (show Hid (∃ c', Rs w w4 sb s c c' 8 8 ∧ Ev c' 8 (8 + (j + 1) * 16) ∧ Ev c' 200 (200 + (j + 1) * 16)) from by
        obtain ⟨q1, q2, q3⟩ := HC.out
        have m := R3.out.mo.trans r4.mo
        refine ⟨c4, ⟨r4.st, q1.ev.mo m, q1.mo.trans m, (q1.kp.trans' R3.out.kp).trans' r4.kp⟩, fun i h1 h2 => ?_, fun i h1 h2 => ?_⟩
        · by_cases hb : i < 8 + j * 16
          · exact m i (q2 i h1 hb)
          · exact r4.mo i (R3.out.ev i (by omega) (by omega))
        · by_cases hb : i < 200 + j * 16
          · exact m i (q3 i h1 hb)
          · exact r4.ev i (by omega) (by omega))
      clear r4 HB HC R3
      go_wp2_with fail
      go_roundw
      case rel => exact ⟨j + 1, by go_num, by omega, HG⟩
      case measure => simp [intOf]; omega
    · have hltI : ¬ (j : Int) < 12 := by omega
      obtain rfl : j = 12 := by omega
      have HD := (show Hid (∃ c', Rs w wr sb s c c' 8 392) from by
        obtain ⟨c2, q1, q2, q3⟩ := HQ.out
        refine ⟨c2, q1.st, fun i h1 h2 => ?_, q1.mo, q1.kp⟩
        by_cases b : i < 200
        · exact q2 i h1 (by omega)
        · exact q3 i (by omega) (by omega))
      clear HQ
      go_wp2_with fail
      go_region
      obtain ⟨V, hV⟩ : ∃ V, V = (wr.alloc (.cells #[.slice (some ⟨sb, 392, none⟩) 12 12, .slice (some ⟨sb, 404, none⟩) 12 12, .slice (some ⟨sb, 416, none⟩) 12 12, .slice (some ⟨sb, 428, none⟩) 12 12] 92)).drew := ⟨_, rfl⟩
      have HT := (show Hid (V.heap[wr.heap.size]? = some (.cells #[.slice (some ⟨sb, 392, none⟩) 12 12, .slice (some ⟨sb, 404, none⟩) 12 12, .slice (some ⟨sb, 416, none⟩) 12 12, .slice (some ⟨sb, 428, none⟩) 12 12] 92 (0, 0)) ∧ ∃ c', Rs w V sb s c c' 8 392) from by
        obtain ⟨c2, q⟩ := HD.out
        have kk : Keep noBlock wr V := by rw [hV]; exact ((Keep.refl noBlock wr).alloc _).drew
        exact ⟨by rw [hV]; exact alloc_new wr _, c2, q.st.keep kk (fun h => h), q.ev, q.mo, q.kp.trans kk (fun _ _ h => h.elim)⟩)
      rw [← hV]
      clear hV HD
      generalize wr.heap.size = nb at *
      go_wp2_with fail
      go_loopw [42] (fun i wt => ∃ j : Nat, i = .int .i64 j ∧ j ≤ 4 ∧ Hid (wt.heap[nb]? = some (.cells #[.slice (some ⟨sb, 392, none⟩) 12 12, .slice (some ⟨sb, 404, none⟩) 12 12, .slice (some ⟨sb, 416, none⟩) 12 12, .slice (some ⟨sb, 428, none⟩) 12 12] 92 (0, 0)) ∧ ∃ c', Rs w wt sb s c c' 8 (392 + j * 12))) (fun i _ => 4 - (intOf i).toNat)
      case atStart => exact ⟨0, rfl, by omega, HT⟩
      case round =>
        obtain ⟨j, rfl, hj, HQ⟩ := hrel
        by_cases hlt : j < 4
        · have hltI : (j : Int) < 4 := by omega
          obtain ⟨hnb, c2, q1⟩ := HQ.out
          have hcell : wr.cell? ⟨nb, j, none⟩ = some (.slice (some ⟨sb, 392 + j * 12, none⟩) 12 12) := by
            rw [cell_of hnb j]
            have : j = 0 ∨ j = 1 ∨ j = 2 ∨ j = 3 := by omega
            rcases this with rfl | rfl | rfl | rfl <;> rfl
          have HA := hid (reset_tree sb (392 + j * 12) 12 12 s c2 wr q1.st (by omega) (by omega))
          have HC := hid (And.intro hnb q1)
          have hnn : nb ≠ sb := fun e => q1.st.ne hnb (by decide) e.symm
          clear q1 HQ hnb
          go_wp2_with fail
          refine HA.out.mono ?_
          rintro e w3 ⟨rfl, c3, r3⟩
          have HG := (show Hid (w3.heap[nb]? = some (.cells #[.slice (some ⟨sb, 392, none⟩) 12 12, .slice (some ⟨sb, 404, none⟩) 12 12, .slice (some ⟨sb, 416, none⟩) 12 12, .slice (some ⟨sb, 428, none⟩) 12 12] 92 (0, 0)) ∧ ∃ c', Rs w w3 sb s c c' 8 (392 + (j + 1) * 12)) from by
            refine ⟨r3.kp.obj HC.out.1 hnn, c3, ?_⟩
            have := HC.out.2.and r3
            rw [show 392 + (j + 1) * 12 = 392 + j * 12 + 12 from by omega]
            exact this)
          clear r3 HA HC hnn hcell
          go_wp2_with fail
          go_roundw
          case rel => exact ⟨j + 1, by go_num, by omega, HG⟩
          case measure => simp [intOf]; omega
        · have hltI : ¬ (j : Int) < 4 := by omega
          obtain rfl : j = 4 := by omega
          have HD := (show Hid (∃ c', Rs w wr sb s c c' 8 440) from HQ.out.2)
          clear HQ HT
          go_wp2_with fail
          go_loopw [49] (fun i wt => ∃ j : Nat, i = .int .i64 j ∧ j ≤ 16 ∧ Hid (∃ c', Rs w wt sb s c c' 8 (440 + j * 768))) (fun i _ => 16 - (intOf i).toNat)
          case atStart => exact ⟨0, rfl, by omega, HD⟩
          case round =>
            obtain ⟨j, rfl, hj, HQ⟩ := hrel
            by_cases hlt : j < 16
            · have hltI : (j : Int) < 16 := by omega
              obtain ⟨c2, q1⟩ := HQ.out
              have HA := hid (reset_tree sb (440 + j * 768) 768 768 s c2 wr q1.st (by omega) (by omega))
              have HC := hid q1
              clear q1 HQ
              go_wp2_with fail
              refine HA.out.mono ?_
              rintro e w3 ⟨rfl, c3, r3⟩
              have HG := (show Hid (∃ c', Rs w w3 sb s c c' 8 (440 + (j + 1) * 768)) from by
                refine ⟨c3, ?_⟩
                have := HC.out.and r3
                rw [show 440 + (j + 1) * 768 = 440 + j * 768 + 768 from by omega]
                exact this)
              clear r3 HA HC
              go_wp2_with fail
              go_roundw
              case rel => exact ⟨j + 1, by go_num, by omega, HG⟩
              case measure => simp [intOf]; omega
            · have hltI : ¬ (j : Int) < 16 := by omega
              obtain rfl : j = 16 := by omega
              obtain ⟨c2, q1⟩ := HQ.out
              have HA := hid (reset_lengths sb 12728 s c2 wr q1.st (by omega) (by omega))
              have HC := hid q1
              clear q1 HQ HD
              go_wp2_with fail
              refine HA.out.mono ?_
              rintro e w3 ⟨rfl, c3, r3⟩
              have HB := hid (reset_lengths sb 13242 s c3 w3 r3.st (by omega) (by omega))
              have R3 := hid r3
              clear r3 HA
              go_wp2_with fail
              refine HB.out.mono ?_
              rintro e w4 ⟨rfl, c4, r4⟩
              have HE := hid (reset_distances sb s c4 w4 r4.st)
              have R4 := hid r4
              clear r4 HB
              go_wp2_with fail
              refine HE.out.mono ?_
              rintro e w5 ⟨rfl, c5, r5⟩
              have HG := (show Hid (∃ c', Rs w w5 sb s c c' 8 14143) from ⟨c5, ((HC.out.and R3.out).and R4.out).and r5⟩)
              clear r5 HE HC R3 R4
              go_wp2_with fail
              go_end0
              exact ⟨rfl, HG.out⟩

/-- A state as at first, with these settings. -/
def newS (lc lp pb : Nat) : Se := ⟨lc, lp, pb, 0, 0, 0, 0, 0⟩
theorem IsS.even {w : World} {b : Nat} {s : Se} {c : Nat → Nat} (h : IsS w b s c) (he : Ev c 8 14143) : IsS w b s (fun _ => 1024) := by
  obtain ⟨cs, ho, hc⟩ := h.obj
  exact ⟨⟨cs, ho, ⟨hc.size, hc.e0, hc.e1, hc.e2, hc.e3, hc.e4, hc.e5, hc.e6, hc.e7, fun i h1 h2 => by rw [hc.ch i h1 h2, he i h1 h2]⟩⟩, h.ok, fun i => by show 1024 < _; omega⟩
theorem Cells.zero {cs : Array Value} {s : Se} {c : Nat → Nat} (h : Cells cs s c) : Cells (((((cs.setIfInBounds 3 (.int .u8 0)).setIfInBounds 4 (.int .u32 0)).setIfInBounds 5 (.int .u32 0)).setIfInBounds 6 (.int .u32 0)).setIfInBounds 7 (.int .u32 0)) (newS s.lc s.lp s.pb) c := by
  have hs := h.size
  have e0 := h.e0
  have e1 := h.e1
  have e2 := h.e2
  refine ⟨by simp [hs], ?_, ?_, ?_, ?_, ?_, ?_, ?_, ?_, fun i h1 h2 => ?_⟩
  · simp [newS, e0]
  · simp [newS, e1]
  · simp [newS, e2]
  · simp [hs]; rfl
  · simp [hs]; rfl
  · simp [hs]; rfl
  · simp [hs]; rfl
  · simp [hs]; rfl
  · rw [Array.getElem?_setIfInBounds, if_neg (by omega), Array.getElem?_setIfInBounds, if_neg (by omega), Array.getElem?_setIfInBounds, if_neg (by omega), Array.getElem?_setIfInBounds, if_neg (by omega), Array.getElem?_setIfInBounds, if_neg (by omega)]
    exact h.ch i h1 h2
theorem IsS.zero {w : World} {b : Nat} {s : Se} {c : Nat → Nat} (h : IsS w b s c) : IsS (((((w.setCell ⟨b, 3, none⟩ (.int .u8 0)).setCell ⟨b, 4, none⟩ (.int .u32 0)).setCell ⟨b, 5, none⟩ (.int .u32 0)).setCell ⟨b, 6, none⟩ (.int .u32 0)).setCell ⟨b, 7, none⟩ (.int .u32 0)) b (newS s.lc s.lp s.pb) c := by
  obtain ⟨cs, ho, hc⟩ := h.obj
  exact ⟨⟨_, set_obj (set_obj (set_obj (set_obj (set_obj ho 3 _) 4 _) 5 _) 6 _) 7 _, hc.zero⟩, ⟨h.ok.lc, h.ok.pb, (by show 0 < 12; omega), (by show 0 < 4294967296; omega), (by show 0 < 4294967296; omega), (by show 0 < 4294967296; omega), (by show 0 < 4294967296; omega)⟩, h.lt⟩
theorem reset_nil (w : World) : Calls Tryd.prog 10 #[.pointer none] w fun e w' => e = .returned (.tuple #[]) ∧ w' = w := by
  go_enter Tryd.func10, Tryd.ntmps10
  go_wp2
  first | go_end0 | refine bodyPost_ret (results_none rfl _ _ _) rfl ?_
  exact ⟨rfl, rfl⟩
set_option maxRecDepth 20000 in
set_option maxHeartbeats 2000000 in
theorem reset_any (sb : Nat) (s : Se) (c : Nat → Nat) (w : World) (h : IsS w sb s c) :
    Calls Tryd.prog 10 #[.pointer (some ⟨sb, 0, none⟩)] w fun e w' => e = .returned (.tuple #[]) ∧ IsS w' sb (newS s.lc s.lp s.pb) (fun _ => 1024) ∧ Keep (fun k => k = sb) w w' := by
  obtain ⟨f0, f1, f2, f3, f4, f5, f6, f7, ff⟩ := h.first
  have g3 := ff 3
  have g4 := ff 4
  have g5 := ff 5
  have g6 := ff 6
  have g7 := ff 7
  have HI := hid h
  clear h ff
  go_enter Tryd.func10, Tryd.ntmps10
  go_wp2_with fail
  have h1 := HI.out.zero
  have k1 := (((((Keep.refl (fun k => k = sb) w).setCell (p := ⟨sb, 3, none⟩) (fun _ => rfl) (.int .u8 0)).setCell (p := ⟨sb, 4, none⟩) (fun _ => rfl) (.int .u32 0)).setCell (p := ⟨sb, 5, none⟩) (fun _ => rfl) (.int .u32 0)).setCell (p := ⟨sb, 6, none⟩) (fun _ => rfl) (.int .u32 0)).setCell (p := ⟨sb, 7, none⟩) (fun _ => rfl) (.int .u32 0)
  generalize ((((w.setCell ⟨sb, 3, none⟩ (.int .u8 0)).setCell ⟨sb, 4, none⟩ (.int .u32 0)).setCell ⟨sb, 5, none⟩ (.int .u32 0)).setCell ⟨sb, 6, none⟩ (.int .u32 0)).setCell ⟨sb, 7, none⟩ (.int .u32 0) = W at *
  have HR := hid (reset_chances sb _ c W h1)
  have HK := hid k1
  clear h1 k1 f0 f1 f2 f3 f4 f5 f6 f7 g3 g4 g5 g6 g7
  refine HR.out.mono ?_
  rintro e w2 ⟨rfl, c2, r2⟩
  have HF := (show Hid (IsS w2 sb (newS s.lc s.lp s.pb) (fun _ => 1024) ∧ Keep (fun k => k = sb) w w2) from ⟨r2.st.even r2.ev, HK.out.trans' r2.kp⟩)
  clear r2 HR HK
  go_wp2_with fail
  go_end0
  exact ⟨rfl, HF.out⟩

end Go.Proofs.YtinhlkioeadfdaaDoor
