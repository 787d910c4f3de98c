/-
  All chances even: trees, lengths, distances, a state.
-/
import Derived.Test.YtinhlkioeadfdaaDoorSta
import Derived.Test.YtinhlkioeadfdaaDoorLgt
namespace Go.Proofs.YtinhlkioeadfdaaDoor
open Go.RowKit Go.Shelf
set_option linter.unusedVariables false

/-- Even chances, from one place to another. -/
def Ev (c : Nat → Nat) (a b : Nat) : Prop := ∀ i, a ≤ i → i < b → c i = 1024
/-- What was even stays so. -/
def Mo (c c' : Nat → Nat) : Prop := ∀ i, c i = 1024 → c' i = 1024
theorem Ev.mo {c c' : Nat → Nat} {a b : Nat} (h : Ev c a b) (hm : Mo c c') : Ev c' a b := fun i h1 h2 => hm i (h i h1 h2)
theorem Mo.trans {a b c : Nat → Nat} (h : Mo a b) (k : Mo b c) : Mo a c := fun i hi => k i (h i hi)
theorem Mo.refl (c : Nat → Nat) : Mo c c := fun _ h => h
theorem IsS.put {w : World} {b : Nat} {s : Se} {c : Nat → Nat} (h : IsS w b s c) (i x : Nat) (h8 : 8 ≤ i) (hx : x < 65536) : IsS (w.setCell ⟨b, i, none⟩ (.int .u16 (x : Int))) b s (putC c i x) := by
  obtain ⟨cs, ho, hc⟩ := h.obj
  refine ⟨⟨_, set_obj ho i _, hc.put i x h8⟩, h.ok, fun k => ?_⟩
  unfold putC
  split
  · exact hx
  · exact h.lt k
theorem IsS.cell {w : World} {b : Nat} {s : Se} {c : Nat → Nat} (h : IsS w b s c) (i : Nat) (h8 : 8 ≤ i) (hi : i < 14143) : w.cell? ⟨b, i, none⟩ = some (.int .u16 ((c i : Nat) : Int)) ∧ w.frozen? ⟨b, i, none⟩ = false := by
  obtain ⟨cs, ho, hc⟩ := h.obj
  exact ⟨(cell_of ho i).trans (hc.ch i h8 hi), frozen_of ho i⟩
/-- A state part of whose chances are even. -/
structure Rs (w W : World) (sb : Nat) (s : Se) (c c' : Nat → Nat) (a b : Nat) : Prop where
  st : IsS W sb s c'
  ev : Ev c' a b
  mo : Mo c c'
  kp : Keep (fun k => k = sb) w W
theorem Rs.nil {w : World} {sb : Nat} {s : Se} {c : Nat → Nat} (h : IsS w sb s c) (a : Nat) : Rs w w sb s c c a a := ⟨h, fun i h1 h2 => by omega, Mo.refl c, Keep.refl _ _⟩
theorem Rs.and {w W V : World} {sb : Nat} {s : Se} {c c' c'' : Nat → Nat} {a b d : Nat} (h : Rs w W sb s c c' a b) (k : Rs W V sb s c' c'' b d) : Rs w V sb s c c'' a d :=
  ⟨k.st, fun i h1 h2 => by
    by_cases hb : i < b
    · exact k.mo i (h.ev i h1 hb)
    · exact k.ev i (by omega) h2, h.mo.trans k.mo, h.kp.trans' k.kp⟩

set_option maxHeartbeats 1000000 in
theorem reset_tree (sb o n cap : Nat) (s : Se) (c : Nat → Nat) (w : World) (h : IsS w sb s c) (h8 : 8 ≤ o) (hn : o + n ≤ 14143) :
    Calls Tryd.prog 26 #[.slice (some ⟨sb, o, none⟩) n cap] w fun e w' => e = .returned (.tuple #[]) ∧ ∃ c', Rs w w' sb s c c' o (o + n) := by
  have HI := hid h
  clear h
  go_enter Tryd.func26, Tryd.ntmps26
  go_wp2_with fail
  go_loopw [5] (fun i wr => ∃ j : Nat, i = .int .i64 j ∧ j ≤ n ∧ Hid (∃ c', Rs w wr sb s c c' o (o + j))) (fun i _ => n - (intOf i).toNat)
  case atStart => exact ⟨0, rfl, by omega, (show ∃ c', _ from ⟨c, Rs.nil HI.out o⟩)⟩
  case round =>
    obtain ⟨j, rfl, hj, HQ⟩ := hrel
    by_cases hlt : j < n
    · have hltI : (j : Int) < (n : Int) := by omega
      obtain ⟨c', hc⟩ := HQ.out
      obtain ⟨x1, x2⟩ := hc.st.cell (o + j) (by omega) (by omega)
      have HC := hid hc
      clear hc HQ
      go_wp2_with fail
      go_roundw
      case rel =>
        refine ⟨j + 1, by go_num, by omega, (show ∃ c', _ from ⟨putC c' (o + j) 1024, ?_⟩)⟩
        refine ⟨HC.out.st.put (o + j) 1024 (by omega) (by omega), fun i h1 h2 => ?_, fun i hi => ?_, HC.out.kp.setCell (p := ⟨sb, o + j, none⟩) (fun _ => rfl) _⟩
        · unfold putC
          split
          · rfl
          · exact HC.out.ev i h1 (by omega)
        · unfold putC
          split
          · rfl
          · exact HC.out.mo i hi
      case measure => simp [intOf]; omega
    · have hltI : ¬ (j : Int) < (n : Int) := by omega
      obtain rfl : j = n := by omega
      go_wp2_with fail
      go_end0
      exact ⟨rfl, HQ.out⟩

set_option maxHeartbeats 2000000 in
theorem reset_lengths (sb L : Nat) (s : Se) (c : Nat → Nat) (w : World) (h : IsS w sb s c) (h8 : 8 ≤ L) (hL : L + 514 ≤ 14143) :
    Calls Tryd.prog 27 #[.pointer (some ⟨sb, L, none⟩)] w fun e w' => e = .returned (.tuple #[]) ∧ ∃ c', Rs w w' sb s c c' L (L + 514) := by
  have H1 := hid (reset_tree sb L 2 2 s c w h h8 (by omega))
  clear h
  go_enter Tryd.func27, Tryd.ntmps27
  go_wp2_with fail
  refine H1.out.mono ?_
  rintro e w1 ⟨rfl, c1, r1⟩
  have R1 := hid r1
  clear r1 H1
  go_wp2_with fail
  go_loopw [8] (fun i wr => ∃ j : Nat, i = .int .i64 j ∧ j ≤ 16 ∧ Hid (∃ c', Rs w wr sb s c c' L (L + 2) ∧ Ev c' (L + 2) (L + 2 + j * 8) ∧ Ev c' (L + 130) (L + 130 + j * 8))) (fun i _ => 16 - (intOf i).toNat)
  case atStart => exact ⟨0, rfl, by omega, (show ∃ c', _ from ⟨c1, R1.out, fun i h1 h2 => by omega, fun i h1 h2 => by omega⟩)⟩
  case round =>
    obtain ⟨j, rfl, hj, HQ⟩ := hrel
    by_cases hlt : j < 16
    · have hltI : (j : Int) < 16 := by omega
      obtain ⟨c2, q1, q2, q3⟩ := HQ.out
      have HA := hid (reset_tree sb (L + 2 + j * 8) 8 8 s c2 wr q1.st (by omega) (by omega))
      have HC := hid (And.intro q1 (And.intro q2 q3))
      clear q1 q2 q3 HQ
      go_wp2_with fail
      refine HA.out.mono ?_
      rintro e w3 ⟨rfl, c3, r3⟩
      have HB := hid (reset_tree sb (L + 130 + j * 8) 8 8 s c3 w3 r3.st (by omega) (by omega))
      have R3 := hid r3
      clear r3 HA
      go_wp2_with fail
      refine HB.out.mono ?_
      rintro e w4 ⟨rfl, c4, r4⟩
      have HG := (show Hid (∃ c', Rs w w4 sb s c c' L (L + 2) ∧ Ev c' (L + 2) (L + 2 + (j + 1) * 8) ∧ Ev c' (L + 130) (L + 130 + (j + 1) * 8)) from by
        obtain ⟨q1, q2, q3⟩ := HC.out
        have m := R3.out.mo.trans r4.mo
        refine ⟨c4, ⟨r4.st, q1.ev.mo m, q1.mo.trans m, (q1.kp.trans' R3.out.kp).trans' r4.kp⟩, fun i h1 h2 => ?_, fun i h1 h2 => ?_⟩
        · by_cases hb : i < L + 2 + j * 8
          · exact m i (q2 i h1 hb)
          · exact r4.mo i (R3.out.ev i (by omega) (by omega))
        · by_cases hb : i < L + 130 + j * 8
          · exact m i (q3 i h1 hb)
          · exact r4.ev i (by omega) (by omega))
      clear r4 HB HC R3
      go_wp2_with fail
      go_roundw
      case rel => exact ⟨j + 1, by go_num, by omega, HG⟩
      case measure => simp [intOf]; omega
    · have hltI : ¬ (j : Int) < 16 := by omega
      obtain rfl : j = 16 := by omega
      obtain ⟨c2, q1, q2, q3⟩ := HQ.out
      have HA := hid (reset_tree sb (L + 258) 256 256 s c2 wr q1.st (by omega) (by omega))
      have HC := hid (And.intro q1 (And.intro q2 q3))
      clear q1 q2 q3 HQ
      go_wp2_with fail
      refine HA.out.mono ?_
      rintro e w3 ⟨rfl, c3, r3⟩
      have HG := (show Hid (∃ c', Rs w w3 sb s c c' L (L + 514)) from by
        obtain ⟨q1, q2, q3⟩ := HC.out
        refine ⟨c3, r3.st, fun i h1 h2 => ?_, q1.mo.trans r3.mo, q1.kp.trans' r3.kp⟩
        by_cases b1 : i < L + 2
        · exact r3.mo i (q1.ev i h1 b1)
        · by_cases b2 : i < L + 130
          · exact r3.mo i (q2 i (by omega) (by omega))
          · by_cases b3 : i < L + 258
            · exact r3.mo i (q3 i (by omega) (by omega))
            · exact r3.ev i (by omega) (by omega))
      clear r3 HA HC
      go_wp2_with fail
      go_end0
      exact ⟨rfl, HG.out⟩

set_option maxHeartbeats 2000000 in
theorem reset_distances (sb : Nat) (s : Se) (c : Nat → Nat) (w : World) (h : IsS w sb s c) :
    Calls Tryd.prog 28 #[.pointer (some ⟨sb, 13756, none⟩)] w fun e w' => e = .returned (.tuple #[]) ∧ ∃ c', Rs w w' sb s c c' 13756 14143 := by
  have HI := hid h
  clear h
  go_enter Tryd.func28, Tryd.ntmps28
  go_wp2_with fail
  go_loopw [3] (fun i wr => ∃ j : Nat, i = .int .i64 j ∧ j ≤ 4 ∧ Hid (∃ c', Rs w wr sb s c c' 13756 (13756 + j * 64))) (fun i _ => 4 - (intOf i).toNat)
  case atStart => exact ⟨0, rfl, by omega, (show ∃ c', _ from ⟨c, Rs.nil HI.out 13756⟩)⟩
  case round =>
    obtain ⟨j, rfl, hj, HQ⟩ := hrel
    by_cases hlt : j < 4
    · have hltI : (j : Int) < 4 := by omega
      obtain ⟨c2, q1⟩ := HQ.out
      have HA := hid (reset_tree sb (13756 + j * 64) 64 64 s c2 wr q1.st (by omega) (by omega))
      have HC := hid q1
      clear q1 HQ
      go_wp2_with fail
      refine HA.out.mono ?_
      rintro e w3 ⟨rfl, c3, r3⟩
      have HG := (show Hid (∃ c', Rs w w3 sb s c c' 13756 (13756 + (j + 1) * 64)) from ⟨c3, by
        have := HC.out.and r3
        rw [show 13756 + (j + 1) * 64 = 13756 + j * 64 + 64 from by omega]
        exact this⟩)
      clear r3 HA HC
      go_wp2_with fail
      go_roundw
      case rel => exact ⟨j + 1, by go_num, by omega, HG⟩
      case measure => simp [intOf]; omega
    · have hltI : ¬ (j : Int) < 4 := by omega
      obtain rfl : j = 4 := by omega
      obtain ⟨c2, q1⟩ := HQ.out
      have HA := hid (reset_tree sb 14012 115 115 s c2 wr q1.st (by omega) (by omega))
      have HC := hid q1
      clear q1 HQ
      go_wp2_with fail
      refine HA.out.mono ?_
      rintro e w3 ⟨rfl, c3, r3⟩
      have HB := hid (reset_tree sb 14127 16 16 s c3 w3 r3.st (by omega) (by omega))
      have R3 := hid r3
      clear r3 HA
      go_wp2_with fail
      refine HB.out.mono ?_
      rintro e w4 ⟨rfl, c4, r4⟩
      have HG := (show Hid (∃ c', Rs w w4 sb s c c' 13756 14143) from ⟨c4, (HC.out.and R3.out).and r4⟩)
      clear r4 HB HC
      go_wp2_with fail
      go_end0
      exact ⟨rfl, HG.out⟩

end Go.Proofs.YtinhlkioeadfdaaDoor
