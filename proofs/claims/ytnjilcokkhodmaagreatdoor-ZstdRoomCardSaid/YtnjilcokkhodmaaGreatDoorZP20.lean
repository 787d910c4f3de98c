/-
  copyBack: the copy of a step.
  behindBlock: the content behind a block.
  copyBack: the copy of a step.
  What a call may have turned: 'Keep S w w'': every block of w but those of S lies as it lay. Small facts on blocks and cells that are told whole.
  The document's numbers, as plain functions: the two CRCs.
  The document's XXH64, as plain functions.
-/
import Derived.Shelf.Abstract
import Derived.Shelf.RegionOpen
import Derived.WalkKit
import Derived.WalkSmall
import Derived.WalkLawsBesides
import Derived.BigQuiet
import Derived.BigRegion
import Derived.Deep.QuietTactic
import Derived.Deep.AppendLies
import Derived.Deep.RegionWith
import Derived.Laws.BitsAllLaws
import Derived.Test.YtnjilcokkhodmaaGreatDoorProg
import Derived.Test.YtnjilcokkhodmaaGreatDoorZP19
namespace Go.Proofs.YtnjilcokkhodmaaGreatDoor
open Go.RowKit Go.Shelf
set_option linter.unusedVariables false

section
variable {w : World} {fb win dic siz : Nat} {told : Bool} {x0 x1 x2 ws : Value} {r0 r1 r2 : Int} {fl : Nat} {last : Bool} {kind bsz : Nat} {bud : Nat}
set_option maxRecDepth 100000 in
set_option maxHeartbeats 4000000 in
theorem copy_none {ov : Value} (s : Sp) (h : FrAt w fb win dic siz told x0 x1 x2 ws r0 r1 r2 fl last kind bsz ov bud) (h1 : 1 ≤ s.2.2) (h2 : s.2.2 ≤ 4611686018427387904) (hr : r0 ≤ 4611686018427387904) (hd : meantD r0 r1 r2 ((s.1 : Int) == 0) s.2.2 < 1) :
  Calls Tryz.prog 33 #[.pointer (some ⟨fb, 0, none⟩), .agg #[.int .i64 (s.1 : Int), .int .i64 (s.2.1 : Int), .int .i64 (s.2.2 : Int)]] w fun e w' => e = .returned (.bool false) ∧ Keep noBlock w w' := by
 obtain ⟨lits, mt, back⟩ := s
 dsimp only at *
 obtain ⟨W0, hW0⟩ : ∃ W0, W0 = w.alloc (.cells #[.int .i64 (lits : Int), .int .i64 (mt : Int), .int .i64 (back : Int)] 77) := ⟨_, rfl⟩
 obtain ⟨ub, hub⟩ : ∃ ub, ub = w.heap.size := ⟨_, rfl⟩
 have ob : W0.heap[ub]? = some (.cells #[.int .i64 (lits : Int), .int .i64 (mt : Int), .int .i64 (back : Int)] 77 (0, 0)) := by rw [hW0, hub]; exact alloc_new w _
 have k0 : Keep noBlock w W0 := by rw [hW0]; exact (Keep.refl _ w).alloc _
 have kd : Keep noBlock w W0.drew := k0.drew
 have hfd := h.keep kd (fun h => h)
 have hfl := obj_lt h
 have HS := (show Hid (W0.drew.cell? ⟨ub, 0, none⟩ = some (.int .i64 (lits : Int)) ∧ W0.drew.cell? ⟨ub, 2, none⟩ = some (.int .i64 (back : Int))) from ⟨cell_of ob 0, cell_of ob 2⟩)
 have HV := hid (valueF_bad (lits : Int) back h1 (by omega) (by omega) hd hfd)
 have HK := hid kd
 clear h hfd ob k0 kd hfl hd hr h1 h2
 go_enter Tryz.func33, Tryz.ntmps33
 go_wp2_with (rw [← hW0, ← hub]; clear hW0 hub)
 refine region_last (fun W => W.cell? ⟨ub, 0, none⟩ = some (.int .i64 (lits : Int)) ∧ W.cell? ⟨ub, 2, none⟩ = some (.int .i64 (back : Int))) 12 mx HS.out (fun hS => ?_)
 refine tk (i := 0) (v := ?_) rfl (by kernel_rfl) (fun _ _ _ h => h) (by rfl) ?_ (by assumption) ?_
 rotate_left 1
 ·intro w hSw; (try dsimp only at hSw); (try obtain ⟨hSw1, hSw2⟩ := hSw); (go_simp <;> with_reducible rfl)
 simp only [Act.put, tA, tB, tD, tE, tF]
 refine tk (i := 1) (v := ?_) rfl (by kernel_rfl) (fun _ _ _ h => h) (by rfl) ?_ (by assumption) ?_
 rotate_left 1
 ·intro w hSw; (try dsimp only at hSw); (try obtain ⟨hSw1, hSw2⟩ := hSw); (go_simp <;> with_reducible rfl)
 simp only [Act.put, tA, tB, tC, tD, tE, tF]
 refine tk (i := 2) (v := ?_) rfl (by kernel_rfl) (fun _ _ _ h => h) (by rfl) ?_ (by assumption) ?_
 rotate_left 1
 ·intro w hSw; (try dsimp only at hSw); (try obtain ⟨hSw1, hSw2⟩ := hSw); (go_simp <;> with_reducible rfl)
 simp only [Act.put, tA, tB, tC, tD, tE, tF]
 refine tk (i := 3) (v := ?_) rfl (by kernel_rfl) (fun _ _ _ h => h) (by rfl) ?_ (by assumption) ?_
 rotate_left 1
 ·intro w hSw; (try dsimp only at hSw); (try obtain ⟨hSw1, hSw2⟩ := hSw); (go_simp <;> with_reducible rfl)
 simp only [Act.put, tA, tB, tC, tD, tE, tF]
 refine tk (i := 4) (v := ?_) rfl (by kernel_rfl) (fun _ _ _ h => h) (by rfl) ?_ (by assumption) ?_
 rotate_left 1
 ·intro w hSw; (try dsimp only at hSw); (try obtain ⟨hSw1, hSw2⟩ := hSw); (go_simp <;> with_reducible rfl)
 simp only [Act.put, tA, tB, tC, tD, tE, tF]
 refine tk (i := 5) (v := ?_) rfl (by kernel_rfl) (fun _ _ _ h => h) (by rfl) ?_ (by assumption) ?_
 rotate_left 1
 ·intro w hSw; (try dsimp only at hSw); (try obtain ⟨hSw1, hSw2⟩ := hSw); (go_simp <;> with_reducible rfl)
 simp only [Act.put, tA, tB, tC, tD, tE, tF]
 refine tk (i := 6) (v := ?_) rfl (by kernel_rfl) (fun _ _ _ h => h) (by rfl) ?_ (by assumption) ?_
 rotate_left 1
 ·intro w hSw; (try dsimp only at hSw); (try obtain ⟨hSw1, hSw2⟩ := hSw); (go_simp <;> with_reducible rfl)
 simp only [Act.put, tA, tB, tC, tD, tE, tF]
 refine last_one (j := 7) (by kernel_rfl) rfl (fun K hK => ?_)
 rw [if_pos (by rfl)]
 simp only [tA, tB, tC]
 go_simp
 refine HV.out.mono ?_
 rintro e w1 ⟨rfl, rfl⟩
 refine hK.out _ _ (fun _ => HS.out) ?_
 clear hK K
 refine last_one (j := 8) (by kernel_rfl) rfl (fun K hK => ?_)
 rw [if_pos (by rfl)]
 simp only [tA, tB, tC]
 go_simp
 refine hK.out _ _ (fun _ => HS.out) ?_
 clear hK K
 refine tk (i := 9) (v := ?_) rfl (by kernel_rfl) (fun _ _ _ h => h) (by rfl) ?_ (by assumption) ?_
 rotate_left 1
 ·intro w hSw; (try dsimp only at hSw); (try obtain ⟨hSw1, hSw2⟩ := hSw); (go_simp <;> with_reducible rfl)
 simp only [Act.put, tA, tB, tC, tD, tE, tF]
 refine tk (i := 10) (v := ?_) rfl (by kernel_rfl) (fun _ _ _ h => h) (by rfl) ?_ (by assumption) ?_
 rotate_left 1
 ·intro w hSw; (try dsimp only at hSw); (try obtain ⟨hSw1, hSw2⟩ := hSw); (go_simp <;> with_reducible rfl)
 simp only [Act.put, tA, tB, tC, tD, tE, tF]
 refine last_one (j := 11) (by kernel_rfl) rfl (fun K hK => ?_)
 rw [if_pos (by rfl)]
 simp only [tA, tB, tC]
 go_simp
 refine hK.out _ _ (fun _ => HS.out) ?_
 clear hK K
 refine last_one (j := 12) (by kernel_rfl) rfl (fun K hK => ?_)
 rw [if_pos (by rfl)]
 simp only [tA, tB, tC]
 go_simp
 refine hK.out _ _ (fun e => absurd rfl e) ?_
 clear hK K
 refine last_done (by kernel_rfl) ?_ _
 go_wp2_with fail
 go_ret
 exact ⟨rfl, HK.out⟩
set_option maxRecDepth 100000 in
set_option maxHeartbeats 4000000 in
theorem copy_far {oa : Option Addr} {n oc : Nat} (s : Sp) (h : FrAt w fb win dic siz told x0 x1 x2 ws r0 r1 r2 fl last kind bsz (.slice oa n oc) bud) (h1 : 1 ≤ s.2.2) (h2 : s.2.2 ≤ 4611686018427387904) (hr : r0 ≤ 4611686018427387904) (hw : win < 18446744073709551616) (hn : n ≤ 1073741824) (hd : 1 ≤ meantD r0 r1 r2 ((s.1 : Int) == 0) s.2.2) (hdb : meantD r0 r1 r2 ((s.1 : Int) == 0) s.2.2 ≤ 4611686018427387904)
  (hfar : (win : Int) < meantD r0 r1 r2 ((s.1 : Int) == 0) s.2.2 ∨ (n : Int) < meantD r0 r1 r2 ((s.1 : Int) == 0) s.2.2) :
  Calls Tryz.prog 33 #[.pointer (some ⟨fb, 0, none⟩), .agg #[.int .i64 (s.1 : Int), .int .i64 (s.2.1 : Int), .int .i64 (s.2.2 : Int)]] w fun e w' => e = .returned (.bool false) ∧ (∃ r0' r1' r2', FrAt w' fb win dic siz told x0 x1 x2 ws r0' r1' r2' fl last kind bsz (.slice oa n oc) bud) ∧ Keep (fun k => k = fb) w w' := by
 obtain ⟨lits, mt, back⟩ := s
 dsimp only at *
 obtain ⟨W0, hW0⟩ : ∃ W0, W0 = w.alloc (.cells #[.int .i64 (lits : Int), .int .i64 (mt : Int), .int .i64 (back : Int)] 77) := ⟨_, rfl⟩
 obtain ⟨ub, hub⟩ : ∃ ub, ub = w.heap.size := ⟨_, rfl⟩
 have ob : W0.heap[ub]? = some (.cells #[.int .i64 (lits : Int), .int .i64 (mt : Int), .int .i64 (back : Int)] 77 (0, 0)) := by rw [hW0, hub]; exact alloc_new w _
 have k0 : Keep noBlock w W0 := by rw [hW0]; exact (Keep.refl _ w).alloc _
 have kd : Keep noBlock w W0.drew := k0.drew
 have hfd := h.keep kd (fun h => h)
 have hfl := obj_lt h
 have HS := (show Hid (W0.drew.cell? ⟨ub, 0, none⟩ = some (.int .i64 (lits : Int)) ∧ W0.drew.cell? ⟨ub, 2, none⟩ = some (.int .i64 (back : Int))) from ⟨cell_of ob 0, cell_of ob 2⟩)
 obtain ⟨M1, hM1⟩ : ∃ M1, M1 = (movedR r0 r1 r2 (meantM r0 ((lits : Int) == 0) back)).2.1 := ⟨_, rfl⟩
 obtain ⟨M2, hM2⟩ : ∃ M2, M2 = (movedR r0 r1 r2 (meantM r0 ((lits : Int) == 0) back)).2.2 := ⟨_, rfl⟩
 obtain ⟨d, hdn⟩ : ∃ d : Nat, meantD r0 r1 r2 ((lits : Int) == 0) back = (d : Int) := ⟨_, (Int.toNat_of_nonneg (by omega)).symm⟩
 have hvv := valueF_ok (lits : Int) back h1 (by omega) (by omega) hd hfd
 rw [← hM1, ← hM2, hdn] at hvv
 rw [hdn] at hd hdb
 have hd1 : 1 ≤ d := by omega
 have hwd : IntKind.u64.wrap (d : Int) = (d : Int) := by rw [IntKind.wrap_u64]; omega
 have hdI : (d : Int) ≤ 4611686018427387904 := by omega
 rw [hdn] at hfar
 have HNE := hid (show ¬ ub = fb from by omega)
 have HV := hid hvv
 have HK := hid kd
 clear h hfd ob k0 kd hfl hr h1 h2 hvv hM1 hM2 hdn
 go_enter Tryz.func33, Tryz.ntmps33
 go_wp2_with (rw [← hW0, ← hub]; clear hW0 hub)
 refine region_last (fun W => W.cell? ⟨ub, 0, none⟩ = some (.int .i64 (lits : Int)) ∧ W.cell? ⟨ub, 2, none⟩ = some (.int .i64 (back : Int))) 12 mx HS.out (fun hS => ?_)
 refine tk (i := 0) (v := ?_) rfl (by kernel_rfl) (fun _ _ _ h => h) (by rfl) ?_ (by assumption) ?_
 rotate_left 1
 ·intro w hSw; (try dsimp only at hSw); (try obtain ⟨hSw1, hSw2⟩ := hSw); (go_simp <;> with_reducible rfl)
 simp only [Act.put, tA, tB, tD, tE, tF]
 refine tk (i := 1) (v := ?_) rfl (by kernel_rfl) (fun _ _ _ h => h) (by rfl) ?_ (by assumption) ?_
 rotate_left 1
 ·intro w hSw; (try dsimp only at hSw); (try obtain ⟨hSw1, hSw2⟩ := hSw); (go_simp <;> with_reducible rfl)
 simp only [Act.put, tA, tB, tC, tD, tE, tF]
 refine tk (i := 2) (v := ?_) rfl (by kernel_rfl) (fun _ _ _ h => h) (by rfl) ?_ (by assumption) ?_
 rotate_left 1
 ·intro w hSw; (try dsimp only at hSw); (try obtain ⟨hSw1, hSw2⟩ := hSw); (go_simp <;> with_reducible rfl)
 simp only [Act.put, tA, tB, tC, tD, tE, tF]
 refine tk (i := 3) (v := ?_) rfl (by kernel_rfl) (fun _ _ _ h => h) (by rfl) ?_ (by assumption) ?_
 rotate_left 1
 ·intro w hSw; (try dsimp only at hSw); (try obtain ⟨hSw1, hSw2⟩ := hSw); (go_simp <;> with_reducible rfl)
 simp only [Act.put, tA, tB, tC, tD, tE, tF]
 refine tk (i := 4) (v := ?_) rfl (by kernel_rfl) (fun _ _ _ h => h) (by rfl) ?_ (by assumption) ?_
 rotate_left 1
 ·intro w hSw; (try dsimp only at hSw); (try obtain ⟨hSw1, hSw2⟩ := hSw); (go_simp <;> with_reducible rfl)
 simp only [Act.put, tA, tB, tC, tD, tE, tF]
 refine tk (i := 5) (v := ?_) rfl (by kernel_rfl) (fun _ _ _ h => h) (by rfl) ?_ (by assumption) ?_
 rotate_left 1
 ·intro w hSw; (try dsimp only at hSw); (try obtain ⟨hSw1, hSw2⟩ := hSw); (go_simp <;> with_reducible rfl)
 simp only [Act.put, tA, tB, tC, tD, tE, tF]
 refine tk (i := 6) (v := ?_) rfl (by kernel_rfl) (fun _ _ _ h => h) (by rfl) ?_ (by assumption) ?_
 rotate_left 1
 ·intro w hSw; (try dsimp only at hSw); (try obtain ⟨hSw1, hSw2⟩ := hSw); (go_simp <;> with_reducible rfl)
 simp only [Act.put, tA, tB, tC, tD, tE, tF]
 refine last_one (j := 7) (by kernel_rfl) rfl (fun K hK => ?_)
 rw [if_pos (by rfl)]
 simp only [tA, tB, tC]
 go_simp
 refine HV.out.mono ?_
 rintro e w1 ⟨rfl, hf1, k1⟩
 have hs1 : w1.cell? ⟨ub, 0, none⟩ = some (.int .i64 (lits : Int)) ∧ w1.cell? ⟨ub, 2, none⟩ = some (.int .i64 (back : Int)) := ⟨keep_cellS k1 HNE.out HS.out.1, keep_cellS k1 HNE.out HS.out.2⟩
 have HS1 := hid hs1
 have c0 : w1.cell? ⟨fb, 0, none⟩ = some (.int .u64 (win : Int)) := cell_of hf1 0
 have c15 : w1.cell? ⟨fb, 15, none⟩ = some (.slice oa n oc) := cell_of hf1 15
 have HF1 := hid (And.intro hf1 ((HK.out.mono (T := fun k => k = fb) (fun _ _ h => h.elim)).trans' k1))
 clear hs1 hf1 k1
 refine hK.out _ _ (fun _ => HS1.out) ?_
 clear hK K
 refine last_one (j := 8) (by kernel_rfl) rfl (fun K hK => ?_)
 rw [if_pos (by rfl)]
 simp only [tA, tB, tC]
 go_simp
 refine hK.out _ _ (fun _ => HS1.out) ?_
 clear hK K
 refine tk (i := 9) (v := ?_) rfl (by kernel_rfl) (fun _ _ _ h => h) (by rfl) ?_ (by assumption) ?_
 rotate_left 1
 ·intro w hSw; (try dsimp only at hSw); (try obtain ⟨hSw1, hSw2⟩ := hSw); (go_simp <;> with_reducible rfl)
 simp only [Act.put, tA, tB, tC, tD, tE, tF]
 refine tk (i := 10) (v := ?_) rfl (by kernel_rfl) (fun _ _ _ h => h) (by rfl) ?_ (by assumption) ?_
 rotate_left 1
 ·intro w hSw; (try dsimp only at hSw); (try obtain ⟨hSw1, hSw2⟩ := hSw); (go_simp <;> with_reducible rfl)
 simp only [Act.put, tA, tB, tC, tD, tE, tF]
 refine last_one (j := 11) (by kernel_rfl) rfl (fun K hK => ?_)
 rw [if_pos (by rfl)]
 simp only [tA, tB, tC]
 go_simp
 refine hK.out _ _ (fun _ => HS1.out) ?_
 clear hK K
 refine last_one (j := 12) (by kernel_rfl) rfl (fun K hK => ?_)
 rw [if_pos (by rfl)]
 simp only [tA, tB, tC]
 go_simp
 refine hK.out _ _ (fun e => absurd rfl e) ?_
 clear hK K
 refine last_done (by kernel_rfl) ?_ _
 by_cases hwn : win < d
 ·have hwI : (win : Int) < (d : Int) := by omega
  have hwdd : decide (win < d) = true := decide_eq_true hwn
  go_wp2_with fail
  go_ret
  exact ⟨rfl, ⟨_, _, _, HF1.out.1⟩, HF1.out.2⟩
 ·have hwI : ¬ (win : Int) < (d : Int) := by omega
  have hwdd : decide (win < d) = false := decide_eq_false hwn
  have hnn : n < d := by omega
  have hnI : (n : Int) < (d : Int) := by omega
  have hnd : decide (n < d) = true := decide_eq_true hnn
  go_wp2_with fail
  go_ret
  exact ⟨rfl, ⟨_, _, _, HF1.out.1⟩, HF1.out.2⟩
end
end Go.Proofs.YtnjilcokkhodmaaGreatDoor

namespace Go.Proofs.YtnjilcokkhodmaaGreatDoor
open Go.RowKit Go.Shelf
set_option linter.unusedVariables false

def behE (n siz : Nat) (told last : Bool) : Nat := if 16777216 < n then 3 else if told = true ∧ siz < n then 11 else if told = true ∧ last = true ∧ n < siz then 11 else 0
def behD (n siz : Nat) (told : Bool) : Bool := decide (16777216 < n) || (told && decide (siz < n))
theorem FrAt.out_set {w : World} {fb win dic siz : Nat} {told : Bool} {x0 x1 x2 ws : Value} {r0 r1 r2 : Int} {fl : Nat} {last : Bool} {kind bsz : Nat} {out : Value} {bud : Nat} (h : FrAt w fb win dic siz told x0 x1 x2 ws r0 r1 r2 fl last kind bsz out bud) (v : Value) : FrAt (w.setCell ⟨fb, 15, none⟩ v) fb win dic siz told x0 x1 x2 ws r0 r1 r2 fl last kind bsz v bud :=
 set_obj h 15 v
section
attribute [local go_sem] sliceSem_eq
set_option maxRecDepth 100000 in
set_option maxHeartbeats 4000000 in
theorem behind_block {w : World} {fb win dic siz : Nat} {told : Bool} {x0 x1 x2 ws : Value} {r0 r1 r2 : Int} {fl : Nat} {last : Bool} {kind bsz : Nat} {oa : Option Addr} {n oc : Nat} {bud : Nat} (h : FrAt w fb win dic siz told x0 x1 x2 ws r0 r1 r2 fl last kind bsz (.slice oa n oc) bud) (hs : siz < 18446744073709551616) (hn : n ≤ 1073741824) (ah : Nat) (hah : ah ≤ n) (hoc : n ≤ oc) :
    Calls Tryz.prog 16 #[.pointer (some ⟨fb, 0, none⟩), .int .i64 (ah : Int)] w fun e w' => e = .returned (.int .i64 ((behE n siz told last : Nat) : Int)) ∧ FrAt w' fb win dic siz told x0 x1 x2 ws r0 r1 r2 fl last kind bsz (.slice oa (if behD n siz told then ah else n) oc) bud ∧ Keep (fun k => k = fb) w w' := by
  have c2 : w.cell? ⟨fb, 2, none⟩ = some (.int .u64 (siz : Int)) := cell_of h 2
  have c3 : w.cell? ⟨fb, 3, none⟩ = some (.bool told) := cell_of h 3
  have c12 : w.cell? ⟨fb, 12, none⟩ = some (.bool last) := cell_of h 12
  have c15 : w.cell? ⟨fb, 15, none⟩ = some (.slice oa n oc) := cell_of h 15
  have f15 : w.frozen? ⟨fb, 15, none⟩ = false := frozen_of h 15
  have hsl := run_high5 oa n oc ah (by omega)
  have hwn : IntKind.u64.wrap (n : Int) = (n : Int) := by rw [IntKind.wrap_u64]; omega
  have hnb : (n : Int) ≤ 1073741824 := by omega
  have hkk := (Keep.refl (fun k => k = fb) w).setCell (p := ⟨fb, 15, none⟩) (fun _ => rfl) (.slice oa ah oc)
  have HF := hid (And.intro (h.out_set (.slice oa ah oc)) hkk)
  have HH := hid h
  have hahn : (ah : Int) ≤ (n : Int) := by omega
  obtain ⟨m, hm⟩ : ∃ m, m = if behD n siz told then ah else n := ⟨_, rfl⟩
  obtain ⟨E, hE⟩ : ∃ E, E = behE n siz told last := ⟨_, rfl⟩
  rw [← hm, ← hE]
  clear h hkk
  by_cases h1 : 16777216 < n
  · obtain ⟨hx1, hx2⟩ : behE n siz told last = 3 ∧ behD n siz told = true := ⟨if_pos h1, by unfold behD; rw [decide_eq_true h1]; rfl⟩
    rw [hx1] at hE
    rw [hx2] at hm
    subst hE
    obtain rfl : m = ah := hm
    clear hx1 hx2
    have h1I : (16777216 : Int) < (n : Int) := by omega
    have h1d : decide (16777216 < n) = true := decide_eq_true h1
    go_enter Tryz.func16, Tryz.ntmps16
    go_wp2_with fail
    go_ret
    exact ⟨rfl, HF.out.1, HF.out.2⟩
  · have h1I : ¬ (16777216 : Int) < (n : Int) := by omega
    have h1d : decide (16777216 < n) = false := decide_eq_false h1
    cases told with
    | false =>
      obtain ⟨hx1, hx2⟩ : behE n siz false last = 0 ∧ behD n siz false = false := ⟨by unfold behE; simp [h1], by unfold behD; rw [h1d]; rfl⟩
      rw [hx1] at hE
      rw [hx2] at hm
      subst hE
      have hmn : m = n := hm
      rw [hmn]
      clear hmn hm
      clear hx1 hx2
      go_enter Tryz.func16, Tryz.ntmps16
      go_wp2_with fail
      go_ret
      exact ⟨rfl, HH.out, Keep.refl _ _⟩
    | true =>
      by_cases h2 : siz < n
      · obtain ⟨hx1, hx2⟩ : behE n siz true last = 11 ∧ behD n siz true = true := ⟨by unfold behE; rw [if_neg h1, if_pos ⟨rfl, h2⟩], by unfold behD; rw [decide_eq_true h2]; simp⟩
        rw [hx1] at hE
        rw [hx2] at hm
        subst hE
        obtain rfl : m = ah := hm
        clear hx1 hx2
        have h2d : decide (siz < n) = true := decide_eq_true h2
        have h2I : (siz : Int) < (n : Int) := by omega
        go_enter Tryz.func16, Tryz.ntmps16
        go_wp2_with fail
        go_ret
        exact ⟨rfl, HF.out.1, HF.out.2⟩
      · have h2d : decide (siz < n) = false := decide_eq_false h2
        have h2I : ¬ (siz : Int) < (n : Int) := by omega
        have hD : behD n siz true = false := by unfold behD; rw [h1d, h2d]; rfl
        cases last with
        | false =>
          obtain ⟨hx1, hx2⟩ : behE n siz true false = 0 ∧ behD n siz true = false := ⟨by unfold behE; simp [h1, h2], hD⟩
          rw [hx1] at hE
          rw [hx2] at hm
          subst hE
          have hmn : m = n := hm
          rw [hmn]
          clear hmn hm
          clear hx1 hx2
          go_enter Tryz.func16, Tryz.ntmps16
          go_wp2_with fail
          go_ret
          exact ⟨rfl, HH.out, Keep.refl _ _⟩
        | true =>
          by_cases h3 : n < siz
          · obtain ⟨hx1, hx2⟩ : behE n siz true true = 11 ∧ behD n siz true = false := ⟨by unfold behE; simp [h1, h2, h3], hD⟩
            rw [hx1] at hE
            rw [hx2] at hm
            subst hE
            have hmn : m = n := hm
            rw [hmn]
            clear hmn hm
            clear hx1 hx2
            have h3d : decide (n < siz) = true := decide_eq_true h3
            have h3I : (n : Int) < (siz : Int) := by omega
            go_enter Tryz.func16, Tryz.ntmps16
            go_wp2_with fail
            go_ret
            exact ⟨rfl, HH.out, Keep.refl _ _⟩
          · obtain ⟨hx1, hx2⟩ : behE n siz true true = 0 ∧ behD n siz true = false := ⟨by unfold behE; simp [h1, h2, h3], hD⟩
            rw [hx1] at hE
            rw [hx2] at hm
            subst hE
            have hmn : m = n := hm
            rw [hmn]
            clear hmn hm
            clear hx1 hx2
            have h3d : decide (n < siz) = false := decide_eq_false h3
            have h3I : ¬ (n : Int) < (siz : Int) := by omega
            go_enter Tryz.func16, Tryz.ntmps16
            go_wp2_with fail
            go_ret
            exact ⟨rfl, HH.out, Keep.refl _ _⟩
end
end Go.Proofs.YtnjilcokkhodmaaGreatDoor

namespace Go.Proofs.YtnjilcokkhodmaaGreatDoor
open Go.RowKit Go.Shelf
set_option linter.unusedVariables false

section
variable {w : World} {fb win dic siz : Nat} {told : Bool} {x0 x1 x2 ws : Value} {r0 r1 r2 : Int} {fl : Nat} {last : Bool} {kind bsz : Nat} {bud : Nat}
/-- Copying under way. -/
structure CpS (w0 wr : World) (fb win dic siz : Nat) (told : Bool) (x0 x1 x2 ws : Value) (r0 r1 r2 : Int) (fl : Nat) (last : Bool) (kind bsz bud : Nat) (ov ov1 : Value) (out1 : List Nat) : Prop where
 fr : FrAt wr fb win dic siz told x0 x1 x2 ws r0 r1 r2 fl last kind bsz ov1 bud
 out : OutF wr ov1 out1
 co : CoS w0 wr fb ov ov1
theorem cpyP_step (k : Nat) (out : List Nat) (fr left : Nat) (hl : 0 < left) : cpyP (k + 1) out fr left = cpyP k (out ++ (out.drop fr).take (min left (out.length - fr))) fr (left - min left (out.length - fr)) := by
 show (if left = 0 then out else _) = _
 rw [if_neg (by omega)]
theorem cpyP_zero (k : Nat) (out : List Nat) (fr : Nat) : cpyP k out fr 0 = out := by
 cases k with
 | zero => rfl
 | succ k => exact if_pos rfl
section
attribute [local go_sem] sliceSem_eq minSem_eq
set_option maxRecDepth 100000 in
set_option maxHeartbeats 8000000 in
theorem copy_good {ov : Value} {out : List Nat} (s : Sp) (h : FrAt w fb win dic siz told x0 x1 x2 ws r0 r1 r2 fl last kind bsz ov bud) (hO : OutF w ov out) (hne : ov.ownBlock ≠ some fb) (h1 : 1 ≤ s.2.2) (h2 : s.2.2 ≤ 4611686018427387904) (hr : r0 ≤ 4611686018427387904) (hw : win < 18446744073709551616) (hn : out.length + s.2.1 ≤ 1073741824) (hd : 1 ≤ meantD r0 r1 r2 ((s.1 : Int) == 0) s.2.2)
  (hdw : meantD r0 r1 r2 ((s.1 : Int) == 0) s.2.2 ≤ (win : Int)) (hdb : meantD r0 r1 r2 ((s.1 : Int) == 0) s.2.2 ≤ (out.length : Int)) :
  Calls Tryz.prog 33 #[.pointer (some ⟨fb, 0, none⟩), .agg #[.int .i64 (s.1 : Int), .int .i64 (s.2.1 : Int), .int .i64 (s.2.2 : Int)]] w fun e w' => e = .returned (.bool true) ∧ ∃ ov', FrAt w' fb win dic siz told x0 x1 x2 ws (meantD r0 r1 r2 ((s.1 : Int) == 0) s.2.2) (movedR r0 r1 r2 (meantM r0 ((s.1 : Int) == 0) s.2.2)).2.1 (movedR r0 r1 r2 (meantM r0 ((s.1 : Int) == 0) s.2.2)).2.2 fl last kind bsz ov' bud ∧ OutF w' ov' (cpyP s.2.1 out (out.length - (meantD r0 r1 r2 ((s.1 : Int) == 0) s.2.2).toNat) s.2.1) ∧ CoS w w' fb ov ov' := by
 obtain ⟨lits, mt, back⟩ := s
 dsimp only at *
 obtain ⟨W0, hW0⟩ : ∃ W0, W0 = w.alloc (.cells #[.int .i64 (lits : Int), .int .i64 (mt : Int), .int .i64 (back : Int)] 77) := ⟨_, rfl⟩
 obtain ⟨ub, hub⟩ : ∃ ub, ub = w.heap.size := ⟨_, rfl⟩
 have ob : W0.heap[ub]? = some (.cells #[.int .i64 (lits : Int), .int .i64 (mt : Int), .int .i64 (back : Int)] 77 (0, 0)) := by rw [hW0, hub]; exact alloc_new w _
 have k0 : Keep noBlock w W0 := by rw [hW0]; exact (Keep.refl _ w).alloc _
 have kd : Keep noBlock w W0.drew := k0.drew
 have hfd := h.keep kd (fun h => h)
 have hfl := obj_lt h
 have HS := (show Hid (W0.drew.cell? ⟨ub, 0, none⟩ = some (.int .i64 (lits : Int)) ∧ W0.drew.cell? ⟨ub, 2, none⟩ = some (.int .i64 (back : Int))) from ⟨cell_of ob 0, cell_of ob 2⟩)
 obtain ⟨M1, hM1⟩ : ∃ M1, M1 = (movedR r0 r1 r2 (meantM r0 ((lits : Int) == 0) back)).2.1 := ⟨_, rfl⟩
 obtain ⟨M2, hM2⟩ : ∃ M2, M2 = (movedR r0 r1 r2 (meantM r0 ((lits : Int) == 0) back)).2.2 := ⟨_, rfl⟩
 obtain ⟨d, hdn⟩ : ∃ d : Nat, meantD r0 r1 r2 ((lits : Int) == 0) back = (d : Int) := ⟨_, (Int.toNat_of_nonneg (by omega)).symm⟩
 have hvv := valueF_ok (lits : Int) back h1 (by omega) (by omega) hd hfd
 rw [← hM1, ← hM2, hdn] at hvv
 rw [hdn] at hd hdb
 have hd1 : 1 ≤ d := by omega
 have hwd : IntKind.u64.wrap (d : Int) = (d : Int) := by rw [IntKind.wrap_u64]; omega
 have hdI : (d : Int) ≤ 4611686018427387904 := by omega
 rw [hdn, Int.toNat_natCast, ← hM1, ← hM2]
 rw [hdn] at hdw
 have hwI : ¬ (win : Int) < (d : Int) := by omega
 have hwdd : decide (win < d) = false := decide_eq_false (by omega)
 obtain ⟨oa, oc, hov, hoc⟩ := hO.slice
 obtain ⟨N, hN⟩ : ∃ N, N = out.length := ⟨_, rfl⟩
 obtain ⟨fr, hfr⟩ : ∃ fr, fr = N - d := ⟨_, rfl⟩
 rw [← hN] at hov hdb hn hoc
 have hnI : ¬ (N : Int) < (d : Int) := by omega
 have hnd : decide (N < d) = false := decide_eq_false (by omega)
 have hfrI : (N : Int) - (d : Int) = (fr : Int) := by omega
 have hNb : (N : Int) ≤ 1073741824 := by omega
 have hmb : (mt : Int) ≤ 1073741824 := by omega
 have hfb2 : (fr : Int) ≤ 1073741824 := by omega
 obtain ⟨R, hR⟩ : ∃ R, R = cpyP mt out (out.length - d) mt := ⟨_, rfl⟩
 rw [← hR]
 rw [← hN, ← hfr] at hR
 have HH := (show Hid (OutF w ov out ∧ ov.ownBlock ≠ some fb ∧ fb < w.heap.size ∧ N = out.length ∧ fr = N - d ∧ R = cpyP mt out fr mt ∧ N + mt ≤ 1073741824 ∧ d ≤ N ∧ 1 ≤ d) from ⟨hO, hne, hfl, hN, hfr, hR, hn, by omega, hd1⟩)
 have HNE := hid (show ¬ ub = fb from by omega)
 have HOB := hid (And.intro ob hub)
 have HV := hid hvv
 have HK := hid kd
 subst hov
 clear h hfd ob k0 kd hfl hr h1 h2 hvv hM1 hM2 hdn hO hne hN hR hfr hn
 go_enter Tryz.func33, Tryz.ntmps33
 go_wp2_with (rw [← hW0, ← hub]; clear hW0 hub)
 refine region_last (fun W => W.cell? ⟨ub, 0, none⟩ = some (.int .i64 (lits : Int)) ∧ W.cell? ⟨ub, 2, none⟩ = some (.int .i64 (back : Int))) 12 mx HS.out (fun hS => ?_)
 refine tk (i := 0) (v := ?_) rfl (by kernel_rfl) (fun _ _ _ h => h) (by rfl) ?_ (by assumption) ?_
 rotate_left 1
 ·intro w hSw; (try dsimp only at hSw); (try obtain ⟨hSw1, hSw2⟩ := hSw); (go_simp <;> with_reducible rfl)
 simp only [Act.put, tA, tB, tD, tE, tF]
 refine tk (i := 1) (v := ?_) rfl (by kernel_rfl) (fun _ _ _ h => h) (by rfl) ?_ (by assumption) ?_
 rotate_left 1
 ·intro w hSw; (try dsimp only at hSw); (try obtain ⟨hSw1, hSw2⟩ := hSw); (go_simp <;> with_reducible rfl)
 simp only [Act.put, tA, tB, tC, tD, tE, tF]
 refine tk (i := 2) (v := ?_) rfl (by kernel_rfl) (fun _ _ _ h => h) (by rfl) ?_ (by assumption) ?_
 rotate_left 1
 ·intro w hSw; (try dsimp only at hSw); (try obtain ⟨hSw1, hSw2⟩ := hSw); (go_simp <;> with_reducible rfl)
 simp only [Act.put, tA, tB, tC, tD, tE, tF]
 refine tk (i := 3) (v := ?_) rfl (by kernel_rfl) (fun _ _ _ h => h) (by rfl) ?_ (by assumption) ?_
 rotate_left 1
 ·intro w hSw; (try dsimp only at hSw); (try obtain ⟨hSw1, hSw2⟩ := hSw); (go_simp <;> with_reducible rfl)
 simp only [Act.put, tA, tB, tC, tD, tE, tF]
 refine tk (i := 4) (v := ?_) rfl (by kernel_rfl) (fun _ _ _ h => h) (by rfl) ?_ (by assumption) ?_
 rotate_left 1
 ·intro w hSw; (try dsimp only at hSw); (try obtain ⟨hSw1, hSw2⟩ := hSw); (go_simp <;> with_reducible rfl)
 simp only [Act.put, tA, tB, tC, tD, tE, tF]
 refine tk (i := 5) (v := ?_) rfl (by kernel_rfl) (fun _ _ _ h => h) (by rfl) ?_ (by assumption) ?_
 rotate_left 1
 ·intro w hSw; (try dsimp only at hSw); (try obtain ⟨hSw1, hSw2⟩ := hSw); (go_simp <;> with_reducible rfl)
 simp only [Act.put, tA, tB, tC, tD, tE, tF]
 refine tk (i := 6) (v := ?_) rfl (by kernel_rfl) (fun _ _ _ h => h) (by rfl) ?_ (by assumption) ?_
 rotate_left 1
 ·intro w hSw; (try dsimp only at hSw); (try obtain ⟨hSw1, hSw2⟩ := hSw); (go_simp <;> with_reducible rfl)
 simp only [Act.put, tA, tB, tC, tD, tE, tF]
 refine last_one (j := 7) (by kernel_rfl) rfl (fun K hK => ?_)
 rw [if_pos (by rfl)]
 simp only [tA, tB, tC]
 go_simp
 refine HV.out.mono ?_
 rintro e w1 ⟨rfl, hf1, k1⟩
 have hs1 : w1.cell? ⟨ub, 0, none⟩ = some (.int .i64 (lits : Int)) ∧ w1.cell? ⟨ub, 2, none⟩ = some (.int .i64 (back : Int)) := ⟨keep_cellS k1 HNE.out HS.out.1, keep_cellS k1 HNE.out HS.out.2⟩
 have HS1 := hid hs1
 have c0 : w1.cell? ⟨fb, 0, none⟩ = some (.int .u64 (win : Int)) := cell_of hf1 0
 have c15 : w1.cell? ⟨fb, 15, none⟩ = some (.slice oa N oc) := cell_of hf1 15
 have c77 : w1.cell? ⟨ub, 1, none⟩ = some (.int .i64 (mt : Int)) := keep_cellS k1 HNE.out (cell_of HOB.out.1 1)
 have HC1 := (show Hid (CpS w w1 fb win dic siz told x0 x1 x2 ws (d : Int) M1 M2 fl last kind bsz bud (.slice oa N oc) (.slice oa N oc) out) from
  ⟨hf1, (HH.out.1.keep HK.out (fun _ _ h => h)).keep k1 (fun g hg e => HH.out.2.1 (by rw [hg, e])), ((CoS.refl w fb _).quiet HK.out).atf k1⟩)
 clear hs1 hf1 k1 HK
 refine hK.out _ _ (fun _ => HS1.out) ?_
 clear hK K
 refine last_one (j := 8) (by kernel_rfl) rfl (fun K hK => ?_)
 rw [if_pos (by rfl)]
 simp only [tA, tB, tC]
 go_simp
 refine hK.out _ _ (fun _ => HS1.out) ?_
 clear hK K
 refine tk (i := 9) (v := ?_) rfl (by kernel_rfl) (fun _ _ _ h => h) (by rfl) ?_ (by assumption) ?_
 rotate_left 1
 ·intro w hSw; (try dsimp only at hSw); (try obtain ⟨hSw1, hSw2⟩ := hSw); (go_simp <;> with_reducible rfl)
 simp only [Act.put, tA, tB, tC, tD, tE, tF]
 refine tk (i := 10) (v := ?_) rfl (by kernel_rfl) (fun _ _ _ h => h) (by rfl) ?_ (by assumption) ?_
 rotate_left 1
 ·intro w hSw; (try dsimp only at hSw); (try obtain ⟨hSw1, hSw2⟩ := hSw); (go_simp <;> with_reducible rfl)
 simp only [Act.put, tA, tB, tC, tD, tE, tF]
 refine last_one (j := 11) (by kernel_rfl) rfl (fun K hK => ?_)
 rw [if_pos (by rfl)]
 simp only [tA, tB, tC]
 go_simp
 refine hK.out _ _ (fun _ => HS1.out) ?_
 clear hK K
 refine last_one (j := 12) (by kernel_rfl) rfl (fun K hK => ?_)
 rw [if_pos (by rfl)]
 simp only [tA, tB, tC]
 go_simp
 refine hK.out _ _ (fun e => absurd rfl e) ?_
 clear hK K
 refine last_done (by kernel_rfl) ?_ _
 clear HS HS1 hS HV
 go_wp2_with fail
 go_loopw [8] (fun v8 wr => ∃ left : Nat, v8 = .int .i64 (left : Int) ∧ left ≤ mt ∧ Hid (∃ (k : Nat) (out1 : List Nat) (ov1 : Value), left ≤ k ∧ cpyP k out1 fr left = R ∧ out1.length + left ≤ 1073741824 ∧ fr < out1.length ∧ CpS w wr fb win dic siz told x0 x1 x2 ws (d : Int) M1 M2 fl last kind bsz bud (.slice oa N oc) ov1 out1)) (fun v8 _ => (intOf v8).toNat)
 case atStart =>
  obtain ⟨y1, y2, y3, y4, y5, y6, y7, y8, y9⟩ := HH.out
  exact ⟨mt, rfl, Nat.le_refl _, ⟨mt, out, _, Nat.le_refl _, y6.symm, by omega, by omega, HC1.out⟩⟩
 case round =>
  obtain ⟨left, rfl, hlm, HI⟩ := hrel
  clear HC1 c0 c15 c77
  by_cases hl : 0 < left
  ·have hlI : (0 : Int) < (left : Int) := by omega
   obtain ⟨k, out1, ov1, q1, q2, q3, q4, q5⟩ := HI.out
   obtain ⟨oa1, oc1, hov1, hoc1⟩ := q5.out.slice
   subst hov1
   obtain ⟨k, rfl⟩ : ∃ k', k = k' + 1 := ⟨k - 1, by omega⟩
   rw [cpyP_step k out1 fr left hl] at q2
   obtain ⟨N1, hN1⟩ : ∃ N1, N1 = out1.length := ⟨_, rfl⟩
   obtain ⟨m, hm⟩ : ∃ m, m = min left (out1.length - fr) := ⟨_, rfl⟩
   rw [← hm] at q2
   obtain ⟨sv, hsl, hsrc, hslt⟩ := q5.out.mid fr m q4 (by omega)
   have d15 : wr.cell? ⟨fb, 15, none⟩ = some (.slice oa1 out1.length oc1) := cell_of q5.fr 15
   rw [← hN1] at d15 hsl
   have hsub : (N1 : Int) - (fr : Int) = ((N1 - fr : Nat) : Int) := by omega
   obtain ⟨df, hdf⟩ : ∃ df, df = N1 - fr := ⟨_, rfl⟩
   rw [← hdf] at hsub
   have hmin := minSem_run .i64 #[3, 3] 3 (left : Int) (df : Int) (m : Int) (by omega)
   have hadd : (fr : Int) + (m : Int) = ((fr + m : Nat) : Int) := by omega
   obtain ⟨fm, hfm⟩ : ∃ fm, fm = fr + m := ⟨_, rfl⟩
   rw [← hfm] at hadd hsl
   have hfmb : (fm : Int) ≤ 2147483648 := by omega
   have hwfm : IntKind.i64.wrap (fm : Int) = (fm : Int) := by rw [IntKind.wrap_i64]; omega
   have hN1b : (N1 : Int) ≤ 1073741824 := by omega
   have hdfb : (df : Int) ≤ 1073741824 := by omega
   have hmb2 : (m : Int) ≤ 1073741824 := by omega
   have hlb : (left : Int) ≤ 1073741824 := by omega
   have hlsub : (left : Int) - (m : Int) = ((left - m : Nat) : Int) := by omega
   obtain ⟨lf, hlf⟩ : ∃ lf, lf = left - m := ⟨_, rfl⟩
   rw [← hlf] at hlsub q2
   have hlen : ((out1.drop fr).take m).length = m := by rw [List.length_take, List.length_drop]; omega
   have hnl : (out1 ++ (out1.drop fr).take m).length = N1 + m := by rw [List.length_append, hlen, hN1]
   have HW := (show Hid (∀ W, Keep noBlock wr W → ∃ ov2 w2, (Builtin.append_ #[22, 22] 22 #[.slice oa1 N1 oc1, sv]).run Tryz.prog W = .ok ov2 w2 ∧ ∃ oa2 oc2, ov2 = .slice oa2 (N1 + m) oc2 ∧ Hid (CpS w (w2.setCell ⟨fb, 15, none⟩ ov2) fb win dic siz told x0 x1 x2 ws (d : Int) M1 M2 fl last kind bsz bud (.slice oa N oc) ov2 (out1 ++ (out1.drop fr).take m)) ∧ (∃ v, w2.cell? ⟨fb, 15, none⟩ = some v) ∧ w2.cell? ⟨fb, 15, none⟩ = some (.slice oa1 N1 oc1) ∧ w2.frozen? ⟨fb, 15, none⟩ = false) from fun W kW => by
    obtain ⟨y1, y2, y3, y4, y5, y6, y7, y8, y9⟩ := HH.out
    obtain ⟨ov2, w2, r1, r2, r3, r4⟩ := (q5.out.keep kW (fun _ _ h => h)).put (hsrc.keep kW) hslt (by rw [hlen]; omega) 22
    rw [← hN1] at r1 r3 r4
    have hnb := q5.co.ne y3 y2
    rw [← hN1] at hnb
    have hf2 := (q5.fr.keep kW (fun h => h)).keep r3 (fun e => hnb e)
    rw [← hN1] at hf2
    obtain ⟨oa2, oc2, e2, -⟩ := r2.slice
    rw [hnl] at e2
    have hco := (q5.co.quiet kW).put (by rw [← hN1]; exact r3) (by rw [← hN1]; exact r4)
    refine ⟨ov2, w2, r1, oa2, oc2, e2, ⟨FrAt.out_set hf2 ov2, r2.keep ((Keep.refl (fun k => k = fb) w2).setCell (p := ⟨fb, 15, none⟩) (fun _ => rfl) _) (fun g hg e => hco.ne y3 y2 (by rw [hg, e])), hco.atf ((Keep.refl (fun k => k = fb) w2).setCell (p := ⟨fb, 15, none⟩) (fun _ => rfl) _)⟩, ⟨_, cell_of hf2 15⟩, cell_of hf2 15, frozen_of hf2 15⟩)
   have HX := (show Hid (lf ≤ k ∧ cpyP k (out1 ++ (out1.drop fr).take m) fr lf = R ∧ (out1 ++ (out1.drop fr).take m).length + lf ≤ 1073741824 ∧ fr < (out1 ++ (out1.drop fr).take m).length ∧ lf ≤ mt ∧ lf < left) from ⟨by omega, q2, by rw [hnl]; omega, by rw [hnl]; omega, by omega, by omega⟩)
   have HS8 := (show Hid (wr.drew.cell? ⟨fb, 15, none⟩ = some (.slice oa1 N1 oc1)) from d15)
   clear q1 q2 q3 q4 q5 hsrc hslt hm hN1 hdf hfm hlf hlen hnl hoc1 HI
   go_wp2_with fail
   refine region_last (fun W => W.cell? ⟨fb, 15, none⟩ = some (.slice oa1 N1 oc1)) 17 mx HS8.out (fun hS => ?_)
   refine tk (i := 0) (v := ?_) rfl (by kernel_rfl) (fun _ _ _ h => h) (by rfl) ?_ (by assumption) ?_
   rotate_left 1
   ·intro w hSw; (try dsimp only at hSw); (go_simp <;> with_reducible rfl)
   simp only [Act.put, tA, tB, tD, tE, tF]
   refine tk (i := 1) (v := ?_) rfl (by kernel_rfl) (fun _ _ _ h => h) (by rfl) ?_ (by assumption) ?_
   rotate_left 1
   ·intro w hSw; (try dsimp only at hSw); (go_simp <;> with_reducible rfl)
   simp only [Act.put, tA, tB, tC, tD, tE, tF]
   refine tk (i := 2) (v := ?_) rfl (by kernel_rfl) (fun _ _ _ h => h) (by rfl) ?_ (by assumption) ?_
   rotate_left 1
   ·intro w hSw; (try dsimp only at hSw); (go_simp <;> with_reducible rfl)
   simp only [Act.put, tA, tB, tC, tD, tE, tF]
   refine tk (i := 3) (v := ?_) rfl (by kernel_rfl) (fun _ _ _ h => h) (by rfl) ?_ (by assumption) ?_
   rotate_left 1
   ·intro w hSw; (try dsimp only at hSw); (go_simp <;> with_reducible rfl)
   simp only [Act.put, tA, tB, tC, tD, tE, tF]
   refine tk (i := 4) (v := ?_) rfl (by kernel_rfl) (fun _ _ _ h => h) (by rfl) ?_ (by assumption) ?_
   rotate_left 1
   ·intro w hSw; (try dsimp only at hSw); (go_simp <;> with_reducible rfl)
   simp only [Act.put, tA, tB, tC, tD, tE, tF]
   refine tk (i := 5) (v := ?_) rfl (by kernel_rfl) (fun _ _ _ h => h) (by rfl) ?_ (by assumption) ?_
   rotate_left 1
   ·intro w hSw; (try dsimp only at hSw); (go_simp <;> with_reducible rfl)
   simp only [Act.put, tA, tB, tC, tD, tE, tF]
   refine tk (i := 6) (v := ?_) rfl (by kernel_rfl) (fun _ _ _ h => h) (by rfl) ?_ (by assumption) ?_
   rotate_left 1
   ·intro w hSw; (try dsimp only at hSw); (go_simp <;> with_reducible rfl)
   simp only [Act.put, tA, tB, tC, tD, tE, tF]
   refine tk (i := 7) (v := ?_) rfl (by kernel_rfl) (fun _ _ _ h => h) (by rfl) ?_ (by assumption) ?_
   rotate_left 1
   ·intro w hSw; (try dsimp only at hSw); (go_simp <;> with_reducible rfl)
   simp only [Act.put, tA, tB, tC, tD, tE, tF]
   refine tk (i := 8) (v := ?_) rfl (by kernel_rfl) (fun _ _ _ h => h) (by rfl) ?_ (by assumption) ?_
   rotate_left 1
   ·intro w hSw; (try dsimp only at hSw); (go_simp <;> with_reducible rfl)
   simp only [Act.put, tA, tB, tC, tD, tE, tF]
   refine tk (i := 9) (v := ?_) rfl (by kernel_rfl) (fun _ _ _ h => h) (by rfl) ?_ (by assumption) ?_
   rotate_left 1
   ·intro w hSw; (try dsimp only at hSw); (go_simp <;> with_reducible rfl)
   simp only [Act.put, tA, tB, tC, tD, tE, tF]
   refine tk (i := 10) (v := ?_) rfl (by kernel_rfl) (fun _ _ _ h => h) (by rfl) ?_ (by assumption) ?_
   rotate_left 1
   ·intro w hSw; (try dsimp only at hSw); (go_simp <;> with_reducible rfl)
   simp only [Act.put, tA, tB, tC, tD, tE, tF]
   refine tk (i := 11) (v := ?_) rfl (by kernel_rfl) (fun _ _ _ h => h) (by rfl) ?_ (by assumption) ?_
   rotate_left 1
   ·intro w hSw; (try dsimp only at hSw); (go_simp <;> with_reducible rfl)
   simp only [Act.put, tA, tB, tC, tD, tE, tF]
   refine tk (i := 12) (v := ?_) rfl (by kernel_rfl) (fun _ _ _ h => h) (by rfl) ?_ (by assumption) ?_
   rotate_left 1
   ·intro w hSw; (try dsimp only at hSw); (go_simp <;> with_reducible rfl)
   simp only [Act.put, tA, tB, tC, tD, tE, tF]
   refine tk (i := 13) (v := ?_) rfl (by kernel_rfl) (fun _ _ _ h => h) (by rfl) ?_ (by assumption) ?_
   rotate_left 1
   ·intro w hSw; (try dsimp only at hSw); (go_simp <;> with_reducible rfl)
   simp only [Act.put, tA, tB, tC, tD, tE, tF]
   obtain ⟨ov2, w2, hr2, oa2, oc2, rfl, HC2, -, e15, f15⟩ := HW.out wr.drew (Keep.refl noBlock wr).drew
   have HE15 := hid e15
   refine last_one (j := 14) (by kernel_rfl) rfl (fun K hK => ?_)
   rw [if_pos (by rfl)]
   refine wp_append_run _ _ _ 22 rfl _ _ _ _ rfl rfl hr2 ?_
   refine hK.out _ _ (fun _ => HE15.out) ?_
   simp only [Act.put, tA, tB, tC, tD, tE, tF]
   clear hK K
   refine last_one (j := 15) (by kernel_rfl) rfl (fun K hK => ?_)
   rw [if_pos (by rfl)]
   simp only [tA, tB, tC]
   go_simp
   refine hK.out _ _ (fun _ => HE15.out) ?_
   clear hK K
   refine last_one (j := 16) (by kernel_rfl) rfl (fun K hK => ?_)
   rw [if_pos (by rfl)]
   simp only [tA, tB, tC]
   go_simp
   refine hK.out _ _ (fun _ => HE15.out) ?_
   clear hK K
   refine last_one (j := 17) (by kernel_rfl) rfl (fun K hK => ?_)
   rw [if_pos (by rfl)]
   simp only [tA, tB, tC]
   go_simp
   refine hK.out _ _ (fun e => absurd rfl e) ?_
   clear hK K
   refine last_done (by kernel_rfl) ?_ _
   go_wp2_with fail
   exact ⟨⟨lf, rfl, HX.out.2.2.2.2.1, ⟨k, _, _, HX.out.1, HX.out.2.1, HX.out.2.2.1, HX.out.2.2.2.1, HC2.out⟩⟩, by have := HX.out.2.2.2.2.2; simp [intOf]; omega⟩
  ·obtain rfl : left = 0 := by omega
   go_wp2_with fail
   go_ret
   obtain ⟨k, out1, ov1, q1, q2, q3, q4, q5⟩ := HI.out
   rw [cpyP_zero] at q2
   rw [← q2]
   exact ⟨rfl, ov1, q5.fr, q5.out, q5.co⟩
end
end
end Go.Proofs.YtnjilcokkhodmaaGreatDoor

namespace Go.Proofs.YtnjilcokkhodmaaGreatDoor.Xs
open Go.RowKit Go.Shelf
set_option linter.unusedVariables false

/-- Every block of w that is none of S lies in w' as it lay. -/
structure Keep (S : Nat → Prop) (w w' : World) : Prop where
 os : w'.os = w.os
 tape : w'.tape = w.tape
 output : w'.output = w.output
 size : w.heap.size ≤ w'.heap.size
 block : ∀ k, k < w.heap.size → ¬ S k → w'.heap[k]? = w.heap[k]?

def noBlock (_ : Nat) : Prop := False

theorem Keep.refl (S : Nat → Prop) (w : World) : Keep S w w := ⟨rfl, rfl, rfl, Nat.le_refl _, fun _ _ _ => rfl⟩
theorem Keep.mono {S T : Nat → Prop} {w w' : World} (h : Keep S w w') (hst : ∀ k, k < w.heap.size → S k → T k) : Keep T w w' :=
 ⟨h.os, h.tape, h.output, h.size, fun k hk ht => h.block k hk (fun hs => ht (hst k hk hs))⟩
theorem Keep.trans {S T : Nat → Prop} {a b c : World} (h : Keep S a b) (k : Keep T b c) (hst : ∀ i, i < a.heap.size → T i → S i) : Keep S a c :=
 ⟨k.os.trans h.os, k.tape.trans h.tape, k.output.trans h.output, Nat.le_trans h.size k.size, fun i hi hs => (k.block i (Nat.lt_of_lt_of_le hi h.size) (fun ht => hs (hst i hi ht))).trans (h.block i hi hs)⟩
theorem Keep.trans' {S : Nat → Prop} {a b c : World} (h : Keep S a b) (k : Keep S b c) : Keep S a c := h.trans k (fun _ _ h => h)
theorem Keep.drew {S : Nat → Prop} {a w : World} (h : Keep S a w) : Keep S a w.drew := ⟨h.os, h.tape, h.output, h.size, h.block⟩
theorem Keep.alloc {S : Nat → Prop} {a w : World} (h : Keep S a w) (o : Obj) : Keep S a (w.alloc o) :=
 h.trans (T := noBlock) ⟨rfl, rfl, rfl, by simp, fun k hk _ => Below.heap_alloc _ _ _ hk⟩ (fun _ _ h => h.elim)
theorem Keep.setCell {S : Nat → Prop} {a w : World} (h : Keep S a w) {p : Addr} (hp : p.block < a.heap.size → S p.block) (u : Value) : Keep S a (w.setCell p u) :=
 h.trans (T := fun k => k = p.block) ⟨rfl, rfl, rfl, by simp [World.setCell], fun k _ hk => Below.heap_setCell _ _ _ _ hk⟩ (fun i hi e => by subst e; exact hp hi)
theorem Keep.obj {S : Nat → Prop} {w w' : World} (h : Keep S w w') {b : Nat} {o : Obj} (hb : w.heap[b]? = some o) (hS : ¬ S b) : w'.heap[b]? = some o :=
 (h.block b (Array.getElem?_eq_some_iff.1 hb).1 hS).trans hb
theorem obj_lt {w : World} {b : Nat} {o : Obj} (h : w.heap[b]? = some o) : b < w.heap.size := (Array.getElem?_eq_some_iff.1 h).1
theorem cell_of {w : World} {b : Nat} {cs : Array Value} {t : TypeId} (h : w.heap[b]? = some (.cells cs t (0, 0))) (i : Nat) : w.cell? ⟨b, i, none⟩ = cs[i]? := by simp [World.cell?, h]
theorem frozen_of {w : World} {b : Nat} {cs : Array Value} {t : TypeId} (h : w.heap[b]? = some (.cells cs t (0, 0))) (i : Nat) : w.frozen? ⟨b, i, none⟩ = false := by simp [World.frozen?, h]
theorem set_obj {w : World} {b : Nat} {cs : Array Value} {t : TypeId} (h : w.heap[b]? = some (.cells cs t (0, 0))) (i : Nat) (v : Value) : (w.setCell ⟨b, i, none⟩ v).heap[b]? = some (.cells (cs.setIfInBounds i v) t (0, 0)) := by
 obtain ⟨hlt, hk⟩ := Array.getElem?_eq_some_iff.1 h
 show (w.heap.modify b _)[b]? = _
 rw [Array.getElem?_eq_getElem (by rw [Array.size_modify]; exact hlt), Array.getElem_modify_self, hk]
 rfl

def u8s (bs : List Nat) : List Value := bs.map (fun b => Value.int .u8 ((b : Nat) : Int))
theorem u8s_length (bs : List Nat) : (u8s bs).length = bs.length := by simp [u8s]
theorem u8s_one (bs : List Nat) : ∀ u ∈ u8s bs, u.oneCell' = true := by
 intro u hu
 simp only [u8s, List.mem_map] at hu
 obtain ⟨b, _, rfl⟩ := hu
 rfl
theorem u8s_at (bs : List Nat) (j : Nat) (hj : j < bs.length) : (u8s bs)[j]? = some (.int .u8 ((bs[j]?.getD 0 : Nat) : Int)) := by
 simp [u8s, hj]

end Go.Proofs.YtnjilcokkhodmaaGreatDoor.Xs

namespace Go.Proofs.YtnjilcokkhodmaaGreatDoor.Xs
open Go.RowKit Go.Shelf
set_option linter.unusedVariables false

def step (poly x : Nat) : Nat := if x % 2 = 1 then x / 2 ^^^ poly else x / 2
def steps (poly : Nat) : Nat → Nat → Nat
 | 0, x => x
 | k + 1, x => step poly (steps poly k x)
def byteIn (poly x v : Nat) : Nat := steps poly 8 (x ^^^ v)
def bytesIn (poly : Nat) (x : Nat) (bs : List Nat) : Nat := bs.foldl (byteIn poly) x

theorem step_lt {poly x n : Nat} (hp : poly < 2 ^ n) (hx : x < 2 ^ n) : step poly x < 2 ^ n := by
 unfold step
 split
 ·exact Nat.xor_lt_two_pow (by omega) hp
 ·omega
theorem steps_lt {poly x n : Nat} (hp : poly < 2 ^ n) (hx : x < 2 ^ n) (k : Nat) : steps poly k x < 2 ^ n := by
 induction k with
 | zero => exact hx
 | succ k ih => exact step_lt hp ih
theorem byteIn_lt {poly x v n : Nat} (hp : poly < 2 ^ n) (hx : x < 2 ^ n) (hv : v < 2 ^ n) : byteIn poly x v < 2 ^ n := steps_lt hp (Nat.xor_lt_two_pow hx hv) 8
theorem bytesIn_append (poly x : Nat) (bs cs : List Nat) : bytesIn poly x (bs ++ cs) = bytesIn poly (bytesIn poly x bs) cs := by simp [bytesIn]
theorem bytesIn_lt {poly n : Nat} (hp : poly < 2 ^ n) (bs : List Nat) (hb : ∀ j : Nat, bs[j]?.getD 0 < 2 ^ n) (x : Nat) (hx : x < 2 ^ n) : bytesIn poly x bs < 2 ^ n := by
 induction bs generalizing x with
 | nil => exact hx
 | cons b bs ih => exact ih (fun j => by simpa using hb (j + 1)) _ (byteIn_lt hp hx (by simpa using hb 0))

theorem half_xor (a b : Nat) : (a ^^^ b) / 2 = a / 2 ^^^ b / 2 := by
 have := Nat.shiftRight_xor_distrib (a := a) (b := b) (i := 1)
 simpa [Nat.shiftRight_eq_div_pow] using this
theorem mod_xor (a b : Nat) : (a ^^^ b) % 2 = (a % 2 + b % 2) % 2 := by
 have h := Nat.xor_mod_two_pow (a := a) (b := b) (n := 1)
 rw [Nat.pow_one] at h
 rw [h]
 rcases Nat.mod_two_eq_zero_or_one a with ha | ha <;> rcases Nat.mod_two_eq_zero_or_one b with hb | hb <;> rw [ha, hb] <;> decide

theorem step_xor (poly a b : Nat) : step poly (a ^^^ b) = step poly a ^^^ step poly b := by
 have hm := mod_xor a b
 unfold step
 rw [half_xor]
 rcases Nat.mod_two_eq_zero_or_one a with ha | ha <;> rcases Nat.mod_two_eq_zero_or_one b with hb | hb <;> rw [ha, hb] at hm <;> simp [ha, hb, hm, Nat.xor_assoc]
 ·rw [Nat.xor_comm (b / 2) poly]
 ·rw [← Nat.xor_assoc poly, Nat.xor_comm poly, Nat.xor_assoc, Nat.xor_self, Nat.xor_zero]
theorem steps_xor (poly a b k : Nat) : steps poly k (a ^^^ b) = steps poly k a ^^^ steps poly k b := by
 induction k with
 | zero => rfl
 | succ k ih => simp only [steps, ih, step_xor]
theorem steps_high (poly h k : Nat) : steps poly k (h * 2 ^ k) = h := by
  induction k generalizing h with
  | zero => simp [steps]
  | succ k ih =>
    have e : h * 2 ^ (k + 1) = (2 * h) * 2 ^ k := by rw [Nat.pow_succ, Nat.mul_comm 2 h, Nat.mul_assoc, Nat.mul_comm 2]
    simp only [steps]
    rw [e, ih]
    unfold step
    rw [if_neg (by omega)]
    omega
theorem split256 (x : Nat) : x = x % 256 ^^^ (x / 256) * 2 ^ 8 := by
 apply Nat.eq_of_testBit_eq
 intro j
 have e : x % 256 = x % 2 ^ 8 := rfl
 have e2 : x / 256 = x / 2 ^ 8 := rfl
 rw [Nat.testBit_xor, e, e2, Nat.testBit_mod_two_pow, Nat.testBit_mul_two_pow, Nat.testBit_div_two_pow]
 by_cases h : j < 8
 ·have h2 : ¬ 8 ≤ j := by omega
  simp [h, h2]
 ·have h2 : 8 ≤ j := by omega
  simp [h, h2]
theorem byteIn_table (poly x v : Nat) : byteIn poly x v = steps poly 8 (x % 256 ^^^ v) ^^^ x / 256 := by
 unfold byteIn
 conv => lhs; rw [split256 x]
 rw [Nat.xor_assoc, Nat.xor_comm (x / 256 * 2 ^ 8) v, ← Nat.xor_assoc, steps_xor, steps_high]

end Go.Proofs.YtnjilcokkhodmaaGreatDoor.Xs

namespace Go.Proofs.YtnjilcokkhodmaaGreatDoor.Xs
open Go.RowKit Go.Shelf
set_option linter.unusedVariables false

def turn (x n : Nat) : Nat := x * 2 ^ n % 2 ^ 64 ||| x / 2 ^ (64 - n)
def p1 : Nat := 11400714785074694791
def p2 : Nat := 14029467366897019727
def p3 : Nat := 1609587929392839161
def p4 : Nat := 9650029242287828579
def p5 : Nat := 2870177450012600261
def round (a x : Nat) : Nat := turn ((a + x * p2 % 2 ^ 64) % 2 ^ 64) 31 * p1 % 2 ^ 64
def num (bs : List Nat) (p : Nat) : Nat → Nat
 | 0 => 0
 | n + 1 => num bs p n ||| bs[p + n]?.getD 0 * 2 ^ (8 * n) % 2 ^ 64
def begin4 : Nat → Nat
 | 0 => (p1 + p2) % 2 ^ 64
 | 1 => p2
 | 2 => 0
 | _ => 2 ^ 64 - p1
def lane (bs : List Nat) : Nat → Nat → Nat
 | 0, i => begin4 i
 | k + 1, i => round (lane bs k i) (num bs (32 * k + 8 * i) 8)
def joined (f : Nat → Nat) : Nat := (((turn (f 0) 1 + turn (f 1) 7) % 2 ^ 64 + turn (f 2) 12) % 2 ^ 64 + turn (f 3) 18) % 2 ^ 64
def mixIn (h a : Nat) : Nat := ((h ^^^ round 0 a) * p1 % 2 ^ 64 + p4) % 2 ^ 64
def mixed (f : Nat → Nat) : Nat → Nat
 | 0 => joined f
 | i + 1 => mixIn (mixed f i) (f i)
def beginOf (bs : List Nat) : Nat := if bs.length < 32 then p5 else mixed (lane bs (bs.length / 32)) 4
def eightIn (h x : Nat) : Nat := (turn (h ^^^ round 0 x) 27 * p1 % 2 ^ 64 + p4) % 2 ^ 64
def rest8 (h : Nat) (bs : List Nat) (q : Nat) : Nat → Nat
 | 0 => h
 | k + 1 => eightIn (rest8 h bs q k) (num bs (q + 8 * k) 8)
def fourIn (h x : Nat) : Nat := (turn (h ^^^ x * p1 % 2 ^ 64) 23 * p2 % 2 ^ 64 + p3) % 2 ^ 64
def oneIn (h v : Nat) : Nat := turn (h ^^^ v * p5 % 2 ^ 64) 11 * p1 % 2 ^ 64
def rest1 (h : Nat) (bs : List Nat) (q : Nat) : Nat → Nat
 | 0 => h
 | k + 1 => oneIn (rest1 h bs q k) (bs[q + k]?.getD 0)
def restOf (h : Nat) (bs : List Nat) (q m : Nat) : Nat :=
 if m % 8 < 4 then rest1 (rest8 h bs q (m / 8)) bs (q + 8 * (m / 8)) (m % 8)
 else rest1 (fourIn (rest8 h bs q (m / 8)) (num bs (q + 8 * (m / 8)) 4)) bs (q + 8 * (m / 8) + 4) (m % 8 - 4)
def final (h0 : Nat) : Nat :=
 let h1 := (h0 ^^^ h0 / 2 ^ 33) * p2 % 2 ^ 64
 let h2 := (h1 ^^^ h1 / 2 ^ 29) * p3 % 2 ^ 64
 h2 ^^^ h2 / 2 ^ 32
def xxh (bs : List Nat) : Nat := final (restOf ((beginOf bs + bs.length) % 2 ^ 64) bs (32 * (bs.length / 32)) (bs.length % 32))

theorem round_lt (a x : Nat) : round a x < 2 ^ 64 := Nat.mod_lt _ (by decide)
theorem num_lt (bs : List Nat) (p n : Nat) : num bs p n < 2 ^ 64 := by
 induction n with
 | zero => simp [num]
 | succ n ih => exact Nat.or_lt_two_pow ih (Nat.mod_lt _ (by decide))
theorem begin4_lt (i : Nat) : begin4 i < 2 ^ 64 := by unfold begin4; split <;> decide
theorem lane_lt (bs : List Nat) (k i : Nat) : lane bs k i < 2 ^ 64 := by
 cases k with
 | zero => exact begin4_lt i
 | succ k => exact round_lt _ _
theorem mixed_lt (f : Nat → Nat) (i : Nat) : mixed f i < 2 ^ 64 := by
 cases i with
 | zero => exact Nat.mod_lt _ (by decide)
 | succ i => exact Nat.mod_lt _ (by decide)
theorem beginOf_lt (bs : List Nat) : beginOf bs < 2 ^ 64 := by
 unfold beginOf
 split
 ·decide
 ·exact mixed_lt _ _
theorem rest8_lt (h : Nat) (hh : h < 2 ^ 64) (bs : List Nat) (q k : Nat) : rest8 h bs q k < 2 ^ 64 := by
 cases k with
 | zero => exact hh
 | succ k => exact Nat.mod_lt _ (by decide)
theorem fourIn_lt (h x : Nat) : fourIn h x < 2 ^ 64 := Nat.mod_lt _ (by decide)
theorem rest1_lt (h : Nat) (hh : h < 2 ^ 64) (bs : List Nat) (q k : Nat) : rest1 h bs q k < 2 ^ 64 := by
 cases k with
 | zero => exact hh
 | succ k => exact Nat.mod_lt _ (by decide)
theorem restOf_lt (h : Nat) (hh : h < 2 ^ 64) (bs : List Nat) (q m : Nat) : restOf h bs q m < 2 ^ 64 := by
 unfold restOf
 split
 ·exact rest1_lt _ (rest8_lt h hh bs q _) _ _ _
 ·exact rest1_lt _ (fourIn_lt _ _) _ _ _

theorem num_of (bs cs : List Nat) (p q n : Nat) (h : ∀ j, j < n → bs[p + j]?.getD 0 = cs[q + j]?.getD 0) : num bs p n = num cs q n := by
 induction n with
 | zero => rfl
 | succ n ih => rw [num, num, ih (fun j hj => h j (by omega)), h n (by omega)]
theorem lane_of (bs cs : List Nat) (k i : Nat) (hi : i < 4) (h : ∀ j, j < 32 * k → bs[j]?.getD 0 = cs[j]?.getD 0) : lane bs k i = lane cs k i := by
 induction k with
 | zero => rfl
 | succ k ih => rw [lane, lane, ih (fun j hj => h j (by omega)), num_of bs cs _ _ 8 (fun j hj => h _ (by omega))]

end Go.Proofs.YtnjilcokkhodmaaGreatDoor.Xs
