/-
  What came in: a slice of steps; the variables that the row lists, as they lie.
-/
import Derived.WalkKit
import Derived.ProofKit
import Derived.OpenShut
import Derived.ChangeOld
import Derived.ChangeSame
import Derived.ChangeArms
import Derived.Below
import Derived.SizedLaws
import Derived.Deep.Slices
import Derived.Deep.Strs
import Derived.Lib.SmallJoins
import Derived.LaidMore
import Derived.Stop.Joined
import Derived.ShutString
import Derived.Test.YtgaepmmpedaaiaaGreatDoorRows
import Derived.Test.YtgaepmmpedaaiaaGreatDoorBackQ19
namespace Go.Proofs.YtgaepmmpedaaiaaGreatDoor
open Go.ChangeShapes Go.WideShapes Go.ChangeAt Go.RowKit
set_option linter.unusedVariables false

theorem own : ownKnob Tryz.prog.godebug = none := by kernel_rfl
theorem laidOut : laidOutB Tryz.prog = true := by kernel_rfl
theorem cells42 : Tryz.prog.cellsOf 42 = 3 := by kernel_rfl
theorem cells3 : Tryz.prog.cellsOf 3 = 1 := by kernel_rfl
theorem bytes42 : Tryz.prog.bytesOf 42 = 24 := by kernel_rfl
theorem gExt : Tryz.prog.globalNamed "baler/sequences.extraOrder" = some 0 := by kernel_rfl
theorem gNxt : Tryz.prog.globalNamed "baler/sequences.nextOrder" = some 1 := by kernel_rfl
theorem tExt : (Tryz.prog.globals[0]?).map (·.type) = some 80 := by kernel_rfl
theorem tNxt : (Tryz.prog.globals[1]?).map (·.type) = some 80 := by kernel_rfl
/-- The door's own heap meets the condition. -/
theorem door_met (os : Os) (args : Array Value) : laidMetH Tryz.prog [("baler/sequences.extraOrder", Rows.laid_baler_sequences_extraOrder), ("baler/sequences.nextOrder", Rows.laid_baler_sequences_nextOrder)] ((World.doorLaid Tryz.prog 400 os).forCall (fun _ _ => 0) ⟨#[], args, []⟩).memory :=
  laidMetH_of_parts3 (fuel := 8) (laidMet_of_run' 8 (by kernel_rfl) (by kernel_rfl)) (by kernel_rfl) (by kernel_rfl)
/-- Three numbers among cells. -/
theorem three_of {H : Type} {enc : TypeId × Value → H} {W : World} {fuel : Nat} {cs : List Value} {x : DataW H × List MemPlace} {hd : Bool} (h : DataW.trod enc Tryz.prog W 0 (fun _ => true) hd fuel 80 cs = some x) (y0 y1 y2 : Int) (hx : x.1 = .agg [.lit (.int .i64 y0), .lit (.int .i64 y1), .lit (.int .i64 y2)]) :
    cs[0]? = some (.int .i64 y0) ∧ cs[1]? = some (.int .i64 y1) ∧ cs[2]? = some (.int .i64 y2) := by
  obtain ⟨xs, m1, -, hx1, hlen, hn, hel⟩ := DataW.trod_array Tryz.underlying80 h
  have hall : ∀ i, i < 3 → ∃ k : Int, cs[i]? = some (.int .i64 k) ∧ (xs[i]?).map (·.1) = some (.lit (.int .i64 k)) := fun i hi => by
    have h0 := hel i hi
    obtain ⟨x, hx⟩ : ∃ x, xs[i]? = some x := ⟨_, List.getElem?_eq_getElem (by omega)⟩
    rw [hx] at h0
    obtain ⟨k, e1, e2, _⟩ := DataW.trod_int Tryz.underlying3 h0
    refine ⟨k, ?_, ?_⟩
    · rw [cells3] at e1
      have e3 := congrArg (fun l : List Value => l[0]?) e1
      simp only [List.getElem?_take, List.getElem?_drop] at e3
      simpa using e3
    · rw [hx]; simp [e2]
  rw [hx1] at hx
  simp only [DataW.agg.injEq] at hx
  obtain ⟨k0, a0, b0⟩ := hall 0 (by omega)
  obtain ⟨k1, a1, b1⟩ := hall 1 (by omega)
  obtain ⟨k2, a2, b2⟩ := hall 2 (by omega)
  rw [← List.getElem?_map, hx] at b0 b1 b2
  simp at b0 b1 b2
  subst b0 b1 b2
  exact ⟨a0, a1, a2⟩
/-- What the condition gives: the two orders, as they lie. -/
theorem of_laid {W : World} (h : laidMetH Tryz.prog [("baler/sequences.extraOrder", Rows.laid_baler_sequences_extraOrder), ("baler/sequences.nextOrder", Rows.laid_baler_sequences_nextOrder)] W) : Ords W := by
  rw [MakeChecks.laidMetH_plain _ _ _ (by kernel_rfl)] at h
  obtain ⟨ps, ⟨g1, t1, cs1, f1, p1, q1, hg1, ht1, hv1, hd1, hr, -⟩, -, -⟩ := h
  obtain ⟨g2, t2, cs2, f2, p2, q2, hg2, ht2, hv2, hd2, -⟩ := hr
  obtain rfl := Option.some.inj (gExt.symm.trans hg1)
  obtain rfl := Option.some.inj (tExt.symm.trans ht1)
  obtain rfl := Option.some.inj (gNxt.symm.trans hg2)
  obtain rfl := Option.some.inj (tNxt.symm.trans ht2)
  obtain ⟨a0, a1, a2⟩ := three_of hd1 1 2 0 rfl
  obtain ⟨b0, b1, b2⟩ := three_of hd2 0 2 1 rfl
  rw [Array.getElem?_toList] at a0 a1 a2 b0 b1 b2
  refine ⟨fun i hi => ?_, fun i hi => ?_⟩
  · have := World.var?_cell hg1 hv1 i
    rw [this]
    rcases (show i = 0 ∨ i = 1 ∨ i = 2 by omega) with rfl | rfl | rfl
    · exact a0
    · exact a1
    · exact a2
  · have := World.var?_cell hg2 hv2 i
    rw [this]
    rcases (show i = 0 ∨ i = 1 ∨ i = 2 by omega) with rfl | rfl | rfl
    · exact b0
    · exact b1
    · exact b2
set_option maxRecDepth 100000 in
theorem step_open {H : Type} {enc : TypeId × Value → H} {W : World} {fuel : Nat} {cs : List Value} {x : DataW H × List MemPlace} (h : DataW.trod enc Tryz.prog W 0 (fun _ => true) true fuel 42 cs = some x) :
    ∃ d : Stp, cs = [.int .i64 d.1, .int .i64 d.2.1, .int .i64 d.2.2] := by
  obtain ⟨y0, y1, y2, n, _, hl, h0, h1, h2⟩ := Go.Deep.trod_struct3 Tryz.underlying42 h
  rw [cells42] at hl
  match cs, hl with
  | [c0, c1, c2], _ =>
    simp only [cells3, List.drop_succ_cons, List.drop_zero, List.take_succ_cons, List.take_zero] at h0 h1 h2
    obtain ⟨q0, e0, _, w0⟩ := DataW.trod_int Tryz.underlying3 h0
    obtain ⟨q1, e1, _, w1⟩ := DataW.trod_int Tryz.underlying3 h1
    obtain ⟨q2, e2, _, w2⟩ := DataW.trod_int Tryz.underlying3 h2
    simp only [List.cons.injEq, and_true] at e0 e1 e2
    subst e0 e1 e2
    exact ⟨(q0, q1, q2), rfl⟩
theorem add_at (b off j i : Nat) : ((⟨b, off, none⟩ : Addr).add j).add i = ⟨b, off + j + i, none⟩ := by
  rw [Go.Deep.add_add]
  unfold Addr.add
  split <;> simp_all [Nat.add_assoc]
/-- A slice of steps that came in. -/
theorem steps_open {H : Type} {enc : TypeId × Value → H} {W : World} {a : Option Addr} {len cap fuel : Nat} {x : DataW H × List MemPlace} (h : DataW.trod enc Tryz.prog W 0 (fun _ => true) true fuel 23 [.slice a len cap] = some x) (hw : ∀ n ∈ x.1.weights Tryz.prog 23, n ≤ reachBytes) :
    ∃ (b off : Nat) (l : List Stp), l.length = len ∧ Seqs W a cap b off l ∧ len ≤ 5864062014805 ∧ len ≤ cap := by
  rcases Go.Deep.open_slice Tryz.underlying23 h with ⟨e, _⟩ | ⟨ad, l, c, m, n, D, Pl, e, _, hl, hm, hmm, hx, hel⟩
  · simp only [List.cons.injEq, Value.slice.injEq, and_true] at e
    obtain ⟨rfl, rfl, rfl⟩ := e
    exact ⟨0, 0, [], rfl, ⟨.inr rfl, fun j hj => by simp at hj⟩, by omega, by omega⟩
  · simp only [List.cons.injEq, Value.slice.injEq, and_true] at e
    obtain ⟨rfl, rfl, rfl⟩ := e
    simp only [if_true] at hmm
    subst hmm
    have hx1 : x.1 = .slice ((List.range len).map D) ((List.range (m - len)).map fun j => D (len + j)) := by rw [hx]
    have hw' := hw
    rw [hx1] at hw'
    simp only [DataW.weights, Tryz.underlying23] at hw'
    have hlen := hw' _ List.mem_cons_self
    rw [bytes42] at hlen
    simp only [List.length_map, List.length_range, reachBytes] at hlen
    have hel2 : ∀ i, i < len → ∃ d : Stp, W.cell? (ad.add (i * 3)) = some (.int .i64 d.1) ∧ W.cell? ((ad.add (i * 3)).add 1) = some (.int .i64 d.2.1) ∧ W.cell? ((ad.add (i * 3)).add 2) = some (.int .i64 d.2.2) := by
      intro i hi
      obtain ⟨cs, hc, ht⟩ := hel i (by omega)
      obtain ⟨d, rfl⟩ := step_open ht
      rw [cells42] at hc
      obtain ⟨_, _, hcc⟩ := World.cells?_some hc
      have q0 := hcc 0 (by omega)
      have q1 := hcc 1 (by omega)
      have q2 := hcc 2 (by omega)
      have e0 : (ad.add (i * 3)).add 0 = ad.add (i * 3) := by rw [Go.Deep.add_add]; rfl
      rw [e0] at q0
      exact ⟨d, q0, q1, q2⟩
    obtain ⟨f, hf⟩ := Go.Deep.choose_lt hel2
    by_cases h0 : len = 0
    · subst h0
      exact ⟨0, 0, [], rfl, ⟨.inr rfl, fun j hj => by simp at hj⟩, by omega, by omega⟩
    · obtain ⟨b, off, spot⟩ := ad
      have c0 := (hf 0 (by omega)).1
      have hspot : spot = none := by simpa [Addr.add] using World.cell?_spot c0
      subst hspot
      have hat : ∀ j, j < len → ((List.range len).map f)[j]?.getD (0, 0, 0) = f j := fun j hj => by
        rw [List.getElem?_map, List.getElem?_range hj]; rfl
      have hln : ((List.range len).map f).length = len := by simp
      refine ⟨b, off, (List.range len).map f, hln, ⟨.inl rfl, fun j hj => ?_⟩, by omega, by omega⟩
      rw [hln] at hj
      rw [hat j hj]
      obtain ⟨p0, p1, p2⟩ := hf j hj
      have e0 : (⟨b, off, none⟩ : Addr).add (j * 3) = ⟨b, off + j * 3, none⟩ := by have := add_at b off (j * 3) 0; rw [Go.Deep.add_add] at this; exact this
      rw [add_at] at p1 p2
      rw [e0] at p0
      exact ⟨p0, p1, p2⟩
end Go.Proofs.YtgaepmmpedaaiaaGreatDoor
