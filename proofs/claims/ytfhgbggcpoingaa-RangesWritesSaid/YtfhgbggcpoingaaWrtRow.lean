/-
  RangesWrites answers true for every input, and its arguments read afterwards as they read before: an encoder tells the bytes that the document's encoder tells, with the same chances, and tells them again when it is closed. No condition.
-/
import Derived.Test.YtfhgbggcpoingaaIn
import Derived.Test.YtfhgbggcpoingaaWrtLaw
namespace Go.Proofs.Ytfhgbggcpoingaa
namespace RangesWritesPart
open Go.ChangeShapes Go.WideShapes Go.ChangeAt Go.RowKit
set_option linter.unusedVariables false

set_option maxRecDepth 100000 in
theorem lifted (os : Os) (started : os.Started) (H : Type) (enc : TypeId × Value → H) :
    ReturnsInHanded {} Try.checked os 4 .any (Rows.rangesWritesSpec.pre6 enc Try.prog Try.f4 Rows.rangesWritesRow.domain false) (Rows.rangesWritesSpec.post enc Try.prog Try.f4 false true false false) := by
  refine returnsInHanded_of_change_sized (C := Try.checked) own started (by kernel_rfl) Try.func4
    (ChangeSpec.witness6 (enc := enc) (C := Try.checked) false ⟨#[], #[.slice none 0 0, .slice none 0 0], []⟩ 8 (by kernel_rfl) (by kernel_rfl) (by kernel_rfl) (by kernel_rfl)) ?_
  intro W base args ds gs before hval0 hW hcnd hsz0 _
  have hsz : (DataW.weightsEach Try.prog (Try.f4.params.toList ++ Rows.rangesWritesSpec.plain.varTypes Try.prog) (ds ++ gs)).all (· ≤ reachBytes) = true := hsz0
  have hval : ∀ (j : Nat) t v, Try.f4.params[j]? = some t → args[j]? = some v → Value.okWide Try.prog W .any base t v := hval0
  have hW' := hW
  obtain ⟨p, q, hA0, hV, rfl, hfz, hnd⟩ := hW
  have hA : DataW.TrodAll enc Try.prog W 0 (fun _ => true) true Try.f4.params.toList args.toList ds p := hA0
  rw [Try.params4] at hA hval hsz
  obtain ⟨v0, vs0, d0, ds0, p0, q0, hargs, rfl, rfl, h0, r0⟩ := trodAll_cons hA
  obtain ⟨v1, vs1, d1, ds1, p1, q1, rfl, rfl, rfl, h1, r1⟩ := trodAll_cons r0
  obtain ⟨rfl, rfl, rfl⟩ := trodAll_nil r1
  obtain rfl : args = #[v0, v1] := by cases args; simp_all
  obtain ⟨rfl, rfl⟩ := trodVars_none hV
  obtain ⟨a0, len0, cap0, rfl⟩ := okWide_slice Try.underlying23 (hval 0 23 v0 rfl rfl)
  have k0 := h0
  have lt0 : ∀ x ∈ p0, x.block < W.heap.size := by obtain ⟨m, hm⟩ := k0; exact DataW.trod_lt m _ _ _ hm
  have hwt0 : ∀ n ∈ d0.weights Try.prog 23, n ≤ reachBytes := fun n hn => by
    have hmem := DataW.weights_mem_each (P := Try.prog) (ts := [23, 24] ++ Rows.rangesWritesSpec.plain.varTypes Try.prog) (ds := [d0, d1] ++ []) (j := 0) (t := 23) (d := d0) rfl rfl n hn
    exact of_decide_eq_true (List.all_eq_true.1 hsz n hmem)
  obtain ⟨fuel0, hf0⟩ := h0
  obtain ⟨b0, off0, xs0, hxl0, hrow0⟩ := u16s_open (by simpa [Value.cells] using hf0) hwt0
  subst hxl0
  obtain ⟨a1, len1, cap1, rfl⟩ := okWide_slice Try.underlying24 (hval 1 24 v1 rfl rfl)
  have k1 := h1
  have lt1 : ∀ x ∈ p1, x.block < W.heap.size := by obtain ⟨m, hm⟩ := k1; exact DataW.trod_lt m _ _ _ hm
  have hwt1 : ∀ n ∈ d1.weights Try.prog 24, n ≤ reachBytes := fun n hn => by
    have hmem := DataW.weights_mem_each (P := Try.prog) (ts := [23, 24] ++ Rows.rangesWritesSpec.plain.varTypes Try.prog) (ds := [d0, d1] ++ []) (j := 1) (t := 24) (d := d1) rfl rfl n hn
    exact of_decide_eq_true (List.all_eq_true.1 hsz n hmem)
  obtain ⟨fuel1, hf1⟩ := h1
  obtain ⟨b1, off1, xs1, hxl1, hrow1⟩ := acts_open (by simpa [Value.cells] using hf1)
  subst hxl1
  clear hA0 hval0
  have key := writes_any a0 cap0 b0 off0 xs0 a1 cap1 b1 off1 xs1 W hrow0 hrow1
  refine key.mono fun e W' ⟨he, hk⟩ => ?_
  subst he
  have bel := hk.below (Nat.le_refl _) (fun _ _ h => h)
  exact ⟨_, rfl, _, _, _, [], _, [], hW', trodAll_mk1 (shut_bool Try.underlying4 _), (trodAll_cons_mk (Below.trod laidOut (by kernel_rfl) (of_decide_eq_true (by kernel_rfl)) k0 bel lt0) (trodAll_cons_mk (Below.trod laidOut (by kernel_rfl) (of_decide_eq_true (by kernel_rfl)) k1 bel lt1) trodAll_mk0)), rfl, bel.frame _, fun h => by cases h⟩

theorem over : Rows.rangesWritesRow.holds Try.pinned (OpenSpec.ofChange Rows.rangesWritesSpec) :=
  OpenClaim.holds_of_wide 4 Try.f4 rfl rfl rfl rfl rfl rfl rfl ⟨rfl, rfl, rfl, rfl, rfl⟩ rfl rfl rfl rfl rfl (by kernel_rfl) Try.func4 (by kernel_rfl)
    (of_decide_eq_true (by kernel_rfl)) (by unfold Func.isWrapper; first | (rw [if_pos (by decide +kernel)]; kernel_rfl) | (rw [if_neg (by decide +kernel)]; exact ⟨rfl, rfl⟩))
    (fun os started H enc _ => lifted os started H enc)

end RangesWritesPart
/-- The statement. -/
theorem rangesWrites_holds : Rows.RangesWritesSaid := RangesWritesPart.over
#print axioms rangesWrites_holds
end Go.Proofs.Ytfhgbggcpoingaa
