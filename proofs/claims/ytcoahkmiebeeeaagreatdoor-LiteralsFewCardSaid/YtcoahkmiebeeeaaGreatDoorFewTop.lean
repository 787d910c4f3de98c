/-
  LiteralsFew answers true for every input, and its arguments read afterwards as they read before: what is of one byte, or of few, is told in few bytes. The forms lie as the program lays them.
-/
import Derived.SevenTiedAt
import Derived.Test.YtcoahkmiebeeeaaGreatDoorTie
import Derived.Test.YtcoahkmiebeeeaaGreatDoorCards
import Derived.Test.YtcoahkmiebeeeaaGreatDoorLitP24
import Derived.Test.YtcoahkmiebeeeaaGreatDoorFewQ1
namespace Go.Proofs.YtcoahkmiebeeeaaGreatDoor
namespace LiteralsFewPart
open Go.ChangeShapes Go.WideShapes Go.ChangeAt Go.RowKit
set_option linter.unusedVariables false

set_option maxRecDepth 100000 in
theorem lifted (os : Os) (started : os.Started) (H : Type) (enc : TypeId × Value → H) :
    ReturnsInHanded {} Tryz.checked os 5 .any (fun w args => (Rows.literalsFewSpec.pre enc Tryz.prog Tryz.f5 [] false w args ∧ laidMetH Tryz.prog [("baler/literals.forms", Rows.laid_baler_literals_forms)] w) ∧ sizedMet enc Tryz.prog Tryz.f5 (OpenSpec.ofChange Rows.literalsFewSpec) false w args)
      (Rows.literalsFewSpec.post enc Tryz.prog Tryz.f5 false true false false) := by
  refine returnsInHanded_of_change_and (C := Tryz.checked) (X := fun w _ => laidMetH Tryz.prog [("baler/literals.forms", Rows.laid_baler_literals_forms)] w) (fun _ _ _ hh h => h.of_heap hh) own started (by kernel_rfl) Tryz.func5
    (ChangeSpec.witness_shaped (enc := enc) (C := Tryz.checked) (os := os) (X := fun w _ => laidMetH Tryz.prog [("baler/literals.forms", Rows.laid_baler_literals_forms)] w) false (World.doorLaid Tryz.prog 400 os) #[.int .u8 0, .int .i64 0, .slice none 0 0] 8 rfl (World.shaped_of_RefB (by kernel_rfl) (by kernel_rfl)) (by kernel_rfl) (by kernel_rfl) (by kernel_rfl) (door_met os _)) ?_
  intro W base args ds gs before hval0 hW hcnd hsz0 hL _
  have hsz : (DataW.weightsEach Tryz.prog (Tryz.f5.params.toList ++ Rows.literalsFewSpec.plain.varTypes Tryz.prog) (ds ++ gs)).all (· ≤ reachBytes) = true := hsz0
  have hval : ∀ (j : Nat) t v, Tryz.f5.params[j]? = some t → args[j]? = some v → Value.okWide Tryz.prog W .any base t v := hval0
  have hW' := hW
  obtain ⟨p, q, hA0, hV, rfl, hfz, hnd⟩ := hW
  have hA : DataW.TrodAll enc Tryz.prog W 0 (fun _ => true) true Tryz.f5.params.toList args.toList ds p := hA0
  rw [Tryz.params5] at hA hval hsz
  obtain ⟨v0, vs0, d0, ds0, p0, q0, hargs, rfl, rfl, h0, r0⟩ := trodAll_cons hA
  obtain ⟨v1, vs1, d1, ds1, p1, q1, rfl, rfl, rfl, h1, r1⟩ := trodAll_cons r0
  obtain ⟨v2, vs2, d2, ds2, p2, q2, rfl, rfl, rfl, h2, r2⟩ := trodAll_cons r1
  obtain ⟨rfl, rfl, rfl⟩ := trodAll_nil r2
  obtain rfl : args = #[v0, v1, v2] := by cases args; simp_all
  obtain ⟨rfl, rfl⟩ := trodVars_none hV
  obtain ⟨a0, rfl, rfl, rfl, w0⟩ := open_int Tryz.underlying5 (hval 0 5 v0 rfl rfl) h0
  obtain ⟨a1, rfl, rfl, rfl, w1⟩ := open_int Tryz.underlying3 (hval 1 3 v1 rfl rfl) h1
  obtain ⟨a2, len2, cap2, rfl⟩ := okWide_slice Tryz.underlying22 (hval 2 22 v2 rfl rfl)
  have k2 := h2
  have lt2 : ∀ x ∈ p2, x.block < W.heap.size := by obtain ⟨m, hm⟩ := k2; exact DataW.trod_lt m _ _ _ hm
  have hwt2 : ∀ n ∈ d2.weights Tryz.prog 22, n ≤ reachBytes := fun n hn => by
    have hmem := DataW.weights_mem_each (P := Tryz.prog) (ts := [5, 3, 22] ++ Rows.literalsFewSpec.plain.varTypes Tryz.prog) (ds := [DataW.lit (H := H) (.int .u8 a0), DataW.lit (H := H) (.int .i64 a1), d2] ++ []) (j := 2) (t := 22) (d := d2) rfl rfl n hn
    exact of_decide_eq_true (List.all_eq_true.1 hsz n hmem)
  obtain ⟨fuel2, hf2⟩ := h2
  obtain ⟨b2, off2, xs2, hxl2, hrow2, hle2⟩ := bytes_open (by simpa [Value.cells] using hf2) hwt2
  subst hxl2
  clear hA0 hval0
  have hD := of_laid hL
  have key := lfew_law a0 (in8 w0).1 (in8 w0).2 a1 a2 cap2 b2 off2 xs2 W hD hrow2
  refine key.mono fun e W' ⟨he, hk⟩ => ?_
  subst he
  have bel := hk.below (Nat.le_refl _) (fun _ _ h => h)
  exact ⟨_, rfl, _, _, _, [], _, [], hW', trodAll_mk1 (shut_bool Tryz.underlying4 _), (trodAll_cons_mk (shut_int Tryz.underlying5 w0) (trodAll_cons_mk (shut_int Tryz.underlying3 w1) (trodAll_cons_mk (Below.trod laidOut (by kernel_rfl) (of_decide_eq_true (by kernel_rfl)) k2 bel lt2) trodAll_mk0))), rfl, bel.frame _, fun h => by cases h⟩

theorem over : Rows.literalsFewRow.holds Tryz.pinned (OpenSpec.ofChange Rows.literalsFewSpec) :=
  OpenClaim.holds_of_wide 5 Tryz.f5 rfl rfl rfl rfl rfl rfl rfl ⟨rfl, rfl, rfl, rfl, rfl⟩ rfl rfl rfl rfl rfl (by kernel_rfl) Tryz.func5 (by kernel_rfl)
    (of_decide_eq_true (by kernel_rfl)) (by unfold Func.isWrapper; first | (rw [if_pos (by decide +kernel)]; kernel_rfl) | (rw [if_neg (by decide +kernel)]; exact ⟨rfl, rfl⟩))
    (fun os started H enc _ => lifted os started H enc)

end LiteralsFewPart
theorem literalsFew_row : Rows.LiteralsFewSaid := LiteralsFewPart.over
theorem literalsFew_holds : Rows.LiteralsFewCardSaid :=
  Claim7.holds_tied_plain_at .later [] [.data] true (true, "f44aec587e5b217ff220baa8c0ace1e9f22c41ff32abd4ea038e381978f73d1f") false
    literalsFew_row (fun _ h => by cases h) (by kernel_rfl) (fun _ h => by cases h) literalsFew_row_tie rfl ⟨rfl, rfl⟩ (by kernel_rfl) rfl
    (fun f fn hf hfn => by
      obtain rfl : f = 5 := Option.some.inj ((show Tryz.prog.funcNamed "baler/balerlaw11.LiteralsFew" = some 5 by kernel_rfl).symm.trans hf) |>.symm
      obtain rfl : fn = Tryz.f5 := (Option.some.inj (Tryz.func5.symm.trans hfn)).symm
      exact ⟨by kernel_rfl, fun j t ht => by
        rw [Tryz.params5] at ht
        have hm : t ∈ [5, 3, 22] := by simpa using Array.mem_of_getElem? ht
        have hall : ([5, 3, 22].all fun u => !Tryz.prog.wantsStandIn u) = true := by kernel_rfl
        exact (show Tryz.prog.wantsStandIn t = false by simpa using List.all_eq_true.1 hall t hm)⟩)
    (by kernel_rfl)
#print axioms literalsFew_holds
end Go.Proofs.YtcoahkmiebeeeaaGreatDoor
