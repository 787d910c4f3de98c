/-
 The card of ZstdCut.
-/
import Derived.SevenTiedAt
import Derived.Test.YtnjilcokkhodmaaGreatDoorTie
import Derived.Test.YtnjilcokkhodmaaGreatDoorCards
import Derived.Test.YtnjilcokkhodmaaGreatDoorCutQ1
namespace Go.Proofs.YtnjilcokkhodmaaGreatDoor
namespace ZstdCutPart
open Go.ChangeShapes Go.WideShapes Go.ChangeAt Go.RowKit
set_option linter.unusedVariables false

set_option maxRecDepth 100000 in
set_option maxHeartbeats 4000000 in
theorem lifted (os : Os) (started : os.Started) (H : Type) (enc : TypeId × Value → H) :
  ReturnsInHanded {} Tryz.checked os 4 .any (fun w args => (Rows.zstdCutSpec.pre enc Tryz.prog Tryz.f4 [] false w args ∧ laidMetH Tryz.prog [("baler/sequences.extraOrder", Rows.laid_baler_sequences_extraOrder), ("baler/sequences.nextOrder", Rows.laid_baler_sequences_nextOrder), ("baler/literals.forms", Rows.laid_baler_literals_forms)] w) ∧ sizedMet enc Tryz.prog Tryz.f4 (OpenSpec.ofChange Rows.zstdCutSpec) false w args)
   (Rows.zstdCutSpec.post enc Tryz.prog Tryz.f4 false true false false) := by
 refine returnsInHanded_of_change_and (C := Tryz.checked) (X := fun w _ => laidMetH Tryz.prog [("baler/sequences.extraOrder", Rows.laid_baler_sequences_extraOrder), ("baler/sequences.nextOrder", Rows.laid_baler_sequences_nextOrder), ("baler/literals.forms", Rows.laid_baler_literals_forms)] w) (fun _ _ _ hh h => h.of_heap hh) own started (by kernel_rfl) Tryz.func4
  (ChangeSpec.witness_shaped (enc := enc) (C := Tryz.checked) (os := os) (X := fun w _ => laidMetH Tryz.prog [("baler/sequences.extraOrder", Rows.laid_baler_sequences_extraOrder), ("baler/sequences.nextOrder", Rows.laid_baler_sequences_nextOrder), ("baler/literals.forms", Rows.laid_baler_literals_forms)] w) false (World.doorLaid Tryz.prog 400 os) #[.slice none 0 0, .int .i64 0, .int .i64 0] 8 rfl (World.shaped_of_RefB (by kernel_rfl) (by kernel_rfl)) (by kernel_rfl) (by kernel_rfl) (by kernel_rfl) (door_met os _)) ?_
 intro W base args ds gs before hval0 hW hcnd hsz0 hL _
 have hsz : (DataW.weightsEach Tryz.prog (Tryz.f4.params.toList ++ Rows.zstdCutSpec.plain.varTypes Tryz.prog) (ds ++ gs)).all (· ≤ reachBytes) = true := hsz0
 have hval : ∀ (j : Nat) t v, Tryz.f4.params[j]? = some t → args[j]? = some v → Value.okWide Tryz.prog W .any base t v := hval0
 have hW' := hW
 obtain ⟨p, q, hA0, hV, rfl, hfz, hnd⟩ := hW
 have hA : DataW.TrodAll enc Tryz.prog W 0 (fun _ => true) true Tryz.f4.params.toList args.toList ds p := hA0
 rw [Tryz.params4] at hA hval hsz
 obtain ⟨v0, vs0, d0, ds0, p0, q0, hargs, rfl, rfl, h0, r0⟩ := trodAll_cons hA
 obtain ⟨v1, vs1, d1, ds1, p1, q1, rfl, rfl, rfl, h1, r1⟩ := trodAll_cons r0
 obtain ⟨v2, vs2, d2, ds2, p2, q2, rfl, rfl, rfl, h2, r2⟩ := trodAll_cons r1
 obtain ⟨rfl, rfl, rfl⟩ := trodAll_nil r2
 obtain rfl : args = #[v0, v1, v2] := by cases args; simp_all
 obtain ⟨rfl, rfl⟩ := trodVars_none hV
 obtain ⟨a1, rfl, rfl, rfl, w1⟩ := open_int Tryz.underlying3 (hval 1 3 v1 rfl rfl) h1
 obtain ⟨a2, rfl, rfl, rfl, w2⟩ := open_int Tryz.underlying3 (hval 2 3 v2 rfl rfl) h2
 obtain ⟨a0, len0, cap0, rfl⟩ := okWide_slice Tryz.underlying22 (hval 0 22 v0 rfl rfl)
 have k0 := h0
 have lt0 : ∀ x ∈ p0, x.block < W.heap.size := by obtain ⟨m, hm⟩ := k0; exact DataW.trod_lt m _ _ _ hm
 have hwt0 : ∀ n ∈ d0.weights Tryz.prog 22, n ≤ reachBytes := fun n hn => by
  have hmem := DataW.weights_mem_each (P := Tryz.prog) (ts := [22, 3, 3] ++ Rows.zstdCutSpec.plain.varTypes Tryz.prog) (ds := [d0, DataW.lit (H := H) (.int .i64 a1), DataW.lit (H := H) (.int .i64 a2)] ++ []) (j := 0) (t := 22) (d := d0) rfl rfl n hn
  exact of_decide_eq_true (List.all_eq_true.1 hsz n hmem)
 obtain ⟨fuel0, hf0⟩ := h0
 obtain ⟨b0, off0, xs0, hxl0, hrow0, hle0⟩ := bytes_open (by simpa [Value.cells] using hf0) hwt0
 subst hxl0
 clear hA0 hval0
 have key := (by
  obtain ⟨gb2, off2, g1, g2⟩ := hrow0.low (Nat.lt_of_le_of_lt (Nat.zero_le _) (of_laid hL).2.lt)
  exact cut_law a0 cap0 gb2 off2 xs0 a1 a2 W g1 g2 (of_laid hL).1 (of_laid hL).2 (bounds_i64 w1).1 (bounds_i64 w1).2 : Calls Tryz.prog 4 #[.slice a0 xs0.length cap0, .int .i64 a1, .int .i64 a2] W fun e w' => e = .returned (.bool true) ∧ Keep noBlock W w')
 refine key.mono fun e W' ⟨he, hk⟩ => ?_
 subst he
 have bel := hk.below (Nat.le_refl _) (fun _ _ h => h)
 exact ⟨_, rfl, _, _, _, [], _, [], hW', trodAll_mk1 (shut_bool Tryz.underlying4 _), (trodAll_cons_mk (Below.trod laidOut (by kernel_rfl) (of_decide_eq_true (by kernel_rfl)) k0 bel lt0) (trodAll_cons_mk (shut_int Tryz.underlying3 w1) (trodAll_cons_mk (shut_int Tryz.underlying3 w2) trodAll_mk0))), rfl, bel.frame _, fun h => by cases h⟩

theorem over : Rows.zstdCutRow.holds Tryz.pinned (OpenSpec.ofChange Rows.zstdCutSpec) :=
 OpenClaim.holds_of_wide 4 Tryz.f4 rfl rfl rfl rfl rfl rfl rfl ⟨rfl, rfl, rfl, rfl, rfl⟩ rfl rfl rfl rfl rfl (by kernel_rfl) Tryz.func4 (by kernel_rfl)
  (of_decide_eq_true (by kernel_rfl)) (by unfold Func.isWrapper; first | (rw [if_pos (by decide +kernel)]; kernel_rfl) | (rw [if_neg (by decide +kernel)]; exact ⟨rfl, rfl⟩))
  (fun os started H enc _ => lifted os started H enc)

end ZstdCutPart
theorem zstdCut_row : Rows.ZstdCutSaid := ZstdCutPart.over
theorem zstdCut_holds : Rows.ZstdCutCardSaid :=
 Claim7.holds_tied_plain_at .later [] [.data, .data, .data] true (true, "149c5ac93884c1e8d7e37d292fd426a0d2dc74b97088d419f3b1d3fe1f8f1d32") false
  zstdCut_row (fun _ h => by cases h) (by kernel_rfl) (fun _ h => by cases h) zstdCut_row_tie rfl ⟨rfl, rfl⟩ (by kernel_rfl) rfl
  (fun f fn hf hfn => by
   obtain rfl : f = 4 := Option.some.inj ((show Tryz.prog.funcNamed "baler/balerlaw15.ZstdCut" = some 4 by kernel_rfl).symm.trans hf) |>.symm
   obtain rfl : fn = Tryz.f4 := (Option.some.inj (Tryz.func4.symm.trans hfn)).symm
   exact ⟨by kernel_rfl, fun j t ht => by
    rw [Tryz.params4] at ht
    have hm : t ∈ [22, 3, 3] := by simpa using Array.mem_of_getElem? ht
    have hall : ([22, 3, 3].all fun u => !Tryz.prog.wantsStandIn u) = true := by kernel_rfl
    exact (show Tryz.prog.wantsStandIn t = false by simpa using List.all_eq_true.1 hall t hm)⟩)
  (by kernel_rfl)
#print axioms zstdCut_holds
end Go.Proofs.YtnjilcokkhodmaaGreatDoor
