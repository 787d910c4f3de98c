/-
 The card of ZstdBehind in its narrowed form: what the arguments hold together is of bulk at most 1048576.
-/
import Derived.SevenTiedAt
import Derived.JoinedCond
import Derived.Deep.DeepHandedRow
import Derived.Test.YtnjilcokkhodmaaGreatDoorTie
import Derived.Test.YtnjilcokkhodmaaGreatDoorCards
import Derived.Test.YtnjilcokkhodmaaGreatDoorBehindUptoQ1
namespace Go.Proofs.YtnjilcokkhodmaaGreatDoor
namespace ZstdBehindPart
open Go.ChangeShapes Go.WideShapes Go.ChangeAt Go.RowKit Go.Deep
set_option linter.unusedVariables false

theorem bulk_ge {H : Type} (l : List (DataW H)) : l.length ≤ Rows.uptoBulkAll l := by
  have hpos : ∀ d : DataW H, 0 < Rows.uptoBulk d := fun d => by
    rcases d with l | _ | _ | _ | _ | _ | _ | _
    case lit => cases l <;> simp [Rows.uptoBulk]
    all_goals simp [Rows.uptoBulk]
  induction l with
  | nil => exact Nat.zero_le _
  | cons x r ih =>
    have hx := hpos x
    rw [Rows.uptoBulkAll, List.length_cons]
    omega
theorem bytes_bulk {H : Type} {enc : TypeId × Value → H} {W : World} {a : Option Addr} {len cap fuel : Nat} {x : DataW H × List MemPlace} (h : DataW.trod enc Tryz.prog W 0 (fun _ => true) true fuel 22 [.slice a len cap] = some x) : len ≤ Rows.uptoBulk x.1 := by
 rcases open_ints Tryz.underlying22 Tryz.underlying5 (by kernel_rfl) h with ⟨hcs, _⟩ | ⟨y, l, cp, zs, hcs, _, hl, hm, hz, hx, hcell, hwz⟩
 ·simp at hcs
  obtain ⟨rfl, rfl, rfl⟩ := hcs
  exact Nat.zero_le _
 ·simp at hcs
  obtain ⟨rfl, rfl, rfl⟩ := hcs
  have hz' : zs.length = cap := by simpa using hz
  have hx1 : x.1 = .slice (lits .u8 (zs.take len)) (lits .u8 (zs.drop len)) := by rw [hx]
  rw [hx1, Rows.uptoBulk]
  have h1 := bulk_ge (lits (H := H) .u8 (zs.take len))
  simp only [lits, List.length_map, List.length_take] at h1
  simp only [lits]
  omega

set_option maxRecDepth 100000 in
set_option maxHeartbeats 4000000 in
theorem contract (H : Type) (enc : TypeId × Value → H) (W : World) (base : Nat) (args : Array Value) (ds gs : List (DataW H)) (before : List MemPlace)
  (hval0 : ∀ (j : Nat) t v, Tryz.f3.params[j]? = some t → args[j]? = some v → Value.okWide Tryz.prog W .any base t v)
  (hW : DataW.Whole enc Tryz.prog Tryz.f3.params.toList Rows.zstdBehindSpec.vars false W args.toList ds gs before) (hk : Rows.uptoSmall H (ds ++ gs) = true)
  (hsz0 : (DataW.weightsEach Tryz.prog (Tryz.f3.params.toList ++ Rows.zstdBehindSpec.plain.varTypes Tryz.prog) (ds ++ gs)).all (· ≤ reachBytes) = true) (hL : laidMetH Tryz.prog [("baler/sequences.extraOrder", Rows.laid_baler_sequences_extraOrder), ("baler/sequences.nextOrder", Rows.laid_baler_sequences_nextOrder), ("baler/literals.forms", Rows.laid_baler_literals_forms)] W) :
  Calls Tryz.prog 3 args W fun e W' => ∃ v, e = .returned v ∧ Rows.zstdBehindSpec.post enc Tryz.prog Tryz.f3 false true false false W args v W' := by
 have hsz := hsz0
 have hval : ∀ (j : Nat) t v, Tryz.f3.params[j]? = some t → args[j]? = some v → Value.okWide Tryz.prog W .any base t v := hval0
 have hW' := hW
 obtain ⟨p, q, hA0, hV, rfl, hfz, hnd⟩ := hW
 have hA : DataW.TrodAll enc Tryz.prog W 0 (fun _ => true) true Tryz.f3.params.toList args.toList ds p := hA0
 rw [Tryz.params3] at hA hval hsz
 obtain ⟨v0, vs0, d0, ds0, p0, q0, hargs, rfl, rfl, h0, r0⟩ := trodAll_cons hA
 obtain ⟨v1, vs1, d1, ds1, p1, q1, rfl, rfl, rfl, h1, r1⟩ := trodAll_cons r0
 obtain ⟨v2, vs2, d2, ds2, p2, q2, rfl, rfl, rfl, h2, r2⟩ := trodAll_cons r1
 obtain ⟨rfl, rfl, rfl⟩ := trodAll_nil r2
 obtain rfl : args = #[v0, v1, v2] := by cases args; simp_all
 obtain ⟨rfl, rfl⟩ := trodVars_none hV
 obtain ⟨a2, rfl, rfl, rfl, w2⟩ := open_int Tryz.underlying3 (hval 2 3 v2 rfl rfl) h2
 have hbulk : Rows.uptoBulkAll ([d0, d1, DataW.lit (H := H) (.int .i64 a2)] ++ []) ≤ 1048576 := of_decide_eq_true hk
 simp only [List.append_nil, Rows.uptoBulkAll] at hbulk
 obtain ⟨a0, len0, cap0, rfl⟩ := okWide_slice Tryz.underlying22 (hval 0 22 v0 rfl rfl)
 have k0 := h0
 have lt0 : ∀ x ∈ p0, x.block < W.heap.size := by obtain ⟨m, hm⟩ := k0; exact DataW.trod_lt m _ _ _ hm
 have hwt0 : ∀ n ∈ d0.weights Tryz.prog 22, n ≤ reachBytes := fun n hn => by
  have hmem := DataW.weights_mem_each (P := Tryz.prog) (ts := [22, 22, 3] ++ Rows.zstdBehindSpec.plain.varTypes Tryz.prog) (ds := [d0, d1, DataW.lit (H := H) (.int .i64 a2)] ++ []) (j := 0) (t := 22) (d := d0) rfl rfl n hn
  exact of_decide_eq_true (List.all_eq_true.1 hsz n hmem)
 obtain ⟨fuel0, hf0⟩ := h0
 have hbk0 : len0 ≤ Rows.uptoBulk d0 := bytes_bulk (x := (d0, p0)) (by simpa [Value.cells] using hf0)
 obtain ⟨b0, off0, xs0, hxl0, hrow0, hle0⟩ := bytes_open (by simpa [Value.cells] using hf0) hwt0
 subst hxl0
 obtain ⟨a1, len1, cap1, rfl⟩ := okWide_slice Tryz.underlying22 (hval 1 22 v1 rfl rfl)
 have k1 := h1
 have lt1 : ∀ x ∈ p1, x.block < W.heap.size := by obtain ⟨m, hm⟩ := k1; exact DataW.trod_lt m _ _ _ hm
 have hwt1 : ∀ n ∈ d1.weights Tryz.prog 22, n ≤ reachBytes := fun n hn => by
  have hmem := DataW.weights_mem_each (P := Tryz.prog) (ts := [22, 22, 3] ++ Rows.zstdBehindSpec.plain.varTypes Tryz.prog) (ds := [d0, d1, DataW.lit (H := H) (.int .i64 a2)] ++ []) (j := 1) (t := 22) (d := d1) rfl rfl n hn
  exact of_decide_eq_true (List.all_eq_true.1 hsz n hmem)
 obtain ⟨fuel1, hf1⟩ := h1
 have hbk1 : len1 ≤ Rows.uptoBulk d1 := bytes_bulk (x := (d1, p1)) (by simpa [Value.cells] using hf1)
 obtain ⟨b1, off1, xs1, hxl1, hrow1, hle1⟩ := bytes_open (by simpa [Value.cells] using hf1) hwt1
 subst hxl1
 clear hA0 hval0
 have key : Calls Tryz.prog 3 #[.slice a0 xs0.length cap0, .slice a1 xs1.length cap1, .int .i64 a2] W fun e w' => e = .returned (.bool true) ∧ Keep noBlock W w' := by
  obtain ⟨gb2, off2, g1, g2⟩ := hrow0.low (Nat.lt_of_le_of_lt (Nat.zero_le _) (of_laid hL).2.lt)
  exact behind_law a0 cap0 gb2 off2 xs0 a1 cap1 b1 off1 xs1 a2 W g1 g2 hrow1 (of_laid hL).1 (of_laid hL).2 (bounds_i64 w2).1 (bounds_i64 w2).2 (by omega) (by omega)
 refine key.mono fun e W' ⟨he, hk⟩ => ?_
 subst he
 have bel := hk.below (Nat.le_refl _) (fun _ _ h => h)
 exact ⟨_, rfl, _, _, _, [], _, [], hW', trodAll_mk1 (shut_bool Tryz.underlying4 _), (trodAll_cons_mk (Below.trod laidOut (by kernel_rfl) (of_decide_eq_true (by kernel_rfl)) k0 bel lt0) (trodAll_cons_mk (Below.trod laidOut (by kernel_rfl) (of_decide_eq_true (by kernel_rfl)) k1 bel lt1) (trodAll_cons_mk (shut_int Tryz.underlying3 w2) trodAll_mk0))), rfl, bel.frame _, fun h => by cases h⟩

set_option maxRecDepth 100000 in
set_option maxHeartbeats 4000000 in
theorem lifted (os : Os) (started : os.Started) (H : Type) (enc : TypeId × Value → H) (F : Stop.Interp) :
  ReturnsInHanded {} Tryz.checked os 3 .any ((Rows.OpenSpec.upto Rows.zstdBehindSpec).preRow enc Tryz.prog Tryz.f3 Rows.zstdBehindUptoRow.domain false Rows.zstdBehindUptoRow.laid) (((Rows.OpenSpec.upto Rows.zstdBehindSpec).at F).post enc Tryz.prog Tryz.f3 false true false false) := by
 obtain ⟨places, hx⟩ : ∃ places, DataW.whole enc Tryz.prog ((World.doorLaid Tryz.prog 400 os).forCall (fun _ _ => 0) ⟨#[], #[.slice none 0 0, .slice none 0 0, .int .i64 0], []⟩).memory Tryz.f3.params.toList Rows.zstdBehindSpec.vars false (#[.slice none 0 0, .slice none 0 0, .int .i64 0] : Array Value).toList 8 = some ([.nil, .nil, .lit (.int .i64 0)], [], places) := ⟨[], by kernel_rfl⟩
 have hok : Input.okWideB Tryz.prog ((World.doorLaid Tryz.prog 400 os).forCall (fun _ _ => 0) ⟨#[], #[.slice none 0 0, .slice none 0 0, .int .i64 0], []⟩) 3 ⟨#[], #[.slice none 0 0, .slice none 0 0, .int .i64 0], []⟩ = true := by kernel_rfl
 refine returnsInHanded_of_row (C := Tryz.checked) (s := Rows.OpenSpec.upto Rows.zstdBehindSpec) own started (by kernel_rfl) Tryz.func3
  ⟨World.doorLaid Tryz.prog 400 os, fun _ _ => 0, ⟨#[], #[.slice none 0 0, .slice none 0 0, .int .i64 0], []⟩, rfl, World.shaped_of_RefB (by kernel_rfl) (by kernel_rfl), (Input.okWide_of_okWideB (base := 0) hok).1, (Input.okWide_of_okWideB hok).2,
   OpenSpec.preRow_of_cond 8 hx (by kernel_rfl) (fun k hk => by cases hk; kernel_rfl) (by kernel_rfl) (door_met os _), (by simp only [Assume.holds]; exact ⟨by simp, by simp, fun _ => Modest.zero, by simp, by simp⟩)⟩ ?_
 intro W base args ds gs before hval hW _ hcond hsz hL _ _
 exact contract H enc W base args ds gs before hval hW (hcond _ rfl) hsz hL

theorem over : Rows.ZstdBehindUptoSaid :=
 OpenClaim.holds_of_cond 3 Tryz.f3 rfl rfl rfl rfl rfl rfl rfl ⟨rfl, rfl, rfl, rfl, rfl⟩ rfl rfl rfl rfl rfl (by kernel_rfl) Tryz.func3 (by kernel_rfl)
  (of_decide_eq_true (by kernel_rfl)) (by unfold Func.isWrapper; first | (rw [if_pos (by decide +kernel)]; kernel_rfl) | (rw [if_neg (by decide +kernel)]; exact ⟨rfl, rfl⟩))
  (fun os started H enc _ F => by rw [OpenClaim.pre_eq_preRow]; exact lifted os started H enc F)

end ZstdBehindPart
theorem zstdBehindUpto_holds : Rows.ZstdBehindUptoCardSaid :=
 Claim7.holds_tied_plain_at .later [] [.data, .data, .data] true (true, "149c5ac93884c1e8d7e37d292fd426a0d2dc74b97088d419f3b1d3fe1f8f1d32") false
  ZstdBehindPart.over (fun _ h => by cases h) (by kernel_rfl) (fun _ h => by cases h) zstdBehindUpto_row_tie rfl ⟨rfl, rfl⟩ (by kernel_rfl) rfl
  (fun f fn hf hfn => by
   obtain rfl : f = 3 := Option.some.inj ((show Tryz.prog.funcNamed "baler/balerlaw15.ZstdBehind" = some 3 by kernel_rfl).symm.trans hf) |>.symm
   obtain rfl : fn = Tryz.f3 := (Option.some.inj (Tryz.func3.symm.trans hfn)).symm
   exact ⟨by kernel_rfl, fun j t ht => by
    rw [Tryz.params3] at ht
    have hm : t ∈ [22, 22, 3] := by simpa using Array.mem_of_getElem? ht
    have hall : ([22, 22, 3].all fun u => !Tryz.prog.wantsStandIn u) = true := by kernel_rfl
    exact (show Tryz.prog.wantsStandIn t = false by simpa using List.all_eq_true.1 hall t hm)⟩)
  (by kernel_rfl)
#print axioms zstdBehindUpto_holds
end Go.Proofs.YtnjilcokkhodmaaGreatDoor
