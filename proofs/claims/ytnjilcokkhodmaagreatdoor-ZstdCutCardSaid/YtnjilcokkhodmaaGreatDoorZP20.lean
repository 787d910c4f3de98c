/-
  Read of a section, whatever its bytes and the tables ahead.
  What the layers below tell, as plain functions; a frame as it lies.
  A frame as it lies, with all that it leans on.
  copyBack, whatever the step.
  unpack: what a packed block means is put behind the content.
-/
import Derived.Test.YtnjilcokkhodmaaGreatDoorZP4
import Derived.Test.YtnjilcokkhodmaaGreatDoorZP5
import Derived.Test.YtnjilcokkhodmaaGreatDoorZP13
import Derived.Test.YtnjilcokkhodmaaGreatDoorZP14
import Derived.Test.YtnjilcokkhodmaaGreatDoorZP15
import Derived.Test.YtnjilcokkhodmaaGreatDoorZP17
import Derived.Test.YtnjilcokkhodmaaGreatDoorZP19
namespace Go.Proofs.YtnjilcokkhodmaaGreatDoor
open Go.RowKit Go.Shelf
set_option linter.unusedVariables false

theorem nws_le {n m : Nat} {v : Value} (h : NwS m v) (hn : n ≤ m) : NwS n v := fun p l c e => Nat.le_trans hn (h p l c e)
theorem tb_ne {w : World} {tg b : Nat} {T : Tb} (h : IsTb w tg T) {a : Option Addr} {n c : Nat} (hb : w.cell? ⟨b, 0, none⟩ = some (.slice a n c)) : tg ≠ b := fun e => by
 have := (h.cells 0 (Nat.two_pow_pos _)).1
 rw [Nat.zero_mul, e, hb] at this
 cases this
theorem IsTs.keepB {w w' : World} {v : Value} {t : Option Tb} {b : Nat} (h : IsTs w v t) (hk : Keep (fun k => k = b) w w') {a : Option Addr} {n c : Nat} (hb : w.cell? ⟨b, 0, none⟩ = some (.slice a n c)) : IsTs w' v t := by
  cases t with
  | none => exact h
  | some T =>
    obtain ⟨tg, cap, e, hT⟩ := h
    exact ⟨tg, cap, e, hT.keep hk (tb_ne hT hb)⟩
set_option maxHeartbeats 1000000 in
theorem three_any (a0 a1 a2 : Option Addr) (n0 n1 n2 c0 c1 c2 : Nat) (w : World) : Calls Tryz.prog 52 #[.agg #[.slice a0 n0 c0, .slice a1 n1 c1, .slice a2 n2 c2]] w fun e w' => e = .returned (.agg #[.slice a0 n0 c0, .slice a1 n1 c1, .slice a2 n2 c2]) ∧ Keep noBlock w w' := by
 go_enter Tryz.func52, Tryz.ntmps52
 go_wp2_with fail
 refine bodyPost_ret (results_cell rfl _ _ _ ⟨w.heap.size + 1, 0, none⟩ (.agg #[.slice a0 n0 c0, .slice a1 n1 c1, .slice a2 n2 c2]) rfl (run_loadVar_row _ _ 109 109 _ (0, 0) _ (alloc_new1 _ _ _ _ _) Tryz.underlying109 rfl (by kernel_rfl))) rfl ?_
 exact ⟨rfl, ((Keep.refl _ w).alloc _).alloc _⟩
theorem cloneS_any (a : Option Addr) (n c : Nat) (t : Option Tb) (hl : ∀ T, t = some T → T.l ≤ 9) (w : World) (h : IsTs w (.slice a n c) t) :
    Calls Tryz.prog 63 #[.slice a n c] w fun e w' => ∃ a' c', e = .returned (.slice a' n c') ∧ IsTs w' (.slice a' n c') t ∧ Keep noBlock w w' ∧ NwS w.heap.size (.slice a' n c') := by
  cases t with
  | none =>
    have e : Value.slice a n c = .slice none 0 0 := h
    cases e
    refine (clone_none w).mono ?_
    rintro e w' ⟨rfl, rfl⟩
    exact ⟨none, 0, rfl, rfl, Keep.refl _ _, fun p l c h => by cases h⟩
  | some T =>
    obtain ⟨tg, cap, e, hT⟩ := h
    cases e
    refine (cloneT_any tg _ T (hl T rfl) w hT).mono ?_
    rintro e w' ⟨g, cap', rfl, h1, h2, h3⟩
    exact ⟨_, cap', rfl, ⟨g, cap', rfl, h2⟩, h3, fun p l c h => by cases h; exact h1⟩
set_option maxRecDepth 100000 in
set_option maxHeartbeats 4000000 in
theorem copyOf_any (a0 a1 a2 : Option Addr) (n0 n1 n2 c0 c1 c2 : Nat) (t0 t1 t2 : Option Tb) (w : World) (h0 : IsTs w (.slice a0 n0 c0) t0) (h1 : IsTs w (.slice a1 n1 c1) t1) (h2 : IsTs w (.slice a2 n2 c2) t2)
  (l0 : ∀ T, t0 = some T → T.l ≤ 9) (l1 : ∀ T, t1 = some T → T.l ≤ 9) (l2 : ∀ T, t2 = some T → T.l ≤ 9) :
  Calls Tryz.prog 49 #[.agg #[.slice a0 n0 c0, .slice a1 n1 c1, .slice a2 n2 c2]] w fun e w' => ∃ b0 b1 b2 d0 d1 d2, e = .returned (.agg #[.slice b0 n0 d0, .slice b1 n1 d1, .slice b2 n2 d2]) ∧ Hid (IsTs w' (.slice b0 n0 d0) t0 ∧ IsTs w' (.slice b1 n1 d1) t1 ∧ IsTs w' (.slice b2 n2 d2) t2 ∧ Keep noBlock w w' ∧ NwS w.heap.size (.slice b0 n0 d0) ∧ NwS w.heap.size (.slice b1 n1 d1) ∧ NwS w.heap.size (.slice b2 n2 d2)) := by
 obtain ⟨bb, hbb⟩ : ∃ bb, bb = w.heap.size := ⟨_, rfl⟩
 obtain ⟨W1, hW1⟩ : ∃ W1, W1 = ((w.alloc (.cells #[.slice a0 n0 c0, .slice a1 n1 c1, .slice a2 n2 c2] 38)).alloc (.cells #[.slice none 0 0, .slice none 0 0, .slice none 0 0] 38)).drew := ⟨_, rfl⟩
 have k1 : Keep noBlock w W1 := by rw [hW1]; exact (((Keep.refl _ w).alloc _).alloc _).drew
 have o1 : W1.heap[bb]? = some (.cells #[.slice a0 n0 c0, .slice a1 n1 c1, .slice a2 n2 c2] 38 (0, 0)) := by rw [hW1, hbb]; exact alloc_far (alloc_new _ _) _
 have o2 : W1.heap[bb + 1]? = some (.cells #[.slice none 0 0, .slice none 0 0, .slice none 0 0] 38 (0, 0)) := by rw [hW1, hbb]; exact alloc_new1 _ _ _ _ _
 have fs : ∀ W, Keep noBlock W1 W → W.cell? ⟨bb, 0, none⟩ = some (.slice a0 n0 c0) ∧ W.cell? ⟨bb, 1, none⟩ = some (.slice a1 n1 c1) ∧ W.cell? ⟨bb, 2, none⟩ = some (.slice a2 n2 c2) := fun W hk => by
  have := hk.obj o1 (fun h => h)
  exact ⟨cell_of this 0, cell_of this 1, cell_of this 2⟩
 have HC0 := (show Hid (Calls Tryz.prog 63 #[.slice a0 n0 c0] W1 fun e w' => ∃ b d, e = .returned (.slice b n0 d) ∧ IsTs w' (.slice b n0 d) t0 ∧ Keep noBlock W1 w' ∧ NwS W1.heap.size (.slice b n0 d)) from cloneS_any a0 n0 c0 t0 l0 W1 (h0.keep k1))
 have HC1 := (show Hid (∀ W, Keep noBlock W1 W → Calls Tryz.prog 63 #[.slice a1 n1 c1] W fun e w' => ∃ b d, e = .returned (.slice b n1 d) ∧ IsTs w' (.slice b n1 d) t1 ∧ Keep noBlock W w' ∧ NwS W.heap.size (.slice b n1 d)) from fun W hk => cloneS_any a1 n1 c1 t1 l1 W ((h1.keep k1).keep hk))
 have HC2 := (show Hid (∀ W, Keep noBlock W1 W → Calls Tryz.prog 63 #[.slice a2 n2 c2] W fun e w' => ∃ b d, e = .returned (.slice b n2 d) ∧ IsTs w' (.slice b n2 d) t2 ∧ Keep noBlock W w' ∧ NwS W.heap.size (.slice b n2 d)) from fun W hk => cloneS_any a2 n2 c2 t2 l2 W ((h2.keep k1).keep hk))
 have HF := (show Hid (∀ W, Keep noBlock W1 W → W.cell? ⟨bb, 0, none⟩ = some (.slice a0 n0 c0) ∧ W.cell? ⟨bb, 1, none⟩ = some (.slice a1 n1 c1) ∧ W.cell? ⟨bb, 2, none⟩ = some (.slice a2 n2 c2)) from fs)
 have HO := hid (And.intro o2 (And.intro k1 hbb))
 have HW1 := hid hW1
 clear h0 h1 h2 k1 o1 o2 fs hW1
 go_enter Tryz.func49, Tryz.ntmps49
 go_wp2_with fail
 rw [← hbb]
 clear hbb
 refine region_last (fun W => W.cell? ⟨bb, 0, none⟩ = some (.slice a0 n0 c0) ∧ W.cell? ⟨bb, 1, none⟩ = some (.slice a1 n1 c1) ∧ W.cell? ⟨bb, 2, none⟩ = some (.slice a2 n2 c2)) 10 mx (by have := HF.out W1 (Keep.refl _ _); rw [HW1.out] at this; exact this) (fun hS => ?_)
 refine tk (i := 0) (v := ?_) rfl (by kernel_rfl) (fun _ _ _ h => h) (by rfl) ?_ (by assumption) ?_
 rotate_left 1
 ·intro w hSw; (try dsimp only at hSw); (try obtain ⟨hSw1, hSw2, hSw3⟩ := hSw); (go_simp <;> with_reducible rfl)
 simp only [Act.put, tA, tB, tD, tE, tF]
 refine tk (i := 1) (v := ?_) rfl (by kernel_rfl) (fun _ _ _ h => h) (by rfl) ?_ (by assumption) ?_
 rotate_left 1
 ·intro w hSw; (try dsimp only at hSw); (try obtain ⟨hSw1, hSw2, hSw3⟩ := hSw); (go_simp <;> with_reducible rfl)
 simp only [Act.put, tA, tB, tC, tD, tE, tF]
 refine tk (i := 3) (v := ?_) rfl (by kernel_rfl) (fun _ _ _ h => h) (by rfl) ?_ (by assumption) ?_
 rotate_left 1
 ·intro w hSw; (try dsimp only at hSw); (try obtain ⟨hSw1, hSw2, hSw3⟩ := hSw); (go_simp <;> with_reducible rfl)
 simp only [Act.put, tA, tB, tC, tD, tE, tF]
 refine tk (i := 4) (v := ?_) rfl (by kernel_rfl) (fun _ _ _ h => h) (by rfl) ?_ (by assumption) ?_
 rotate_left 1
 ·intro w hSw; (try dsimp only at hSw); (try obtain ⟨hSw1, hSw2, hSw3⟩ := hSw); (go_simp <;> with_reducible rfl)
 simp only [Act.put, tA, tB, tC, tD, tE, tF]
 refine tk (i := 6) (v := ?_) rfl (by kernel_rfl) (fun _ _ _ h => h) (by rfl) ?_ (by assumption) ?_
 rotate_left 1
 ·intro w hSw; (try dsimp only at hSw); (try obtain ⟨hSw1, hSw2, hSw3⟩ := hSw); (go_simp <;> with_reducible rfl)
 simp only [Act.put, tA, tB, tC, tD, tE, tF]
 refine tk (i := 7) (v := ?_) rfl (by kernel_rfl) (fun _ _ _ h => h) (by rfl) ?_ (by assumption) ?_
 rotate_left 1
 ·intro w hSw; (try dsimp only at hSw); (try obtain ⟨hSw1, hSw2, hSw3⟩ := hSw); (go_simp <;> with_reducible rfl)
 simp only [Act.put, tA, tB, tC, tD, tE, tF]
 rw [← HW1.out]
 clear HW1
 refine last_one (j := 2) (by kernel_rfl) rfl (fun K hK => ?_)
 rw [if_pos (by rfl)]
 simp only [tA, tB, tC]
 go_simp
 refine HC0.out.mono ?_
 rintro e w5 ⟨b0, d0, rfl, q1, q2, q3⟩
 have HQ0 := hid (And.intro q1 q2)
 have HN0 := hid q3
 clear q1 q2 q3 HC0
 refine hK.out _ _ (fun _ => HF.out w5 HQ0.out.2) ?_
 clear hK K
 refine last_one (j := 5) (by kernel_rfl) rfl (fun K hK => ?_)
 rw [if_pos (by rfl)]
 simp only [tA, tB, tC]
 go_simp
 refine (HC1.out w5 HQ0.out.2).mono ?_
 rintro e w6 ⟨b1, d1, rfl, q1, q2, q3⟩
 have HN1 := hid (And.intro q3 HQ0.out.2.size)
 clear q3
 have HQ1 := (show Hid (IsTs w6 (.slice b1 n1 d1) t1 ∧ IsTs w6 (.slice b0 n0 d0) t0 ∧ Keep noBlock W1 w6) from ⟨q1, HQ0.out.1.keep q2, HQ0.out.2.trans' q2⟩)
 clear q1 q2 HC1 HQ0
 refine hK.out _ _ (fun _ => HF.out w6 HQ1.out.2.2) ?_
 clear hK K
 refine last_one (j := 8) (by kernel_rfl) rfl (fun K hK => ?_)
 rw [if_pos (by rfl)]
 simp only [tA, tB, tC]
 go_simp
 refine (HC2.out w6 HQ1.out.2.2).mono ?_
 rintro e w7 ⟨b2, d2, rfl, q1, q2, q3⟩
 have HN2 := hid (And.intro q3 HQ1.out.2.2.size)
 clear q3
 have HQ2 := (show Hid (IsTs w7 (.slice b0 n0 d0) t0 ∧ IsTs w7 (.slice b1 n1 d1) t1 ∧ IsTs w7 (.slice b2 n2 d2) t2 ∧ Keep noBlock W1 w7 ∧ w7.heap[bb + 1]? = some (.cells #[.slice none 0 0, .slice none 0 0, .slice none 0 0] 38 (0, 0))) from ⟨HQ1.out.2.1.keep q2, HQ1.out.1.keep q2, q1, HQ1.out.2.2.trans' q2, (HQ1.out.2.2.trans' q2).obj HO.out.1 (fun h => h)⟩)
 clear q1 q2 HC2 HQ1
 refine hK.out _ _ (fun _ => HF.out w7 HQ2.out.2.2.2.1) ?_
 clear hK K
 have f7 := HF.out w7 HQ2.out.2.2.2.1
 refine last_one (j := 9) (by kernel_rfl) rfl (fun K hK => ?_)
 rw [if_pos (by rfl)]
 simp only [tA, tB, tC]
 go_simp
 refine hK.out _ _ (fun _ => f7) ?_
 clear hK K f7
 have HST := (show Hid (w7.there (bb + 1) 0 (#[.slice b0 n0 d0, .slice b1 n1 d1, .slice b2 n2 d2] : Array Value).size ∧ (Tryz.prog.info? 38).map (·.size) = some (#[.slice b0 n0 d0, .slice b1 n1 d1, .slice b2 n2 d2] : Array Value).size ∧ (#[.slice b0 n0 d0, .slice b1 n1 d1, .slice b2 n2 d2] : Array Value).all (·.oneCell') = true) from
  ⟨fun j hj => ⟨by have hj3 : j < 3 := hj; rw [cell_of HQ2.out.2.2.2.2, Array.getElem?_eq_getElem (by show 0 + j < 3; omega)]; rfl, frozen_of HQ2.out.2.2.2.2 _⟩, (by kernel_rfl : (Tryz.prog.info? 38).map (·.size) = some 3), all_oneCell_toArray (fun v hv => by simp only [List.mem_cons, List.not_mem_nil, or_false] at hv; rcases hv with rfl | rfl | rfl <;> rfl)⟩)
 refine last_one (j := 10) (by kernel_rfl) rfl (fun K hK => ?_)
 rw [if_pos (by rfl)]
 refine wp_store_mid 38 (.tmp 2) (.tmp 12) rfl (bb + 1) 0 #[.slice b0 n0 d0, .slice b1 n1 d1, .slice b2 n2 d2] rfl rfl HST.out.1 HST.out.2.1 HST.out.2.2 ?_
 refine hK.out _ _ (fun e => absurd rfl e) ?_
 clear hK K
 refine last_done (by kernel_rfl) ?_ _
 go_wp2_with fail
 obtain ⟨s1, s2, s3, s4, s5⟩ := HQ2.out
 have k8 : Keep (fun k => k = bb + 1) w7 (w7.setCells (bb + 1) 0 [.slice b0 n0 d0, .slice b1 n1 d1, .slice b2 n2 d2]) := keep_setCells (S := fun k => k = bb + 1) (bb + 1) (fun _ => rfl) _ _ _ (Keep.refl _ w7)
 have o8 := setCells_obj (bb + 1) 38 [.slice b0 n0 d0, .slice b1 n1 d1, .slice b2 n2 d2] 0 _ w7 s5
 refine bodyPost_ret (results_cell rfl _ _ _ ⟨bb + 1, 0, none⟩ (.agg #[.slice b0 n0 d0, .slice b1 n1 d1, .slice b2 n2 d2]) rfl (run_loadVar_row _ _ 38 38 _ (0, 0) _ o8 Tryz.underlying38 rfl HST.out.2.1)) rfl ?_
 have hz := cell_of s5 0
 exact ⟨b0, b1, b2, d0, d1, d2, rfl, IsTs.keepB s1 k8 hz, IsTs.keepB s2 k8 hz, IsTs.keepB s3 k8 hz, (HO.out.2.1.trans' s4).trans k8 (fun j hj e => by have := HO.out.2.2; omega), nws_le HN0.out HO.out.2.1.size, nws_le HN1.out.1 (Nat.le_trans HO.out.2.1.size HN1.out.2), nws_le HN2.out.1 (Nat.le_trans HO.out.2.1.size HN2.out.2)⟩

section
variable {Ω : Oc}
def seqR (Ω : Oc) (bs : List Nat) (t0 t1 t2 : Option Tb) : Option (List Sp × Option Tb × Option Tb × Option Tb) :=
  match numS bs with
  | none => none
  | some (n, r) => if n = 0 then (if r = [] then some ([], t0, t1, t2) else none) else
    match tablesR Ω (fun v => if v = 0 then t0 else if v = 1 then t1 else t2) r with
    | none => none
    | some (T, r2) => match stepsN r2 T n with
      | none => none
      | some l => some (l, some (T 0), some (T 1), some (T 2))
def GoodO (v : Nat) (t : Option Tb) : Prop := ∀ T, t = some T → GoodT (kdV v) T
def SqAns (w : World) (R : Option (List Sp × Option Tb × Option Tb × Option Tb)) (e : Ending) (w' : World) : Prop :=
 Keep noBlock w w' ∧ match R with
  | none => ∃ (v : Value) (c : Int), c ≠ 0 ∧ e = .returned (.tuple #[v, .agg #[.slice none 0 0, .slice none 0 0, .slice none 0 0], .int .i64 c])
  | some (l, t0, t1, t2) => ∃ v a0 n0 c0 a1 n1 c1 a2 n2 c2, e = .returned (.tuple #[v, .agg #[.slice a0 n0 c0, .slice a1 n1 c1, .slice a2 n2 c2], .int .i64 0]) ∧ SpRow w' v l ∧ IsTs w' (.slice a0 n0 c0) t0 ∧ IsTs w' (.slice a1 n1 c1) t1 ∧ IsTs w' (.slice a2 n2 c2) t2 ∧ (GoodO 0 t0 ∧ GoodO 1 t1 ∧ GoodO 2 t2) ∧ NwS w.heap.size v ∧ NwS w.heap.size (.slice a0 n0 c0) ∧ NwS w.heap.size (.slice a1 n1 c1) ∧ NwS w.heap.size (.slice a2 n2 c2)
/-- The worlds in which Read begins: its tables, the answer's tables, the section. -/
structure Bgn (w W : World) (b0 b1 b2 : Nat) (A : Array Value) (v : Value) : Prop where
 o0 : W.heap[b0]? = some (.cells A 38 (0, 0))
 o1 : W.heap[b1]? = some (.cells z3 38 (0, 0))
 o2 : IsSec W b2 v
 e0 : b0 = w.heap.size
 e1 : b1 = b0 + 1
 e2 : b2 = b1 + 1
 kp : Keep noBlock w W
theorem bgn (w : World) (A : Array Value) (v : Value) : Bgn w (((w.alloc (.cells A 38)).alloc (.cells z3 38)).alloc (.cells #[v] 98)) w.heap.size (w.heap.size + 1) (w.heap.size + 1 + 1) A v := by
 have e1 := alloc_new (w.alloc (.cells A 38)) (.cells z3 38)
 have e2 := alloc_new ((w.alloc (.cells A 38)).alloc (.cells z3 38)) (.cells #[v] 98)
 rw [World.size_alloc] at e1
 rw [World.size_alloc, World.size_alloc] at e2
 exact ⟨alloc_far (alloc_far (alloc_new w _) _) _, alloc_far e1 _, e2, rfl, rfl, rfl, (((Keep.refl _ w).alloc _).alloc _).alloc _⟩
theorem sq_none {w W : World} {b1 b2 : Nat} {v : Value} {c : Int} (hk : Keep (fun k => k = b2) w W) (h1 : w.heap.size ≤ b1) (h2 : w.heap.size ≤ b2) (ho : W.heap[b1]? = some (.cells #[.slice none 0 0, .slice none 0 0, .slice none 0 0] 38 (0, 0))) (hc : c ≠ 0) :
  ∀ W', W' = W.setRow b1 #[.slice none 0 0, .slice none 0 0, .slice none 0 0] → SqAns w none (.returned (.tuple #[v, .agg #[.slice none 0 0, .slice none 0 0, .slice none 0 0], .int .i64 c])) W' ∧ W'.heap[b1]? = some (.cells #[.slice none 0 0, .slice none 0 0, .slice none 0 0] 38 (0, 0)) := fun W' e => by
 have k3 : Keep (fun k => k = b1) W W' := by rw [e]; exact keep_setRow (Keep.refl (fun j => j = b1) W) b1 (fun _ => rfl) _
 refine ⟨⟨(hk.mono (T := noBlock) (fun k hk e => by omega)).trans k3 (fun j hj e => by omega), _, c, hc, rfl⟩, ?_⟩
 rw [e]
 exact setRow_heap W b1 _ _ 38 (0, 0) ho
theorem info38s : (Tryz.prog.info? 38).map (·.size) = some 3 := by kernel_rfl
theorem numS_drop {bs : List Nat} {n : Nat} {r : List Nat} (h : numS bs = some (n, r)) : ∃ k, r = bs.drop k := by
  match bs, h with
  | [], h => simp [numS] at h
  | [a], h =>
    by_cases h1 : a < 128
    · simp [numS, h1] at h; exact ⟨1, by rw [← h.2]; rfl⟩
    · simp [numS, h1] at h
  | [a, b], h =>
    by_cases h1 : a < 128
    · simp [numS, h1] at h; exact ⟨1, by rw [← h.2]; rfl⟩
    · by_cases h2 : a < 255
      · simp [numS, h1, h2] at h; exact ⟨2, by rw [← h.2]; rfl⟩
      · simp [numS, h1, h2] at h
  | a :: b :: c :: r3, h =>
    by_cases h1 : a < 128
    · simp [numS, h1] at h; exact ⟨1, by rw [← h.2]; rfl⟩
    · by_cases h2 : a < 255
      · simp [numS, h1, h2] at h; exact ⟨2, by rw [← h.2]; rfl⟩
      · simp [numS, h1, h2] at h; exact ⟨3, by rw [← h.2]; rfl⟩

set_option maxRecDepth 100000 in
set_option maxHeartbeats 16000000 in
theorem readS_all (w : World) (a : Option Addr) (cap g off : Nat) (bs : List Nat) (a0 a1 a2 : Option Addr) (n0 n1 n2 c0 c1 c2 : Nat) (t0 t1 t2 : Option Tb) (hB : Bytes w a cap g off bs) (hp : ∀ p, a = some p → p.block < w.heap.size) (hg : g < w.heap.size) (hl : bs.length ≤ 131072) (hO : Ords w)
    (h0 : IsTs w (.slice a0 n0 c0) t0) (h1 : IsTs w (.slice a1 n1 c1) t1) (h2 : IsTs w (.slice a2 n2 c2) t2) (g0 : GoodO 0 t0) (g1 : GoodO 1 t1) (g2 : GoodO 2 t2) :
    Calls Tryz.prog 32 #[.slice a bs.length cap, .agg #[.slice a0 n0 c0, .slice a1 n1 c1, .slice a2 n2 c2]] w fun e w' => SqAns w (seqR Ω bs t0 t1 t2) e w' := by
  obtain ⟨N, hN⟩ : ∃ N, N = bs.length := ⟨_, rfl⟩
  rw [← hN]
  have hlI : ¬ (131072 : Int) < (N : Int) := by omega
  have hlN : ¬ 131072 < N := by omega
  have hbg := bgn w #[.slice a0 n0 c0, .slice a1 n1 c1, .slice a2 n2 c2] (.slice a N cap)
  unfold z3 at hbg
  have hlt := hB.lt
  have HH := (show Hid (Bytes w a cap g off bs ∧ (∀ p, a = some p → p.block < w.heap.size) ∧ g < w.heap.size ∧ bs.length ≤ 131072 ∧ Ords w ∧ (IsTs w (.slice a0 n0 c0) t0 ∧ IsTs w (.slice a1 n1 c1) t1 ∧ IsTs w (.slice a2 n2 c2) t2) ∧ (GoodO 0 t0 ∧ GoodO 1 t1 ∧ GoodO 2 t2) ∧ N = bs.length) from ⟨hB, hp, hg, hl, hO, ⟨h0, h1, h2⟩, ⟨g0, g1, g2⟩, hN⟩)
  clear hB hp hg hO h0 h1 h2 g0 g1 g2 hN
  go_enter Tryz.func32, Tryz.ntmps32
  go_wp2_with fail
  generalize ((w.alloc (.cells #[.slice a0 n0 c0, .slice a1 n1 c1, .slice a2 n2 c2] 38)).alloc (.cells #[.slice none 0 0, .slice none 0 0, .slice none 0 0] 38)).alloc (.cells #[.slice a N cap] 98) = W at *
  generalize hb0 : w.heap.size = b0 at *
  generalize hb1 : b0 + 1 = b1 at *
  generalize hb2 : b1 + 1 = b2 at *
  have hsec : Sec W b2 g bs := by
    obtain ⟨y1, y2, y3, y4, y5, y6, y7, y8⟩ := HH.out
    refine ⟨a, cap, off, by rw [← y8]; exact hbg.o2, y1.keep hbg.kp (fun _ h => h), by omega, fun p hp => ?_⟩
    have := y2 p hp
    have := hbg.kp.size
    omega
  have HNm := (show Hid (Calls Tryz.prog 48 #[.pointer (some ⟨b2, 0, none⟩)] W fun e w' => NuP W b2 g (numS bs) e w') from number_all b2 g bs W hsec)
  have HBg := hid (And.intro hbg (And.intro hb0 (And.intro hb1 hb2)))
  clear hbg hb0 hb1 hb2 hsec
  cases hnm : numS bs with
  | none =>
    rw [hnm] at HNm
    have HR := hid (show seqR Ω bs t0 t1 t2 = none from by unfold seqR; rw [hnm])
    refine HNm.out.mono ?_
    rintro e W1 ⟨k1, v, rfl⟩
    have HK1 := hid k1
    clear HNm k1
    have HF := (show Hid (∀ W', W' = W1.setRow b1 #[.slice none 0 0, .slice none 0 0, .slice none 0 0] → SqAns w none (.returned (.tuple #[.slice none 0 0, .agg #[.slice none 0 0, .slice none 0 0, .slice none 0 0], .int .i64 10])) W' ∧ W'.heap[b1]? = some (.cells #[.slice none 0 0, .slice none 0 0, .slice none 0 0] 38 (0, 0))) from by
      have hbb := HBg.out.2
      exact sq_none ((HBg.out.1.kp.mono (T := fun k => k = b2) (fun _ _ h => h.elim)).trans' HK1.out) (by omega) (by omega) (HK1.out.obj HBg.out.1.o1 (by omega)) (by decide))
    have HO1 := (show Hid (W1.heap[b1]? = some (.cells #[.slice none 0 0, .slice none 0 0, .slice none 0 0] 38 (0, 0))) from by have hbb := HBg.out.2; exact HK1.out.obj HBg.out.1.o1 (by omega))
    go_wp2_with (refine wpList_store_row rfl 38 (.tmp 5) (.tmp 26) rfl b1 #[.slice none 0 0, .slice none 0 0, .slice none 0 0] rfl rfl 38 _ HO1.out info38s rfl (by kernel_rfl) ?_)
    obtain ⟨f1, f4⟩ := HF.out _ rfl
    refine bodyPost_ret (results_tct rfl _ _ _ ⟨b1, 0, none⟩ (.agg #[.slice none 0 0, .slice none 0 0, .slice none 0 0]) rfl (run_loadVar_row _ _ 38 38 _ (0, 0) _ f4 Tryz.underlying38 rfl info38s)) rfl ?_
    rw [HR.out]
    exact f1
  | some p =>
    obtain ⟨n, r⟩ := p
    rw [hnm] at HNm
    have hn2 := (numS_lt hlt hnm).1
    obtain ⟨nd, hnd⟩ := numS_drop hnm
    have HNd := hid hnd
    clear hnd
    refine HNm.out.mono ?_
    rintro e W1 ⟨k1, rfl, hsec⟩
    have HK1 := hid k1
    have HSec := hid hsec
    clear HNm k1
    by_cases hn0 : n = 0
    · subst hn0
      rw [show (((0 : Nat) : Int)) = (0 : Int) from rfl]
      obtain ⟨sa, scap, soff, s1, s2, s3, s4⟩ := hsec
      have cs := cell_of s1 0
      clear s1 s2 s3 s4
      by_cases hr : r = []
      · subst hr
        have HR := hid (show seqR Ω bs t0 t1 t2 = some ([], t0, t1, t2) from by unfold seqR; rw [hnm]; rfl)
        have HCp := (show Hid (Calls Tryz.prog 49 #[.agg #[.slice a0 n0 c0, .slice a1 n1 c1, .slice a2 n2 c2]] W1 fun e w' => ∃ b0 b1 b2 d0 d1 d2, e = .returned (.agg #[.slice b0 n0 d0, .slice b1 n1 d1, .slice b2 n2 d2]) ∧ Hid (IsTs w' (.slice b0 n0 d0) t0 ∧ IsTs w' (.slice b1 n1 d1) t1 ∧ IsTs w' (.slice b2 n2 d2) t2 ∧ Keep noBlock W1 w' ∧ NwS W1.heap.size (.slice b0 n0 d0) ∧ NwS W1.heap.size (.slice b1 n1 d1) ∧ NwS W1.heap.size (.slice b2 n2 d2))) from by
          obtain ⟨y1, y2, y3, y4, y5, ⟨i0, i1, i2⟩, ⟨g0, g1, g2⟩, y8⟩ := HH.out
          obtain ⟨x1, x2, x3, x4⟩ := HBg.out
          have kw : Keep noBlock w W1 := x1.kp.trans HK1.out (fun j hj e => by omega)
          exact copyOf_any a0 a1 a2 n0 n1 n2 c0 c1 c2 t0 t1 t2 W1 (i0.keep kw) (i1.keep kw) (i2.keep kw) (fun T h => Nat.le_trans (g0 T h).hl (g0 T h).ml) (fun T h => Nat.le_trans (g1 T h).hl (g1 T h).ml) (fun T h => Nat.le_trans (g2 T h).hl (g2 T h).ml))
        have o0 := HK1.out.obj HBg.out.1.o0 (by have := HBg.out.2; omega)
        have q0 : W1.cell? ⟨b0, 0, none⟩ = some (.slice a0 n0 c0) := cell_of o0 0
        have q1 : W1.cell? ⟨b0, 1, none⟩ = some (.slice a1 n1 c1) := cell_of o0 1
        have q2 : W1.cell? ⟨b0, 2, none⟩ = some (.slice a2 n2 c2) := cell_of o0 2
        clear o0
        go_wp2_with fail
        refine HCp.out.mono ?_
        rintro e W2 ⟨p0, p1, p2, d0, d1, d2, rfl, HX⟩
        have HO1 := (show Hid (W2.heap[b1]? = some (.cells #[.slice none 0 0, .slice none 0 0, .slice none 0 0] 38 (0, 0))) from HX.out.2.2.2.1.obj (HK1.out.obj HBg.out.1.o1 (by have := HBg.out.2; omega)) (fun h => h))
        have HZ3 := hid (show (#[.slice p0 n0 d0, .slice p1 n1 d1, .slice p2 n2 d2] : Array Value).all (·.oneCell') = true from all_oneCell_toArray (fun v hv => by simp only [List.mem_cons, List.not_mem_nil, or_false] at hv; rcases hv with rfl | rfl | rfl <;> rfl))
        have HF := (show Hid (∀ W', W' = W2.setRow b1 #[.slice p0 n0 d0, .slice p1 n1 d1, .slice p2 n2 d2] → SqAns w (seqR Ω bs t0 t1 t2) (.returned (.tuple #[.slice none 0 0, .agg #[.slice p0 n0 d0, .slice p1 n1 d1, .slice p2 n2 d2], .int .i64 0])) W' ∧ W'.heap[b1]? = some (.cells #[.slice p0 n0 d0, .slice p1 n1 d1, .slice p2 n2 d2] 38 (0, 0))) from fun W' e => by
          obtain ⟨x1, x2, x3, x4⟩ := HBg.out
          obtain ⟨z1, z2, z3, z4, z5, z6, z7⟩ := HX.out
          have k3 : Keep (fun k => k = b1) W2 W' := by rw [e]; exact keep_setRow (Keep.refl (fun j => j = b1) W2) b1 (fun _ => rfl) _
          have hz := cell_of HO1.out 0
          have kw : Keep noBlock w W1 := x1.kp.trans HK1.out (fun j hj e => by omega)
          rw [HR.out]
          refine ⟨⟨(kw.trans' z4).trans k3 (fun j hj e => by omega), _, _, _, _, _, _, _, _, _, _, rfl, ⟨none, 0, rfl, .inl rfl⟩, IsTs.keepB z1 k3 hz, IsTs.keepB z2 k3 hz, IsTs.keepB z3 k3 hz, HH.out.2.2.2.2.2.2.1, (fun p l c h => by cases h), nws_le z5 kw.size, nws_le z6 kw.size, nws_le z7 kw.size⟩, ?_⟩
          rw [e]
          exact setRow_heap W2 b1 _ _ 38 (0, 0) HO1.out)
        clear HCp q0 q1 q2 cs
        go_wp2_with (refine wpList_store_row rfl 38 (.tmp 5) (.tmp 37) rfl b1 #[.slice p0 n0 d0, .slice p1 n1 d1, .slice p2 n2 d2] rfl rfl 38 _ HO1.out info38s rfl HZ3.out ?_)
        obtain ⟨f1, f4⟩ := HF.out _ rfl
        refine bodyPost_ret (results_tct rfl _ _ _ ⟨b1, 0, none⟩ (.agg #[.slice p0 n0 d0, .slice p1 n1 d1, .slice p2 n2 d2]) rfl (run_loadVar_row _ _ 38 38 _ (0, 0) _ f4 Tryz.underlying38 rfl info38s)) rfl ?_
        exact f1
      · have HR := hid (show seqR Ω bs t0 t1 t2 = none from by unfold seqR; rw [hnm]; simp [hr])
        have hrp : 0 < r.length := List.length_pos_iff.2 hr
        obtain ⟨rl, hrl⟩ : ∃ rl, rl = r.length := ⟨_, rfl⟩
        rw [← hrl] at cs hrp
        have hrI : (0 : Int) < (rl : Int) := by omega
        clear hrl
        have HF := (show Hid (∀ W', W' = W1.setRow b1 #[.slice none 0 0, .slice none 0 0, .slice none 0 0] → SqAns w none (.returned (.tuple #[.slice none 0 0, .agg #[.slice none 0 0, .slice none 0 0, .slice none 0 0], .int .i64 11])) W' ∧ W'.heap[b1]? = some (.cells #[.slice none 0 0, .slice none 0 0, .slice none 0 0] 38 (0, 0))) from by
          have hbb := HBg.out.2
          exact sq_none ((HBg.out.1.kp.mono (T := fun k => k = b2) (fun _ _ h => h.elim)).trans' HK1.out) (by omega) (by omega) (HK1.out.obj HBg.out.1.o1 (by omega)) (by decide))
        have HO1 := (show Hid (W1.heap[b1]? = some (.cells #[.slice none 0 0, .slice none 0 0, .slice none 0 0] 38 (0, 0))) from by have hbb := HBg.out.2; exact HK1.out.obj HBg.out.1.o1 (by omega))
        go_wp2_with (refine wpList_store_row rfl 38 (.tmp 5) (.tmp 35) rfl b1 #[.slice none 0 0, .slice none 0 0, .slice none 0 0] rfl rfl 38 _ HO1.out info38s rfl (by kernel_rfl) ?_)
        obtain ⟨f1, f4⟩ := HF.out _ rfl
        refine bodyPost_ret (results_tct rfl _ _ _ ⟨b1, 0, none⟩ (.agg #[.slice none 0 0, .slice none 0 0, .slice none 0 0]) rfl (run_loadVar_row _ _ 38 38 _ (0, 0) _ f4 Tryz.underlying38 rfl info38s)) rfl ?_
        rw [HR.out]
        exact f1
    · have hn0b : ((n : Int) == 0) = false := by simp; omega
      have hn0d : decide (n = 0) = false := decide_eq_false hn0
      have hnI : (n : Int) ≤ 98047 := by omega
      have HC := hid (codings_any W1)
      have o0 := HK1.out.obj HBg.out.1.o0 (by have := HBg.out.2; omega)
      have HO0 := hid o0
      clear o0 hsec
      go_wp2_with fail
      refine HC.out.mono ?_
      rintro e w1 ⟨g0, g1, g2, rfl, o0, o1, o2, l0, l1, l2, k1⟩
      generalize hA : (codA (.slice (some ⟨g0, 0, none⟩) 36 36) (.slice (some ⟨g1, 0, none⟩) 29 29) (.slice (some ⟨g2, 0, none⟩) 53 53)).toArray = A
      have hsz : A.size = 330 := by rw [← hA, List.size_toArray]; exact codA_length _ _ _
      have HJ : Hid ((Tryz.prog.info? 107).map (·.size) = some A.size) := by rw [hsz]; exact info58
      have HJ2 := hid (show Tryz.zeroCells107.size = A.size from by rw [hsz]; exact zero58_size)
      have H1 : Hid (A.all (·.oneCell') = true) := by rw [← hA]; exact codA_one _ _ _ _ _ _
      obtain ⟨cK, hcK⟩ : ∃ cK, cK = w1.heap.size := ⟨_, rfl⟩
      have H2 := (show Hid (∀ W2, W2 = w1.alloc (.cells A 107) → Cods W2 cK g0 g1 g2 ∧ Keep noBlock W1 W2 ∧ W1.heap.size ≤ cK ∧ W1.heap.size ≤ g0 ∧ W1.heap.size ≤ g1 ∧ W1.heap.size ≤ g2) from fun W2 e => by
        rw [e, hcK]
        exact ⟨cods_of ⟨by rw [hA]; exact alloc_new w1 _, alloc_far o0 _, alloc_far o1 _, alloc_far o2 _⟩, k1.alloc _, k1.size, l0, l1, l2⟩)
      have od := k1.obj HO0.out (fun h => h)
      have d0 : (w1.alloc (.cells A 107)).cell? ⟨b0, 0, none⟩ = some (.slice a0 n0 c0) := cell_of (alloc_far od _) 0
      have d1 : (w1.alloc (.cells A 107)).cell? ⟨b0, 1, none⟩ = some (.slice a1 n1 c1) := cell_of (alloc_far od _) 1
      have d2 : (w1.alloc (.cells A 107)).cell? ⟨b0, 2, none⟩ = some (.slice a2 n2 c2) := cell_of (alloc_far od _) 2
      have HCK := hid hcK
      clear hA hsz o0 o1 o2 l0 l1 l2 k1 HC hcK od
      have H3 := (show Hid (∀ W : World, _) from fun W => three_any a0 a1 a2 n0 n1 n2 c0 c1 c2 W)
      go_wp2_with (refine wpList_store_row rfl 107 (.tmp 10) (.tmp 38) rfl w1.heap.size A rfl rfl 107 _ (World.alloc_heap_new w1 _) HJ.out HJ2.out H1.out ?_; rw [World.setRow_alloc_new])
      obtain ⟨W2, hW2⟩ : ∃ W2, W2 = w1.alloc (.cells A 107) := ⟨_, rfl⟩
      rw [← hW2, ← HCK.out]
      have HW2 := hid (H2.out W2 hW2)
      clear H2 hW2 HCK d0 d1 d2 HJ HJ2 H1
      refine (H3.out W2).mono ?_
      rintro e W3 ⟨rfl, k3⟩
      have HT := (show Hid (Calls Tryz.prog 51 #[.pointer (some ⟨b2, 0, none⟩), .pointer (some ⟨cK, 0, none⟩), .agg #[.slice a0 n0 c0, .slice a1 n1 c1, .slice a2 n2 c2]] W3 fun e w' => TbsAns W3 b2 g (tablesR Ω (fun v => if v = 0 then t0 else if v = 1 then t1 else t2) r) e w') from by
        obtain ⟨y1, y2, y3, y4, y5, ⟨i0, i1, i2⟩, ⟨gd0, gd1, gd2⟩, y8⟩ := HH.out
        obtain ⟨x1, x2, x3, x4⟩ := HBg.out
        obtain ⟨z1, z2, z3, z4, z5, z6⟩ := HW2.out
        have kk := z2.trans' k3
        have kw : Keep noBlock w W1 := x1.kp.trans HK1.out (fun j hj e => by omega)
        have kw3 := kw.trans' kk
        have hsec3 := HSec.out.keep kk (fun h => h) (fun h => h)
        have hb2l : b2 < W1.heap.size := by obtain ⟨_, _, _, q, _⟩ := HSec.out; exact obj_lt q
        have hsz := kk.size
        have hsw := kw.size
        have hav : ∀ {x : Value} {t : Option Tb}, IsTs w x t → (match t with
            | none => x = .slice none 0 0
            | some T => ∃ tg cap, x = .slice (some ⟨tg, 0, none⟩) (2 ^ T.l) cap ∧ IsTb W3 tg T ∧ tg ≠ b2) := fun {x t} h => by
          cases t with
          | none => exact h
          | some T =>
            obtain ⟨tg, cp, e, hT⟩ := h
            exact ⟨tg, cp, e, hT.keep kw3 (fun h => h), by have := hT.lt; omega⟩
        refine tables_all W3 b2 g cK g0 g1 g2 #[.slice a0 n0 c0, .slice a1 n1 c1, .slice a2 n2 c2] _ r hsec3 (z1.keep k3 (fun h => h) (fun h => h) (fun h => h) (fun h => h)) rfl (all_oneCell_toArray (fun v hv => by simp only [List.mem_cons, List.not_mem_nil, or_false] at hv; rcases hv with rfl | rfl | rfl <;> rfl)) ?_ ?_ (by omega) (by omega) (by omega) (by rw [HNd.out, List.length_drop]; omega)
        · intro v hv
          rcases (show v = 0 ∨ v = 1 ∨ v = 2 by omega) with rfl | rfl | rfl
          · exact ⟨_, rfl, hav i0⟩
          · exact ⟨_, rfl, hav i1⟩
          · exact ⟨_, rfl, hav i2⟩
        · intro v hv
          rcases (show v = 0 ∨ v = 1 ∨ v = 2 by omega) with rfl | rfl | rfl
          · exact gd0
          · exact gd1
          · exact gd2)
      have HK3 := (show Hid (Keep noBlock W1 W3 ∧ Cods W3 cK g0 g1 g2 ∧ W1.heap.size ≤ cK ∧ W1.heap.size ≤ g0 ∧ W1.heap.size ≤ g1 ∧ W1.heap.size ≤ g2) from ⟨HW2.out.2.1.trans' k3, HW2.out.1.keep k3 (fun h => h) (fun h => h) (fun h => h) (fun h => h), HW2.out.2.2⟩)
      clear k3 H3 HW2
      go_wp2_with fail
      cases htb : tablesR Ω (fun v => if v = 0 then t0 else if v = 1 then t1 else t2) r with
      | none =>
        rw [htb] at HT
        have HR := hid (show seqR Ω bs t0 t1 t2 = none from by unfold seqR; rw [hnm]; simp [hn0, htb])
        refine HT.out.mono ?_
        rintro e W4 ⟨k4, U, E, hE, hU3, hU1, rfl⟩
        have HK4 := (show Hid (Keep (fun k => k = b2) w W4 ∧ Keep (fun k => k = b2) W1 W4) from by
          have k14 := (HK3.out.1.mono (T := fun k => k = b2) (fun _ _ h => h.elim)).trans' k4
          exact ⟨((HBg.out.1.kp.mono (T := fun k => k = b2) (fun _ _ h => h.elim)).trans' HK1.out).trans' k14, k14⟩)
        have HU := hid (show (Tryz.prog.info? 109).map (·.size) = some U.size from by rw [hU3]; kernel_rfl)
        have HUo := hid hU1
        have HUz := hid (show (#[.slice none 0 0, .slice none 0 0, .slice none 0 0] : Array Value).size = U.size from by rw [hU3]; rfl)
        have hE0 : ((E : Int) != 0) = true := by simpa using hE
        have HE := hid hE
        have HF := (show Hid (∀ W', W' = (W4.alloc (.cells U 109)).setRow b1 #[.slice none 0 0, .slice none 0 0, .slice none 0 0] → SqAns w none (.returned (.tuple #[.slice none 0 0, .agg #[.slice none 0 0, .slice none 0 0, .slice none 0 0], .int .i64 E])) W' ∧ W'.heap[b1]? = some (.cells #[.slice none 0 0, .slice none 0 0, .slice none 0 0] 38 (0, 0))) from by
          have hbb := HBg.out.2
          exact sq_none (HK4.out.1.alloc _) (by omega) (by omega) (alloc_far (HK4.out.2.obj (HK1.out.obj HBg.out.1.o1 (by omega)) (by omega)) _) hE)
        have HO1 := (show Hid ((W4.alloc (.cells U 109)).heap[b1]? = some (.cells #[.slice none 0 0, .slice none 0 0, .slice none 0 0] 38 (0, 0))) from by
          have hbb := HBg.out.2
          exact alloc_far (HK4.out.2.obj (HK1.out.obj HBg.out.1.o1 (by omega)) (by omega)) _)
        clear hU3 hU1 HT k4 hE
        go_wp2_with (first | (refine wpList_store_row rfl 109 (.tmp 11) (.tmp 44) rfl W4.heap.size U rfl rfl 109 _ (World.alloc_heap_new W4 _) HU.out HUz.out HUo.out ?_; rw [World.setRow_alloc_new]) | (refine wpList_store_row rfl 38 (.tmp 5) (.tmp 48) rfl b1 #[.slice none 0 0, .slice none 0 0, .slice none 0 0] rfl rfl 38 _ HO1.out info38s rfl (by kernel_rfl) ?_))
        obtain ⟨f1, f4⟩ := HF.out _ rfl
        refine bodyPost_ret (results_tct rfl _ _ _ ⟨b1, 0, none⟩ (.agg #[.slice none 0 0, .slice none 0 0, .slice none 0 0]) rfl (run_loadVar_row _ _ 38 38 _ (0, 0) _ f4 Tryz.underlying38 rfl info38s)) rfl ?_
        rw [HR.out]
        exact f1
      | some p =>
        obtain ⟨T, r2⟩ := p
        rw [htb] at HT
        refine HT.out.mono ?_
        rintro e W4 ⟨k4, tg, tcap, rfl, p1, p2⟩
        have HK4 := (show Hid (Keep (fun k => k = b2) w W4 ∧ Keep (fun k => k = b2) W1 W4) from by
          have k14 := (HK3.out.1.mono (T := fun k => k = b2) (fun _ _ h => h.elim)).trans' k4
          exact ⟨((HBg.out.1.kp.mono (T := fun k => k = b2) (fun _ _ h => h.elim)).trans' HK1.out).trans' k14, k14⟩)
        have hdr : ∃ m, r2 = r.drop m := by
          cases r with
          | nil => cases htb
          | cons kb r =>
            by_cases hm : kb % 4 ≠ 0
            · rw [show tablesR Ω (fun v => if v = 0 then t0 else if v = 1 then t1 else t2) (kb :: r) = none from if_pos hm] at htb; cases htb
            · rw [show tablesR Ω (fun v => if v = 0 then t0 else if v = 1 then t1 else t2) (kb :: r) = tabsN Ω kb _ r 3 from if_neg hm] at htb
              obtain ⟨m, hm⟩ := tabsN_drop (Nat.le_refl _) htb
              exact ⟨m + 1, by rw [hm]; rfl⟩
        have HP := (show Hid ((∀ v, v < 3 → IsTb W4 (tg v) (T v) ∧ W3.heap.size ≤ tg v ∧ GoodT (kdV v) (T v)) ∧ Sec W4 b2 g r2 ∧ (∃ m, r2 = r.drop m) ∧ Keep (fun k => k = b2) W3 W4) from ⟨p1, p2, hdr, k4⟩)
        obtain ⟨U, hU⟩ : ∃ U, U = tabA T tg tcap := ⟨_, rfl⟩
        have hU3 : U.size = 3 := by rw [hU]; rfl
        have HU := hid (show (Tryz.prog.info? 109).map (·.size) = some U.size from by rw [hU3]; kernel_rfl)
        have HUo := hid (show U.all (·.oneCell') = true from by rw [hU]; exact all_oneCell_toArray (fun v hv => by simp only [List.mem_cons, List.not_mem_nil, or_false] at hv; rcases hv with rfl | rfl | rfl <;> rfl))
        have HUz := hid (show (#[.slice none 0 0, .slice none 0 0, .slice none 0 0] : Array Value).size = U.size from by rw [hU3]; rfl)
        rw [← hU]
        have HUe := hid hU
        clear hU3 HT k4 p1 p2 hU hdr
        have HZ := (show Hid ((W4.alloc (.cells U 109)).heap[W4.heap.size]? = some (.cells U 109 (0, 0))) from alloc_new W4 _)
        go_wp2_with (first | (refine wpList_store_row rfl 109 (.tmp 11) (.tmp 44) rfl W4.heap.size U rfl rfl 109 _ (World.alloc_heap_new W4 _) HU.out HUz.out HUo.out ?_; rw [World.setRow_alloc_new]) | (refine wpList_load_row rfl 109 (.tmp 11) rfl W4.heap.size rfl 109 U (0, 0) _ HZ.out Tryz.underlying109 rfl HU.out ?_))
        obtain ⟨ub, hub⟩ : ∃ ub, ub = W4.heap.size := ⟨_, rfl⟩
        obtain ⟨W5, hW5⟩ : ∃ W5, W5 = W4.alloc (.cells U 109) := ⟨_, rfl⟩
        rw [← hW5, ← hub]
        have H5 := (show Hid (Keep (fun k => k = b2) w W5 ∧ Sec W5 b2 g r2 ∧ Cods W5 cK g0 g1 g2 ∧ (∀ v, v < 3 → IsTb W5 (tg v) (T v) ∧ GoodT (kdV v) (T v) ∧ w.heap.size ≤ tg v) ∧ W5.heap[ub]? = some (.cells U 109 (0, 0)) ∧ W5.heap[b1]? = some (.cells #[.slice none 0 0, .slice none 0 0, .slice none 0 0] 38 (0, 0)) ∧ b1 < ub ∧ Ords W5 ∧ r2.length ≤ 131072) from by
          obtain ⟨p1, p2, ⟨m, hm⟩, p3⟩ := HP.out
          obtain ⟨q1, q2, q3, q4, q5, q6⟩ := HK3.out
          obtain ⟨x1, x2, x3, x4⟩ := HBg.out
          obtain ⟨y1, y2, y3, y4, y5, -, -, y8⟩ := HH.out
          have hb2l : b2 < W1.heap.size := by obtain ⟨_, _, _, q, _⟩ := HSec.out; exact obj_lt q
          have k5 : Keep noBlock W4 W5 := by rw [hW5]; exact (Keep.refl _ W4).alloc _
          have s1 := q1.size
          have s2 := p3.size
          have s3 := HK4.out.1.size
          have o3 := y5.lt
          have kw5 := HK4.out.1.trans k5 (fun _ _ h => h.elim)
          refine ⟨kw5, p2.keep k5 (fun h => h) (fun h => h), (q2.keep p3 (by omega) (by omega) (by omega) (by omega)).keep k5 (fun h => h) (fun h => h) (fun h => h) (fun h => h), fun v hv => ⟨(p1 v hv).1.keep k5 (fun h => h), (p1 v hv).2.2, by have := (p1 v hv).2.1; have := HK1.out.size; have := HBg.out.1.kp.size; omega⟩, by rw [hW5, hub]; exact alloc_new W4 _, k5.obj (HK4.out.2.obj (HK1.out.obj x1.o1 (by omega)) (by omega)) (fun h => h), by omega, y5.keep kw5 (by omega) (by omega), ?_⟩
          rw [hm, HNd.out, List.length_drop, List.length_drop]
          omega)
        have HSt := (show Hid (Calls Tryz.prog 53 #[.pointer (some ⟨b2, 0, none⟩), .int .i64 (n : Int), .pointer (some ⟨cK, 0, none⟩), .agg U] W5 fun e w' => StpAns W5 (stepsN r2 T n) e w') from by
          obtain ⟨h1, h2, h3, h4, h5, h6, h7, h8, h9⟩ := H5.out
          rw [HUe.out]
          exact steps_all W5 b2 g cK g0 g1 g2 r2 T tg tcap n h2 h3 (fun v hv => (h4 v hv).1) (fun v hv => (h4 v hv).2.1) h8 (by omega) hn2 h9)
        obtain ⟨u0, q0, z0, u1, q1, z1, u2, q2, z2, hu⟩ : ∃ (u0 : Option Addr) (q0 z0 : Nat) (u1 : Option Addr) (q1 z1 : Nat) (u2 : Option Addr) (q2 z2 : Nat), U = #[.slice u0 q0 z0, .slice u1 q1 z1, .slice u2 q2 z2] := ⟨_, _, _, _, _, _, _, _, _, HUe.out⟩
        have HUU := hid hu
        clear HZ hub hW5 HP HU HUo HUz hu
        cases hsn : stepsN r2 T n with
        | none =>
          rw [hsn] at HSt
          have HR := hid (show seqR Ω bs t0 t1 t2 = none from by unfold seqR; rw [hnm]; simp [hn0, htb, hsn])
          refine HSt.out.mono ?_
          rintro e W6 ⟨k6, v6, rfl⟩
          have HK6 := (show Hid (Keep (fun k => k = b2) w W6 ∧ W6.heap[b1]? = some (.cells #[.slice none 0 0, .slice none 0 0, .slice none 0 0] 38 (0, 0))) from ⟨H5.out.1.trans k6 (fun _ _ h => h.elim), k6.obj H5.out.2.2.2.2.2.1 (fun h => h)⟩)
          clear k6 HSt
          have HF := (show Hid (∀ W', W' = W6.setRow b1 #[.slice none 0 0, .slice none 0 0, .slice none 0 0] → SqAns w none (.returned (.tuple #[.slice none 0 0, .agg #[.slice none 0 0, .slice none 0 0, .slice none 0 0], .int .i64 11])) W' ∧ W'.heap[b1]? = some (.cells #[.slice none 0 0, .slice none 0 0, .slice none 0 0] 38 (0, 0))) from by
            have hbb := HBg.out.2
            exact sq_none (HK6.out.1) (by omega) (by omega) (HK6.out.2) (by decide))
          have HO1 := (show Hid (W6.heap[b1]? = some (.cells #[.slice none 0 0, .slice none 0 0, .slice none 0 0] 38 (0, 0))) from by have hbb := HBg.out.2; exact HK6.out.2)
          go_wp2_with (refine wpList_store_row rfl 38 (.tmp 5) (.tmp 59) rfl b1 #[.slice none 0 0, .slice none 0 0, .slice none 0 0] rfl rfl 38 _ HO1.out info38s rfl (by kernel_rfl) ?_)
          obtain ⟨f1, f4⟩ := HF.out _ rfl
          refine bodyPost_ret (results_tct rfl _ _ _ ⟨b1, 0, none⟩ (.agg #[.slice none 0 0, .slice none 0 0, .slice none 0 0]) rfl (run_loadVar_row _ _ 38 38 _ (0, 0) _ f4 Tryz.underlying38 rfl info38s)) rfl ?_
          rw [HR.out]
          exact f1
        | some l =>
          rw [hsn] at HSt
          have HR := hid (show seqR Ω bs t0 t1 t2 = some (l, some (T 0), some (T 1), some (T 2)) from by unfold seqR; rw [hnm]; simp [hn0, htb, hsn])
          refine HSt.out.mono ?_
          rintro e W6 ⟨k6, v6, rfl, hrow, hnw⟩
          obtain ⟨ra, rn, hra, hrb⟩ := hrow.form
          have HM := (show Hid (Keep noBlock W5 W6 ∧ SpRow W6 v6 l ∧ NwS W5.heap.size v6) from ⟨k6, hrow, hnw⟩)
          obtain ⟨ln, hln⟩ : ∃ ln, ln = l.length := ⟨_, rfl⟩
          rw [← hln] at hra
          subst hra
          clear hrow hrb k6 HSt hln hnw
          go_wp2_with fail
          obtain ⟨W9, hW9⟩ : ∃ W9, W9 = W6.drew := ⟨_, rfl⟩
          have k9 : Keep noBlock W5 W9 := by rw [hW9]; exact HM.out.1.drew
          have ou := k9.obj H5.out.2.2.2.2.1 (fun h => h)
          rw [HUU.out] at ou
          have ob := k9.obj H5.out.2.2.2.2.2.1 (fun h => h)
          have g1' : W9.cell? ⟨ub, 0, none⟩ = some (.slice u0 q0 z0) ∧ W9.cell? ⟨ub, 1, none⟩ = some (.slice u1 q1 z1) ∧ W9.cell? ⟨ub, 2, none⟩ = some (.slice u2 q2 z2) := ⟨cell_of ou 0, cell_of ou 1, cell_of ou 2⟩
          have kz : Keep (fun k => k = b1) W9 (W9.setCells b1 0 [(.slice u0 q0 z0), (.slice u1 q1 z1), (.slice u2 q2 z2)]) := keep_setCells (S := fun k => k = b1) b1 (fun _ => rfl) _ _ _ (Keep.refl _ W9)
          have hub1 : ub ≠ b1 := by have := H5.out.2.2.2.2.2.2.1; omega
          have g2' : (W9.setCells b1 0 [(.slice u0 q0 z0), (.slice u1 q1 z1), (.slice u2 q2 z2)]).cell? ⟨ub, 0, none⟩ = some (.slice u0 q0 z0) ∧ (W9.setCells b1 0 [(.slice u0 q0 z0), (.slice u1 q1 z1), (.slice u2 q2 z2)]).cell? ⟨ub, 1, none⟩ = some (.slice u1 q1 z1) ∧ (W9.setCells b1 0 [(.slice u0 q0 z0), (.slice u1 q1 z1), (.slice u2 q2 z2)]).cell? ⟨ub, 2, none⟩ = some (.slice u2 q2 z2) := ⟨cell_of (kz.obj ou hub1) 0, cell_of (kz.obj ou hub1) 1, cell_of (kz.obj ou hub1) 2⟩
          have HST := (show Hid (W9.there b1 0 (#[(.slice u0 q0 z0), (.slice u1 q1 z1), (.slice u2 q2 z2)] : Array Value).size ∧ (Tryz.prog.info? 38).map (·.size) = some (#[(.slice u0 q0 z0), (.slice u1 q1 z1), (.slice u2 q2 z2)] : Array Value).size ∧ (#[(.slice u0 q0 z0), (.slice u1 q1 z1), (.slice u2 q2 z2)] : Array Value).all (·.oneCell') = true) from
            ⟨fun j hj => ⟨by have hj3 : j < 3 := hj; rw [cell_of ob, Array.getElem?_eq_getElem (by show 0 + j < 3; omega)]; rfl, frozen_of ob _⟩, info38s, all_oneCell_toArray (fun v hv => by simp only [List.mem_cons, List.not_mem_nil, or_false] at hv; rcases hv with rfl | rfl | rfl <;> rfl)⟩)
          have HF := (show Hid ((W9.setCells b1 0 [(.slice u0 q0 z0), (.slice u1 q1 z1), (.slice u2 q2 z2)]).heap[b1]? = some (.cells #[(.slice u0 q0 z0), (.slice u1 q1 z1), (.slice u2 q2 z2)] 38 (0, 0)) ∧ SqAns w (seqR Ω bs t0 t1 t2) (.returned (.tuple #[.slice ra ln rn, .agg #[(.slice u0 q0 z0), (.slice u1 q1 z1), (.slice u2 q2 z2)], .int .i64 0])) (W9.setCells b1 0 [(.slice u0 q0 z0), (.slice u1 q1 z1), (.slice u2 q2 z2)])) from by
            refine ⟨setCells_obj b1 38 [(.slice u0 q0 z0), (.slice u1 q1 z1), (.slice u2 q2 z2)] 0 _ W9 ob, ?_⟩
            obtain ⟨x1, x2, x3, x4⟩ := HBg.out
            obtain ⟨h1, h2, h3, h4, h5, h6, h7, h8, h9⟩ := H5.out
            have hz := cell_of ob 0
            have k69 : Keep noBlock W6 W9 := by rw [hW9]; exact (Keep.refl _ W6).drew
            have kall : Keep noBlock w (W9.setCells b1 0 [(.slice u0 q0 z0), (.slice u1 q1 z1), (.slice u2 q2 z2)]) := ((h1.mono (T := noBlock) (fun k hk e => by omega)).trans' k9).trans kz (fun j hj e => by omega)
            have hue := HUU.out
            rw [HUe.out] at hue
            have ht : ∀ v, v < 3 → IsTb (W9.setCells b1 0 [(.slice u0 q0 z0), (.slice u1 q1 z1), (.slice u2 q2 z2)]) (tg v) (T v) := fun v hv => ((h4 v hv).1.keep k9 (fun h => h)).keep kz (tb_ne ((h4 v hv).1.keep k9 (fun h => h)) hz)
            unfold tabA at hue
            simp only [Array.mk.injEq, List.cons.injEq, Value.slice.injEq, and_true] at hue
            obtain ⟨⟨e1, e2, e3⟩, ⟨e4, e5, e6⟩, ⟨e7, e8, e9⟩⟩ := hue
            rw [HR.out]
            refine ⟨kall, _, _, _, _, _, _, _, _, _, _, rfl, ?_, ⟨tg 0, tcap 0, by rw [e1, e2, e3], ht 0 (by omega)⟩, ⟨tg 1, tcap 1, by rw [e4, e5, e6], ht 1 (by omega)⟩, ⟨tg 2, tcap 2, by rw [e7, e8, e9], ht 2 (by omega)⟩, ⟨fun X hX => by cases hX; exact (h4 0 (by omega)).2.1, fun X hX => by cases hX; exact (h4 1 (by omega)).2.1, fun X hX => by cases hX; exact (h4 2 (by omega)).2.1⟩, nws_le HM.out.2.2 h1.size, (fun p l c e => by rw [← e1] at e; cases e; exact (h4 0 (by omega)).2.2), (fun p l c e => by rw [← e4] at e; cases e; exact (h4 1 (by omega)).2.2), (fun p l c e => by rw [← e7] at e; cases e; exact (h4 2 (by omega)).2.2)⟩
            obtain ⟨ra', rn', e, hr⟩ := HM.out.2.1.form
            cases e
            refine ⟨ra, rn, rfl, hr.imp id (fun ⟨gg, q1, q2, q3⟩ => ⟨gg, q1, ?_, fun k s hs => ?_⟩)⟩
            · have := k69.size
              have := kz.size
              omega
            · obtain ⟨c0, c1, c2⟩ := q3 k s hs
              have hne : gg ≠ b1 := fun e => by
                obtain ⟨c0, -, -⟩ := q3 0 (l[0]?.getD (0, 0, 0)) (by
                  have : 0 < l.length := Nat.lt_of_le_of_lt (Nat.zero_le k) (List.getElem?_eq_some_iff.1 hs).1
                  rw [List.getElem?_eq_getElem this]; rfl)
                have hz6 : W6.cell? ⟨b1, 0, none⟩ = some (.slice none 0 0) := cell_of (HM.out.1.obj h6 (fun h => h)) 0
                rw [Nat.zero_mul, e, hz6] at c0
                cases c0
              exact ⟨keep_cellS kz hne (keep_cell0 k69 c0), keep_cellS kz hne (keep_cell0 k69 c1), keep_cellS kz hne (keep_cell0 k69 c2)⟩)
          have HW9 := hid hW9
          clear hW9 k9 ou ob kz hub1
          refine region_last (fun W => W.cell? ⟨ub, 0, none⟩ = some (.slice u0 q0 z0) ∧ W.cell? ⟨ub, 1, none⟩ = some (.slice u1 q1 z1) ∧ W.cell? ⟨ub, 2, none⟩ = some (.slice u2 q2 z2)) 10 mx (by rw [← HW9.out]; exact g1') (fun hS => ?_)
          refine tk (i := 0) (v := ?_) rfl (by kernel_rfl) (fun _ _ _ h => h) (by rfl) ?_ (by assumption) ?_
          rotate_left 1
          · intro w hSw; (try dsimp only at hSw); (try obtain ⟨hSw1, hSw2, hSw3⟩ := hSw); (go_simp <;> with_reducible rfl)
          simp only [Act.put, tA, tB, tD, tE, tF]
          refine tk (i := 1) (v := ?_) rfl (by kernel_rfl) (fun _ _ _ h => h) (by rfl) ?_ (by assumption) ?_
          rotate_left 1
          · intro w hSw; (try dsimp only at hSw); (try obtain ⟨hSw1, hSw2, hSw3⟩ := hSw); (go_simp <;> with_reducible rfl)
          simp only [Act.put, tA, tB, tC, tD, tE, tF]
          refine tk (i := 2) (v := ?_) rfl (by kernel_rfl) (fun _ _ _ h => h) (by rfl) ?_ (by assumption) ?_
          rotate_left 1
          · intro w hSw; (try dsimp only at hSw); (try obtain ⟨hSw1, hSw2, hSw3⟩ := hSw); (go_simp <;> with_reducible rfl)
          simp only [Act.put, tA, tB, tC, tD, tE, tF]
          refine tk (i := 3) (v := ?_) rfl (by kernel_rfl) (fun _ _ _ h => h) (by rfl) ?_ (by assumption) ?_
          rotate_left 1
          · intro w hSw; (try dsimp only at hSw); (try obtain ⟨hSw1, hSw2, hSw3⟩ := hSw); (go_simp <;> with_reducible rfl)
          simp only [Act.put, tA, tB, tC, tD, tE, tF]
          refine tk (i := 4) (v := ?_) rfl (by kernel_rfl) (fun _ _ _ h => h) (by rfl) ?_ (by assumption) ?_
          rotate_left 1
          · intro w hSw; (try dsimp only at hSw); (try obtain ⟨hSw1, hSw2, hSw3⟩ := hSw); (go_simp <;> with_reducible rfl)
          simp only [Act.put, tA, tB, tC, tD, tE, tF]
          refine tk (i := 5) (v := ?_) rfl (by kernel_rfl) (fun _ _ _ h => h) (by rfl) ?_ (by assumption) ?_
          rotate_left 1
          · intro w hSw; (try dsimp only at hSw); (try obtain ⟨hSw1, hSw2, hSw3⟩ := hSw); (go_simp <;> with_reducible rfl)
          simp only [Act.put, tA, tB, tC, tD, tE, tF]
          refine tk (i := 6) (v := ?_) rfl (by kernel_rfl) (fun _ _ _ h => h) (by rfl) ?_ (by assumption) ?_
          rotate_left 1
          · intro w hSw; (try dsimp only at hSw); (try obtain ⟨hSw1, hSw2, hSw3⟩ := hSw); (go_simp <;> with_reducible rfl)
          simp only [Act.put, tA, tB, tC, tD, tE, tF]
          refine tk (i := 7) (v := ?_) rfl (by kernel_rfl) (fun _ _ _ h => h) (by rfl) ?_ (by assumption) ?_
          rotate_left 1
          · intro w hSw; (try dsimp only at hSw); (try obtain ⟨hSw1, hSw2, hSw3⟩ := hSw); (go_simp <;> with_reducible rfl)
          simp only [Act.put, tA, tB, tC, tD, tE, tF]
          refine tk (i := 8) (v := ?_) rfl (by kernel_rfl) (fun _ _ _ h => h) (by rfl) ?_ (by assumption) ?_
          rotate_left 1
          · intro w hSw; (try dsimp only at hSw); (try obtain ⟨hSw1, hSw2, hSw3⟩ := hSw); (go_simp <;> with_reducible rfl)
          simp only [Act.put, tA, tB, tC, tD, tE, tF]
          rw [← HW9.out]
          refine last_one (j := 9) (by kernel_rfl) rfl (fun K hK => ?_)
          rw [if_pos (by rfl)]
          refine wp_store_mid 38 (.tmp 5) (.tmp 67) rfl b1 0 #[(.slice u0 q0 z0), (.slice u1 q1 z1), (.slice u2 q2 z2)] rfl rfl HST.out.1 HST.out.2.1 HST.out.2.2 ?_
          refine hK.out _ _ (fun _ => g2') ?_
          try simp only [Act.put, List.getElem_toArray, List.getElem_cons_zero, List.getElem_cons_succ]
          clear hK K
          refine last_one (j := 10) (by kernel_rfl) rfl (fun K hK => ?_)
          rw [if_pos (by rfl)]
          simp only [tA, tB, tC]
          go_simp
          refine hK.out _ _ (fun e => absurd rfl e) ?_
          clear hK K
          refine last_done (by kernel_rfl) ?_ _
          go_wp2_with fail
          obtain ⟨f1, f2⟩ := HF.out
          refine bodyPost_ret (results_tct rfl _ _ _ ⟨b1, 0, none⟩ (.agg #[(.slice u0 q0 z0), (.slice u1 q1 z1), (.slice u2 q2 z2)]) rfl (run_loadVar_row _ _ 38 38 _ (0, 0) _ f1 Tryz.underlying38 rfl info38s)) rfl ?_
          exact f2
end
end Go.Proofs.YtnjilcokkhodmaaGreatDoor

namespace Go.Proofs.YtnjilcokkhodmaaGreatDoor
open Go.RowKit Go.Shelf
set_option linter.unusedVariables false

def SpOk (s : Sp) : Prop := s.1 ≤ 8589934592 ∧ s.2.1 ≤ 8589934592 ∧ s.2.2 ≤ 8589934592 ∧ 1 ≤ s.2.2
theorem ex_le (B : List Nat) (r : Rs) (v c : Nat) (hv : v < 3) (hc : c < (kdV v).codes) : (kdV v).lst c + r.val B ((kdV v).ext c) ≤ 8589934592 := by
 obtain ⟨h1, h2⟩ := (kokV v hv).lt c hc
 have h3 := r.val_lt B ((kdV v).ext c)
 have h4 : 2 ^ (kdV v).ext c ≤ 2 ^ 32 := Nat.pow_le_pow_right (by omega) (by omega)
 omega
theorem lst_pos (c : Nat) (hc : c < kdB.codes) : 1 ≤ kdB.lst c := by
 induction c with
 | zero => rw [kokB.zero]; exact Nat.le_refl 1
 | succ c ih => rw [kokB.next c hc]; exact Nat.le_trans (ih (by omega)) (Nat.le_add_right _ _)
theorem oneS_ok {B : List Nat} {T : Nat → Tb} {σ : Nat → Nat} {r : Rs} (hG : ∀ v, v < 3 → GoodT (kdV v) (T v)) (hσ : ∀ v, v < 3 → σ v < 2 ^ (T v).l) : SpOk (oneS B T σ r) := by
 have hc : ∀ i, exC T σ i < (kdV (eo i)).codes := fun i => exC_lt hG hσ i
 have e0 : exT B T σ r 3 0 = (kdV (eo 2)).lst (exC T σ 2) + (exR T σ r 2).val B ((kdV (eo 2)).ext (exC T σ 2)) := rfl
 have e2 : exT B T σ r 3 2 = (kdV (eo 1)).lst (exC T σ 1) + (exR T σ r 1).val B ((kdV (eo 1)).ext (exC T σ 1)) := rfl
 have e1 : exT B T σ r 3 1 = (kdV (eo 0)).lst (exC T σ 0) + (exR T σ r 0).val B ((kdV (eo 0)).ext (exC T σ 0)) := rfl
 refine ⟨?_, ?_, ?_, ?_⟩
 ·show exT B T σ r 3 0 ≤ _
  rw [e0]; exact ex_le B _ _ _ (eo_lt 2) (hc 2)
 ·show exT B T σ r 3 2 ≤ _
  rw [e2]; exact ex_le B _ _ _ (eo_lt 1) (hc 1)
 ·show exT B T σ r 3 1 ≤ _
  rw [e1]; exact ex_le B _ _ _ (eo_lt 0) (hc 0)
 ·show 1 ≤ exT B T σ r 3 1
  rw [e1]
  have := lst_pos _ (hc 0)
  exact Nat.le_trans this (Nat.le_add_right _ _)
theorem nxS_lt {B : List Nat} {T : Nat → Tb} (hG : ∀ v, v < 3 → GoodT (kdV v) (T v)) {σ : Nat → Nat} {r : Rs} (hσ : ∀ v, v < 3 → σ v < 2 ^ (T v).l) : ∀ (i : Nat) (q : Rs) (τ : Nat → Nat), nxS B T σ r i = some (q, τ) → ∀ v, v < 3 → τ v < 2 ^ (T v).l
  | 0, q, τ, h, v, hv => by cases h; exact hσ v hv
  | i + 1, q, τ, h, v, hv => by
    have h' : (match nxS B T σ r i with
      | none => none
      | some (q, τ) => if (q.go ((T (no i)).bi (τ (no i)))).left < 0 then none else some (q.go ((T (no i)).bi (τ (no i))), updN τ (no i) ((T (no i)).ba (τ (no i)) + q.val B ((T (no i)).bi (τ (no i)))))) = some (q, τ) := h
    cases hn : nxS B T σ r i with
    | none => rw [hn] at h'; cases h'
    | some p =>
      obtain ⟨q0, τ0⟩ := p
      rw [hn] at h'
      dsimp only at h'
      have ih := nxS_lt hG hσ i q0 τ0 hn
      split at h'
      · cases h'
      · cases h'
        by_cases e : v = no i
        · subst e
          rw [updN_self]
          have h1 := (hG _ (no_lt i)).ba _ (ih _ (no_lt i))
          have h2 := q0.val_lt B ((T (no i)).bi (τ0 (no i)))
          omega
        · rw [show updN τ0 (no i) _ v = τ0 v from if_neg e]
          exact ih v hv
theorem stN_ok {B : List Nat} {T : Nat → Tb} (hG : ∀ v, v < 3 → GoodT (kdV v) (T v)) : ∀ (k : Nat) (r : Rs) (σ : Nat → Nat) (l R : List Sp), (∀ v, v < 3 → σ v < 2 ^ (T v).l) → (∀ s ∈ l, SpOk s) → stN B T k r σ l = some R → ∀ s ∈ R, SpOk s
  | 0, r, σ, l, R, hσ, hl, h => by cases h
  | k + 1, r, σ, l, R, hσ, hl, h => by
    have hl2 : ∀ s ∈ l ++ [oneS B T σ r], SpOk s := fun s hs => by
      rcases List.mem_append.1 hs with q | q
      · exact hl s q
      · rw [List.mem_singleton.1 q]; exact oneS_ok hG hσ
    have h' : (if k = 0 then (if (exR T σ r 3).left = 0 then some (l ++ [oneS B T σ r]) else none) else match nxS B T σ (exR T σ r 3) 3 with
      | none => none
      | some (q, τ) => stN B T k q τ (l ++ [oneS B T σ r])) = some R := h
    split at h'
    · split at h'
      · cases h'; exact hl2
      · cases h'
    · cases hn : nxS B T σ (exR T σ r 3) 3 with
      | none => rw [hn] at h'; cases h'
      | some p =>
        obtain ⟨q, τ⟩ := p
        rw [hn] at h'
        exact stN_ok hG k q τ _ R (nxS_lt hG hσ 3 q τ hn) hl2 h'
theorem stepsN_ok {B : List Nat} {T : Nat → Tb} {n : Nat} {R : List Sp} (hG : ∀ v, v < 3 → GoodT (kdV v) (T v)) (h : stepsN B T n = some R) : ∀ s ∈ R, SpOk s := by
 unfold stepsN at h
 split at h
 ·cases h
 ·exact stN_ok hG n _ _ [] R (fun v hv => fsS_lt 3 (Nat.le_refl _) v hv) (fun s hs => by cases hs) h
theorem seqR_ok {Ω : Oc} {bs : List Nat} {t0 t1 t2 a b c : Option Tb} {l : List Sp} (h : seqR Ω bs t0 t1 t2 = some (l, a, b, c)) (g0 : GoodO 0 a) (g1 : GoodO 1 b) (g2 : GoodO 2 c) : ∀ s ∈ l, SpOk s := by
 unfold seqR at h
 split at h
 ·cases h
 ·split at h
  ·split at h
   ·cases h; exact fun s hs => by cases hs
   ·cases h
  ·split at h
   ·cases h
   ·split at h
    ·cases h
    ·rename_i T r2 htb l' hst
     cases h
     exact stepsN_ok (fun v hv => by
      rcases (show v = 0 ∨ v = 1 ∨ v = 2 by omega) with rfl | rfl | rfl
      ·exact g0 _ rfl
      ·exact g1 _ rfl
      ·exact g2 _ rfl) hst
/-- What Read of weights tells. -/
structure Od where
 a : List Nat → Nat
 b : List Nat → Nat
 v : List Nat → List Nat
 h : ∀ B, (a B = 0 → b B ≤ B.length ∧ codeB (v B) = true) ∧ RdW B (a B) (b B) (v B)
theorem od_ex : Nonempty Od := ⟨⟨fun B => (read_prog B).choose, fun B => (read_prog B).choose_spec.choose, fun B => (read_prog B).choose_spec.choose_spec.choose, fun B => (read_prog B).choose_spec.choose_spec.choose_spec⟩⟩
def rdA (Δ : Od) (B : List Nat) : Nat := Δ.a B
def rdB (Δ : Od) (B : List Nat) : Nat := Δ.b B
def rdV (Δ : Od) (B : List Nat) : List Nat := Δ.v B
theorem rd_spec (Δ : Od) (B : List Nat) : (rdA Δ B = 0 → rdB Δ B ≤ B.length ∧ codeB (rdV Δ B) = true) ∧ RdW B (rdA Δ B) (rdB Δ B) (rdV Δ B) := Δ.h B
def litO (Δ : Od) (bs ws : List Nat) (most : Nat) : Option (List Nat × List Nat × Nat) :=
 if (litR (rdA Δ (bodyN bs)) (rdB Δ (bodyN bs)) (rdV Δ (bodyN bs)) bs ws (most : Int)).1 = 0 then some (litR (rdA Δ (bodyN bs)) (rdB Δ (bodyN bs)) (rdV Δ (bodyN bs)) bs ws (most : Int)).2 else none
theorem hRw_ok {bs : List Nat} (h0 : ¬ hKi bs = 0) (h1 : ¬ hKi bs = 1) : 1 ≤ hRw bs ∧ hRw bs ≤ 4 := by
 unfold hRw rwN
 repeat' split
 all_goals omega
theorem litO_ok {Δ : Od} {bs ws l n : List Nat} {most u : Nat} (hm : most ≤ 131072) (hb : bs.length ≤ 131072) (hw : ws.length ≤ 256) (h : litO Δ bs ws most = some (l, n, u)) : l.length ≤ 524304 ∧ n.length ≤ 256 ∧ u ≤ bs.length := by
 unfold litO at h
 split at h
 ·rename_i hc
  obtain ⟨r1, r2⟩ := rd_spec Δ (bodyN bs)
  generalize rdA Δ (bodyN bs) = A at *
  generalize rdB Δ (bodyN bs) = U at *
  generalize rdV Δ (bodyN bs) = V at *
  unfold litR at h hc
  split at h
  ·rename_i q; rw [if_pos q] at hc; cases hc
  ·rename_i q; rw [if_neg q] at hc
   split at h
   ·rename_i q; rw [if_pos q] at hc; cases hc
   ·rename_i q; rw [if_neg q] at hc
    split at h
    ·rename_i q; rw [if_pos q] at hc; cases hc
    ·rename_i q3; rw [if_neg q3] at hc
     split at h
     ·rename_i q; rw [if_pos q] at hc; cases hc
     ·rename_i q4; rw [if_neg q4] at hc
      have hbl := bodyN_length q4
      split at h
      ·rename_i q5; rw [q5] at hc; cases hc
      ·rename_i l' n' q5
       cases h
       have hsz : hSz bs ≤ 131072 := by omega
       unfold tellL at q5
       split at q5
       ·cases q5; exact ⟨by omega, hw, by omega⟩
       ·rename_i k0
        split at q5
        ·cases q5; exact ⟨by rw [List.length_replicate]; omega, hw, by omega⟩
        ·rename_i k1
         obtain ⟨w1, w2⟩ := hRw_ok k0 k1
         split at q5
         ·cases hu : unpL ws (bodyN bs) (hSz bs) (hRw bs) with
          | none => rw [hu] at q5; cases q5
          | some x => rw [hu] at q5; cases q5; exact ⟨(unpL_ok hsz w1 w2 hu).1, hw, by omega⟩
         ·split at q5
          ·rename_i hA
           cases hu : unpL V ((bodyN bs).drop U) (hSz bs) (hRw bs) with
           | none => rw [hu] at q5; cases q5
           | some x => rw [hu] at q5; cases q5; exact ⟨(unpL_ok hsz w1 w2 hu).1, (code_ok (r1 hA).2).1, by omega⟩
          ·cases q5
 ·cases h
def orc (Ω : Oc) (Δ : Od) : Orc := ⟨litO Δ, seqR Ω, Xs.xxh⟩
end Go.Proofs.YtnjilcokkhodmaaGreatDoor

namespace Go.Proofs.YtnjilcokkhodmaaGreatDoor
open Go.RowKit Go.Shelf
set_option linter.unusedVariables false

def Apart (S : Nat → Prop) (v : Value) : Prop := ∀ p n c, v = .slice (some p) n c → ¬ S p.block
theorem IsTs.keepS {w w' : World} {S : Nat → Prop} {v : Value} {t : Option Tb} (h : IsTs w v t) (hk : Keep S w w') (hS : Apart S v) : IsTs w' v t := by
  cases t with
  | none => exact h
  | some T =>
    obtain ⟨tg, cap, e, hT⟩ := h
    exact ⟨tg, cap, e, hT.keep hk (hS _ _ _ e)⟩
theorem IsTs.shape {w : World} {v : Value} {t : Option Tb} (h : IsTs w v t) : ∃ a n c, v = .slice a n c := by
 cases t with
 | none => exact ⟨none, 0, 0, h⟩
 | some T => obtain ⟨tg, cap, e, -⟩ := h; exact ⟨_, _, _, e⟩
theorem IsTs.there {w : World} {v : Value} {t : Option Tb} (h : IsTs w v t) (p : Addr) (n c : Nat) (hv : v = .slice (some p) n c) : p.block < w.heap.size ∧ (∃ x, w.cell? ⟨p.block, 0, none⟩ = some (.int .u8 x)) := by
  cases t with
  | none =>
    have e : v = .slice none 0 0 := h
    rw [e] at hv; cases hv
  | some T =>
    obtain ⟨tg, cap, e, hT⟩ := h
    rw [e] at hv; cases hv
    have := (hT.cells 0 (Nat.two_pow_pos _)).1
    rw [Nat.zero_mul] at this
    exact ⟨hT.lt, _, this⟩
structure FrOk (F : Fr) : Prop where
 win : F.win < 18446744073709551616
 siz : F.siz < 18446744073709551616
 r0 : F.r0 ≤ 4611686018427387904
 r1 : F.r1 ≤ 4611686018427387904
 r2 : F.r2 ≤ 4611686018427387904
 fl : F.fl < 256
 bud : F.bud ≤ 16777216
 ws : F.ws.length ≤ 256
 g0 : GoodO 0 F.t0
 g1 : GoodO 1 F.t1
 g2 : GoodO 2 F.t2
/-- A frame. -/
structure IsF (w : World) (fb : Nat) (F : Fr) (x0 x1 x2 : Value) (aw : Option Addr) (cw gw ow : Nat) (ov : Value) : Prop where
 fr : IsFr w fb F x0 x1 x2 (.slice aw F.ws.length cw) ov
 t0 : IsTs w x0 F.t0
 t1 : IsTs w x1 F.t1
 t2 : IsTs w x2 F.t2
 bw : Bytes w aw cw gw ow F.ws
 out : OutF w ov F.out
 ne : ov.ownBlock ≠ some fb
 p0 : Apart (fun k => ov.ownBlock = some k) x0
 p1 : Apart (fun k => ov.ownBlock = some k) x1
 p2 : Apart (fun k => ov.ownBlock = some k) x2
 gl : F.ws ≠ [] → gw < w.heap.size
 pw : F.ws ≠ [] → ov.ownBlock ≠ some gw
 fw : F.ws ≠ [] → gw ≠ fb
 ok : FrOk F
/-- What a frame leans on lies apart from S. -/
structure FarF (S : Nat → Prop) (F : Fr) (fb gw : Nat) (x0 x1 x2 ov : Value) : Prop where
 fb : ¬ S fb
 ov : ∀ k, ov.ownBlock = some k → ¬ S k
 gw : F.ws ≠ [] → ¬ S gw
 x0 : Apart S x0
 x1 : Apart S x1
 x2 : Apart S x2
section
variable {w w' : World} {S : Nat → Prop} {fb : Nat} {F : Fr} {x0 x1 x2 : Value} {aw : Option Addr} {cw gw ow : Nat} {ov : Value}
theorem FarF.none : FarF noBlock F fb gw x0 x1 x2 ov := ⟨fun h => h, fun _ _ h => h, fun _ h => h, fun _ _ _ _ h => h, fun _ _ _ _ h => h, fun _ _ _ _ h => h⟩
theorem FarF.mono {T : Nat → Prop} (h : FarF S F fb gw x0 x1 x2 ov) (hT : ∀ k, T k → S k) : FarF T F fb gw x0 x1 x2 ov :=
 ⟨fun q => h.fb (hT _ q), fun k e q => h.ov k e (hT _ q), fun e q => h.gw e (hT _ q), fun p n c e q => h.x0 p n c e (hT _ q), fun p n c e q => h.x1 p n c e (hT _ q), fun p n c e q => h.x2 p n c e (hT _ q)⟩
theorem IsF.keep (h : IsF w fb F x0 x1 x2 aw cw gw ow ov) (hk : Keep S w w') (hf : FarF S F fb gw x0 x1 x2 ov) : IsF w' fb F x0 x1 x2 aw cw gw ow ov :=
 ⟨IsFr.keep h.fr hk hf.fb, h.t0.keepS hk hf.x0, h.t1.keepS hk hf.x1, h.t2.keepS hk hf.x2, h.bw.keep hk hf.gw, h.out.keep hk hf.ov, h.ne, h.p0, h.p1, h.p2, fun e => Nat.lt_of_lt_of_le (h.gl e) hk.size, h.pw, h.fw, h.ok⟩
theorem IsF.quiet (h : IsF w fb F x0 x1 x2 aw cw gw ow ov) (hk : Keep noBlock w w') : IsF w' fb F x0 x1 x2 aw cw gw ow ov := h.keep hk FarF.none
theorem IsF.apart (h : IsF w fb F x0 x1 x2 aw cw gw ow ov) : Apart (fun k => k = fb) x0 ∧ Apart (fun k => k = fb) x1 ∧ Apart (fun k => k = fb) x2 := by
 have hc : w.cell? ⟨fb, 0, none⟩ = some (.int .u64 (F.win : Int)) := cell_of h.fr 0
 refine ⟨fun p n c e q => ?_, fun p n c e q => ?_, fun p n c e q => ?_⟩
 ·obtain ⟨-, x, hx⟩ := h.t0.there p n c e
  have q' : p.block = fb := q
  rw [q', hc] at hx; cases hx
 ·obtain ⟨-, x, hx⟩ := h.t1.there p n c e
  have q' : p.block = fb := q
  rw [q', hc] at hx; cases hx
 ·obtain ⟨-, x, hx⟩ := h.t2.there p n c e
  have q' : p.block = fb := q
  rw [q', hc] at hx; cases hx
end
def NoC (U : World) (B k : Nat) : Prop := B ≤ k ∧ ∀ o, U.heap[k]? = some o → o.isCells = false
theorem KeepN.asK {B : Nat} {U V : World} (h : KeepN B U V) : Keep (NoC U B) U V :=
 ⟨h.os, h.tape, h.output, h.size, fun k hk hn => by
  rw [Array.getElem?_eq_getElem hk]
  refine h.block k _ (Array.getElem?_eq_getElem hk) ?_
  by_cases hb : k < B
  ·exact .inl hb
  ·right
   cases hc : (U.heap[k]).isCells with
   | true => rfl
   | false => exact (hn ⟨by omega, fun o ho => by rw [Array.getElem?_eq_getElem hk] at ho; cases ho; exact hc⟩).elim⟩
theorem noC_cells {U : World} {B k : Nat} {cs : Array Value} {t : TypeId} {fz : Nat × Nat} (h : U.heap[k]? = some (.cells cs t fz)) : ¬ NoC U B k := fun q => by
 have := q.2 _ h
 cases this
theorem noC_cell {U : World} {B k i : Nat} {x : Value} (h : U.cell? ⟨k, i, none⟩ = some x) : ¬ NoC U B k := fun q => by
  unfold World.cell? at h
  cases ho : U.heap[k]? with
  | none => simp [ho] at h
  | some o =>
    have := q.2 _ ho
    cases o <;> simp [ho, Obj.isCells] at h this
theorem IsF.farN {w : World} {fb : Nat} {F : Fr} {x0 x1 x2 : Value} {aw : Option Addr} {cw gw ow : Nat} {ov : Value} (h : IsF w fb F x0 x1 x2 aw cw gw ow ov) (B : Nat) : FarF (NoC w B) F fb gw x0 x1 x2 ov := by
 refine ⟨noC_cells h.fr, fun k hk => ?_, fun hne => noC_cell (h.bw.cells 0 (List.length_pos_iff.2 hne)), fun p n c e => ?_, fun p n c e => ?_, fun p n c e => ?_⟩
 ·rcases h.out.own.2 with ⟨e, h0⟩ | ⟨g, cap, cur, e, hb, hg, h1⟩
  ·rw [e] at hk; cases hk
  ·rw [e] at hk
   obtain rfl : g = k := by simpa [Value.ownBlock] using hk
   exact noC_cells hg
 ·obtain ⟨-, x, hx⟩ := h.t0.there p n c e
  exact noC_cell hx
 ·obtain ⟨-, x, hx⟩ := h.t1.there p n c e
  exact noC_cell hx
 ·obtain ⟨-, x, hx⟩ := h.t2.there p n c e
  exact noC_cell hx
theorem IsF.keepN {w w' : World} {B fb : Nat} {F : Fr} {x0 x1 x2 : Value} {aw : Option Addr} {cw gw ow : Nat} {ov : Value} (h : IsF w fb F x0 x1 x2 aw cw gw ow ov) (hk : KeepN B w w') : IsF w' fb F x0 x1 x2 aw cw gw ow ov := h.keep hk.asK (h.farN B)
end Go.Proofs.YtnjilcokkhodmaaGreatDoor

namespace Go.Proofs.YtnjilcokkhodmaaGreatDoor
open Go.RowKit Go.Shelf
set_option linter.unusedVariables false

theorem cpyP_len : ∀ (k : Nat) (out : List Nat) (fr left : Nat), fr < out.length → left ≤ k → (cpyP k out fr left).length = out.length + left
  | 0, out, fr, left, _, h => by
    obtain rfl : left = 0 := by omega
    rfl
  | k + 1, out, fr, left, hf, h => by
    by_cases hl : left = 0
    · subst hl; rw [cpyP_zero]; rfl
    · rw [cpyP_step k out fr left (by omega)]
      have hm : ((out.drop fr).take (min left (out.length - fr))).length = min left (out.length - fr) := by rw [List.length_take, List.length_drop]; omega
      rw [cpyP_len k _ fr _ (by rw [List.length_append]; omega) (by omega), List.length_append, hm]
      omega
def fr4 (F : Fr) (p0 p1 p2 : Int) (o : List Nat) : Fr := { F with r0 := p0, r1 := p1, r2 := p2, out := o }
theorem meantD_le {r0 r1 r2 : Int} {z : Bool} {back : Nat} {B : Int} (hB : 0 ≤ B) (h0 : r0 ≤ B) (h1 : r1 ≤ B) (h2 : r2 ≤ B) (hb : (back : Int) ≤ B) : meantD r0 r1 r2 z back ≤ B := by
 unfold meantD
 repeat' split
 all_goals omega
theorem movedR_le {r0 r1 r2 : Int} {m : Nat} {B : Int} (h0 : r0 ≤ B) (h1 : r1 ≤ B) (h2 : r2 ≤ B) : (movedR r0 r1 r2 m).2.1 ≤ B ∧ (movedR r0 r1 r2 m).2.2 ≤ B := by
 unfold movedR
 repeat' split
 all_goals exact ⟨by assumption, by assumption⟩
theorem copyP_form {F F2 : Fr} {p0 p1 p2 : Int} {o : List Nat} {s : Sp} {B : Int} (hB : 0 ≤ B) (h0 : p0 ≤ B) (h1 : p1 ≤ B) (h2 : p2 ≤ B) (hb : (s.2.2 : Int) ≤ B) (h : copyP (fr4 F p0 p1 p2 o) s = some F2) :
  ∃ q0 q1 q2 o2, F2 = fr4 F q0 q1 q2 o2 ∧ q0 ≤ B ∧ q1 ≤ B ∧ q2 ≤ B ∧ o2.length = o.length + s.2.1 := by
 have hd : meantD (fr4 F p0 p1 p2 o).r0 (fr4 F p0 p1 p2 o).r1 (fr4 F p0 p1 p2 o).r2 ((s.1 : Int) == 0) s.2.2 = meantD p0 p1 p2 ((s.1 : Int) == 0) s.2.2 := rfl
 have ho : (fr4 F p0 p1 p2 o).out = o := rfl
 unfold copyP at h
 rw [hd, ho] at h
 split at h
 ·cases h
 ·split at h
  ·cases h
  ·rename_i q1 q2
   cases h
   have hm := movedR_le (m := meantM (fr4 F p0 p1 p2 o).r0 ((s.1 : Int) == 0) s.2.2) h0 h1 h2
   exact ⟨_, _, _, _, rfl, meantD_le hB h0 h1 h2 hb, hm.1, hm.2, cpyP_len _ _ _ _ (by omega) (Nat.le_refl _)⟩
def CpAns (w w' : World) (fb : Nat) (F : Fr) (s : Sp) (x0 x1 x2 wsv ov : Value) (b : Bool) : Prop :=
 (b = true ∧ ∃ F2 ov', copyP F s = some F2 ∧ IsFr w' fb F2 x0 x1 x2 wsv ov' ∧ OutF w' ov' F2.out ∧ CoS w w' fb ov ov') ∨
 (b = false ∧ copyP F s = none ∧ ∃ F2, F2.out = F.out ∧ IsFr w' fb F2 x0 x1 x2 wsv ov ∧ OutF w' ov F2.out ∧ CoS w w' fb ov ov)
theorem copy_any {w : World} {fb : Nat} {F : Fr} {x0 x1 x2 wsv ov : Value} (s : Sp) (hs : SpOk s) (h : IsFr w fb F x0 x1 x2 wsv ov) (hO : OutF w ov F.out) (hne : ov.ownBlock ≠ some fb) (hw : F.win < 18446744073709551616)
  (h0 : F.r0 ≤ 4611686018427387904) (h1 : F.r1 ≤ 4611686018427387904) (h2 : F.r2 ≤ 4611686018427387904) (hn : F.out.length + s.2.1 ≤ 1073741824) :
  Calls Tryz.prog 33 #[.pointer (some ⟨fb, 0, none⟩), .agg #[.int .i64 (s.1 : Int), .int .i64 (s.2.1 : Int), .int .i64 (s.2.2 : Int)]] w fun e w' => ∃ b : Bool, e = .returned (.bool b) ∧ Hid (CpAns w w' fb F s x0 x1 x2 wsv ov b) := by
 obtain ⟨s1, s2, s3, s4⟩ := hs
 by_cases hd : meantD F.r0 F.r1 F.r2 ((s.1 : Int) == 0) s.2.2 < 1
 ·refine (copy_none s h s4 (by omega) h0 hd).mono ?_
  rintro e w' ⟨rfl, hk⟩
  exact ⟨false, rfl, .inr ⟨rfl, by unfold copyP; rw [if_pos hd], F, rfl, IsFr.keep h hk (fun h => h), hO.keep hk (fun _ _ h => h), (CoS.refl w fb ov).quiet hk⟩⟩
 ·have hdb : meantD F.r0 F.r1 F.r2 ((s.1 : Int) == 0) s.2.2 ≤ 4611686018427387904 := meantD_le (by omega) h0 h1 h2 (by omega)
  by_cases hf : (F.win : Int) < meantD F.r0 F.r1 F.r2 ((s.1 : Int) == 0) s.2.2 ∨ (F.out.length : Int) < meantD F.r0 F.r1 F.r2 ((s.1 : Int) == 0) s.2.2
  ·obtain ⟨oa, oc, e, hoc⟩ := hO.slice
   subst e
   refine (copy_far s h s4 (by omega) h0 hw (by omega) (by omega) hdb hf).mono ?_
   rintro e w' ⟨rfl, ⟨q0, q1, q2, hq⟩, hk⟩
   refine ⟨false, rfl, .inr ⟨rfl, by unfold copyP; rw [if_neg hd, if_pos hf], fr4 F q0 q1 q2 F.out, rfl, hq, hO.keep hk (fun g hg e => hne (by rw [hg, e])), (CoS.refl w fb _).atf hk⟩⟩
  ·refine (copy_good s h hO hne s4 (by omega) h0 hw hn (by omega) (by omega) (by omega)).mono ?_
   rintro e w' ⟨rfl, ov', q1, q2, q3⟩
   exact ⟨true, rfl, .inl ⟨rfl, { F with r0 := meantD F.r0 F.r1 F.r2 ((s.1 : Int) == 0) s.2.2, r1 := (movedR F.r0 F.r1 F.r2 (meantM F.r0 ((s.1 : Int) == 0) s.2.2)).2.1, r2 := (movedR F.r0 F.r1 F.r2 (meantM F.r0 ((s.1 : Int) == 0) s.2.2)).2.2, out := cpyP s.2.1 F.out (F.out.length - (meantD F.r0 F.r1 F.r2 ((s.1 : Int) == 0) s.2.2).toNat) s.2.1 }, ov', by unfold copyP; rw [if_neg hd, if_neg hf], q1, q2, q3⟩⟩
end Go.Proofs.YtnjilcokkhodmaaGreatDoor

namespace Go.Proofs.YtnjilcokkhodmaaGreatDoor
open Go.RowKit Go.Shelf
set_option linter.unusedVariables false
set_option linter.unusedSimpArgs false

section
variable {Ω : Oc} {Δ : Od}
structure BoxD (P : Prop) : Prop where
 out : P
theorem one_wayZ {G T : Prop} (m : BoxD T → G) (t : T) : G := m ⟨t⟩
def UnP (w : World) (fb : Nat) (F : Fr) (ov : Value) (R : Option Fr) (e : Ending) (w' : World) : Prop := match R with
 | none => e = .returned (.bool false) ∧ ∃ F' x0 x1 x2 wsv ov', IsFr w' fb F' x0 x1 x2 wsv ov' ∧ OutF w' ov' F'.out ∧ F.out <+: F'.out ∧ CoS w w' fb ov ov'
 | some F2 => e = .returned (.bool true) ∧ ∃ x0 x1 x2 aw cw gw ow ov', IsF w' fb F2 x0 x1 x2 aw cw gw ow ov' ∧ CoS w w' fb ov ov' ∧ NwS w.heap.size x0 ∧ NwS w.heap.size x1 ∧ NwS w.heap.size x2 ∧ (F2.ws ≠ [] → w.heap.size ≤ gw)
theorem unpackP_n1 {F : Fr} {bs : List Nat} (h : litO Δ bs F.ws (mostF F) = none) : unpackP (orc Ω Δ) F bs = none := by
 unfold unpackP
 rw [show (orc Ω Δ).lit bs F.ws (mostF F) = none from h]
theorem unpackP_n2 {F : Fr} {bs l nw : List Nat} {u : Nat} (h : litO Δ bs F.ws (mostF F) = some (l, nw, u)) (h2 : seqR Ω (bs.drop u) F.t0 F.t1 F.t2 = none) : unpackP (orc Ω Δ) F bs = none := by
 unfold unpackP
 rw [show (orc Ω Δ).lit bs F.ws (mostF F) = some (l, nw, u) from h]
 dsimp only
 rw [show (orc Ω Δ).seq (bs.drop u) F.t0 F.t1 F.t2 = none from h2]
theorem unpackP_s {F : Fr} {bs l nw : List Nat} {u : Nat} {ss : List Sp} {a b c : Option Tb} (h : litO Δ bs F.ws (mostF F) = some (l, nw, u)) (h2 : seqR Ω (bs.drop u) F.t0 F.t1 F.t2 = some (ss, a, b, c)) :
  unpackP (orc Ω Δ) F bs = stepsP { F with ws := nw, t0 := a, t1 := b, t2 := c } l (F.out.length + mostF F) ss := by
 unfold unpackP
 rw [show (orc Ω Δ).lit bs F.ws (mostF F) = some (l, nw, u) from h]
 dsimp only
 rw [show (orc Ω Δ).seq (bs.drop u) F.t0 F.t1 F.t2 = some (ss, a, b, c) from h2]
theorem litO_ne {bs ws : List Nat} {most : Nat} {r : List Nat × List Nat × Nat} (e : bs = []) (h : litO Δ bs ws most = some r) : False := by
 subst e
 unfold litO litR at h
 by_cases q : (most : Int) < 0 ∨ 131072 < (most : Int)
 ·simp [q] at h
 ·simp [q] at h
theorem SpRow.keepB {w w' : World} {v : Value} {ss : List Sp} {b : Nat} (h : SpRow w v ss) (hk : Keep (fun k => k = b) w w') {a : Option Addr} {n c : Nat} (hb : w.cell? ⟨b, 0, none⟩ = some (.slice a n c)) : SpRow w' v ss := by
  obtain ⟨sa, cap, e, hr⟩ := h.form
  refine ⟨sa, cap, e, ?_⟩
  rcases hr with q | ⟨g, q1, q2, q3⟩
  · exact .inl q
  · cases ss with
    | nil => exact .inl rfl
    | cons x r =>
      have hne : ¬ g = b := fun e => by
        have := (q3 0 x rfl).1
        rw [Nat.zero_mul, e, hb] at this
        cases this
      exact .inr ⟨g, q1, Nat.lt_of_lt_of_le q2 hk.size, fun k s hs => ⟨keep_cellS hk hne (q3 k s hs).1, keep_cellS hk hne (q3 k s hs).2.1, keep_cellS hk hne (q3 k s hs).2.2⟩⟩
theorem SpRow.keep {w w' : World} {v : Value} {ss : List Sp} (h : SpRow w v ss) (hk : Keep noBlock w w') : SpRow w' v ss := by
 obtain ⟨sa, cap, e, hr⟩ := h.form
 refine ⟨sa, cap, e, ?_⟩
 rcases hr with q | ⟨g, q1, q2, q3⟩
 ·exact .inl q
 ·exact .inr ⟨g, q1, Nat.lt_of_lt_of_le q2 hk.size, fun k s hs => ⟨keep_cell0 hk (q3 k s hs).1, keep_cell0 hk (q3 k s hs).2.1, keep_cell0 hk (q3 k s hs).2.2⟩⟩
/-- Behind both Reads. -/
structure R4S (w w1 W5 : World) (tb : Nat) (v s0 s1 s2 : Value) (ss : List Sp) (y0 y1 y2 : Option Tb) : Prop where
 ob : W5.heap[tb]? = some (.cells #[s0, s1, s2] 38 (0, 0))
 kp : Keep noBlock w1 W5
 row : SpRow W5 v ss
 t0 : IsTs W5 s0 y0
 t1 : IsTs W5 s1 y1
 t2 : IsTs W5 s2 y2
 good : GoodO 0 y0 ∧ GoodO 1 y1 ∧ GoodO 2 y2
 nv : NwS w.heap.size v
 n0 : NwS w.heap.size s0
 n1 : NwS w.heap.size s1
 n2 : NwS w.heap.size s2
 tb : w1.heap.size ≤ tb
def z38 : Array Value := #[.slice none 0 0, .slice none 0 0, .slice none 0 0]
theorem st38 {W : World} {tb : Nat} (h : W.heap[tb]? = some (.cells z38 38 (0, 0))) (a0 a1 a2 : Option Addr) (n0 n1 n2 c0 c1 c2 : Nat) :
  W.there tb 0 (#[.slice a0 n0 c0, .slice a1 n1 c1, .slice a2 n2 c2] : Array Value).size ∧ (Tryz.prog.info? 38).map (·.size) = some (#[.slice a0 n0 c0, .slice a1 n1 c1, .slice a2 n2 c2] : Array Value).size ∧ (#[.slice a0 n0 c0, .slice a1 n1 c1, .slice a2 n2 c2] : Array Value).all (·.oneCell') = true ∧
  (W.setCells tb 0 [.slice a0 n0 c0, .slice a1 n1 c1, .slice a2 n2 c2]).heap[tb]? = some (.cells #[.slice a0 n0 c0, .slice a1 n1 c1, .slice a2 n2 c2] 38 (0, 0)) ∧ Keep (fun k => k = tb) W (W.setCells tb 0 [.slice a0 n0 c0, .slice a1 n1 c1, .slice a2 n2 c2]) ∧ W.cell? ⟨tb, 0, none⟩ = some (.slice none 0 0) :=
 ⟨fun j hj => ⟨by have hj3 : j < 3 := hj; rw [cell_of h, Array.getElem?_eq_getElem (by show 0 + j < 3; omega)]; rfl, frozen_of h _⟩, (by kernel_rfl : (Tryz.prog.info? 38).map (·.size) = some 3), all_oneCell_toArray (fun v hv => by simp only [List.mem_cons, List.not_mem_nil, or_false] at hv; rcases hv with rfl | rfl | rfl <;> rfl),
  setCells_obj tb 38 [.slice a0 n0 c0, .slice a1 n1 c1, .slice a2 n2 c2] 0 _ W h, keep_setCells (S := fun k => k = tb) tb (fun _ => rfl) _ _ _ (Keep.refl _ W), cell_of h 0⟩
section
variable {P : Program} {ops : Array Oper} {Q : Exit → Act → World → Prop} {md : Region.Mode} {S : World → Prop} {z : Nat}
theorem last_two {i j : Nat} {oi oj : Oper} {n : Nat} {listed : Array Bool} {a : Act} {w : World} (hr : Region.ready md ops listed = [i, j]) (hoi : ops[i]? = some oi) (hoj : ops[j]? = some oj)
  (h1 : ∀ K' : Act → World → Prop, Shut (∀ a' w', (i ≠ z → S w') → wpLast P md ops Q S z n (listed.setIfInBounds i true) a' w' → K' a' w') → if Region.wanted oi (yielded ops a.tmps) = true then Oper.wp P oi a w K' Q else K' (a.put oi.dst undef) w)
  (h2 : ∀ K' : Act → World → Prop, Shut (∀ a' w', (j ≠ z → S w') → wpLast P md ops Q S z n (listed.setIfInBounds j true) a' w' → K' a' w') → if Region.wanted oj (yielded ops a.tmps) = true then Oper.wp P oj a w K' Q else K' (a.put oj.dst undef) w) : wpLast P md ops Q S z (n + 1) listed a w := by
 refine ⟨fun e => (by rw [hr] at e; cases e), fun k hk => ?_⟩
 rw [hr] at hk
 rcases List.mem_cons.1 hk with rfl | hk
 ·exact wpOp_step hoi (fun K' hK => h1 K' (fun a' w' q1 q2 => hK a' w' ⟨q2, q1⟩))
 ·obtain rfl : k = j := by simpa using hk
  exact wpOp_step hoj (fun K' hK => h2 K' (fun a' w' q1 q2 => hK a' w' ⟨q2, q1⟩))
end
theorem stN_len {B : List Nat} {T : Nat → Tb} : ∀ (k : Nat) (r : Rs) (σ : Nat → Nat) (l R : List Sp), stN B T k r σ l = some R → R.length = l.length + k
  | 0, r, σ, l, R, h => by cases h
  | k + 1, r, σ, l, R, h => by
    have h' : (if k = 0 then (if (exR T σ r 3).left = 0 then some (l ++ [oneS B T σ r]) else none) else match nxS B T σ (exR T σ r 3) 3 with
      | none => none
      | some (q, τ) => stN B T k q τ (l ++ [oneS B T σ r])) = some R := h
    split at h'
    · rename_i hk
      split at h'
      · cases h'; rw [List.length_append, hk]; rfl
      · cases h'
    · cases hn : nxS B T σ (exR T σ r 3) 3 with
      | none => rw [hn] at h'; cases h'
      | some p =>
        obtain ⟨q, τ⟩ := p
        rw [hn] at h'
        rw [stN_len k q τ _ R h', List.length_append]
        show l.length + 1 + k = _
        omega
theorem seqR_len {bs : List Nat} {t0 t1 t2 a b c : Option Tb} {l : List Sp} (hb : ∀ j : Nat, bs[j]?.getD 0 < 256) (h : seqR Ω bs t0 t1 t2 = some (l, a, b, c)) : l.length ≤ 100000 := by
 unfold seqR at h
 split at h
 ·cases h
 ·rename_i n r hnm
  have hn := (numS_lt hb hnm).1
  split at h
  ·split at h
   ·cases h; exact Nat.zero_le _
   ·cases h
  ·split at h
   ·cases h
   ·split at h
    ·cases h
    ·rename_i T r2 htb l' hst
     cases h
     unfold stepsN at hst
     split at hst
     ·cases hst
     ·have := stN_len _ _ _ _ _ hst
      simp at this
      omega
def LpS (W7 : World) (fb : Nat) (F' : Fr) (s0 s1 s2 wsv ov : Value) (lg en : Nat) (ss : List Sp) (R : Option Fr) (out0 : List Nat) (i : Nat) (pa : Option Addr) (pn pc : Nat) (wr : World) : Prop :=
  ∃ (p0 p1 p2 : Int) (o : List Nat) (ov1 : Value) (ls : List Nat) (po : Nat), pn = ls.length ∧ IsFr wr fb (fr4 F' p0 p1 p2 o) s0 s1 s2 wsv ov1 ∧ OutF wr ov1 o ∧ CoS W7 wr fb ov ov1 ∧ Bytes W7 pa pc lg po ls ∧ stepsP (fr4 F' p0 p1 p2 o) ls en (ss.drop i) = R ∧ o.length ≤ en ∧ out0 <+: o ∧
    p0 ≤ 4611686018427387904 ∧ p1 ≤ 4611686018427387904 ∧ p2 ≤ 4611686018427387904
/-- What lies where the steps begin. -/
structure L7 (W5 W7 : World) (fb : Nat) (F' : Fr) (s0 s1 s2 wsv ov : Value) (lg en : Nat) (ss : List Sp) (sa : Option Addr) : Prop where
 row : ss = [] ∨ ∃ g, sa = some ⟨g, 0, none⟩ ∧ g < W7.heap.size ∧ g ≠ fb ∧ ov.ownBlock ≠ some g ∧ ∀ k s, ss[k]? = some s → W7.cell? ⟨g, k * 3, none⟩ = some (.int .i64 (s.1 : Int)) ∧ W7.cell? ⟨g, k * 3 + 1, none⟩ = some (.int .i64 (s.2.1 : Int)) ∧ W7.cell? ⟨g, k * 3 + 2, none⟩ = some (.int .i64 (s.2.2 : Int))
 lf : lg ≠ fb
 lo : ov.ownBlock ≠ some lg
 ne : ov.ownBlock ≠ some fb
 fl : fb < W7.heap.size
 ok : ∀ s ∈ ss, SpOk s
 en : en ≤ 16908288
 win : F'.win < 18446744073709551616
 kt : Keep (fun k => k = fb) W5 W7
theorem cos_out {W7 wr : World} {fb : Nat} {ov ov1 : Value} {k : Nat} (h : CoS W7 wr fb ov ov1) (h1 : k ≠ fb) (h2 : ov.ownBlock ≠ some k) : ¬ (k = fb ∨ ov.ownBlock = some k) := fun e => e.elim h1 h2
theorem stepsP_nil {f : Fr} {ls : List Nat} {en : Nat} : stepsP f ls en [] = if (f.out ++ ls).length ≤ en then some { f with out := f.out ++ ls } else none := rfl
theorem stepsP_cons {f : Fr} {ls : List Nat} {en : Nat} {s : Sp} {ss : List Sp} : stepsP f ls en (s :: ss) = if ls.length < s.1 then none else if (en : Int) - ((f.out ++ ls.take s.1).length : Int) < (s.2.1 : Int) then none else match copyP { f with out := f.out ++ ls.take s.1 } s with
   | none => none
   | some f2 => stepsP f2 (ls.drop s.1) en ss := rfl
section
attribute [local go_sem] sliceSem_eq
set_option maxRecDepth 100000 in
set_option maxHeartbeats 16000000 in
theorem unpackZ_any {w : World} {fb : Nat} {F : Fr} {x0 x1 x2 : Value} {aw : Option Addr} {cw gw ow : Nat} {ov : Value} (h : IsF w fb F x0 x1 x2 aw cw gw ow ov) (hFm : Frm w) (hOr : Ords w) (hl0 : F.out.length ≤ 16777216)
    (a : Option Addr) (cap gb off : Nat) (bs : List Nat) (hB : Bytes w a cap gb off bs) (hl : bs.length ≤ 131072) (hg : gb < w.heap.size) :
    Calls Tryz.prog 15 #[.pointer (some ⟨fb, 0, none⟩), .slice a bs.length cap] w fun e w' => UnP w fb F ov (unpackP (orc Ω Δ) F bs) e w' := by
  obtain ⟨a0, n0, c0, rfl⟩ := h.t0.shape
  obtain ⟨a1, n1, c1, rfl⟩ := h.t1.shape
  obtain ⟨a2, n2, c2, rfl⟩ := h.t2.shape
  have HI := hid h
  obtain ⟨r1, r2⟩ := rd_spec Δ (bodyN bs)
  have hco : rdA Δ (bodyN bs) = 0 → rdB Δ (bodyN bs) ≤ (bodyN bs).length ∧ (rdV Δ (bodyN bs)).length ≤ 256 ∧ ∀ j : Nat, (rdV Δ (bodyN bs))[j]?.getD 0 < 256 := fun e => ⟨(r1 e).1, code_ok (r1 e).2⟩
  have kd : Keep noBlock w w.drew := (Keep.refl noBlock w).drew
  have hws := h.ok.ws
  have hlr := readL_any a cap gb off bs aw cw gw ow F.ws ((mostF F : Nat) : Int) _ _ _ w.drew (hFm.keep kd) (hB.keep kd (fun _ h => h)) (h.bw.keep kd (fun _ h => h)) (by omega) r2 hco
  have hlo : litO Δ bs F.ws (mostF F) = if (litR (rdA Δ (bodyN bs)) (rdB Δ (bodyN bs)) (rdV Δ (bodyN bs)) bs F.ws ((mostF F : Nat) : Int)).1 = 0 then some (litR (rdA Δ (bodyN bs)) (rdB Δ (bodyN bs)) (rdV Δ (bodyN bs)) bs F.ws ((mostF F : Nat) : Int)).2 else none := rfl
  generalize litR (rdA Δ (bodyN bs)) (rdB Δ (bodyN bs)) (rdV Δ (bodyN bs)) bs F.ws ((mostF F : Nat) : Int) = r at hlr hlo
  obtain ⟨ec, l, nw, u⟩ := r
  dsimp only at hlo
  have HM := (show Hid (Calls Tryz.prog 27 #[.pointer (some ⟨fb, 0, none⟩)] w.drew fun e w' => e = .returned (.int .i64 ((mostF F : Nat) : Int)) ∧ w' = w.drew) from most_any (IsFr.keep h.fr kd (fun h => h)) h.ok.win)
  have HLO := hid hlo
  have HL := (show Hid (Calls Tryz.prog 31 #[.slice a bs.length cap, .slice aw F.ws.length cw, .int .i64 ((mostF F : Nat) : Int)] w.drew fun e w' => ∃ la ln lc na nn nc ecI, e = .returned (.tuple #[.slice la ln lc, .slice na nn nc, .int .i64 (u : Int), .int .i64 ecI]) ∧
      Hid (ecI = (ec : Int) ∧ Keep noBlock w w' ∧ ∃ lg lo ng no, ln = l.length ∧ nn = nw.length ∧ Bytes w' la lc lg lo l ∧ Bytes w' na nc ng no nw ∧ w.heap.size ≤ lg ∧ w.heap.size ≤ ng)) from hlr.mono (by
    rintro e w' ⟨k1, la, ln, lc, lg, lo, na, nn, nc, ng, no, rfl, q1, q2, q3, q4, q5, q6⟩
    exact ⟨la, ln, lc, na, nn, nc, _, rfl, rfl, kd.trans' k1, lg, lo, ng, no, q1, q2, q3, q4, q5, q6⟩))
  have HS := (show Hid (w.drew.cell? ⟨fb, 7, none⟩ = some (.slice aw F.ws.length cw)) from cell_of h.fr 7)
  have HH := (show Hid (Frm w ∧ Ords w ∧ F.out.length ≤ 16777216 ∧ Bytes w a cap gb off bs ∧ bs.length ≤ 131072 ∧ (bs ≠ [] → ∀ p, a = some p → p.block < w.heap.size) ∧ gb < w.heap.size) from ⟨hFm, hOr, hl0, hB, hl, fun hne p hp => by rcases hB.at_ with e | e; (rw [hp] at e; cases e; exact hg); exact (hne e).elim, hg⟩)
  obtain ⟨R, hR⟩ : ∃ R, R = unpackP (orc Ω Δ) F bs := ⟨_, rfl⟩
  rw [← hR]
  have HR := hid hR
  obtain ⟨m, hm⟩ : ∃ m, m = mostF F := ⟨_, rfl⟩
  have hmI : (m : Int) ≤ 131072 := by rw [hm]; unfold mostF; omega
  rw [← hm] at HM HL HLO
  have HMm := hid hm
  clear hm
  obtain ⟨nW, hnW⟩ : ∃ nW, nW = F.ws.length := ⟨_, rfl⟩
  obtain ⟨N, hN⟩ : ∃ N, N = bs.length := ⟨_, rfl⟩
  rw [← hnW] at HL HS
  rw [← hN] at HL ⊢
  have HN := hid (And.intro hN hnW)
  clear h hFm hOr hl0 hB hl hg r1 r2 hco kd hws hlr hlo hR hnW hN
  go_enter Tryz.func15, Tryz.ntmps15
  go_wp2_with fail
  refine region_last (fun W => W.cell? ⟨fb, 7, none⟩ = some (.slice aw nW cw)) 16 mx HS.out (fun hS => ?_)
  refine tk (i := 0) (v := ?_) rfl (by kernel_rfl) (fun _ _ _ h => h) (by rfl) ?_ (by assumption) ?_
  rotate_left 1
  · intro w hSw; (try dsimp only at hSw); (go_simp <;> with_reducible rfl)
  simp only [Act.put, tA, tB, tD, tE, tF]
  refine tk (i := 1) (v := ?_) rfl (by kernel_rfl) (fun _ _ _ h => h) (by rfl) ?_ (by assumption) ?_
  rotate_left 1
  · intro w hSw; (try dsimp only at hSw); (go_simp <;> with_reducible rfl)
  simp only [Act.put, tA, tB, tC, tD, tE, tF]
  refine tk (i := 2) (v := ?_) rfl (by kernel_rfl) (fun _ _ _ h => h) (by rfl) ?_ (by assumption) ?_
  rotate_left 1
  · intro w hSw; (try dsimp only at hSw); (go_simp <;> with_reducible rfl)
  simp only [Act.put, tA, tB, tC, tD, tE, tF]
  refine tk (i := 3) (v := ?_) rfl (by kernel_rfl) (fun _ _ _ h => h) (by rfl) ?_ (by assumption) ?_
  rotate_left 1
  · intro w hSw; (try dsimp only at hSw); (go_simp <;> with_reducible rfl)
  simp only [Act.put, tA, tB, tC, tD, tE, tF]
  refine tk (i := 4) (v := ?_) rfl (by kernel_rfl) (fun _ _ _ h => h) (by rfl) ?_ (by assumption) ?_
  rotate_left 1
  · intro w hSw; (try dsimp only at hSw); (go_simp <;> with_reducible rfl)
  simp only [Act.put, tA, tB, tC, tD, tE, tF]
  refine tk (i := 5) (v := ?_) rfl (by kernel_rfl) (fun _ _ _ h => h) (by rfl) ?_ (by assumption) ?_
  rotate_left 1
  · intro w hSw; (try dsimp only at hSw); (go_simp <;> with_reducible rfl)
  simp only [Act.put, tA, tB, tC, tD, tE, tF]
  refine last_one (j := 6) (by kernel_rfl) rfl (fun K hK => ?_)
  rw [if_pos (by rfl)]
  simp only [tA, tB, tC]
  go_simp
  refine HM.out.mono ?_
  rintro e w1 ⟨rfl, rfl⟩
  refine hK.out _ _ (fun _ => HS.out) ?_
  clear hK K
  refine last_one (j := 7) (by kernel_rfl) rfl (fun K hK => ?_)
  rw [if_pos (by rfl)]
  simp only [tA, tB, tC]
  go_simp
  refine HL.out.mono ?_
  rintro e w1 ⟨la, ln, lc, na, nn, nc, ecI, rfl, HL1⟩
  have HS1 := (show Hid (w1.cell? ⟨fb, 7, none⟩ = some (.slice aw nW cw)) from keep_cell0 HL1.out.2.1 HS.out)
  refine hK.out _ _ (fun _ => HS1.out) ?_
  clear hK K
  refine last_one (j := 8) (by kernel_rfl) rfl (fun K hK => ?_)
  rw [if_pos (by rfl)]
  simp only [tA, tB, tC]
  go_simp
  refine hK.out _ _ (fun _ => HS1.out) ?_
  clear hK K
  refine tk (i := 9) (v := ?_) rfl (by kernel_rfl) (fun _ _ _ h => h) (by rfl) ?_ (by assumption) ?_
  rotate_left 1
  · intro w hSw; (try dsimp only at hSw); (go_simp <;> with_reducible rfl)
  simp only [Act.put, tA, tB, tC, tD, tE, tF]
  refine tk (i := 10) (v := ?_) rfl (by kernel_rfl) (fun _ _ _ h => h) (by rfl) ?_ (by assumption) ?_
  rotate_left 1
  · intro w hSw; (try dsimp only at hSw); (go_simp <;> with_reducible rfl)
  simp only [Act.put, tA, tB, tC, tD, tE, tF]
  refine tk (i := 11) (v := ?_) rfl (by kernel_rfl) (fun _ _ _ h => h) (by rfl) ?_ (by assumption) ?_
  rotate_left 1
  · intro w hSw; (try dsimp only at hSw); (go_simp <;> with_reducible rfl)
  simp only [Act.put, tA, tB, tC, tD, tE, tF]
  refine tk (i := 12) (v := ?_) rfl (by kernel_rfl) (fun _ _ _ h => h) (by rfl) ?_ (by assumption) ?_
  rotate_left 1
  · intro w hSw; (try dsimp only at hSw); (go_simp <;> with_reducible rfl)
  simp only [Act.put, tA, tB, tC, tD, tE, tF]
  refine last_one (j := 13) (by kernel_rfl) rfl (fun K hK => ?_)
  rw [if_pos (by rfl)]
  simp only [tA, tB, tC]
  go_simp
  refine hK.out _ _ (fun _ => HS1.out) ?_
  clear hK K
  refine last_one (j := 14) (by kernel_rfl) rfl (fun K hK => ?_)
  rw [if_pos (by rfl)]
  simp only [tA, tB, tC]
  go_simp
  refine hK.out _ _ (fun _ => HS1.out) ?_
  clear hK K
  refine last_one (j := 15) (by kernel_rfl) rfl (fun K hK => ?_)
  rw [if_pos (by rfl)]
  simp only [tA, tB, tC]
  go_simp
  refine hK.out _ _ (fun _ => HS1.out) ?_
  clear hK K
  refine last_one (j := 16) (by kernel_rfl) rfl (fun K hK => ?_)
  rw [if_pos (by rfl)]
  simp only [tA, tB, tC]
  go_simp
  refine hK.out _ _ (fun e => absurd rfl e) ?_
  clear hK K
  refine last_done (by kernel_rfl) ?_ _
  clear HS HM HL hS HS1
  by_cases hec : ec = 0
  · obtain rfl : ecI = 0 := by have := HL1.out.1; omega
    have HLs := hid (HLO.out.trans (if_pos hec))
    obtain ⟨-, k1, lg, lo, ng, no, hln, hnn, bl, bn, hlg, hng⟩ := HL1.out
    obtain ⟨hl1, hl2, hl3⟩ := litO_ok (by omega) HH.out.2.2.2.2.1 HI.out.ok.ws HLs.out
    obtain ⟨a', off', hsl, hdB, -⟩ := HH.out.2.2.2.1.drop u hl3
    have hpd := drop_block hl3 hsl w
    have HQ := (show Hid (∀ X, Keep noBlock w X → Calls Tryz.prog 32 #[.slice a' (bs.drop u).length (cap - u), .agg #[.slice a0 n0 c0, .slice a1 n1 c1, .slice a2 n2 c2]] X fun e w' => SqAns X (seqR Ω (bs.drop u) F.t0 F.t1 F.t2) e w') from fun X hk =>
      readS_all X a' (cap - u) gb off' (bs.drop u) a0 a1 a2 n0 n1 n2 c0 c1 c2 F.t0 F.t1 F.t2 (hdB.keep hk (fun _ h => h)) (fun p hp => by
        obtain ⟨q, hq, hb⟩ := hpd p hp
        have := HH.out.2.2.2.2.2.1 (fun e => litO_ne e HLs.out) q hq
        have := hk.size
        omega) (Nat.lt_of_lt_of_le HH.out.2.2.2.2.2.2 hk.size) (by rw [List.length_drop]; have := HH.out.2.2.2.2.1; omega) (HH.out.2.1.keep hk (fun h => h) (fun h => h)) (HI.out.t0.keep hk) (HI.out.t1.keep hk) (HI.out.t2.keep hk) HI.out.ok.g0 HI.out.ok.g1 HI.out.ok.g2)
    rw [← HN.out.1] at hsl
    have HU := (show Hid (l.length ≤ 524304 ∧ nw.length ≤ 256 ∧ u ≤ bs.length) from ⟨hl1, hl2, hl3⟩)
    have HK1 := hid k1
    have HLB := (show Hid (Bytes w1 la lc lg lo l ∧ Bytes w1 na nc ng no nw ∧ w.heap.size ≤ lg ∧ w.heap.size ≤ ng ∧ ln = l.length ∧ nn = nw.length) from ⟨bl, bn, hlg, hng, hln, hnn⟩)
    have hS4 : ∀ W, Keep noBlock w1 W → W.cell? ⟨fb, 4, none⟩ = some (.slice a0 n0 c0) ∧ W.cell? ⟨fb, 5, none⟩ = some (.slice a1 n1 c1) ∧ W.cell? ⟨fb, 6, none⟩ = some (.slice a2 n2 c2) := fun W hk => by
      have := IsFr.keep HI.out.fr (k1.trans' hk) (fun h => h)
      exact ⟨cell_of this 4, cell_of this 5, cell_of this 6⟩
    have HS4 := hid hS4
    have hul : (u : Int) ≤ (N : Int) := by have := HN.out.1; omega
    generalize (bs.drop u).length = Nd at *
    clear hl1 hl2 hl3 hdB hpd k1 bl bn hlg hng hln hnn hS4 HL1 hec
    cases hq : seqR Ω (bs.drop u) F.t0 F.t1 F.t2 with
    | none =>
      rw [hq] at HQ
      go_wp2_with fail
      apply one_wayZ
      · intro tail
        refine region_last (fun W => W.cell? ⟨fb, 4, none⟩ = some (.slice a0 n0 c0) ∧ W.cell? ⟨fb, 5, none⟩ = some (.slice a1 n1 c1) ∧ W.cell? ⟨fb, 6, none⟩ = some (.slice a2 n2 c2)) 15 mx (HS4.out _ (Keep.refl _ w1).drew) (fun hS => ?_)
        refine tk (i := 0) (v := ?_) rfl (by kernel_rfl) (fun _ _ _ h => h) (by rfl) ?_ (by assumption) ?_
        rotate_left 1
        · intro w hSw; (try dsimp only at hSw); (try obtain ⟨hSw1, hSw2, hSw3⟩ := hSw); (go_simp <;> with_reducible rfl)
        simp only [Act.put, tA, tB, tD, tE, tF]
        refine tk (i := 1) (v := ?_) rfl (by kernel_rfl) (fun _ _ _ h => h) (by rfl) ?_ (by assumption) ?_
        rotate_left 1
        · intro w hSw; (try dsimp only at hSw); (try obtain ⟨hSw1, hSw2, hSw3⟩ := hSw); (go_simp <;> with_reducible rfl)
        simp only [Act.put, tA, tB, tC, tD, tE, tF]
        refine tk (i := 2) (v := ?_) rfl (by kernel_rfl) (fun _ _ _ h => h) (by rfl) ?_ (by assumption) ?_
        rotate_left 1
        · intro w hSw; (try dsimp only at hSw); (try obtain ⟨hSw1, hSw2, hSw3⟩ := hSw); (go_simp <;> with_reducible rfl)
        simp only [Act.put, tA, tB, tC, tD, tE, tF]
        refine tk (i := 3) (v := ?_) rfl (by kernel_rfl) (fun _ _ _ h => h) (by rfl) ?_ (by assumption) ?_
        rotate_left 1
        · intro w hSw; (try dsimp only at hSw); (try obtain ⟨hSw1, hSw2, hSw3⟩ := hSw); (go_simp <;> with_reducible rfl)
        simp only [Act.put, tA, tB, tC, tD, tE, tF]
        refine tk (i := 4) (v := ?_) rfl (by kernel_rfl) (fun _ _ _ h => h) (by rfl) ?_ (by assumption) ?_
        rotate_left 1
        · intro w hSw; (try dsimp only at hSw); (try obtain ⟨hSw1, hSw2, hSw3⟩ := hSw); (go_simp <;> with_reducible rfl)
        simp only [Act.put, tA, tB, tC, tD, tE, tF]
        refine tk (i := 5) (v := ?_) rfl (by kernel_rfl) (fun _ _ _ h => h) (by rfl) ?_ (by assumption) ?_
        rotate_left 1
        · intro w hSw; (try dsimp only at hSw); (try obtain ⟨hSw1, hSw2, hSw3⟩ := hSw); (go_simp <;> with_reducible rfl)
        simp only [Act.put, tA, tB, tC, tD, tE, tF]
        refine tk (i := 6) (v := ?_) rfl (by kernel_rfl) (fun _ _ _ h => h) (by rfl) ?_ (by assumption) ?_
        rotate_left 1
        · intro w hSw; (try dsimp only at hSw); (try obtain ⟨hSw1, hSw2, hSw3⟩ := hSw); (go_simp <;> with_reducible rfl)
        simp only [Act.put, tA, tB, tC, tD, tE, tF]
        refine last_two (i := 7) (j := 12) (by kernel_rfl) rfl rfl (fun K hK => ?_) (fun K hK => ?_)
        · rw [if_pos (by rfl)]
          simp only [tA, tB, tC]
          go_simp
          refine (HQ.out w1.drew (HK1.out.drew)).mono ?_
          rintro e w3 ⟨k3', v, c, hc, rfl⟩; have HA := hid (And.intro k3' hc); clear k3' hc
          have k3 : Keep noBlock w1 w3 := (Keep.refl _ w1).drew.trans' HA.out.1
          refine hK.out _ _ (fun _ => HS4.out _ k3) ?_
          clear hK K
          have hS3 := HS4.out _ k3
          refine tk (i := 8) (v := ?_) rfl (by kernel_rfl) (fun _ _ _ h => h) (by rfl) ?_ (by assumption) ?_
          rotate_left 1
          · intro w hSw; (try dsimp only at hSw); (try obtain ⟨hSw1, hSw2, hSw3⟩ := hSw); (go_simp <;> with_reducible rfl)
          simp only [Act.put, tA, tB, tC, tD, tE, tF]
          refine tk (i := 9) (v := ?_) rfl (by kernel_rfl) (fun _ _ _ h => h) (by rfl) ?_ (by assumption) ?_
          rotate_left 1
          · intro w hSw; (try dsimp only at hSw); (try obtain ⟨hSw1, hSw2, hSw3⟩ := hSw); (go_simp <;> with_reducible rfl)
          simp only [Act.put, tA, tB, tC, tD, tE, tF]
          refine tk (i := 10) (v := ?_) rfl (by kernel_rfl) (fun _ _ _ h => h) (by rfl) ?_ (by assumption) ?_
          rotate_left 1
          · intro w hSw; (try dsimp only at hSw); (try obtain ⟨hSw1, hSw2, hSw3⟩ := hSw); (go_simp <;> with_reducible rfl)
          simp only [Act.put, tA, tB, tC, tD, tE, tF]
          refine tk (i := 11) (v := ?_) rfl (by kernel_rfl) (fun _ _ _ h => h) (by rfl) ?_ (by assumption) ?_
          rotate_left 1
          · intro w hSw; (try dsimp only at hSw); (try obtain ⟨hSw1, hSw2, hSw3⟩ := hSw); (go_simp <;> with_reducible rfl)
          simp only [Act.put, tA, tB, tC, tD, tE, tF]
          clear hS3
          have hz := alloc_new w3 (.cells z38 38)
          have k4 : Keep noBlock w1 (w3.alloc (.cells z38 38)) := k3.alloc _
          obtain ⟨q1, q2, q3, q4, q5, q6⟩ := st38 hz none none none 0 0 0 0 0 0
          have kA := (Keep.refl noBlock w3).alloc (.cells z38 38)
          unfold z38 at hz k4 q1 q4 q5 q6 kA
          refine last_one (j := 12) (by kernel_rfl) rfl (fun K hK => ?_)
          rw [if_pos (by rfl)]
          simp only [tA, tB, tC]
          go_simp
          refine hK.out _ _ (fun _ => HS4.out _ k4) ?_
          clear hK K
          refine last_one (j := 13) (by kernel_rfl) rfl (fun K hK => ?_)
          rw [if_pos (by rfl)]
          simp only [tA, tB, tC]
          go_simp
          refine hK.out _ _ (fun _ => HS4.out _ k4) ?_
          clear hK K
          refine last_one (j := 14) (by kernel_rfl) rfl (fun K hK => ?_)
          rw [if_pos (by rfl)]
          refine wp_store_mid 38 (.tmp 10) (.tmp 39) rfl w3.heap.size 0 #[.slice none 0 0, .slice none 0 0, .slice none 0 0] rfl rfl q1 q2 q3 ?_
          have k5 := k4.trans q5 (fun j hj e => by have := k3.size; omega)
          refine hK.out _ _ (fun _ => HS4.out _ k5) ?_
          clear hK K
          refine last_one (j := 15) (by kernel_rfl) rfl (fun K hK => ?_)
          rw [if_pos (by rfl)]
          simp only [tA, tB, tC]
          go_simp
          refine hK.out _ _ (fun e => absurd rfl e) ?_
          clear hK K
          refine last_done (by kernel_rfl) ?_ _
          have HT5 := hid (And.intro k5 HA.out.2)
          clear HA k3 k4 k5 q1 q2 q3 q4 q5 q6 hz kA hS
          generalize (w3.alloc (.cells #[.slice none 0 0, .slice none 0 0, .slice none 0 0] 38)).setCells w3.heap.size 0 [.slice none 0 0, .slice none 0 0, .slice none 0 0] = W5 at *
          generalize w3.heap.size = tb at *
          revert HT5 tb W5 c v
          exact tail.out
        · rw [if_pos (by rfl)]
          simp only [tA, tB, tC]
          go_simp
          have k2 : Keep noBlock w1 (w1.drew.alloc (.cells z38 38)) := (Keep.refl _ w1).drew.alloc _
          have hz0 := alloc_new w1.drew (.cells z38 38)
          unfold z38 at k2 hz0
          refine hK.out _ _ (fun _ => HS4.out _ k2) ?_
          clear hK K
          refine last_one (j := 7) (by kernel_rfl) rfl (fun K hK => ?_)
          rw [if_pos (by rfl)]
          simp only [tA, tB, tC]
          go_simp
          refine (HQ.out _ (HK1.out.trans' k2)).mono ?_
          rintro e w3 ⟨k3', v, c, hc, rfl⟩; have HA := hid (And.intro k3' hc); clear k3' hc
          have k3 : Keep noBlock w1 w3 := k2.trans' HA.out.1
          refine hK.out _ _ (fun _ => HS4.out _ k3) ?_
          clear hK K
          have hS3 := HS4.out _ k3
          refine tk (i := 8) (v := ?_) rfl (by kernel_rfl) (fun _ _ _ h => h) (by rfl) ?_ (by assumption) ?_
          rotate_left 1
          · intro w hSw; (try dsimp only at hSw); (try obtain ⟨hSw1, hSw2, hSw3⟩ := hSw); (go_simp <;> with_reducible rfl)
          simp only [Act.put, tA, tB, tC, tD, tE, tF]
          refine tk (i := 9) (v := ?_) rfl (by kernel_rfl) (fun _ _ _ h => h) (by rfl) ?_ (by assumption) ?_
          rotate_left 1
          · intro w hSw; (try dsimp only at hSw); (try obtain ⟨hSw1, hSw2, hSw3⟩ := hSw); (go_simp <;> with_reducible rfl)
          simp only [Act.put, tA, tB, tC, tD, tE, tF]
          refine tk (i := 10) (v := ?_) rfl (by kernel_rfl) (fun _ _ _ h => h) (by rfl) ?_ (by assumption) ?_
          rotate_left 1
          · intro w hSw; (try dsimp only at hSw); (try obtain ⟨hSw1, hSw2, hSw3⟩ := hSw); (go_simp <;> with_reducible rfl)
          simp only [Act.put, tA, tB, tC, tD, tE, tF]
          refine tk (i := 11) (v := ?_) rfl (by kernel_rfl) (fun _ _ _ h => h) (by rfl) ?_ (by assumption) ?_
          rotate_left 1
          · intro w hSw; (try dsimp only at hSw); (try obtain ⟨hSw1, hSw2, hSw3⟩ := hSw); (go_simp <;> with_reducible rfl)
          simp only [Act.put, tA, tB, tC, tD, tE, tF]
          clear hS3
          refine last_one (j := 13) (by kernel_rfl) rfl (fun K hK => ?_)
          rw [if_pos (by rfl)]
          simp only [tA, tB, tC]
          go_simp
          refine hK.out _ _ (fun _ => HS4.out _ k3) ?_
          clear hK K
          have hz : w3.heap[w1.heap.size]? = some (.cells z38 38 (0, 0)) := HA.out.1.obj hz0 (fun h => h)
          obtain ⟨q1, q2, q3, q4, q5, q6⟩ := st38 hz none none none 0 0 0 0 0 0
          refine last_one (j := 14) (by kernel_rfl) rfl (fun K hK => ?_)
          rw [if_pos (by rfl)]
          refine wp_store_mid 38 (.tmp 10) (.tmp 39) rfl w1.heap.size 0 #[.slice none 0 0, .slice none 0 0, .slice none 0 0] rfl rfl q1 q2 q3 ?_
          have k5 := k3.trans q5 (fun j hj e => by omega)
          refine hK.out _ _ (fun _ => HS4.out _ k5) ?_
          clear hK K
          refine last_one (j := 15) (by kernel_rfl) rfl (fun K hK => ?_)
          rw [if_pos (by rfl)]
          simp only [tA, tB, tC]
          go_simp
          refine hK.out _ _ (fun e => absurd rfl e) ?_
          clear hK K
          refine last_done (by kernel_rfl) ?_ _
          have HT5 := hid (And.intro k5 HA.out.2)
          exact tail.out v c _ HT5 w1.heap.size
      · intro v c W5 HT5 tb
        have hcb : (c != 0) = true := by
          have := HT5.out.2
          simp; omega
        clear HS4 HQ hsl
        go_wp2_with fail
        go_ret
        have hRn : R = none := by
          rw [HR.out]
          refine unpackP_n2 (l := l) (nw := nw) ?_ hq
          rw [← HMm.out]
          exact HLs.out
        rw [hRn]
        have k1 := HK1.out.trans' HT5.out.1
        exact ⟨rfl, F, _, _, _, _, ov, IsFr.keep HI.out.fr k1 (fun h => h), HI.out.out.keep k1 (fun _ _ h => h), List.prefix_refl _, (CoS.refl w fb ov).quiet k1⟩
    | some q =>
      obtain ⟨ss, y0, y1, y2⟩ := q
      rw [hq] at HQ
      go_wp2_with fail
      apply one_wayZ
      · intro tail
        refine region_last (fun W => W.cell? ⟨fb, 4, none⟩ = some (.slice a0 n0 c0) ∧ W.cell? ⟨fb, 5, none⟩ = some (.slice a1 n1 c1) ∧ W.cell? ⟨fb, 6, none⟩ = some (.slice a2 n2 c2)) 15 mx (HS4.out _ (Keep.refl _ w1).drew) (fun hS => ?_)
        refine tk (i := 0) (v := ?_) rfl (by kernel_rfl) (fun _ _ _ h => h) (by rfl) ?_ (by assumption) ?_
        rotate_left 1
        · intro w hSw; (try dsimp only at hSw); (try obtain ⟨hSw1, hSw2, hSw3⟩ := hSw); (go_simp <;> with_reducible rfl)
        simp only [Act.put, tA, tB, tD, tE, tF]
        refine tk (i := 1) (v := ?_) rfl (by kernel_rfl) (fun _ _ _ h => h) (by rfl) ?_ (by assumption) ?_
        rotate_left 1
        · intro w hSw; (try dsimp only at hSw); (try obtain ⟨hSw1, hSw2, hSw3⟩ := hSw); (go_simp <;> with_reducible rfl)
        simp only [Act.put, tA, tB, tC, tD, tE, tF]
        refine tk (i := 2) (v := ?_) rfl (by kernel_rfl) (fun _ _ _ h => h) (by rfl) ?_ (by assumption) ?_
        rotate_left 1
        · intro w hSw; (try dsimp only at hSw); (try obtain ⟨hSw1, hSw2, hSw3⟩ := hSw); (go_simp <;> with_reducible rfl)
        simp only [Act.put, tA, tB, tC, tD, tE, tF]
        refine tk (i := 3) (v := ?_) rfl (by kernel_rfl) (fun _ _ _ h => h) (by rfl) ?_ (by assumption) ?_
        rotate_left 1
        · intro w hSw; (try dsimp only at hSw); (try obtain ⟨hSw1, hSw2, hSw3⟩ := hSw); (go_simp <;> with_reducible rfl)
        simp only [Act.put, tA, tB, tC, tD, tE, tF]
        refine tk (i := 4) (v := ?_) rfl (by kernel_rfl) (fun _ _ _ h => h) (by rfl) ?_ (by assumption) ?_
        rotate_left 1
        · intro w hSw; (try dsimp only at hSw); (try obtain ⟨hSw1, hSw2, hSw3⟩ := hSw); (go_simp <;> with_reducible rfl)
        simp only [Act.put, tA, tB, tC, tD, tE, tF]
        refine tk (i := 5) (v := ?_) rfl (by kernel_rfl) (fun _ _ _ h => h) (by rfl) ?_ (by assumption) ?_
        rotate_left 1
        · intro w hSw; (try dsimp only at hSw); (try obtain ⟨hSw1, hSw2, hSw3⟩ := hSw); (go_simp <;> with_reducible rfl)
        simp only [Act.put, tA, tB, tC, tD, tE, tF]
        refine tk (i := 6) (v := ?_) rfl (by kernel_rfl) (fun _ _ _ h => h) (by rfl) ?_ (by assumption) ?_
        rotate_left 1
        · intro w hSw; (try dsimp only at hSw); (try obtain ⟨hSw1, hSw2, hSw3⟩ := hSw); (go_simp <;> with_reducible rfl)
        simp only [Act.put, tA, tB, tC, tD, tE, tF]
        refine last_two (i := 7) (j := 12) (by kernel_rfl) rfl rfl (fun K hK => ?_) (fun K hK => ?_)
        · rw [if_pos (by rfl)]
          simp only [tA, tB, tC]
          go_simp
          refine (HQ.out w1.drew (HK1.out.drew)).mono ?_
          rintro e w3 ⟨k3', v, b0, m0, d0, b1, m1, d1, b2, m2, d2, rfl, p1, p2, p3, p4, p5, p6, p7, p8, p9⟩; have HA := (show Hid (Keep noBlock _ w3 ∧ SpRow w3 v ss ∧ IsTs w3 (.slice b0 m0 d0) y0 ∧ IsTs w3 (.slice b1 m1 d1) y1 ∧ IsTs w3 (.slice b2 m2 d2) y2 ∧ (GoodO 0 y0 ∧ GoodO 1 y1 ∧ GoodO 2 y2) ∧ NwS w.heap.size v ∧ NwS w.heap.size (.slice b0 m0 d0) ∧ NwS w.heap.size (.slice b1 m1 d1) ∧ NwS w.heap.size (.slice b2 m2 d2)) from ⟨k3', p1, p2, p3, p4, p5, nws_le p6 (HK1.out.size), nws_le p7 (HK1.out.size), nws_le p8 (HK1.out.size), nws_le p9 (HK1.out.size)⟩); clear k3' p1 p2 p3 p4 p5 p6 p7 p8 p9
          have k3 : Keep noBlock w1 w3 := (Keep.refl _ w1).drew.trans' HA.out.1
          refine hK.out _ _ (fun _ => HS4.out _ k3) ?_
          clear hK K
          have hS3 := HS4.out _ k3
          refine tk (i := 8) (v := ?_) rfl (by kernel_rfl) (fun _ _ _ h => h) (by rfl) ?_ (by assumption) ?_
          rotate_left 1
          · intro w hSw; (try dsimp only at hSw); (try obtain ⟨hSw1, hSw2, hSw3⟩ := hSw); (go_simp <;> with_reducible rfl)
          simp only [Act.put, tA, tB, tC, tD, tE, tF]
          refine tk (i := 9) (v := ?_) rfl (by kernel_rfl) (fun _ _ _ h => h) (by rfl) ?_ (by assumption) ?_
          rotate_left 1
          · intro w hSw; (try dsimp only at hSw); (try obtain ⟨hSw1, hSw2, hSw3⟩ := hSw); (go_simp <;> with_reducible rfl)
          simp only [Act.put, tA, tB, tC, tD, tE, tF]
          refine tk (i := 10) (v := ?_) rfl (by kernel_rfl) (fun _ _ _ h => h) (by rfl) ?_ (by assumption) ?_
          rotate_left 1
          · intro w hSw; (try dsimp only at hSw); (try obtain ⟨hSw1, hSw2, hSw3⟩ := hSw); (go_simp <;> with_reducible rfl)
          simp only [Act.put, tA, tB, tC, tD, tE, tF]
          refine tk (i := 11) (v := ?_) rfl (by kernel_rfl) (fun _ _ _ h => h) (by rfl) ?_ (by assumption) ?_
          rotate_left 1
          · intro w hSw; (try dsimp only at hSw); (try obtain ⟨hSw1, hSw2, hSw3⟩ := hSw); (go_simp <;> with_reducible rfl)
          simp only [Act.put, tA, tB, tC, tD, tE, tF]
          clear hS3
          have hz := alloc_new w3 (.cells z38 38)
          have k4 : Keep noBlock w1 (w3.alloc (.cells z38 38)) := k3.alloc _
          obtain ⟨q1, q2, q3, q4, q5, q6⟩ := st38 hz b0 b1 b2 m0 m1 m2 d0 d1 d2
          have kA := (Keep.refl noBlock w3).alloc (.cells z38 38)
          unfold z38 at hz k4 q1 q4 q5 q6 kA
          refine last_one (j := 12) (by kernel_rfl) rfl (fun K hK => ?_)
          rw [if_pos (by rfl)]
          simp only [tA, tB, tC]
          go_simp
          refine hK.out _ _ (fun _ => HS4.out _ k4) ?_
          clear hK K
          refine last_one (j := 13) (by kernel_rfl) rfl (fun K hK => ?_)
          rw [if_pos (by rfl)]
          simp only [tA, tB, tC]
          go_simp
          refine hK.out _ _ (fun _ => HS4.out _ k4) ?_
          clear hK K
          refine last_one (j := 14) (by kernel_rfl) rfl (fun K hK => ?_)
          rw [if_pos (by rfl)]
          refine wp_store_mid 38 (.tmp 10) (.tmp 39) rfl w3.heap.size 0 #[.slice b0 m0 d0, .slice b1 m1 d1, .slice b2 m2 d2] rfl rfl q1 q2 q3 ?_
          have k5 := k4.trans q5 (fun j hj e => by have := k3.size; omega)
          refine hK.out _ _ (fun _ => HS4.out _ k5) ?_
          clear hK K
          refine last_one (j := 15) (by kernel_rfl) rfl (fun K hK => ?_)
          rw [if_pos (by rfl)]
          simp only [tA, tB, tC]
          go_simp
          refine hK.out _ _ (fun e => absurd rfl e) ?_
          clear hK K
          refine last_done (by kernel_rfl) ?_ _
          have HT5 := hid ((⟨q4, k5, (HA.out.2.1.keep kA).keepB q5 q6, IsTs.keepB (HA.out.2.2.1.keep kA) q5 q6, IsTs.keepB (HA.out.2.2.2.1.keep kA) q5 q6, IsTs.keepB (HA.out.2.2.2.2.1.keep kA) q5 q6, HA.out.2.2.2.2.2.1, HA.out.2.2.2.2.2.2.1, HA.out.2.2.2.2.2.2.2.1, HA.out.2.2.2.2.2.2.2.2.1, HA.out.2.2.2.2.2.2.2.2.2, k3.size⟩ : R4S w w1 _ w3.heap.size v (.slice b0 m0 d0) (.slice b1 m1 d1) (.slice b2 m2 d2) ss y0 y1 y2))
          clear HA k3 k4 k5 q1 q2 q3 q4 q5 q6 hz kA hS
          generalize (w3.alloc (.cells #[.slice none 0 0, .slice none 0 0, .slice none 0 0] 38)).setCells w3.heap.size 0 [.slice b0 m0 d0, .slice b1 m1 d1, .slice b2 m2 d2] = W5 at *
          generalize w3.heap.size = tb at *
          revert HT5 tb W5 v b0 m0 d0 b1 m1 d1 b2 m2 d2
          exact tail.out
        · rw [if_pos (by rfl)]
          simp only [tA, tB, tC]
          go_simp
          have k2 : Keep noBlock w1 (w1.drew.alloc (.cells z38 38)) := (Keep.refl _ w1).drew.alloc _
          have hz0 := alloc_new w1.drew (.cells z38 38)
          unfold z38 at k2 hz0
          refine hK.out _ _ (fun _ => HS4.out _ k2) ?_
          clear hK K
          refine last_one (j := 7) (by kernel_rfl) rfl (fun K hK => ?_)
          rw [if_pos (by rfl)]
          simp only [tA, tB, tC]
          go_simp
          refine (HQ.out _ (HK1.out.trans' k2)).mono ?_
          rintro e w3 ⟨k3', v, b0, m0, d0, b1, m1, d1, b2, m2, d2, rfl, p1, p2, p3, p4, p5, p6, p7, p8, p9⟩; have HA := (show Hid (Keep noBlock _ w3 ∧ SpRow w3 v ss ∧ IsTs w3 (.slice b0 m0 d0) y0 ∧ IsTs w3 (.slice b1 m1 d1) y1 ∧ IsTs w3 (.slice b2 m2 d2) y2 ∧ (GoodO 0 y0 ∧ GoodO 1 y1 ∧ GoodO 2 y2) ∧ NwS w.heap.size v ∧ NwS w.heap.size (.slice b0 m0 d0) ∧ NwS w.heap.size (.slice b1 m1 d1) ∧ NwS w.heap.size (.slice b2 m2 d2)) from ⟨k3', p1, p2, p3, p4, p5, nws_le p6 ((HK1.out.trans' k2).size), nws_le p7 ((HK1.out.trans' k2).size), nws_le p8 ((HK1.out.trans' k2).size), nws_le p9 ((HK1.out.trans' k2).size)⟩); clear k3' p1 p2 p3 p4 p5 p6 p7 p8 p9
          have k3 : Keep noBlock w1 w3 := k2.trans' HA.out.1
          refine hK.out _ _ (fun _ => HS4.out _ k3) ?_
          clear hK K
          have hS3 := HS4.out _ k3
          refine tk (i := 8) (v := ?_) rfl (by kernel_rfl) (fun _ _ _ h => h) (by rfl) ?_ (by assumption) ?_
          rotate_left 1
          · intro w hSw; (try dsimp only at hSw); (try obtain ⟨hSw1, hSw2, hSw3⟩ := hSw); (go_simp <;> with_reducible rfl)
          simp only [Act.put, tA, tB, tC, tD, tE, tF]
          refine tk (i := 9) (v := ?_) rfl (by kernel_rfl) (fun _ _ _ h => h) (by rfl) ?_ (by assumption) ?_
          rotate_left 1
          · intro w hSw; (try dsimp only at hSw); (try obtain ⟨hSw1, hSw2, hSw3⟩ := hSw); (go_simp <;> with_reducible rfl)
          simp only [Act.put, tA, tB, tC, tD, tE, tF]
          refine tk (i := 10) (v := ?_) rfl (by kernel_rfl) (fun _ _ _ h => h) (by rfl) ?_ (by assumption) ?_
          rotate_left 1
          · intro w hSw; (try dsimp only at hSw); (try obtain ⟨hSw1, hSw2, hSw3⟩ := hSw); (go_simp <;> with_reducible rfl)
          simp only [Act.put, tA, tB, tC, tD, tE, tF]
          refine tk (i := 11) (v := ?_) rfl (by kernel_rfl) (fun _ _ _ h => h) (by rfl) ?_ (by assumption) ?_
          rotate_left 1
          · intro w hSw; (try dsimp only at hSw); (try obtain ⟨hSw1, hSw2, hSw3⟩ := hSw); (go_simp <;> with_reducible rfl)
          simp only [Act.put, tA, tB, tC, tD, tE, tF]
          clear hS3
          refine last_one (j := 13) (by kernel_rfl) rfl (fun K hK => ?_)
          rw [if_pos (by rfl)]
          simp only [tA, tB, tC]
          go_simp
          refine hK.out _ _ (fun _ => HS4.out _ k3) ?_
          clear hK K
          have hz : w3.heap[w1.heap.size]? = some (.cells z38 38 (0, 0)) := HA.out.1.obj hz0 (fun h => h)
          obtain ⟨q1, q2, q3, q4, q5, q6⟩ := st38 hz b0 b1 b2 m0 m1 m2 d0 d1 d2
          refine last_one (j := 14) (by kernel_rfl) rfl (fun K hK => ?_)
          rw [if_pos (by rfl)]
          refine wp_store_mid 38 (.tmp 10) (.tmp 39) rfl w1.heap.size 0 #[.slice b0 m0 d0, .slice b1 m1 d1, .slice b2 m2 d2] rfl rfl q1 q2 q3 ?_
          have k5 := k3.trans q5 (fun j hj e => by omega)
          refine hK.out _ _ (fun _ => HS4.out _ k5) ?_
          clear hK K
          refine last_one (j := 15) (by kernel_rfl) rfl (fun K hK => ?_)
          rw [if_pos (by rfl)]
          simp only [tA, tB, tC]
          go_simp
          refine hK.out _ _ (fun e => absurd rfl e) ?_
          clear hK K
          refine last_done (by kernel_rfl) ?_ _
          have HT5 := hid ((⟨q4, k5, HA.out.2.1.keepB q5 q6, IsTs.keepB HA.out.2.2.1 q5 q6, IsTs.keepB HA.out.2.2.2.1 q5 q6, IsTs.keepB HA.out.2.2.2.2.1 q5 q6, HA.out.2.2.2.2.2.1, HA.out.2.2.2.2.2.2.1, HA.out.2.2.2.2.2.2.2.1, HA.out.2.2.2.2.2.2.2.2.1, HA.out.2.2.2.2.2.2.2.2.2, Nat.le_refl _⟩ : R4S w w1 _ w1.heap.size v (.slice b0 m0 d0) (.slice b1 m1 d1) (.slice b2 m2 d2) ss y0 y1 y2))
          exact tail.out v b0 m0 d0 b1 m1 d1 b2 m2 d2 _ w1.heap.size HT5
      · intro v b0 m0 d0 b1 m1 d1 b2 m2 d2 W5 tb HT5
        obtain ⟨sa, cv, rfl, hrow⟩ := HT5.out.row.form
        have HRw := hid hrow
        clear hrow HS4 HQ hsl
        have hfr5 : IsFr W5 fb F (.slice a0 n0 c0) (.slice a1 n1 c1) (.slice a2 n2 c2) (.slice aw F.ws.length cw) ov := IsFr.keep HI.out.fr (HK1.out.trans' HT5.out.kp) (fun h => h)
        have hfb : fb < w.heap.size := HI.out.fr.lt
        have hne : tb ≠ fb := by
          have := HK1.out.size
          have := HT5.out.tb
          omega
        have HS7 := hid (fun (W : World) (hk : Keep (fun k => k = fb) W5 W) => (show W.cell? ⟨tb, 0, none⟩ = some (.slice b0 m0 d0) ∧ W.cell? ⟨tb, 1, none⟩ = some (.slice b1 m1 d1) ∧ W.cell? ⟨tb, 2, none⟩ = some (.slice b2 m2 d2) from
          ⟨keep_cellS hk hne (cell_of HT5.out.ob 0), keep_cellS hk hne (cell_of HT5.out.ob 1), keep_cellS hk hne (cell_of HT5.out.ob 2)⟩))
        have e7 : W5.drew.cell? ⟨fb, 7, none⟩ = some (.slice aw F.ws.length cw) := cell_of (w := W5.drew) hfr5 7
        have f7 : W5.drew.frozen? ⟨fb, 7, none⟩ = false := frozen_of (w := W5.drew) hfr5 7
        have kw : Keep (fun k => k = fb) W5 (W5.setCell ⟨fb, 7, none⟩ (.slice na nn nc)).drew := ((Keep.refl (fun k => k = fb) W5).setCell (p := ⟨fb, 7, none⟩) (fun _ => rfl) _).drew
        have o7 : (W5.setCell ⟨fb, 7, none⟩ (.slice na nn nc)).drew.heap[fb]? = _ := set_obj (w := W5) hfr5 7 (.slice na nn nc)
        have HST := (show Hid ((W5.setCell ⟨fb, 7, none⟩ (.slice na nn nc)).drew.there fb 4 (#[.slice b0 m0 d0, .slice b1 m1 d1, .slice b2 m2 d2] : Array Value).size ∧ (Tryz.prog.info? 38).map (·.size) = some (#[.slice b0 m0 d0, .slice b1 m1 d1, .slice b2 m2 d2] : Array Value).size ∧ (#[.slice b0 m0 d0, .slice b1 m1 d1, .slice b2 m2 d2] : Array Value).all (·.oneCell') = true) from
          ⟨fun j hj => ⟨by have hj3 : j < 3 := hj; rw [cell_of o7, Array.getElem?_eq_getElem (by show 4 + j < 17; omega)]; rfl, frozen_of o7 _⟩, (by kernel_rfl : (Tryz.prog.info? 38).map (·.size) = some 3), all_oneCell_toArray (fun v hv => by simp only [List.mem_cons, List.not_mem_nil, or_false] at hv; rcases hv with rfl | rfl | rfl <;> rfl)⟩)
        have o8 := setCells_obj fb 44 [.slice b0 m0 d0, .slice b1 m1 d1, .slice b2 m2 d2] 4 _ _ o7
        have k8 : Keep (fun k => k = fb) W5 ((W5.setCell ⟨fb, 7, none⟩ (.slice na nn nc)).drew.setCells fb 4 [.slice b0 m0 d0, .slice b1 m1 d1, .slice b2 m2 d2]) := keep_setCells (S := fun k => k = fb) fb (fun _ => rfl) _ _ _ kw
        have HF6 := (show Hid (IsFr ((W5.setCell ⟨fb, 7, none⟩ (.slice na nn nc)).drew.setCells fb 4 [.slice b0 m0 d0, .slice b1 m1 d1, .slice b2 m2 d2]) fb { F with ws := nw, t0 := y0, t1 := y1, t2 := y2 } (.slice b0 m0 d0) (.slice b1 m1 d1) (.slice b2 m2 d2) (.slice na nn nc) ov ∧ Keep (fun k => k = fb) W5 ((W5.setCell ⟨fb, 7, none⟩ (.slice na nn nc)).drew.setCells fb 4 [.slice b0 m0 d0, .slice b1 m1 d1, .slice b2 m2 d2])) from ⟨o8, k8⟩)
        clear o7 o8 k8 hfr5
        go_wp2_with fail
        refine region_last (fun W => W.cell? ⟨tb, 0, none⟩ = some (.slice b0 m0 d0) ∧ W.cell? ⟨tb, 1, none⟩ = some (.slice b1 m1 d1) ∧ W.cell? ⟨tb, 2, none⟩ = some (.slice b2 m2 d2)) 9 mx (HS7.out _ (Keep.refl _ W5).drew) (fun hS => ?_)
        refine tk (i := 0) (v := ?_) rfl (by kernel_rfl) (fun _ _ _ h => h) (by rfl) ?_ (by assumption) ?_
        rotate_left 1
        · intro w hSw; (try dsimp only at hSw); (try obtain ⟨hSw1, hSw2, hSw3⟩ := hSw); (go_simp <;> with_reducible rfl)
        simp only [Act.put, tA, tB, tD, tE, tF]
        refine tk (i := 1) (v := ?_) rfl (by kernel_rfl) (fun _ _ _ h => h) (by rfl) ?_ (by assumption) ?_
        rotate_left 1
        · intro w hSw; (try dsimp only at hSw); (try obtain ⟨hSw1, hSw2, hSw3⟩ := hSw); (go_simp <;> with_reducible rfl)
        simp only [Act.put, tA, tB, tC, tD, tE, tF]
        refine tk (i := 2) (v := ?_) rfl (by kernel_rfl) (fun _ _ _ h => h) (by rfl) ?_ (by assumption) ?_
        rotate_left 1
        · intro w hSw; (try dsimp only at hSw); (try obtain ⟨hSw1, hSw2, hSw3⟩ := hSw); (go_simp <;> with_reducible rfl)
        simp only [Act.put, tA, tB, tC, tD, tE, tF]
        refine tk (i := 3) (v := ?_) rfl (by kernel_rfl) (fun _ _ _ h => h) (by rfl) ?_ (by assumption) ?_
        rotate_left 1
        · intro w hSw; (try dsimp only at hSw); (try obtain ⟨hSw1, hSw2, hSw3⟩ := hSw); (go_simp <;> with_reducible rfl)
        simp only [Act.put, tA, tB, tC, tD, tE, tF]
        refine tk (i := 4) (v := ?_) rfl (by kernel_rfl) (fun _ _ _ h => h) (by rfl) ?_ (by assumption) ?_
        rotate_left 1
        · intro w hSw; (try dsimp only at hSw); (try obtain ⟨hSw1, hSw2, hSw3⟩ := hSw); (go_simp <;> with_reducible rfl)
        simp only [Act.put, tA, tB, tC, tD, tE, tF]
        refine tk (i := 5) (v := ?_) rfl (by kernel_rfl) (fun _ _ _ h => h) (by rfl) ?_ (by assumption) ?_
        rotate_left 1
        · intro w hSw; (try dsimp only at hSw); (try obtain ⟨hSw1, hSw2, hSw3⟩ := hSw); (go_simp <;> with_reducible rfl)
        simp only [Act.put, tA, tB, tC, tD, tE, tF]
        refine last_one (j := 6) (by kernel_rfl) rfl (fun K hK => ?_)
        rw [if_pos (by rfl)]
        simp only [tA, tB, tC]
        go_simp
        refine hK.out _ _ (fun _ => HS7.out _ kw) ?_
        clear hK K
        refine last_one (j := 7) (by kernel_rfl) rfl (fun K hK => ?_)
        rw [if_pos (by rfl)]
        simp only [tA, tB, tC]
        go_simp
        refine hK.out _ _ (fun _ => HS7.out _ kw) ?_
        clear hK K
        refine last_one (j := 8) (by kernel_rfl) rfl (fun K hK => ?_)
        rw [if_pos (by rfl)]
        simp only [tA, tB, tC]
        go_simp
        refine hK.out _ _ (fun _ => HS7.out _ kw) ?_
        clear hK K
        refine last_one (j := 9) (by kernel_rfl) rfl (fun K hK => ?_)
        rw [if_pos (by rfl)]
        refine wp_store_mid 38 (.tmp 50) (.tmp 46) rfl fb 4 #[.slice b0 m0 d0, .slice b1 m1 d1, .slice b2 m2 d2] rfl rfl HST.out.1 HST.out.2.1 HST.out.2.2 ?_
        refine hK.out _ _ (fun e => absurd rfl e) ?_
        clear hK K
        refine last_done (by kernel_rfl) ?_ _
        clear kw e7 f7 HST HS7 hS
        generalize (W5.setCell ⟨fb, 7, none⟩ (.slice na nn nc)).drew.setCells fb 4 [.slice b0 m0 d0, .slice b1 m1 d1, .slice b2 m2 d2] = W6 at *
        obtain ⟨oa, oc, hov, hoc⟩ := HI.out.out.slice
        obtain ⟨No, hNo⟩ : ∃ No, No = F.out.length := ⟨_, rfl⟩
        rw [← hNo] at hov hoc
        have hNb : (No : Int) ≤ 16777216 := by have := HH.out.2.2.1; omega
        obtain ⟨en, hen⟩ : ∃ en : Nat, (No : Int) + (m : Int) = (en : Int) := ⟨No + m, by omega⟩
        have henb : (en : Int) ≤ 16908288 := by omega
        have hwen : IntKind.i64.wrap (en : Int) = (en : Int) := by rw [IntKind.wrap_i64]; omega
        have HS8 := (show Hid (W6.drew.cell? ⟨fb, 15, none⟩ = some (.slice oa No oc)) from by rw [← hov]; exact cell_of (w := W6.drew) HF6.out.1 15)
        have HM6 := (show Hid (Calls Tryz.prog 27 #[.pointer (some ⟨fb, 0, none⟩)] W6.drew fun e w' => e = .returned (.int .i64 (m : Int)) ∧ w' = W6.drew) from by
          have := most_any (IsFr.keep HF6.out.1 (Keep.refl noBlock W6).drew (fun h => h)) HI.out.ok.win
          rw [HMm.out]
          exact this)
        have HOv := (show Hid (ov = .slice oa No oc ∧ No ≤ oc ∧ No = F.out.length ∧ en = F.out.length + mostF F) from ⟨hov, hoc, hNo, by rw [← HMm.out]; omega⟩)
        clear hov hoc hNo
        go_wp2_with fail
        refine region_last (fun W => W.cell? ⟨fb, 15, none⟩ = some (.slice oa No oc)) 8 mx HS8.out (fun hS => ?_)
        refine tk (i := 0) (v := ?_) rfl (by kernel_rfl) (fun _ _ _ h => h) (by rfl) ?_ (by assumption) ?_
        rotate_left 1
        · intro w hSw; (try dsimp only at hSw); (go_simp <;> with_reducible rfl)
        simp only [Act.put, tA, tB, tD, tE, tF]
        refine tk (i := 1) (v := ?_) rfl (by kernel_rfl) (fun _ _ _ h => h) (by rfl) ?_ (by assumption) ?_
        rotate_left 1
        · intro w hSw; (try dsimp only at hSw); (go_simp <;> with_reducible rfl)
        simp only [Act.put, tA, tB, tC, tD, tE, tF]
        refine tk (i := 2) (v := ?_) rfl (by kernel_rfl) (fun _ _ _ h => h) (by rfl) ?_ (by assumption) ?_
        rotate_left 1
        · intro w hSw; (try dsimp only at hSw); (go_simp <;> with_reducible rfl)
        simp only [Act.put, tA, tB, tC, tD, tE, tF]
        refine tk (i := 3) (v := ?_) rfl (by kernel_rfl) (fun _ _ _ h => h) (by rfl) ?_ (by assumption) ?_
        rotate_left 1
        · intro w hSw; (try dsimp only at hSw); (go_simp <;> with_reducible rfl)
        simp only [Act.put, tA, tB, tC, tD, tE, tF]
        refine tk (i := 4) (v := ?_) rfl (by kernel_rfl) (fun _ _ _ h => h) (by rfl) ?_ (by assumption) ?_
        rotate_left 1
        · intro w hSw; (try dsimp only at hSw); (go_simp <;> with_reducible rfl)
        simp only [Act.put, tA, tB, tC, tD, tE, tF]
        refine tk (i := 5) (v := ?_) rfl (by kernel_rfl) (fun _ _ _ h => h) (by rfl) ?_ (by assumption) ?_
        rotate_left 1
        · intro w hSw; (try dsimp only at hSw); (go_simp <;> with_reducible rfl)
        simp only [Act.put, tA, tB, tC, tD, tE, tF]
        refine last_one (j := 6) (by kernel_rfl) rfl (fun K hK => ?_)
        rw [if_pos (by rfl)]
        simp only [tA, tB, tC]
        go_simp
        refine HM6.out.mono ?_
        rintro e w6 ⟨rfl, rfl⟩
        refine hK.out _ _ (fun _ => HS8.out) ?_
        clear hK K
        refine last_one (j := 7) (by kernel_rfl) rfl (fun K hK => ?_)
        rw [if_pos (by rfl)]
        simp only [tA, tB, tC]
        go_simp
        refine hK.out _ _ (fun _ => HS8.out) ?_
        clear hK K
        refine last_one (j := 8) (by kernel_rfl) rfl (fun K hK => ?_)
        rw [if_pos (by rfl)]
        simp only [tA, tB, tC]
        go_simp
        refine hK.out _ _ (fun e => absurd rfl e) ?_
        clear hK K
        refine last_done (by kernel_rfl) ?_ _
        clear HS8 HM6 hS
        have hfl6 : fb < W6.heap.size := HF6.out.1.lt
        have hkw6 : Keep (fun k => k = fb) w W6 := ((HK1.out.trans' HT5.out.kp).mono (T := fun k => k = fb) (fun _ _ q => q.elim)).trans' HF6.out.2
        have hown : ∀ k, w.heap.size ≤ k → ov.ownBlock ≠ some k := fun k hk e => by have := HI.out.out.block e; omega
        have HL7 := (show Hid (L7 W5 W6.drew fb { F with ws := nw, t0 := y0, t1 := y1, t2 := y2 } (.slice b0 m0 d0) (.slice b1 m1 d1) (.slice b2 m2 d2) (.slice na nn nc) ov lg en ss sa) from by
          refine ⟨?_, by have := HLB.out.2.2.1; omega, hown _ HLB.out.2.2.1, HI.out.ne, hfl6, seqR_ok hq HT5.out.good.1 HT5.out.good.2.1 HT5.out.good.2.2, by omega, HI.out.ok.win, HF6.out.2.drew⟩
          rcases HRw.out with q | ⟨g, q1, q2, q3⟩
          · exact .inl q
          · have hgn : w.heap.size ≤ g := HT5.out.nv ⟨g, 0, none⟩ _ _ (by rw [q1])
            have hgf : ¬ g = fb := by omega
            exact .inr ⟨g, q1, Nat.lt_of_lt_of_le q2 HF6.out.2.size, hgf, hown g hgn, fun k s hs => ⟨keep_cellS HF6.out.2 hgf (q3 k s hs).1, keep_cellS HF6.out.2 hgf (q3 k s hs).2.1, keep_cellS HF6.out.2 hgf (q3 k s hs).2.2⟩⟩)
        have HC7 := (show Hid (CoS w W6.drew fb ov ov) from ((CoS.refl w fb ov).atf hkw6).quiet (Keep.refl noBlock W6).drew)
        have HP7 := (show Hid (LpS W6.drew fb { F with ws := nw, t0 := y0, t1 := y1, t2 := y2 } (.slice b0 m0 d0) (.slice b1 m1 d1) (.slice b2 m2 d2) (.slice na nn nc) ov lg en ss R F.out 0 la ln lc W6.drew) from by
          refine ⟨F.r0, F.r1, F.r2, F.out, ov, l, lo, HLB.out.2.2.2.2.1, HF6.out.1, (HI.out.out.keep hkw6.drew (fun g hg (e : g = fb) => HI.out.ne (by rw [hg, e]))), CoS.refl _ _ _, ((HLB.out.1.keep HT5.out.kp (fun _ h => h)).keep HF6.out.2.drew (fun _ (e : lg = fb) => by have := HLB.out.2.2.1; omega)), ?_, by have := HOv.out; omega, List.prefix_refl _, HI.out.ok.r0, HI.out.ok.r1, HI.out.ok.r2⟩
          rw [HR.out, unpackP_s (l := l) (nw := nw) (by rw [← HMm.out]; exact HLs.out) hq, HOv.out.2.2.2]
          rfl)
        have hln : ln ≤ 524304 := by have := HLB.out.2.2.2.2.1; have := HU.out.1; omega
        obtain ⟨L, hL⟩ : ∃ L, L = ss.length := ⟨_, rfl⟩
        rw [← hL]
        have HLs2 := hid hL
        have hLb : (L : Int) ≤ 100000 := by have := seqR_len (lt_drop HH.out.2.2.2.1.lt u) hq; omega
        clear hL hkw6 hown
        generalize W6.drew = W7 at *
        go_wp2_with fail
        go_loopw [5, 61] (fun v5 v61 wr => ∃ (i : Nat) (pa : Option Addr) (pn pc : Nat), v61 = .int .i64 (i : Int) ∧ v5 = .slice pa pn pc ∧ i ≤ L ∧ pn ≤ 524304 ∧ Hid (LpS W7 fb { F with ws := nw, t0 := y0, t1 := y1, t2 := y2 } (.slice b0 m0 d0) (.slice b1 m1 d1) (.slice b2 m2 d2) (.slice na nn nc) ov lg en ss R F.out i pa pn pc wr)) (fun _ v61 _ => L - (intOf v61).toNat)
        case atStart => exact ⟨0, la, ln, lc, rfl, rfl, Nat.zero_le _, hln, HP7.out⟩
        case round =>
          clear HP7 hln
          obtain ⟨i, pa, pn, pc, rfl, rfl, hi, hpn, HP⟩ := hrel
          by_cases hlt : i < L
          · have hltI : (i : Int) < (L : Int) := by omega
            have HLT := hid hlt
            obtain ⟨p0, p1, p2, o, ov1, ls, po, q1, q2, q3, q4, q5, q6, q7, q8, q9, q10, q11⟩ := HP.out
            have his : i < ss.length := by rw [← HLs2.out]; exact hlt
            obtain ⟨s, hs⟩ : ∃ s, ss[i]? = some s := ⟨_, List.getElem?_eq_getElem his⟩
            have hdr : ss.drop i = s :: ss.drop (i + 1) := by
              rw [List.drop_eq_getElem_cons his]
              rw [List.getElem?_eq_getElem his] at hs
              rw [Option.some.inj hs]
            have hsok := HL7.out.ok s (List.mem_of_getElem? hs)
            obtain ⟨g, hsa, hgl, hgf, hgo, hgc⟩ : ∃ g, sa = some ⟨g, 0, none⟩ ∧ g < W7.heap.size ∧ g ≠ fb ∧ ov.ownBlock ≠ some g ∧ ∀ k s, ss[k]? = some s → W7.cell? ⟨g, k * 3, none⟩ = some (.int .i64 (s.1 : Int)) ∧ W7.cell? ⟨g, k * 3 + 1, none⟩ = some (.int .i64 (s.2.1 : Int)) ∧ W7.cell? ⟨g, k * 3 + 2, none⟩ = some (.int .i64 (s.2.2 : Int)) := by
              rcases HL7.out.row with q | q
              · rw [q] at his; cases his
              · exact q
            subst hsa
            have hgn := cos_out q4 hgf hgo
            obtain ⟨g0, g1, g2⟩ := hgc i s hs
            have e0 := keep_cellS q4.kp hgn g0
            have e1 := keep_cellS q4.kp hgn g1
            have e2 := keep_cellS q4.kp hgn g2
            rw [hdr] at q6
            obtain ⟨s1, s2, s3⟩ := s
            dsimp only at e0 e1 e2
            obtain ⟨k1', k2', k3', k4'⟩ := hsok
            dsimp only at k1' k2' k3' k4'
            have hs1b : (s1 : Int) ≤ 8589934592 := by omega
            have hs2b : (s2 : Int) ≤ 8589934592 := by omega
            have hs3b : (s3 : Int) ≤ 8589934592 := by omega
            obtain ⟨W8, hW8⟩ : ∃ W8, W8 = wr.alloc (.cells #[.int .i64 (s1 : Int), .int .i64 (s2 : Int), .int .i64 (s3 : Int)] 77) := ⟨_, rfl⟩
            obtain ⟨sb, hsb⟩ : ∃ sb, sb = wr.heap.size := ⟨_, rfl⟩
            have ob : W8.heap[sb]? = some (.cells #[.int .i64 (s1 : Int), .int .i64 (s2 : Int), .int .i64 (s3 : Int)] 77 (0, 0)) := by rw [hW8, hsb]; exact alloc_new wr _
            have k8 : Keep noBlock wr W8 := by rw [hW8]; exact (Keep.refl _ wr).alloc _
            have eb0 := cell_of ob 0
            obtain ⟨oa1, oc1, hov1, hoc1⟩ := q3.slice
            subst hov1
            obtain ⟨N1, hN1⟩ : ∃ N1, N1 = o.length := ⟨_, rfl⟩
            have hN1b : (N1 : Int) ≤ 16908288 := by have := HL7.out.en; omega
            have HW := (show Hid (pn = ls.length ∧ IsFr W8 fb (fr4 { F with ws := nw, t0 := y0, t1 := y1, t2 := y2 } p0 p1 p2 o) (.slice b0 m0 d0) (.slice b1 m1 d1) (.slice b2 m2 d2) (.slice na nn nc) (.slice oa1 o.length oc1) ∧ OutF W8 (.slice oa1 o.length oc1) o ∧ CoS W7 W8 fb ov (.slice oa1 o.length oc1) ∧ Bytes W7 pa pc lg po ls ∧ o.length ≤ en ∧ F.out <+: o ∧ p0 ≤ 4611686018427387904 ∧ p1 ≤ 4611686018427387904 ∧ p2 ≤ 4611686018427387904 ∧ SpOk (s1, s2, s3)) from
              ⟨q1, IsFr.keep q2 k8 (fun h => h), q3.keep k8 (fun _ _ h => h), q4.quiet k8, q5, q7, q8, q9, q10, q11, ⟨k1', k2', k3', k4'⟩⟩)
            have HQ6 := hid q6
            have HOB := (show Hid (W8.heap[sb]? = some (.cells #[.int .i64 (s1 : Int), .int .i64 (s2 : Int), .int .i64 (s3 : Int)] 77 (0, 0)) ∧ W8.heap.size = sb + 1 ∧ (∀ k, Value.ownBlock (.slice oa1 o.length oc1) = some k → k < sb) ∧ fb < sb) from ⟨ob, by rw [hW8, hsb]; exact World.size_alloc _ _, fun k hk => by rw [hsb]; exact q3.block hk, by rw [hsb]; exact q2.lt⟩)
            clear q1 q2 q3 q4 q5 q6 q7 q8 q9 q10 q11 hs hdr hgc g0 g1 g2 hgl hgf hgo hgn his k1' k2' k3' k4' ob k8 HP hoc1
            have HN1 := hid hN1
            rw [← hN1] at HW HOB
            have e15 : W8.cell? ⟨fb, 15, none⟩ = some (.slice oa1 N1 oc1) := cell_of HW.out.2.1 15
            clear hN1
            by_cases hgt : pn < s1
            · have hgtI : (pn : Int) < (s1 : Int) := by omega
              have hgtd : decide (pn < s1) = true := decide_eq_true hgt
              clear HOB
              go_wp2_with (rw [← hW8, ← hsb]; clear hW8 hsb)
              go_ret
              have hRn : R = none := by
                rw [← HQ6.out, stepsP_cons]
                exact if_pos (show ls.length < s1 by rw [← HW.out.1]; exact hgt)
              rw [hRn]
              obtain ⟨w1, w2, w3, w4, w5, w6, w7, w8, w9, w10, w11⟩ := HW.out
              exact ⟨rfl, _, _, _, _, _, _, w2, w3, w7, HC7.out.trans w4⟩
            · have hgtI : ¬ (pn : Int) < (s1 : Int) := by omega
              have hgtd : decide (pn < s1) = false := decide_eq_false hgt
              have hs1p : (s1 : Int) ≤ (pn : Int) := by omega
              obtain ⟨w1, w2, w3, w4, w5, w6, w7, w8, w9, w10, w11⟩ := HW.out
              have hb8 := w5.keep w4.kp (fun _ => cos_out w4 HL7.out.lf HL7.out.lo)
              obtain ⟨hsl1, hb1⟩ := hb8.take s1 (by omega)
              obtain ⟨pa2, po2, hsl2, hb2, -⟩ := w5.drop s1 (by omega)
              have htl : (ls.take s1).length = s1 := by rw [List.length_take]; omega
              rw [← w1] at hsl1 hsl2
              rw [htl] at hsl1
              obtain ⟨N2, hN2⟩ : ∃ N2, N2 = N1 + s1 := ⟨_, rfl⟩
              have hol : (o ++ ls.take s1).length = N2 := by rw [List.length_append, htl, hN2, HN1.out]
              have HA := (show Hid (∀ W, Keep noBlock W8 W → ∃ ov2 w2, (Builtin.append_ #[22, 22] 22 #[.slice oa1 N1 oc1, .slice pa s1 pc]).run Tryz.prog W = .ok ov2 w2 ∧ ∃ oa2 oc2, ov2 = .slice oa2 N2 oc2 ∧
                  Hid (IsFr (w2.setCell ⟨fb, 15, none⟩ ov2) fb (fr4 { F with ws := nw, t0 := y0, t1 := y1, t2 := y2 } p0 p1 p2 (o ++ ls.take s1)) (.slice b0 m0 d0) (.slice b1 m1 d1) (.slice b2 m2 d2) (.slice na nn nc) ov2 ∧ OutF (w2.setCell ⟨fb, 15, none⟩ ov2) ov2 (o ++ ls.take s1) ∧ CoS W7 (w2.setCell ⟨fb, 15, none⟩ ov2) fb ov ov2 ∧ (w2.setCell ⟨fb, 15, none⟩ ov2).heap[sb]? = some (.cells #[.int .i64 (s1 : Int), .int .i64 (s2 : Int), .int .i64 (s3 : Int)] 77 (0, 0)) ∧ ov2.ownBlock ≠ some sb ∧ fb ≠ sb) ∧
                  w2.cell? ⟨fb, 15, none⟩ = some (.slice oa1 N1 oc1) ∧ w2.frozen? ⟨fb, 15, none⟩ = false ∧ w2.cell? ⟨sb, 0, none⟩ = some (.int .i64 (s1 : Int))) from fun W kW => by
                obtain ⟨z1, z2, z3, z4⟩ := HOB.out
                have hsrc := (hb1.keep kW (fun _ h => h)).src
                rw [htl] at hsrc
                obtain ⟨ov2, v2, r1, r2, r3, r4⟩ := (w3.keep kW (fun _ _ h => h)).put hsrc hb1.lt (by rw [htl]; have := HN1.out; omega) 22
                have hnb := w4.ne HL7.out.fl HL7.out.ne
                have hf2 := IsFr.keep (IsFr.keep w2 kW (fun h => h)) r3 (fun e => hnb e)
                have hnsb : Value.ownBlock (.slice oa1 N1 oc1) ≠ some sb := fun e => by have := z3 sb e; omega
                have hob2 := r3.obj (kW.obj z1 (fun h => h)) hnsb
                obtain ⟨oa2, oc2, e2, -⟩ := r2.slice
                rw [hol] at e2
                have hco := (w4.quiet kW).put r3 r4
                have hkf : Keep (fun k => k = fb) v2 (v2.setCell ⟨fb, 15, none⟩ ov2) := (Keep.refl (fun k => k = fb) v2).setCell (p := ⟨fb, 15, none⟩) (fun _ => rfl) _
                refine ⟨ov2, v2, r1, oa2, oc2, e2, ⟨FrAt.out_set hf2 ov2, r2.keep hkf (fun g hg (e : g = fb) => hco.ne HL7.out.fl HL7.out.ne (by rw [hg, e])), hco.atf hkf, hkf.obj hob2 (by omega), ?_, by omega⟩, cell_of hf2 15, frozen_of hf2 15, cell_of hob2 0⟩
                rcases r4 with e | ⟨k, e, hk⟩
                · rw [e]; exact hnsb
                · rw [e]
                  intro e3
                  have := Option.some.inj e3
                  have := kW.size
                  omega)
              have HE := (show Hid (W8.drew.cell? ⟨fb, 15, none⟩ = some (.slice oa1 N1 oc1) ∧ W8.drew.cell? ⟨sb, 0, none⟩ = some (.int .i64 (s1 : Int))) from ⟨e15, eb0⟩)
              have HB2 := (show Hid (Bytes W7 pa2 (pc - s1) lg po2 (ls.drop s1) ∧ (ls.drop s1).length ≤ 524304 ∧ (o ++ ls.take s1).length = N2) from ⟨hb2, by rw [List.length_drop]; omega, hol⟩)
              have hN2b : (N2 : Int) ≤ 16908288 + 524304 := by omega
              obtain ⟨pn2, hpn2⟩ : ∃ pn2, pn2 = (ls.drop s1).length := ⟨_, rfl⟩
              rw [← hpn2] at hsl2 HB2
              have HP2 := hid hpn2
              obtain ⟨df, hdf⟩ : ∃ df, df = (en : Int) - (N2 : Int) := ⟨_, rfl⟩
              have hdfI : (en : Int) - (N2 : Int) = df := hdf.symm
              have hdfl : -18000000 ≤ df := by omega
              have hdfu : df ≤ 16908288 := by omega
              have hwdf : IntKind.i64.wrap df = df := by rw [IntKind.wrap_i64]; omega
              have HDF := hid hdf
              clear w1 w2 w3 w4 w5 w6 w7 hb8 hb1 hb2 htl hol hN2 hpn2 hdf
              go_wp2_with (rw [← hW8, ← hsb]; clear hW8 hsb)
              refine region_last (fun W => W.cell? ⟨fb, 15, none⟩ = some (.slice oa1 N1 oc1) ∧ W.cell? ⟨sb, 0, none⟩ = some (.int .i64 (s1 : Int))) 12 mx HE.out (fun hS => ?_)
              refine tk (i := 0) (v := ?_) rfl (by kernel_rfl) (fun _ _ _ h => h) (by rfl) ?_ (by assumption) ?_
              rotate_left 1
              · intro w hSw; (try dsimp only at hSw); (try obtain ⟨hSw1, hSw2⟩ := hSw); (go_simp <;> with_reducible rfl)
              simp only [Act.put, tA, tB, tD, tE, tF]
              refine tk (i := 1) (v := ?_) rfl (by kernel_rfl) (fun _ _ _ h => h) (by rfl) ?_ (by assumption) ?_
              rotate_left 1
              · intro w hSw; (try dsimp only at hSw); (try obtain ⟨hSw1, hSw2⟩ := hSw); (go_simp <;> with_reducible rfl)
              simp only [Act.put, tA, tB, tC, tD, tE, tF]
              refine tk (i := 2) (v := ?_) rfl (by kernel_rfl) (fun _ _ _ h => h) (by rfl) ?_ (by assumption) ?_
              rotate_left 1
              · intro w hSw; (try dsimp only at hSw); (try obtain ⟨hSw1, hSw2⟩ := hSw); (go_simp <;> with_reducible rfl)
              simp only [Act.put, tA, tB, tC, tD, tE, tF]
              refine tk (i := 3) (v := ?_) rfl (by kernel_rfl) (fun _ _ _ h => h) (by rfl) ?_ (by assumption) ?_
              rotate_left 1
              · intro w hSw; (try dsimp only at hSw); (try obtain ⟨hSw1, hSw2⟩ := hSw); (go_simp <;> with_reducible rfl)
              simp only [Act.put, tA, tB, tC, tD, tE, tF]
              refine tk (i := 4) (v := ?_) rfl (by kernel_rfl) (fun _ _ _ h => h) (by rfl) ?_ (by assumption) ?_
              rotate_left 1
              · intro w hSw; (try dsimp only at hSw); (try obtain ⟨hSw1, hSw2⟩ := hSw); (go_simp <;> with_reducible rfl)
              simp only [Act.put, tA, tB, tC, tD, tE, tF]
              refine tk (i := 5) (v := ?_) rfl (by kernel_rfl) (fun _ _ _ h => h) (by rfl) ?_ (by assumption) ?_
              rotate_left 1
              · intro w hSw; (try dsimp only at hSw); (try obtain ⟨hSw1, hSw2⟩ := hSw); (go_simp <;> with_reducible rfl)
              simp only [Act.put, tA, tB, tC, tD, tE, tF]
              refine tk (i := 6) (v := ?_) rfl (by kernel_rfl) (fun _ _ _ h => h) (by rfl) ?_ (by assumption) ?_
              rotate_left 1
              · intro w hSw; (try dsimp only at hSw); (try obtain ⟨hSw1, hSw2⟩ := hSw); (go_simp <;> with_reducible rfl)
              simp only [Act.put, tA, tB, tC, tD, tE, tF]
              refine tk (i := 7) (v := ?_) rfl (by kernel_rfl) (fun _ _ _ h => h) (by rfl) ?_ (by assumption) ?_
              rotate_left 1
              · intro w hSw; (try dsimp only at hSw); (try obtain ⟨hSw1, hSw2⟩ := hSw); (go_simp <;> with_reducible rfl)
              simp only [Act.put, tA, tB, tC, tD, tE, tF]
              refine tk (i := 8) (v := ?_) rfl (by kernel_rfl) (fun _ _ _ h => h) (by rfl) ?_ (by assumption) ?_
              rotate_left 1
              · intro w hSw; (try dsimp only at hSw); (try obtain ⟨hSw1, hSw2⟩ := hSw); (go_simp <;> with_reducible rfl)
              simp only [Act.put, tA, tB, tC, tD, tE, tF]
              obtain ⟨ov2, v2, hr2, oa2, oc2, rfl, HC2, e15b, f15b, eb0b⟩ := HA.out W8.drew (Keep.refl noBlock W8).drew
              clear HE
              have HE := hid (And.intro e15b eb0b)
              refine last_one (j := 9) (by kernel_rfl) rfl (fun K hK => ?_)
              rw [if_pos (by rfl)]
              refine wp_append_run _ _ _ 22 rfl _ _ _ _ rfl rfl hr2 ?_
              refine hK.out _ _ (fun _ => HE.out) ?_
              simp only [Act.put, tA, tB, tC, tD, tE, tF]
              clear hK K
              refine last_one (j := 10) (by kernel_rfl) rfl (fun K hK => ?_)
              rw [if_pos (by rfl)]
              simp only [tA, tB, tC]
              go_simp
              refine hK.out _ _ (fun _ => HE.out) ?_
              clear hK K
              refine last_one (j := 11) (by kernel_rfl) rfl (fun K hK => ?_)
              rw [if_pos (by rfl)]
              simp only [tA, tB, tC]
              go_simp
              refine hK.out _ _ (fun _ => HE.out) ?_
              clear hK K
              refine last_one (j := 12) (by kernel_rfl) rfl (fun K hK => ?_)
              rw [if_pos (by rfl)]
              simp only [tA, tB, tC]
              go_simp
              refine hK.out _ _ (fun e => absurd rfl e) ?_
              clear hK K
              refine last_done (by kernel_rfl) ?_ _
              clear HA hS hr2 e15b f15b eb0b HE
              obtain ⟨v1, v3, v4, v5, v6, v7⟩ := HC2.out
              generalize v2.setCell ⟨fb, 15, none⟩ (.slice oa2 N2 oc2) = W9 at *
              clear v2
              have eb9 : W9.cell? ⟨sb, 0, none⟩ = some (.int .i64 (s1 : Int)) := cell_of v5 0
              have e159 : W9.drew.cell? ⟨fb, 15, none⟩ = some (.slice oa2 N2 oc2) := cell_of (w := W9.drew) v1 15
              have HB9 := (show Hid (W9.drew.cell? ⟨sb, 0, none⟩ = some (.int .i64 (s1 : Int)) ∧ W9.drew.cell? ⟨sb, 1, none⟩ = some (.int .i64 (s2 : Int)) ∧ W9.drew.cell? ⟨sb, 2, none⟩ = some (.int .i64 (s3 : Int))) from ⟨cell_of (w := W9.drew) v5 0, cell_of (w := W9.drew) v5 1, cell_of (w := W9.drew) v5 2⟩)
              have hk9 : Keep noBlock W9 W9.drew := (Keep.refl noBlock W9).drew
              by_cases hM : df < (s2 : Int)
              · have hMd : decide (df < (s2 : Int)) = true := decide_eq_true hM
                clear v1 v3 v4 v5 v6 v7
                go_wp2_with fail
                refine region_last (fun W => W.cell? ⟨sb, 0, none⟩ = some (.int .i64 (s1 : Int)) ∧ W.cell? ⟨sb, 1, none⟩ = some (.int .i64 (s2 : Int)) ∧ W.cell? ⟨sb, 2, none⟩ = some (.int .i64 (s3 : Int))) 16 mx HB9.out (fun hS => ?_)
                refine tk (i := 0) (v := ?_) rfl (by kernel_rfl) (fun _ _ _ h => h) (by rfl) ?_ (by assumption) ?_
                rotate_left 1
                · intro w hSw; (try dsimp only at hSw); (try obtain ⟨hSw1, hSw2, hSw3⟩ := hSw); (go_simp <;> with_reducible rfl)
                simp only [Act.put, tA, tB, tD, tE, tF]
                refine tk (i := 1) (v := ?_) rfl (by kernel_rfl) (fun _ _ _ h => h) (by rfl) ?_ (by assumption) ?_
                rotate_left 1
                · intro w hSw; (try dsimp only at hSw); (try obtain ⟨hSw1, hSw2, hSw3⟩ := hSw); (go_simp <;> with_reducible rfl)
                simp only [Act.put, tA, tB, tC, tD, tE, tF]
                refine tk (i := 2) (v := ?_) rfl (by kernel_rfl) (fun _ _ _ h => h) (by rfl) ?_ (by assumption) ?_
                rotate_left 1
                · intro w hSw; (try dsimp only at hSw); (try obtain ⟨hSw1, hSw2, hSw3⟩ := hSw); (go_simp <;> with_reducible rfl)
                simp only [Act.put, tA, tB, tC, tD, tE, tF]
                refine tk (i := 3) (v := ?_) rfl (by kernel_rfl) (fun _ _ _ h => h) (by rfl) ?_ (by assumption) ?_
                rotate_left 1
                · intro w hSw; (try dsimp only at hSw); (try obtain ⟨hSw1, hSw2, hSw3⟩ := hSw); (go_simp <;> with_reducible rfl)
                simp only [Act.put, tA, tB, tC, tD, tE, tF]
                refine tk (i := 4) (v := ?_) rfl (by kernel_rfl) (fun _ _ _ h => h) (by rfl) ?_ (by assumption) ?_
                rotate_left 1
                · intro w hSw; (try dsimp only at hSw); (try obtain ⟨hSw1, hSw2, hSw3⟩ := hSw); (go_simp <;> with_reducible rfl)
                simp only [Act.put, tA, tB, tC, tD, tE, tF]
                refine tk (i := 5) (v := ?_) rfl (by kernel_rfl) (fun _ _ _ h => h) (by rfl) ?_ (by assumption) ?_
                rotate_left 1
                · intro w hSw; (try dsimp only at hSw); (try obtain ⟨hSw1, hSw2, hSw3⟩ := hSw); (go_simp <;> with_reducible rfl)
                simp only [Act.put, tA, tB, tC, tD, tE, tF]
                refine last_one (j := 6) (by kernel_rfl) rfl (fun K hK => ?_)
                rw [if_pos (by rfl)]
                simp only [tA, tB, tC]
                go_simp
                refine hK.out _ _ (fun _ => HB9.out) ?_
                clear hK K
                refine last_one (j := 7) (by kernel_rfl) rfl (fun K hK => ?_)
                rw [if_pos (by rfl)]
                simp only [tA, tB, tC]
                go_simp
                refine hK.out _ _ (fun _ => HB9.out) ?_
                clear hK K
                refine last_one (j := 8) (by kernel_rfl) rfl (fun K hK => ?_)
                rw [if_pos (by rfl)]
                simp only [tA, tB, tC]
                go_simp
                refine hK.out _ _ (fun _ => HB9.out) ?_
                clear hK K
                refine last_one (j := 9) (by kernel_rfl) rfl (fun K hK => ?_)
                rw [if_pos (by rfl)]
                simp only [tA, tB, tC]
                go_simp
                refine hK.out _ _ (fun _ => HB9.out) ?_
                clear hK K
                refine last_one (j := 10) (by kernel_rfl) rfl (fun K hK => ?_)
                rw [if_pos (by rfl)]
                simp only [tA, tB, tC]
                go_simp
                refine hK.out _ _ (fun _ => HB9.out) ?_
                clear hK K
                refine last_take (i := 11) (v := undef) rfl (by kernel_rfl) (by kernel_rfl) (by kernel_rfl) (by kernel_rfl) (fun _ _ _ h => h) (Or.inr ⟨by rfl, rfl⟩) (by assumption) ?_
                simp only [Act.put, tA, tB, tC, tD, tE, tF]
                refine last_take (i := 12) (v := undef) rfl (by kernel_rfl) (by kernel_rfl) (by kernel_rfl) (by kernel_rfl) (fun _ _ _ h => h) (Or.inr ⟨by rfl, rfl⟩) (by assumption) ?_
                simp only [Act.put, tA, tB, tC, tD, tE, tF]
                refine last_one (j := 13) (by kernel_rfl) rfl (fun K hK => ?_)
                rw [if_neg]
                rotate_left 1
                · exact Bool.false_ne_true
                refine hK.out _ _ (fun _ => HB9.out) ?_
                clear hK K
                refine last_one (j := 14) (by kernel_rfl) rfl (fun K hK => ?_)
                rw [if_neg]
                rotate_left 1
                · exact Bool.false_ne_true
                refine hK.out _ _ (fun _ => HB9.out) ?_
                clear hK K
                refine last_one (j := 15) (by kernel_rfl) rfl (fun K hK => ?_)
                rw [if_pos (by rfl)]
                simp only [tA, tB, tC]
                go_simp
                refine hK.out _ _ (fun _ => HB9.out) ?_
                clear hK K
                refine last_done (by kernel_rfl) ?_ _
                go_wp2_with fail
                go_ret
                have hRn : R = none := by
                  rw [← HQ6.out, stepsP_cons]
                  dsimp only
                  rw [if_neg (show ¬ ls.length < s1 by rw [← HW.out.1]; exact hgt)]
                  refine if_pos ?_
                  rw [show (fr4 { F with ws := nw, t0 := y0, t1 := y1, t2 := y2 } p0 p1 p2 o).out = o from rfl, HB2.out.2.2, ← HDF.out]
                  exact hM
                rw [hRn]
                obtain ⟨v1, v3, v4, v5, v6, v7⟩ := HC2.out
                have hpre : F.out <+: o ++ ls.take s1 := List.IsPrefix.trans HW.out.2.2.2.2.2.2.1 (List.prefix_append _ _)
                exact ⟨rfl, _, _, _, _, _, _, IsFr.keep v1 hk9 (fun h => h), v3.keep hk9 (fun _ _ h => h), hpre, HC7.out.trans (v4.quiet hk9)⟩
              · have hMd : decide (df < (s2 : Int)) = false := decide_eq_false hM
                have HCp := hid (copy_any (s1, s2, s3) HW.out.2.2.2.2.2.2.2.2.2.2 (IsFr.keep v1 hk9 (fun h => h)) (v3.keep hk9 (fun _ _ h => h)) (v4.ne HL7.out.fl HL7.out.ne) HL7.out.win w8 w9 w10 (by
                  show (o ++ ls.take s1).length + s2 ≤ 1073741824
                  rw [HB2.out.2.2]
                  omega))
                clear v1 v3 v4 v5 v6 v7
                go_wp2_with fail
                refine region_last (fun W => W.cell? ⟨sb, 0, none⟩ = some (.int .i64 (s1 : Int)) ∧ W.cell? ⟨sb, 1, none⟩ = some (.int .i64 (s2 : Int)) ∧ W.cell? ⟨sb, 2, none⟩ = some (.int .i64 (s3 : Int))) 16 mx HB9.out (fun hS => ?_)
                refine tk (i := 0) (v := ?_) rfl (by kernel_rfl) (fun _ _ _ h => h) (by rfl) ?_ (by assumption) ?_
                rotate_left 1
                · intro w hSw; (try dsimp only at hSw); (try obtain ⟨hSw1, hSw2, hSw3⟩ := hSw); (go_simp <;> with_reducible rfl)
                simp only [Act.put, tA, tB, tD, tE, tF]
                refine tk (i := 1) (v := ?_) rfl (by kernel_rfl) (fun _ _ _ h => h) (by rfl) ?_ (by assumption) ?_
                rotate_left 1
                · intro w hSw; (try dsimp only at hSw); (try obtain ⟨hSw1, hSw2, hSw3⟩ := hSw); (go_simp <;> with_reducible rfl)
                simp only [Act.put, tA, tB, tC, tD, tE, tF]
                refine tk (i := 2) (v := ?_) rfl (by kernel_rfl) (fun _ _ _ h => h) (by rfl) ?_ (by assumption) ?_
                rotate_left 1
                · intro w hSw; (try dsimp only at hSw); (try obtain ⟨hSw1, hSw2, hSw3⟩ := hSw); (go_simp <;> with_reducible rfl)
                simp only [Act.put, tA, tB, tC, tD, tE, tF]
                refine tk (i := 3) (v := ?_) rfl (by kernel_rfl) (fun _ _ _ h => h) (by rfl) ?_ (by assumption) ?_
                rotate_left 1
                · intro w hSw; (try dsimp only at hSw); (try obtain ⟨hSw1, hSw2, hSw3⟩ := hSw); (go_simp <;> with_reducible rfl)
                simp only [Act.put, tA, tB, tC, tD, tE, tF]
                refine tk (i := 4) (v := ?_) rfl (by kernel_rfl) (fun _ _ _ h => h) (by rfl) ?_ (by assumption) ?_
                rotate_left 1
                · intro w hSw; (try dsimp only at hSw); (try obtain ⟨hSw1, hSw2, hSw3⟩ := hSw); (go_simp <;> with_reducible rfl)
                simp only [Act.put, tA, tB, tC, tD, tE, tF]
                refine tk (i := 5) (v := ?_) rfl (by kernel_rfl) (fun _ _ _ h => h) (by rfl) ?_ (by assumption) ?_
                rotate_left 1
                · intro w hSw; (try dsimp only at hSw); (try obtain ⟨hSw1, hSw2, hSw3⟩ := hSw); (go_simp <;> with_reducible rfl)
                simp only [Act.put, tA, tB, tC, tD, tE, tF]
                refine last_one (j := 6) (by kernel_rfl) rfl (fun K hK => ?_)
                rw [if_pos (by rfl)]
                simp only [tA, tB, tC]
                go_simp
                refine hK.out _ _ (fun _ => HB9.out) ?_
                clear hK K
                refine last_one (j := 7) (by kernel_rfl) rfl (fun K hK => ?_)
                rw [if_pos (by rfl)]
                simp only [tA, tB, tC]
                go_simp
                refine hK.out _ _ (fun _ => HB9.out) ?_
                clear hK K
                refine last_one (j := 8) (by kernel_rfl) rfl (fun K hK => ?_)
                rw [if_pos (by rfl)]
                simp only [tA, tB, tC]
                go_simp
                refine hK.out _ _ (fun _ => HB9.out) ?_
                clear hK K
                refine last_one (j := 9) (by kernel_rfl) rfl (fun K hK => ?_)
                rw [if_pos (by rfl)]
                simp only [tA, tB, tC]
                go_simp
                refine hK.out _ _ (fun _ => HB9.out) ?_
                clear hK K
                refine last_one (j := 10) (by kernel_rfl) rfl (fun K hK => ?_)
                rw [if_pos (by rfl)]
                simp only [tA, tB, tC]
                go_simp
                refine hK.out _ _ (fun _ => HB9.out) ?_
                clear hK K
                refine tk (i := 11) (v := ?_) rfl (by kernel_rfl) (fun _ _ _ h => h) (by rfl) ?_ (by assumption) ?_
                rotate_left 1
                · intro w hSw; (try dsimp only at hSw); (try obtain ⟨hSw1, hSw2, hSw3⟩ := hSw); (go_simp <;> with_reducible rfl)
                simp only [Act.put, tA, tB, tC, tD, tE, tF]
                refine tk (i := 12) (v := ?_) rfl (by kernel_rfl) (fun _ _ _ h => h) (by rfl) ?_ (by assumption) ?_
                rotate_left 1
                · intro w hSw; (try dsimp only at hSw); (try obtain ⟨hSw1, hSw2, hSw3⟩ := hSw); (go_simp <;> with_reducible rfl)
                simp only [Act.put, tA, tB, tC, tD, tE, tF]
                refine last_one (j := 13) (by kernel_rfl) rfl (fun K hK => ?_)
                rw [if_pos (by rfl)]
                simp only [tA, tB, tC]
                go_simp
                refine HCp.out.mono ?_
                rintro e W10 ⟨b, rfl, HCA⟩
                have HB10 := (show Hid (W10.cell? ⟨sb, 0, none⟩ = some (.int .i64 (s1 : Int)) ∧ W10.cell? ⟨sb, 1, none⟩ = some (.int .i64 (s2 : Int)) ∧ W10.cell? ⟨sb, 2, none⟩ = some (.int .i64 (s3 : Int))) from by
                  obtain ⟨v1, v3, v4, v5, v6, v7⟩ := HC2.out
                  have hkk : Keep (fun k => k = fb ∨ Value.ownBlock (.slice oa2 N2 oc2) = some k) W9.drew W10 := by
                    rcases HCA.out with ⟨-, F2, ov', -, -, -, q⟩ | ⟨-, -, F2, -, -, -, q⟩
                    · exact q.kp
                    · exact q.kp
                  have hns : ¬ (sb = fb ∨ Value.ownBlock (.slice oa2 N2 oc2) = some sb) := fun e => e.elim (fun e => v7 e.symm) v6
                  exact ⟨keep_cellS hkk hns HB9.out.1, keep_cellS hkk hns HB9.out.2.1, keep_cellS hkk hns HB9.out.2.2⟩)
                refine hK.out _ _ (fun _ => HB10.out) ?_
                clear hK K
                refine last_one (j := 14) (by kernel_rfl) rfl (fun K hK => ?_)
                rw [if_pos (by rfl)]
                simp only [tA, tB, tC]
                go_simp
                refine hK.out _ _ (fun _ => HB10.out) ?_
                clear hK K
                refine last_one (j := 15) (by kernel_rfl) rfl (fun K hK => ?_)
                rw [if_pos (by rfl)]
                simp only [tA, tB, tC]
                go_simp
                refine hK.out _ _ (fun _ => HB10.out) ?_
                clear hK K
                refine last_done (by kernel_rfl) ?_ _
                have hst : (match copyP (fr4 { F with ws := nw, t0 := y0, t1 := y1, t2 := y2 } p0 p1 p2 (o ++ ls.take s1)) (s1, s2, s3) with
                    | none => none
                    | some f2 => stepsP f2 (ls.drop s1) en (ss.drop (i + 1))) = R := by
                  have h6 := HQ6.out
                  rw [stepsP_cons] at h6
                  dsimp only at h6
                  rw [if_neg (show ¬ ls.length < s1 by rw [← HW.out.1]; exact hgt), if_neg (by
                    rw [show (fr4 { F with ws := nw, t0 := y0, t1 := y1, t2 := y2 } p0 p1 p2 o).out = o from rfl, HB2.out.2.2, ← HDF.out]
                    exact Int.not_lt.mpr hM)] at h6
                  exact h6
                cases b with
                | false =>
                  have hRn : R = none := by
                    rcases HCA.out with ⟨q, -⟩ | ⟨-, q, -⟩
                    · cases q
                    · rw [← hst, q]
                  clear HCp hst HB10 HB9 hS
                  go_wp2_with fail
                  go_ret
                  rw [hRn]
                  obtain ⟨v1, v3, v4, v5, v6, v7⟩ := HC2.out
                  have hpre : F.out <+: o ++ ls.take s1 := List.IsPrefix.trans HW.out.2.2.2.2.2.2.1 (List.prefix_append _ _)
                  rcases HCA.out with ⟨q, -⟩ | ⟨-, -, F2, z1, z2, z3, z4⟩
                  · cases q
                  · refine ⟨rfl, F2, _, _, _, _, _, z2, z3, ?_, HC7.out.trans ((v4.quiet hk9).trans z4)⟩
                    rw [z1]
                    exact hpre
                | true =>
                  have HPn := (show Hid (LpS W7 fb { F with ws := nw, t0 := y0, t1 := y1, t2 := y2 } (.slice b0 m0 d0) (.slice b1 m1 d1) (.slice b2 m2 d2) (.slice na nn nc) ov lg en ss R F.out (i + 1) pa2 pn2 (pc - s1) W10) from by
                    obtain ⟨v1, v3, v4, v5, v6, v7⟩ := HC2.out
                    rcases HCA.out with ⟨-, F2, ov', z1, z2, z3, z4⟩ | ⟨q, -⟩
                    · obtain ⟨g0, g1, g2, o3, rfl, h0, h1, h2, h3⟩ := copyP_form (B := 4611686018427387904) (by omega) w8 w9 w10 (show ((s1, s2, s3) : Sp).2.2 ≤ (4611686018427387904 : Int) from by show (s3 : Int) ≤ _; omega) z1
                      rw [z1] at hst
                      have hle : o3.length ≤ en := by
                        have e1 : o3.length = (o ++ ls.take s1).length + s2 := h3
                        rw [HB2.out.2.2] at e1
                        have := HDF.out
                        omega
                      have hpre : F.out <+: o ++ ls.take s1 := List.IsPrefix.trans HW.out.2.2.2.2.2.2.1 (List.prefix_append _ _)
                      exact ⟨g0, g1, g2, o3, ov', ls.drop s1, po2, HP2.out, z2, z3, (v4.quiet hk9).trans z4, HB2.out.1, hst, hle, hpre.trans (copyP_pre z1), h0, h1, h2⟩
                    · cases q)
                  have hpn2b := HB2.out.2.1
                  clear HCp hst HB10 HB9 hS HCA
                  go_wp2_with fail
                  go_roundw
                  case rel => exact ⟨i + 1, pa2, pn2, pc - s1, by go_num, rfl, by have := HLT.out; omega, hpn2b, HPn.out⟩
                  case measure => have := HLT.out; simp [intOf]; omega
          · obtain rfl : i = L := by omega
            have hltI : ¬ (i : Int) < (i : Int) := by omega
            obtain ⟨p0, p1, p2, o, ov1, ls, po, q1, q2, q3, q4, q5, q6, q7, q8, q9, q10, q11⟩ := HP.out
            rw [HLs2.out, List.drop_length, stepsP_nil] at q6
            have q6 : (if (o ++ ls).length ≤ en then some (fr4 { F with ws := nw, t0 := y0, t1 := y1, t2 := y2 } p0 p1 p2 (o ++ ls)) else none) = R := q6
            have hbl := q5.keep q4.kp (fun _ => cos_out q4 HL7.out.lf HL7.out.lo)
            obtain ⟨ov2, v2, r1, r2, r3, r4⟩ := q3.put hbl.src hbl.lt (by have := HL7.out.en; omega) 22
            obtain ⟨oa1, oc1, hov1, hoc1⟩ := q3.slice
            have hnb := q4.ne HL7.out.fl HL7.out.ne
            have hf2 := IsFr.keep q2 r3 (fun e => hnb e)
            obtain ⟨oa2, oc2, e2, -⟩ := r2.slice
            have hco := q4.put r3 r4
            have hkf : Keep (fun k => k = fb) v2 (v2.setCell ⟨fb, 15, none⟩ ov2) := (Keep.refl (fun k => k = fb) v2).setCell (p := ⟨fb, 15, none⟩) (fun _ => rfl) _
            have HE := (show Hid (IsFr (v2.setCell ⟨fb, 15, none⟩ ov2) fb (fr4 { F with ws := nw, t0 := y0, t1 := y1, t2 := y2 } p0 p1 p2 (o ++ ls)) (.slice b0 m0 d0) (.slice b1 m1 d1) (.slice b2 m2 d2) (.slice na nn nc) ov2 ∧ OutF (v2.setCell ⟨fb, 15, none⟩ ov2) ov2 (o ++ ls) ∧ CoS W7 (v2.setCell ⟨fb, 15, none⟩ ov2) fb ov ov2 ∧ F.out <+: o ++ ls ∧ p0 ≤ 4611686018427387904 ∧ p1 ≤ 4611686018427387904 ∧ p2 ≤ 4611686018427387904) from
              ⟨FrAt.out_set hf2 ov2, r2.keep hkf (fun g hg (e : g = fb) => hco.ne HL7.out.fl HL7.out.ne (by rw [hg, e])), hco.atf hkf, q8.trans (List.prefix_append _ _), q9, q10, q11⟩)
            obtain ⟨N1, hN1⟩ : ∃ N1, N1 = o.length := ⟨_, rfl⟩
            obtain ⟨N3, hN3⟩ : ∃ N3, N3 = (o ++ ls).length := ⟨_, rfl⟩
            subst e2
            rw [← hN3] at r1 HE q6
            rw [hov1, ← hN1, ← q1] at r1
            have e15 : wr.cell? ⟨fb, 15, none⟩ = some (.slice oa1 N1 oc1) := by rw [hN1, ← hov1]; exact cell_of q2 15
            have e15b : v2.cell? ⟨fb, 15, none⟩ = some (.slice oa1 N1 oc1) := by rw [hN1, ← hov1]; exact cell_of hf2 15
            have f15b : v2.frozen? ⟨fb, 15, none⟩ = false := frozen_of hf2 15
            have HQ6 := hid q6
            have hN3b : (N3 : Int) ≤ 16908288 + 524304 := by
              have := HL7.out.en
              rw [List.length_append] at hN3
              omega
            have HN3 := hid hN3
            clear q1 q2 q3 q4 q5 q6 q7 q8 q9 q10 q11 hbl r2 r3 r4 hoc1 hov1 hnb hf2 hco hkf hN1 hN3 HP
            by_cases hle : N3 ≤ en
            · have hleI : (N3 : Int) ≤ (en : Int) := by omega
              have hled : decide (N3 ≤ en) = true := decide_eq_true hle
              go_wp2_with (at_builtin; refine wpList_append_run _ rfl _ _ 22 rfl _ _ _ _ rfl rfl r1 ?_)
              go_ret
              rw [← HQ6.out, if_pos hle]
              obtain ⟨e1, e2, e3, e4, e5, e6, e7⟩ := HE.out
              have hkk : Keep (fun k => k = fb ∨ ov.ownBlock = some k) W5 (v2.setCell ⟨fb, 15, none⟩ (.slice oa2 N3 oc2)) := (HL7.out.kt.mono (T := fun k => k = fb ∨ ov.ownBlock = some k) (fun _ _ q => .inl q)).trans' e3.kp
              have hfbl : fb < w.heap.size := HI.out.fr.lt
              have hnew : ∀ k, w.heap.size ≤ k → ¬ (k = fb ∨ ov.ownBlock = some k) := fun k hk e => by
                rcases e with e | e
                · omega
                · have := HI.out.out.block e
                  omega
              have hap : ∀ (v : Value) (t : Option Tb), IsTs W5 v t → NwS w.heap.size v → Apart (fun k => Value.ownBlock (.slice oa2 N3 oc2) = some k) v := fun v t ht hv p n c e q => by
                have q' : Value.ownBlock (.slice oa2 N3 oc2) = some p.block := q
                have h1 := hv p n c e
                have h2 := (ht.there p n c e).1
                have h3 := HL7.out.kt.size
                rcases e3.nw with e | ⟨k, e, hk⟩
                · rw [e] at q'
                  have := HI.out.out.block q'
                  omega
                · rw [e] at q'
                  have := Option.some.inj q'
                  omega
              have hng := HLB.out.2.2.2.1
              have hnn := HLB.out.2.2.2.2.2
              have hbn := (HLB.out.2.1.keep HT5.out.kp (fun _ h => h)).keep hkk (fun _ => hnew ng hng)
              rw [hnn] at e1
              have hok := HI.out.ok
              refine ⟨rfl, _, _, _, na, nc, ng, no, _, ⟨e1, HT5.out.t0.keepS hkk (fun p n c e => hnew _ (HT5.out.n0 p n c e)), HT5.out.t1.keepS hkk (fun p n c e => hnew _ (HT5.out.n1 p n c e)), HT5.out.t2.keepS hkk (fun p n c e => hnew _ (HT5.out.n2 p n c e)), hbn, e2, e3.ne HL7.out.fl HL7.out.ne, hap _ _ HT5.out.t0 HT5.out.n0, hap _ _ HT5.out.t1 HT5.out.n1, hap _ _ HT5.out.t2 HT5.out.n2, fun hne => hbn.block hne, fun hne e => ?_, fun _ => by omega, ⟨hok.win, hok.siz, e5, e6, e7, hok.fl, hok.bud, HU.out.2.1, HT5.out.good.1, HT5.out.good.2.1, HT5.out.good.2.2⟩⟩, HC7.out.trans e3, HT5.out.n0, HT5.out.n1, HT5.out.n2, fun _ => hng⟩
              have hgl := (HLB.out.2.1.keep HT5.out.kp (fun _ h => h)).block hne
              rcases e3.nw with q | ⟨k, q, hk⟩
              · rw [q] at e
                have := HI.out.out.block e
                omega
              · rw [q] at e
                have := Option.some.inj e
                have := HL7.out.kt.size
                omega
            · have hleI : ¬ (N3 : Int) ≤ (en : Int) := by omega
              have hled : decide (N3 ≤ en) = false := decide_eq_false hle
              go_wp2_with (at_builtin; refine wpList_append_run _ rfl _ _ 22 rfl _ _ _ _ rfl rfl r1 ?_)
              go_ret
              rw [← HQ6.out, if_neg hle]
              obtain ⟨e1, e2, e3, e4, e5, e6, e7⟩ := HE.out
              exact ⟨rfl, _, _, _, _, _, _, e1, e2, e4, HC7.out.trans e3⟩
  · have hecb : (ecI != 0) = true := by
      have := HL1.out.1
      simp; omega
    go_wp2_with fail
    go_ret
    have hRn : R = none := by
      rw [HR.out]
      refine unpackP_n1 ?_
      rw [← HMm.out, HLO.out, if_neg hec]
    rw [hRn]
    have k1 := HL1.out.2.1
    exact ⟨rfl, F, _, _, _, _, ov, IsFr.keep HI.out.fr k1 (fun h => h), HI.out.out.keep k1 (fun _ _ h => h), List.prefix_refl _, (CoS.refl w fb ov).quiet k1⟩
end
end
end Go.Proofs.YtnjilcokkhodmaaGreatDoor
