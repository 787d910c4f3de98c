/-
  Read of a section, whatever its bytes and the tables ahead.
  The last weight, as the document finds it.
-/
import Derived.Test.YtnjilcokkhodmaaGreatDoorZP7
import Derived.Test.YtnjilcokkhodmaaGreatDoorZP14
namespace Go.Proofs.YtnjilcokkhodmaaGreatDoor
open Go.RowKit Go.Shelf
set_option linter.unusedVariables false

theorem nws_le {n m : Nat} {v : Value} (h : NwS m v) (hn : n ≤ m) : NwS n v := fun p l c e => Nat.le_trans hn (h p l c e)
theorem tb_ne {w : World} {tg b : Nat} {T : Tb} (h : IsTb w tg T) {a : Option Addr} {n c : Nat} (hb : w.cell? ⟨b, 0, none⟩ = some (.slice a n c)) : tg ≠ b := fun e => by
 have := (h.cells 0 (Nat.two_pow_pos _)).1
 rw [Nat.zero_mul, e, hb] at this
 cases this
theorem IsTs.keepB {w w' : World} {v : Value} {t : Option Tb} {b : Nat} (h : IsTs w v t) (hk : Keep (fun k => k = b) w w') {a : Option Addr} {n c : Nat} (hb : w.cell? ⟨b, 0, none⟩ = some (.slice a n c)) : IsTs w' v t := by
  cases t with
  | none => exact h
  | some T =>
    obtain ⟨tg, cap, e, hT⟩ := h
    exact ⟨tg, cap, e, hT.keep hk (tb_ne hT hb)⟩
set_option maxHeartbeats 1000000 in
theorem three_any (a0 a1 a2 : Option Addr) (n0 n1 n2 c0 c1 c2 : Nat) (w : World) : Calls Tryz.prog 52 #[.agg #[.slice a0 n0 c0, .slice a1 n1 c1, .slice a2 n2 c2]] w fun e w' => e = .returned (.agg #[.slice a0 n0 c0, .slice a1 n1 c1, .slice a2 n2 c2]) ∧ Keep noBlock w w' := by
 go_enter Tryz.func52, Tryz.ntmps52
 go_wp2_with fail
 refine bodyPost_ret (results_cell rfl _ _ _ ⟨w.heap.size + 1, 0, none⟩ (.agg #[.slice a0 n0 c0, .slice a1 n1 c1, .slice a2 n2 c2]) rfl (run_loadVar_row _ _ 109 109 _ (0, 0) _ (alloc_new1 _ _ _ _ _) Tryz.underlying109 rfl (by kernel_rfl))) rfl ?_
 exact ⟨rfl, ((Keep.refl _ w).alloc _).alloc _⟩
theorem cloneS_any (a : Option Addr) (n c : Nat) (t : Option Tb) (hl : ∀ T, t = some T → T.l ≤ 9) (w : World) (h : IsTs w (.slice a n c) t) :
    Calls Tryz.prog 63 #[.slice a n c] w fun e w' => ∃ a' c', e = .returned (.slice a' n c') ∧ IsTs w' (.slice a' n c') t ∧ Keep noBlock w w' ∧ NwS w.heap.size (.slice a' n c') := by
  cases t with
  | none =>
    have e : Value.slice a n c = .slice none 0 0 := h
    cases e
    refine (clone_none w).mono ?_
    rintro e w' ⟨rfl, rfl⟩
    exact ⟨none, 0, rfl, rfl, Keep.refl _ _, fun p l c h => by cases h⟩
  | some T =>
    obtain ⟨tg, cap, e, hT⟩ := h
    cases e
    refine (cloneT_any tg _ T (hl T rfl) w hT).mono ?_
    rintro e w' ⟨g, cap', rfl, h1, h2, h3⟩
    exact ⟨_, cap', rfl, ⟨g, cap', rfl, h2⟩, h3, fun p l c h => by cases h; exact h1⟩
set_option maxRecDepth 100000 in
set_option maxHeartbeats 4000000 in
theorem copyOf_any (a0 a1 a2 : Option Addr) (n0 n1 n2 c0 c1 c2 : Nat) (t0 t1 t2 : Option Tb) (w : World) (h0 : IsTs w (.slice a0 n0 c0) t0) (h1 : IsTs w (.slice a1 n1 c1) t1) (h2 : IsTs w (.slice a2 n2 c2) t2)
  (l0 : ∀ T, t0 = some T → T.l ≤ 9) (l1 : ∀ T, t1 = some T → T.l ≤ 9) (l2 : ∀ T, t2 = some T → T.l ≤ 9) :
  Calls Tryz.prog 49 #[.agg #[.slice a0 n0 c0, .slice a1 n1 c1, .slice a2 n2 c2]] w fun e w' => ∃ b0 b1 b2 d0 d1 d2, e = .returned (.agg #[.slice b0 n0 d0, .slice b1 n1 d1, .slice b2 n2 d2]) ∧ Hid (IsTs w' (.slice b0 n0 d0) t0 ∧ IsTs w' (.slice b1 n1 d1) t1 ∧ IsTs w' (.slice b2 n2 d2) t2 ∧ Keep noBlock w w' ∧ NwS w.heap.size (.slice b0 n0 d0) ∧ NwS w.heap.size (.slice b1 n1 d1) ∧ NwS w.heap.size (.slice b2 n2 d2)) := by
 obtain ⟨bb, hbb⟩ : ∃ bb, bb = w.heap.size := ⟨_, rfl⟩
 obtain ⟨W1, hW1⟩ : ∃ W1, W1 = ((w.alloc (.cells #[.slice a0 n0 c0, .slice a1 n1 c1, .slice a2 n2 c2] 38)).alloc (.cells #[.slice none 0 0, .slice none 0 0, .slice none 0 0] 38)).drew := ⟨_, rfl⟩
 have k1 : Keep noBlock w W1 := by rw [hW1]; exact (((Keep.refl _ w).alloc _).alloc _).drew
 have o1 : W1.heap[bb]? = some (.cells #[.slice a0 n0 c0, .slice a1 n1 c1, .slice a2 n2 c2] 38 (0, 0)) := by rw [hW1, hbb]; exact alloc_far (alloc_new _ _) _
 have o2 : W1.heap[bb + 1]? = some (.cells #[.slice none 0 0, .slice none 0 0, .slice none 0 0] 38 (0, 0)) := by rw [hW1, hbb]; exact alloc_new1 _ _ _ _ _
 have fs : ∀ W, Keep noBlock W1 W → W.cell? ⟨bb, 0, none⟩ = some (.slice a0 n0 c0) ∧ W.cell? ⟨bb, 1, none⟩ = some (.slice a1 n1 c1) ∧ W.cell? ⟨bb, 2, none⟩ = some (.slice a2 n2 c2) := fun W hk => by
  have := hk.obj o1 (fun h => h)
  exact ⟨cell_of this 0, cell_of this 1, cell_of this 2⟩
 have HC0 := (show Hid (Calls Tryz.prog 63 #[.slice a0 n0 c0] W1 fun e w' => ∃ b d, e = .returned (.slice b n0 d) ∧ IsTs w' (.slice b n0 d) t0 ∧ Keep noBlock W1 w' ∧ NwS W1.heap.size (.slice b n0 d)) from cloneS_any a0 n0 c0 t0 l0 W1 (h0.keep k1))
 have HC1 := (show Hid (∀ W, Keep noBlock W1 W → Calls Tryz.prog 63 #[.slice a1 n1 c1] W fun e w' => ∃ b d, e = .returned (.slice b n1 d) ∧ IsTs w' (.slice b n1 d) t1 ∧ Keep noBlock W w' ∧ NwS W.heap.size (.slice b n1 d)) from fun W hk => cloneS_any a1 n1 c1 t1 l1 W ((h1.keep k1).keep hk))
 have HC2 := (show Hid (∀ W, Keep noBlock W1 W → Calls Tryz.prog 63 #[.slice a2 n2 c2] W fun e w' => ∃ b d, e = .returned (.slice b n2 d) ∧ IsTs w' (.slice b n2 d) t2 ∧ Keep noBlock W w' ∧ NwS W.heap.size (.slice b n2 d)) from fun W hk => cloneS_any a2 n2 c2 t2 l2 W ((h2.keep k1).keep hk))
 have HF := (show Hid (∀ W, Keep noBlock W1 W → W.cell? ⟨bb, 0, none⟩ = some (.slice a0 n0 c0) ∧ W.cell? ⟨bb, 1, none⟩ = some (.slice a1 n1 c1) ∧ W.cell? ⟨bb, 2, none⟩ = some (.slice a2 n2 c2)) from fs)
 have HO := hid (And.intro o2 (And.intro k1 hbb))
 have HW1 := hid hW1
 clear h0 h1 h2 k1 o1 o2 fs hW1
 go_enter Tryz.func49, Tryz.ntmps49
 go_wp2_with fail
 rw [← hbb]
 clear hbb
 refine region_last (fun W => W.cell? ⟨bb, 0, none⟩ = some (.slice a0 n0 c0) ∧ W.cell? ⟨bb, 1, none⟩ = some (.slice a1 n1 c1) ∧ W.cell? ⟨bb, 2, none⟩ = some (.slice a2 n2 c2)) 10 mx (by have := HF.out W1 (Keep.refl _ _); rw [HW1.out] at this; exact this) (fun hS => ?_)
 refine tk (i := 0) (v := ?_) rfl (by kernel_rfl) (fun _ _ _ h => h) (by rfl) ?_ (by assumption) ?_
 rotate_left 1
 ·intro w hSw; (try dsimp only at hSw); (try obtain ⟨hSw1, hSw2, hSw3⟩ := hSw); (go_simp <;> with_reducible rfl)
 simp only [Act.put, tA, tB, tD, tE, tF]
 refine tk (i := 1) (v := ?_) rfl (by kernel_rfl) (fun _ _ _ h => h) (by rfl) ?_ (by assumption) ?_
 rotate_left 1
 ·intro w hSw; (try dsimp only at hSw); (try obtain ⟨hSw1, hSw2, hSw3⟩ := hSw); (go_simp <;> with_reducible rfl)
 simp only [Act.put, tA, tB, tC, tD, tE, tF]
 refine tk (i := 3) (v := ?_) rfl (by kernel_rfl) (fun _ _ _ h => h) (by rfl) ?_ (by assumption) ?_
 rotate_left 1
 ·intro w hSw; (try dsimp only at hSw); (try obtain ⟨hSw1, hSw2, hSw3⟩ := hSw); (go_simp <;> with_reducible rfl)
 simp only [Act.put, tA, tB, tC, tD, tE, tF]
 refine tk (i := 4) (v := ?_) rfl (by kernel_rfl) (fun _ _ _ h => h) (by rfl) ?_ (by assumption) ?_
 rotate_left 1
 ·intro w hSw; (try dsimp only at hSw); (try obtain ⟨hSw1, hSw2, hSw3⟩ := hSw); (go_simp <;> with_reducible rfl)
 simp only [Act.put, tA, tB, tC, tD, tE, tF]
 refine tk (i := 6) (v := ?_) rfl (by kernel_rfl) (fun _ _ _ h => h) (by rfl) ?_ (by assumption) ?_
 rotate_left 1
 ·intro w hSw; (try dsimp only at hSw); (try obtain ⟨hSw1, hSw2, hSw3⟩ := hSw); (go_simp <;> with_reducible rfl)
 simp only [Act.put, tA, tB, tC, tD, tE, tF]
 refine tk (i := 7) (v := ?_) rfl (by kernel_rfl) (fun _ _ _ h => h) (by rfl) ?_ (by assumption) ?_
 rotate_left 1
 ·intro w hSw; (try dsimp only at hSw); (try obtain ⟨hSw1, hSw2, hSw3⟩ := hSw); (go_simp <;> with_reducible rfl)
 simp only [Act.put, tA, tB, tC, tD, tE, tF]
 rw [← HW1.out]
 clear HW1
 refine last_one (j := 2) (by kernel_rfl) rfl (fun K hK => ?_)
 rw [if_pos (by rfl)]
 simp only [tA, tB, tC]
 go_simp
 refine HC0.out.mono ?_
 rintro e w5 ⟨b0, d0, rfl, q1, q2, q3⟩
 have HQ0 := hid (And.intro q1 q2)
 have HN0 := hid q3
 clear q1 q2 q3 HC0
 refine hK.out _ _ (fun _ => HF.out w5 HQ0.out.2) ?_
 clear hK K
 refine last_one (j := 5) (by kernel_rfl) rfl (fun K hK => ?_)
 rw [if_pos (by rfl)]
 simp only [tA, tB, tC]
 go_simp
 refine (HC1.out w5 HQ0.out.2).mono ?_
 rintro e w6 ⟨b1, d1, rfl, q1, q2, q3⟩
 have HN1 := hid (And.intro q3 HQ0.out.2.size)
 clear q3
 have HQ1 := (show Hid (IsTs w6 (.slice b1 n1 d1) t1 ∧ IsTs w6 (.slice b0 n0 d0) t0 ∧ Keep noBlock W1 w6) from ⟨q1, HQ0.out.1.keep q2, HQ0.out.2.trans' q2⟩)
 clear q1 q2 HC1 HQ0
 refine hK.out _ _ (fun _ => HF.out w6 HQ1.out.2.2) ?_
 clear hK K
 refine last_one (j := 8) (by kernel_rfl) rfl (fun K hK => ?_)
 rw [if_pos (by rfl)]
 simp only [tA, tB, tC]
 go_simp
 refine (HC2.out w6 HQ1.out.2.2).mono ?_
 rintro e w7 ⟨b2, d2, rfl, q1, q2, q3⟩
 have HN2 := hid (And.intro q3 HQ1.out.2.2.size)
 clear q3
 have HQ2 := (show Hid (IsTs w7 (.slice b0 n0 d0) t0 ∧ IsTs w7 (.slice b1 n1 d1) t1 ∧ IsTs w7 (.slice b2 n2 d2) t2 ∧ Keep noBlock W1 w7 ∧ w7.heap[bb + 1]? = some (.cells #[.slice none 0 0, .slice none 0 0, .slice none 0 0] 38 (0, 0))) from ⟨HQ1.out.2.1.keep q2, HQ1.out.1.keep q2, q1, HQ1.out.2.2.trans' q2, (HQ1.out.2.2.trans' q2).obj HO.out.1 (fun h => h)⟩)
 clear q1 q2 HC2 HQ1
 refine hK.out _ _ (fun _ => HF.out w7 HQ2.out.2.2.2.1) ?_
 clear hK K
 have f7 := HF.out w7 HQ2.out.2.2.2.1
 refine last_one (j := 9) (by kernel_rfl) rfl (fun K hK => ?_)
 rw [if_pos (by rfl)]
 simp only [tA, tB, tC]
 go_simp
 refine hK.out _ _ (fun _ => f7) ?_
 clear hK K f7
 have HST := (show Hid (w7.there (bb + 1) 0 (#[.slice b0 n0 d0, .slice b1 n1 d1, .slice b2 n2 d2] : Array Value).size ∧ (Tryz.prog.info? 38).map (·.size) = some (#[.slice b0 n0 d0, .slice b1 n1 d1, .slice b2 n2 d2] : Array Value).size ∧ (#[.slice b0 n0 d0, .slice b1 n1 d1, .slice b2 n2 d2] : Array Value).all (·.oneCell') = true) from
  ⟨fun j hj => ⟨by have hj3 : j < 3 := hj; rw [cell_of HQ2.out.2.2.2.2, Array.getElem?_eq_getElem (by show 0 + j < 3; omega)]; rfl, frozen_of HQ2.out.2.2.2.2 _⟩, (by kernel_rfl : (Tryz.prog.info? 38).map (·.size) = some 3), all_oneCell_toArray (fun v hv => by simp only [List.mem_cons, List.not_mem_nil, or_false] at hv; rcases hv with rfl | rfl | rfl <;> rfl)⟩)
 refine last_one (j := 10) (by kernel_rfl) rfl (fun K hK => ?_)
 rw [if_pos (by rfl)]
 refine wp_store_mid 38 (.tmp 2) (.tmp 12) rfl (bb + 1) 0 #[.slice b0 n0 d0, .slice b1 n1 d1, .slice b2 n2 d2] rfl rfl HST.out.1 HST.out.2.1 HST.out.2.2 ?_
 refine hK.out _ _ (fun e => absurd rfl e) ?_
 clear hK K
 refine last_done (by kernel_rfl) ?_ _
 go_wp2_with fail
 obtain ⟨s1, s2, s3, s4, s5⟩ := HQ2.out
 have k8 : Keep (fun k => k = bb + 1) w7 (w7.setCells (bb + 1) 0 [.slice b0 n0 d0, .slice b1 n1 d1, .slice b2 n2 d2]) := keep_setCells (S := fun k => k = bb + 1) (bb + 1) (fun _ => rfl) _ _ _ (Keep.refl _ w7)
 have o8 := setCells_obj (bb + 1) 38 [.slice b0 n0 d0, .slice b1 n1 d1, .slice b2 n2 d2] 0 _ w7 s5
 refine bodyPost_ret (results_cell rfl _ _ _ ⟨bb + 1, 0, none⟩ (.agg #[.slice b0 n0 d0, .slice b1 n1 d1, .slice b2 n2 d2]) rfl (run_loadVar_row _ _ 38 38 _ (0, 0) _ o8 Tryz.underlying38 rfl HST.out.2.1)) rfl ?_
 have hz := cell_of s5 0
 exact ⟨b0, b1, b2, d0, d1, d2, rfl, IsTs.keepB s1 k8 hz, IsTs.keepB s2 k8 hz, IsTs.keepB s3 k8 hz, (HO.out.2.1.trans' s4).trans k8 (fun j hj e => by have := HO.out.2.2; omega), nws_le HN0.out HO.out.2.1.size, nws_le HN1.out.1 (Nat.le_trans HO.out.2.1.size HN1.out.2), nws_le HN2.out.1 (Nat.le_trans HO.out.2.1.size HN2.out.2)⟩

section
variable {Ω : Oc}
def seqR (Ω : Oc) (bs : List Nat) (t0 t1 t2 : Option Tb) : Option (List Sp × Option Tb × Option Tb × Option Tb) :=
  match numS bs with
  | none => none
  | some (n, r) => if n = 0 then (if r = [] then some ([], t0, t1, t2) else none) else
    match tablesR Ω (fun v => if v = 0 then t0 else if v = 1 then t1 else t2) r with
    | none => none
    | some (T, r2) => match stepsN r2 T n with
      | none => none
      | some l => some (l, some (T 0), some (T 1), some (T 2))
def GoodO (v : Nat) (t : Option Tb) : Prop := ∀ T, t = some T → GoodT (kdV v) T
def SqAns (w : World) (R : Option (List Sp × Option Tb × Option Tb × Option Tb)) (e : Ending) (w' : World) : Prop :=
 Keep noBlock w w' ∧ match R with
  | none => ∃ (v : Value) (c : Int), c ≠ 0 ∧ e = .returned (.tuple #[v, .agg #[.slice none 0 0, .slice none 0 0, .slice none 0 0], .int .i64 c])
  | some (l, t0, t1, t2) => ∃ v a0 n0 c0 a1 n1 c1 a2 n2 c2, e = .returned (.tuple #[v, .agg #[.slice a0 n0 c0, .slice a1 n1 c1, .slice a2 n2 c2], .int .i64 0]) ∧ SpRow w' v l ∧ IsTs w' (.slice a0 n0 c0) t0 ∧ IsTs w' (.slice a1 n1 c1) t1 ∧ IsTs w' (.slice a2 n2 c2) t2 ∧ (GoodO 0 t0 ∧ GoodO 1 t1 ∧ GoodO 2 t2) ∧ NwS w.heap.size v ∧ NwS w.heap.size (.slice a0 n0 c0) ∧ NwS w.heap.size (.slice a1 n1 c1) ∧ NwS w.heap.size (.slice a2 n2 c2)
/-- The worlds in which Read begins: its tables, the answer's tables, the section. -/
structure Bgn (w W : World) (b0 b1 b2 : Nat) (A : Array Value) (v : Value) : Prop where
 o0 : W.heap[b0]? = some (.cells A 38 (0, 0))
 o1 : W.heap[b1]? = some (.cells z3 38 (0, 0))
 o2 : IsSec W b2 v
 e0 : b0 = w.heap.size
 e1 : b1 = b0 + 1
 e2 : b2 = b1 + 1
 kp : Keep noBlock w W
theorem bgn (w : World) (A : Array Value) (v : Value) : Bgn w (((w.alloc (.cells A 38)).alloc (.cells z3 38)).alloc (.cells #[v] 98)) w.heap.size (w.heap.size + 1) (w.heap.size + 1 + 1) A v := by
 have e1 := alloc_new (w.alloc (.cells A 38)) (.cells z3 38)
 have e2 := alloc_new ((w.alloc (.cells A 38)).alloc (.cells z3 38)) (.cells #[v] 98)
 rw [World.size_alloc] at e1
 rw [World.size_alloc, World.size_alloc] at e2
 exact ⟨alloc_far (alloc_far (alloc_new w _) _) _, alloc_far e1 _, e2, rfl, rfl, rfl, (((Keep.refl _ w).alloc _).alloc _).alloc _⟩
theorem sq_none {w W : World} {b1 b2 : Nat} {v : Value} {c : Int} (hk : Keep (fun k => k = b2) w W) (h1 : w.heap.size ≤ b1) (h2 : w.heap.size ≤ b2) (ho : W.heap[b1]? = some (.cells #[.slice none 0 0, .slice none 0 0, .slice none 0 0] 38 (0, 0))) (hc : c ≠ 0) :
  ∀ W', W' = W.setRow b1 #[.slice none 0 0, .slice none 0 0, .slice none 0 0] → SqAns w none (.returned (.tuple #[v, .agg #[.slice none 0 0, .slice none 0 0, .slice none 0 0], .int .i64 c])) W' ∧ W'.heap[b1]? = some (.cells #[.slice none 0 0, .slice none 0 0, .slice none 0 0] 38 (0, 0)) := fun W' e => by
 have k3 : Keep (fun k => k = b1) W W' := by rw [e]; exact keep_setRow (Keep.refl (fun j => j = b1) W) b1 (fun _ => rfl) _
 refine ⟨⟨(hk.mono (T := noBlock) (fun k hk e => by omega)).trans k3 (fun j hj e => by omega), _, c, hc, rfl⟩, ?_⟩
 rw [e]
 exact setRow_heap W b1 _ _ 38 (0, 0) ho
theorem info38s : (Tryz.prog.info? 38).map (·.size) = some 3 := by kernel_rfl
theorem numS_drop {bs : List Nat} {n : Nat} {r : List Nat} (h : numS bs = some (n, r)) : ∃ k, r = bs.drop k := by
  match bs, h with
  | [], h => simp [numS] at h
  | [a], h =>
    by_cases h1 : a < 128
    · simp [numS, h1] at h; exact ⟨1, by rw [← h.2]; rfl⟩
    · simp [numS, h1] at h
  | [a, b], h =>
    by_cases h1 : a < 128
    · simp [numS, h1] at h; exact ⟨1, by rw [← h.2]; rfl⟩
    · by_cases h2 : a < 255
      · simp [numS, h1, h2] at h; exact ⟨2, by rw [← h.2]; rfl⟩
      · simp [numS, h1, h2] at h
  | a :: b :: c :: r3, h =>
    by_cases h1 : a < 128
    · simp [numS, h1] at h; exact ⟨1, by rw [← h.2]; rfl⟩
    · by_cases h2 : a < 255
      · simp [numS, h1, h2] at h; exact ⟨2, by rw [← h.2]; rfl⟩
      · simp [numS, h1, h2] at h; exact ⟨3, by rw [← h.2]; rfl⟩

set_option maxRecDepth 100000 in
set_option maxHeartbeats 16000000 in
theorem readS_all (w : World) (a : Option Addr) (cap g off : Nat) (bs : List Nat) (a0 a1 a2 : Option Addr) (n0 n1 n2 c0 c1 c2 : Nat) (t0 t1 t2 : Option Tb) (hB : Bytes w a cap g off bs) (hp : ∀ p, a = some p → p.block < w.heap.size) (hg : g < w.heap.size) (hl : bs.length ≤ 131072) (hO : Ords w)
    (h0 : IsTs w (.slice a0 n0 c0) t0) (h1 : IsTs w (.slice a1 n1 c1) t1) (h2 : IsTs w (.slice a2 n2 c2) t2) (g0 : GoodO 0 t0) (g1 : GoodO 1 t1) (g2 : GoodO 2 t2) :
    Calls Tryz.prog 32 #[.slice a bs.length cap, .agg #[.slice a0 n0 c0, .slice a1 n1 c1, .slice a2 n2 c2]] w fun e w' => SqAns w (seqR Ω bs t0 t1 t2) e w' := by
  obtain ⟨N, hN⟩ : ∃ N, N = bs.length := ⟨_, rfl⟩
  rw [← hN]
  have hlI : ¬ (131072 : Int) < (N : Int) := by omega
  have hlN : ¬ 131072 < N := by omega
  have hbg := bgn w #[.slice a0 n0 c0, .slice a1 n1 c1, .slice a2 n2 c2] (.slice a N cap)
  unfold z3 at hbg
  have hlt := hB.lt
  have HH := (show Hid (Bytes w a cap g off bs ∧ (∀ p, a = some p → p.block < w.heap.size) ∧ g < w.heap.size ∧ bs.length ≤ 131072 ∧ Ords w ∧ (IsTs w (.slice a0 n0 c0) t0 ∧ IsTs w (.slice a1 n1 c1) t1 ∧ IsTs w (.slice a2 n2 c2) t2) ∧ (GoodO 0 t0 ∧ GoodO 1 t1 ∧ GoodO 2 t2) ∧ N = bs.length) from ⟨hB, hp, hg, hl, hO, ⟨h0, h1, h2⟩, ⟨g0, g1, g2⟩, hN⟩)
  clear hB hp hg hO h0 h1 h2 g0 g1 g2 hN
  go_enter Tryz.func32, Tryz.ntmps32
  go_wp2_with fail
  generalize ((w.alloc (.cells #[.slice a0 n0 c0, .slice a1 n1 c1, .slice a2 n2 c2] 38)).alloc (.cells #[.slice none 0 0, .slice none 0 0, .slice none 0 0] 38)).alloc (.cells #[.slice a N cap] 98) = W at *
  generalize hb0 : w.heap.size = b0 at *
  generalize hb1 : b0 + 1 = b1 at *
  generalize hb2 : b1 + 1 = b2 at *
  have hsec : Sec W b2 g bs := by
    obtain ⟨y1, y2, y3, y4, y5, y6, y7, y8⟩ := HH.out
    refine ⟨a, cap, off, by rw [← y8]; exact hbg.o2, y1.keep hbg.kp (fun _ h => h), by omega, fun p hp => ?_⟩
    have := y2 p hp
    have := hbg.kp.size
    omega
  have HNm := (show Hid (Calls Tryz.prog 48 #[.pointer (some ⟨b2, 0, none⟩)] W fun e w' => NuP W b2 g (numS bs) e w') from number_all b2 g bs W hsec)
  have HBg := hid (And.intro hbg (And.intro hb0 (And.intro hb1 hb2)))
  clear hbg hb0 hb1 hb2 hsec
  cases hnm : numS bs with
  | none =>
    rw [hnm] at HNm
    have HR := hid (show seqR Ω bs t0 t1 t2 = none from by unfold seqR; rw [hnm])
    refine HNm.out.mono ?_
    rintro e W1 ⟨k1, v, rfl⟩
    have HK1 := hid k1
    clear HNm k1
    have HF := (show Hid (∀ W', W' = W1.setRow b1 #[.slice none 0 0, .slice none 0 0, .slice none 0 0] → SqAns w none (.returned (.tuple #[.slice none 0 0, .agg #[.slice none 0 0, .slice none 0 0, .slice none 0 0], .int .i64 10])) W' ∧ W'.heap[b1]? = some (.cells #[.slice none 0 0, .slice none 0 0, .slice none 0 0] 38 (0, 0))) from by
      have hbb := HBg.out.2
      exact sq_none ((HBg.out.1.kp.mono (T := fun k => k = b2) (fun _ _ h => h.elim)).trans' HK1.out) (by omega) (by omega) (HK1.out.obj HBg.out.1.o1 (by omega)) (by decide))
    have HO1 := (show Hid (W1.heap[b1]? = some (.cells #[.slice none 0 0, .slice none 0 0, .slice none 0 0] 38 (0, 0))) from by have hbb := HBg.out.2; exact HK1.out.obj HBg.out.1.o1 (by omega))
    go_wp2_with (refine wpList_store_row rfl 38 (.tmp 5) (.tmp 26) rfl b1 #[.slice none 0 0, .slice none 0 0, .slice none 0 0] rfl rfl 38 _ HO1.out info38s rfl (by kernel_rfl) ?_)
    obtain ⟨f1, f4⟩ := HF.out _ rfl
    refine bodyPost_ret (results_tct rfl _ _ _ ⟨b1, 0, none⟩ (.agg #[.slice none 0 0, .slice none 0 0, .slice none 0 0]) rfl (run_loadVar_row _ _ 38 38 _ (0, 0) _ f4 Tryz.underlying38 rfl info38s)) rfl ?_
    rw [HR.out]
    exact f1
  | some p =>
    obtain ⟨n, r⟩ := p
    rw [hnm] at HNm
    have hn2 := (numS_lt hlt hnm).1
    obtain ⟨nd, hnd⟩ := numS_drop hnm
    have HNd := hid hnd
    clear hnd
    refine HNm.out.mono ?_
    rintro e W1 ⟨k1, rfl, hsec⟩
    have HK1 := hid k1
    have HSec := hid hsec
    clear HNm k1
    by_cases hn0 : n = 0
    · subst hn0
      rw [show (((0 : Nat) : Int)) = (0 : Int) from rfl]
      obtain ⟨sa, scap, soff, s1, s2, s3, s4⟩ := hsec
      have cs := cell_of s1 0
      clear s1 s2 s3 s4
      by_cases hr : r = []
      · subst hr
        have HR := hid (show seqR Ω bs t0 t1 t2 = some ([], t0, t1, t2) from by unfold seqR; rw [hnm]; rfl)
        have HCp := (show Hid (Calls Tryz.prog 49 #[.agg #[.slice a0 n0 c0, .slice a1 n1 c1, .slice a2 n2 c2]] W1 fun e w' => ∃ b0 b1 b2 d0 d1 d2, e = .returned (.agg #[.slice b0 n0 d0, .slice b1 n1 d1, .slice b2 n2 d2]) ∧ Hid (IsTs w' (.slice b0 n0 d0) t0 ∧ IsTs w' (.slice b1 n1 d1) t1 ∧ IsTs w' (.slice b2 n2 d2) t2 ∧ Keep noBlock W1 w' ∧ NwS W1.heap.size (.slice b0 n0 d0) ∧ NwS W1.heap.size (.slice b1 n1 d1) ∧ NwS W1.heap.size (.slice b2 n2 d2))) from by
          obtain ⟨y1, y2, y3, y4, y5, ⟨i0, i1, i2⟩, ⟨g0, g1, g2⟩, y8⟩ := HH.out
          obtain ⟨x1, x2, x3, x4⟩ := HBg.out
          have kw : Keep noBlock w W1 := x1.kp.trans HK1.out (fun j hj e => by omega)
          exact copyOf_any a0 a1 a2 n0 n1 n2 c0 c1 c2 t0 t1 t2 W1 (i0.keep kw) (i1.keep kw) (i2.keep kw) (fun T h => Nat.le_trans (g0 T h).hl (g0 T h).ml) (fun T h => Nat.le_trans (g1 T h).hl (g1 T h).ml) (fun T h => Nat.le_trans (g2 T h).hl (g2 T h).ml))
        have o0 := HK1.out.obj HBg.out.1.o0 (by have := HBg.out.2; omega)
        have q0 : W1.cell? ⟨b0, 0, none⟩ = some (.slice a0 n0 c0) := cell_of o0 0
        have q1 : W1.cell? ⟨b0, 1, none⟩ = some (.slice a1 n1 c1) := cell_of o0 1
        have q2 : W1.cell? ⟨b0, 2, none⟩ = some (.slice a2 n2 c2) := cell_of o0 2
        clear o0
        go_wp2_with fail
        refine HCp.out.mono ?_
        rintro e W2 ⟨p0, p1, p2, d0, d1, d2, rfl, HX⟩
        have HO1 := (show Hid (W2.heap[b1]? = some (.cells #[.slice none 0 0, .slice none 0 0, .slice none 0 0] 38 (0, 0))) from HX.out.2.2.2.1.obj (HK1.out.obj HBg.out.1.o1 (by have := HBg.out.2; omega)) (fun h => h))
        have HZ3 := hid (show (#[.slice p0 n0 d0, .slice p1 n1 d1, .slice p2 n2 d2] : Array Value).all (·.oneCell') = true from all_oneCell_toArray (fun v hv => by simp only [List.mem_cons, List.not_mem_nil, or_false] at hv; rcases hv with rfl | rfl | rfl <;> rfl))
        have HF := (show Hid (∀ W', W' = W2.setRow b1 #[.slice p0 n0 d0, .slice p1 n1 d1, .slice p2 n2 d2] → SqAns w (seqR Ω bs t0 t1 t2) (.returned (.tuple #[.slice none 0 0, .agg #[.slice p0 n0 d0, .slice p1 n1 d1, .slice p2 n2 d2], .int .i64 0])) W' ∧ W'.heap[b1]? = some (.cells #[.slice p0 n0 d0, .slice p1 n1 d1, .slice p2 n2 d2] 38 (0, 0))) from fun W' e => by
          obtain ⟨x1, x2, x3, x4⟩ := HBg.out
          obtain ⟨z1, z2, z3, z4, z5, z6, z7⟩ := HX.out
          have k3 : Keep (fun k => k = b1) W2 W' := by rw [e]; exact keep_setRow (Keep.refl (fun j => j = b1) W2) b1 (fun _ => rfl) _
          have hz := cell_of HO1.out 0
          have kw : Keep noBlock w W1 := x1.kp.trans HK1.out (fun j hj e => by omega)
          rw [HR.out]
          refine ⟨⟨(kw.trans' z4).trans k3 (fun j hj e => by omega), _, _, _, _, _, _, _, _, _, _, rfl, ⟨none, 0, rfl, .inl rfl⟩, IsTs.keepB z1 k3 hz, IsTs.keepB z2 k3 hz, IsTs.keepB z3 k3 hz, HH.out.2.2.2.2.2.2.1, (fun p l c h => by cases h), nws_le z5 kw.size, nws_le z6 kw.size, nws_le z7 kw.size⟩, ?_⟩
          rw [e]
          exact setRow_heap W2 b1 _ _ 38 (0, 0) HO1.out)
        clear HCp q0 q1 q2 cs
        go_wp2_with (refine wpList_store_row rfl 38 (.tmp 5) (.tmp 37) rfl b1 #[.slice p0 n0 d0, .slice p1 n1 d1, .slice p2 n2 d2] rfl rfl 38 _ HO1.out info38s rfl HZ3.out ?_)
        obtain ⟨f1, f4⟩ := HF.out _ rfl
        refine bodyPost_ret (results_tct rfl _ _ _ ⟨b1, 0, none⟩ (.agg #[.slice p0 n0 d0, .slice p1 n1 d1, .slice p2 n2 d2]) rfl (run_loadVar_row _ _ 38 38 _ (0, 0) _ f4 Tryz.underlying38 rfl info38s)) rfl ?_
        exact f1
      · have HR := hid (show seqR Ω bs t0 t1 t2 = none from by unfold seqR; rw [hnm]; simp [hr])
        have hrp : 0 < r.length := List.length_pos_iff.2 hr
        obtain ⟨rl, hrl⟩ : ∃ rl, rl = r.length := ⟨_, rfl⟩
        rw [← hrl] at cs hrp
        have hrI : (0 : Int) < (rl : Int) := by omega
        clear hrl
        have HF := (show Hid (∀ W', W' = W1.setRow b1 #[.slice none 0 0, .slice none 0 0, .slice none 0 0] → SqAns w none (.returned (.tuple #[.slice none 0 0, .agg #[.slice none 0 0, .slice none 0 0, .slice none 0 0], .int .i64 11])) W' ∧ W'.heap[b1]? = some (.cells #[.slice none 0 0, .slice none 0 0, .slice none 0 0] 38 (0, 0))) from by
          have hbb := HBg.out.2
          exact sq_none ((HBg.out.1.kp.mono (T := fun k => k = b2) (fun _ _ h => h.elim)).trans' HK1.out) (by omega) (by omega) (HK1.out.obj HBg.out.1.o1 (by omega)) (by decide))
        have HO1 := (show Hid (W1.heap[b1]? = some (.cells #[.slice none 0 0, .slice none 0 0, .slice none 0 0] 38 (0, 0))) from by have hbb := HBg.out.2; exact HK1.out.obj HBg.out.1.o1 (by omega))
        go_wp2_with (refine wpList_store_row rfl 38 (.tmp 5) (.tmp 35) rfl b1 #[.slice none 0 0, .slice none 0 0, .slice none 0 0] rfl rfl 38 _ HO1.out info38s rfl (by kernel_rfl) ?_)
        obtain ⟨f1, f4⟩ := HF.out _ rfl
        refine bodyPost_ret (results_tct rfl _ _ _ ⟨b1, 0, none⟩ (.agg #[.slice none 0 0, .slice none 0 0, .slice none 0 0]) rfl (run_loadVar_row _ _ 38 38 _ (0, 0) _ f4 Tryz.underlying38 rfl info38s)) rfl ?_
        rw [HR.out]
        exact f1
    · have hn0b : ((n : Int) == 0) = false := by simp; omega
      have hn0d : decide (n = 0) = false := decide_eq_false hn0
      have hnI : (n : Int) ≤ 98047 := by omega
      have HC := hid (codings_any W1)
      have o0 := HK1.out.obj HBg.out.1.o0 (by have := HBg.out.2; omega)
      have HO0 := hid o0
      clear o0 hsec
      go_wp2_with fail
      refine HC.out.mono ?_
      rintro e w1 ⟨g0, g1, g2, rfl, o0, o1, o2, l0, l1, l2, k1⟩
      generalize hA : (codA (.slice (some ⟨g0, 0, none⟩) 36 36) (.slice (some ⟨g1, 0, none⟩) 29 29) (.slice (some ⟨g2, 0, none⟩) 53 53)).toArray = A
      have hsz : A.size = 330 := by rw [← hA, List.size_toArray]; exact codA_length _ _ _
      have HJ : Hid ((Tryz.prog.info? 107).map (·.size) = some A.size) := by rw [hsz]; exact info58
      have HJ2 := hid (show Tryz.zeroCells107.size = A.size from by rw [hsz]; exact zero58_size)
      have H1 : Hid (A.all (·.oneCell') = true) := by rw [← hA]; exact codA_one _ _ _ _ _ _
      obtain ⟨cK, hcK⟩ : ∃ cK, cK = w1.heap.size := ⟨_, rfl⟩
      have H2 := (show Hid (∀ W2, W2 = w1.alloc (.cells A 107) → Cods W2 cK g0 g1 g2 ∧ Keep noBlock W1 W2 ∧ W1.heap.size ≤ cK ∧ W1.heap.size ≤ g0 ∧ W1.heap.size ≤ g1 ∧ W1.heap.size ≤ g2) from fun W2 e => by
        rw [e, hcK]
        exact ⟨cods_of ⟨by rw [hA]; exact alloc_new w1 _, alloc_far o0 _, alloc_far o1 _, alloc_far o2 _⟩, k1.alloc _, k1.size, l0, l1, l2⟩)
      have od := k1.obj HO0.out (fun h => h)
      have d0 : (w1.alloc (.cells A 107)).cell? ⟨b0, 0, none⟩ = some (.slice a0 n0 c0) := cell_of (alloc_far od _) 0
      have d1 : (w1.alloc (.cells A 107)).cell? ⟨b0, 1, none⟩ = some (.slice a1 n1 c1) := cell_of (alloc_far od _) 1
      have d2 : (w1.alloc (.cells A 107)).cell? ⟨b0, 2, none⟩ = some (.slice a2 n2 c2) := cell_of (alloc_far od _) 2
      have HCK := hid hcK
      clear hA hsz o0 o1 o2 l0 l1 l2 k1 HC hcK od
      have H3 := (show Hid (∀ W : World, _) from fun W => three_any a0 a1 a2 n0 n1 n2 c0 c1 c2 W)
      go_wp2_with (refine wpList_store_row rfl 107 (.tmp 10) (.tmp 38) rfl w1.heap.size A rfl rfl 107 _ (World.alloc_heap_new w1 _) HJ.out HJ2.out H1.out ?_; rw [World.setRow_alloc_new])
      obtain ⟨W2, hW2⟩ : ∃ W2, W2 = w1.alloc (.cells A 107) := ⟨_, rfl⟩
      rw [← hW2, ← HCK.out]
      have HW2 := hid (H2.out W2 hW2)
      clear H2 hW2 HCK d0 d1 d2 HJ HJ2 H1
      refine (H3.out W2).mono ?_
      rintro e W3 ⟨rfl, k3⟩
      have HT := (show Hid (Calls Tryz.prog 51 #[.pointer (some ⟨b2, 0, none⟩), .pointer (some ⟨cK, 0, none⟩), .agg #[.slice a0 n0 c0, .slice a1 n1 c1, .slice a2 n2 c2]] W3 fun e w' => TbsAns W3 b2 g (tablesR Ω (fun v => if v = 0 then t0 else if v = 1 then t1 else t2) r) e w') from by
        obtain ⟨y1, y2, y3, y4, y5, ⟨i0, i1, i2⟩, ⟨gd0, gd1, gd2⟩, y8⟩ := HH.out
        obtain ⟨x1, x2, x3, x4⟩ := HBg.out
        obtain ⟨z1, z2, z3, z4, z5, z6⟩ := HW2.out
        have kk := z2.trans' k3
        have kw : Keep noBlock w W1 := x1.kp.trans HK1.out (fun j hj e => by omega)
        have kw3 := kw.trans' kk
        have hsec3 := HSec.out.keep kk (fun h => h) (fun h => h)
        have hb2l : b2 < W1.heap.size := by obtain ⟨_, _, _, q, _⟩ := HSec.out; exact obj_lt q
        have hsz := kk.size
        have hsw := kw.size
        have hav : ∀ {x : Value} {t : Option Tb}, IsTs w x t → (match t with
            | none => x = .slice none 0 0
            | some T => ∃ tg cap, x = .slice (some ⟨tg, 0, none⟩) (2 ^ T.l) cap ∧ IsTb W3 tg T ∧ tg ≠ b2) := fun {x t} h => by
          cases t with
          | none => exact h
          | some T =>
            obtain ⟨tg, cp, e, hT⟩ := h
            exact ⟨tg, cp, e, hT.keep kw3 (fun h => h), by have := hT.lt; omega⟩
        refine tables_all W3 b2 g cK g0 g1 g2 #[.slice a0 n0 c0, .slice a1 n1 c1, .slice a2 n2 c2] _ r hsec3 (z1.keep k3 (fun h => h) (fun h => h) (fun h => h) (fun h => h)) rfl (all_oneCell_toArray (fun v hv => by simp only [List.mem_cons, List.not_mem_nil, or_false] at hv; rcases hv with rfl | rfl | rfl <;> rfl)) ?_ ?_ (by omega) (by omega) (by omega) (by rw [HNd.out, List.length_drop]; omega)
        · intro v hv
          rcases (show v = 0 ∨ v = 1 ∨ v = 2 by omega) with rfl | rfl | rfl
          · exact ⟨_, rfl, hav i0⟩
          · exact ⟨_, rfl, hav i1⟩
          · exact ⟨_, rfl, hav i2⟩
        · intro v hv
          rcases (show v = 0 ∨ v = 1 ∨ v = 2 by omega) with rfl | rfl | rfl
          · exact gd0
          · exact gd1
          · exact gd2)
      have HK3 := (show Hid (Keep noBlock W1 W3 ∧ Cods W3 cK g0 g1 g2 ∧ W1.heap.size ≤ cK ∧ W1.heap.size ≤ g0 ∧ W1.heap.size ≤ g1 ∧ W1.heap.size ≤ g2) from ⟨HW2.out.2.1.trans' k3, HW2.out.1.keep k3 (fun h => h) (fun h => h) (fun h => h) (fun h => h), HW2.out.2.2⟩)
      clear k3 H3 HW2
      go_wp2_with fail
      cases htb : tablesR Ω (fun v => if v = 0 then t0 else if v = 1 then t1 else t2) r with
      | none =>
        rw [htb] at HT
        have HR := hid (show seqR Ω bs t0 t1 t2 = none from by unfold seqR; rw [hnm]; simp [hn0, htb])
        refine HT.out.mono ?_
        rintro e W4 ⟨k4, U, E, hE, hU3, hU1, rfl⟩
        have HK4 := (show Hid (Keep (fun k => k = b2) w W4 ∧ Keep (fun k => k = b2) W1 W4) from by
          have k14 := (HK3.out.1.mono (T := fun k => k = b2) (fun _ _ h => h.elim)).trans' k4
          exact ⟨((HBg.out.1.kp.mono (T := fun k => k = b2) (fun _ _ h => h.elim)).trans' HK1.out).trans' k14, k14⟩)
        have HU := hid (show (Tryz.prog.info? 109).map (·.size) = some U.size from by rw [hU3]; kernel_rfl)
        have HUo := hid hU1
        have HUz := hid (show (#[.slice none 0 0, .slice none 0 0, .slice none 0 0] : Array Value).size = U.size from by rw [hU3]; rfl)
        have hE0 : ((E : Int) != 0) = true := by simpa using hE
        have HE := hid hE
        have HF := (show Hid (∀ W', W' = (W4.alloc (.cells U 109)).setRow b1 #[.slice none 0 0, .slice none 0 0, .slice none 0 0] → SqAns w none (.returned (.tuple #[.slice none 0 0, .agg #[.slice none 0 0, .slice none 0 0, .slice none 0 0], .int .i64 E])) W' ∧ W'.heap[b1]? = some (.cells #[.slice none 0 0, .slice none 0 0, .slice none 0 0] 38 (0, 0))) from by
          have hbb := HBg.out.2
          exact sq_none (HK4.out.1.alloc _) (by omega) (by omega) (alloc_far (HK4.out.2.obj (HK1.out.obj HBg.out.1.o1 (by omega)) (by omega)) _) hE)
        have HO1 := (show Hid ((W4.alloc (.cells U 109)).heap[b1]? = some (.cells #[.slice none 0 0, .slice none 0 0, .slice none 0 0] 38 (0, 0))) from by
          have hbb := HBg.out.2
          exact alloc_far (HK4.out.2.obj (HK1.out.obj HBg.out.1.o1 (by omega)) (by omega)) _)
        clear hU3 hU1 HT k4 hE
        go_wp2_with (first | (refine wpList_store_row rfl 109 (.tmp 11) (.tmp 44) rfl W4.heap.size U rfl rfl 109 _ (World.alloc_heap_new W4 _) HU.out HUz.out HUo.out ?_; rw [World.setRow_alloc_new]) | (refine wpList_store_row rfl 38 (.tmp 5) (.tmp 48) rfl b1 #[.slice none 0 0, .slice none 0 0, .slice none 0 0] rfl rfl 38 _ HO1.out info38s rfl (by kernel_rfl) ?_))
        obtain ⟨f1, f4⟩ := HF.out _ rfl
        refine bodyPost_ret (results_tct rfl _ _ _ ⟨b1, 0, none⟩ (.agg #[.slice none 0 0, .slice none 0 0, .slice none 0 0]) rfl (run_loadVar_row _ _ 38 38 _ (0, 0) _ f4 Tryz.underlying38 rfl info38s)) rfl ?_
        rw [HR.out]
        exact f1
      | some p =>
        obtain ⟨T, r2⟩ := p
        rw [htb] at HT
        refine HT.out.mono ?_
        rintro e W4 ⟨k4, tg, tcap, rfl, p1, p2⟩
        have HK4 := (show Hid (Keep (fun k => k = b2) w W4 ∧ Keep (fun k => k = b2) W1 W4) from by
          have k14 := (HK3.out.1.mono (T := fun k => k = b2) (fun _ _ h => h.elim)).trans' k4
          exact ⟨((HBg.out.1.kp.mono (T := fun k => k = b2) (fun _ _ h => h.elim)).trans' HK1.out).trans' k14, k14⟩)
        have hdr : ∃ m, r2 = r.drop m := by
          cases r with
          | nil => cases htb
          | cons kb r =>
            by_cases hm : kb % 4 ≠ 0
            · rw [show tablesR Ω (fun v => if v = 0 then t0 else if v = 1 then t1 else t2) (kb :: r) = none from if_pos hm] at htb; cases htb
            · rw [show tablesR Ω (fun v => if v = 0 then t0 else if v = 1 then t1 else t2) (kb :: r) = tabsN Ω kb _ r 3 from if_neg hm] at htb
              obtain ⟨m, hm⟩ := tabsN_drop (Nat.le_refl _) htb
              exact ⟨m + 1, by rw [hm]; rfl⟩
        have HP := (show Hid ((∀ v, v < 3 → IsTb W4 (tg v) (T v) ∧ W3.heap.size ≤ tg v ∧ GoodT (kdV v) (T v)) ∧ Sec W4 b2 g r2 ∧ (∃ m, r2 = r.drop m) ∧ Keep (fun k => k = b2) W3 W4) from ⟨p1, p2, hdr, k4⟩)
        obtain ⟨U, hU⟩ : ∃ U, U = tabA T tg tcap := ⟨_, rfl⟩
        have hU3 : U.size = 3 := by rw [hU]; rfl
        have HU := hid (show (Tryz.prog.info? 109).map (·.size) = some U.size from by rw [hU3]; kernel_rfl)
        have HUo := hid (show U.all (·.oneCell') = true from by rw [hU]; exact all_oneCell_toArray (fun v hv => by simp only [List.mem_cons, List.not_mem_nil, or_false] at hv; rcases hv with rfl | rfl | rfl <;> rfl))
        have HUz := hid (show (#[.slice none 0 0, .slice none 0 0, .slice none 0 0] : Array Value).size = U.size from by rw [hU3]; rfl)
        rw [← hU]
        have HUe := hid hU
        clear hU3 HT k4 p1 p2 hU hdr
        have HZ := (show Hid ((W4.alloc (.cells U 109)).heap[W4.heap.size]? = some (.cells U 109 (0, 0))) from alloc_new W4 _)
        go_wp2_with (first | (refine wpList_store_row rfl 109 (.tmp 11) (.tmp 44) rfl W4.heap.size U rfl rfl 109 _ (World.alloc_heap_new W4 _) HU.out HUz.out HUo.out ?_; rw [World.setRow_alloc_new]) | (refine wpList_load_row rfl 109 (.tmp 11) rfl W4.heap.size rfl 109 U (0, 0) _ HZ.out Tryz.underlying109 rfl HU.out ?_))
        obtain ⟨ub, hub⟩ : ∃ ub, ub = W4.heap.size := ⟨_, rfl⟩
        obtain ⟨W5, hW5⟩ : ∃ W5, W5 = W4.alloc (.cells U 109) := ⟨_, rfl⟩
        rw [← hW5, ← hub]
        have H5 := (show Hid (Keep (fun k => k = b2) w W5 ∧ Sec W5 b2 g r2 ∧ Cods W5 cK g0 g1 g2 ∧ (∀ v, v < 3 → IsTb W5 (tg v) (T v) ∧ GoodT (kdV v) (T v) ∧ w.heap.size ≤ tg v) ∧ W5.heap[ub]? = some (.cells U 109 (0, 0)) ∧ W5.heap[b1]? = some (.cells #[.slice none 0 0, .slice none 0 0, .slice none 0 0] 38 (0, 0)) ∧ b1 < ub ∧ Ords W5 ∧ r2.length ≤ 131072) from by
          obtain ⟨p1, p2, ⟨m, hm⟩, p3⟩ := HP.out
          obtain ⟨q1, q2, q3, q4, q5, q6⟩ := HK3.out
          obtain ⟨x1, x2, x3, x4⟩ := HBg.out
          obtain ⟨y1, y2, y3, y4, y5, -, -, y8⟩ := HH.out
          have hb2l : b2 < W1.heap.size := by obtain ⟨_, _, _, q, _⟩ := HSec.out; exact obj_lt q
          have k5 : Keep noBlock W4 W5 := by rw [hW5]; exact (Keep.refl _ W4).alloc _
          have s1 := q1.size
          have s2 := p3.size
          have s3 := HK4.out.1.size
          have o3 := y5.lt
          have kw5 := HK4.out.1.trans k5 (fun _ _ h => h.elim)
          refine ⟨kw5, p2.keep k5 (fun h => h) (fun h => h), (q2.keep p3 (by omega) (by omega) (by omega) (by omega)).keep k5 (fun h => h) (fun h => h) (fun h => h) (fun h => h), fun v hv => ⟨(p1 v hv).1.keep k5 (fun h => h), (p1 v hv).2.2, by have := (p1 v hv).2.1; have := HK1.out.size; have := HBg.out.1.kp.size; omega⟩, by rw [hW5, hub]; exact alloc_new W4 _, k5.obj (HK4.out.2.obj (HK1.out.obj x1.o1 (by omega)) (by omega)) (fun h => h), by omega, y5.keep kw5 (by omega) (by omega), ?_⟩
          rw [hm, HNd.out, List.length_drop, List.length_drop]
          omega)
        have HSt := (show Hid (Calls Tryz.prog 53 #[.pointer (some ⟨b2, 0, none⟩), .int .i64 (n : Int), .pointer (some ⟨cK, 0, none⟩), .agg U] W5 fun e w' => StpAns W5 (stepsN r2 T n) e w') from by
          obtain ⟨h1, h2, h3, h4, h5, h6, h7, h8, h9⟩ := H5.out
          rw [HUe.out]
          exact steps_all W5 b2 g cK g0 g1 g2 r2 T tg tcap n h2 h3 (fun v hv => (h4 v hv).1) (fun v hv => (h4 v hv).2.1) h8 (by omega) hn2 h9)
        obtain ⟨u0, q0, z0, u1, q1, z1, u2, q2, z2, hu⟩ : ∃ (u0 : Option Addr) (q0 z0 : Nat) (u1 : Option Addr) (q1 z1 : Nat) (u2 : Option Addr) (q2 z2 : Nat), U = #[.slice u0 q0 z0, .slice u1 q1 z1, .slice u2 q2 z2] := ⟨_, _, _, _, _, _, _, _, _, HUe.out⟩
        have HUU := hid hu
        clear HZ hub hW5 HP HU HUo HUz hu
        cases hsn : stepsN r2 T n with
        | none =>
          rw [hsn] at HSt
          have HR := hid (show seqR Ω bs t0 t1 t2 = none from by unfold seqR; rw [hnm]; simp [hn0, htb, hsn])
          refine HSt.out.mono ?_
          rintro e W6 ⟨k6, v6, rfl⟩
          have HK6 := (show Hid (Keep (fun k => k = b2) w W6 ∧ W6.heap[b1]? = some (.cells #[.slice none 0 0, .slice none 0 0, .slice none 0 0] 38 (0, 0))) from ⟨H5.out.1.trans k6 (fun _ _ h => h.elim), k6.obj H5.out.2.2.2.2.2.1 (fun h => h)⟩)
          clear k6 HSt
          have HF := (show Hid (∀ W', W' = W6.setRow b1 #[.slice none 0 0, .slice none 0 0, .slice none 0 0] → SqAns w none (.returned (.tuple #[.slice none 0 0, .agg #[.slice none 0 0, .slice none 0 0, .slice none 0 0], .int .i64 11])) W' ∧ W'.heap[b1]? = some (.cells #[.slice none 0 0, .slice none 0 0, .slice none 0 0] 38 (0, 0))) from by
            have hbb := HBg.out.2
            exact sq_none (HK6.out.1) (by omega) (by omega) (HK6.out.2) (by decide))
          have HO1 := (show Hid (W6.heap[b1]? = some (.cells #[.slice none 0 0, .slice none 0 0, .slice none 0 0] 38 (0, 0))) from by have hbb := HBg.out.2; exact HK6.out.2)
          go_wp2_with (refine wpList_store_row rfl 38 (.tmp 5) (.tmp 59) rfl b1 #[.slice none 0 0, .slice none 0 0, .slice none 0 0] rfl rfl 38 _ HO1.out info38s rfl (by kernel_rfl) ?_)
          obtain ⟨f1, f4⟩ := HF.out _ rfl
          refine bodyPost_ret (results_tct rfl _ _ _ ⟨b1, 0, none⟩ (.agg #[.slice none 0 0, .slice none 0 0, .slice none 0 0]) rfl (run_loadVar_row _ _ 38 38 _ (0, 0) _ f4 Tryz.underlying38 rfl info38s)) rfl ?_
          rw [HR.out]
          exact f1
        | some l =>
          rw [hsn] at HSt
          have HR := hid (show seqR Ω bs t0 t1 t2 = some (l, some (T 0), some (T 1), some (T 2)) from by unfold seqR; rw [hnm]; simp [hn0, htb, hsn])
          refine HSt.out.mono ?_
          rintro e W6 ⟨k6, v6, rfl, hrow, hnw⟩
          obtain ⟨ra, rn, hra, hrb⟩ := hrow.form
          have HM := (show Hid (Keep noBlock W5 W6 ∧ SpRow W6 v6 l ∧ NwS W5.heap.size v6) from ⟨k6, hrow, hnw⟩)
          obtain ⟨ln, hln⟩ : ∃ ln, ln = l.length := ⟨_, rfl⟩
          rw [← hln] at hra
          subst hra
          clear hrow hrb k6 HSt hln hnw
          go_wp2_with fail
          obtain ⟨W9, hW9⟩ : ∃ W9, W9 = W6.drew := ⟨_, rfl⟩
          have k9 : Keep noBlock W5 W9 := by rw [hW9]; exact HM.out.1.drew
          have ou := k9.obj H5.out.2.2.2.2.1 (fun h => h)
          rw [HUU.out] at ou
          have ob := k9.obj H5.out.2.2.2.2.2.1 (fun h => h)
          have g1' : W9.cell? ⟨ub, 0, none⟩ = some (.slice u0 q0 z0) ∧ W9.cell? ⟨ub, 1, none⟩ = some (.slice u1 q1 z1) ∧ W9.cell? ⟨ub, 2, none⟩ = some (.slice u2 q2 z2) := ⟨cell_of ou 0, cell_of ou 1, cell_of ou 2⟩
          have kz : Keep (fun k => k = b1) W9 (W9.setCells b1 0 [(.slice u0 q0 z0), (.slice u1 q1 z1), (.slice u2 q2 z2)]) := keep_setCells (S := fun k => k = b1) b1 (fun _ => rfl) _ _ _ (Keep.refl _ W9)
          have hub1 : ub ≠ b1 := by have := H5.out.2.2.2.2.2.2.1; omega
          have g2' : (W9.setCells b1 0 [(.slice u0 q0 z0), (.slice u1 q1 z1), (.slice u2 q2 z2)]).cell? ⟨ub, 0, none⟩ = some (.slice u0 q0 z0) ∧ (W9.setCells b1 0 [(.slice u0 q0 z0), (.slice u1 q1 z1), (.slice u2 q2 z2)]).cell? ⟨ub, 1, none⟩ = some (.slice u1 q1 z1) ∧ (W9.setCells b1 0 [(.slice u0 q0 z0), (.slice u1 q1 z1), (.slice u2 q2 z2)]).cell? ⟨ub, 2, none⟩ = some (.slice u2 q2 z2) := ⟨cell_of (kz.obj ou hub1) 0, cell_of (kz.obj ou hub1) 1, cell_of (kz.obj ou hub1) 2⟩
          have HST := (show Hid (W9.there b1 0 (#[(.slice u0 q0 z0), (.slice u1 q1 z1), (.slice u2 q2 z2)] : Array Value).size ∧ (Tryz.prog.info? 38).map (·.size) = some (#[(.slice u0 q0 z0), (.slice u1 q1 z1), (.slice u2 q2 z2)] : Array Value).size ∧ (#[(.slice u0 q0 z0), (.slice u1 q1 z1), (.slice u2 q2 z2)] : Array Value).all (·.oneCell') = true) from
            ⟨fun j hj => ⟨by have hj3 : j < 3 := hj; rw [cell_of ob, Array.getElem?_eq_getElem (by show 0 + j < 3; omega)]; rfl, frozen_of ob _⟩, info38s, all_oneCell_toArray (fun v hv => by simp only [List.mem_cons, List.not_mem_nil, or_false] at hv; rcases hv with rfl | rfl | rfl <;> rfl)⟩)
          have HF := (show Hid ((W9.setCells b1 0 [(.slice u0 q0 z0), (.slice u1 q1 z1), (.slice u2 q2 z2)]).heap[b1]? = some (.cells #[(.slice u0 q0 z0), (.slice u1 q1 z1), (.slice u2 q2 z2)] 38 (0, 0)) ∧ SqAns w (seqR Ω bs t0 t1 t2) (.returned (.tuple #[.slice ra ln rn, .agg #[(.slice u0 q0 z0), (.slice u1 q1 z1), (.slice u2 q2 z2)], .int .i64 0])) (W9.setCells b1 0 [(.slice u0 q0 z0), (.slice u1 q1 z1), (.slice u2 q2 z2)])) from by
            refine ⟨setCells_obj b1 38 [(.slice u0 q0 z0), (.slice u1 q1 z1), (.slice u2 q2 z2)] 0 _ W9 ob, ?_⟩
            obtain ⟨x1, x2, x3, x4⟩ := HBg.out
            obtain ⟨h1, h2, h3, h4, h5, h6, h7, h8, h9⟩ := H5.out
            have hz := cell_of ob 0
            have k69 : Keep noBlock W6 W9 := by rw [hW9]; exact (Keep.refl _ W6).drew
            have kall : Keep noBlock w (W9.setCells b1 0 [(.slice u0 q0 z0), (.slice u1 q1 z1), (.slice u2 q2 z2)]) := ((h1.mono (T := noBlock) (fun k hk e => by omega)).trans' k9).trans kz (fun j hj e => by omega)
            have hue := HUU.out
            rw [HUe.out] at hue
            have ht : ∀ v, v < 3 → IsTb (W9.setCells b1 0 [(.slice u0 q0 z0), (.slice u1 q1 z1), (.slice u2 q2 z2)]) (tg v) (T v) := fun v hv => ((h4 v hv).1.keep k9 (fun h => h)).keep kz (tb_ne ((h4 v hv).1.keep k9 (fun h => h)) hz)
            unfold tabA at hue
            simp only [Array.mk.injEq, List.cons.injEq, Value.slice.injEq, and_true] at hue
            obtain ⟨⟨e1, e2, e3⟩, ⟨e4, e5, e6⟩, ⟨e7, e8, e9⟩⟩ := hue
            rw [HR.out]
            refine ⟨kall, _, _, _, _, _, _, _, _, _, _, rfl, ?_, ⟨tg 0, tcap 0, by rw [e1, e2, e3], ht 0 (by omega)⟩, ⟨tg 1, tcap 1, by rw [e4, e5, e6], ht 1 (by omega)⟩, ⟨tg 2, tcap 2, by rw [e7, e8, e9], ht 2 (by omega)⟩, ⟨fun X hX => by cases hX; exact (h4 0 (by omega)).2.1, fun X hX => by cases hX; exact (h4 1 (by omega)).2.1, fun X hX => by cases hX; exact (h4 2 (by omega)).2.1⟩, nws_le HM.out.2.2 h1.size, (fun p l c e => by rw [← e1] at e; cases e; exact (h4 0 (by omega)).2.2), (fun p l c e => by rw [← e4] at e; cases e; exact (h4 1 (by omega)).2.2), (fun p l c e => by rw [← e7] at e; cases e; exact (h4 2 (by omega)).2.2)⟩
            obtain ⟨ra', rn', e, hr⟩ := HM.out.2.1.form
            cases e
            refine ⟨ra, rn, rfl, hr.imp id (fun ⟨gg, q1, q2, q3⟩ => ⟨gg, q1, ?_, fun k s hs => ?_⟩)⟩
            · have := k69.size
              have := kz.size
              omega
            · obtain ⟨c0, c1, c2⟩ := q3 k s hs
              have hne : gg ≠ b1 := fun e => by
                obtain ⟨c0, -, -⟩ := q3 0 (l[0]?.getD (0, 0, 0)) (by
                  have : 0 < l.length := Nat.lt_of_le_of_lt (Nat.zero_le k) (List.getElem?_eq_some_iff.1 hs).1
                  rw [List.getElem?_eq_getElem this]; rfl)
                have hz6 : W6.cell? ⟨b1, 0, none⟩ = some (.slice none 0 0) := cell_of (HM.out.1.obj h6 (fun h => h)) 0
                rw [Nat.zero_mul, e, hz6] at c0
                cases c0
              exact ⟨keep_cellS kz hne (keep_cell0 k69 c0), keep_cellS kz hne (keep_cell0 k69 c1), keep_cellS kz hne (keep_cell0 k69 c2)⟩)
          have HW9 := hid hW9
          clear hW9 k9 ou ob kz hub1
          refine region_last (fun W => W.cell? ⟨ub, 0, none⟩ = some (.slice u0 q0 z0) ∧ W.cell? ⟨ub, 1, none⟩ = some (.slice u1 q1 z1) ∧ W.cell? ⟨ub, 2, none⟩ = some (.slice u2 q2 z2)) 10 mx (by rw [← HW9.out]; exact g1') (fun hS => ?_)
          refine tk (i := 0) (v := ?_) rfl (by kernel_rfl) (fun _ _ _ h => h) (by rfl) ?_ (by assumption) ?_
          rotate_left 1
          · intro w hSw; (try dsimp only at hSw); (try obtain ⟨hSw1, hSw2, hSw3⟩ := hSw); (go_simp <;> with_reducible rfl)
          simp only [Act.put, tA, tB, tD, tE, tF]
          refine tk (i := 1) (v := ?_) rfl (by kernel_rfl) (fun _ _ _ h => h) (by rfl) ?_ (by assumption) ?_
          rotate_left 1
          · intro w hSw; (try dsimp only at hSw); (try obtain ⟨hSw1, hSw2, hSw3⟩ := hSw); (go_simp <;> with_reducible rfl)
          simp only [Act.put, tA, tB, tC, tD, tE, tF]
          refine tk (i := 2) (v := ?_) rfl (by kernel_rfl) (fun _ _ _ h => h) (by rfl) ?_ (by assumption) ?_
          rotate_left 1
          · intro w hSw; (try dsimp only at hSw); (try obtain ⟨hSw1, hSw2, hSw3⟩ := hSw); (go_simp <;> with_reducible rfl)
          simp only [Act.put, tA, tB, tC, tD, tE, tF]
          refine tk (i := 3) (v := ?_) rfl (by kernel_rfl) (fun _ _ _ h => h) (by rfl) ?_ (by assumption) ?_
          rotate_left 1
          · intro w hSw; (try dsimp only at hSw); (try obtain ⟨hSw1, hSw2, hSw3⟩ := hSw); (go_simp <;> with_reducible rfl)
          simp only [Act.put, tA, tB, tC, tD, tE, tF]
          refine tk (i := 4) (v := ?_) rfl (by kernel_rfl) (fun _ _ _ h => h) (by rfl) ?_ (by assumption) ?_
          rotate_left 1
          · intro w hSw; (try dsimp only at hSw); (try obtain ⟨hSw1, hSw2, hSw3⟩ := hSw); (go_simp <;> with_reducible rfl)
          simp only [Act.put, tA, tB, tC, tD, tE, tF]
          refine tk (i := 5) (v := ?_) rfl (by kernel_rfl) (fun _ _ _ h => h) (by rfl) ?_ (by assumption) ?_
          rotate_left 1
          · intro w hSw; (try dsimp only at hSw); (try obtain ⟨hSw1, hSw2, hSw3⟩ := hSw); (go_simp <;> with_reducible rfl)
          simp only [Act.put, tA, tB, tC, tD, tE, tF]
          refine tk (i := 6) (v := ?_) rfl (by kernel_rfl) (fun _ _ _ h => h) (by rfl) ?_ (by assumption) ?_
          rotate_left 1
          · intro w hSw; (try dsimp only at hSw); (try obtain ⟨hSw1, hSw2, hSw3⟩ := hSw); (go_simp <;> with_reducible rfl)
          simp only [Act.put, tA, tB, tC, tD, tE, tF]
          refine tk (i := 7) (v := ?_) rfl (by kernel_rfl) (fun _ _ _ h => h) (by rfl) ?_ (by assumption) ?_
          rotate_left 1
          · intro w hSw; (try dsimp only at hSw); (try obtain ⟨hSw1, hSw2, hSw3⟩ := hSw); (go_simp <;> with_reducible rfl)
          simp only [Act.put, tA, tB, tC, tD, tE, tF]
          refine tk (i := 8) (v := ?_) rfl (by kernel_rfl) (fun _ _ _ h => h) (by rfl) ?_ (by assumption) ?_
          rotate_left 1
          · intro w hSw; (try dsimp only at hSw); (try obtain ⟨hSw1, hSw2, hSw3⟩ := hSw); (go_simp <;> with_reducible rfl)
          simp only [Act.put, tA, tB, tC, tD, tE, tF]
          rw [← HW9.out]
          refine last_one (j := 9) (by kernel_rfl) rfl (fun K hK => ?_)
          rw [if_pos (by rfl)]
          refine wp_store_mid 38 (.tmp 5) (.tmp 67) rfl b1 0 #[(.slice u0 q0 z0), (.slice u1 q1 z1), (.slice u2 q2 z2)] rfl rfl HST.out.1 HST.out.2.1 HST.out.2.2 ?_
          refine hK.out _ _ (fun _ => g2') ?_
          try simp only [Act.put, List.getElem_toArray, List.getElem_cons_zero, List.getElem_cons_succ]
          clear hK K
          refine last_one (j := 10) (by kernel_rfl) rfl (fun K hK => ?_)
          rw [if_pos (by rfl)]
          simp only [tA, tB, tC]
          go_simp
          refine hK.out _ _ (fun e => absurd rfl e) ?_
          clear hK K
          refine last_done (by kernel_rfl) ?_ _
          go_wp2_with fail
          obtain ⟨f1, f2⟩ := HF.out
          refine bodyPost_ret (results_tct rfl _ _ _ ⟨b1, 0, none⟩ (.agg #[(.slice u0 q0 z0), (.slice u1 q1 z1), (.slice u2 q2 z2)]) rfl (run_loadVar_row _ _ 38 38 _ (0, 0) _ f1 Tryz.underlying38 rfl info38s)) rfl ?_
          exact f2
end
end Go.Proofs.YtnjilcokkhodmaaGreatDoor

namespace Go.Proofs.YtnjilcokkhodmaaGreatDoor
open Go.RowKit Go.Shelf
set_option linter.unusedVariables false

theorem whole_long (M : List Nat) (h : 255 < M.length) : codeB (M ++ [lastW M]) = false := by
 refine decide_eq_false fun q => ?_
 have := q.2.1
 simp at this; omega

end Go.Proofs.YtnjilcokkhodmaaGreatDoor
