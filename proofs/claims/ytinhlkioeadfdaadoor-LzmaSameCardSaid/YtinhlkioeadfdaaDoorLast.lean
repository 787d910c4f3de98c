/-
  The last bytes of a window, copied out.
-/
import Derived.Test.YtinhlkioeadfdaaDoorPut
namespace Go.Proofs.YtinhlkioeadfdaaDoor
open Go.RowKit Go.Shelf
set_option linter.unusedVariables false

set_option maxHeartbeats 1000000 in
theorem place_lo (wb o back p : Nat) (w : World) (c3 : w.cell? ⟨wb, 3, none⟩ = some (.int .i64 (o : Int))) (hb : back ≤ o) (hp : p = o - back) (ho : o ≤ 16777216) :
    Calls Tryd.prog 69 #[.pointer (some ⟨wb, 0, none⟩), .int .i64 (back : Int)] w fun e w' => e = .returned (.int .i64 (p : Int)) ∧ w' = w := by
  have hq : (o : Int) - back = (p : Int) := by omega
  have hbI : (back : Int) ≤ (o : Int) := by omega
  clear hp
  go_enter Tryd.func69, Tryd.ntmps69
  go_wp2_with fail
  go_ret
  exact ⟨rfl, rfl⟩
set_option maxHeartbeats 1000000 in
theorem place_hi (wb o back p : Nat) (a : Option Addr) (n cap : Nat) (w : World) (c2 : w.cell? ⟨wb, 2, none⟩ = some (.slice a n cap)) (c3 : w.cell? ⟨wb, 3, none⟩ = some (.int .i64 (o : Int))) (hb : ¬ back ≤ o) (hn : back ≤ n) (hp : p = o + n - back) (hn2 : n ≤ 16777216) (ho : o ≤ 16777216) :
    Calls Tryd.prog 69 #[.pointer (some ⟨wb, 0, none⟩), .int .i64 (back : Int)] w fun e w' => e = .returned (.int .i64 (p : Int)) ∧ w' = w.drew := by
  obtain ⟨D, hD⟩ : ∃ D : Int, D = (o : Int) - back := ⟨_, rfl⟩
  have hq1 : IntKind.i64.wrap ((o : Int) - back) = D := by rw [IntKind.wrap_i64]; omega
  have hq2 : IntKind.i64.wrap (D + n) = (p : Int) := by rw [IntKind.wrap_i64]; omega
  have hbI : ¬ (back : Int) ≤ (o : Int) := by omega
  clear hp hD
  go_enter Tryd.func69, Tryd.ntmps69
  go_wp2_with fail
  go_region_held3 (fun w' => w'.cell? ⟨wb, 2, none⟩ = some (.slice a n cap) ∧ w'.cell? ⟨wb, 3, none⟩ = some (.int .i64 (o : Int))) (go_keep) ((fail))
  go_wp2_with fail
  go_ret
  exact ⟨rfl, rfl⟩

section
attribute [local go_sem] maxSem6_eq minSem6_eq
attribute [local go_sem] sliceSem_eq
set_option maxRecDepth 100000 in
set_option maxHeartbeats 4000000 in
theorem last_any (wb lb s o : Nat) (rv : Value) (R : List Nat) (g n back t : Nat) (Z : List Nat) (w : World) (h : IsR w wb lb s rv R o) (hz : w.heap[g]? = some (.cells (u8s Z).toArray 5 (0, 0))) (hZ : Z.length = n)
    (hg : rv.ownBlock ≠ some g) (h1 : 1 ≤ back) (h2 : back ≤ R.length) (hn : n ≤ 16777216) (ht : t = min n back) :
    Calls Tryd.prog 62 #[.pointer (some ⟨wb, 0, none⟩), .slice (some ⟨g, 0, none⟩) n n, .int .i64 (back : Int)] w fun e w' => e = .returned (.int .i64 (t : Int)) ∧ w'.heap[g]? = some (.cells (u8s (outL (unr R o) back t ++ Z.drop t)).toArray 5 (0, 0)) ∧ Keep (fun k => k = g) w w' := by
  obtain ⟨ra, rcap, rg, hrv, hRB, hrow⟩ := h.form
  have c2 : w.cell? ⟨wb, 2, none⟩ = some (.slice ra R.length rcap) := by have := cell_of h.obj 2; rw [hrv] at this; exact this
  have c3 : w.cell? ⟨wb, 3, none⟩ = some (.int .i64 (o : Int)) := cell_of h.obj 3
  have ho := h.o_
  have hs2 := h.s2
  have hle := h.le
  have hole := h.ole
  have hgw : g ≠ wb := by
    intro e
    have := h.obj
    rw [← e, hz] at this
    simp at this
  have hmin := minSem6_run #[3, 3] 3 (n : Int) (back : Int) (t : Int) (by omega)
  have hsl1 := run_high (some ⟨g, 0, none⟩) n n t (by omega)
  have hplt := place_lt R.length o back hole h1 h2
  have hpt := place_take R o back t hole h1 h2 (by omega)
  obtain ⟨p, hp⟩ : ∃ p, p = place R.length o back := ⟨_, rfl⟩
  rw [← hp] at hplt hpt
  have hout := outL_first (unr R o) back t h1 (by rw [unr_length]; exact h2) (by omega)
  rw [unr_length] at hout
  rw [hout] at hpt
  obtain ⟨a1, off1, hsl2, hB1, -⟩ := hRB.drop p (by omega)
  obtain ⟨t1, ht1⟩ : ∃ t1 : Nat, t1 = min (R.drop p).length t := ⟨_, rfl⟩
  have hne : R ≠ [] := by rintro rfl; simp at h2; omega
  have hrg : rg ≠ g := by
    obtain ⟨hra, _⟩ := hrow.resolve_left (fun e => hne e.2)
    rw [hrv, hra] at hg
    exact fun e => hg (by rw [e]; rfl)
  have hsl3 := run_low (some ⟨g, 0, none⟩) t n t1 (by omega)
  obtain ⟨da, hda⟩ : ∃ da : Option Addr, da = (if n = t1 then some ⟨g, 0, none⟩ else (some (⟨g, 0, none⟩ : Addr)).map (fun x => x.add t1)) := ⟨_, rfl⟩
  rw [← hda] at hsl3
  have hda2 : da = some ⟨g, t1, none⟩ ∨ t - t1 = 0 := by
    by_cases e : n = t1
    · right; omega
    · left; rw [hda, if_neg e, Option.map_some, add0]
  clear hda
  obtain ⟨t2, ht2⟩ : ∃ t2 : Nat, t2 = min R.length (t - t1) := ⟨_, rfl⟩
  have hsum : t1 + t2 = t := by rw [List.length_drop] at ht1; omega
  have hadd : (t1 : Int) + (t2 : Int) = (t : Int) := by omega
  have hwt : IntKind.i64.wrap (t : Int) = (t : Int) := by rw [IntKind.wrap_i64]; omega
  -- both copies, from any world that has the heap of w
  have HC : Hid (∀ W : World, W.heap = w.heap → Keep noBlock w W → ∃ W2, (Builtin.copy_ #[22, 22] 3 #[.slice (some ⟨g, 0, none⟩) t n, .slice a1 (R.drop p).length (rcap - p)]).run Tryd.prog W = .ok (.int .i64 (t1 : Int)) W2 ∧ Keep (fun k => k = g) w W2 ∧
      ∀ W3 : World, W3.heap = W2.heap → Keep noBlock W2 W3 → ∃ W4, (Builtin.copy_ #[22, 22] 3 #[.slice da (t - t1) (n - t1), .slice ra R.length rcap]).run Tryd.prog W3 = .ok (.int .i64 (t2 : Int)) W4 ∧ Keep (fun k => k = g) w W4 ∧ W4.heap[g]? = some (.cells (u8s (outL (unr R o) back t ++ Z.drop t)).toArray 5 (0, 0))) := by
    intro W hW hkW
    have z1 : W.heap[g]? = some (.cells (u8s Z).toArray 5 (0, 0)) := by rw [hW]; exact hz
    have c1 := run_copy_any W 3 g 0 t n (some ⟨g, 0, none⟩) (.slice a1 (R.drop p).length (rcap - p)) (R.drop p) (u8s Z).toArray t1 (hB1.keep hkW (fun _ h => h)).src ht1 (.inl rfl) z1 (by simp [u8s_length]; omega)
    have r1 := setRow_heap W g (u8s Z).toArray ((u8s Z).toArray.toList.take 0 ++ u8s ((R.drop p).take t1) ++ (u8s Z).toArray.toList.drop (0 + t1)).toArray 5 (0, 0) z1
    have k1 := keep_setRow (hkW.mono (T := fun k => k = g) (fun _ _ h => h.elim)) g (fun _ => rfl) ((u8s Z).toArray.toList.take 0 ++ u8s ((R.drop p).take t1) ++ (u8s Z).toArray.toList.drop (0 + t1)).toArray
    refine ⟨_, c1, k1, fun W3 hW3 hk3 => ?_⟩
    generalize W.setRow g _ = W2 at r1 k1 hW3 hk3
    have e1 : ((u8s Z).toArray.toList.take 0 ++ u8s ((R.drop p).take t1) ++ (u8s Z).toArray.toList.drop (0 + t1)).toArray = (u8s ((R.drop p).take t1 ++ Z.drop t1)).toArray := by
      simp [u8s_app, u8s_drop]
    rw [e1] at r1
    have z3 : W3.heap[g]? = some (.cells (u8s ((R.drop p).take t1 ++ Z.drop t1)).toArray 5 (0, 0)) := by rw [hW3]; exact r1
    have k3 : Keep (fun k => k = g) w W3 := k1.trans hk3 (fun _ _ h => h.elim)
    have hl1 : ((R.drop p).take t1).length = t1 := by rw [List.length_take]; omega
    have c3 := run_copy_any W3 3 g t1 (t - t1) (n - t1) da (.slice ra R.length rcap) R (u8s ((R.drop p).take t1 ++ Z.drop t1)).toArray t2 (hRB.keep k3 (fun _ => hrg)).src ht2 (hda2.elim (fun e => .inl e) (fun e => .inr (by omega))) z3 (by simp [u8s_length, hl1]; omega)
    refine ⟨_, c3, keep_setRow k3 g (fun _ => rfl) _, ?_⟩
    rw [setRow_heap W3 g _ _ 5 (0, 0) z3]
    congr 2
    have e2 : (u8s ((R.drop p).take t1 ++ Z.drop t1)).toArray.toList.take t1 = u8s ((R.drop p).take t1) := by
      rw [List.toList_toArray, u8s_app]; exact List.take_left' (by rw [u8s_length, hl1])
    have e3 : (u8s ((R.drop p).take t1 ++ Z.drop t1)).toArray.toList.drop (t1 + t2) = u8s (Z.drop t) := by
      rw [List.toList_toArray, u8s_drop, List.drop_append, List.drop_eq_nil_of_le (by omega), List.nil_append, List.drop_drop, hl1]
      congr 2; omega
    have eA : (R.drop p).take t1 = (R.drop p).take t := List.take_eq_take_iff.2 (by omega)
    have eB : R.take t2 = R.take (t - (R.drop p).length) := List.take_eq_take_iff.2 (by omega)
    rw [e2, e3, ← u8s_app, ← u8s_app, ← hpt, List.take_append, eA, eB]
  clear hpt hout hB1 hRB hrow
  have hnI : (n : Int) ≤ 16777216 := by omega
  generalize (R.drop p).length = Lp at hsl2 HC
  generalize rcap - p = cp at hsl2 HC
  have HZ := (show Hid (w.heap[g]? = some (.cells (u8s Z).toArray 5 (0, 0))) from hz)
  clear hz ht1 ht2 ht
  by_cases hb : back ≤ o
  · have HP := place_lo wb o back p w.drew c3 hb (by rw [hp]; unfold place; rw [if_pos hb]) (by omega)
    obtain ⟨W2, hc1, kw2, HC2⟩ := HC.out w.drew rfl (Keep.refl _ w).drew
    obtain ⟨W4, hc2, kw4, z4⟩ := HC2 W2.drew rfl (Keep.refl _ W2).drew
    have d2 : W2.cell? ⟨wb, 2, none⟩ = some (.slice ra R.length rcap) := by have := cell_of (kw2.obj h.obj (fun e => hgw e.symm)) 2; rw [hrv] at this; exact this
    have d4 : W4.cell? ⟨wb, 2, none⟩ = some (.slice ra R.length rcap) := by have := cell_of (kw4.obj h.obj (fun e => hgw e.symm)) 2; rw [hrv] at this; exact this
    have HF := (show Hid (W4.heap[g]? = some (.cells (u8s (outL (unr R o) back t ++ Z.drop t)).toArray 5 (0, 0)) ∧ Keep (fun k => k = g) w W4) from ⟨z4, kw4⟩)
    clear HC HC2 kw2 kw4 z4 h hrv hp HZ hg
    go_enter Tryd.func62, Tryd.ntmps62
    go_wp2_with fail
    go_region_held3 (fun w' => w'.cell? ⟨wb, 2, none⟩ = some (.slice ra R.length rcap)) (go_keep) ((first | (go_at_call 69; refine HP.mono ?_; rintro e w2 ⟨rfl, rfl⟩)))
    go_wp2_with fail
    go_region_held3 (fun w' => w'.cell? ⟨wb, 2, none⟩ = some (.slice ra R.length rcap)) (go_keep) ((fail))
    go_wp2_with fail
    go_ret
    exact ⟨rfl, HF.out⟩
  · have HP := place_hi wb o back p ra R.length rcap w.drew c2 c3 hb h2 (by rw [hp]; unfold place; rw [if_neg hb]) (by omega) (by omega)
    obtain ⟨W2, hc1, kw2, HC2⟩ := HC.out w.drew.drew rfl (Keep.refl _ w).drew.drew
    obtain ⟨W4, hc2, kw4, z4⟩ := HC2 W2.drew rfl (Keep.refl _ W2).drew
    have d2 : W2.cell? ⟨wb, 2, none⟩ = some (.slice ra R.length rcap) := by have := cell_of (kw2.obj h.obj (fun e => hgw e.symm)) 2; rw [hrv] at this; exact this
    have d4 : W4.cell? ⟨wb, 2, none⟩ = some (.slice ra R.length rcap) := by have := cell_of (kw4.obj h.obj (fun e => hgw e.symm)) 2; rw [hrv] at this; exact this
    have HF := (show Hid (W4.heap[g]? = some (.cells (u8s (outL (unr R o) back t ++ Z.drop t)).toArray 5 (0, 0)) ∧ Keep (fun k => k = g) w W4) from ⟨z4, kw4⟩)
    clear HC HC2 kw2 kw4 z4 h hrv hp HZ hg
    go_enter Tryd.func62, Tryd.ntmps62
    go_wp2_with fail
    go_region_held3 (fun w' => w'.cell? ⟨wb, 2, none⟩ = some (.slice ra R.length rcap)) (go_keep) ((first | (go_at_call 69; refine HP.mono ?_; rintro e w2 ⟨rfl, rfl⟩)))
    go_wp2_with fail
    go_region_held3 (fun w' => w'.cell? ⟨wb, 2, none⟩ = some (.slice ra R.length rcap)) (go_keep) ((fail))
    go_wp2_with fail
    go_ret
    exact ⟨rfl, HF.out⟩
end
end Go.Proofs.YtinhlkioeadfdaaDoor
