/-
  Bytes that are copied out of a window, and put.
-/
import Derived.Test.YtinhlkioeadfdaaDoorLast
import Derived.Test.YtinhlkioeadfdaaDoorWin2
namespace Go.Proofs.YtinhlkioeadfdaaDoor
open Go.RowKit Go.Shelf
set_option linter.unusedVariables false

/-- Copied: d bytes are there. -/
structure Done (w W : World) (g : Nat) (M : List Nat) (back n d : Nat) : Prop where
  row : W.heap[g]? = some (.cells (u8s (outL M back d ++ List.replicate (n - d) 0)).toArray 5 (0, 0))
  le : d ≤ n
  keep : Keep noBlock w W
  many : d = n ∨ (back ∣ d ∧ 0 < d)
theorem bytes_row {W : World} {g : Nat} {X : List Nat} {cs : List Value} (h : W.heap[g]? = some (.cells (u8s X ++ cs).toArray 5 (0, 0))) (cap : Nat) (hX : ∀ j : Nat, X[j]?.getD 0 < 256) (hc : X.length ≤ cap) (hl : X.length < 2 ^ 48) : Bytes W (some ⟨g, 0, none⟩) cap g 0 X := by
  refine ⟨.inl rfl, (fun e => by cases e), fun j hj => ?_, hX, hc, hl⟩
  rw [Nat.zero_add, cell_of h j, List.getElem?_toArray, List.getElem?_append_left (by rw [u8s_length]; exact hj)]
  exact u8s_at X j hj
theorem Done.next {w W : World} {g : Nat} {M : List Nat} {back n d t : Nat} (h : Done w W g M back n d) (hg : w.heap.size ≤ g) (hd : d < n) (ht : t = min d (n - d)) {W' : World} (hW : W'.heap[g]? = some (.cells ((u8s (outL M back d ++ List.replicate (n - d) 0)).toArray.toList.take d ++ u8s ((outL M back d).take t) ++ (u8s (outL M back d ++ List.replicate (n - d) 0)).toArray.toList.drop (d + t)).toArray 5 (0, 0))) (hK : Keep (fun k => k = g) W W') : Done w W' g M back n (d + t) := by
  obtain ⟨hdv, h0⟩ := h.many.resolve_left (by omega)
  refine ⟨?_, by omega, h.keep.trans hK (fun i hi e => by omega), ?_⟩
  · rw [hW]
    have e1 : (u8s (outL M back d ++ List.replicate (n - d) 0)).toArray.toList.take d = u8s (outL M back d) := by
      rw [List.toList_toArray, u8s_app]; exact List.take_left' (by rw [u8s_length, outL_length])
    have e2 : (u8s (outL M back d ++ List.replicate (n - d) 0)).toArray.toList.drop (d + t) = u8s (List.replicate (n - (d + t)) 0) := by
      rw [List.toList_toArray, u8s_drop, List.drop_append, List.drop_eq_nil_of_le (by rw [outL_length]; omega), List.nil_append, outL_length, List.drop_replicate]
      congr 2; omega
    rw [e1, e2, ← u8s_app, ← u8s_app, outL_more M back d t hdv (by omega)]
  · by_cases e : d + t = n
    · exact .inl e
    · right
      have : t = d := by omega
      subst this
      exact ⟨Nat.dvd_add hdv hdv, by omega⟩

section
attribute [local go_sem] maxSem6_eq minSem6_eq
attribute [local go_sem] sliceSem_eq
set_option maxRecDepth 100000 in
set_option maxHeartbeats 4000000 in
theorem copy_ok (wb lb s : Nat) (rv : Value) (M : List Nat) (back n : Nat) (w : World) (h : IsW w wb lb s rv M) (h1 : 1 ≤ back) (h2 : back ≤ M.length) (hn : n ≤ 16777216) :
    Calls Tryd.prog 39 #[.pointer (some ⟨wb, 0, none⟩), .int .i64 (back : Int), .int .i64 (n : Int)] w fun e w' => e = .returned (.tuple #[.slice (some ⟨w.heap.size, 0, none⟩) n n, .int .i64 0]) ∧
      w'.heap[w.heap.size]? = some (.cells (u8s (outL M back n)).toArray 5 (0, 0)) ∧ ∃ rv', IsW w' wb lb s rv' (lastN s (M ++ outL M back n)) ∧ Near w rv rv' ∧ rv'.ownBlock ≠ some w.heap.size ∧ Keep (fun k => k = wb ∨ rv.ownBlock = some k) w w' := by
  have HW := (show Hid (IsW w wb lb s rv M) from h)
  have hlen := h.len
  have hltM := h.lt
  obtain ⟨R, o, hI, hM⟩ := h
  obtain ⟨ra, rcap, rg, hrv, -, -⟩ := hI.form
  have c0 : w.cell? ⟨wb, 0, none⟩ = some (.int .i64 (s : Int)) := cell_of hI.obj 0
  have c2 : w.cell? ⟨wb, 2, none⟩ = some (.slice ra R.length rcap) := by have := cell_of hI.obj 2; rw [hrv] at this; exact this
  have hRM : R.length = M.length := by rw [← hM, unr_length]
  have hs0 : ¬ (s : Int) = 0 := by omega
  have hs0b : ((s : Int) == 0) = false := by simpa using hs0
  have hn0 : ¬ (n : Int) < 0 := by omega
  have hn1 : ¬ 16777216 < (n : Int) := by omega
  have hr := reaches_cell wb ra R.length rcap (back : Int) w c2
  rw [decide_eq_true (show 1 ≤ (back : Int) ∧ (back : Int) ≤ (R.length : Int) by omega)] at hr
  have hmk := run_make_u8 n n (Nat.le_refl _) (by omega)
  obtain ⟨W1, hW1⟩ : ∃ W1, W1 = w.alloc (.cells (u8s (List.replicate n 0)).toArray 5) := ⟨_, rfl⟩
  have k1 : Keep noBlock w W1 := by rw [hW1]; exact (Keep.refl _ w).alloc _
  have z1 : W1.heap[w.heap.size]? = some (.cells (u8s (List.replicate n 0)).toArray 5 (0, 0)) := by rw [hW1]; exact alloc_new w _
  have hrg : rv.ownBlock ≠ some w.heap.size := fun e => absurd (HW.out.ring_lt e) (Nat.lt_irrefl _)
  obtain ⟨t, ht⟩ : ∃ t : Nat, t = min n back := ⟨_, rfl⟩
  have HL := last_any wb lb s o rv R w.heap.size n back t (List.replicate n 0) W1 (hI.keep k1 (fun h => h) (fun _ _ h => h)) z1 (by simp) hrg h1 (by omega) hn ht
  rw [hM] at HL
  have HS : Hid (∀ W2, W2.heap[w.heap.size]? = some (.cells (u8s (outL M back t ++ (List.replicate n 0).drop t)).toArray 5 (0, 0)) → Keep (fun k => k = w.heap.size) W1 W2 → Done w W2 w.heap.size M back n t) := by
    intro W2 hz hk
    refine ⟨by rw [hz, List.drop_replicate], by omega, k1.trans hk (fun i hi e => by omega), ?_⟩
    by_cases e : t = n
    · exact .inl e
    · right
      have : t = back := by omega
      subst this; exact ⟨Nat.dvd_refl _, h1⟩
  have hmk1 := hmk w
  rw [← hW1] at hmk1
  clear hI hM hRM hrv k1 z1 hW1 hmk ht
  go_enter Tryd.func39, Tryd.ntmps39
  go_wp2_with fail
  refine hr.mono ?_
  rintro e w1 ⟨rfl, rfl⟩
  clear hr
  go_wp2_with fail
  refine HL.mono ?_
  rintro e W2 ⟨rfl, hz2, hk2⟩
  have HD := (show Hid (Done w1 W2 w1.heap.size M back n t) from HS.out W2 hz2 hk2)
  clear HL HS hz2 hk2 hmk1 c0 c2
  obtain ⟨g, hg⟩ : ∃ g, g = w1.heap.size := ⟨_, rfl⟩
  rw [← hg] at HD ⊢
  have hwlt := HW.out.block
  have hrg' : rv.ownBlock ≠ some g := by rw [hg]; exact hrg
  have HG0 := (show Hid (g = w1.heap.size ∧ rv.ownBlock ≠ some g ∧ wb < g) from ⟨hg, hrg', by omega⟩)
  clear hg hrg hrg' hwlt
  go_wp2_with fail
  go_loopw [9] (fun v wr => ∃ d : Nat, v = .int .i64 (d : Int) ∧ Hid (Done w1 wr g M back n d)) (fun v _ => n - (intOf v).toNat)
  case atStart => exact ⟨t, rfl, HD.out⟩
  case round =>
    clear HD
    obtain ⟨d, rfl, HD⟩ := hrel
    have hdn := HD.out.le
    by_cases hlt : d < n
    · have hltI : (d : Int) < (n : Int) := by omega
      have hsl1 := run_low (some ⟨g, 0, none⟩) n n d (by omega)
      rw [if_neg (by omega), Option.map_some, add0] at hsl1
      have hsl2 := run_high (some ⟨g, 0, none⟩) n n d (by omega)
      obtain ⟨c, hc⟩ : ∃ c : Nat, c = min d (n - d) := ⟨_, rfl⟩
      have hol := outL_length M back d
      have hB : Bytes wr.drew (some ⟨g, 0, none⟩) n g 0 (outL M back d) := bytes_row (cs := u8s (List.replicate (n - d) 0)) (by rw [← u8s_app]; exact HD.out.row) n (lt_out hltM _ _) (by omega) (by omega)
      have hcopy := run_copy_any wr.drew 3 g d (n - d) (n - d) (some ⟨g, d, none⟩) (.slice (some ⟨g, 0, none⟩) d n) (outL M back d) (u8s (outL M back d ++ List.replicate (n - d) 0)).toArray c (by have := hB.src; rwa [hol] at this) (by rw [hol]; exact hc) (.inl rfl) HD.out.row (by simp [u8s_length, hol]; omega)
      have r2 := setRow_heap wr.drew g _ ((u8s (outL M back d ++ List.replicate (n - d) 0)).toArray.toList.take d ++ u8s ((outL M back d).take c) ++ (u8s (outL M back d ++ List.replicate (n - d) 0)).toArray.toList.drop (d + c)).toArray 5 (0, 0) HD.out.row
      have k2 := keep_setRow (((Keep.refl (fun k => k = g) wr).drew)) g (fun _ => rfl) ((u8s (outL M back d ++ List.replicate (n - d) 0)).toArray.toList.take d ++ u8s ((outL M back d).take c) ++ (u8s (outL M back d ++ List.replicate (n - d) 0)).toArray.toList.drop (d + c)).toArray
      have hnext := HD.out.next (by have := HG0.out.1; omega) hlt hc r2 k2
      generalize wr.drew.setRow g _ = W3 at hcopy hnext
      obtain ⟨d2, hd2⟩ : ∃ d2 : Nat, d2 = d + c := ⟨_, rfl⟩
      rw [← hd2] at hnext
      have hadd : IntKind.i64.wrap ((d : Int) + (c : Int)) = (d2 : Int) := by rw [IntKind.wrap_i64]; omega
      have HN := (show Hid (Done w1 W3 g M back n d2 ∧ d < d2) from ⟨hnext, by rcases HD.out.many with e | ⟨_, e⟩ <;> omega⟩)
      generalize n - d = nd at hsl1 hcopy
      clear r2 k2 hnext hB hol hd2 hc HD
      go_wp2_with fail
      go_region_held3 (fun _ => True) (trivial) ((fail))
      go_wp2_with fail
      go_roundw
      case rel => exact ⟨d2, rfl, HN.out.1⟩
      case measure => have := HN.out.2; have := HN.out.1.le; simp [intOf]; omega
    · obtain rfl : d = n := by omega
      have hrow := HD.out.row
      rw [Nat.sub_self, List.replicate_zero, List.append_nil] at hrow
      have hol := outL_length M back d
      have hB : Bytes wr (some ⟨g, 0, none⟩) d g 0 (outL M back d) := bytes_row (cs := []) (by rw [List.append_nil]; exact hrow) d (lt_out hltM _ _) (by omega) (by omega)
      have hWr := HW.out.keep HD.out.keep (fun h => h) (fun _ _ h => h)
      have hgne : g ≠ wb := fun e => by have := HG0.out.2.2; omega
      have HP := put_any wb lb s rv M (some ⟨g, 0, none⟩) d g 0 (outL M back d) wr hWr hB (fun _ => ⟨hgne, HG0.out.2.1⟩)
      rw [hol] at HP
      have HF := (show Hid (Keep noBlock w1 wr ∧ wr.heap[g]? = some (.cells (u8s (outL M back d)).toArray 5 (0, 0))) from ⟨HD.out.keep, hrow⟩)
      clear hrow hB hWr HD hol
      go_wp2_with fail
      refine HP.mono ?_
      rintro e W3 ⟨rfl, rv', hW3, hN3, hK3⟩
      have hsz := HF.out.1.size
      have hgl := obj_lt HF.out.2
      have hfin : W3.heap[g]? = some (.cells (u8s (outL M back d)).toArray 5 (0, 0)) := hK3.obj HF.out.2 (fun e => e.elim hgne HG0.out.2.1)
      have hne' : rv'.ownBlock ≠ some g := by
        rcases hN3 with e | ⟨k, e, hk⟩
        · rw [e]; exact HG0.out.2.1
        · rw [e]; intro q
          have : k = g := by simpa using q
          omega
      have HG := (show Hid (W3.heap[g]? = some (.cells (u8s (outL M back d)).toArray 5 (0, 0)) ∧ ∃ rv', IsW W3 wb lb s rv' (lastN s (M ++ outL M back d)) ∧ Near w1 rv rv' ∧ rv'.ownBlock ≠ some g ∧ Keep (fun k => k = wb ∨ rv.ownBlock = some k) w1 W3) from
        ⟨hfin, rv', hW3, (Near.refl w1 rv).trans hN3 hsz, hne', (HF.out.1.mono (fun _ _ h => h.elim)).trans' hK3⟩)
      clear hfin hne' hW3 hN3 hK3 HP
      go_wp2_with fail
      go_ret2
      obtain rfl := HG0.out.1
      exact ⟨rfl, HG.out⟩
end

set_option maxHeartbeats 1000000 in
/-- Copy of a count that is none. -/
theorem copy_arg (wb lb s : Nat) (rv : Value) (M : List Nat) (back n : Int) (w : World) (h : IsW w wb lb s rv M) (hn : n < 0 ∨ 16777216 < n) :
    Calls Tryd.prog 39 #[.pointer (some ⟨wb, 0, none⟩), .int .i64 back, .int .i64 n] w fun e w' => e = .returned (.tuple #[.slice none 0 0, .int .i64 2]) ∧ w' = w := by
  have hlen := h.len
  obtain ⟨R, o, hI, hM⟩ := h
  have c0 : w.cell? ⟨wb, 0, none⟩ = some (.int .i64 (s : Int)) := cell_of hI.obj 0
  have hs0 : ¬ (s : Int) = 0 := by omega
  have hs0b : ((s : Int) == 0) = false := by simpa using hs0
  by_cases h0 : n < 0
  · go_enter Tryd.func39, Tryd.ntmps39
    go_wp2_with fail
    go_ret2
    exact ⟨rfl, rfl⟩
  · have h1 : 16777216 < n := by omega
    go_enter Tryd.func39, Tryd.ntmps39
    go_wp2_with fail
    go_ret2
    exact ⟨rfl, rfl⟩
set_option maxHeartbeats 1000000 in
/-- Copy from where nothing stands. -/
theorem copy_far (wb lb s : Nat) (rv : Value) (M : List Nat) (back n : Int) (w : World) (h : IsW w wb lb s rv M) (hn0 : ¬ n < 0) (hn1 : ¬ 16777216 < n) (hb : ¬ (1 ≤ back ∧ back ≤ (M.length : Int))) :
    Calls Tryd.prog 39 #[.pointer (some ⟨wb, 0, none⟩), .int .i64 back, .int .i64 n] w fun e w' => e = .returned (.tuple #[.slice none 0 0, .int .i64 11]) ∧ w' = w := by
  have hlen := h.len
  obtain ⟨R, o, hI, hM⟩ := h
  obtain ⟨ra, rcap, rg, hrv, -, -⟩ := hI.form
  have c0 : w.cell? ⟨wb, 0, none⟩ = some (.int .i64 (s : Int)) := cell_of hI.obj 0
  have c2 : w.cell? ⟨wb, 2, none⟩ = some (.slice ra R.length rcap) := by have := cell_of hI.obj 2; rw [hrv] at this; exact this
  have hRM : R.length = M.length := by rw [← hM, unr_length]
  have hs0 : ¬ (s : Int) = 0 := by omega
  have hs0b : ((s : Int) == 0) = false := by simpa using hs0
  have hr := reaches_cell wb ra R.length rcap back w c2
  rw [decide_eq_false (by rw [hRM]; exact hb)] at hr
  clear hb hM hRM hI hrv
  go_enter Tryd.func39, Tryd.ntmps39
  go_wp2_with fail
  refine hr.mono ?_
  rintro e w1 ⟨rfl, rfl⟩
  go_wp2_with fail
  go_ret2
  exact ⟨rfl, rfl⟩

end Go.Proofs.YtinhlkioeadfdaaDoor
