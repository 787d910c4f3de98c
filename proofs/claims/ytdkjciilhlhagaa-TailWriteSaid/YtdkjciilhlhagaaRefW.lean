/-
  The document's own writer: what each of its calls does.
-/
import Derived.Test.YtdkjciilhlhagaaWakes
namespace Go.Proofs.Ytdkjciilhlhagaa
open Go.RowKit Go.Shelf
set_option linter.unusedVariables false

/-- Bits as numbers. -/
def vals (L : List (Fin 2)) : List Nat := L.map Fin.val
theorem vals_length (L : List (Fin 2)) : (vals L).length = L.length := by simp [vals]
theorem vals_at (L : List (Fin 2)) (k : Nat) : (vals L)[k]?.getD 0 = bitL L k := by
  unfold vals bitL
  rw [List.getElem?_map]
  cases L[k]? <;> rfl

/-- Block vb is the document's writer that was given the bits L; v is its row. -/
structure IsV (W : World) (vb : Nat) (v : Value) (L : List (Fin 2)) : Prop where
  obj : W.heap[vb]? = some (.cells #[v] 44 (0, 0))
  row : W.ownsRow 0 5 1 v L.length (u8s (vals L))
theorem IsV.keep {W W' : World} {S : Nat → Prop} {vb : Nat} {v : Value} {L : List (Fin 2)} (h : IsV W vb v L) (hk : Keep S W W') (h1 : ¬ S vb) (h2 : ∀ k, v.ownBlock = some k → ¬ S k) : IsV W' vb v L :=
  ⟨hk.obj h.obj h1, owns_keep h.row hk h2⟩
theorem isV_new (w : World) : IsV (w.alloc (.cells #[.slice none 0 0] 44)) w.heap.size (.slice none 0 0) [] :=
  ⟨World.alloc_heap_new w _, World.ownsRow_nil _ _ _ _⟩

theorem low_succ (x k : Nat) : low x (k + 1) = low x k ++ [⟨bitOf x k, bitOf_lt x k⟩] := upto_succ _ _

/-- What an append of one bit to the writer's row leaves. -/
theorem isV_snoc {w w1 : World} {vb g cap : Nat} {v : Value} {L : List (Fin 2)} {b : Fin 2} {o : Obj} (h : IsV w vb v L)
    (hown : w1.ownsRow 0 5 1 (.slice (some ⟨g, 0, none⟩) (L.length + 1) cap) (L.length + 1) (u8s (vals L) ++ [.int .u8 ((b.val : Nat) : Int)])) (hgrow : (w.alloc o).grownBy w1 v.ownBlock) (hat : v.ownBlock = some g ∨ g = w.heap.size + 1) :
    IsV (w1.setCell ⟨vb, 0, none⟩ (.slice (some ⟨g, 0, none⟩) (L.length + 1) cap)) vb (.slice (some ⟨g, 0, none⟩) (L.length + 1) cap) (L ++ [b]) ∧ Moves w.heap.size v (.slice (some ⟨g, 0, none⟩) (L.length + 1) cap) ∧
      Keep (fun k => k = vb ∨ v.ownBlock = some k) w (w1.setCell ⟨vb, 0, none⟩ (.slice (some ⟨g, 0, none⟩) (L.length + 1) cap)) := by
  have hvb := owns_ne h.row h.obj (by decide)
  have hlt := obj_lt h.obj
  have hob1 : w1.heap[vb]? = _ := (hgrow.block vb (by simp; omega) (Ne.symm hvb)).trans (alloc_far h.obj _)
  have hne : g ≠ vb := by
    rintro rfl
    rcases hat with e | e
    · exact hvb e
    · omega
  refine ⟨⟨(set_obj hob1 0 _).trans (by simp), ?_⟩, hat.elim (fun e => .inl e.symm) (fun e => .inr ⟨g, rfl, by omega⟩), (((Keep.refl _ w).alloc _).grown hgrow (fun k e _ => .inr e)).setCell (p := ⟨vb, 0, none⟩) (fun _ => .inl rfl) _⟩
  have h2 := owns_far hown hne 0 (.slice (some ⟨g, 0, none⟩) (L.length + 1) cap)
  simpa [u8s, vals] using h2

set_option maxRecDepth 100000 in
set_option maxHeartbeats 1000000 in
/-- The document's Put(x, m). -/
theorem putV_any (vb : Nat) (v : Value) (L : List (Fin 2)) (x m : Nat) (hx : x < 18446744073709551616) (hm : m ≤ 56) (hL : L.length < 1000000000000) (w : World) (h : IsV w vb v L) :
    Calls Try.prog 14 #[.pointer (some ⟨vb, 0, none⟩), .int .u64 (x : Int), .int .i64 (m : Int)] w fun e w' => e = .returned (.int .i64 0) ∧ ∃ v', IsV w' vb v' (L ++ low x m) ∧ Moves w.heap.size v v' ∧ Keep (fun k => k = vb ∨ v.ownBlock = some k) w w' := by
  obtain ⟨i0, hi, hz0, hz1, hz2⟩ := info_parts info5
  have h1 : ¬ (m : Int) < 0 := by omega
  have h2 : ¬ 56 < (m : Int) := by omega
  go_enter Try.func14, Try.ntmps14
  go_wp2
  go_loopw [7] (fun i wr => ∃ (k : Nat) (v' : Value), k ≤ m ∧ i = .int .i64 k ∧ IsV wr vb v' (L ++ low x k) ∧ Moves w.heap.size v v' ∧ Keep (fun k => k = vb ∨ v.ownBlock = some k) w wr) (fun i _ => m - (intOf i).toNat)
  case atStart => exact ⟨0, v, Nat.zero_le _, rfl, by simpa [low, upto] using h, .inl rfl, Keep.refl _ _⟩
  case round =>
    obtain ⟨k, v1, hk, rfl, hV, hM, hK⟩ := hrel
    by_cases hlt : k < m
    · have hc0 : wr.cell? ⟨vb, 0, none⟩ = some v1 := cell_of hV.obj 0
      have hb1 := and_bit_u64 x k hx
      have hb2 : ((bitOf x k : Nat) : Int) % 256 = ((bitOf x k : Nat) : Int) := by have := bitOf_lt x k; omega
      have hvlt := obj_lt hV.obj
      have hvb := owns_ne hV.row hV.obj (by decide)
      have hll : (L ++ low x k).length = L.length + k := by rw [List.length_append, low_length]
      have hls : L ++ low x (k + 1) = (L ++ low x k) ++ [⟨bitOf x k, bitOf_lt x k⟩] := by rw [low_succ, List.append_assoc]
      have HL := (show Hid _ from hls)
      clear hls
      generalize L ++ low x k = M at hV hvb hll HL
      have hmax : M.length + 1 ≤ maxLen := by unfold maxLen; omega
      have hby : (M.length + 1) * 1 ≤ 140737488355328 := by omega
      have hrow := hV.row
      obtain ⟨sa, cap0, rfl⟩ := owns_form hrow
      clear hll
      go_wp2_with (at_builtin; refine wpList_append_lies _ rfl _ _ 22 rfl 0 5 i0 (.int .u8 0) 1 1 Try.underlying22 hi hz0 hz1 hz2 rfl (by decide) (.slice sa M.length cap0) M.length (u8s (vals M)) rfl (hrow.alloc _) ⟨wr.heap.size, 0, none⟩ 1 1 [.int .u8 ((bitOf x k : Nat) : Int)] rfl rfl (cell_one_new _ _ _) (by simp [Value.oneCell']) (by decide) hmax hby (Nat.zero_le _) (wr.heap.size + 1) (by simp) ?_; intro g cap w1 hown hgrow hat hltg; have hob1 := (hgrow.block vb (by simp; omega) (Ne.symm hvb)).trans (alloc_far hV.obj _); have hcb := cell_of hob1 0; have hfb := frozen_of hob1 0)
      obtain ⟨q1, q2, q3⟩ := isV_snoc (b := ⟨bitOf x k, bitOf_lt x k⟩) hV hown hgrow hat
      go_roundw
      case rel =>
        refine ⟨k + 1, _, by omega, by go_num, by rw [HL.out]; exact q1, hM.trans q2 hK.size, hK.trans q3 ?_⟩
        rintro i hi (e | e)
        · exact .inl e
        · rcases hM with e2 | ⟨j, e2, hj⟩
          · exact .inr (by rw [← e2]; exact e)
          · rw [e2] at e; cases e; omega
      case measure => simp [intOf]; omega
    · obtain rfl : k = m := by omega
      go_wp2
      go_ret
      exact ⟨rfl, v1, hV, hM, hK⟩

set_option maxHeartbeats 400000 in
theorem putV_arg (vb : Nat) (x n : Int) (hn : ¬ (0 ≤ n ∧ n ≤ 56)) (w : World) :
    Calls Try.prog 14 #[.pointer (some ⟨vb, 0, none⟩), .int .u64 x, .int .i64 n] w fun e w' => e = .returned (.int .i64 2) ∧ w' = w := by
  by_cases h1 : n < 0
  · go_enter Try.func14, Try.ntmps14
    go_wp2
    go_ret
    exact ⟨rfl, rfl⟩
  · have h2 : 56 < n := by omega
    go_enter Try.func14, Try.ntmps14
    go_wp2
    go_ret
    exact ⟨rfl, rfl⟩

theorem byteOf_take_succ (L : List (Fin 2)) (i : Nat) (hi : i < L.length) : L.take (i + 1) = L.take i ++ [L[i]] := by
  rw [List.take_succ_eq_append_getElem hi]
theorem bitL_lt' (L : List (Fin 2)) (i : Nat) (hi : i < L.length) : bitL L i = L[i].val := by
  unfold bitL; rw [List.getElem?_eq_getElem hi]; rfl
/-- The bytes when the first i bits have been laid. -/
def packTo (L : List (Fin 2)) (i : Nat) : List Nat := (List.range ((L.length + 7) / 8)).map (byteOf (L.take i))
theorem packTo_length (L : List (Fin 2)) (i : Nat) : (packTo L i).length = (L.length + 7) / 8 := by simp [packTo]
theorem packTo_zero (L : List (Fin 2)) : packTo L 0 = List.replicate ((L.length + 7) / 8) 0 := by
  unfold packTo
  apply List.ext_getElem
  · simp
  · intro j h1 h2
    simp only [List.getElem_map, List.getElem_range, List.getElem_replicate, List.take_zero]
    exact byteOf_far [] j (by simp)
theorem packTo_all (L : List (Fin 2)) : packTo L L.length = pack L := by
  unfold packTo pack; rw [List.take_of_length_le (Nat.le_refl _)]
theorem packTo_at (L : List (Fin 2)) (i j : Nat) (h : j < (L.length + 7) / 8) : (packTo L i)[j]?.getD 0 = byteOf (L.take i) j := by
  unfold packTo
  rw [List.getElem?_map, List.getElem?_range h]
  rfl
theorem packTo_succ (L : List (Fin 2)) (i : Nat) (hi : i < L.length) : packTo L (i + 1) = (packTo L i).set (i / 8) (byteOf (L.take i) (i / 8) ||| bitL L i * 2 ^ (i % 8)) := by
  have hlen : (L.take i).length = i := by rw [List.length_take]; omega
  have hs := byteOf_take_succ L i hi
  apply List.ext_getElem
  · rw [List.length_set, packTo_length, packTo_length]
  · intro j h1 h2
    rw [List.getElem_set]
    simp only [packTo, List.getElem_map, List.getElem_range]
    have hl := byteOf_last (L.take i) L[i]
    rw [hlen] at hl
    by_cases hj : i / 8 = j
    · rw [if_pos hj, ← hj, hs, hl, bitL_lt' L i hi]
    · rw [if_neg hj, hs]
      by_cases hlt : j < i / 8
      · exact byteOf_old _ _ _ (by rw [hlen]; exact hlt)
      · rw [byteOf_far (L.take i) j (by rw [hlen]; omega), byteOf_far (L.take i ++ [L[i]]) j (by rw [List.length_append, hlen]; simp; omega)]

set_option maxRecDepth 100000 in
set_option maxHeartbeats 1000000 in
/-- The document's Close. -/
theorem closeV_any (vb : Nat) (v : Value) (L : List (Fin 2)) (hL : L.length < 1000000000000) (w : World) (h : IsV w vb v L) :
    Calls Try.prog 16 #[.pointer (some ⟨vb, 0, none⟩)] w fun e w' => ∃ v', e = .returned v' ∧ w'.ownsRow 0 5 1 v' (pack (L ++ [1])).length (u8s (pack (L ++ [1]))) ∧ (∀ k, v'.ownBlock = some k → w.heap.size ≤ k) ∧ IsV w' vb (.slice none 0 0) [] ∧ Keep (fun k => k = vb ∨ v.ownBlock = some k) w w' := by
  obtain ⟨i0, hi, hz0, hz1, hz2⟩ := info_parts info5
  have hc0 : w.cell? ⟨vb, 0, none⟩ = some v := cell_of h.obj 0
  have hvlt := obj_lt h.obj
  have hvb := owns_ne h.row h.obj (by decide)
  have hrow := h.row
  obtain ⟨sa, cap0, rfl⟩ := owns_form hrow
  have hmax : L.length + 1 ≤ maxLen := by unfold maxLen; omega
  have hby : (L.length + 1) * 1 ≤ 140737488355328 := by omega
  have hlm : (L ++ [1]).length = L.length + 1 := by simp
  have hdiv : ((L.length : Int) + 1 + 7) / 8 = (((L.length + 1 + 7) / 8 : Nat) : Int) := by omega
  have hdiv2 : ((L.length : Int) + 8) / 8 = (((L.length + 1 + 7) / 8 : Nat) : Int) := by omega
  have hN : (L.length + 1 + 7) / 8 ≤ 140737488355 := by omega
  have hPL := packTo_length (L ++ [1])
  have hPZ := packTo_zero (L ++ [1])
  rw [hlm] at hPL hPZ
  have HPL := (show Hid _ from hPL)
  have HPZ := (show Hid _ from hPZ)
  obtain ⟨N, hNe⟩ : ∃ N, (L.length + 1 + 7) / 8 = N := ⟨_, rfl⟩
  rw [hNe] at hdiv hN hdiv2
  have HNe := (show Hid _ from hNe)
  clear hNe hPL hPZ
  go_enter Try.func16, Try.ntmps16
  go_wp2_with (first
    | (at_builtin; refine wpList_append_lies _ rfl _ _ 22 rfl 0 5 i0 (.int .u8 0) 1 1 Try.underlying22 hi hz0 hz1 hz2 rfl (by decide) (.slice sa L.length cap0) L.length (u8s (vals L)) rfl (hrow.alloc _) ⟨w.heap.size, 0, none⟩ 1 1 [.int .u8 1] rfl rfl (cell_one_new _ _ _) (by simp [Value.oneCell']) (by decide) hmax hby (Nat.zero_le _) (w.heap.size + 1) (by simp) ?_; intro g cap w1 hown hgrow hat hltg; have hob1 := (hgrow.block vb (by simp; omega) (Ne.symm hvb)).trans (alloc_far h.obj _); have hcb := cell_of hob1 0; have hfb := frozen_of hob1 0)
    | (at_make; refine wpList_make_full _ rfl _ _ 22 rfl 0 5 i0 (.int .u8 0) 1 Try.underlying22 hi hz0 hz1 .i64 .i64 (((L.length : Int) + 1 + 7) / 8) (((L.length : Int) + 1 + 7) / 8) N rfl rfl hdiv hdiv (by rw [hz2]; omega) (by unfold maxLen; omega) (Nat.zero_le _) ?_; intro w2 hown2 hgrow2))
  have hne : g ≠ vb := by
    rintro rfl
    rcases hat with e | e
    · exact hvb e
    · omega
  have hsz1 := hgrow.size
  rw [World.size_alloc] at hsz1
  obtain ⟨H, hH⟩ : ∃ H, (w1.setCell ⟨vb, 0, none⟩ (.slice none 0 0)).heap.size = H := ⟨_, rfl⟩
  have hHw : w1.heap.size = H := by rw [← hH]; simp [World.setCell]
  rw [hH] at hown2
  simp only [hHw]
  obtain ⟨M, hM⟩ : ∃ M, L ++ [1] = M := ⟨_, rfl⟩
  have hML : M.length = L.length + 1 := by rw [← hM]; exact hlm
  rw [hM] at HPL HPZ
  have hKa : Keep (fun k => k = vb ∨ (Value.slice sa L.length cap0).ownBlock = some k) w (w1.setCell ⟨vb, 0, none⟩ (.slice none 0 0)) :=
    (((Keep.refl _ w).alloc _).grown hgrow (fun k e _ => .inr e)).setCell (p := ⟨vb, 0, none⟩) (fun _ => .inl rfl) _
  have hVa : IsV (w1.setCell ⟨vb, 0, none⟩ (.slice none 0 0)) vb (.slice none 0 0) [] := ⟨(set_obj hob1 0 _).trans (by simp), World.ownsRow_nil _ _ _ _⟩
  have hRa : (w1.setCell ⟨vb, 0, none⟩ (.slice none 0 0)).ownsRow 0 5 1 (.slice (some ⟨g, 0, none⟩) (L.length + 1) cap) (L.length + 1) (u8s (vals M)) := by
    have h2 := owns_far hown hne 0 (.slice none 0 0)
    rw [← hM]
    simpa [u8s, vals] using h2
  have hKb : Keep noBlock (w1.setCell ⟨vb, 0, none⟩ (.slice none 0 0)) w2 := (Keep.refl _ _).grown hgrow2 (fun k e _ => by cases e)
  have hV2 := hVa.keep hKb (fun h => h) (fun _ _ h => h)
  have hR2 := owns_keep hRa hKb (fun _ _ h => h)
  have hK2 : Keep (fun k => k = vb ∨ (Value.slice sa L.length cap0).ownBlock = some k) w w2 := hKa.trans hKb (fun _ _ h => h.elim)
  have hO2 : w2.ownsRow 0 5 1 (.slice (some ⟨H, 0, none⟩) N N) N (u8s (packTo M 0)) := by
    have e : (madeCells (Value.int .u8 0).cells (N * 1)).toList = u8s (packTo M 0) := by
      rw [HPZ.out, HNe.out]
      show (madeCells #[Value.int .u8 0] (N * 1)).toList = _
      rw [toList_madeCells_one]
      simp [u8s]
    rw [e] at hown2; exact hown2
  have hvH : vb ≠ H := by have := obj_lt hob1; omega
  have hgH : g ≠ H := by omega
  have hwH : w.heap.size ≤ H := by omega
  have hmx : Try.prog.follows .mixedOrders = true := by kernel_rfl
  have HM := (show Hid _ from hM)
  clear hown hown2 hgrow hgrow2 hz0 hz1 hz2 hi hVa hRa hKa hKb hob1 hcb hfb hH hM hrow h hc0 hat hltg hsz1 hvb hvlt
  go_loopw [5] (fun i wr => ∃ k : Nat, k ≤ L.length + 1 ∧ i = .int .i64 k ∧ wr.ownsRow 0 5 1 (.slice (some ⟨H, 0, none⟩) N N) N (u8s (packTo M k)) ∧ IsV wr vb (.slice none 0 0) [] ∧ wr.ownsRow 0 5 1 (.slice (some ⟨g, 0, none⟩) (L.length + 1) cap) (L.length + 1) (u8s (vals M)) ∧ Keep (fun k => k = vb ∨ (Value.slice sa L.length cap0).ownBlock = some k) w wr) (fun i _ => L.length + 1 - (intOf i).toNat)
  case atStart => exact ⟨0, Nat.zero_le _, rfl, hO2, hV2, hR2, hK2⟩
  case round =>
    obtain ⟨k, hk, rfl, hro, hVr, hRr, hKr⟩ := hrel
    clear hO2 hV2 hR2 hK2
    by_cases hlt : k < L.length + 1
    · have hidx : k / 8 < N := by have := HNe.out; omega
      have hcg : wr.cell? ⟨g, k, none⟩ = some (.int .u8 ((bitL M k : Nat) : Int)) := by
        have := hRr.cells (g := g) rfl k _ (u8s_at (vals M) k (by rw [vals_length]; omega))
        rw [add0, vals_at] at this; exact this
      have hbl := bitL_lt M k
      have hco : wr.cell? ⟨H, k / 8, none⟩ = some (.int .u8 ((byteOf (M.take k) (k / 8) : Nat) : Int)) := by
        have := hro.cells (g := H) rfl (k / 8) _ (u8s_at (packTo M k) (k / 8) (by rw [packTo_length, hML, HNe.out]; exact hidx))
        rw [add0, packTo_at M k _ (by rw [hML, HNe.out]; exact hidx)] at this; exact this
      have hcl := byteOf_lt (M.take k) (k / 8)
      have hfo : wr.frozen? ⟨H, k / 8, none⟩ = false := by
        rcases hro.2 with ⟨e, _⟩ | ⟨g', cap', cur, e, _, hg, _⟩
        · cases e
        · simp only [Value.slice.injEq, Option.some.injEq, Addr.mk.injEq] at e
          obtain ⟨⟨rfl, _⟩, _, rfl⟩ := e
          exact frozen_of hg _
      have HPS := (show Hid _ from packTo_succ M k (by omega))
      have hq8 : k % 8 < 8 := by omega
      have hI : (k : Int) % 8 = ((k % 8 : Nat) : Int) := by omega
      have hD : (k : Int) / 8 = ((k / 8 : Nat) : Int) := by omega
      generalize byteOf (M.take k) (k / 8) = c at hco hcl HPS
      generalize k % 8 = q at hq8 hI HPS
      generalize k / 8 = d at hco hfo hidx hD HPS
      generalize bitL M k = b at hcg hbl HPS
      have hor := shl_or_u8 c b q hcl hbl hq8
      go_wp2
      go_region
      go_wp2
      go_roundw
      case rel =>
        have hks : Keep (fun j => j = H) wr (wr.setCell ⟨H, d, none⟩ (.int .u8 ((c ||| b * 2 ^ q : Nat) : Int))).drew := ((Keep.refl (fun j => j = H) wr).setCell (p := ⟨H, d, none⟩) (fun _ => rfl) _).drew
        refine ⟨k + 1, by omega, by go_num, by rw [HPS.out]; exact owns_drew (owns_set hro d _), hVr.keep hks hvH (fun j e => by cases e), owns_keep hRr hks (fun j e1 e2 => ?_), hKr.trans hks (fun i hi e => by omega)⟩
        obtain rfl : g = j := by simpa [Value.ownBlock] using e1
        exact hgH e2
      case measure => simp [intOf]; omega
    · obtain rfl : k = L.length + 1 := by omega
      go_wp2
      go_ret
      refine ⟨_, rfl, ?_, fun j e => ?_, hVr, hKr⟩
      · rw [HM.out]
        rw [← hML, packTo_all] at hro
        have : (pack M).length = N := by rw [pack_length, hML]; exact HNe.out
        rw [this]; exact hro
      · obtain rfl : H = j := by simpa [Value.ownBlock] using e
        exact hwH

end Go.Proofs.Ytdkjciilhlhagaa
