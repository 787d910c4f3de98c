/-
  The document's own writer: what each of its calls does.
-/
import Derived.Test.YtoffnhbopjaocaaWrite
namespace Go.Proofs.Ytoffnhbopjaocaa
open Go.RowKit Go.Shelf

/-- Bits as numbers. -/
def vals (L : List (Fin 2)) : List Nat := L.map Fin.val
theorem vals_length (L : List (Fin 2)) : (vals L).length = L.length := by simp [vals]
theorem vals_at (L : List (Fin 2)) (k : Nat) : (vals L)[k]?.getD 0 = bitL L k := by
  unfold vals bitL
  rw [List.getElem?_map]
  cases L[k]? <;> rfl

/-- Block vb is the document's writer that was given the bits L; v is its row. -/
structure IsV (W : World) (vb : Nat) (v : Value) (L : List (Fin 2)) : Prop where
  obj : W.heap[vb]? = some (.cells #[v] 68 (0, 0))
  row : W.ownsRow 0 5 1 v L.length (u8s (vals L))
theorem IsV.keep {W W' : World} {S : Nat → Prop} {vb : Nat} {v : Value} {L : List (Fin 2)} (h : IsV W vb v L) (hk : Keep S W W') (h1 : ¬ S vb) (h2 : ∀ k, v.ownBlock = some k → ¬ S k) : IsV W' vb v L :=
  ⟨hk.obj h.obj h1, owns_keep h.row hk h2⟩
theorem isV_new (w : World) : IsV (w.alloc (.cells #[.slice none 0 0] 68)) w.heap.size (.slice none 0 0) [] :=
  ⟨World.alloc_heap_new w _, World.ownsRow_nil _ _ _ _⟩

theorem low_succ (x k : Nat) : low x (k + 1) = low x k ++ [⟨bitOf x k, bitOf_lt x k⟩] := upto_succ _ _

/-- What an append of one bit to the writer's row leaves. -/
theorem isV_snoc {w w1 : World} {vb g cap : Nat} {v : Value} {L : List (Fin 2)} {b : Fin 2} {o : Obj} (h : IsV w vb v L)
    (hown : w1.ownsRow 0 5 1 (.slice (some ⟨g, 0, none⟩) (L.length + 1) cap) (L.length + 1) (u8s (vals L) ++ [.int .u8 ((b.val : Nat) : Int)])) (hgrow : (w.alloc o).grownBy w1 v.ownBlock) (hat : v.ownBlock = some g ∨ g = w.heap.size + 1) :
    IsV (w1.setCell ⟨vb, 0, none⟩ (.slice (some ⟨g, 0, none⟩) (L.length + 1) cap)) vb (.slice (some ⟨g, 0, none⟩) (L.length + 1) cap) (L ++ [b]) ∧ Moves w.heap.size v (.slice (some ⟨g, 0, none⟩) (L.length + 1) cap) ∧
      Keep (fun k => k = vb ∨ v.ownBlock = some k) w (w1.setCell ⟨vb, 0, none⟩ (.slice (some ⟨g, 0, none⟩) (L.length + 1) cap)) := by
  have hvb := owns_ne h.row h.obj (by decide)
  have hlt := obj_lt h.obj
  have hob1 : w1.heap[vb]? = _ := (hgrow.block vb (by simp; omega) (Ne.symm hvb)).trans (alloc_far h.obj _)
  have hne : g ≠ vb := by
    rintro rfl
    rcases hat with e | e
    · exact hvb e
    · omega
  refine ⟨⟨(set_obj hob1 0 _).trans (by simp), ?_⟩, hat.elim (fun e => .inl e.symm) (fun e => .inr ⟨g, rfl, by omega⟩), (((Keep.refl _ w).alloc _).grown hgrow (fun k e _ => .inr e)).setCell (p := ⟨vb, 0, none⟩) (fun _ => .inl rfl) _⟩
  have h2 := owns_far hown hne 0 (.slice (some ⟨g, 0, none⟩) (L.length + 1) cap)
  simpa [u8s, vals] using h2

set_option maxRecDepth 100000 in
set_option maxHeartbeats 1000000 in
/-- The document's Put(x, m). -/
theorem putV_any (vb : Nat) (v : Value) (L : List (Fin 2)) (x m : Nat) (hx : x < 18446744073709551616) (hm : m ≤ 56) (hL : L.length < 1000000000000) (w : World) (h : IsV w vb v L) :
    Calls Try.prog 32 #[.pointer (some ⟨vb, 0, none⟩), .int .u64 (x : Int), .int .i64 (m : Int)] w fun e w' => e = .returned (.int .i64 0) ∧ ∃ v', IsV w' vb v' (L ++ low x m) ∧ Moves w.heap.size v v' ∧ Keep (fun k => k = vb ∨ v.ownBlock = some k) w w' := by
  obtain ⟨i0, hi, hz0, hz1, hz2⟩ := info_parts info5
  have h1 : ¬ (m : Int) < 0 := by omega
  have h2 : ¬ 56 < (m : Int) := by omega
  go_enter Try.func32, Try.ntmps32
  go_wp2
  go_loopw [7] (fun i wr => ∃ (k : Nat) (v' : Value), k ≤ m ∧ i = .int .i64 k ∧ IsV wr vb v' (L ++ low x k) ∧ Moves w.heap.size v v' ∧ Keep (fun k => k = vb ∨ v.ownBlock = some k) w wr) (fun i _ => m - (intOf i).toNat)
  case atStart => exact ⟨0, v, Nat.zero_le _, rfl, by simpa [low, upto] using h, .inl rfl, Keep.refl _ _⟩
  case round =>
    obtain ⟨k, v1, hk, rfl, hV, hM, hK⟩ := hrel
    by_cases hlt : k < m
    · have hc0 : wr.cell? ⟨vb, 0, none⟩ = some v1 := cell_of hV.obj 0
      have hb1 := and_bit_u64 x k hx
      have hb2 : ((bitOf x k : Nat) : Int) % 256 = ((bitOf x k : Nat) : Int) := by have := bitOf_lt x k; omega
      have hvlt := obj_lt hV.obj
      have hvb := owns_ne hV.row hV.obj (by decide)
      have hll : (L ++ low x k).length = L.length + k := by rw [List.length_append, low_length]
      have hls : L ++ low x (k + 1) = (L ++ low x k) ++ [⟨bitOf x k, bitOf_lt x k⟩] := by rw [low_succ, List.append_assoc]
      have HL := (show Hid _ from hls)
      clear hls
      generalize L ++ low x k = M at hV hvb hll HL
      have hmax : M.length + 1 ≤ maxLen := by unfold maxLen; omega
      have hby : (M.length + 1) * 1 ≤ 140737488355328 := by omega
      have hrow := hV.row
      obtain ⟨sa, cap0, rfl⟩ := owns_form hrow
      clear hll
      go_wp2_with (at_builtin; refine wpList_append_lies _ rfl _ _ 23 rfl 0 5 i0 (.int .u8 0) 1 1 Try.underlying23 hi hz0 hz1 hz2 rfl (by decide) (.slice sa M.length cap0) M.length (u8s (vals M)) rfl (hrow.alloc _) ⟨wr.heap.size, 0, none⟩ 1 1 [.int .u8 ((bitOf x k : Nat) : Int)] rfl rfl (cell_one_new _ _ _) (by simp [Value.oneCell']) (by decide) hmax hby (Nat.zero_le _) (wr.heap.size + 1) (by simp) ?_; intro g cap w1 hown hgrow hat hltg; have hob1 := (hgrow.block vb (by simp; omega) (Ne.symm hvb)).trans (alloc_far hV.obj _); have hcb := cell_of hob1 0; have hfb := frozen_of hob1 0)
      obtain ⟨q1, q2, q3⟩ := isV_snoc (b := ⟨bitOf x k, bitOf_lt x k⟩) hV hown hgrow hat
      go_roundw
      case rel =>
        refine ⟨k + 1, _, by omega, by go_num, by rw [HL.out]; exact q1, hM.trans q2 hK.size, hK.trans q3 ?_⟩
        rintro i hi (e | e)
        · exact .inl e
        · rcases hM with e2 | ⟨j, e2, hj⟩
          · exact .inr (by rw [← e2]; exact e)
          · rw [e2] at e; cases e; omega
      case measure => simp [intOf]; omega
    · obtain rfl : k = m := by omega
      go_wp2
      go_ret
      exact ⟨rfl, v1, hV, hM, hK⟩

set_option maxHeartbeats 400000 in
theorem putV_arg (vb : Nat) (x n : Int) (hn : ¬ (0 ≤ n ∧ n ≤ 56)) (w : World) :
    Calls Try.prog 32 #[.pointer (some ⟨vb, 0, none⟩), .int .u64 x, .int .i64 n] w fun e w' => e = .returned (.int .i64 2) ∧ w' = w := by
  by_cases h1 : n < 0
  · go_enter Try.func32, Try.ntmps32
    go_wp2
    go_ret
    exact ⟨rfl, rfl⟩
  · have h2 : 56 < n := by omega
    go_enter Try.func32, Try.ntmps32
    go_wp2
    go_ret
    exact ⟨rfl, rfl⟩

/-- The length of the row that a writer holds. -/
def heldLen (W : World) (vb : Nat) : Nat := match W.cell? ⟨vb, 0, none⟩ with | some (.slice _ n _) => n | _ => 0
theorem heldLen_of {W : World} {vb : Nat} {v : Value} {L : List (Fin 2)} (h : IsV W vb v L) : heldLen W vb = L.length := by
  unfold heldLen
  rw [cell_of h.obj 0]
  obtain ⟨sa, cap, rfl⟩ := owns_form h.row
  rfl
theorem bitOf_zero (k : Nat) : bitOf 0 k = 0 := by simp [bitOf]

set_option maxRecDepth 100000 in
set_option maxHeartbeats 1000000 in
/-- The document's Align. -/
theorem alignV_any (vb : Nat) (v : Value) (L : List (Fin 2)) (hL : L.length < 1000000000000) (w : World) (h : IsV w vb v L) :
    Calls Try.prog 35 #[.pointer (some ⟨vb, 0, none⟩)] w fun e w' => e = .returned (.tuple #[]) ∧ ∃ v', IsV w' vb v' (L ++ low 0 ((8 - L.length % 8) % 8)) ∧ Moves w.heap.size v v' ∧ Keep (fun k => k = vb ∨ v.ownBlock = some k) w w' := by
  obtain ⟨i0, hi, hz0, hz1, hz2⟩ := info_parts info5
  go_enter Try.func35, Try.ntmps35
  go_wp2
  go_loopw [] (fun wr => ∃ (k : Nat) (v' : Value), k ≤ (8 - L.length % 8) % 8 ∧ IsV wr vb v' (L ++ low 0 k) ∧ Moves w.heap.size v v' ∧ Keep (fun k => k = vb ∨ v.ownBlock = some k) w wr) (fun wr => (8 - heldLen wr vb % 8) % 8)
  case atStart => exact ⟨0, v, Nat.zero_le _, by simpa [low, upto] using h, .inl rfl, Keep.refl _ _⟩
  case round =>
    obtain ⟨k, v1, hk, hV, hM, hK⟩ := hrel
    have hll : (L ++ low 0 k).length = L.length + k := by rw [List.length_append, low_length]
    have hc0 : wr.cell? ⟨vb, 0, none⟩ = some v1 := cell_of hV.obj 0
    by_cases hlt : k < (8 - L.length % 8) % 8
    · have hvlt := obj_lt hV.obj
      have hvb := owns_ne hV.row hV.obj (by decide)
      have hls : L ++ low 0 (k + 1) = (L ++ low 0 k) ++ [0] := by rw [low_succ, List.append_assoc]; congr 3; simp [bitOf_zero]
      have HL := (show Hid _ from hls)
      have HLL := (show Hid _ from hll)
      have hmod : ((L ++ low 0 k).length : Int) % 8 ≠ 0 := by omega
      clear hls
      generalize L ++ low 0 k = M at hV hvb hll HL HLL hmod
      have hmax : M.length + 1 ≤ maxLen := by unfold maxLen; omega
      have hby : (M.length + 1) * 1 ≤ 140737488355328 := by omega
      have hne : (((M.length : Int) % 8) != 0) = true := by simpa using hmod
      have hrow := hV.row
      obtain ⟨sa, cap0, rfl⟩ := owns_form hrow
      clear hll hmod
      go_wp2_with (at_builtin; refine wpList_append_lies _ rfl _ _ 23 rfl 0 5 i0 (.int .u8 0) 1 1 Try.underlying23 hi hz0 hz1 hz2 rfl (by decide) (.slice sa M.length cap0) M.length (u8s (vals M)) rfl (hrow.alloc _) ⟨wr.heap.size, 0, none⟩ 1 1 [.int .u8 0] rfl rfl (cell_one_new _ _ _) (by simp [Value.oneCell']) (by decide) hmax hby (Nat.zero_le _) (wr.heap.size + 1) (by simp) ?_; intro g cap w1 hown hgrow hat hltg; have hob1 := (hgrow.block vb (by simp; omega) (Ne.symm hvb)).trans (alloc_far hV.obj _); have hcb := cell_of hob1 0; have hfb := frozen_of hob1 0)
      obtain ⟨q1, q2, q3⟩ := isV_snoc (b := 0) hV hown hgrow hat
      go_roundw
      case rel =>
        refine ⟨k + 1, _, by omega, by rw [HL.out]; exact q1, hM.trans q2 hK.size, hK.trans q3 ?_⟩
        rintro i hi (e | e)
        · exact .inl e
        · rcases hM with e2 | ⟨j, e2, hj⟩
          · exact .inr (by rw [← e2]; exact e)
          · rw [e2] at e; cases e; omega
      case measure =>
        rw [heldLen_of q1, heldLen_of hV]
        have := HLL.out
        simp
        omega
    · obtain rfl : k = (8 - L.length % 8) % 8 := by omega
      have hmod : ((L ++ low 0 ((8 - L.length % 8) % 8)).length : Int) % 8 = 0 := by omega
      have hlm : (L ++ low 0 ((8 - L.length % 8) % 8)).length < 2000000000000 := by omega
      obtain ⟨M, hM'⟩ : ∃ M, L ++ low 0 ((8 - L.length % 8) % 8) = M := ⟨_, rfl⟩
      rw [hM'] at hV hmod hlm
      have HM' := (show Hid _ from hM')
      have hne : (((M.length : Int) % 8) != 0) = false := by simpa using hmod
      obtain ⟨sa, cap0, rfl⟩ := owns_form hV.row
      clear hll hmod hM'
      go_wp2
      go_end0
      exact ⟨rfl, _, by rw [HM'.out]; exact hV, hM, hK⟩

theorem byteOf_take_succ (L : List (Fin 2)) (i : Nat) (hi : i < L.length) : L.take (i + 1) = L.take i ++ [L[i]] := by
  rw [List.take_succ_eq_append_getElem hi]
theorem bitL_lt' (L : List (Fin 2)) (i : Nat) (hi : i < L.length) : bitL L i = L[i].val := by
  unfold bitL; rw [List.getElem?_eq_getElem hi]; rfl
/-- The bytes when the first i bits have been laid. -/
def packTo (L : List (Fin 2)) (i : Nat) : List Nat := (List.range ((L.length + 7) / 8)).map (byteOf (L.take i))
theorem packTo_length (L : List (Fin 2)) (i : Nat) : (packTo L i).length = (L.length + 7) / 8 := by simp [packTo]
theorem packTo_zero (L : List (Fin 2)) : packTo L 0 = List.replicate ((L.length + 7) / 8) 0 := by
  unfold packTo
  apply List.ext_getElem
  · simp
  · intro j h1 h2
    simp only [List.getElem_map, List.getElem_range, List.getElem_replicate, List.take_zero]
    exact byteOf_far [] j (by simp)
theorem packTo_all (L : List (Fin 2)) : packTo L L.length = pack L := by
  unfold packTo pack; rw [List.take_of_length_le (Nat.le_refl _)]
theorem packTo_at (L : List (Fin 2)) (i j : Nat) (h : j < (L.length + 7) / 8) : (packTo L i)[j]?.getD 0 = byteOf (L.take i) j := by
  unfold packTo
  rw [List.getElem?_map, List.getElem?_range h]
  rfl
theorem packTo_succ (L : List (Fin 2)) (i : Nat) (hi : i < L.length) : packTo L (i + 1) = (packTo L i).set (i / 8) (byteOf (L.take i) (i / 8) ||| bitL L i * 2 ^ (i % 8)) := by
  have hlen : (L.take i).length = i := by rw [List.length_take]; omega
  have hs := byteOf_take_succ L i hi
  apply List.ext_getElem
  · rw [List.length_set, packTo_length, packTo_length]
  · intro j h1 h2
    rw [List.getElem_set]
    simp only [packTo, List.getElem_map, List.getElem_range]
    have hl := byteOf_last (L.take i) L[i]
    rw [hlen] at hl
    by_cases hj : i / 8 = j
    · rw [if_pos hj, ← hj, hs, hl, bitL_lt' L i hi]
    · rw [if_neg hj, hs]
      by_cases hlt : j < i / 8
      · exact byteOf_old _ _ _ (by rw [hlen]; exact hlt)
      · rw [byteOf_far (L.take i) j (by rw [hlen]; omega), byteOf_far (L.take i ++ [L[i]]) j (by rw [List.length_append, hlen]; simp; omega)]

set_option maxRecDepth 100000 in
set_option maxHeartbeats 1000000 in
/-- The document's Bytes. -/
theorem bytesV_any (vb : Nat) (v : Value) (L : List (Fin 2)) (hL : L.length < 1099511627776) (w : World) (h : IsV w vb v L) :
    Calls Try.prog 36 #[.pointer (some ⟨vb, 0, none⟩)] w fun e w' => ∃ v', e = .returned v' ∧ w'.ownsRow 0 5 1 v' (pack L).length (u8s (pack L)) ∧ Keep noBlock w w' := by
  obtain ⟨i0, hi, hz0, hz1, hz2⟩ := info_parts info5
  have hc0 : w.cell? ⟨vb, 0, none⟩ = some v := cell_of h.obj 0
  obtain ⟨sa, cap0, rfl⟩ := owns_form h.row
  have hdiv : ((L.length : Int) + 7) / 8 = (((L.length + 7) / 8 : Nat) : Int) := by omega
  have hN : (L.length + 7) / 8 ≤ 140737488355 := by omega
  have HPL := (show Hid _ from packTo_length L)
  have HPZ := (show Hid _ from packTo_zero L)
  obtain ⟨N, hNe⟩ : ∃ N, (L.length + 7) / 8 = N := ⟨_, rfl⟩
  rw [hNe] at hdiv hN
  have HNe := (show Hid _ from hNe)
  clear hNe
  go_enter Try.func36, Try.ntmps36
  go_wp2_with (at_make; refine wpList_make_full _ rfl _ _ 23 rfl 0 5 i0 (.int .u8 0) 1 Try.underlying23 hi hz0 hz1 .i64 .i64 (((L.length : Int) + 7) / 8) (((L.length : Int) + 7) / 8) N rfl rfl hdiv hdiv (by rw [hz2]; omega) (by unfold maxLen; omega) (Nat.zero_le _) ?_; intro w1 hown hgrow)
  have hown0 : w1.ownsRow 0 5 1 (.slice (some ⟨w.heap.size, 0, none⟩) N N) N (u8s (packTo L 0)) := by
    have e : (madeCells (Value.int .u8 0).cells (N * 1)).toList = u8s (packTo L 0) := by
      rw [HPZ.out, HNe.out]
      show (madeCells #[Value.int .u8 0] (N * 1)).toList = _
      rw [toList_madeCells_one]
      simp [u8s]
    rw [e] at hown; exact hown
  have hK1 : Keep noBlock w w1 := (Keep.refl _ w).grown hgrow (fun k e _ => by cases e)
  have hmx : Try.prog.follows .mixedOrders = true := by kernel_rfl
  clear hown hgrow hz0 hz1 hz2 hi
  go_loopw [4] (fun i wr => ∃ k : Nat, k ≤ L.length ∧ i = .int .i64 k ∧ wr.ownsRow 0 5 1 (.slice (some ⟨w.heap.size, 0, none⟩) N N) N (u8s (packTo L k)) ∧ Keep noBlock w wr) (fun i _ => L.length - (intOf i).toNat)
  case atStart => exact ⟨0, Nat.zero_le _, rfl, hown0, hK1⟩
  case round =>
    obtain ⟨k, hk, rfl, hro, hKr⟩ := hrel
    clear hown0 hK1
    have hV := h.keep hKr (fun h => h) (fun _ _ h => h)
    have hcv : wr.cell? ⟨vb, 0, none⟩ = some (.slice sa L.length cap0) := cell_of hV.obj 0
    by_cases hlt : k < L.length
    · have hidx : k / 8 < N := by have := HNe.out; omega
      obtain ⟨gv, rfl⟩ : ∃ gv, sa = some ⟨gv, 0, none⟩ := by
        rcases hV.row.2 with ⟨e, h0⟩ | ⟨gv, c, cur, e, _⟩
        · omega
        · simp only [Value.slice.injEq] at e; exact ⟨gv, e.1⟩
      have hcg : wr.cell? ⟨gv, k, none⟩ = some (.int .u8 ((bitL L k : Nat) : Int)) := by
        have := hV.row.cells (g := gv) rfl k _ (u8s_at (vals L) k (by rw [vals_length]; exact hlt))
        rw [add0, vals_at] at this; exact this
      have hbl := bitL_lt L k
      have hco : wr.cell? ⟨w.heap.size, k / 8, none⟩ = some (.int .u8 ((byteOf (L.take k) (k / 8) : Nat) : Int)) := by
        have := hro.cells (g := w.heap.size) rfl (k / 8) _ (u8s_at (packTo L k) (k / 8) (by rw [packTo_length, HNe.out]; exact hidx))
        rw [add0, packTo_at L k _ (by rw [HNe.out]; exact hidx)] at this; exact this
      have hcl := byteOf_lt (L.take k) (k / 8)
      have hfo : wr.frozen? ⟨w.heap.size, k / 8, none⟩ = false := by
        rcases hro.2 with ⟨e, _⟩ | ⟨g', cap', cur, e, _, hg, _⟩
        · cases e
        · simp only [Value.slice.injEq, Option.some.injEq, Addr.mk.injEq] at e
          obtain ⟨⟨rfl, _⟩, _, rfl⟩ := e
          exact frozen_of hg _
      have HPS := (show Hid _ from packTo_succ L k hlt)
      have hq8 : k % 8 < 8 := by omega
      have hI : (k : Int) % 8 = ((k % 8 : Nat) : Int) := by omega
      have hD : (k : Int) / 8 = ((k / 8 : Nat) : Int) := by omega
      generalize byteOf (L.take k) (k / 8) = c at hco hcl HPS
      generalize k % 8 = q at hq8 hI HPS
      generalize k / 8 = d at hco hfo hidx hD HPS
      generalize bitL L k = b at hcg hbl HPS
      have hor := shl_or_u8 c b q hcl hbl hq8
      go_wp2
      go_region
      go_wp2
      go_roundw
      case rel =>
        refine ⟨k + 1, by omega, by go_num, by rw [HPS.out]; exact owns_drew (owns_set hro d _), (hKr.setCell (p := ⟨w.heap.size, d, none⟩) (fun hl => by dsimp only at hl; omega) _).drew⟩
      case measure => simp [intOf]; omega
    · obtain rfl : k = L.length := by omega
      go_wp2
      go_ret
      refine ⟨_, rfl, ?_, hKr⟩
      rw [packTo_all] at hro
      have : (pack L).length = N := by rw [pack_length]; exact HNe.out
      rw [this]; exact hro

end Go.Proofs.Ytoffnhbopjaocaa
