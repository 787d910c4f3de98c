/-
  The document's sorted and merged: rows of weights.
-/
import Derived.Test.YtapcohpagipkpaaRight
import Derived.Deep.AppendLies
namespace Go.Proofs.Ytapcohpagipkpaa
open Go.RowKit Go.Shelf

def u64s (L : List Nat) : List Value := L.map (fun x => Value.int .u64 ((x : Nat) : Int))
theorem u64s_at (L : List Nat) (j : Nat) (hj : j < L.length) : (u64s L)[j]? = some (.int .u64 ((L[j]?.getD 0 : Nat) : Int)) := by simp [u64s, hj]
theorem info60 : (Try.prog.info? 60).map (fun i => (i.zero, i.size, i.bytes)) = some (some (.int .u64 0), 1, 8) := by kernel_rfl

/-- A row of weights of one's own, as cells. -/
theorem owns64 {W : World} {base : Nat} {sa : Option Addr} {n cap : Nat} {L : List Nat} (h : W.ownsRow base 60 1 (.slice sa n cap) n (u64s L)) (hn : n = L.length) : ∃ g, Row W .u64 sa cap g 0 L ∧ (L ≠ [] → sa = some ⟨g, 0, none⟩ ∧ base ≤ g ∧ ∃ cs, W.heap[g]? = some (.cells cs 60 (0, 0)) ∧ L.length ≤ cs.size) := by
  subst hn
  rcases h.2 with ⟨e, h0⟩ | ⟨g, cap', cur, e, hb, hg, h1, h2, h3, h4⟩
  · exact ⟨0, ⟨.inr (List.length_eq_zero_iff.1 h0), fun j hj => by omega, by omega⟩, fun hne => absurd (List.length_eq_zero_iff.1 h0) hne⟩
  · simp only [Value.slice.injEq] at e
    obtain ⟨rfl, _, rfl⟩ := e
    refine ⟨g, ⟨.inl rfl, fun j hj => ?_, h1⟩, fun _ => ⟨rfl, hb, cur, hg, by omega⟩⟩
    have := u64s_at L j hj
    rw [← h4, List.getElem?_take, if_pos (by omega)] at this
    rw [Nat.zero_add, cell_of hg]
    simpa using this
theorem owns_set64 {w : World} {base : Nat} {g n cap : Nat} {L : List Nat} (h : w.ownsRow base 60 1 (.slice (some ⟨g, 0, none⟩) n cap) n (u64s L)) (i x : Nat) : (w.setCell ⟨g, i, none⟩ (.int .u64 (x : Int))).ownsRow base 60 1 (.slice (some ⟨g, 0, none⟩) n cap) n (u64s (L.set i x)) := by
  refine ⟨by rw [← h.1]; simp [u64s], ?_⟩
  rcases h.2 with ⟨e, h0⟩ | ⟨g', cap', cur, e, hb, hg, h1, h2, h3, h4⟩
  · cases e
  · simp only [Value.slice.injEq, Option.some.injEq, Addr.mk.injEq] at e
    obtain ⟨⟨rfl, _⟩, _, rfl⟩ := e
    refine .inr ⟨g, cap, cur.setIfInBounds i (.int .u64 (x : Int)), rfl, hb, set_obj hg i _, h1, h2, by simpa using h3, ?_⟩
    have e : u64s (L.set i x) = (u64s L).set i (.int .u64 (x : Int)) := by unfold u64s; rw [List.map_set]
    rw [e, ← h4, Array.toList_setIfInBounds, List.take_set]

/-- x put in ahead of place j. -/
def insAt (L : List Nat) (x j : Nat) : List Nat := L.take j ++ x :: L.drop j
theorem insAt_length (L : List Nat) (x j : Nat) : (insAt L x j).length = L.length + 1 := by
  unfold insAt; rw [List.length_append, List.length_cons, List.length_take, List.length_drop]; omega
theorem insAt_last (L : List Nat) (x : Nat) : insAt L x L.length = L ++ [x] := by simp [insAt]
theorem insAt_parts (L : List Nat) (x j : Nat) (h0 : 0 < j) (hj : j ≤ L.length) : ∃ A y B, A.length = j - 1 ∧ L[j - 1]?.getD 0 = y ∧ insAt L x j = A ++ y :: x :: B ∧ insAt L x (j - 1) = A ++ x :: y :: B := by
  refine ⟨L.take (j - 1), L[j - 1]?.getD 0, L.drop j, by simp; omega, rfl, ?_, ?_⟩
  · unfold insAt
    obtain ⟨k, rfl⟩ : ∃ k, j = k + 1 := ⟨j - 1, by omega⟩
    rw [List.take_add_one, show k + 1 - 1 = k by omega, List.getElem?_eq_getElem (show k < L.length by omega), List.append_assoc]
    rfl
  · unfold insAt
    rw [List.drop_eq_getElem_cons (show j - 1 < L.length by omega), show j - 1 + 1 = j by omega, List.getElem?_eq_getElem (show j - 1 < L.length by omega)]
    rfl
theorem insAt_at (L : List Nat) (x j : Nat) (hj : j ≤ L.length) : (insAt L x j)[j]?.getD 0 = x := by
  unfold insAt
  rw [List.getElem?_append_right (by simp; omega), List.length_take, Nat.min_eq_left hj, Nat.sub_self]
  rfl
theorem insAt_before (L : List Nat) (x j : Nat) (h0 : 0 < j) (hj : j ≤ L.length) : (insAt L x j)[j - 1]?.getD 0 = L[j - 1]?.getD 0 := by
  obtain ⟨A, y, B, h1, h2, h3, _⟩ := insAt_parts L x j h0 hj
  rw [h3, List.getElem?_append_right (by omega), h2, h1, Nat.sub_self]
  rfl
theorem insAt_step (L : List Nat) (x j : Nat) (h0 : 0 < j) (hj : j ≤ L.length) : ((insAt L x j).set j (L[j - 1]?.getD 0)).set (j - 1) x = insAt L x (j - 1) := by
  obtain ⟨A, y, B, h1, h2, h3, h4⟩ := insAt_parts L x j h0 hj
  rw [h3, h4, h2, List.set_append_right _ _ (by omega), List.set_append_right _ _ (by omega), show j - A.length = 1 by omega, show j - 1 - A.length = 0 by omega]
  rfl
theorem insAt_perm (L : List Nat) (x j : Nat) : (insAt L x j).Perm (x :: L) := by
  unfold insAt
  refine List.perm_middle.trans ?_
  rw [List.take_append_drop]
theorem insAt_sorted (L : List Nat) (x j : Nat) (hs : L.Pairwise (· ≤ ·)) (hj : j ≤ L.length) (hlo : j = 0 ∨ L[j - 1]?.getD 0 ≤ x) (hhi : ∀ k, j ≤ k → k < L.length → x < L[k]?.getD 0) : (insAt L x j).Pairwise (· ≤ ·) := by
  unfold insAt
  rw [List.pairwise_append]
  refine ⟨hs.sublist (List.take_sublist _ _), ?_, ?_⟩
  · rw [List.pairwise_cons]
    refine ⟨fun y hy => ?_, hs.sublist (List.drop_sublist _ _)⟩
    obtain ⟨i, hi, rfl⟩ := List.mem_iff_getElem.1 hy
    rw [List.length_drop] at hi
    have := hhi (j + i) (by omega) (by omega)
    rw [List.getElem?_eq_getElem (show j + i < L.length by omega)] at this
    rw [List.getElem_drop]
    exact Nat.le_of_lt this
  · intro p hp q hq
    obtain ⟨i, hi, rfl⟩ := List.mem_take_iff_getElem.1 hp
    have hi' : i < j := by omega
    have hpx : L[i]'(by omega) ≤ x := by
      rcases hlo with e | e
      · omega
      · rw [List.getElem?_eq_getElem (show j - 1 < L.length by omega)] at e
        rcases Nat.lt_or_ge i (j - 1) with h | h
        · exact Nat.le_trans (List.pairwise_iff_getElem.1 hs i (j - 1) (by omega) (by omega) h) e
        · have : i = j - 1 := by omega
          subst this; exact e
    rcases List.mem_cons.1 hq with rfl | hq
    · exact hpx
    · obtain ⟨k, hk, rfl⟩ := List.mem_iff_getElem.1 hq
      rw [List.length_drop] at hk
      have := hhi (j + k) (by omega) (by omega)
      rw [List.getElem?_eq_getElem (show j + k < L.length by omega)] at this
      rw [List.getElem_drop]
      exact Nat.le_trans hpx (Nat.le_of_lt this)

/-- The counts below i that are not 0. -/
def nz (xs : List Nat) (i : Nat) : List Nat := (placesTo (numOf xs) i).map (numOf xs)
theorem nz_succ (xs : List Nat) (i : Nat) : nz xs (i + 1) = if numOf xs i = 0 then nz xs i else nz xs i ++ [numOf xs i] := by
  unfold nz
  rw [placesTo_succ]
  split <;> simp

/-- What sorted has when i counts are over: a row of its own. -/
structure Coins (w W : World) (xs : List Nat) (i : Nat) (v : Value) (L : List Nat) : Prop where
  own : W.ownsRow w.heap.size 60 1 v L.length (u64s L)
  sorted : L.Pairwise (· ≤ ·)
  perm : L.Perm (nz xs i)
  keep : Keep noBlock w W
theorem Coins.len {w W : World} {xs : List Nat} {i : Nat} {v : Value} {L : List Nat} (h : Coins w W xs i v L) : L.length ≤ i := by
  rw [h.perm.length_eq]
  unfold nz
  rw [List.length_map]
  exact placesTo_len _ _
/-- The same while a count is put in. -/
structure CoinsIn (w W : World) (g cap x j : Nat) (L : List Nat) : Prop where
  own : W.ownsRow w.heap.size 60 1 (.slice (some ⟨g, 0, none⟩) (L.length + 1) cap) (L.length + 1) (u64s (insAt L x j))
  le : j ≤ L.length
  above : ∀ k, j ≤ k → k < L.length → x < L[k]?.getD 0
  keep : Keep noBlock w W
theorem CoinsIn.cell {w W : World} {g cap x j : Nat} {L : List Nat} (h : CoinsIn w W g cap x j L) (i : Nat) (hi : i ≤ L.length) : W.cell? ⟨g, i, none⟩ = some (.int .u64 (((insAt L x j)[i]?.getD 0 : Nat) : Int)) := by
  have hl := insAt_length L x j
  obtain ⟨g', hR, hg⟩ := owns64 h.own hl.symm
  obtain ⟨e, _, _⟩ := hg (by intro e; rw [e] at hl; simp at hl)
  cases e
  have := hR.cells i (by omega)
  rwa [Nat.zero_add] at this
theorem CoinsIn.obj {w W : World} {g cap x j : Nat} {L : List Nat} (h : CoinsIn w W g cap x j L) : w.heap.size ≤ g ∧ ∃ cs, W.heap[g]? = some (.cells cs 60 (0, 0)) ∧ L.length + 1 ≤ cs.size := by
  have hl := insAt_length L x j
  obtain ⟨g', hR, hg⟩ := owns64 h.own hl.symm
  obtain ⟨e, hb, cs, hc, hs⟩ := hg (by intro e; rw [e] at hl; simp at hl)
  cases e
  exact ⟨hb, cs, hc, by omega⟩
theorem CoinsIn.swap {w W : World} {g cap x j : Nat} {L : List Nat} (h : CoinsIn w W g cap x j L) (h0 : 0 < j) (hx : x < L[j - 1]?.getD 0) :
    CoinsIn w ((W.setCell ⟨g, j, none⟩ (.int .u64 ((L[j - 1]?.getD 0 : Nat) : Int))).setCell ⟨g, j - 1, none⟩ (.int .u64 (x : Int))) g cap x (j - 1) L := by
  have hb := h.obj.1
  refine ⟨?_, by have := h.le; omega, fun k hk1 hk2 => ?_, (h.keep.setCell (fun h => absurd h (by show ¬ g < _; omega)) _).setCell (fun h => absurd h (by show ¬ g < _; omega)) _⟩
  · have := owns_set64 (owns_set64 h.own j (L[j - 1]?.getD 0)) (j - 1) x
    rwa [insAt_step L x j h0 h.le] at this
  · rcases Nat.lt_or_ge k j with e | e
    · have : k = j - 1 := by omega
      subst this; exact hx
    · exact h.above k e hk2

set_option maxRecDepth 100000 in
set_option maxHeartbeats 4000000 in
theorem sorted_any (a : Option Addr) (cap gb off : Nat) (xs : List Nat) (w : World) (hR : Row w .u32 a cap gb off xs) (hx : ∀ i, numOf xs i < 4294967296) (hl : xs.length ≤ 1024) :
    Calls Try.prog 40 #[.slice a xs.length cap] w fun e w' => ∃ v L, e = .returned v ∧ Coins w w' xs xs.length v L := by
  obtain ⟨i0, hi, hz0, hz1, hz2⟩ := info_parts info60
  have HR := (show Hid (Row w .u32 a cap gb off xs ∧ ∀ i, numOf xs i < 4294967296) from ⟨hR, hx⟩)
  clear hR hx
  go_enter Try.func40, Try.ntmps40
  go_wp2
  go_loopw [3, 4] (fun vl vi wr => ∃ (i : Nat) (L : List Nat) (sa : Option Addr) (cap' : Nat), vi = .int .i64 (i : Int) ∧ vl = .slice sa L.length cap' ∧ i ≤ xs.length ∧ Hid (Coins w wr xs i (.slice sa L.length cap') L)) (fun _ vi _ => xs.length - (intOf vi).toNat)
  case atStart => exact ⟨0, [], none, 0, rfl, rfl, Nat.zero_le _, ⟨⟨rfl, .inl ⟨rfl, rfl⟩⟩, List.Pairwise.nil, List.Perm.refl _, Keep.refl _ _⟩⟩
  case round =>
    obtain ⟨i, L, sa, cap', rfl, rfl, hi2, HC⟩ := hrel
    by_cases hlt : i < xs.length
    · have hRw := HR.out.1.keep HC.out.keep (fun _ h => h)
      obtain rfl : a = some ⟨gb, off, none⟩ := hRw.at_.resolve_right (by rintro rfl; simp at hlt)
      have c1 : wr.cell? ⟨gb, off + i, none⟩ = some (.int .u32 ((numOf xs i : Nat) : Int)) := hRw.cells i hlt
      have hx := HR.out.2 i
      have hs := nz_succ xs i
      have hLi := HC.out.len
      clear hRw
      by_cases h0 : numOf xs i = 0
      · rw [if_pos h0] at hs
        rw [h0] at c1
        have HS := (show Hid _ from hs)
        clear hs
        go_wp2
        go_roundw
        case rel => exact ⟨i + 1, L, sa, cap', by go_num, rfl, by omega, ⟨HC.out.own, HC.out.sorted, by rw [HS.out]; exact HC.out.perm, HC.out.keep⟩⟩
        case measure => simp [intOf]; omega
      · rw [if_neg h0] at hs
        have HS := (show Hid _ from hs)
        have h0I : ¬ ((numOf xs i : Nat) : Int) = 0 := by omega
        have h0B : (((numOf xs i : Nat) : Int) == 0) = false := by simpa using h0I
        clear hs
        generalize numOf xs i = x at c1 hx h0 h0I h0B HS
        have hmax : L.length + 1 ≤ maxLen := by unfold maxLen; omega
        have hby : (L.length + 1) * 8 ≤ 140737488355328 := by omega
        have hsz := HC.out.keep.size
        have hbase : w.heap.size ≤ (wr.alloc (.cells #[.int .u64 (x : Int)] 60)).heap.size := by simp; omega
        go_wp2_with (at_builtin; refine wpList_append_lies _ rfl _ _ 88 rfl w.heap.size 60 i0 (.int .u64 0) 1 8 Try.underlying88 hi hz0 hz1 hz2 rfl (by decide) (.slice sa L.length cap') L.length (u64s L) rfl (HC.out.own.alloc _) ⟨wr.heap.size, 0, none⟩ 1 1 [.int .u64 (x : Int)] rfl rfl (cell_one_new _ _ _) (by simp [Value.oneCell']) (by decide) hmax hby hbase (wr.heap.size + 1) (by simp) ?_; intro g2 cap2 w2 hown2 hgrow hat hltg)
        have hin : CoinsIn w w2 g2 cap2 x L.length L := by
          refine ⟨by rw [insAt_last]; simpa [u64s] using hown2, Nat.le_refl _, fun k h1 h2 => by omega, (HC.out.keep.alloc _).grown hgrow (fun k e hk' => ?_)⟩
          have := (HC.out.own.lt k e).1
          omega
        have HI := (show Hid (CoinsIn w w2 g2 cap2 x L.length L) from hin)
        have HL := (show Hid (L.Pairwise (· ≤ ·) ∧ L.Perm (nz xs i)) from ⟨HC.out.sorted, HC.out.perm⟩)
        clear hin hown2 hgrow hat hltg HC hbase hmax hby c1
        go_loopw [5] (fun vj wr => ∃ j : Nat, vj = .int .i64 (j : Int) ∧ j ≤ L.length ∧ Hid (CoinsIn w wr g2 cap2 x j L)) (fun vj _ => (intOf vj).toNat)
        case atStart => exact ⟨L.length, by go_num, Nat.le_refl _, HI.out⟩
        case round =>
          clear HI
          obtain ⟨j, rfl, hj, HJ⟩ := hrel
          have hfin : (j = 0 ∨ L[j - 1]?.getD 0 ≤ x) → ∀ nq, Coins w (wr.drewN nq) xs (i + 1) (.slice (some ⟨g2, 0, none⟩) (insAt L x j).length cap2) (insAt L x j) := by
            intro h nq
            refine ⟨?_, insAt_sorted L x j HL.out.1 hj h HJ.out.above, ?_, HJ.out.keep.trans' (keep_drewN _ _)⟩
            · rw [insAt_length]; exact owns_keep HJ.out.own (keep_drewN _ _) (fun _ _ h => h)
            · rw [HS.out]
              refine (insAt_perm L x j).trans ((HL.out.2.cons x).trans ?_)
              exact (List.perm_append_comm (l₁ := [x]) (l₂ := nz xs i))
          have HF := (show Hid _ from hfin)
          clear hfin
          by_cases hj0 : j = 0
          · have hj0I : ¬ (0 : Int) < (j : Int) := by omega
            have hj0B : decide ((0 : Int) < (j : Int)) = false := decide_eq_false hj0I
            go_wp2_with fail
            go_quiet (fail)
            go_wp2
            go_roundw
            case rel => exact ⟨i + 1, insAt L x j, _, _, by go_num, by rw [insAt_length], by omega, HF.out (.inl hj0) _⟩
            case measure => simp [intOf]; omega
          · have hj0I : (0 : Int) < (j : Int) := by omega
            have hj0B : decide ((0 : Int) < (j : Int)) = true := decide_eq_true hj0I
            have hj0N : decide (0 < j) = true := decide_eq_true (by omega)
            have c2 := HJ.out.cell j hj
            have c3 := HJ.out.cell (j - 1) (by omega)
            rw [insAt_at L x j hj] at c2
            rw [insAt_before L x j (by omega) hj] at c3
            obtain ⟨k, hk⟩ : ∃ k, k = j - 1 := ⟨_, rfl⟩
            have hjk : (j : Int) - 1 = (k : Int) := by omega
            have hkl : k < L.length := by omega
            obtain ⟨y, hy⟩ : ∃ y, y = L[j - 1]?.getD 0 := ⟨_, rfl⟩
            rw [← hy, ← hk] at c3
            by_cases hxy : x < y
            · have hxyB : decide ((x : Int) < (y : Int)) = true := decide_eq_true (by omega)
              have hxyI : (x : Int) < (y : Int) := by omega
              have hxyN : decide (x < y) = true := decide_eq_true hxy
              have hkj : ¬ j = k := by omega
              have hkj' : ¬ k = j := by omega
              have HY := (show Hid (y = L[j - 1]?.getD 0 ∧ k = j - 1) from ⟨hy, hk⟩)
              clear hk hy HF
              go_wp2_with fail
              go_quiet (fail)
              obtain ⟨hgb, cs, hcs, hcl⟩ := HJ.out.obj
              have c2' : (wr.drewN nq).cell? ⟨g2, j, none⟩ = some (.int .u64 (x : Int)) := c2
              have c3' : (wr.drewN nq).cell? ⟨g2, k, none⟩ = some (.int .u64 (y : Int)) := c3
              have f1 : (wr.drewN nq).frozen? ⟨g2, j, none⟩ = false := frozen_of hcs j
              have f2 : (wr.drewN nq).frozen? ⟨g2, k, none⟩ = false := frozen_of hcs k
              have hJ' : CoinsIn w (wr.drewN nq) g2 cap2 x j L := ⟨owns_keep HJ.out.own (keep_drewN _ _) (fun _ _ h => h), HJ.out.le, HJ.out.above, HJ.out.keep.trans' (keep_drewN _ _)⟩
              have hsw := hJ'.swap (by omega) (by rw [← HY.out.1]; exact hxy)
              rw [← HY.out.1, ← HY.out.2] at hsw
              have HW := (show Hid (CoinsIn _ _ _ _ _ _ _ ∧ k = j - 1) from ⟨hsw, HY.out.2⟩)
              clear hsw HJ c2 c3 hJ' hcs hcl HY
              generalize wr.drewN nq = wq at c2' c3' f1 f2 HW ⊢
              go_wp2
              go_roundw
              case rel => exact ⟨k, by go_num, by omega, HW.out.1⟩
              case measure => simp [intOf]; omega
            · have hxyB : decide ((x : Int) < (y : Int)) = false := decide_eq_false (by omega)
              have hxyI : ¬ (x : Int) < (y : Int) := by omega
              have hxyN : decide (x < y) = false := decide_eq_false hxy
              have HY := (show Hid _ from hy)
              clear hy hk
              go_wp2_with fail
              go_quiet (fail)
              go_wp2
              go_roundw
              case rel => exact ⟨i + 1, insAt L x j, _, _, by go_num, by rw [insAt_length], by omega, HF.out (.inr (by rw [← HY.out]; omega)) _⟩
              case measure => simp [intOf]; omega
    · obtain rfl : i = xs.length := by omega
      go_wp2
      go_ret
      exact ⟨_, L, rfl, HC.out⟩

end Go.Proofs.Ytapcohpagipkpaa
