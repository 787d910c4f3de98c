/-
  order: the places of the numbers that are not 0, the least number's first.
-/
import Derived.Test.YtapcohpagipkpaaStable
import Derived.Test.YtapcohpagipkpaaCmp
import Derived.Deep.OwnRows
namespace Go.Proofs.Ytapcohpagipkpaa
open Go.RowKit Go.Shelf

/-- P has the places below n whose number is not 0, in the order of their numbers, equal ones as they come. -/
structure IsOrder (K : Nat → Nat) (n : Nat) (P : List Nat) : Prop where
  sorted : P.Pairwise (Lx K)
  mem : ∀ x, x ∈ P ↔ x < n ∧ K x ≠ 0
  len : P.length = ((List.range n).filter (fun i => K i != 0)).length

/-- Such a row is one alone. -/
theorem sorted_same {K : Nat → Nat} : ∀ {P Q : List Nat}, P.Pairwise (Lx K) → Q.Pairwise (Lx K) → (∀ x, x ∈ P ↔ x ∈ Q) → P = Q
  | [], [], _, _, _ => rfl
  | [], q :: Q, _, _, h => absurd ((h q).2 (List.mem_cons_self ..)) (by simp)
  | p :: P, [], _, _, h => absurd ((h p).1 (List.mem_cons_self ..)) (by simp)
  | p :: P, q :: Q, hp, hq, h => by
    obtain ⟨hp1, hp2⟩ := List.pairwise_cons.1 hp
    obtain ⟨hq1, hq2⟩ := List.pairwise_cons.1 hq
    have e : p = q := by
      rcases List.mem_cons.1 ((h p).1 (List.mem_cons_self ..)) with e | e
      · exact e
      · rcases List.mem_cons.1 ((h q).2 (List.mem_cons_self ..)) with e' | e'
        · exact e'.symm
        · exact ((hq1 p e).trans (hp1 q e')).irrefl.elim
    subst e
    rw [sorted_same hp2 hq2 (fun x => ⟨fun hx => ?_, fun hx => ?_⟩)]
    · rcases List.mem_cons.1 ((h x).1 (List.mem_cons_of_mem _ hx)) with e | e
      · subst e; exact (hp1 x hx).irrefl.elim
      · exact e
    · rcases List.mem_cons.1 ((h x).2 (List.mem_cons_of_mem _ hx)) with e | e
      · subst e; exact (hq1 x hx).irrefl.elim
      · exact e
theorem IsOrder.same {K : Nat → Nat} {n : Nat} {P Q : List Nat} (h : IsOrder K n P) (k : IsOrder K n Q) : P = Q :=
  sorted_same h.sorted k.sorted (fun x => (h.mem x).trans (k.mem x).symm)

/-- The places below i whose number is not 0. -/
def placesTo (K : Nat → Nat) (i : Nat) : List Nat := (List.range i).filter (fun j => K j != 0)
theorem placesTo_succ (K : Nat → Nat) (i : Nat) : placesTo K (i + 1) = if K i = 0 then placesTo K i else placesTo K i ++ [i] := by
  unfold placesTo
  rw [List.range_succ, List.filter_append]
  by_cases h : K i = 0
  · simp [h]
  · simp [h]
theorem placesTo_len (K : Nat → Nat) (i : Nat) : (placesTo K i).length ≤ i := by
  unfold placesTo
  exact Nat.le_trans (List.length_filter_le _ _) (by simp)
theorem placesTo_mem (K : Nat → Nat) (i x : Nat) : x ∈ placesTo K i ↔ x < i ∧ K x ≠ 0 := by simp [placesTo]
theorem placesTo_inc (K : Nat → Nat) (i : Nat) : (placesTo K i).Pairwise (· < ·) := List.Pairwise.sublist List.filter_sublist List.pairwise_lt_range

def ints (P : List Nat) : List Value := P.map (fun p => Value.int .i64 ((p : Nat) : Int))
theorem ints_at (P : List Nat) (j : Nat) (hj : j < P.length) : (ints P)[j]? = some (.int .i64 ((P[j]?.getD 0 : Nat) : Int)) := by simp [ints, hj]
theorem info3 : (Try.prog.info? 3).map (fun i => (i.zero, i.size, i.bytes)) = some (some (.int .i64 0), 1, 8) := by kernel_rfl

/-- An order out of a row that was sorted. -/
theorem order_of (K f' : Nat → Nat) (n : Nat) (hp : PermOn 0 (placesTo K n).length (fun i => (placesTo K n)[i]?.getD 0) f') (hs : SortedOn K f' 0 (placesTo K n).length) :
    IsOrder K n ((List.range (placesTo K n).length).map f') := by
  refine ⟨?_, fun x => ?_, by simp [placesTo]⟩
  · rw [List.pairwise_map]
    refine List.Pairwise.imp_of_mem ?_ List.pairwise_lt_range
    intro a b ha hb hab
    exact hs a b (Nat.zero_le _) hab (List.mem_range.1 hb)
  · rw [← placesTo_mem, List.mem_map]
    constructor
    · rintro ⟨k, hk, rfl⟩
      obtain ⟨i, _, hi, e⟩ := hp.inn k (Nat.zero_le _) (List.mem_range.1 hk)
      rw [e, List.getElem?_eq_getElem hi]
      exact List.getElem_mem hi
    · intro hx
      obtain ⟨i, hi, e⟩ := List.mem_iff_getElem.1 hx
      obtain ⟨s, t, p1, p2, p3, p4⟩ := hp
      refine ⟨t i, ?_, ?_⟩
      · rw [List.mem_range]
        by_cases h : t i < (placesTo K n).length
        · exact h
        · have := p4 (t i) (by omega)
          rw [p2] at this
          omega
      · rw [p1, p2]
        simp [hi, e]

/-- What a made row holds at its first so many places. -/
theorem owns_cell {W : World} {base g cap : Nat} {P : List Nat} (h : W.ownsRow base 3 1 (.slice (some ⟨g, 0, none⟩) P.length cap) P.length (ints P)) :
    ∃ cs, W.heap[g]? = some (.cells cs 3 (0, 0)) ∧ P.length ≤ cap ∧ base ≤ g ∧ ∀ i, i < P.length → cs[i]? = some (.int .i64 ((P[i]?.getD 0 : Nat) : Int)) := by
  rcases h.2 with ⟨e, _⟩ | ⟨g', cap', cur, e, hb, hg, h1, h2, h3, h4⟩
  · cases e
  · simp only [Value.slice.injEq, Option.some.injEq, Addr.mk.injEq] at e
    obtain ⟨⟨rfl, _⟩, _, rfl⟩ := e
    refine ⟨cur, hg, h1, hb, fun i hi => ?_⟩
    have := ints_at P i hi
    rw [← h4, List.getElem?_take, if_pos (by omega)] at this
    simpa using this

set_option maxRecDepth 100000 in
set_option maxHeartbeats 2000000 in
theorem order8_any (a : Option Addr) (cap gb off : Nat) (xs : List Nat) (w : World) (hR : Row w .u8 a cap gb off xs) (hl : xs.length ≤ 1024) :
    Calls Try.prog 27 #[.slice a xs.length cap] w fun e w' => ∃ g cap' P, e = .returned (.slice (some ⟨g, 0, none⟩) P.length cap') ∧ w.heap.size ≤ g ∧ g < w'.heap.size ∧ Row w' .i64 (some ⟨g, 0, none⟩) cap' g 0 P ∧ IsOrder (numOf xs) xs.length P ∧ Keep noBlock w w' := by
  obtain ⟨i0, hi, hz0, hz1, hz2⟩ := info_parts info3
  have hmk : ∀ W : World, (Instr.makeSlice 23 (.int .i64 0) (.int .i64 (xs.length : Int))).run Try.prog W = .ok (.slice (some ⟨W.heap.size, 0, none⟩) 0 xs.length) (W.alloc (.cells (madeCells #[.int .i64 0] xs.length) 3)) := fun W => by
    have := run_make (P := Try.prog) W 23 3 i0 (.int .i64 0) Try.underlying23 hi hz0 .i64 .i64 0 (xs.length : Int) (by omega) (by omega) (by rw [hz2]; omega) (by omega)
    rw [hz1] at this
    simpa [Value.cells] using this
  have hown0 : ((w.alloc (.cells #[.slice a xs.length cap] 22)).alloc (.cells (madeCells #[.int .i64 0] xs.length) 3)).ownsRow (w.heap.size + 1) 3 1 (.slice (some ⟨w.heap.size + 1, 0, none⟩) 0 xs.length) 0 [] := by
    have := World.ownsRow_made (e := 3) (size := 1) (base := w.heap.size + 1) (w.alloc (.cells #[.slice a xs.length cap] 22)) (madeCells #[.int .i64 0] xs.length) xs.length (by simp) (by unfold maxLen; omega) (by simp [size_madeCells])
    simpa using this
  have hk0 : Keep noBlock w ((w.alloc (.cells #[.slice a xs.length cap] 22)).alloc (.cells (madeCells #[.int .i64 0] xs.length) 3)) := ((Keep.refl _ w).alloc _).alloc _
  have hb0 : ((w.alloc (.cells #[.slice a xs.length cap] 22)).alloc (.cells (madeCells #[.int .i64 0] xs.length) 3)).heap[w.heap.size]? = some (.cells #[.slice a xs.length cap] 22 (0, 0)) := alloc_far (World.alloc_heap_new w _) _
  have hcb := cell_of (World.alloc_heap_new w (.cells #[.slice a xs.length cap] 22)) 0
  have hcb2 := cell_of hb0 0
  simp at hcb hcb2
  have HR := (show Hid (Row w .u8 a cap gb off xs) from hR)
  clear hR
  go_enter Try.func27, Try.ntmps27
  go_wp2
  have H0 := (show Hid (_ ∧ _ ∧ _) from ⟨hown0, hk0, hb0⟩)
  clear hown0 hk0 hb0 hcb hcb2
  generalize (w.alloc (.cells #[.slice a xs.length cap] 22)).alloc (.cells (madeCells #[.int .i64 0] xs.length) 3) = W0 at H0 ⊢
  go_loopw [3, 11] (fun vp vi wr => ∃ (i g cap' : Nat) (P : List Nat), vi = .int .i64 (i : Int) ∧ vp = .slice (some ⟨g, 0, none⟩) P.length cap' ∧ i ≤ xs.length ∧ P = placesTo (numOf xs) i ∧ wr.ownsRow (w.heap.size + 1) 3 1 (.slice (some ⟨g, 0, none⟩) P.length cap') P.length (ints P) ∧ Keep noBlock w wr ∧ wr.heap[w.heap.size]? = some (.cells #[.slice a xs.length cap] 22 (0, 0))) (fun _ vi _ => xs.length - (intOf vi).toNat)
  case atStart => exact ⟨0, w.heap.size + 1, xs.length, [], rfl, rfl, Nat.zero_le _, rfl, H0.out.1, H0.out.2.1, H0.out.2.2⟩
  case round =>
    clear H0
    obtain ⟨i, g, cap', P, rfl, rfl, hi2, hP, hown, hk, hbx⟩ := hrel
    by_cases hlt : i < xs.length
    · have hRw := HR.out.keep hk (fun _ h => h)
      obtain rfl : a = some ⟨gb, off, none⟩ := by
        rcases hRw.at_ with h | h
        · exact h
        · rw [h] at hlt; simp at hlt
      have c1 := hRw.cells i hlt
      have hPl := placesTo_len (numOf xs) i
      rw [← hP] at hPl
      have hPs := placesTo_succ (numOf xs) i
      rw [← hP] at hPs
      have hnum : xs[i]?.getD 0 = numOf xs i := rfl
      rw [hnum] at c1
      by_cases hz : numOf xs i = 0
      · rw [if_pos hz] at hPs
        rw [hz] at c1
        have HP := (show Hid _ from hPs)
        clear hPs hP hnum hRw
        go_wp2
        go_roundw
        case rel => exact ⟨i + 1, g, cap', P, by go_num, rfl, by omega, HP.out.symm, hown, hk, hbx⟩
        case measure => simp [intOf]; omega
      · rw [if_neg hz] at hPs
        have HP := (show Hid _ from hPs)
        have hnz : ((numOf xs i : Nat) : Int) ≠ 0 := by omega
        have hnb : (((numOf xs i : Nat) : Int) != 0) = true := by simpa using hnz
        have hmax : P.length + 1 ≤ maxLen := by unfold maxLen; omega
        have hby : (P.length + 1) * 8 ≤ 140737488355328 := by omega
        have hsz := hk.size
        have hbase : w.heap.size + 1 ≤ (wr.alloc (.cells #[.int .i64 (i : Int)] 3)).heap.size := by simp; omega
        clear hPs hP hnum hRw
        go_wp2_with (at_builtin; refine wpList_append_lies _ rfl _ _ 23 rfl (w.heap.size + 1) 3 i0 (.int .i64 0) 1 8 Try.underlying23 hi hz0 hz1 hz2 rfl (by decide) (.slice (some ⟨g, 0, none⟩) P.length cap') P.length (ints P) rfl (hown.alloc _) ⟨wr.heap.size, 0, none⟩ 1 1 [.int .i64 (i : Int)] rfl rfl (cell_one_new _ _ _) (by simp [Value.oneCell']) (by decide) hmax hby hbase (wr.heap.size + 1) (by simp) ?_; intro g2 cap2 w2 hown2 hgrow hat hltg)
        go_roundw
        case rel =>
          obtain ⟨cs, hcg, _, hbg, _⟩ := owns_cell hown
          refine ⟨i + 1, g2, cap2, P ++ [i], by go_num, by simp, by omega, HP.out.symm, by simpa [ints] using hown2, (hk.alloc _).grown hgrow (fun k e hk' => ?_), ?_⟩
          · have : g = k := by simpa [Value.ownBlock] using e
            omega
          · refine (hgrow.block _ (by simp; omega) (fun e => ?_)).trans (alloc_far hbx _)
            have : w.heap.size = g := by simpa [Value.ownBlock] using e
            omega
        case measure => simp [intOf]; omega
    · obtain rfl : i = xs.length := by omega
      obtain ⟨cs, hcg, hle, hbg, hcs⟩ := owns_cell hown
      have hlen := placesTo_len (numOf xs) xs.length
      have hsub : ∀ x ∈ P, x < xs.length := by rw [hP]; intro x hx; exact ((placesTo_mem _ _ _).1 hx).1
      have hDS : DS wr wr g P.length xs.length (fun i => P[i]?.getD 0) := ⟨⟨cs, hcg, hcs⟩, Keep.refl _ _, fun i hi => hsub _ (by rw [List.getElem?_eq_getElem hi]; exact List.getElem_mem hi)⟩
      have hgb : xs ≠ [] → gb ≠ g := fun hne => by have := HR.out.block hne; omega
      have hC := cmpOk8 w.heap.size cap gb off g a xs wr hbx (HR.out.keep hk (fun _ h => h)) (by omega) hgb
      have hinc : ∀ i j, i < j → j < P.length → P[i]?.getD 0 < P[j]?.getD 0 := fun i j h1 h2 => by
        have := List.pairwise_iff_getElem.1 (placesTo_inc (numOf xs) xs.length)
        rw [← hP] at this
        rw [List.getElem?_eq_getElem h2, List.getElem?_eq_getElem (show i < P.length by omega)]
        exact this i j (by omega) h2 h1
      have HC := (show Hid (CmpOk wr g xs.length (numOf xs) 43 w.heap.size ∧ (∀ i j, i < j → j < P.length → P[i]?.getD 0 < P[j]?.getD 0) ∧ P = placesTo (numOf xs) xs.length) from ⟨hC, hinc, hP⟩)
      have hPl : P.length ≤ 1024 := by rw [hP]; omega
      clear hC hinc hcs hcg hown hP hlen
      go_wp2_with fail
      refine (sortStable_any g P.length cap' xs.length 43 w.heap.size (numOf xs) (fun i => P[i]?.getD 0) wr _ hDS HC.out.1 hPl HC.out.2.1).mono ?_
      rintro e w1 ⟨rfl, f', hd1, hp1, hs1⟩
      go_wp2
      go_ret
      obtain ⟨cs', ho', hc'⟩ := hd1.row
      have hPe := HC.out.2.2
      have hlen' : ((List.range P.length).map f').length = P.length := by simp
      refine ⟨g, cap', (List.range P.length).map f', by simp, by omega, obj_lt ho', ⟨.inl rfl, fun j hj => ?_, by rw [hlen']; exact hle⟩, ?_, hk.trans hd1.keep (fun i hi e => by omega)⟩
      · rw [hlen'] at hj
        rw [Nat.zero_add, cell_of ho', hc' j hj]
        simp [hj]
      · rw [hPe] at hp1 hs1 ⊢
        exact order_of (numOf xs) f' xs.length hp1 hs1

set_option maxRecDepth 100000 in
set_option maxHeartbeats 2000000 in
theorem order32_any (a : Option Addr) (cap gb off : Nat) (xs : List Nat) (w : World) (hR : Row w .u32 a cap gb off xs) (hl : xs.length ≤ 1024) :
    Calls Try.prog 38 #[.slice a xs.length cap] w fun e w' => ∃ g cap' P, e = .returned (.slice (some ⟨g, 0, none⟩) P.length cap') ∧ w.heap.size ≤ g ∧ g < w'.heap.size ∧ Row w' .i64 (some ⟨g, 0, none⟩) cap' g 0 P ∧ IsOrder (numOf xs) xs.length P ∧ Keep noBlock w w' := by
  obtain ⟨i0, hi, hz0, hz1, hz2⟩ := info_parts info3
  have hmk : ∀ W : World, (Instr.makeSlice 23 (.int .i64 0) (.int .i64 (xs.length : Int))).run Try.prog W = .ok (.slice (some ⟨W.heap.size, 0, none⟩) 0 xs.length) (W.alloc (.cells (madeCells #[.int .i64 0] xs.length) 3)) := fun W => by
    have := run_make (P := Try.prog) W 23 3 i0 (.int .i64 0) Try.underlying23 hi hz0 .i64 .i64 0 (xs.length : Int) (by omega) (by omega) (by rw [hz2]; omega) (by omega)
    rw [hz1] at this
    simpa [Value.cells] using this
  have hown0 : ((w.alloc (.cells #[.slice a xs.length cap] 54)).alloc (.cells (madeCells #[.int .i64 0] xs.length) 3)).ownsRow (w.heap.size + 1) 3 1 (.slice (some ⟨w.heap.size + 1, 0, none⟩) 0 xs.length) 0 [] := by
    have := World.ownsRow_made (e := 3) (size := 1) (base := w.heap.size + 1) (w.alloc (.cells #[.slice a xs.length cap] 54)) (madeCells #[.int .i64 0] xs.length) xs.length (by simp) (by unfold maxLen; omega) (by simp [size_madeCells])
    simpa using this
  have hk0 : Keep noBlock w ((w.alloc (.cells #[.slice a xs.length cap] 54)).alloc (.cells (madeCells #[.int .i64 0] xs.length) 3)) := ((Keep.refl _ w).alloc _).alloc _
  have hb0 : ((w.alloc (.cells #[.slice a xs.length cap] 54)).alloc (.cells (madeCells #[.int .i64 0] xs.length) 3)).heap[w.heap.size]? = some (.cells #[.slice a xs.length cap] 54 (0, 0)) := alloc_far (World.alloc_heap_new w _) _
  have hcb := cell_of (World.alloc_heap_new w (.cells #[.slice a xs.length cap] 54)) 0
  have hcb2 := cell_of hb0 0
  simp at hcb hcb2
  have HR := (show Hid (Row w .u32 a cap gb off xs) from hR)
  clear hR
  go_enter Try.func38, Try.ntmps38
  go_wp2
  have H0 := (show Hid (_ ∧ _ ∧ _) from ⟨hown0, hk0, hb0⟩)
  clear hown0 hk0 hb0 hcb hcb2
  generalize (w.alloc (.cells #[.slice a xs.length cap] 54)).alloc (.cells (madeCells #[.int .i64 0] xs.length) 3) = W0 at H0 ⊢
  go_loopw [3, 11] (fun vp vi wr => ∃ (i g cap' : Nat) (P : List Nat), vi = .int .i64 (i : Int) ∧ vp = .slice (some ⟨g, 0, none⟩) P.length cap' ∧ i ≤ xs.length ∧ P = placesTo (numOf xs) i ∧ wr.ownsRow (w.heap.size + 1) 3 1 (.slice (some ⟨g, 0, none⟩) P.length cap') P.length (ints P) ∧ Keep noBlock w wr ∧ wr.heap[w.heap.size]? = some (.cells #[.slice a xs.length cap] 54 (0, 0))) (fun _ vi _ => xs.length - (intOf vi).toNat)
  case atStart => exact ⟨0, w.heap.size + 1, xs.length, [], rfl, rfl, Nat.zero_le _, rfl, H0.out.1, H0.out.2.1, H0.out.2.2⟩
  case round =>
    clear H0
    obtain ⟨i, g, cap', P, rfl, rfl, hi2, hP, hown, hk, hbx⟩ := hrel
    by_cases hlt : i < xs.length
    · have hRw := HR.out.keep hk (fun _ h => h)
      obtain rfl : a = some ⟨gb, off, none⟩ := by
        rcases hRw.at_ with h | h
        · exact h
        · rw [h] at hlt; simp at hlt
      have c1 := hRw.cells i hlt
      have hPl := placesTo_len (numOf xs) i
      rw [← hP] at hPl
      have hPs := placesTo_succ (numOf xs) i
      rw [← hP] at hPs
      have hnum : xs[i]?.getD 0 = numOf xs i := rfl
      rw [hnum] at c1
      by_cases hz : numOf xs i = 0
      · rw [if_pos hz] at hPs
        rw [hz] at c1
        have HP := (show Hid _ from hPs)
        clear hPs hP hnum hRw
        go_wp2
        go_roundw
        case rel => exact ⟨i + 1, g, cap', P, by go_num, rfl, by omega, HP.out.symm, hown, hk, hbx⟩
        case measure => simp [intOf]; omega
      · rw [if_neg hz] at hPs
        have HP := (show Hid _ from hPs)
        have hnz : ((numOf xs i : Nat) : Int) ≠ 0 := by omega
        have hnb : (((numOf xs i : Nat) : Int) != 0) = true := by simpa using hnz
        have hmax : P.length + 1 ≤ maxLen := by unfold maxLen; omega
        have hby : (P.length + 1) * 8 ≤ 140737488355328 := by omega
        have hsz := hk.size
        have hbase : w.heap.size + 1 ≤ (wr.alloc (.cells #[.int .i64 (i : Int)] 3)).heap.size := by simp; omega
        clear hPs hP hnum hRw
        go_wp2_with (at_builtin; refine wpList_append_lies _ rfl _ _ 23 rfl (w.heap.size + 1) 3 i0 (.int .i64 0) 1 8 Try.underlying23 hi hz0 hz1 hz2 rfl (by decide) (.slice (some ⟨g, 0, none⟩) P.length cap') P.length (ints P) rfl (hown.alloc _) ⟨wr.heap.size, 0, none⟩ 1 1 [.int .i64 (i : Int)] rfl rfl (cell_one_new _ _ _) (by simp [Value.oneCell']) (by decide) hmax hby hbase (wr.heap.size + 1) (by simp) ?_; intro g2 cap2 w2 hown2 hgrow hat hltg)
        go_roundw
        case rel =>
          obtain ⟨cs, hcg, _, hbg, _⟩ := owns_cell hown
          refine ⟨i + 1, g2, cap2, P ++ [i], by go_num, by simp, by omega, HP.out.symm, by simpa [ints] using hown2, (hk.alloc _).grown hgrow (fun k e hk' => ?_), ?_⟩
          · have : g = k := by simpa [Value.ownBlock] using e
            omega
          · refine (hgrow.block _ (by simp; omega) (fun e => ?_)).trans (alloc_far hbx _)
            have : w.heap.size = g := by simpa [Value.ownBlock] using e
            omega
        case measure => simp [intOf]; omega
    · obtain rfl : i = xs.length := by omega
      obtain ⟨cs, hcg, hle, hbg, hcs⟩ := owns_cell hown
      have hlen := placesTo_len (numOf xs) xs.length
      have hsub : ∀ x ∈ P, x < xs.length := by rw [hP]; intro x hx; exact ((placesTo_mem _ _ _).1 hx).1
      have hDS : DS wr wr g P.length xs.length (fun i => P[i]?.getD 0) := ⟨⟨cs, hcg, hcs⟩, Keep.refl _ _, fun i hi => hsub _ (by rw [List.getElem?_eq_getElem hi]; exact List.getElem_mem hi)⟩
      have hgb : xs ≠ [] → gb ≠ g := fun hne => by have := HR.out.block hne; omega
      have hC := cmpOk32 w.heap.size cap gb off g a xs wr hbx (HR.out.keep hk (fun _ h => h)) (by omega) hgb
      have hinc : ∀ i j, i < j → j < P.length → P[i]?.getD 0 < P[j]?.getD 0 := fun i j h1 h2 => by
        have := List.pairwise_iff_getElem.1 (placesTo_inc (numOf xs) xs.length)
        rw [← hP] at this
        rw [List.getElem?_eq_getElem h2, List.getElem?_eq_getElem (show i < P.length by omega)]
        exact this i j (by omega) h2 h1
      have HC := (show Hid (CmpOk wr g xs.length (numOf xs) 54 w.heap.size ∧ (∀ i j, i < j → j < P.length → P[i]?.getD 0 < P[j]?.getD 0) ∧ P = placesTo (numOf xs) xs.length) from ⟨hC, hinc, hP⟩)
      have hPl : P.length ≤ 1024 := by rw [hP]; omega
      clear hC hinc hcs hcg hown hP hlen
      go_wp2_with fail
      refine (sortStable_any g P.length cap' xs.length 54 w.heap.size (numOf xs) (fun i => P[i]?.getD 0) wr _ hDS HC.out.1 hPl HC.out.2.1).mono ?_
      rintro e w1 ⟨rfl, f', hd1, hp1, hs1⟩
      go_wp2
      go_ret
      obtain ⟨cs', ho', hc'⟩ := hd1.row
      have hPe := HC.out.2.2
      have hlen' : ((List.range P.length).map f').length = P.length := by simp
      refine ⟨g, cap', (List.range P.length).map f', by simp, by omega, obj_lt ho', ⟨.inl rfl, fun j hj => ?_, by rw [hlen']; exact hle⟩, ?_, hk.trans hd1.keep (fun i hi e => by omega)⟩
      · rw [hlen'] at hj
        rw [Nat.zero_add, cell_of ho', hc' j hj]
        simp [hj]
      · rw [hPe] at hp1 hs1 ⊢
        exact order_of (numOf xs) f' xs.length hp1 hs1

end Go.Proofs.Ytapcohpagipkpaa
