/-
  Table of counts: the cells of all states, or ErrCounts.
-/
import Derived.Test.YtoffnhbopjaocaaNxt
namespace Go.Proofs.Ytoffnhbopjaocaa
open Go.RowKit Go.Shelf

/-- The slice at block g reads as n cells. -/
structure RowT (w : World) (g n : Nat) (sy bi ba : Nat → Nat) : Prop where
  cells : ∀ i, i < n → w.cell? ⟨g, i * 3, none⟩ = some (.int .u8 ((sy i : Nat) : Int)) ∧ w.cell? ⟨g, i * 3 + 1, none⟩ = some (.int .u8 ((bi i : Nat) : Int)) ∧ w.cell? ⟨g, i * 3 + 2, none⟩ = some (.int .u16 ((ba i : Nat) : Int))
  lt : g < w.heap.size
theorem RowT.keep {w w' : World} {S : Nat → Prop} {g n : Nat} {sy bi ba : Nat → Nat} (h : RowT w g n sy bi ba) (hk : Keep S w w') (hS : ¬ S g) : RowT w' g n sy bi ba := by
  have e := hk.block g h.lt hS
  refine ⟨fun i hi => ?_, Nat.lt_of_lt_of_le h.lt hk.size⟩
  obtain ⟨a, b, c⟩ := h.cells i hi
  exact ⟨(World.cell?_of_block e).trans a, (World.cell?_of_block e).trans b, (World.cell?_of_block e).trans c⟩

theorem info50 : (Try.prog.info? 50).map (fun i => (i.zero, i.size, i.bytes)) = some (some (.agg #[.int .u8 0, .int .u8 0, .int .u16 0]), 3, 4) := by kernel_rfl

/-- What is read of the first n cells of an array. -/
theorem IsT.list {w : World} {b t N : Nat} {sy bi ba : Nat → Nat} (h : IsT w b t N sy bi ba) (n : Nat) (hn : n ≤ N) :
    ∃ L : List Value, L.length = n * 3 ∧ (∀ j u, L[j]? = some u → w.cell? ⟨b, j, none⟩ = some u) ∧ (∀ u ∈ L, u.oneCell' = true) ∧ ∀ i, i < n → L[i * 3]? = some (.int .u8 ((sy i : Nat) : Int)) ∧ L[i * 3 + 1]? = some (.int .u8 ((bi i : Nat) : Int)) ∧ L[i * 3 + 2]? = some (.int .u16 ((ba i : Nat) : Int)) := by
  obtain ⟨cs, h1, h2, h3⟩ := h.obj
  have hat : ∀ j, j < n * 3 → (cs.toList.take (n * 3))[j]? = cs[j]? := fun j hj => by
    rw [List.getElem?_take, if_pos hj]; simp
  have hlen : (cs.toList.take (n * 3)).length = n * 3 := by rw [List.length_take, Array.length_toList, h2]; omega
  refine ⟨cs.toList.take (n * 3), hlen, fun j u hu => ?_, fun u hu => ?_, fun i hi => ?_⟩
  · have hj : j < n * 3 := by rw [← hlen]; exact (List.getElem?_eq_some_iff.1 hu).1
    rw [hat j hj] at hu
    rw [cell_of h1, hu]
  · obtain ⟨j, hj, e⟩ := List.getElem_of_mem hu
    rw [hlen] at hj
    have e2 := hat j hj
    rw [List.getElem?_eq_getElem (by rw [hlen]; exact hj), e] at e2
    obtain ⟨d1, d2, d3⟩ := h3 (j / 3) (by omega)
    have hj3 : j = j / 3 * 3 ∨ j = j / 3 * 3 + 1 ∨ j = j / 3 * 3 + 2 := by omega
    rcases hj3 with hj3 | hj3 | hj3
    · rw [← hj3, ← e2] at d1; cases d1; rfl
    · rw [← hj3, ← e2] at d2; cases d2; rfl
    · rw [← hj3, ← e2] at d3; cases d3; rfl
  · rw [hat _ (by omega), hat _ (by omega), hat _ (by omega)]
    exact h3 i (by omega)

set_option maxHeartbeats 1000000 in
/-- slices.Clone of cells: the same cells in memory of its own. -/
theorem clone39_any (cb n cap : Nat) (sy bi ba : Nat → Nat) (hn : n ≤ 4096) (w : World) (h : IsT w cb 71 4096 sy bi ba) :
    Calls Try.prog 39 #[.slice (some ⟨cb, 0, none⟩) n cap] w fun e w' => ∃ g cap', e = .returned (.slice (some ⟨g, 0, none⟩) n cap') ∧ w.heap.size ≤ g ∧ n ≤ cap' ∧ RowT w' g n sy bi ba ∧ Keep noBlock w w' := by
  obtain ⟨i0, hi, hz0, hz1, hz2⟩ := info_parts info50
  obtain ⟨L, l1, l2, l3, l4⟩ := h.list n hn
  have hmax : n ≤ maxLen := by unfold maxLen; omega
  have hby : n * 4 ≤ 140737488355328 := by omega
  have heq := fun (w : World) (a : Option Addr) (n c n' c' : Nat) => Lib.run_eql_slice_nil (P := Try.prog) w 27 50 a n c n' c' Try.underlying27
  have hlt := h.lt
  have hown := World.ownsRow_made (e := 50) (size := 3) (base := w.heap.size) w #[] 0 (Nat.le_refl _) (Nat.zero_le _) rfl
  have hc' : ∀ j u, L[j]? = some u → (w.alloc (.cells #[] 50)).cell? ((⟨cb, 0, none⟩ : Addr).add j) = some u := fun j u hu => by
    rw [add0]
    exact (World.cell?_of_block (Below.heap_alloc _ _ _ hlt)).trans (l2 j u hu)
  have HL := (show Hid (∀ i, i < n → L[i * 3]? = some (.int .u8 ((sy i : Nat) : Int)) ∧ L[i * 3 + 1]? = some (.int .u8 ((bi i : Nat) : Int)) ∧ L[i * 3 + 2]? = some (.int .u16 ((ba i : Nat) : Int))) from l4)
  clear l2 l4
  go_enter Try.func39, Try.ntmps39
  go_wp2_with (at_builtin; refine wpList_append_own _ rfl _ _ 27 rfl w.heap.size 50 i0 (.agg #[.int .u8 0, .int .u8 0, .int .u16 0]) 3 4 Try.underlying27 hi hz0 hz1 hz2 rfl (by decide) (.slice (some ⟨w.heap.size, 0, none⟩) 0 0) 0 [] rfl hown ⟨cb, 0, none⟩ n cap L rfl l1 hc' l3 (by omega) (by omega) (by simp) ?_; intro v' w1 hown' hgrow hnil)
  go_ret
  have hk : Keep noBlock w w1 := ((Keep.refl _ w).alloc _).grown hgrow (fun k e hk => by
    have e' : w.heap.size = k := by simpa [Value.ownBlock] using e
    omega)
  rw [List.nil_append, Nat.zero_add] at hown'
  rcases hown'.2 with ⟨e1, h0⟩ | ⟨g, cap', cur, e1, hb, hg, hr1, hr2, hr3, hr4⟩
  · have := hnil.1 e1
    cases this.1
  · subst e1
    refine ⟨g, cap', rfl, hb, hr1, ⟨fun i hi => ?_, obj_lt hg⟩, hk⟩
    obtain ⟨d1, d2, d3⟩ := HL.out i hi
    have q1 := hown'.cells (g := g) rfl _ _ d1
    have q2 := hown'.cells (g := g) rfl _ _ d2
    have q3 := hown'.cells (g := g) rfl _ _ d3
    rw [add0] at q1 q2 q3
    exact ⟨q1, q2, q3⟩

set_option maxHeartbeats 400000 in
theorem table_bad (a : Option Addr) (cap gb off : Nat) (xs : List Int) (log : Int) (w : World) (h : RowI w .i16 a cap gb off xs) (hx : I16 xs) (hb : okT xs log = false) :
    Calls Try.prog 9 #[.slice a xs.length cap, .int .i64 log] w fun e w' => e = .returned (.tuple #[.slice none 0 0, .int .i64 70]) ∧ w' = w := by
  have HT := (show Hid (∀ w : World, RowI w .i16 a cap gb off xs → Calls Try.prog 24 #[.slice a xs.length cap, .int .i64 log] w fun e w' => e = .returned (.bool false) ∧ w' = w) from fun w h => by have := makeTable_any a cap gb off xs log w h hx; rwa [hb] at this)
  go_enter Try.func9, Try.ntmps9
  go_wp2_with (go_at_call 24; refine (HT.out _ h).mono ?_; rintro e w' ⟨rfl, rfl⟩)
  go_ret2
  exact ⟨rfl, rfl⟩

section
attribute [local go_sem] sliceSem_eq
set_option maxRecDepth 100000 in
set_option maxHeartbeats 2000000 in
theorem table_good (a : Option Addr) (cap gb off : Nat) (xs : List Int) (l : Nat) (w : World) (h : RowI w .i16 a cap gb off xs) (hx : I16 xs) (hb : okT xs (l : Int) = true) :
    Calls Try.prog 9 #[.slice a xs.length cap, .int .i64 (l : Int)] w fun e w' => ∃ g cap', e = .returned (.tuple #[.slice (some ⟨g, 0, none⟩) (2 ^ l) cap', .int .i64 0]) ∧ w.heap.size ≤ g ∧ 2 ^ l ≤ cap' ∧
      RowT w' g (2 ^ l) (symF xs (2 ^ l)) (fun i => bitF l (xF xs (2 ^ l) i)) (fun i => baseF l (xF xs (2 ^ l) i)) ∧ Keep noBlock w w' := by
  have HT := (show Hid (∀ w : World, RowI w .i16 a cap gb off xs → Calls Try.prog 24 #[.slice a xs.length cap, .int .i64 (l : Int)] w fun e w' => e = .returned (.bool true) ∧ w' = w) from fun w h => by have := makeTable_any a cap gb off xs l w h hx; rwa [hb] at this)
  obtain ⟨hG, hT, hne, hlen, hl5, hl12⟩ := okT_good hb
  have hTab := okT_tab hb
  have hSb : 2 ^ l ≤ 4096 := Nat.pow_le_pow_right (n := 2) (j := 12) (by omega) hl12
  have hp : (2 : Int) ^ l = ((2 ^ l : Nat) : Int) := by simp
  obtain ⟨S, hS⟩ : ∃ S, S = 2 ^ l := ⟨_, rfl⟩
  rw [← hS] at hp hSb hTab ⊢
  have HS := (show Hid (S = 2 ^ l) from hS)
  have hSI : (S : Int) ≤ 4096 := by omega
  have hlI : (l : Int) ≤ 12 := by omega
  have HTB := (show Hid (Tab xs S ∧ Good xs) from ⟨hTab, hG⟩)
  clear hT hS hG hTab
  go_enter Try.func9, Try.ntmps9
  go_wp2_with (go_at_call 24; refine (HT.out _ h).mono ?_; rintro e w' ⟨rfl, rfl⟩)
  have hT0 : IsT (w'.alloc (.cells Try.zeroCells71 71)) w'.heap.size 71 4096 (fun _ => 0) (fun _ => 0) (fun _ => 0) := by rw [zero71]; exact isT_zeros w' 71 4096
  have hK1 : Keep noBlock w' (w'.alloc (.cells Try.zeroCells71 71)) := (Keep.refl _ w').alloc _
  have hgb : xs ≠ [] → gb ≠ w'.heap.size := fun hn e => by have := h.block hn; omega
  have hR1 := h.keep hK1 (fun _ h => h)
  generalize w'.alloc (.cells Try.zeroCells71 71) = W1 at hT0 hK1 hR1 ⊢
  obtain ⟨cb, hcb⟩ : ∃ cb, cb = w'.heap.size := ⟨_, rfl⟩
  rw [← hcb] at hT0 hgb ⊢
  have HCB := (show Hid (cb = w'.heap.size) from hcb)
  clear hcb HT
  refine (setSymbols_any cb S xs a cap gb off W1 hT0 hR1 hgb HTB.out.1).mono ?_
  rintro e W2 ⟨rfl, hT2, hK2⟩
  have hR2 := hR1.keep hK2 hgb
  have hN := setNext_any cb l xs a cap gb off W2 (by rw [← HS.out]; exact hT2) hR2 hx hgb (by rw [← HS.out]; exact HTB.out.1) (by omega)
  rw [← HS.out] at hN
  have HNX := (show Hid (Calls Try.prog 38 _ W2 _) from hN)
  have HK := (show Hid (Keep noBlock w' W1 ∧ Keep (fun k => k = cb) W1 W2) from ⟨hK1, hK2⟩)
  clear hT0 hR1 hT2 hK2 hK1 hN
  go_wp2_with fail
  refine HNX.out.mono ?_
  rintro e W3 ⟨rfl, hT3, hK3⟩
  go_wp2_with fail
  refine (clone39_any cb S 4096 _ _ _ hSb W3 hT3).mono ?_
  rintro e W4 ⟨g, cap', rfl, hg, hcap, hRT, hK4⟩
  go_wp2_with fail
  go_ret2
  have k1 : Keep noBlock w' W3 := (HK.out.1.trans HK.out.2 (fun i hi e => by have := HCB.out; omega)).trans hK3 (fun i hi e => by have := HCB.out; omega)
  have hz := k1.size
  refine ⟨g, cap', rfl, by omega, hcap, ⟨fun i hi => ?_, hRT.lt⟩, k1.trans hK4 (fun _ _ h => h)⟩
  have := hRT.cells i hi
  rw [if_pos hi, if_pos hi] at this
  exact this
end

end Go.Proofs.Ytoffnhbopjaocaa
