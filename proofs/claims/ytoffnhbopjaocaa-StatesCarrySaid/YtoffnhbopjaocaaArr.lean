/-
  Arrays of numbers and of cells, as blocks.
-/
import Derived.Test.YtoffnhbopjaocaaBig
namespace Go.Proofs.Ytoffnhbopjaocaa
open Go.RowKit Go.Shelf

/-- Block b is an array of n numbers of kind k. -/
structure IsA (w : World) (b t : Nat) (k : IntKind) (n : Nat) (f : Nat → Int) : Prop where
  obj : ∃ cs, w.heap[b]? = some (.cells cs t (0, 0)) ∧ cs.size = n ∧ ∀ i, i < n → cs[i]? = some (.int k (f i))
theorem IsA.cell {w : World} {b t : Nat} {k : IntKind} {n : Nat} {f : Nat → Int} (h : IsA w b t k n f) (i : Nat) (hi : i < n) : w.cell? ⟨b, i, none⟩ = some (.int k (f i)) := by
  obtain ⟨cs, h1, _, h3⟩ := h.obj
  rw [cell_of h1, h3 i hi]
theorem IsA.frozen {w : World} {b t : Nat} {k : IntKind} {n : Nat} {f : Nat → Int} (h : IsA w b t k n f) (i : Nat) : w.frozen? ⟨b, i, none⟩ = false := by
  obtain ⟨cs, h1, _⟩ := h.obj
  exact frozen_of h1 i
theorem IsA.lt {w : World} {b t : Nat} {k : IntKind} {n : Nat} {f : Nat → Int} (h : IsA w b t k n f) : b < w.heap.size := by
  obtain ⟨cs, h1, _⟩ := h.obj
  exact obj_lt h1
theorem IsA.keep {w w' : World} {S : Nat → Prop} {b t : Nat} {k : IntKind} {n : Nat} {f : Nat → Int} (h : IsA w b t k n f) (hk : Keep S w w') (hS : ¬ S b) : IsA w' b t k n f := by
  obtain ⟨cs, h1, h2⟩ := h.obj
  exact ⟨cs, hk.obj h1 hS, h2⟩
theorem IsA.set {w : World} {b t : Nat} {k : IntKind} {n : Nat} {f : Nat → Int} (h : IsA w b t k n f) (i : Nat) (x : Int) : IsA (w.setCell ⟨b, i, none⟩ (.int k x)) b t k n (fun j => if j = i then x else f j) := by
  obtain ⟨cs, h1, h2, h3⟩ := h.obj
  refine ⟨_, set_obj h1 i _, by rw [Array.size_setIfInBounds, h2], fun j hj => ?_⟩
  rw [Array.getElem?_setIfInBounds]
  by_cases e : i = j
  · subst e; rw [if_pos rfl, if_pos (by omega), if_pos rfl]
  · rw [if_neg e, if_neg (fun h => e h.symm), h3 j hj]
theorem IsA.congr {w : World} {b t : Nat} {k : IntKind} {n : Nat} {f g : Nat → Int} (h : IsA w b t k n f) (he : ∀ i, i < n → f i = g i) : IsA w b t k n g := by
  obtain ⟨cs, h1, h2, h3⟩ := h.obj
  exact ⟨cs, h1, h2, fun i hi => by rw [h3 i hi, he i hi]⟩
theorem isA_zeros (w : World) (t : Nat) (k : IntKind) (n : Nat) : IsA (w.alloc (.cells (List.replicate n (Value.int k 0)).toArray t)) w.heap.size t k n (fun _ => 0) := by
  refine ⟨_, World.alloc_heap_new w _, by simp, fun i hi => ?_⟩
  rw [List.getElem?_toArray, List.getElem?_replicate, if_pos hi]

/-- Block b is an array of N cells: symbols, bits, bases. -/
structure IsT (w : World) (b t N : Nat) (sy bi ba : Nat → Nat) : Prop where
  obj : ∃ cs, w.heap[b]? = some (.cells cs t (0, 0)) ∧ cs.size = 3 * N ∧ ∀ i, i < N → cs[i * 3]? = some (.int .u8 ((sy i : Nat) : Int)) ∧ cs[i * 3 + 1]? = some (.int .u8 ((bi i : Nat) : Int)) ∧ cs[i * 3 + 2]? = some (.int .u16 ((ba i : Nat) : Int))
theorem IsT.cells {w : World} {b t N : Nat} {sy bi ba : Nat → Nat} (h : IsT w b t N sy bi ba) (i : Nat) (hi : i < N) :
    w.cell? ⟨b, i * 3, none⟩ = some (.int .u8 ((sy i : Nat) : Int)) ∧ w.cell? ⟨b, i * 3 + 1, none⟩ = some (.int .u8 ((bi i : Nat) : Int)) ∧ w.cell? ⟨b, i * 3 + 2, none⟩ = some (.int .u16 ((ba i : Nat) : Int)) := by
  obtain ⟨cs, h1, _, h3⟩ := h.obj
  rw [cell_of h1, cell_of h1, cell_of h1]
  exact h3 i hi
theorem IsT.frozen {w : World} {b t N : Nat} {sy bi ba : Nat → Nat} (h : IsT w b t N sy bi ba) (i : Nat) : w.frozen? ⟨b, i, none⟩ = false := by
  obtain ⟨cs, h1, _⟩ := h.obj
  exact frozen_of h1 i
theorem IsT.lt {w : World} {b t N : Nat} {sy bi ba : Nat → Nat} (h : IsT w b t N sy bi ba) : b < w.heap.size := by
  obtain ⟨cs, h1, _⟩ := h.obj
  exact obj_lt h1
theorem IsT.keep {w w' : World} {S : Nat → Prop} {b t N : Nat} {sy bi ba : Nat → Nat} (h : IsT w b t N sy bi ba) (hk : Keep S w w') (hS : ¬ S b) : IsT w' b t N sy bi ba := by
  obtain ⟨cs, h1, h2⟩ := h.obj
  exact ⟨cs, hk.obj h1 hS, h2⟩
theorem IsT.congr {w : World} {b t N : Nat} {sy bi ba sy' bi' ba' : Nat → Nat} (h : IsT w b t N sy bi ba) (h1 : ∀ i, i < N → sy i = sy' i) (h2 : ∀ i, i < N → bi i = bi' i) (h3 : ∀ i, i < N → ba i = ba' i) : IsT w b t N sy' bi' ba' := by
  obtain ⟨cs, a1, a2, a3⟩ := h.obj
  refine ⟨cs, a1, a2, fun i hi => ?_⟩
  rw [← h1 i hi, ← h2 i hi, ← h3 i hi]
  exact a3 i hi
theorem IsT.setSym {w : World} {b t N : Nat} {sy bi ba : Nat → Nat} (h : IsT w b t N sy bi ba) (i x : Nat) : IsT (w.setCell ⟨b, i * 3, none⟩ (.int .u8 (x : Int))) b t N (fun j => if j = i then x else sy j) bi ba := by
  obtain ⟨cs, h1, h2, h3⟩ := h.obj
  refine ⟨_, set_obj h1 _ _, by rw [Array.size_setIfInBounds, h2], fun j hj => ?_⟩
  rw [Array.getElem?_setIfInBounds, Array.getElem?_setIfInBounds, Array.getElem?_setIfInBounds, if_neg (show ¬ i * 3 = j * 3 + 1 by omega), if_neg (show ¬ i * 3 = j * 3 + 2 by omega)]
  by_cases e : i = j
  · subst e
    rw [if_pos rfl, if_pos (by omega), if_pos rfl]
    exact ⟨rfl, (h3 i hj).2⟩
  · rw [if_neg (by omega), if_neg (fun h => e h.symm)]
    exact h3 j hj
theorem IsT.setBit {w : World} {b t N : Nat} {sy bi ba : Nat → Nat} (h : IsT w b t N sy bi ba) (i x : Nat) : IsT (w.setCell ⟨b, i * 3 + 1, none⟩ (.int .u8 (x : Int))) b t N sy (fun j => if j = i then x else bi j) ba := by
  obtain ⟨cs, h1, h2, h3⟩ := h.obj
  refine ⟨_, set_obj h1 _ _, by rw [Array.size_setIfInBounds, h2], fun j hj => ?_⟩
  rw [Array.getElem?_setIfInBounds, Array.getElem?_setIfInBounds, Array.getElem?_setIfInBounds, if_neg (show ¬ i * 3 + 1 = j * 3 by omega), if_neg (show ¬ i * 3 + 1 = j * 3 + 2 by omega)]
  by_cases e : i = j
  · subst e
    rw [if_pos rfl, if_pos (by omega), if_pos rfl]
    exact ⟨(h3 i hj).1, rfl, (h3 i hj).2.2⟩
  · rw [if_neg (by omega), if_neg (fun h => e h.symm)]
    exact h3 j hj
theorem IsT.setBase {w : World} {b t N : Nat} {sy bi ba : Nat → Nat} (h : IsT w b t N sy bi ba) (i x : Nat) : IsT (w.setCell ⟨b, i * 3 + 2, none⟩ (.int .u16 (x : Int))) b t N sy bi (fun j => if j = i then x else ba j) := by
  obtain ⟨cs, h1, h2, h3⟩ := h.obj
  refine ⟨_, set_obj h1 _ _, by rw [Array.size_setIfInBounds, h2], fun j hj => ?_⟩
  rw [Array.getElem?_setIfInBounds, Array.getElem?_setIfInBounds, Array.getElem?_setIfInBounds, if_neg (show ¬ i * 3 + 2 = j * 3 by omega), if_neg (show ¬ i * 3 + 2 = j * 3 + 1 by omega)]
  by_cases e : i = j
  · subst e
    rw [if_pos rfl, if_pos (by omega), if_pos rfl]
    exact ⟨(h3 i hj).1, (h3 i hj).2.1, rfl⟩
  · rw [if_neg (by omega), if_neg (fun h => e h.symm)]
    exact h3 j hj
theorem flat3 (n : Nat) (a b c : Value) : ((List.replicate n [a, b, c]).flatten).length = 3 * n ∧ ∀ i, i < n → ((List.replicate n [a, b, c]).flatten)[i * 3]? = some a ∧ ((List.replicate n [a, b, c]).flatten)[i * 3 + 1]? = some b ∧ ((List.replicate n [a, b, c]).flatten)[i * 3 + 2]? = some c := by
  induction n with
  | zero => exact ⟨rfl, fun i hi => by omega⟩
  | succ n ih =>
    rw [List.replicate_succ, List.flatten_cons]
    refine ⟨by rw [List.length_append, ih.1]; simp; omega, fun i hi => ?_⟩
    cases i with
    | zero => exact ⟨rfl, rfl, rfl⟩
    | succ i =>
      obtain ⟨a1, a2, a3⟩ := ih.2 i (by omega)
      refine ⟨?_, ?_, ?_⟩
      · rw [List.getElem?_append_right (by simp; omega)]; simpa [Nat.succ_mul] using a1
      · rw [List.getElem?_append_right (by simp; omega)]
        have e : (i + 1) * 3 + 1 - [a, b, c].length = i * 3 + 1 := by simp; omega
        rw [e]; exact a2
      · rw [List.getElem?_append_right (by simp; omega)]
        have e : (i + 1) * 3 + 2 - [a, b, c].length = i * 3 + 2 := by simp; omega
        rw [e]; exact a3
theorem isT_zeros (w : World) (t n : Nat) : IsT (w.alloc (.cells ((List.replicate n [Value.int .u8 0, Value.int .u8 0, Value.int .u16 0]).flatten).toArray t)) w.heap.size t n (fun _ => 0) (fun _ => 0) (fun _ => 0) := by
  obtain ⟨h1, h2⟩ := flat3 n (Value.int .u8 0) (Value.int .u8 0) (Value.int .u16 0)
  refine ⟨_, World.alloc_heap_new w _, by rw [List.size_toArray]; exact h1, fun i hi => ?_⟩
  simp only [List.getElem?_toArray]
  exact h2 i hi

end Go.Proofs.Ytoffnhbopjaocaa
