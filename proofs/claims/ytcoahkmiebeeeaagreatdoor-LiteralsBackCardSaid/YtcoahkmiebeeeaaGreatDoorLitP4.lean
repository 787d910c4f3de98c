/-
  Arrays of numbers and of cells, as blocks.
  setSymbols: each state is given its symbol.
  The two iterators of package tail, and the calls that make them.
  The reader of package tail: what each of its calls does.
  math/bits.Len8, slices.Clone at bytes, and tail.New; the calls on no reader.
  push of a writer: one bit behind.
-/
import Derived.Sort.QuietIn
import Derived.RangeFuncNested
import Derived.RangeFuncBound
import Derived.RangeFuncCalls
import Derived.RangeFuncLeaves
import Derived.Shelf.Abstract
import Derived.Shelf.RegionOpen
import Derived.WalkKit
import Derived.OwnWalkIn
import Derived.TacticsInMore
import Derived.LoopNIn
import Derived.LoopIn
import Derived.WalkSmall
import Derived.Test.YtcoahkmiebeeeaaGreatDoorProg
import Derived.BigQuiet
import Derived.Deep.QuietTactic
import Derived.Deep.AppendLies
import Derived.WalkLawsBesides
import Derived.BigRegion
import Derived.Deep.RegionLaw
import Derived.Test.YtcoahkmiebeeeaaGreatDoorLitP3
namespace Go.Proofs.YtcoahkmiebeeeaaGreatDoor
open Go.RowKit Go.Shelf

/-- Block b is an array of n numbers of kind k. -/
structure IsA (w : World) (b t : Nat) (k : IntKind) (n : Nat) (f : Nat → Int) : Prop where
  obj : ∃ cs, w.heap[b]? = some (.cells cs t (0, 0)) ∧ cs.size = n ∧ ∀ i, i < n → cs[i]? = some (.int k (f i))
theorem IsA.cell {w : World} {b t : Nat} {k : IntKind} {n : Nat} {f : Nat → Int} (h : IsA w b t k n f) (i : Nat) (hi : i < n) : w.cell? ⟨b, i, none⟩ = some (.int k (f i)) := by
  obtain ⟨cs, h1, _, h3⟩ := h.obj
  rw [cell_of h1, h3 i hi]
theorem IsA.frozen {w : World} {b t : Nat} {k : IntKind} {n : Nat} {f : Nat → Int} (h : IsA w b t k n f) (i : Nat) : w.frozen? ⟨b, i, none⟩ = false := by
  obtain ⟨cs, h1, _⟩ := h.obj
  exact frozen_of h1 i
theorem IsA.lt {w : World} {b t : Nat} {k : IntKind} {n : Nat} {f : Nat → Int} (h : IsA w b t k n f) : b < w.heap.size := by
  obtain ⟨cs, h1, _⟩ := h.obj
  exact obj_lt h1
theorem IsA.keep {w w' : World} {S : Nat → Prop} {b t : Nat} {k : IntKind} {n : Nat} {f : Nat → Int} (h : IsA w b t k n f) (hk : Keep S w w') (hS : ¬ S b) : IsA w' b t k n f := by
  obtain ⟨cs, h1, h2⟩ := h.obj
  exact ⟨cs, hk.obj h1 hS, h2⟩
theorem IsA.set {w : World} {b t : Nat} {k : IntKind} {n : Nat} {f : Nat → Int} (h : IsA w b t k n f) (i : Nat) (x : Int) : IsA (w.setCell ⟨b, i, none⟩ (.int k x)) b t k n (fun j => if j = i then x else f j) := by
  obtain ⟨cs, h1, h2, h3⟩ := h.obj
  refine ⟨_, set_obj h1 i _, by rw [Array.size_setIfInBounds, h2], fun j hj => ?_⟩
  rw [Array.getElem?_setIfInBounds]
  by_cases e : i = j
  · subst e; rw [if_pos rfl, if_pos (by omega), if_pos rfl]
  · rw [if_neg e, if_neg (fun h => e h.symm), h3 j hj]
theorem IsA.congr {w : World} {b t : Nat} {k : IntKind} {n : Nat} {f g : Nat → Int} (h : IsA w b t k n f) (he : ∀ i, i < n → f i = g i) : IsA w b t k n g := by
  obtain ⟨cs, h1, h2, h3⟩ := h.obj
  exact ⟨cs, h1, h2, fun i hi => by rw [h3 i hi, he i hi]⟩
theorem isA_zeros (w : World) (t : Nat) (k : IntKind) (n : Nat) : IsA (w.alloc (.cells (List.replicate n (Value.int k 0)).toArray t)) w.heap.size t k n (fun _ => 0) := by
  refine ⟨_, World.alloc_heap_new w _, by simp, fun i hi => ?_⟩
  rw [List.getElem?_toArray, List.getElem?_replicate, if_pos hi]

/-- Block b is an array of N cells: symbols, bits, bases. -/
structure IsT (w : World) (b t N : Nat) (sy bi ba : Nat → Nat) : Prop where
  obj : ∃ cs, w.heap[b]? = some (.cells cs t (0, 0)) ∧ cs.size = 3 * N ∧ ∀ i, i < N → cs[i * 3]? = some (.int .u8 ((sy i : Nat) : Int)) ∧ cs[i * 3 + 1]? = some (.int .u8 ((bi i : Nat) : Int)) ∧ cs[i * 3 + 2]? = some (.int .u16 ((ba i : Nat) : Int))
theorem IsT.cells {w : World} {b t N : Nat} {sy bi ba : Nat → Nat} (h : IsT w b t N sy bi ba) (i : Nat) (hi : i < N) :
    w.cell? ⟨b, i * 3, none⟩ = some (.int .u8 ((sy i : Nat) : Int)) ∧ w.cell? ⟨b, i * 3 + 1, none⟩ = some (.int .u8 ((bi i : Nat) : Int)) ∧ w.cell? ⟨b, i * 3 + 2, none⟩ = some (.int .u16 ((ba i : Nat) : Int)) := by
  obtain ⟨cs, h1, _, h3⟩ := h.obj
  rw [cell_of h1, cell_of h1, cell_of h1]
  exact h3 i hi
theorem IsT.frozen {w : World} {b t N : Nat} {sy bi ba : Nat → Nat} (h : IsT w b t N sy bi ba) (i : Nat) : w.frozen? ⟨b, i, none⟩ = false := by
  obtain ⟨cs, h1, _⟩ := h.obj
  exact frozen_of h1 i
theorem IsT.lt {w : World} {b t N : Nat} {sy bi ba : Nat → Nat} (h : IsT w b t N sy bi ba) : b < w.heap.size := by
  obtain ⟨cs, h1, _⟩ := h.obj
  exact obj_lt h1
theorem IsT.keep {w w' : World} {S : Nat → Prop} {b t N : Nat} {sy bi ba : Nat → Nat} (h : IsT w b t N sy bi ba) (hk : Keep S w w') (hS : ¬ S b) : IsT w' b t N sy bi ba := by
  obtain ⟨cs, h1, h2⟩ := h.obj
  exact ⟨cs, hk.obj h1 hS, h2⟩
theorem IsT.congr {w : World} {b t N : Nat} {sy bi ba sy' bi' ba' : Nat → Nat} (h : IsT w b t N sy bi ba) (h1 : ∀ i, i < N → sy i = sy' i) (h2 : ∀ i, i < N → bi i = bi' i) (h3 : ∀ i, i < N → ba i = ba' i) : IsT w b t N sy' bi' ba' := by
  obtain ⟨cs, a1, a2, a3⟩ := h.obj
  refine ⟨cs, a1, a2, fun i hi => ?_⟩
  rw [← h1 i hi, ← h2 i hi, ← h3 i hi]
  exact a3 i hi
theorem IsT.setSym {w : World} {b t N : Nat} {sy bi ba : Nat → Nat} (h : IsT w b t N sy bi ba) (i x : Nat) : IsT (w.setCell ⟨b, i * 3, none⟩ (.int .u8 (x : Int))) b t N (fun j => if j = i then x else sy j) bi ba := by
  obtain ⟨cs, h1, h2, h3⟩ := h.obj
  refine ⟨_, set_obj h1 _ _, by rw [Array.size_setIfInBounds, h2], fun j hj => ?_⟩
  rw [Array.getElem?_setIfInBounds, Array.getElem?_setIfInBounds, Array.getElem?_setIfInBounds, if_neg (show ¬ i * 3 = j * 3 + 1 by omega), if_neg (show ¬ i * 3 = j * 3 + 2 by omega)]
  by_cases e : i = j
  · subst e
    rw [if_pos rfl, if_pos (by omega), if_pos rfl]
    exact ⟨rfl, (h3 i hj).2⟩
  · rw [if_neg (by omega), if_neg (fun h => e h.symm)]
    exact h3 j hj
theorem IsT.setBit {w : World} {b t N : Nat} {sy bi ba : Nat → Nat} (h : IsT w b t N sy bi ba) (i x : Nat) : IsT (w.setCell ⟨b, i * 3 + 1, none⟩ (.int .u8 (x : Int))) b t N sy (fun j => if j = i then x else bi j) ba := by
  obtain ⟨cs, h1, h2, h3⟩ := h.obj
  refine ⟨_, set_obj h1 _ _, by rw [Array.size_setIfInBounds, h2], fun j hj => ?_⟩
  rw [Array.getElem?_setIfInBounds, Array.getElem?_setIfInBounds, Array.getElem?_setIfInBounds, if_neg (show ¬ i * 3 + 1 = j * 3 by omega), if_neg (show ¬ i * 3 + 1 = j * 3 + 2 by omega)]
  by_cases e : i = j
  · subst e
    rw [if_pos rfl, if_pos (by omega), if_pos rfl]
    exact ⟨(h3 i hj).1, rfl, (h3 i hj).2.2⟩
  · rw [if_neg (by omega), if_neg (fun h => e h.symm)]
    exact h3 j hj
theorem IsT.setBase {w : World} {b t N : Nat} {sy bi ba : Nat → Nat} (h : IsT w b t N sy bi ba) (i x : Nat) : IsT (w.setCell ⟨b, i * 3 + 2, none⟩ (.int .u16 (x : Int))) b t N sy bi (fun j => if j = i then x else ba j) := by
  obtain ⟨cs, h1, h2, h3⟩ := h.obj
  refine ⟨_, set_obj h1 _ _, by rw [Array.size_setIfInBounds, h2], fun j hj => ?_⟩
  rw [Array.getElem?_setIfInBounds, Array.getElem?_setIfInBounds, Array.getElem?_setIfInBounds, if_neg (show ¬ i * 3 + 2 = j * 3 by omega), if_neg (show ¬ i * 3 + 2 = j * 3 + 1 by omega)]
  by_cases e : i = j
  · subst e
    rw [if_pos rfl, if_pos (by omega), if_pos rfl]
    exact ⟨(h3 i hj).1, (h3 i hj).2.1, rfl⟩
  · rw [if_neg (by omega), if_neg (fun h => e h.symm)]
    exact h3 j hj
theorem flat3 (n : Nat) (a b c : Value) : ((List.replicate n [a, b, c]).flatten).length = 3 * n ∧ ∀ i, i < n → ((List.replicate n [a, b, c]).flatten)[i * 3]? = some a ∧ ((List.replicate n [a, b, c]).flatten)[i * 3 + 1]? = some b ∧ ((List.replicate n [a, b, c]).flatten)[i * 3 + 2]? = some c := by
  induction n with
  | zero => exact ⟨rfl, fun i hi => by omega⟩
  | succ n ih =>
    rw [List.replicate_succ, List.flatten_cons]
    refine ⟨by rw [List.length_append, ih.1]; simp; omega, fun i hi => ?_⟩
    cases i with
    | zero => exact ⟨rfl, rfl, rfl⟩
    | succ i =>
      obtain ⟨a1, a2, a3⟩ := ih.2 i (by omega)
      refine ⟨?_, ?_, ?_⟩
      · rw [List.getElem?_append_right (by simp; omega)]; simpa [Nat.succ_mul] using a1
      · rw [List.getElem?_append_right (by simp; omega)]
        have e : (i + 1) * 3 + 1 - [a, b, c].length = i * 3 + 1 := by simp; omega
        rw [e]; exact a2
      · rw [List.getElem?_append_right (by simp; omega)]
        have e : (i + 1) * 3 + 2 - [a, b, c].length = i * 3 + 2 := by simp; omega
        rw [e]; exact a3
theorem isT_zeros (w : World) (t n : Nat) : IsT (w.alloc (.cells ((List.replicate n [Value.int .u8 0, Value.int .u8 0, Value.int .u16 0]).flatten).toArray t)) w.heap.size t n (fun _ => 0) (fun _ => 0) (fun _ => 0) := by
  obtain ⟨h1, h2⟩ := flat3 n (Value.int .u8 0) (Value.int .u8 0) (Value.int .u16 0)
  refine ⟨_, World.alloc_heap_new w _, by rw [List.size_toArray]; exact h1, fun i hi => ?_⟩
  simp only [List.getElem?_toArray]
  exact h2 i hi

end Go.Proofs.YtcoahkmiebeeeaaGreatDoor

namespace Go.Proofs.YtcoahkmiebeeeaaGreatDoor
open Go.RowKit Go.Shelf

def maxSem (ats : Array TypeId) (ty : TypeId) (args : Array Value) : Sem Value := Builtin.max_ ats ty args
theorem maxSem_eq (ats : Array TypeId) (ty : TypeId) (args : Array Value) : Builtin.max_ ats ty args = maxSem ats ty args := rfl
theorem maxSem_run (k : IntKind) (ats : Array TypeId) (ty : TypeId) (a b c : Int) (h : c = max a b) (w : World) : (maxSem ats ty #[.int k a, .int k b]).run Tryz.prog w = .ok (.int k c) w := by
  have e : (maxSem ats ty #[.int k a, .int k b]) = pure (.int k (if b > a then b else a)) := rfl
  rw [e, h, show max a b = (if b > a then b else a) from by split <;> omega]
  rfl
def minSem (ats : Array TypeId) (ty : TypeId) (args : Array Value) : Sem Value := Builtin.min_ ats ty args
theorem minSem_eq (ats : Array TypeId) (ty : TypeId) (args : Array Value) : Builtin.min_ ats ty args = minSem ats ty args := rfl
theorem minSem_run (k : IntKind) (ats : Array TypeId) (ty : TypeId) (a b c : Int) (h : c = min a b) (w : World) : (minSem ats ty #[.int k a, .int k b]).run Tryz.prog w = .ok (.int k c) w := by
  have e : (minSem ats ty #[.int k a, .int k b]) = pure (.int k (if b < a then b else a)) := rfl
  rw [e, h, show min a b = (if b < a then b else a) from by split <;> omega]
  rfl

/-- Where setSymbols stands: the states' symbols f, the row r, the box of the slice. -/
structure SS (w W : World) (S cb bx : Nat) (f : Nat → Option Nat) (r : Nat → Int) : Prop where
  tab : IsT W cb 158 4096 (fun j => (f j).getD 0) (fun _ => 0) (fun _ => 0)
  row : IsA W (bx + 1) 190 .u8 4096 r
  box : W.heap[bx]? = some (.cells #[.slice (some ⟨cb, 0, none⟩) S 4096] 117 (0, 0))
  keep : Keep (fun k => k = cb) w W
theorem SS.keeps {w W W' : World} {S cb bx : Nat} {f : Nat → Option Nat} {r : Nat → Int} (h : SS w W S cb bx f r) (hk : Keep noBlock W W') : SS w W' S cb bx f r :=
  ⟨h.tab.keep hk (fun h => h), h.row.keep hk (fun h => h), hk.obj h.box (fun h => h), h.keep.trans hk (fun _ _ h => h.elim)⟩
theorem SS.setSym {w W : World} {S cb bx : Nat} {f : Nat → Option Nat} {r : Nat → Int} (h : SS w W S cb bx f r) (hcb : cb < bx) (i s : Nat) : SS w (W.setCell ⟨cb, i * 3, none⟩ (.int .u8 (s : Int))) S cb bx (upd f i s) r := by
  have hk : Keep (fun k => k = cb) W (W.setCell ⟨cb, i * 3, none⟩ (.int .u8 (s : Int))) := Keep.setCell (S := fun k => k = cb) (p := ⟨cb, i * 3, none⟩) (Keep.refl _ W) (fun _ => rfl) _
  refine ⟨(h.tab.setSym i s).congr (fun j _ => ?_) (fun _ _ => rfl) (fun _ _ => rfl), h.row.keep hk (by omega), hk.obj h.box (by omega), h.keep.trans hk (fun _ _ h => h)⟩
  simp only [upd]; split <;> rfl
theorem SS.setRow {w W : World} {S cb bx : Nat} {f : Nat → Option Nat} {r : Nat → Int} (h : SS w W S cb bx f r) (hcb : cb < bx) (hw : w.heap.size ≤ bx) (i : Nat) (s : Int) : SS w (W.setCell ⟨bx + 1, i, none⟩ (.int .u8 s)) S cb bx f (fun j => if j = i then s else r j) := by
  have hk : Keep (fun k => k = bx + 1) W (W.setCell ⟨bx + 1, i, none⟩ (.int .u8 s)) := Keep.setCell (S := fun k => k = bx + 1) (p := ⟨bx + 1, i, none⟩) (Keep.refl _ W) (fun _ => rfl) _
  exact ⟨h.tab.keep hk (by omega), h.row.set i s, hk.obj h.box (by omega), h.keep.trans hk (fun i hi e => by omega)⟩

theorem own_obj {B : Nat} {X Y : World} {row : Option Nat} {b : Nat} {o : Obj} (hg : X.grownBy Y row) (hr : ∀ r, row = some r → B ≤ r ∧ ∃ o, X.heap[r]? = some o ∧ o.isCells = false) (h : X.heap[b]? = some o) (hc : o.isCells = true) : Y.heap[b]? = some o := by
  refine (hg.block b (obj_lt h) (fun e => ?_)).trans h
  obtain ⟨_, o', h1, h2⟩ := hr b e.symm
  rw [h] at h1
  cases h1
  rw [hc] at h2
  cases h2
theorem PBox.own {B Bs Bh S H : Nat} {X Y : World} {row : Option Nat} (h : PBox Bs Bh S H X) (hg : X.grownBy Y row) (hr : ∀ r, row = some r → B ≤ r ∧ ∃ o, X.heap[r]? = some o ∧ o.isCells = false) : PBox Bs Bh S H Y :=
  ⟨own_obj hg hr h.1 rfl, own_obj hg hr h.2 rfl⟩
theorem SS.own {B : Nat} {w X Y : World} {S cb bx : Nat} {f : Nat → Option Nat} {r : Nat → Int} {row : Option Nat} (h : SS w X S cb bx f r) (hB : w.heap.size ≤ B) (hg : X.grownBy Y row) (hr : ∀ r, row = some r → B ≤ r ∧ ∃ o, X.heap[r]? = some o ∧ o.isCells = false) : SS w Y S cb bx f r := by
  obtain ⟨cs, h1, h2⟩ := h.tab.obj
  obtain ⟨ds, d1, d2⟩ := h.row.obj
  exact ⟨⟨cs, own_obj hg hr h1 rfl, h2⟩, ⟨ds, own_obj hg hr d1 rfl, d2⟩, own_obj hg hr h.box rfl, h.keep.grown hg (fun k e hk => by have := (hr k e).1; omega)⟩

section
attribute [local go_sem] Oper.semAt_some
attribute [local go_sem] maxSem_eq
set_option maxRecDepth 100000 in
set_option maxHeartbeats 4000000 in
theorem setSymbols_any (cb S : Nat) (xs : List Int) (a : Option Addr) (cap gb off : Nat) (w : World) (hT : IsT w cb 158 4096 (fun _ => 0) (fun _ => 0) (fun _ => 0)) (hR : RowI w .i16 a cap gb off xs) (hgb : xs ≠ [] → gb ≠ cb) (hTab : Tab xs S) :
    Calls Tryz.prog 79 #[.slice (some ⟨cb, 0, none⟩) S 4096, .slice a xs.length cap] w fun e w' => e = .returned (.tuple #[]) ∧ IsT w' cb 158 4096 (symF xs S) (fun _ => 0) (fun _ => 0) ∧ Keep (fun k => k = cb) w w' := by
  have hcb := hT.lt
  obtain ⟨l, hS, hl5, hl12⟩ := hTab.log
  have hSb : S ≤ 4096 := by rw [hS]; exact Nat.pow_le_pow_right (n := 2) (j := 12) (by omega) hl12
  obtain ⟨v, ho⟩ := odd_pow l hl5 hl12
  rw [← hS] at ho
  have HH := (show Hid (RowI w .i16 a cap gb off xs ∧ (xs ≠ [] → gb ≠ cb) ∧ Tab xs S ∧ Odd S v ∧ S ≤ 4096) from ⟨hR, hgb, hTab, ho, hSb⟩)
  have hlen := hTab.len
  have hmx : Tryz.prog.follows .mixedOrders = true := by kernel_rfl
  have hc1 : ((w.alloc (.cells #[.slice (some ⟨cb, 0, none⟩) S 4096] 117)).alloc (.cells Tryz.zeroCells190 190)).cell? ⟨w.heap.size, 0, none⟩ = some (.slice (some ⟨cb, 0, none⟩) S 4096) := by
    have e := alloc_far (World.alloc_heap_new w (.cells #[.slice (some ⟨cb, 0, none⟩) S 4096] 117)) (.cells Tryz.zeroCells190 190)
    exact cell_of e 0
  have hss : SS w ((w.alloc (.cells #[.slice (some ⟨cb, 0, none⟩) S 4096] 117)).alloc (.cells Tryz.zeroCells190 190)) S cb w.heap.size (rareF xs S 0) (fun _ => 0) := by
    have hk : Keep noBlock w ((w.alloc (.cells #[.slice (some ⟨cb, 0, none⟩) S 4096] 117)).alloc (.cells Tryz.zeroCells190 190)) := ((Keep.refl _ w).alloc _).alloc _
    refine ⟨hT.keep hk (fun h => h), ?_, alloc_far (World.alloc_heap_new w _) _, hk.mono (fun _ _ h => h.elim)⟩
    have := isA_zeros (w.alloc (.cells #[.slice (some ⟨cb, 0, none⟩) S 4096] 117)) 190 .u8 4096
    rw [World.size_alloc] at this
    rw [zero103]
    exact this
  have HSS := (show Hid (SS w _ S cb w.heap.size (rareF xs S 0) (fun _ => 0)) from hss)
  obtain ⟨n, hn⟩ : ∃ n, n = xs.length := ⟨_, rfl⟩
  rw [← hn] at hlen ⊢
  have HN := (show Hid (n = xs.length) from hn)
  clear hT hR hgb hTab hn hss ho hS
  refine (callsIn_wide (n := 4)).1 ?_
  refine callsIn_of_wp_marks Tryz.func79 rfl trivial ?_ rfl
  simp only [Tryz.ntmps79, List.size_toArray, List.length_cons, List.length_nil, Nat.reduceAdd, Nat.reduceSub, Array.replicate_succ, Array.replicate_zero, List.push_toArray, List.append_toArray, List.nil_append, List.cons_append]
  gi_wp2_with fail
  generalize (w.alloc (.cells #[.slice (some ⟨cb, 0, none⟩) S 4096] 117)).alloc (.cells Tryz.zeroCells190 190) = W1 at hc1 HSS ⊢

  gi_quiet (fail)
  have HS2 := (show Hid (SS w (W1.drewN nq) S cb w.heap.size (rareF xs S 0) (fun _ => 0)) from HSS.out.keeps (keep_drewN W1 nq))
  clear hc1 HSS
  generalize W1.drewN nq = W2 at HS2 ⊢
  obtain ⟨bx, hbx⟩ : ∃ bx, bx = w.heap.size := ⟨_, rfl⟩
  rw [← hbx] at HS2 hcb ⊢
  have HBX := (show Hid (bx = w.heap.size) from hbx)
  clear hbx
  gi_wp2_with fail
  gi_loopw [5, 6, 15] (fun v5 v6 v15 wr => ∃ (i m h : Nat) (r : Nat → Int), v15 = .int .i64 (i : Int) ∧ v5 = .int .i64 (m : Int) ∧ v6 = .int .i64 (h : Int) ∧ i ≤ n ∧
    Hid (m = (rowL xs i).length ∧ h + nr xs i = S ∧ (∀ j, j < m → r j = (((rowL xs i)[j]?.getD 0 : Nat) : Int)) ∧ SS w wr S cb bx (rareF xs S i) r)) (fun _ _ v15 _ => n - (intOf v15).toNat)
  case atStart => exact ⟨0, 0, S, fun _ => 0, rfl, rfl, rfl, Nat.zero_le _, rfl, rfl, fun j hj => by omega, HS2.out⟩
  case round =>
    clear HS2
    obtain ⟨i, m, h, r, rfl, rfl, rfl, hi, HC⟩ := hrel
    by_cases hlt : i < n
    · obtain ⟨hm, hh, hr, hss⟩ := HC.out
      obtain ⟨hR, hgb, hTab, ho, -⟩ := HH.out
      have hix : i < xs.length := by have := HN.out; omega
      have hR2 := hR.keep hss.keep hgb
      obtain rfl := hR2.here hix
      have c0 := hR2.cells i hix
      have hlow := hTab.low i hix
      have hrow := hTab.row
      have hrl := rowL_grow xs (i + 1) xs.length (by omega)
      have hnr := cntP_mono (isRare xs) (i + 1) xs.length (by omega)
      have hns := nr_succ xs i
      have hrs : rowL xs (i + 1) = rowL xs i ++ List.replicate (xs[i]?.getD 0).toNat i := rfl
      have hfs : rareF xs S (i + 1) = if xs[i]?.getD 0 = -1 then upd (rareF xs S i) (S - nr xs (i + 1)) i else rareF xs S i := rfl
      have hrlen : (rowL xs (i + 1)).length + nr xs (i + 1) ≤ S := by
        obtain ⟨T, hT⟩ := hrl
        rw [hT, List.length_append] at hrow
        unfold nr at hrow ⊢
        omega
      obtain ⟨c, hc⟩ : ∃ c, c = xs[i]?.getD 0 := ⟨_, rfl⟩
      rw [← hc] at c0 hlow hns hrs hfs
      have hrsl : (rowL xs (i + 1)).length = m + c.toNat := by rw [hrs, List.length_append, List.length_replicate, hm]
      have hcb2 : c ≤ 4096 := by omega
      have hltI : (i : Int) < (n : Int) := by omega
      have hi256 : (i : Int) < 256 := by omega
      have hnI : (n : Int) ≤ 256 := by omega
      have hmx2 : ∀ W, _ := fun W => maxSem_run .i16 #[184, 184] 184 c 0 ((c.toNat : Nat) : Int) (by omega) W
      obtain ⟨cn, hcn⟩ : ∃ cn, cn = c.toNat := ⟨_, rfl⟩
      rw [← hcn] at hmx2 hrs hrsl
      have hmb : m + cn ≤ 4096 := by omega
      have HR := (show Hid (rowL xs (i + 1) = rowL xs i ++ List.replicate cn i ∧ m = (rowL xs i).length ∧ (∀ j, j < m → r j = (((rowL xs i)[j]?.getD 0 : Nat) : Int)) ∧ cn = c.toNat) from ⟨hrs, hm, hr, hcn⟩)
      by_cases hc1 : c = -1
      · rw [if_pos hc1] at hns hfs
        obtain ⟨h2, hh2⟩ : ∃ h2, h = h2 + 1 := ⟨h - 1, by omega⟩
        have hhI : (h : Int) - 1 = (h2 : Int) := by omega
        have hh2S : (h2 : Int) < (S : Int) := by omega
        have hfr := hss.tab.frozen (h2 * 3)
        have cx : wr.cell? ⟨bx, 0, none⟩ = some (.slice (some ⟨cb, 0, none⟩) S 4096) := cell_of hss.box 0
        have hce := (hss.tab.cells h2 (by omega)).1
        have hss2 := hss.setSym hcb h2 i
        rw [show S - nr xs (i + 1) = h2 from by omega] at hfs
        rw [← hfs] at hss2
        have HSS := (show Hid (SS w (wr.setCell ⟨cb, h2 * 3, none⟩ (.int .u8 (i : Int))) S cb bx (rareF xs S (i + 1)) r ∧ h2 + nr xs (i + 1) = S) from ⟨hss2, by omega⟩)
        subst hc1
        clear hm hh hr hss hR hgb hTab ho hR2 hlow hrow hrl hnr hns hrs hfs hrlen hrsl hss2 HC hc hcn
        gi_wp2_with fail
        generalize wr.setCell ⟨cb, h2 * 3, none⟩ (.int .u8 (i : Int)) = W3 at HSS ⊢
        gi_loopw [5, 32] (fun v5 v32 wr => ∃ (q p : Nat) (r2 : Nat → Int), v32 = .int .i16 (q : Int) ∧ v5 = .int .i64 (p : Int) ∧ q ≤ cn ∧ Hid (p = m + q ∧ (∀ j, j < m → r2 j = r j) ∧ (∀ j, m ≤ j → j < m + q → r2 j = (i : Int)) ∧ SS w wr S cb bx (rareF xs S (i + 1)) r2)) (fun _ v32 _ => cn - (intOf v32).toNat)
        case atStart => exact ⟨0, m, r, rfl, rfl, Nat.zero_le _, rfl, fun _ _ => rfl, fun j h1 h2 => by omega, HSS.out.1⟩
        case round =>
          have HS3 := (show Hid (h2 + nr xs (i + 1) = S) from HSS.out.2)
          clear HSS
          obtain ⟨q, p, r2, rfl, rfl, hq, HC2⟩ := hrel
          obtain ⟨hp, hr1, hr2, hss⟩ := HC2.out
          have hp4 : p ≤ 4096 := by omega
          by_cases hql : q < cn
          · have hqI : (q : Int) < (cn : Int) := by omega
            have hq2 : (q : Int) < 4096 := by omega
            have hpI : (p : Int) < 4096 := by omega
            have cp := hss.row.cell p (by omega)
            have fp := hss.row.frozen p
            have hss2 := hss.setRow hcb (by have := HBX.out; omega) p (i : Int)
            have HS4 := (show Hid (SS w (wr.setCell ⟨bx + 1, p, none⟩ (.int .u8 (i : Int))) S cb bx (rareF xs S (i + 1)) (fun j => if j = p then (i : Int) else r2 j)) from hss2)
            clear hp hr1 hr2 hss hss2
            gi_wp2_with fail
            go_roundw
            case rel =>
              obtain ⟨hp, hr1, hr2, -⟩ := HC2.out
              refine ⟨q + 1, p + 1, _, by go_num, by go_num, by omega, by omega, fun j hj => ?_, fun j h1 h2 => ?_, HS4.out⟩
              · rw [if_neg (by omega)]; exact hr1 j hj
              · split
                · rfl
                · exact hr2 j h1 (by omega)
            case measure => simp [intOf]; omega
          · obtain rfl : q = cn := by omega
            have hqI : ¬ (q : Int) < (q : Int) := by omega
            clear hp hr1 hr2 hss
            gi_wp2_with fail
            go_roundw
            case rel =>
              obtain ⟨hp, hr1, hr2, hss⟩ := HC2.out
              obtain ⟨e1, e2, e3, -⟩ := HR.out
              refine ⟨i + 1, p, h2, r2, by go_num, rfl, rfl, by omega, by rw [e1, List.length_append, List.length_replicate, hp, e2], HS3.out, fun j hj => ?_, hss⟩
              rw [e1]
              by_cases hjm : j < m
              · rw [List.getElem?_append_left (by omega), hr1 j hjm]; exact e3 j hjm
              · rw [List.getElem?_append_right (by omega), List.getElem?_replicate, if_pos (by omega), hr2 j (by omega) (by omega)]; rfl
            case measure => simp [intOf]; omega
      · rw [if_neg hc1] at hns hfs
        rw [← hfs] at hss
        obtain ⟨h2, hh2⟩ : ∃ h2, h2 = h := ⟨_, rfl⟩
        have hcb1 : (c == -1) = false := by simpa using hc1
        have HSS := (show Hid (SS w wr S cb bx (rareF xs S (i + 1)) r ∧ h2 + nr xs (i + 1) = S) from ⟨hss, by omega⟩)
        subst hh2
        clear hm hh hr hss hR hgb hTab ho hR2 hlow hrow hrl hnr hns hrs hfs hrlen hrsl HC hc hcn
        gi_wp2_with fail
        gi_loopw [5, 32] (fun v5 v32 wr => ∃ (q p : Nat) (r2 : Nat → Int), v32 = .int .i16 (q : Int) ∧ v5 = .int .i64 (p : Int) ∧ q ≤ cn ∧ Hid (p = m + q ∧ (∀ j, j < m → r2 j = r j) ∧ (∀ j, m ≤ j → j < m + q → r2 j = (i : Int)) ∧ SS w wr S cb bx (rareF xs S (i + 1)) r2)) (fun _ v32 _ => cn - (intOf v32).toNat)
        case atStart => exact ⟨0, m, r, rfl, rfl, Nat.zero_le _, rfl, fun _ _ => rfl, fun j h1 h2 => by omega, HSS.out.1⟩
        case round =>
          have HS3 := (show Hid (h2 + nr xs (i + 1) = S) from HSS.out.2)
          clear HSS
          obtain ⟨q, p, r2, rfl, rfl, hq, HC2⟩ := hrel
          obtain ⟨hp, hr1, hr2, hss⟩ := HC2.out
          have hp4 : p ≤ 4096 := by omega
          by_cases hql : q < cn
          · have hqI : (q : Int) < (cn : Int) := by omega
            have hq2 : (q : Int) < 4096 := by omega
            have hpI : (p : Int) < 4096 := by omega
            have cp := hss.row.cell p (by omega)
            have fp := hss.row.frozen p
            have hss2 := hss.setRow hcb (by have := HBX.out; omega) p (i : Int)
            have HS4 := (show Hid (SS w (wr.setCell ⟨bx + 1, p, none⟩ (.int .u8 (i : Int))) S cb bx (rareF xs S (i + 1)) (fun j => if j = p then (i : Int) else r2 j)) from hss2)
            clear hp hr1 hr2 hss hss2
            gi_wp2_with fail
            go_roundw
            case rel =>
              obtain ⟨hp, hr1, hr2, -⟩ := HC2.out
              refine ⟨q + 1, p + 1, _, by go_num, by go_num, by omega, by omega, fun j hj => ?_, fun j h1 h2 => ?_, HS4.out⟩
              · rw [if_neg (by omega)]; exact hr1 j hj
              · split
                · rfl
                · exact hr2 j h1 (by omega)
            case measure => simp [intOf]; omega
          · obtain rfl : q = cn := by omega
            have hqI : ¬ (q : Int) < (q : Int) := by omega
            clear hp hr1 hr2 hss
            gi_wp2_with fail
            go_roundw
            case rel =>
              obtain ⟨hp, hr1, hr2, hss⟩ := HC2.out
              obtain ⟨e1, e2, e3, -⟩ := HR.out
              refine ⟨i + 1, p, h2, r2, by go_num, rfl, rfl, by omega, by rw [e1, List.length_append, List.length_replicate, hp, e2], HS3.out, fun j hj => ?_, hss⟩
              rw [e1]
              by_cases hjm : j < m
              · rw [List.getElem?_append_left (by omega), hr1 j hjm]; exact e3 j hjm
              · rw [List.getElem?_append_right (by omega), List.getElem?_replicate, if_pos (by omega), hr2 j (by omega) (by omega)]; rfl
            case measure => simp [intOf]; omega
    · obtain rfl : i = n := by omega
      obtain ⟨hm, hh, hr, hss⟩ := HC.out
      obtain ⟨hR, hgb, hTab, ho, -⟩ := HH.out
      have hnx := HN.out
      have cx : wr.cell? ⟨bx, 0, none⟩ = some (.slice (some ⟨cb, 0, none⟩) S 4096) := cell_of hss.box 0
      have hrow := hTab.row
      have hltI : ¬ (i : Int) < (i : Int) := by omega
      have HF := (show Hid (m = h ∧ SS w wr S cb bx (putF xs S h 0) r ∧ (∀ j, j < h → r j = ((rowAt xs j : Nat) : Int)) ∧ h = S - nr xs xs.length ∧ bx + 1 < wr.heap.size) from by
        have e : m = h := by rw [hnx] at hm hh; omega
        refine ⟨e, ?_, fun j hj => ?_, by rw [hnx] at hh; omega, hss.row.lt⟩
        · show SS w wr S cb bx (rareF xs S xs.length) r
          rw [← hnx]; exact hss
        · rw [hr j (by omega), hnx]; rfl)
      have hhS : h ≤ S := by omega
      clear hm hh hr hss hR hgb hTab hnx hrow HC HN
      gi_wp2_with fail
      refine ⟨trivial, (places_in Fence.wide 3 trivial rfl _ _ _).mono ?_⟩
      rintro e w4 ⟨rfl, rfl⟩
      obtain ⟨pb, hpb⟩ : ∃ pb, pb = wr.heap.size := ⟨_, rfl⟩
      have e1 := World.alloc_heap_new wr (.cells #[.int .i64 (S : Int)] 3)
      have e2 := World.alloc_heap_new (wr.alloc (.cells #[.int .i64 (S : Int)] 3)) (.cells #[.int .i64 (h : Int)] 3)
      have e3 := alloc_far e1 (.cells #[.int .i64 (h : Int)] 3)
      have hz4 : ((wr.alloc (.cells #[.int .i64 (S : Int)] 3)).alloc (.cells #[.int .i64 (h : Int)] 3)).heap.size = pb + 2 := by rw [World.size_alloc, World.size_alloc, hpb]
      rw [World.size_alloc] at e2
      have hk4 : Keep noBlock wr ((wr.alloc (.cells #[.int .i64 (S : Int)] 3)).alloc (.cells #[.int .i64 (h : Int)] 3)) := ((Keep.refl _ wr).alloc _).alloc _
      have hss4 := HF.out.2.1.keeps hk4
      have f5 : bx + 1 < wr.heap.size := HF.out.2.2.2.2
      have HF2 := (show Hid ((∀ j, j < h → r j = ((rowAt xs j : Nat) : Int)) ∧ h = S - nr xs xs.length) from ⟨HF.out.2.2.1, HF.out.2.2.2.1⟩)
      rw [← hpb] at e2 e3 f5 ⊢
      have HS4 := (show Hid (SS w _ S cb bx (putF xs S h 0) r ∧ PBox pb (pb + 1) S h _ ∧ _) from ⟨hss4, ⟨e3, e2⟩, hz4⟩)
      generalize (wr.alloc (.cells #[.int .i64 (S : Int)] 3)).alloc (.cells #[.int .i64 (h : Int)] 3) = W4 at HS4 ⊢
      clear e1 e2 e3 hz4 hk4 hss4 hpb HF cx
      gi_wp2
      have hz4 := HS4.out.2.2
      refine range_places (by omega) pb (pb + 1) S h v ho hSb hhS rfl rfl (fun k V => SS w V S cb bx (putF xs S h k) r ∧ PBox pb (pb + 1) S h V) (fun _ _ => False)
        (fun k a' _ => a' = { tmps := #[.slice (some ⟨cb, 0, none⟩) S 4096, .slice a i cap, .pointer (some ⟨bx, 0, none⟩), undef, .pointer (some ⟨bx + 1, 0, none⟩), .int .i64 (m : Int), .int .i64 (h : Int), u7, u8, .int .i64 (k : Int), .int .i64 ((place S h k : Nat) : Int), .slice (some ⟨cb, 0, none⟩) S 4096, .int .i64 (S : Int), .slice a i cap, .int .i64 (i : Int), .int .i64 (i : Int), .bool false, u17, u18, u19, u20, u21, u22, u23, u24, u25, u26, u27, u28, u29, u30, u31, u32, u33, u34, u35, u36, u37, u38, u39, u40, u41, .slice (some ⟨cb, 0, none⟩) S 4096, .int .i64 (S : Int), .int .i64 (h : Int), .func (.func 122) #[] #[.pointer (some ⟨pb, 0, none⟩), .pointer (some ⟨pb + 1, 0, none⟩)], .int .i64 (k : Int), .int .i64 ((place S h k : Nat) : Int), undef, undef, undef, undef, undef, undef, undef], defers := [] })
        (fun k V V' row hs hg hr => ⟨hs.1.own (by have := HBX.out; omega) hg hr, PBox.own hs.2 hg hr⟩) (fun _ _ _ _ h _ _ => h) (fun _ _ _ _ _ _ h _ _ => h)
        ⟨HS4.out.1, HS4.out.2.1⟩ (fun k V h => h.2) ?assign ?body ?done (fun _ _ h _ => h.elim)
      case assign =>
        intro k V K hk hi hK
        unfold placeV
        gi_wp2
        exact hK _ _ ⟨Nat.le_refl _, fun k' o _ ho _ => ho⟩ hi rfl
      case body =>
        rintro k a' V hk ⟨hss, hpbx⟩ rfl
        have hpl := place_lt ho h hhS k hk
        have cx : V.cell? ⟨bx, 0, none⟩ = some (.slice (some ⟨cb, 0, none⟩) S 4096) := cell_of hss.box 0
        have cr := hss.row.cell k (by omega)
        rw [HF2.out.1 k hk] at cr
        obtain ⟨x, hx⟩ : ∃ x, x = place S h k := ⟨_, rfl⟩
        obtain ⟨y, hy⟩ : ∃ y, y = rowAt xs k := ⟨_, rfl⟩
        rw [← hy] at cr
        rw [← hx] at hpl ⊢
        have fx := hss.tab.frozen (x * 3)
        have ct := (hss.tab.cells x (by omega)).1
        have hxI : (x : Int) < (S : Int) := by omega
        have hkI : (k : Int) < 4096 := by omega
        have hss2 := hss.setSym hcb x y
        have e : putF xs S h (k + 1) = upd (putF xs S h k) x y := by rw [hx, hy]; rfl
        rw [← e] at hss2
        have HG := (show Hid (SS w (V.setCell ⟨cb, x * 3, none⟩ (.int .u8 (y : Int))) S cb bx (putF xs S h (k + 1)) r ∧ PBox pb (pb + 1) S h V ∧ SS w V S cb bx (putF xs S h k) r) from ⟨hss2, hpbx, hss⟩)
        have fx2 : V.drew.frozen? ⟨cb, x * 3, none⟩ = false := fx
        have ct2 : V.drew.cell? ⟨cb, x * 3, none⟩ = _ := ct
        clear hss hpbx hss2 e hx hy HS4
        gi_wp2
        refine region_round (fun w' => w'.cell? ⟨bx, 0, none⟩ = some (.slice (some ⟨cb, 0, none⟩) S 4096) ∧ w'.cell? ⟨bx + 1, k, none⟩ = some (.int .u8 (y : Int))) (by kernel_rfl) hmx ⟨cx, cr⟩ (fun hS => ?_)
        refine wpAnyH_take (i := 0) (v := ?_) rfl (by kernel_rfl) (by kernel_rfl) (by kernel_rfl) (fun _ _ _ h => h) (Or.inl ⟨by rfl, ?_⟩) (by assumption) ?_
        rotate_left 1
        · intro w hSw; (try dsimp only at hSw); (go_simp <;> with_reducible rfl)
        simp only [Act.put, List.getElem_toArray, List.getElem_cons_zero, List.setIfInBounds_toArray, List.set_cons_zero, List.set_cons_succ]
        refine wpAnyH_take (i := 1) (v := ?_) rfl (by kernel_rfl) (by kernel_rfl) (by kernel_rfl) (fun _ _ _ h => h) (Or.inl ⟨by rfl, ?_⟩) (by assumption) ?_
        rotate_left 1
        · intro w hSw; (try dsimp only at hSw); (go_simp <;> with_reducible rfl)
        simp only [Act.put, List.getElem_toArray, List.getElem_cons_zero, List.getElem_cons_succ, List.setIfInBounds_toArray, List.set_cons_zero, List.set_cons_succ]
        refine wpAnyH_take (i := 2) (v := ?_) rfl (by kernel_rfl) (by kernel_rfl) (by kernel_rfl) (fun _ _ _ h => h) (Or.inl ⟨by rfl, ?_⟩) (by assumption) ?_
        rotate_left 1
        · intro w hSw; (try dsimp only at hSw); (go_simp <;> with_reducible rfl)
        simp only [Act.put, List.getElem_toArray, List.getElem_cons_zero, List.getElem_cons_succ, List.setIfInBounds_toArray, List.set_cons_zero, List.set_cons_succ]
        refine wpAnyH_take (i := 3) (v := ?_) rfl (by kernel_rfl) (by kernel_rfl) (by kernel_rfl) (fun _ _ _ h => h) (Or.inl ⟨by rfl, ?_⟩) (by assumption) ?_
        rotate_left 1
        · intro w hSw; (try dsimp only at hSw); (go_simp <;> with_reducible rfl)
        simp only [Act.put, List.getElem_toArray, List.getElem_cons_zero, List.getElem_cons_succ, List.setIfInBounds_toArray, List.set_cons_zero, List.set_cons_succ]
        refine wpAnyH_take (i := 4) (v := ?_) rfl (by kernel_rfl) (by kernel_rfl) (by kernel_rfl) (fun _ _ _ h => h) (Or.inl ⟨by rfl, ?_⟩) (by assumption) ?_
        rotate_left 1
        · intro w hSw; (try dsimp only at hSw); (go_simp <;> with_reducible rfl)
        simp only [Act.put, List.getElem_toArray, List.getElem_cons_zero, List.getElem_cons_succ, List.setIfInBounds_toArray, List.set_cons_zero, List.set_cons_succ]
        refine wpAnyH_take (i := 5) (v := ?_) rfl (by kernel_rfl) (by kernel_rfl) (by kernel_rfl) (fun _ _ _ h => h) (Or.inl ⟨by rfl, ?_⟩) (by assumption) ?_
        rotate_left 1
        · intro w hSw; (try dsimp only at hSw); (go_simp <;> with_reducible rfl)
        simp only [Act.put, List.getElem_toArray, List.getElem_cons_zero, List.getElem_cons_succ, List.setIfInBounds_toArray, List.set_cons_zero, List.set_cons_succ]
        refine wpAnyH_take (i := 6) (v := ?_) rfl (by kernel_rfl) (by kernel_rfl) (by kernel_rfl) (fun _ _ _ h => h) (Or.inl ⟨by rfl, ?_⟩) (by assumption) ?_
        rotate_left 1
        · intro w hSw; (try dsimp only at hSw); (go_simp <;> with_reducible rfl)
        simp only [Act.put, List.getElem_toArray, List.getElem_cons_zero, List.getElem_cons_succ, List.setIfInBounds_toArray, List.set_cons_zero, List.set_cons_succ]
        refine wpAnyH_ready (rs := [7]) (by kernel_rfl) (by simp) ?_
        refine AllReadyH.cons rfl (fun K hK => ?_) AllReadyH.nil
        rw [if_pos (by rfl)]
        simp only [List.getElem_toArray, List.getElem_cons_zero, List.getElem_cons_succ]
        go_simp
        have hs3 := HG.out.2.2
        have hss4 : SS w (V.drew.setCell ⟨cb, x * 3, none⟩ (.int .u8 (y : Int))) S cb bx (putF xs S h (k + 1)) r := HG.out.1.keeps ⟨rfl, rfl, rfl, Nat.le_refl _, fun _ _ _ => rfl⟩
        refine hK.out _ _ ⟨cell_of hss4.box 0, (hss4.row.cell k (by omega)).trans (by rw [← cr, hs3.row.cell k (by omega)])⟩ (fun hS => ?_)
        refine wpAnyH_done (by kernel_rfl) ?_ _
        simp only [onward]
        have hss5 : SS w (V.setCell ⟨cb, x * 3, none⟩ (.int .u8 (y : Int))).drew S cb bx (putF xs S h (k + 1)) r := HG.out.1.keeps ⟨rfl, rfl, rfl, Nat.le_refl _, fun _ _ _ => rfl⟩
        have hkv : Keep (fun j => j = cb) V (V.setCell ⟨cb, x * 3, none⟩ (.int .u8 (y : Int))).drew := (Keep.setCell (S := fun j => j = cb) (p := ⟨cb, x * 3, none⟩) (Keep.refl _ V) (fun _ => rfl) _).drew
        have hb := HG.out.2.1
        refine ⟨⟨hkv.size, fun j o _ hjo hc => hkv.obj hjo ?_⟩, hss5, hkv.obj hb.1 (by omega), hkv.obj hb.2 (by omega)⟩
        rintro rfl
        obtain ⟨cs, hcs, _⟩ := hs3.tab.obj
        rw [hcs] at hjo; cases hjo; cases hc
      case done =>
        rintro V ⟨hss, hpbx⟩ hK
        gi_wp2
        refine ⟨by simp, .inl ⟨_, _, rfl, run_takeDeferred hK, ?_⟩⟩
        have hk : Keep (fun k => k = W4.heap.size) V (V.putObj W4.heap.size (.deferred none)) := (Keep.refl _ V).putObj _ _ (fun _ => rfl)
        refine ⟨_, results_none rfl _ _ _, rfl, ?_, ?_⟩
        · have := hss.tab.keep hk (by omega)
          unfold symF symO
          rw [← HF2.out.2]
          exact this
        · exact hss.keep.trans hk (fun j hj e => by have := HBX.out; omega)
end

end Go.Proofs.YtcoahkmiebeeeaaGreatDoor

namespace Go.Proofs.YtcoahkmiebeeeaaGreatDoor.Tl
open Go.RowKit Go.Shelf

attribute [local go_sem] Oper.semAt_some

set_option maxHeartbeats 1000000 in
theorem backwards_in (F : Fence) (n : Nat) (h20 : F.fn 98) (hro : F.round = none) (sa : Option Addr) (len cap : Nat) (fr to : Int) (w : World) :
    CallsIn F n Tryz.prog 98 #[.slice sa len cap, .int .i64 fr, .int .i64 to] w fun e w' => e = .returned (.func (.func 119) #[] #[.pointer (some ⟨w.heap.size + 1, 0, none⟩), .pointer (some ⟨w.heap.size + 2, 0, none⟩), .pointer (some ⟨w.heap.size, 0, none⟩)]) ∧
      w' = ((w.alloc (.cells #[.slice sa len cap] 22)).alloc (.cells #[.int .i64 fr] 3)).alloc (.cells #[.int .i64 to] 3) := by
  refine callsIn_of_wp Tryz.func98 rfl h20 ?_ hro
  simp only [Tryz.ntmps98, List.size_toArray, List.length_cons, List.length_nil, Nat.reduceAdd, Nat.reduceSub, Array.replicate_succ, Array.replicate_zero, List.push_toArray, List.append_toArray, List.nil_append, List.cons_append]
  gi_wp2
  go_ret
  exact ⟨rfl, rfl⟩

set_option maxHeartbeats 1000000 in
theorem lowest_in (F : Fence) (n : Nat) (h21 : F.fn 62) (hro : F.round = none) (x k : Int) (w : World) :
    CallsIn F n Tryz.prog 62 #[.int .u64 x, .int .i64 k] w fun e w' => e = .returned (.func (.func 84) #[] #[.pointer (some ⟨w.heap.size + 1, 0, none⟩), .pointer (some ⟨w.heap.size, 0, none⟩)]) ∧
      w' = (w.alloc (.cells #[.int .u64 x] 54)).alloc (.cells #[.int .i64 k] 3) := by
  refine callsIn_of_wp Tryz.func62 rfl h21 ?_ hro
  simp only [Tryz.ntmps62, List.size_toArray, List.length_cons, List.length_nil, Nat.reduceAdd, Nat.reduceSub, Array.replicate_succ, Array.replicate_zero, List.push_toArray, List.append_toArray, List.nil_append, List.cons_append]
  gi_wp2
  go_ret
  exact ⟨rfl, rfl⟩

set_option maxRecDepth 100000 in
set_option maxHeartbeats 1000000 in
theorem lowest1_in (F : Fence) (n : Nat) (h24 : F.fn 84) (hro : F.round = none) (hn : 1 ≤ n) (l Bx Bn : Nat) (x m : Nat) (hx : x < 18446744073709551616) (hm : m ≤ 56) (J Jx : List (Fin 2) → World → Prop)
    (hY : ∀ pre b W, J pre W → pre.length < m → YieldAt F (n - 1) Tryz.prog l #[.int .u8 (b.val : Int)] W fun e W' =>
      (e = .returned (.bool true) ∧ J (pre ++ [b]) W' ∧ Stay (fun k => k = Bx ∨ k = Bn) W W') ∨ (e = .returned (.bool false) ∧ Jx (pre ++ [b]) W'))
    (W : World) (hBx : W.heap[Bx]? = some (.cells #[.int .u64 (x : Int)] 54 (0, 0))) (hBn : W.heap[Bn]? = some (.cells #[.int .i64 (m : Int)] 3 (0, 0))) (h0 : J [] W) :
    CallsIn F n Tryz.prog 84 #[.func (.yield l) #[] #[], .pointer (some ⟨Bn, 0, none⟩), .pointer (some ⟨Bx, 0, none⟩)] W fun e W' => (∃ v, e = .returned v) ∧
      ((∃ ys, ys = upto (fun j => (⟨bitOf x j, bitOf_lt x j⟩ : Fin 2)) m ∧ J ys W') ∨ (∃ pre, True ∧ Jx pre W')) := by
  have hBn0 := cell_of hBn 0
  refine callsIn_of_wp Tryz.func84 rfl h24 ?_ hro
  simp only [Tryz.ntmps84, List.size_toArray, List.length_cons, List.length_nil, Nat.reduceAdd, Nat.reduceSub, Array.replicate_succ, Array.replicate_zero, List.push_toArray, List.append_toArray, List.nil_append, List.cons_append]
  gi_wp2
  gi_loopw [6] (fun i wr => ∃ k : Nat, k ≤ m ∧ i = .int .i64 k ∧ J (upto (fun j => (⟨bitOf x j, bitOf_lt x j⟩ : Fin 2)) k) wr ∧ Stay (fun k => k = Bx ∨ k = Bn) W wr)
    (fun i _ => m - (intOf i).toNat)
  case atStart => exact ⟨0, Nat.zero_le _, rfl, h0, fun _ _ => rfl⟩
  case round =>
    obtain ⟨k, hk, rfl, hJs, hnx⟩ := hrel
    have hBx1 : wr.heap[Bx]? = _ := (hnx Bx (.inl rfl)).trans hBx
    have hcx : wr.cell? ⟨Bx, 0, none⟩ = some (.int .u64 (x : Int)) := cell_of hBx1 0
    by_cases hlt : k < m
    · obtain ⟨fn, tmps, assign, body, hy, hR⟩ := hY _ (⟨bitOf x k, bitOf_lt x k⟩ : Fin 2) wr hJs (by rw [upto_length]; exact hlt)
      dsimp only at hy
      have hb1 := and_bit_u64 x k hx
      have hb2 : ((bitOf x k : Nat) : Int) % 256 = ((bitOf x k : Nat) : Int) := by have := bitOf_lt x k; omega
      gi_wp2
      refine hR.mono ?_
      rintro e W3 (⟨rfl, hJ3, hk3⟩ | ⟨rfl, hJx3⟩)
      · gi_wp2
        go_roundw
        case rel => exact ⟨k + 1, by omega, by simp, by rw [upto_succ]; exact hJ3, hnx.trans hk3⟩
        case measure => simp [intOf]; omega
      · gi_wp2
        refine bodyPost_ret (results_none rfl _ _ _) rfl ?_
        exact ⟨⟨_, rfl⟩, .inr ⟨_, trivial, hJx3⟩⟩
    · obtain rfl : k = m := by omega
      gi_wp2
      go_end0
      exact ⟨⟨_, rfl⟩, .inl ⟨_, rfl, hJs⟩⟩

theorem wrap_div (c q : Nat) (hc : c < 18446744073709551616) : IntKind.u64.wrap ((c : Int) / 2 ^ q) = (c : Int) / 2 ^ q := by
  have e : ((c : Int) / 2 ^ q) = ((c / 2 ^ q : Nat) : Int) := by simp
  have h : c / 2 ^ q ≤ c := Nat.div_le_self _ _
  rw [e]
  generalize c / 2 ^ q = z at h ⊢
  rw [IntKind.wrap_u64]; omega

def bitBack (bs : List Nat) (fr j : Nat) : Fin 2 := ⟨bitAt bs (fr - 1 - j), bitAt_lt _ _⟩

set_option maxRecDepth 100000 in
set_option maxHeartbeats 1000000 in
theorem back1_in (F : Fence) (n : Nat) (h23 : F.fn 119) (hro : F.round = none) (hn : 1 ≤ n) (l Bs Bf Bt g cap : Nat) (sa : Option Addr) (bs : List Nat) (hsa : sa = some ⟨g, 0, none⟩ ∨ bs = []) (hlen : bs.length < 140737488355328) (hbs : ∀ j : Nat, bs[j]?.getD 0 < 256) (p m : Nat) (hp : p + m ≤ 8 * bs.length) (hm : m ≤ 56) (J Jx : List (Fin 2) → World → Prop)
    (hY : ∀ pre (b : Fin 2) W, J pre W → pre.length < m → YieldAt F (n - 1) Tryz.prog l #[.int .u64 (b.val : Int)] W fun e W' =>
      (e = .returned (.bool true) ∧ J (pre ++ [b]) W' ∧ Stay (fun k => k = Bs ∨ k = Bf ∨ k = Bt ∨ k = g) W W') ∨ (e = .returned (.bool false) ∧ Jx (pre ++ [b]) W'))
    (W : World) (hBs : W.heap[Bs]? = some (.cells #[.slice sa bs.length cap] 22 (0, 0))) (hBf : W.heap[Bf]? = some (.cells #[.int .i64 ((p + m : Nat) : Int)] 3 (0, 0))) (hBt : W.heap[Bt]? = some (.cells #[.int .i64 (p : Int)] 3 (0, 0)))
    (hg : ∀ j, j < bs.length → W.cell? ⟨g, j, none⟩ = some (.int .u8 (bs[j]?.getD 0 : Nat))) (h0 : J [] W) :
    CallsIn F n Tryz.prog 119 #[.func (.yield l) #[] #[], .pointer (some ⟨Bf, 0, none⟩), .pointer (some ⟨Bt, 0, none⟩), .pointer (some ⟨Bs, 0, none⟩)] W fun e W' => (∃ v, e = .returned v) ∧
      ((∃ ys, ys = upto (bitBack bs (p + m)) m ∧ J ys W') ∨ (∃ pre, True ∧ Jx pre W')) := by
  have hBf0 : W.cell? ⟨Bf, 0, none⟩ = some (.int .i64 ((p : Int) + (m : Int))) := by
    have := cell_of hBf 0
    simpa using this
  refine callsIn_of_wp Tryz.func119 rfl h23 ?_ hro
  simp only [Tryz.ntmps119, List.size_toArray, List.length_cons, List.length_nil, Nat.reduceAdd, Nat.reduceSub, Array.replicate_succ, Array.replicate_zero, List.push_toArray, List.append_toArray, List.nil_append, List.cons_append]
  gi_wp2
  gi_loopw [5] (fun i wr => ∃ k : Nat, k ≤ m ∧ i = .int .i64 ((p : Int) + m - 1 - k) ∧ J (upto (bitBack bs (p + m)) k) wr ∧ Stay (fun k => k = Bs ∨ k = Bf ∨ k = Bt ∨ k = g) W wr)
    (fun i _ => (intOf i + 1 - p).toNat)
  case atStart => exact ⟨0, Nat.zero_le _, by simp, h0, fun _ _ => rfl⟩
  case round =>
    obtain ⟨k, hk, rfl, hJs, hnx⟩ := hrel
    have hBs1 : wr.heap[Bs]? = _ := (hnx Bs (.inl rfl)).trans hBs
    have hBt1 : wr.heap[Bt]? = _ := (hnx Bt (.inr (.inr (.inl rfl)))).trans hBt
    have hcs : wr.cell? ⟨Bs, 0, none⟩ = some (.slice sa bs.length cap) := cell_of hBs1 0
    have hct : wr.cell? ⟨Bt, 0, none⟩ = some (.int .i64 (p : Int)) := cell_of hBt1 0
    by_cases hlt : k < m
    · obtain ⟨fn, tmps, assign, body, hy, hR⟩ := hY _ (bitBack bs (p + m) k) wr hJs (by rw [upto_length]; exact hlt)
      obtain ⟨i, hi⟩ : ∃ i, p + m - 1 - k = i := ⟨_, rfl⟩
      have hii : (p : Int) + m - 1 - k = (i : Int) := by omega
      have hbb : ((bitBack bs (p + m) k).val : Nat) = bitAt bs i := by rw [← hi]; rfl
      rw [hbb] at hy
      have hidx : i / 8 < bs.length := by omega
      obtain rfl : sa = some ⟨g, 0, none⟩ := by
        rcases hsa with h | h
        · exact h
        · rw [h] at hidx; simp at hidx
      have hcg : wr.cell? ⟨g, i / 8, none⟩ = some (.int .u8 (bs[i / 8]?.getD 0 : Nat)) := (World.cell?_of_block (hnx g (.inr (.inr (.inr rfl))))).trans (hg _ hidx)
      obtain ⟨c, hc⟩ : ∃ c, bs[i / 8]?.getD 0 = c := ⟨_, rfl⟩
      obtain ⟨q, hq⟩ : ∃ q, i % 8 = q := ⟨_, rfl⟩
      have hc256 : c < 256 := by rw [← hc]; exact hbs _
      have hq8 : q < 8 := by omega
      have hba : bitAt bs i = bitOf c q := by unfold bitAt; rw [hc, hq]
      rw [hc] at hcg
      rw [hba] at hy
      have h7 : bits .and .i64 (i : Int) 7 = (q : Int) := by
        have := and_seven_i64 i (by omega)
        rw [hq] at this; exact this
      have hdI : (i : Int) / 8 = ((i / 8 : Nat) : Int) := by omega
      have hb1 := and_bit_u64 c q (by omega)
      have hwr := wrap_div c q (by omega)
      have hb3 := bitOf_lt c q
      have hpi : (p : Int) ≤ (i : Int) := by omega
      have HI := (show Hid _ from hii)
      rw [hii]
      have hil : i < 1125899906842624 := by omega
      generalize i / 8 = d at hcg hidx hdI
      clear hba hc hq hsa hbb hi hii
      gi_wp2
      refine hR.mono ?_
      rintro e W3 (⟨rfl, hJ3, hk3⟩ | ⟨rfl, hJx3⟩)
      · gi_wp2
        go_roundw
        case rel => exact ⟨k + 1, by omega, by have := HI.out; simp; omega, by rw [upto_succ]; exact hJ3, hnx.trans hk3⟩
        case measure => simp [intOf]; omega
      · gi_wp2
        refine bodyPost_ret (results_none rfl _ _ _) rfl ?_
        exact ⟨⟨_, rfl⟩, .inr ⟨_, trivial, hJx3⟩⟩
    · obtain rfl : k = m := by omega
      have hend : (p : Int) + k - 1 - k = (p : Int) - 1 := by omega
      rw [hend]
      gi_wp2
      go_end0
      exact ⟨⟨_, rfl⟩, .inl ⟨_, rfl, hJs⟩⟩

end Go.Proofs.YtcoahkmiebeeeaaGreatDoor.Tl

namespace Go.Proofs.YtcoahkmiebeeeaaGreatDoor.Tl
open Go.RowKit Go.Shelf
set_option linter.unusedVariables false

attribute [local go_sem] Oper.semAt_some
theorem numAt_front (bs : List Nat) (p m : Nat) : numAt bs p (m + 1) = bitAt bs p + 2 * numAt bs (p + 1) m := by
  induction m with
  | zero => simp [numAt]
  | succ m ih =>
    have h1 : numAt bs p (m + 1 + 1) = numAt bs p (m + 1) + bitAt bs (p + (m + 1)) * 2 ^ (m + 1) := rfl
    have h2 : numAt bs (p + 1) (m + 1) = numAt bs (p + 1) m + bitAt bs (p + 1 + m) * 2 ^ m := rfl
    rw [h1, ih, h2, show p + (m + 1) = p + 1 + m from by omega, Nat.pow_succ, Nat.mul_add, Nat.mul_comm (2 ^ m) 2, Nat.mul_left_comm]
    omega

def valOf (l : List (Fin 2)) : Nat := l.foldl (fun a b => 2 * a + b.val) 0
theorem valOf_snoc (l : List (Fin 2)) (b : Fin 2) : valOf (l ++ [b]) = 2 * valOf l + b.val := by simp [valOf]
theorem valOf_lt (l : List (Fin 2)) : valOf l < 2 ^ l.length := by
  have key : ∀ (l : List (Fin 2)) (a k : Nat), a < 2 ^ k → l.foldl (fun a b => 2 * a + b.val) a < 2 ^ (k + l.length) := by
    intro l
    induction l with
    | nil => intro a k h; exact h
    | cons b l ih =>
      intro a k h
      have := ih (2 * a + b.val) (k + 1) (by rw [Nat.pow_succ]; have := b.isLt; omega)
      rw [List.foldl_cons, List.length_cons, show k + (l.length + 1) = k + 1 + l.length from by omega]
      exact this
  have := key l 0 0 (by decide)
  rwa [Nat.zero_add] at this
theorem valOf_back (bs : List Nat) (p m k : Nat) (hk : k ≤ m) : valOf (upto (bitBack bs (p + m)) k) = numAt bs (p + m - k) k := by
  induction k with
  | zero => rfl
  | succ k ih =>
    rw [upto_succ, valOf_snoc, ih (by omega), numAt_front, show p + m - (k + 1) + 1 = p + m - k from by omega]
    have e : ((bitBack bs (p + m) k).val : Nat) = bitAt bs (p + m - (k + 1)) := by
      show bitAt bs (p + m - 1 - k) = _
      rw [show p + m - 1 - k = p + m - (k + 1) from by omega]
    rw [e]; omega

theorem or_low (x b : Nat) (hx : x < 9223372036854775808) (hb : b < 2) : bits .or .u64 (((2 * x : Nat) : Int)) (b : Int) = ((2 * x + b : Nat) : Int) := by
  rw [u64_or_nat (2 * x) b (by omega) (by omega), nat_join 1 _ _ (by omega) (by omega)]

/-- Block rb is a reader over the bytes bs, which lie in block g: u bits are not read, a were read ahead of the first one. -/
structure IsR (W : World) (rb g : Nat) (bs : List Nat) (u a : Nat) : Prop where
  lt : g < W.heap.size
  obj : ∃ sa cap, (sa = some (⟨g, 0, none⟩ : Addr) ∨ bs = []) ∧ W.heap[rb]? = some (.cells #[.slice sa bs.length cap, .int .i64 (u : Int), .int .i64 (a : Int)] 141 (0, 0))
  cells : ∀ j, j < bs.length → W.cell? ⟨g, j, none⟩ = some (.int .u8 ((bs[j]?.getD 0 : Nat) : Int))
  fits : bs.length < 140737488355328
  bytes : ∀ j : Nat, bs[j]?.getD 0 < 256
  in_ : u ≤ 8 * bs.length
  most : a ≤ 1099511627776

theorem IsR.ne {W : World} {rb g : Nat} {bs : List Nat} {u a : Nat} (h : IsR W rb g bs u a) (hb : bs ≠ []) : g ≠ rb := by
  rintro rfl
  obtain ⟨sa, cap, _, ho⟩ := h.obj
  have h0 := h.cells 0 (List.length_pos_iff.2 hb)
  rw [cell_of ho 0] at h0
  simp at h0
theorem IsR.keep {W W' : World} {S : Nat → Prop} {rb g : Nat} {bs : List Nat} {u a : Nat} (h : IsR W rb g bs u a) (hk : Keep S W W') (h1 : ¬ S rb) (h2 : bs ≠ [] → ¬ S g) : IsR W' rb g bs u a := by
  obtain ⟨sa, cap, hsa, ho⟩ := h.obj
  refine ⟨Nat.lt_of_lt_of_le h.lt hk.size, ⟨sa, cap, hsa, hk.obj ho h1⟩, fun j hj => ?_, h.fits, h.bytes, h.in_, h.most⟩
  have hne : bs ≠ [] := by rintro rfl; simp at hj
  exact (World.cell?_of_block (hk.block g h.lt (h2 hne))).trans (h.cells j hj)
theorem IsR.drewN {W : World} {rb g : Nat} {bs : List Nat} {u a : Nat} (h : IsR W rb g bs u a) (n : Nat) : IsR (W.drewN n) rb g bs u a := ⟨h.lt, h.obj, h.cells, h.fits, h.bytes, h.in_, h.most⟩

set_option maxHeartbeats 400000 in
theorem left_any (rb g : Nat) (bs : List Nat) (u a : Nat) (w : World) (h : IsR w rb g bs u a) :
    Calls Tryz.prog 52 #[.pointer (some ⟨rb, 0, none⟩)] w fun e w' => e = .returned (.int .i64 ((u : Int) - a)) ∧ ∃ n, w' = w.drewN n := by
  obtain ⟨sa, cap, hsa, ho⟩ := h.obj
  have hc1 : w.cell? ⟨rb, 1, none⟩ = some (.int .i64 (u : Int)) := cell_of ho 1
  have hc2 : w.cell? ⟨rb, 2, none⟩ = some (.int .i64 (a : Int)) := cell_of ho 2
  have hf := h.fits
  have hi := h.in_
  have hm := h.most
  clear h ho hsa
  go_enter Tryz.func52, Tryz.ntmps52
  go_wp2
  go_quiet (fail)
  go_wp2
  go_ret
  exact ⟨rfl, _, rfl⟩

set_option maxHeartbeats 400000 in
theorem back_there (rb u a m : Nat) (sl : Value) (w : World) (ho : w.heap[rb]? = some (.cells #[sl, .int .i64 (u : Int), .int .i64 (a : Int)] 141 (0, 0))) (hu : u < 2251799813685248) (ha : a ≤ 1099511627776) (hm : m ≤ 56) (hmu : m ≤ u) :
    Calls Tryz.prog 97 #[.pointer (some ⟨rb, 1, none⟩), .int .i64 (m : Int)] w fun e w' => e = .returned (.int .i64 0) ∧ w'.heap[rb]? = some (.cells #[sl, .int .i64 ((u - m : Nat) : Int), .int .i64 (a : Int)] 141 (0, 0)) ∧ Keep (fun k => k = rb) w w' := by
  have hc1 : w.cell? ⟨rb, 1, none⟩ = some (.int .i64 (u : Int)) := cell_of ho 1
  have hc2 : w.cell? ⟨rb, 2, none⟩ = some (.int .i64 (a : Int)) := cell_of ho 2
  have hf1 := frozen_of ho 1
  have hf2 := frozen_of ho 2
  go_enter Tryz.func97, Tryz.ntmps97
  go_wp2
  go_ret
  refine ⟨rfl, (set_obj (set_obj ho 1 _) 2 _).trans ?_, ((Keep.refl (fun k => k = rb) w).setCell (p := ⟨rb, 1, none⟩) (fun _ => rfl) _).setCell (p := ⟨rb, 2, none⟩) (fun _ => rfl) _⟩
  have e : ((u - m : Nat) : Int) = (u : Int) - m := by omega
  rw [e]
  simp

set_option maxHeartbeats 400000 in
theorem back_ahead (rb u a m b : Nat) (sl : Value) (w : World) (ho : w.heap[rb]? = some (.cells #[sl, .int .i64 (u : Int), .int .i64 (a : Int)] 141 (0, 0))) (ha : a ≤ 1099511627776) (hm : m ≤ 56) (hmu : u < m) (hb : b = min (a + (m - u)) 1099511627776) :
    Calls Tryz.prog 97 #[.pointer (some ⟨rb, 1, none⟩), .int .i64 (m : Int)] w fun e w' => e = .returned (.int .i64 ((m - u : Nat) : Int)) ∧ w'.heap[rb]? = some (.cells #[sl, .int .i64 0, .int .i64 (b : Int)] 141 (0, 0)) ∧ Keep (fun k => k = rb) w w' := by
  have hc1 : w.cell? ⟨rb, 1, none⟩ = some (.int .i64 (u : Int)) := cell_of ho 1
  have hc2 : w.cell? ⟨rb, 2, none⟩ = some (.int .i64 (a : Int)) := cell_of ho 2
  have hf1 := frozen_of ho 1
  have hf2 := frozen_of ho 2
  have HB := (show Hid _ from hb)
  clear hb
  by_cases hq : a + (m - u) ≤ 1099511627776
  · have hq2 : (a : Int) + m - u ≤ 1099511627776 := by omega
    go_enter Tryz.func97, Tryz.ntmps97
    go_wp2
    go_ret
    refine ⟨by simp; omega, (set_obj (set_obj ho 1 _) 2 _).trans ?_, ((Keep.refl (fun k => k = rb) w).setCell (p := ⟨rb, 1, none⟩) (fun _ => rfl) _).setCell (p := ⟨rb, 2, none⟩) (fun _ => rfl) _⟩
    have e : (b : Int) = (a : Int) + m - u := by have := HB.out; omega
    rw [e]
    simp
  · have hq2 : (1099511627776 : Int) < (a : Int) + m - u := by omega
    go_enter Tryz.func97, Tryz.ntmps97
    go_wp2
    go_ret
    refine ⟨by simp; omega, (set_obj (set_obj ho 1 _) 2 _).trans ?_, ((Keep.refl (fun k => k = rb) w).setCell (p := ⟨rb, 1, none⟩) (fun _ => rfl) _).setCell (p := ⟨rb, 2, none⟩) (fun _ => rfl) _⟩
    have e : (b : Int) = 1099511627776 := by have := HB.out; omega
    rw [e]
    simp

theorem back_any (rb u a m t b : Nat) (sl : Value) (ht : t = min m u) (hb : b = min (a + (m - t)) 1099511627776) (w : World) (ho : w.heap[rb]? = some (.cells #[sl, .int .i64 (u : Int), .int .i64 (a : Int)] 141 (0, 0))) (hu : u < 2251799813685248) (ha : a ≤ 1099511627776) (hm : m ≤ 56) :
    Calls Tryz.prog 97 #[.pointer (some ⟨rb, 1, none⟩), .int .i64 (m : Int)] w fun e w' => e = .returned (.int .i64 ((m - t : Nat) : Int)) ∧ w'.heap[rb]? = some (.cells #[sl, .int .i64 ((u - t : Nat) : Int), .int .i64 (b : Int)] 141 (0, 0)) ∧ Keep (fun k => k = rb) w w' := by
  by_cases hmu : m ≤ u
  · obtain rfl : t = m := by omega
    obtain rfl : b = a := by omega
    have := back_there rb u b t sl w ho hu ha hm hmu
    rw [Nat.sub_self]
    exact this
  · obtain rfl : t = u := by omega
    have := back_ahead rb t a m b sl w ho ha hm (by omega) hb
    rw [Nat.sub_self]
    exact this

theorem maxSem_run (ats : Array TypeId) (ty : TypeId) (a b c : Int) (h : c = max a b) (w : World) : (maxSem ats ty #[.int .i64 a, .int .i64 b]).run Tryz.prog w = .ok (.int .i64 c) w := by
  have e : (maxSem ats ty #[.int .i64 a, .int .i64 b]) = pure (.int .i64 (if b > a then b else a)) := rfl
  rw [e, h, show max a b = (if b > a then b else a) from by split <;> omega]
  rfl
theorem minSem_run (ats : Array TypeId) (ty : TypeId) (a b c : Int) (h : c = min a b) (w : World) : (minSem ats ty #[.int .i64 a, .int .i64 b]).run Tryz.prog w = .ok (.int .i64 c) w := by
  have e : (minSem ats ty #[.int .i64 a, .int .i64 b]) = pure (.int .i64 (if b < a then b else a)) := rfl
  rw [e, h, show min a b = (if b < a then b else a) from by split <;> omega]
  rfl

theorem back_stops (n : Nat) (hn : 1 ≤ n) (Bs Bf Bt g cap : Nat) (sa : Option Addr) (bs : List Nat) (hsa : sa = some ⟨g, 0, none⟩ ∨ bs = []) (hlen : bs.length < 140737488355328) (hbs : ∀ j : Nat, bs[j]?.getD 0 < 256) (p m u : Nat) (hu : u = p + m) (hp : p + m ≤ 8 * bs.length) (hm : m ≤ 56)
    (W : World) (hBs : W.heap[Bs]? = some (.cells #[.slice sa bs.length cap] 22 (0, 0))) (hBf : W.heap[Bf]? = some (.cells #[.int .i64 (u : Int)] 3 (0, 0))) (hBt : W.heap[Bt]? = some (.cells #[.int .i64 (p : Int)] 3 (0, 0)))
    (hgl : g < W.heap.size) (hg : ∀ j, j < bs.length → W.cell? ⟨g, j, none⟩ = some (.int .u8 (bs[j]?.getD 0 : Nat))) :
    SeqStopsK Fence.wide n Tryz.prog 119 #[.pointer (some ⟨Bf, 0, none⟩), .pointer (some ⟨Bt, 0, none⟩), .pointer (some ⟨Bs, 0, none⟩)] (fun b : Fin 2 => #[Value.int .u64 (b.val : Int)])
      (Stay (fun k => k = Bs ∨ k = Bf ∨ k = Bt ∨ k = g)) (fun ys => ys = upto (bitBack bs (p + m)) m) (fun _ => True) m W := fun l J Jx W1 hW _ _ hY h0 => by
  subst hu
  refine back1_in Fence.wide n trivial rfl hn l Bs Bf Bt g cap sa bs hsa (by omega) hbs p m hp hm J Jx hY W1 ((hW.block _ (obj_lt hBs)).trans hBs) ((hW.block _ (obj_lt hBf)).trans hBf) ((hW.block _ (obj_lt hBt)).trans hBt) (fun j hj => (hW.cell (p := ⟨g, j, none⟩) hgl).trans (hg j hj)) h0

section
attribute [local go_sem] maxSem_eq minSem_eq
set_option maxRecDepth 100000 in
set_option maxHeartbeats 1000000 in
theorem bits_read (rb g : Nat) (bs : List Nat) (p t z u m a b : Nat) (n : Int) (w : World) (h : IsR w rb g bs u a) (hu : u = p + t) (hmz : m = t + z) (hpz : z = 0 ∨ p = 0) (hn : (m : Int) = min (max n 0) 56) (hb : b = min (a + z) 1099511627776) :
    Calls Tryz.prog 72 #[.pointer (some ⟨rb, 0, none⟩), .int .i64 n] w fun e w' => e = .returned (.int .u64 ((numAt bs p t * 2 ^ z : Nat) : Int)) ∧ IsR w' rb g bs p b ∧ Keep (fun k => k = rb) w w' := by
  obtain ⟨sa, cap, hsa, ho⟩ := h.obj
  have hm : m ≤ 56 := by omega
  have hfit := h.fits
  have hin := h.in_
  have hc1 : w.cell? ⟨rb, 1, none⟩ = some (.int .i64 (u : Int)) := cell_of ho 1
  obtain ⟨X, hX⟩ : ∃ X : Int, X = max n 0 := ⟨_, rfl⟩
  have hmax := maxSem_run #[3, 3] 3 n 0 X hX
  have hmin := minSem_run #[3, 3] 3 X 56 m (by rw [hX]; exact hn)
  have HU := (show Hid _ from hu)
  have HM := (show Hid _ from hmz)
  have HB := (show Hid _ from hb)
  have HR : Hid (∀ w : World, w.heap[rb]? = some (.cells #[.slice sa bs.length cap, .int .i64 (u : Int), .int .i64 (a : Int)] 141 (0, 0)) → Calls Tryz.prog 97 #[.pointer (some ⟨rb, 1, none⟩), .int .i64 (m : Int)] w fun e w' => e = .returned (.int .i64 (z : Int)) ∧ w'.heap[rb]? = some (.cells #[.slice sa bs.length cap, .int .i64 (p : Int), .int .i64 (b : Int)] 141 (0, 0)) ∧ Keep (fun k => k = rb) w w') := fun w ho => by
    have := back_any rb u a m t b (.slice sa bs.length cap) (by omega) (by rw [hb]; congr 2; omega) w ho (by omega) h.most hm
    rw [show m - t = z from by omega, show u - t = p from by omega] at this
    exact this
  have hz64 : z ≤ 56 := by omega
  have ht56 : t ≤ 56 := by omega
  have hrb : rb < w.heap.size := obj_lt ho
  clear hX hn hb hpz hu hmz
  refine (callsIn_wide (n := 4)).1 ?_
  refine callsIn_of_wp_marks Tryz.func72 rfl trivial ?_ rfl
  simp only [Tryz.ntmps72, List.size_toArray, List.length_cons, List.length_nil, Nat.reduceAdd, Nat.reduceSub, Array.replicate_succ, Array.replicate_zero, List.push_toArray, List.append_toArray, List.nil_append, List.cons_append]
  have hmx : Tryz.prog.follows .mixedOrders = true := by kernel_rfl
  gi_wp2_with (refine ⟨trivial, ?_⟩; gi_at_call 97; refine (callsIn_wide.2 (HR.out _ ho)).mono ?_; rintro e w1 ⟨rfl, ho1, hK1⟩; have hz1 := cell_of (alloc_far ho1 (.cells #[.int .u64 0] 54)) 0; have hz2 := cell_of (alloc_far ho1 (.cells #[.int .u64 0] 54)) 1; simp at hz1 hz2)
  refine wpIn_calm ?_
  gi_region_with_o (refine ⟨trivial, ?_⟩; gi_at_call 98; refine (backwards_in Fence.wide _ trivial rfl _ _ _ _ _ _).mono ?_; rintro e w' ⟨rfl, rfl⟩)
  all_goals
    simp only [calm]
    gi_wp2
    have hlt1 : g < w1.heap.size := Nat.lt_of_lt_of_le h.lt hK1.size
    have hrb1 : rb < w1.heap.size := obj_lt ho1
    have hsz1 := hK1.size
    have hcells1 : ∀ j, j < bs.length → w1.cell? ⟨g, j, none⟩ = some (.int .u8 ((bs[j]?.getD 0 : Nat) : Int)) := fun j hj => by
      have hne : bs ≠ [] := by rintro rfl; simp at hj
      exact (World.cell?_of_block (hK1.block g h.lt (h.ne hne))).trans (h.cells j hj)
    obtain ⟨b0, b1, b2, b3, bsz, bkp⟩ := boxes4 w1 (Obj.cells #[Value.int IntKind.u64 0] 54) (Obj.cells #[Value.slice sa bs.length cap] 22) (Obj.cells #[Value.int IntKind.i64 ↑u] 3) (Obj.cells #[Value.int IntKind.i64 ↑p] 3)
    generalize ((((w1.alloc (Obj.cells #[Value.int IntKind.u64 0] 54)).alloc (Obj.cells #[Value.slice sa bs.length cap] 22)).alloc (Obj.cells #[Value.int IntKind.i64 ↑u] 3)).alloc (Obj.cells #[Value.int IntKind.i64 ↑p] 3)).drew = W0 at b0 b1 b2 b3 bsz bkp ⊢
    refine wpIn_rangeFunc_ownG rfl (by omega) (gf := 119) rfl trivial (enters_of Tryz.func119 (by kernel_rfl) rfl)
      (back_stops 3 (by omega) (w1.heap.size + 1) (w1.heap.size + 1 + 1) (w1.heap.size + 1 + 2) g cap sa bs hsa h.fits h.bytes p t u HU.out (by have := HU.out; omega) ht56 W0 b1 b2 b3 (by omega) (fun j hj => (World.cell?_of_block (bkp.block g hlt1 (fun h => h))).trans (hcells1 j hj)))
      (fun h k => h.trans k) (Stay.putObj (by rintro k (rfl | rfl | rfl | rfl) <;> omega)) (Below.refl _ _) (fun _ => rfl)
      (fun pre W => Boxed W w1.heap.size 54 (.int .u64 (valOf pre : Nat)) ∧ Keep (fun k => k = w1.heap.size) W0 W)
      (fun _ _ _ => False)
      (OwnFrom.and (Own.from (boxed_own _ _ _) _) (ownFrom_keep (Nat.le_refl _)))
      (fun _ _ _ _ _ hs _ _ => hs)
      ⟨b0, Keep.refl _ _⟩
      (fun x => { tmps := #[.pointer (some ⟨rb, 0, none⟩), .int .i64 (m : Int), undef, undef, .int .u64 0, .int .i64 (u : Int), .int .i64 (z : Int), .pointer (some ⟨w1.heap.size, 0, none⟩), .int .u64 ((x.val : Nat) : Int),
        .pointer (some ⟨rb, 0, none⟩), .bool false, .int .i64 n, .int .i64 X, .int .i64 (m : Int), .pointer (some ⟨rb, 0, none⟩), .pointer (some ⟨rb, 0, none⟩), .pointer (some ⟨rb, 1, none⟩), .pointer (some ⟨rb, 1, none⟩), .int .i64 (u : Int),
        .pointer (some ⟨rb, 0, none⟩), .pointer (some ⟨rb, 0, none⟩), .pointer (some ⟨rb, 1, none⟩), .int .i64 (m : Int), .int .i64 (z : Int), .pointer (some ⟨rb, 0, none⟩), .pointer (some ⟨rb, 0, none⟩), .pointer (some ⟨rb, 0, none⟩), .slice sa bs.length cap, .int .i64 (u : Int),
        .pointer (some ⟨rb, 0, none⟩), .pointer (some ⟨rb, 0, none⟩), .pointer (some ⟨rb, 1, none⟩), .pointer (some ⟨rb, 1, none⟩), .int .i64 (p : Int),
        .func (.func 119) #[] #[.pointer (some ⟨w1.heap.size + 1 + 1, 0, none⟩), .pointer (some ⟨w1.heap.size + 1 + 2, 0, none⟩), .pointer (some ⟨w1.heap.size + 1, 0, none⟩)],
        .int .u64 ((x.val : Nat) : Int), undef, undef, undef, undef, undef, undef, undef], defers := [] }) ?assign ?body ?done ?stop
    case assign =>
      intro l x W K hK
      gi_wp2
      exact hK
    case body =>
      rintro l pre x W ⟨hX, hKp⟩ hlt
      dsimp only
      have hcx := hX.cell
      have hfx := hX.frozen
      have hvl := valOf_lt pre
      have hpw : 2 ^ pre.length ≤ 2 ^ 56 := Nat.pow_le_pow_right (by omega) (by omega)
      have hv56 : valOf pre < 72057594037927936 := by omega
      have hor : bits .or .u64 (((valOf pre : Nat) : Int) * 2) ((x.val : Nat) : Int) = ((valOf (pre ++ [x]) : Nat) : Int) := by
        have := or_low (valOf pre) x.val (by omega) x.isLt
        rw [valOf_snoc, ← this, Int.mul_comm]; rfl
      clear hvl hpw
      gi_wp2
      refine ⟨(KeepsOthers.setCell _ _ _).from _, ?_, hX.set _, hKp.setCell (p := ⟨w1.heap.size, 0, none⟩) (fun _ => rfl) _⟩
      rintro k hk
      exact Below.heap_setCell _ _ _ _ (by rcases hk with rfl | rfl | rfl | rfl <;> (dsimp only; omega))
    case done =>
      rintro D ys W hD rfl ⟨hX, hKp⟩ hK
      have hr : W.heap[rb]? = _ := hKp.obj (bkp.obj ho1 (fun h => h)) (by omega)
      have hcx := hX.cell
      have hval := valOf_back bs p t t (Nat.le_refl _)
      rw [Nat.add_sub_cancel] at hval
      have hnl := numAt_lt bs p t
      have hpw : numAt bs p t * 2 ^ z < 2 ^ 56 := by
        have h1 : numAt bs p t * 2 ^ z < 2 ^ t * 2 ^ z := Nat.mul_lt_mul_of_pos_right hnl (Nat.two_pow_pos z)
        have h2 : 2 ^ (t + z) ≤ 2 ^ 56 := Nat.pow_le_pow_right (by omega) (by have := HM.out; omega)
        rw [← Nat.pow_add] at h1; omega
      have hsh : IntKind.u64.wrap (((numAt bs p t : Nat) : Int) * 2 ^ z) = ((numAt bs p t * 2 ^ z : Nat) : Int) := by
        have e : ((numAt bs p t : Nat) : Int) * 2 ^ z = ((numAt bs p t * 2 ^ z : Nat) : Int) := by simp
        rw [e]; generalize numAt bs p t * 2 ^ z = y at hpw; rw [IntKind.wrap_u64]; omega
      clear hz1 hz2 hpw hnl
      gi_wp2
      refine ⟨by simp, .inl ⟨_, _, rfl, run_takeDeferred hK, ?_⟩⟩
      have hkeep : Keep (fun k => k = rb) w (W.putObj D (.deferred none)) :=
        Keep.putObj ((hK1.trans bkp (fun _ _ h => h.elim)).trans hKp (fun i hi e => by omega)) D _ (fun hd => by omega)
      refine ⟨_, results_tmp rfl _ _ _, by rw [← hval, Int.natCast_mul, Int.natCast_pow]; rfl, ?_, hkeep⟩
      refine ⟨Nat.lt_of_lt_of_le h.lt hkeep.size, ⟨sa, cap, hsa, (World.putObj_heap_other (by omega)).trans hr⟩, fun k hk => ?_, h.fits, h.bytes, by have := HU.out; omega, by have := HB.out; omega⟩
      have hne : bs ≠ [] := by rintro rfl; simp at hk
      exact (World.cell?_of_block (hkeep.block g h.lt (h.ne hne))).trans (h.cells k hk)
    case stop =>
      rintro D c pre W _ _ h _
      exact h.elim
end

end Go.Proofs.YtcoahkmiebeeeaaGreatDoor.Tl

namespace Go.Proofs.YtcoahkmiebeeeaaGreatDoor.Tl
open Go.RowKit Go.Shelf
set_option linter.unusedVariables false
def lenB (c : Nat) : Nat := if c = 0 then 0 else Nat.log2 c + 1

set_option maxRecDepth 100000 in
set_option maxHeartbeats 1000000 in
theorem len8_any (c : Nat) (hc : c < 256) (w : World) : Calls Tryz.prog 70 #[.int .u8 (c : Int)] w fun e w' => e = .returned (.int .i64 ((lenB c : Nat) : Int)) ∧ w' = w := by
  go_enter Tryz.func70, Tryz.ntmps70
  go_wp2
  go_ret
  rename_i hI
  refine ⟨congrArg (fun x => Ending.returned (Value.int .i64 x)) ?_, rfl⟩
  clear w
  revert hI hc
  revert c
  decide +kernel

theorem lenB_pos (c : Nat) (h : c ≠ 0) : 0 < lenB c := by unfold lenB; rw [if_neg h]; omega
theorem lenB_le (c : Nat) (h : c < 256) : lenB c ≤ 8 := by
  unfold lenB
  split
  · omega
  · rename_i h0
    have := (Nat.log2_lt h0 (k := 8)).2 (by omega)
    omega

def tailLen (bs : List Nat) : Nat := 8 * (bs.length - 1) + (lenB (bs[bs.length - 1]?.getD 0) - 1)
theorem tailLen_le (bs : List Nat) (hbs : ∀ j : Nat, bs[j]?.getD 0 < 256) : tailLen bs ≤ 8 * bs.length := by
  have := lenB_le _ (hbs (bs.length - 1))
  unfold tailLen
  by_cases h : bs = []
  · subst h; decide
  · have := List.length_pos_iff.2 h; omega

set_option maxHeartbeats 400000 in
theorem new_none (sa : Option Addr) (cap : Nat) (w : World) : Calls Tryz.prog 50 #[.slice sa 0 cap] w fun e w' => e = .returned (.tuple #[.pointer none, .int .i64 11]) ∧ w' = w := by
  go_enter Tryz.func50, Tryz.ntmps50
  go_wp2
  go_ret2
  exact ⟨rfl, rfl⟩

set_option maxHeartbeats 400000 in
theorem new_zero (gb off cap k : Nat) (w : World) (hk : k < 140737488355328) (hc : w.cell? ⟨gb, off + k, none⟩ = some (.int .u8 0)) : Calls Tryz.prog 50 #[.slice (some ⟨gb, off, none⟩) (k + 1) cap] w fun e w' => e = .returned (.tuple #[.pointer none, .int .i64 11]) ∧ w' = w := by
  go_enter Tryz.func50, Tryz.ntmps50
  go_wp2
  go_ret2
  exact ⟨rfl, rfl⟩

set_option maxHeartbeats 1000000 in
theorem new_mark (gb off cap k c : Nat) (bs : List Nat) (hlen : bs.length = k + 1) (hk : k < 140737488355327) (hbs : ∀ j : Nat, bs[j]?.getD 0 < 256) (w : World) (hck : bs[k]?.getD 0 = c) (hc0 : c ≠ 0)
    (hcs : ∀ j, j < bs.length → w.cell? ⟨gb, off + j, none⟩ = some (.int .u8 ((bs[j]?.getD 0 : Nat) : Int))) :
    Calls Tryz.prog 50 #[.slice (some ⟨gb, off, none⟩) (k + 1) cap] w fun e w' => ∃ rb g, e = .returned (.tuple #[.pointer (some ⟨rb, 0, none⟩), .int .i64 0]) ∧ w.heap.size ≤ rb ∧ w.heap.size ≤ g ∧ IsR w' rb g bs (tailLen bs) 0 ∧ Keep noBlock w w' := by
  have hc : w.cell? ⟨gb, off + k, none⟩ = some (.int .u8 (c : Int)) := by rw [hcs k (by omega), hck]
  have hc256 : c < 256 := by rw [← hck]; exact hbs k
  have hsrc : Src w (.slice (some ⟨gb, off, none⟩) (k + 1) cap) bs := by
    refine .inr ⟨⟨gb, off, none⟩, cap, by rw [hlen], (World.block_lt_of_cell? w ⟨gb, off + k, none⟩ hc :), fun j u hu => ?_⟩
    have hj : j < (u8s bs).length := (List.getElem?_eq_some_iff.1 hu).1
    rw [u8s_length] at hj
    rw [u8s_at bs j hj] at hu
    rw [← hu, show (⟨gb, off, none⟩ : Addr).add j = ⟨gb, off + j, none⟩ from by unfold Addr.add; split <;> simp_all]
    exact hcs j hj
  have hT : tailLen bs = 8 * k + lenB c - 1 := by
    have := lenB_pos c hc0
    unfold tailLen
    rw [hlen, Nat.add_sub_cancel, hck]; omega
  have hTl := tailLen_le bs hbs
  have HT := (show Hid _ from hT)
  have HTL := (show Hid _ from hTl)
  have HL := (show Hid _ from hlen)
  have HC := (show Hid _ from hcs)
  have HCK := (show Hid _ from hck)
  have hl8 := lenB_le c hc256
  have hl0 := lenB_pos c hc0
  have H8 : Hid (∀ w : World, Calls Tryz.prog 70 #[.int .u8 (c : Int)] w fun e w' => e = .returned (.int .i64 ((lenB c : Nat) : Int)) ∧ w' = w) := fun w => len8_any c hc256 w
  generalize tailLen bs = T at HT HTL ⊢
  generalize lenB c = y at hl8 hl0 HT H8
  have hkd : decide ((k : Int) < 0) = false := decide_eq_false (by omega)
  have hce : ((c : Int) == 0) = false := by simp; omega
  clear hT hTl hlen hcs hck
  go_enter Tryz.func50, Tryz.ntmps50
  go_wp2_with (first | (go_at_call 70; refine (H8.out _).mono ?_; rintro e w' ⟨rfl, rfl⟩) | (go_at_call 14; refine (clone_any _ bs (by have := HL.out; omega) _ hsrc).mono ?_; rintro e w1 ⟨v', rfl, hown, hK, hn⟩; obtain ⟨sa, cap1, rfl⟩ := owns_form hown))
  go_ret2
  have hTe : ((T : Nat) : Int) = (k : Int) * 8 + y - 1 := by have := HT.out; omega
  have hTl := HTL.out
  have hlen := HL.out
  rw [← hTe]
  have hk2 : Keep noBlock w' (w1.alloc (.cells #[.slice sa bs.length cap1, .int .i64 (T : Int), .int .i64 0] 141)) := hK.alloc _
  have hsz := hK.size
  have hob := World.alloc_heap_new w1 (.cells #[.slice sa bs.length cap1, .int .i64 (T : Int), .int .i64 0] 141)
  rcases (hown.alloc (.cells #[.slice sa bs.length cap1, .int .i64 (T : Int), .int .i64 0] 141)).2 with ⟨e1, h0⟩ | ⟨g, cap', cur, e1, hb, hg, hr⟩
  · omega
  · simp only [Value.slice.injEq] at e1
    obtain ⟨rfl, _, rfl⟩ := e1
    refine ⟨w1.heap.size, g, rfl, hsz, hb, ⟨obj_lt hg, ⟨_, cap1, .inl rfl, hob⟩, fun j hj => ?_, by omega, hbs, hTl, by decide⟩, hk2⟩
    have := (hown.alloc (.cells #[.slice (some ⟨g, 0, none⟩) bs.length cap1, .int .i64 (T : Int), .int .i64 0] 141)).cells (g := g) rfl j _ (u8s_at bs j hj)
    rwa [add0] at this

theorem new_any (sa : Option Addr) (cap gb off : Nat) (bs : List Nat) (hlen : bs.length ≤ 140737488355327) (hbs : ∀ j : Nat, bs[j]?.getD 0 < 256) (w : World) (hsa : sa = some ⟨gb, off, none⟩ ∨ bs = [])
    (hcs : ∀ j, j < bs.length → w.cell? ⟨gb, off + j, none⟩ = some (.int .u8 ((bs[j]?.getD 0 : Nat) : Int))) :
    (bs[bs.length - 1]?.getD 0 = 0 ∧ Calls Tryz.prog 50 #[.slice sa bs.length cap] w fun e w' => e = .returned (.tuple #[.pointer none, .int .i64 11]) ∧ w' = w) ∨
    (bs[bs.length - 1]?.getD 0 ≠ 0 ∧ Calls Tryz.prog 50 #[.slice sa bs.length cap] w fun e w' => ∃ rb g, e = .returned (.tuple #[.pointer (some ⟨rb, 0, none⟩), .int .i64 0]) ∧ w.heap.size ≤ rb ∧ w.heap.size ≤ g ∧ IsR w' rb g bs (tailLen bs) 0 ∧ Keep noBlock w w') := by
  by_cases hnil : bs = []
  · subst hnil
    exact .inl ⟨rfl, new_none sa cap w⟩
  · obtain rfl : sa = some ⟨gb, off, none⟩ := hsa.elim id (fun e => absurd e hnil)
    obtain ⟨k, hk⟩ : ∃ k, bs.length = k + 1 := ⟨bs.length - 1, by have := List.length_pos_iff.2 hnil; omega⟩
    rw [show bs.length - 1 = k from by omega]
    by_cases h0 : bs[k]?.getD 0 = 0
    · refine .inl ⟨h0, ?_⟩
      have := hcs k (by omega)
      rw [h0] at this
      rw [hk]
      exact new_zero gb off cap k w (by omega) this
    · refine .inr ⟨h0, ?_⟩
      rw [hk]
      exact new_mark gb off cap k _ bs hk (by omega) hbs w rfl h0 hcs

end Go.Proofs.YtcoahkmiebeeeaaGreatDoor.Tl

namespace Go.Proofs.YtcoahkmiebeeeaaGreatDoor.Tl
open Go.RowKit Go.Shelf
set_option linter.unusedVariables false
set_option maxHeartbeats 1000000 in
theorem push_small (wb q c b : Nat) (v : Value) (hq : q < 7) (hc : c < 256) (hb : b < 2) (w : World) (ho : w.heap[wb]? = some (.cells #[v, .int .u8 (c : Int), .int .i64 (q : Int)] 92 (0, 0))) :
    Calls Tryz.prog 63 #[.pointer (some ⟨wb, 0, none⟩), .int .u8 (b : Int)] w fun e w' => e = .returned (.tuple #[]) ∧ w'.heap[wb]? = some (.cells #[v, .int .u8 ((c ||| b * 2 ^ q : Nat) : Int), .int .i64 ((q + 1 : Nat) : Int)] 92 (0, 0)) ∧ Keep (fun k => k = wb) w w' := by
  have hc1 : w.cell? ⟨wb, 1, none⟩ = some (.int .u8 (c : Int)) := cell_of ho 1
  have hc2 : w.cell? ⟨wb, 2, none⟩ = some (.int .i64 (q : Int)) := cell_of ho 2
  have hf1 := frozen_of ho 1
  have hf2 := frozen_of ho 2
  have hor := shl_or_u8 c b q hc hb (by omega)
  have hmx : Tryz.prog.follows .mixedOrders = true := by kernel_rfl
  have h8 : ((q : Int) + 1 == 8) = false := by simp; omega
  go_enter Tryz.func63, Tryz.ntmps63
  go_wp2
  go_region
  all_goals
    go_wp2
    go_end0
    refine ⟨rfl, ?_, (((Keep.refl (fun k => k = wb) w).setCell (p := ⟨wb, 1, none⟩) (fun _ => rfl) _).drew).setCell (p := ⟨wb, 2, none⟩) (fun _ => rfl) _⟩
    refine (set_obj (w := (w.setCell _ _).drew) (set_obj ho 1 _) 2 _).trans ?_
    simp

set_option maxHeartbeats 1000000 in
theorem push_full (wb c b : Nat) (v : Value) (bs : List Nat) (hc : c < 256) (hb : b < 2) (hbl : bs.length < 140737488355327) (w : World) (ho : w.heap[wb]? = some (.cells #[v, .int .u8 (c : Int), .int .i64 7] 92 (0, 0))) (hrow : w.ownsRow 0 5 1 v bs.length (u8s bs)) :
    Calls Tryz.prog 63 #[.pointer (some ⟨wb, 0, none⟩), .int .u8 (b : Int)] w fun e w' => e = .returned (.tuple #[]) ∧ ∃ g cap, w'.heap[wb]? = some (.cells #[.slice (some ⟨g, 0, none⟩) (bs.length + 1) cap, .int .u8 0, .int .i64 0] 92 (0, 0)) ∧
      w'.ownsRow 0 5 1 (.slice (some ⟨g, 0, none⟩) (bs.length + 1) cap) (bs.length + 1) (u8s (bs ++ [c ||| b * 2 ^ 7])) ∧ (v.ownBlock = some g ∨ w.heap.size ≤ g) ∧ Keep (fun k => k = wb ∨ v.ownBlock = some k) w w' := by
  obtain ⟨i0, hi, hz0, hz1, hz2⟩ := info_parts info5
  have hc1 : w.cell? ⟨wb, 1, none⟩ = some (.int .u8 (c : Int)) := cell_of ho 1
  have hc2 : w.cell? ⟨wb, 2, none⟩ = some (.int .i64 7) := cell_of ho 2
  have hf1 := frozen_of ho 1
  have hf2 := frozen_of ho 2
  have hor : bits .or .u8 (c : Int) ((b : Int) * 128) = ((c ||| b * 2 ^ 7 : Nat) : Int) := by
    have h := shl_or_u8 c b 7 hc hb (by omega)
    rw [show (b : Int) * 2 ^ 7 % 256 = (b : Int) * 128 from by omega] at h
    exact h
  have hmx : Tryz.prog.follows .mixedOrders = true := by kernel_rfl
  have hvb := owns_ne hrow ho (by decide)
  generalize c ||| b * 2 ^ 7 = d at hor ⊢
  go_enter Tryz.func63, Tryz.ntmps63
  go_wp2
  go_region
  go_wp2
  have ho1 : ((w.setCell ⟨wb, 1, none⟩ (.int .u8 (d : Int))).setCell ⟨wb, 2, none⟩ (.int .i64 8)).drew.heap[wb]? = some (.cells #[v, .int .u8 (d : Int), .int .i64 8] 92 (0, 0)) := (set_obj (set_obj ho 1 _) 2 _).trans (by simp)
  have hK1 : Keep (fun k => k = wb) w ((w.setCell ⟨wb, 1, none⟩ (.int .u8 (d : Int))).setCell ⟨wb, 2, none⟩ (.int .i64 8)).drew :=
    (((Keep.refl (fun k => k = wb) w).setCell (p := ⟨wb, 1, none⟩) (fun _ => rfl) _).setCell (p := ⟨wb, 2, none⟩) (fun _ => rfl) _).drew
  generalize ((w.setCell ⟨wb, 1, none⟩ (.int .u8 (d : Int))).setCell ⟨wb, 2, none⟩ (.int .i64 8)).drew = W1 at ho1 hK1 ⊢
  clear hc1 hc2 hf1 hf2
  have hrow1 : W1.ownsRow 0 5 1 v bs.length (u8s bs) := by
    refine ⟨hrow.1, ?_⟩
    rcases hrow.2 with hn | ⟨g, cap, cur, rfl, hb', hg, hr⟩
    · exact .inl hn
    · exact .inr ⟨g, cap, cur, rfl, hb', hK1.obj hg (fun e => hvb (by rw [← e]; rfl)), hr⟩
  have hc0 : W1.cell? ⟨wb, 0, none⟩ = some v := cell_of ho1 0
  have hc1 : W1.cell? ⟨wb, 1, none⟩ = some (.int .u8 (d : Int)) := cell_of ho1 1
  have hwb := obj_lt ho1
  have hmax : bs.length + 1 ≤ maxLen := by unfold maxLen; omega
  obtain ⟨sa, cap0, rfl⟩ := owns_form hrow1
  go_region_law (refine step_append_lies _ rfl (.tmp 33) (.tmp 38) 22 rfl 0 5 i0 (.int .u8 0) 1 1 Tryz.underlying22 hi hz0 hz1 hz2 rfl (by decide) (.slice sa bs.length cap0) bs.length (u8s bs) (by simp [Act.eval]) (hrow1.alloc _) ⟨W1.heap.size, 0, none⟩ 1 1 [.int .u8 (d : Int)] (by simp [Act.eval]) rfl (World.news_of_block (World.alloc_heap_new W1 _)) (by simp [Value.oneCell']) (by decide) hmax (by omega) (Nat.zero_le _) (W1.heap.size + 1) (by simp) ?_; intro g cap w1 hown hgrow hat hlt; have hob1 := (hgrow.block wb (by simp; omega) (Ne.symm hvb)).trans (alloc_far ho1 _); have hcb := cell_of hob1 0; have hfb := frozen_of hob1 0)
  all_goals
    have hne : g ≠ wb := by
      rintro rfl
      rcases hat with e | e
      · exact hvb e
      · omega
    have ho2 : (w1.setCell ⟨wb, 0, none⟩ (.slice (some ⟨g, 0, none⟩) (bs.length + 1) cap)).heap[wb]? = some (.cells #[.slice (some ⟨g, 0, none⟩) (bs.length + 1) cap, .int .u8 (d : Int), .int .i64 8] 92 (0, 0)) := (set_obj hob1 0 _).trans (by simp)
    have hown2 : (w1.setCell ⟨wb, 0, none⟩ (.slice (some ⟨g, 0, none⟩) (bs.length + 1) cap)).ownsRow 0 5 1 (.slice (some ⟨g, 0, none⟩) (bs.length + 1) cap) (bs.length + 1) (u8s (bs ++ [d])) := by
      have := owns_far hown hne 0 (.slice (some ⟨g, 0, none⟩) (bs.length + 1) cap)
      simpa [u8s] using this
    have hk2 : Keep (fun k => k = wb ∨ (Value.slice sa bs.length cap0).ownBlock = some k) w (w1.setCell ⟨wb, 0, none⟩ (.slice (some ⟨g, 0, none⟩) (bs.length + 1) cap)) :=
      ((((hK1.mono (T := fun k => k = wb ∨ (Value.slice sa bs.length cap0).ownBlock = some k) (fun _ _ e => .inl e)).alloc _).drew).grown hgrow (fun k e _ => .inr e)).setCell (p := ⟨wb, 0, none⟩) (fun _ => .inl rfl) _
    have hgw : (Value.slice sa bs.length cap0).ownBlock = some g ∨ w.heap.size ≤ g := hat.imp id (fun e => by have := hK1.size; omega)
    generalize w1.setCell ⟨wb, 0, none⟩ (.slice (some ⟨g, 0, none⟩) (bs.length + 1) cap) = W2 at ho2 hown2 hk2 ⊢
    clear hcb hfb hob1 hgrow hown hrow1 ho1 hc0 hc1 hrow ho hz0 hz1 hz2 hi hK1
    have hd1 : W2.cell? ⟨wb, 1, none⟩ = some (.int .u8 (d : Int)) := cell_of ho2 1
    have hd2 : W2.cell? ⟨wb, 2, none⟩ = some (.int .i64 8) := cell_of ho2 2
    have hf1 := frozen_of ho2 1
    have hf2 := frozen_of ho2 2
    go_wp2
    go_end0
    refine ⟨rfl, g, cap, (set_obj (set_obj ho2 1 _) 2 _).trans (by simp), owns_far (owns_far hown2 hne 1 _) hne 2 _, hgw, (hk2.setCell (p := ⟨wb, 1, none⟩) (fun _ => .inl rfl) _).setCell (p := ⟨wb, 2, none⟩) (fun _ => .inl rfl) _⟩

end Go.Proofs.YtcoahkmiebeeeaaGreatDoor.Tl
