/-
  A region that draws its order, inside the body of a range over a function: walked as outside of it.
  Arrays of numbers and of cells, as blocks.
  setSymbols: each state is given its symbol.
  The two iterators of package tail, and the calls that make them.
-/
import Derived.Deep.RegionHeld3
import Derived.Sort.QuietIn
import Derived.RangeFuncNested
import Derived.RangeFuncBound
import Derived.RangeFuncCalls
import Derived.RangeFuncLeaves
import Derived.Shelf.Abstract
import Derived.Shelf.RegionOpen
import Derived.WalkKit
import Derived.OwnWalkIn
import Derived.TacticsInMore
import Derived.LoopNIn
import Derived.LoopIn
import Derived.WalkSmall
import Derived.Test.YtnjilcokkhodmaaGreatDoorProg
import Derived.Test.YtnjilcokkhodmaaGreatDoorZP2
namespace Go.Proofs.YtnjilcokkhodmaaGreatDoor
open Go.RowKit Go.Shelf

theorem rows_wide {n : Nat} {P : Program} {row : String} {args : Array Value} {w : World} {R : Value → World → Prop} (h : Rows P row args w R) : RowsIn Fence.wide n P row args w R :=
 fun c cs _ => let ⟨v, w', r, s⟩ := h c cs; ⟨v, w', r, stepsIn_wide.2 s⟩
theorem upon_round {l n : Nat} {P : Program} {o : Oper} {a : Act} {next : Act → World → Prop} {Q : Exit → Act → World → Prop} {r : Result Next} (h : o.upon P a next Q r) : o.uponIn (Fence.wide.inRound l) n P a next Q r := by
  cases r with
  | ok nx w' =>
    cases nx with
    | value v => exact h
    | skip => exact h
    | defer d => exact h
    | enter f args => exact ⟨(fun e => by cases e), CallsIn.inRound l (callsIn_wide.2 h)⟩
    | row row args => exact ⟨(fun e => by cases e), rows_wide h⟩
    | _ => exact h.elim
  | halt x w' => cases x <;> first | exact h | exact h.elim

def noDefer (ops : Array Oper) : Bool := ops.all (fun o => match o.op with | .defer _ => false | _ => true)
theorem noDefer_at {ops : Array Oper} (h : noDefer ops = true) {i : Nat} {o : Oper} (ho : ops[i]? = some o) : ∀ c, o.op ≠ .defer c := by
 intro c e
 obtain ⟨hi, rfl⟩ := Array.getElem?_eq_some_iff.1 ho
 have := Array.all_eq_true.1 h i hi
 rw [e] at this
 cases this

theorem any_round {l n : Nat} {P : Program} {md : Region.Mode} {ops : Array Oper} {Q : Exit → Act → World → Prop} {S : World → Prop} (hd : noDefer ops = true) (hq : ¬ LetsOut Q) :
    ∀ (fuel : Nat) (listed : Array Bool) (a : Act) (w : World), wpAnyH P md ops Q S fuel listed a w → wpAnyIn (Fence.wide.inRound l) n P md ops Q fuel listed a w
  | 0, _, _, _, h => h
  | fuel + 1, listed, a, w, h => ⟨h.1, fun i hi => by
      have h1 := h.2 i hi
      unfold wpOp at h1
      unfold wpOpIn
      cases ho : ops[i]? with
      | none =>
        rw [ho] at h1
        exact any_round hd hq fuel _ _ _ h1.2
      | some o =>
        rw [ho] at h1
        dsimp only at h1 ⊢
        by_cases hw : Region.wanted o (yielded ops a.tmps) = true
        · rw [if_pos hw] at h1 ⊢
          refine ⟨fun _ _ => trivial, ?_⟩
          rw [Oper.semAt_eq _ _ _ (fun c => noDefer_at hd ho c)]
          refine upon_round ?_
          have h2 := h1.resolve_right (fun h => hq h.2)
          exact Oper.wp_mono (fun a' w' h3 => any_round hd hq fuel _ a' w' h3.2) h2
        · rw [if_neg hw] at h1 ⊢
          exact ⟨fun _ _ => trivial, any_round hd hq fuel _ _ _ h1.2⟩⟩

def onward (Q : Exit → Act → World → Prop) : Exit → Act → World → Prop
 | .normal, a, w => Q .normal a w
 | _, _, _ => False
theorem region_round {l n id : Nat} {P : Program} {ops : Array Oper} {Q : Exit → Act → World → Prop} {a : Act} {w : World} (S : World → Prop) (hd : noDefer ops = true) (hm : P.follows .mixedOrders = true) (hS : S w.drew)
  (h : S w.drew → wpAnyH P .any ops (onward Q) S ops.size (Array.replicate ops.size false) a w.drew) : (Code.region id ops true).wpIn (Fence.wide.inRound l) n P Q a w :=
 wpIn_mono (wpIn_region_any hm (any_round hd (fun ⟨_, _, h⟩ => h) _ _ _ _ (h hS))) (fun e a w h => by cases e <;> first | exact h | exact h.elim)

end Go.Proofs.YtnjilcokkhodmaaGreatDoor

namespace Go.Proofs.YtnjilcokkhodmaaGreatDoor
open Go.RowKit Go.Shelf

/-- Block b is an array of n numbers of kind k. -/
structure IsA (w : World) (b t : Nat) (k : IntKind) (n : Nat) (f : Nat → Int) : Prop where
 obj : ∃ cs, w.heap[b]? = some (.cells cs t (0, 0)) ∧ cs.size = n ∧ ∀ i, i < n → cs[i]? = some (.int k (f i))
theorem IsA.cell {w : World} {b t : Nat} {k : IntKind} {n : Nat} {f : Nat → Int} (h : IsA w b t k n f) (i : Nat) (hi : i < n) : w.cell? ⟨b, i, none⟩ = some (.int k (f i)) := by
 obtain ⟨cs, h1, _, h3⟩ := h.obj
 rw [cell_of h1, h3 i hi]
theorem IsA.frozen {w : World} {b t : Nat} {k : IntKind} {n : Nat} {f : Nat → Int} (h : IsA w b t k n f) (i : Nat) : w.frozen? ⟨b, i, none⟩ = false := by
 obtain ⟨cs, h1, _⟩ := h.obj
 exact frozen_of h1 i
theorem IsA.lt {w : World} {b t : Nat} {k : IntKind} {n : Nat} {f : Nat → Int} (h : IsA w b t k n f) : b < w.heap.size := by
 obtain ⟨cs, h1, _⟩ := h.obj
 exact obj_lt h1
theorem IsA.keep {w w' : World} {S : Nat → Prop} {b t : Nat} {k : IntKind} {n : Nat} {f : Nat → Int} (h : IsA w b t k n f) (hk : Keep S w w') (hS : ¬ S b) : IsA w' b t k n f := by
 obtain ⟨cs, h1, h2⟩ := h.obj
 exact ⟨cs, hk.obj h1 hS, h2⟩
theorem IsA.set {w : World} {b t : Nat} {k : IntKind} {n : Nat} {f : Nat → Int} (h : IsA w b t k n f) (i : Nat) (x : Int) : IsA (w.setCell ⟨b, i, none⟩ (.int k x)) b t k n (fun j => if j = i then x else f j) := by
 obtain ⟨cs, h1, h2, h3⟩ := h.obj
 refine ⟨_, set_obj h1 i _, by rw [Array.size_setIfInBounds, h2], fun j hj => ?_⟩
 rw [Array.getElem?_setIfInBounds]
 by_cases e : i = j
 ·subst e; rw [if_pos rfl, if_pos (by omega), if_pos rfl]
 ·rw [if_neg e, if_neg (fun h => e h.symm), h3 j hj]
theorem IsA.congr {w : World} {b t : Nat} {k : IntKind} {n : Nat} {f g : Nat → Int} (h : IsA w b t k n f) (he : ∀ i, i < n → f i = g i) : IsA w b t k n g := by
 obtain ⟨cs, h1, h2, h3⟩ := h.obj
 exact ⟨cs, h1, h2, fun i hi => by rw [h3 i hi, he i hi]⟩
theorem isA_zeros (w : World) (t : Nat) (k : IntKind) (n : Nat) : IsA (w.alloc (.cells (List.replicate n (Value.int k 0)).toArray t)) w.heap.size t k n (fun _ => 0) := by
 refine ⟨_, World.alloc_heap_new w _, by simp, fun i hi => ?_⟩
 rw [List.getElem?_toArray, List.getElem?_replicate, if_pos hi]

/-- Block b is an array of N cells: symbols, bits, bases. -/
structure IsT (w : World) (b t N : Nat) (sy bi ba : Nat → Nat) : Prop where
 obj : ∃ cs, w.heap[b]? = some (.cells cs t (0, 0)) ∧ cs.size = 3 * N ∧ ∀ i, i < N → cs[i * 3]? = some (.int .u8 ((sy i : Nat) : Int)) ∧ cs[i * 3 + 1]? = some (.int .u8 ((bi i : Nat) : Int)) ∧ cs[i * 3 + 2]? = some (.int .u16 ((ba i : Nat) : Int))
theorem IsT.cells {w : World} {b t N : Nat} {sy bi ba : Nat → Nat} (h : IsT w b t N sy bi ba) (i : Nat) (hi : i < N) :
  w.cell? ⟨b, i * 3, none⟩ = some (.int .u8 ((sy i : Nat) : Int)) ∧ w.cell? ⟨b, i * 3 + 1, none⟩ = some (.int .u8 ((bi i : Nat) : Int)) ∧ w.cell? ⟨b, i * 3 + 2, none⟩ = some (.int .u16 ((ba i : Nat) : Int)) := by
 obtain ⟨cs, h1, _, h3⟩ := h.obj
 rw [cell_of h1, cell_of h1, cell_of h1]
 exact h3 i hi
theorem IsT.frozen {w : World} {b t N : Nat} {sy bi ba : Nat → Nat} (h : IsT w b t N sy bi ba) (i : Nat) : w.frozen? ⟨b, i, none⟩ = false := by
 obtain ⟨cs, h1, _⟩ := h.obj
 exact frozen_of h1 i
theorem IsT.lt {w : World} {b t N : Nat} {sy bi ba : Nat → Nat} (h : IsT w b t N sy bi ba) : b < w.heap.size := by
 obtain ⟨cs, h1, _⟩ := h.obj
 exact obj_lt h1
theorem IsT.keep {w w' : World} {S : Nat → Prop} {b t N : Nat} {sy bi ba : Nat → Nat} (h : IsT w b t N sy bi ba) (hk : Keep S w w') (hS : ¬ S b) : IsT w' b t N sy bi ba := by
 obtain ⟨cs, h1, h2⟩ := h.obj
 exact ⟨cs, hk.obj h1 hS, h2⟩
theorem IsT.congr {w : World} {b t N : Nat} {sy bi ba sy' bi' ba' : Nat → Nat} (h : IsT w b t N sy bi ba) (h1 : ∀ i, i < N → sy i = sy' i) (h2 : ∀ i, i < N → bi i = bi' i) (h3 : ∀ i, i < N → ba i = ba' i) : IsT w b t N sy' bi' ba' := by
 obtain ⟨cs, a1, a2, a3⟩ := h.obj
 refine ⟨cs, a1, a2, fun i hi => ?_⟩
 rw [← h1 i hi, ← h2 i hi, ← h3 i hi]
 exact a3 i hi
theorem IsT.setSym {w : World} {b t N : Nat} {sy bi ba : Nat → Nat} (h : IsT w b t N sy bi ba) (i x : Nat) : IsT (w.setCell ⟨b, i * 3, none⟩ (.int .u8 (x : Int))) b t N (fun j => if j = i then x else sy j) bi ba := by
 obtain ⟨cs, h1, h2, h3⟩ := h.obj
 refine ⟨_, set_obj h1 _ _, by rw [Array.size_setIfInBounds, h2], fun j hj => ?_⟩
 rw [Array.getElem?_setIfInBounds, Array.getElem?_setIfInBounds, Array.getElem?_setIfInBounds, if_neg (show ¬ i * 3 = j * 3 + 1 by omega), if_neg (show ¬ i * 3 = j * 3 + 2 by omega)]
 by_cases e : i = j
 ·subst e
  rw [if_pos rfl, if_pos (by omega), if_pos rfl]
  exact ⟨rfl, (h3 i hj).2⟩
 ·rw [if_neg (by omega), if_neg (fun h => e h.symm)]
  exact h3 j hj
theorem IsT.setBit {w : World} {b t N : Nat} {sy bi ba : Nat → Nat} (h : IsT w b t N sy bi ba) (i x : Nat) : IsT (w.setCell ⟨b, i * 3 + 1, none⟩ (.int .u8 (x : Int))) b t N sy (fun j => if j = i then x else bi j) ba := by
 obtain ⟨cs, h1, h2, h3⟩ := h.obj
 refine ⟨_, set_obj h1 _ _, by rw [Array.size_setIfInBounds, h2], fun j hj => ?_⟩
 rw [Array.getElem?_setIfInBounds, Array.getElem?_setIfInBounds, Array.getElem?_setIfInBounds, if_neg (show ¬ i * 3 + 1 = j * 3 by omega), if_neg (show ¬ i * 3 + 1 = j * 3 + 2 by omega)]
 by_cases e : i = j
 ·subst e
  rw [if_pos rfl, if_pos (by omega), if_pos rfl]
  exact ⟨(h3 i hj).1, rfl, (h3 i hj).2.2⟩
 ·rw [if_neg (by omega), if_neg (fun h => e h.symm)]
  exact h3 j hj
theorem IsT.setBase {w : World} {b t N : Nat} {sy bi ba : Nat → Nat} (h : IsT w b t N sy bi ba) (i x : Nat) : IsT (w.setCell ⟨b, i * 3 + 2, none⟩ (.int .u16 (x : Int))) b t N sy bi (fun j => if j = i then x else ba j) := by
 obtain ⟨cs, h1, h2, h3⟩ := h.obj
 refine ⟨_, set_obj h1 _ _, by rw [Array.size_setIfInBounds, h2], fun j hj => ?_⟩
 rw [Array.getElem?_setIfInBounds, Array.getElem?_setIfInBounds, Array.getElem?_setIfInBounds, if_neg (show ¬ i * 3 + 2 = j * 3 by omega), if_neg (show ¬ i * 3 + 2 = j * 3 + 1 by omega)]
 by_cases e : i = j
 ·subst e
  rw [if_pos rfl, if_pos (by omega), if_pos rfl]
  exact ⟨(h3 i hj).1, (h3 i hj).2.1, rfl⟩
 ·rw [if_neg (by omega), if_neg (fun h => e h.symm)]
  exact h3 j hj
theorem flat3 (n : Nat) (a b c : Value) : ((List.replicate n [a, b, c]).flatten).length = 3 * n ∧ ∀ i, i < n → ((List.replicate n [a, b, c]).flatten)[i * 3]? = some a ∧ ((List.replicate n [a, b, c]).flatten)[i * 3 + 1]? = some b ∧ ((List.replicate n [a, b, c]).flatten)[i * 3 + 2]? = some c := by
  induction n with
  | zero => exact ⟨rfl, fun i hi => by omega⟩
  | succ n ih =>
    rw [List.replicate_succ, List.flatten_cons]
    refine ⟨by rw [List.length_append, ih.1]; simp; omega, fun i hi => ?_⟩
    cases i with
    | zero => exact ⟨rfl, rfl, rfl⟩
    | succ i =>
      obtain ⟨a1, a2, a3⟩ := ih.2 i (by omega)
      refine ⟨?_, ?_, ?_⟩
      · rw [List.getElem?_append_right (by simp; omega)]; simpa [Nat.succ_mul] using a1
      · rw [List.getElem?_append_right (by simp; omega)]
        have e : (i + 1) * 3 + 1 - [a, b, c].length = i * 3 + 1 := by simp; omega
        rw [e]; exact a2
      · rw [List.getElem?_append_right (by simp; omega)]
        have e : (i + 1) * 3 + 2 - [a, b, c].length = i * 3 + 2 := by simp; omega
        rw [e]; exact a3
theorem isT_zeros (w : World) (t n : Nat) : IsT (w.alloc (.cells ((List.replicate n [Value.int .u8 0, Value.int .u8 0, Value.int .u16 0]).flatten).toArray t)) w.heap.size t n (fun _ => 0) (fun _ => 0) (fun _ => 0) := by
 obtain ⟨h1, h2⟩ := flat3 n (Value.int .u8 0) (Value.int .u8 0) (Value.int .u16 0)
 refine ⟨_, World.alloc_heap_new w _, by rw [List.size_toArray]; exact h1, fun i hi => ?_⟩
 simp only [List.getElem?_toArray]
 exact h2 i hi

end Go.Proofs.YtnjilcokkhodmaaGreatDoor

namespace Go.Proofs.YtnjilcokkhodmaaGreatDoor
open Go.RowKit Go.Shelf

def maxSem (ats : Array TypeId) (ty : TypeId) (args : Array Value) : Sem Value := Builtin.max_ ats ty args
theorem maxSem_eq (ats : Array TypeId) (ty : TypeId) (args : Array Value) : Builtin.max_ ats ty args = maxSem ats ty args := rfl
theorem maxSem_run (k : IntKind) (ats : Array TypeId) (ty : TypeId) (a b c : Int) (h : c = max a b) (w : World) : (maxSem ats ty #[.int k a, .int k b]).run Tryz.prog w = .ok (.int k c) w := by
 have e : (maxSem ats ty #[.int k a, .int k b]) = pure (.int k (if b > a then b else a)) := rfl
 rw [e, h, show max a b = (if b > a then b else a) from by split <;> omega]
 rfl
def minSem (ats : Array TypeId) (ty : TypeId) (args : Array Value) : Sem Value := Builtin.min_ ats ty args
theorem minSem_eq (ats : Array TypeId) (ty : TypeId) (args : Array Value) : Builtin.min_ ats ty args = minSem ats ty args := rfl
theorem minSem_run (k : IntKind) (ats : Array TypeId) (ty : TypeId) (a b c : Int) (h : c = min a b) (w : World) : (minSem ats ty #[.int k a, .int k b]).run Tryz.prog w = .ok (.int k c) w := by
 have e : (minSem ats ty #[.int k a, .int k b]) = pure (.int k (if b < a then b else a)) := rfl
 rw [e, h, show min a b = (if b < a then b else a) from by split <;> omega]
 rfl

/-- Where setSymbols stands: the states' symbols f, the row r, the box of the slice. -/
structure SS (w W : World) (S cb bx : Nat) (f : Nat → Option Nat) (r : Nat → Int) : Prop where
 tab : IsT W cb 215 4096 (fun j => (f j).getD 0) (fun _ => 0) (fun _ => 0)
 row : IsA W (bx + 1) 246 .u8 4096 r
 box : W.heap[bx]? = some (.cells #[.slice (some ⟨cb, 0, none⟩) S 4096] 36 (0, 0))
 keep : Keep (fun k => k = cb) w W
theorem SS.keeps {w W W' : World} {S cb bx : Nat} {f : Nat → Option Nat} {r : Nat → Int} (h : SS w W S cb bx f r) (hk : Keep noBlock W W') : SS w W' S cb bx f r :=
 ⟨h.tab.keep hk (fun h => h), h.row.keep hk (fun h => h), hk.obj h.box (fun h => h), h.keep.trans hk (fun _ _ h => h.elim)⟩
theorem SS.setSym {w W : World} {S cb bx : Nat} {f : Nat → Option Nat} {r : Nat → Int} (h : SS w W S cb bx f r) (hcb : cb < bx) (i s : Nat) : SS w (W.setCell ⟨cb, i * 3, none⟩ (.int .u8 (s : Int))) S cb bx (upd f i s) r := by
 have hk : Keep (fun k => k = cb) W (W.setCell ⟨cb, i * 3, none⟩ (.int .u8 (s : Int))) := Keep.setCell (S := fun k => k = cb) (p := ⟨cb, i * 3, none⟩) (Keep.refl _ W) (fun _ => rfl) _
 refine ⟨(h.tab.setSym i s).congr (fun j _ => ?_) (fun _ _ => rfl) (fun _ _ => rfl), h.row.keep hk (by omega), hk.obj h.box (by omega), h.keep.trans hk (fun _ _ h => h)⟩
 simp only [upd]; split <;> rfl
theorem SS.setRow {w W : World} {S cb bx : Nat} {f : Nat → Option Nat} {r : Nat → Int} (h : SS w W S cb bx f r) (hcb : cb < bx) (hw : w.heap.size ≤ bx) (i : Nat) (s : Int) : SS w (W.setCell ⟨bx + 1, i, none⟩ (.int .u8 s)) S cb bx f (fun j => if j = i then s else r j) := by
 have hk : Keep (fun k => k = bx + 1) W (W.setCell ⟨bx + 1, i, none⟩ (.int .u8 s)) := Keep.setCell (S := fun k => k = bx + 1) (p := ⟨bx + 1, i, none⟩) (Keep.refl _ W) (fun _ => rfl) _
 exact ⟨h.tab.keep hk (by omega), h.row.set i s, hk.obj h.box (by omega), h.keep.trans hk (fun i hi e => by omega)⟩

theorem own_obj {B : Nat} {X Y : World} {row : Option Nat} {b : Nat} {o : Obj} (hg : X.grownBy Y row) (hr : ∀ r, row = some r → B ≤ r ∧ ∃ o, X.heap[r]? = some o ∧ o.isCells = false) (h : X.heap[b]? = some o) (hc : o.isCells = true) : Y.heap[b]? = some o := by
 refine (hg.block b (obj_lt h) (fun e => ?_)).trans h
 obtain ⟨_, o', h1, h2⟩ := hr b e.symm
 rw [h] at h1
 cases h1
 rw [hc] at h2
 cases h2
theorem PBox.own {B Bs Bh S H : Nat} {X Y : World} {row : Option Nat} (h : PBox Bs Bh S H X) (hg : X.grownBy Y row) (hr : ∀ r, row = some r → B ≤ r ∧ ∃ o, X.heap[r]? = some o ∧ o.isCells = false) : PBox Bs Bh S H Y :=
 ⟨own_obj hg hr h.1 rfl, own_obj hg hr h.2 rfl⟩
theorem SS.own {B : Nat} {w X Y : World} {S cb bx : Nat} {f : Nat → Option Nat} {r : Nat → Int} {row : Option Nat} (h : SS w X S cb bx f r) (hB : w.heap.size ≤ B) (hg : X.grownBy Y row) (hr : ∀ r, row = some r → B ≤ r ∧ ∃ o, X.heap[r]? = some o ∧ o.isCells = false) : SS w Y S cb bx f r := by
 obtain ⟨cs, h1, h2⟩ := h.tab.obj
 obtain ⟨ds, d1, d2⟩ := h.row.obj
 exact ⟨⟨cs, own_obj hg hr h1 rfl, h2⟩, ⟨ds, own_obj hg hr d1 rfl, d2⟩, own_obj hg hr h.box rfl, h.keep.grown hg (fun k e hk => by have := (hr k e).1; omega)⟩

section
attribute [local go_sem] Oper.semAt_some
attribute [local go_sem] maxSem_eq
set_option maxRecDepth 100000 in
set_option maxHeartbeats 4000000 in
theorem setSymbols_any (cb S : Nat) (xs : List Int) (a : Option Addr) (cap gb off : Nat) (w : World) (hT : IsT w cb 215 4096 (fun _ => 0) (fun _ => 0) (fun _ => 0)) (hR : RowI w .i16 a cap gb off xs) (hgb : xs ≠ [] → gb ≠ cb) (hTab : Tab xs S) :
  Calls Tryz.prog 118 #[.slice (some ⟨cb, 0, none⟩) S 4096, .slice a xs.length cap] w fun e w' => e = .returned (.tuple #[]) ∧ IsT w' cb 215 4096 (symF xs S) (fun _ => 0) (fun _ => 0) ∧ Keep (fun k => k = cb) w w' := by
 have hcb := hT.lt
 obtain ⟨l, hS, hl5, hl12⟩ := hTab.log
 have hSb : S ≤ 4096 := by rw [hS]; exact Nat.pow_le_pow_right (n := 2) (j := 12) (by omega) hl12
 obtain ⟨v, ho⟩ := odd_pow l hl5 hl12
 rw [← hS] at ho
 have HH := (show Hid (RowI w .i16 a cap gb off xs ∧ (xs ≠ [] → gb ≠ cb) ∧ Tab xs S ∧ Odd S v ∧ S ≤ 4096) from ⟨hR, hgb, hTab, ho, hSb⟩)
 have hlen := hTab.len
 have hmx : Tryz.prog.follows .mixedOrders = true := by kernel_rfl
 have hc1 : ((w.alloc (.cells #[.slice (some ⟨cb, 0, none⟩) S 4096] 36)).alloc (.cells Tryz.zeroCells246 246)).cell? ⟨w.heap.size, 0, none⟩ = some (.slice (some ⟨cb, 0, none⟩) S 4096) := by
  have e := alloc_far (World.alloc_heap_new w (.cells #[.slice (some ⟨cb, 0, none⟩) S 4096] 36)) (.cells Tryz.zeroCells246 246)
  exact cell_of e 0
 have hss : SS w ((w.alloc (.cells #[.slice (some ⟨cb, 0, none⟩) S 4096] 36)).alloc (.cells Tryz.zeroCells246 246)) S cb w.heap.size (rareF xs S 0) (fun _ => 0) := by
  have hk : Keep noBlock w ((w.alloc (.cells #[.slice (some ⟨cb, 0, none⟩) S 4096] 36)).alloc (.cells Tryz.zeroCells246 246)) := ((Keep.refl _ w).alloc _).alloc _
  refine ⟨hT.keep hk (fun h => h), ?_, alloc_far (World.alloc_heap_new w _) _, hk.mono (fun _ _ h => h.elim)⟩
  have := isA_zeros (w.alloc (.cells #[.slice (some ⟨cb, 0, none⟩) S 4096] 36)) 246 .u8 4096
  rw [World.size_alloc] at this
  rw [zero103]
  exact this
 have HSS := (show Hid (SS w _ S cb w.heap.size (rareF xs S 0) (fun _ => 0)) from hss)
 obtain ⟨n, hn⟩ : ∃ n, n = xs.length := ⟨_, rfl⟩
 rw [← hn] at hlen ⊢
 have HN := (show Hid (n = xs.length) from hn)
 clear hT hR hgb hTab hn hss ho hS
 refine (callsIn_wide (n := 4)).1 ?_
 refine callsIn_of_wp_marks Tryz.func118 rfl trivial ?_ rfl
 simp only [Tryz.ntmps118, List.size_toArray, List.length_cons, List.length_nil, Nat.reduceAdd, Nat.reduceSub, Array.replicate_succ, Array.replicate_zero, List.push_toArray, List.append_toArray, List.nil_append, List.cons_append]
 gi_wp2_with fail
 generalize (w.alloc (.cells #[.slice (some ⟨cb, 0, none⟩) S 4096] 36)).alloc (.cells Tryz.zeroCells246 246) = W1 at hc1 HSS ⊢

 gi_quiet (fail)
 have HS2 := (show Hid (SS w (W1.drewN nq) S cb w.heap.size (rareF xs S 0) (fun _ => 0)) from HSS.out.keeps (keep_drewN W1 nq))
 clear hc1 HSS
 generalize W1.drewN nq = W2 at HS2 ⊢
 obtain ⟨bx, hbx⟩ : ∃ bx, bx = w.heap.size := ⟨_, rfl⟩
 rw [← hbx] at HS2 hcb ⊢
 have HBX := (show Hid (bx = w.heap.size) from hbx)
 clear hbx
 gi_wp2_with fail
 gi_loopw [5, 6, 15] (fun v5 v6 v15 wr => ∃ (i m h : Nat) (r : Nat → Int), v15 = .int .i64 (i : Int) ∧ v5 = .int .i64 (m : Int) ∧ v6 = .int .i64 (h : Int) ∧ i ≤ n ∧
  Hid (m = (rowL xs i).length ∧ h + nr xs i = S ∧ (∀ j, j < m → r j = (((rowL xs i)[j]?.getD 0 : Nat) : Int)) ∧ SS w wr S cb bx (rareF xs S i) r)) (fun _ _ v15 _ => n - (intOf v15).toNat)
 case atStart => exact ⟨0, 0, S, fun _ => 0, rfl, rfl, rfl, Nat.zero_le _, rfl, rfl, fun j hj => by omega, HS2.out⟩
 case round =>
  clear HS2
  obtain ⟨i, m, h, r, rfl, rfl, rfl, hi, HC⟩ := hrel
  by_cases hlt : i < n
  ·obtain ⟨hm, hh, hr, hss⟩ := HC.out
   obtain ⟨hR, hgb, hTab, ho, -⟩ := HH.out
   have hix : i < xs.length := by have := HN.out; omega
   have hR2 := hR.keep hss.keep hgb
   obtain rfl := hR2.here hix
   have c0 := hR2.cells i hix
   have hlow := hTab.low i hix
   have hrow := hTab.row
   have hrl := rowL_grow xs (i + 1) xs.length (by omega)
   have hnr := cntP_mono (isRare xs) (i + 1) xs.length (by omega)
   have hns := nr_succ xs i
   have hrs : rowL xs (i + 1) = rowL xs i ++ List.replicate (xs[i]?.getD 0).toNat i := rfl
   have hfs : rareF xs S (i + 1) = if xs[i]?.getD 0 = -1 then upd (rareF xs S i) (S - nr xs (i + 1)) i else rareF xs S i := rfl
   have hrlen : (rowL xs (i + 1)).length + nr xs (i + 1) ≤ S := by
    obtain ⟨T, hT⟩ := hrl
    rw [hT, List.length_append] at hrow
    unfold nr at hrow ⊢
    omega
   obtain ⟨c, hc⟩ : ∃ c, c = xs[i]?.getD 0 := ⟨_, rfl⟩
   rw [← hc] at c0 hlow hns hrs hfs
   have hrsl : (rowL xs (i + 1)).length = m + c.toNat := by rw [hrs, List.length_append, List.length_replicate, hm]
   have hcb2 : c ≤ 4096 := by omega
   have hltI : (i : Int) < (n : Int) := by omega
   have hi256 : (i : Int) < 256 := by omega
   have hnI : (n : Int) ≤ 256 := by omega
   have hmx2 : ∀ W, _ := fun W => maxSem_run .i16 #[131, 131] 131 c 0 ((c.toNat : Nat) : Int) (by omega) W
   obtain ⟨cn, hcn⟩ : ∃ cn, cn = c.toNat := ⟨_, rfl⟩
   rw [← hcn] at hmx2 hrs hrsl
   have hmb : m + cn ≤ 4096 := by omega
   have HR := (show Hid (rowL xs (i + 1) = rowL xs i ++ List.replicate cn i ∧ m = (rowL xs i).length ∧ (∀ j, j < m → r j = (((rowL xs i)[j]?.getD 0 : Nat) : Int)) ∧ cn = c.toNat) from ⟨hrs, hm, hr, hcn⟩)
   by_cases hc1 : c = -1
   ·rw [if_pos hc1] at hns hfs
    obtain ⟨h2, hh2⟩ : ∃ h2, h = h2 + 1 := ⟨h - 1, by omega⟩
    have hhI : (h : Int) - 1 = (h2 : Int) := by omega
    have hh2S : (h2 : Int) < (S : Int) := by omega
    have hfr := hss.tab.frozen (h2 * 3)
    have cx : wr.cell? ⟨bx, 0, none⟩ = some (.slice (some ⟨cb, 0, none⟩) S 4096) := cell_of hss.box 0
    have hce := (hss.tab.cells h2 (by omega)).1
    have hss2 := hss.setSym hcb h2 i
    rw [show S - nr xs (i + 1) = h2 from by omega] at hfs
    rw [← hfs] at hss2
    have HSS := (show Hid (SS w (wr.setCell ⟨cb, h2 * 3, none⟩ (.int .u8 (i : Int))) S cb bx (rareF xs S (i + 1)) r ∧ h2 + nr xs (i + 1) = S) from ⟨hss2, by omega⟩)
    subst hc1
    clear hm hh hr hss hR hgb hTab ho hR2 hlow hrow hrl hnr hns hrs hfs hrlen hrsl hss2 HC hc hcn
    gi_wp2_with fail
    generalize wr.setCell ⟨cb, h2 * 3, none⟩ (.int .u8 (i : Int)) = W3 at HSS ⊢
    gi_loopw [5, 32] (fun v5 v32 wr => ∃ (q p : Nat) (r2 : Nat → Int), v32 = .int .i16 (q : Int) ∧ v5 = .int .i64 (p : Int) ∧ q ≤ cn ∧ Hid (p = m + q ∧ (∀ j, j < m → r2 j = r j) ∧ (∀ j, m ≤ j → j < m + q → r2 j = (i : Int)) ∧ SS w wr S cb bx (rareF xs S (i + 1)) r2)) (fun _ v32 _ => cn - (intOf v32).toNat)
    case atStart => exact ⟨0, m, r, rfl, rfl, Nat.zero_le _, rfl, fun _ _ => rfl, fun j h1 h2 => by omega, HSS.out.1⟩
    case round =>
     have HS3 := (show Hid (h2 + nr xs (i + 1) = S) from HSS.out.2)
     clear HSS
     obtain ⟨q, p, r2, rfl, rfl, hq, HC2⟩ := hrel
     obtain ⟨hp, hr1, hr2, hss⟩ := HC2.out
     have hp4 : p ≤ 4096 := by omega
     by_cases hql : q < cn
     ·have hqI : (q : Int) < (cn : Int) := by omega
      have hq2 : (q : Int) < 4096 := by omega
      have hpI : (p : Int) < 4096 := by omega
      have cp := hss.row.cell p (by omega)
      have fp := hss.row.frozen p
      have hss2 := hss.setRow hcb (by have := HBX.out; omega) p (i : Int)
      have HS4 := (show Hid (SS w (wr.setCell ⟨bx + 1, p, none⟩ (.int .u8 (i : Int))) S cb bx (rareF xs S (i + 1)) (fun j => if j = p then (i : Int) else r2 j)) from hss2)
      clear hp hr1 hr2 hss hss2
      gi_wp2_with fail
      go_roundw
      case rel =>
       obtain ⟨hp, hr1, hr2, -⟩ := HC2.out
       refine ⟨q + 1, p + 1, _, by go_num, by go_num, by omega, by omega, fun j hj => ?_, fun j h1 h2 => ?_, HS4.out⟩
       ·rw [if_neg (by omega)]; exact hr1 j hj
       ·split
        ·rfl
        ·exact hr2 j h1 (by omega)
      case measure => simp [intOf]; omega
     ·obtain rfl : q = cn := by omega
      have hqI : ¬ (q : Int) < (q : Int) := by omega
      clear hp hr1 hr2 hss
      gi_wp2_with fail
      go_roundw
      case rel =>
       obtain ⟨hp, hr1, hr2, hss⟩ := HC2.out
       obtain ⟨e1, e2, e3, -⟩ := HR.out
       refine ⟨i + 1, p, h2, r2, by go_num, rfl, rfl, by omega, by rw [e1, List.length_append, List.length_replicate, hp, e2], HS3.out, fun j hj => ?_, hss⟩
       rw [e1]
       by_cases hjm : j < m
       ·rw [List.getElem?_append_left (by omega), hr1 j hjm]; exact e3 j hjm
       ·rw [List.getElem?_append_right (by omega), List.getElem?_replicate, if_pos (by omega), hr2 j (by omega) (by omega)]; rfl
      case measure => simp [intOf]; omega
   ·rw [if_neg hc1] at hns hfs
    rw [← hfs] at hss
    obtain ⟨h2, hh2⟩ : ∃ h2, h2 = h := ⟨_, rfl⟩
    have hcb1 : (c == -1) = false := by simpa using hc1
    have HSS := (show Hid (SS w wr S cb bx (rareF xs S (i + 1)) r ∧ h2 + nr xs (i + 1) = S) from ⟨hss, by omega⟩)
    subst hh2
    clear hm hh hr hss hR hgb hTab ho hR2 hlow hrow hrl hnr hns hrs hfs hrlen hrsl HC hc hcn
    gi_wp2_with fail
    gi_loopw [5, 32] (fun v5 v32 wr => ∃ (q p : Nat) (r2 : Nat → Int), v32 = .int .i16 (q : Int) ∧ v5 = .int .i64 (p : Int) ∧ q ≤ cn ∧ Hid (p = m + q ∧ (∀ j, j < m → r2 j = r j) ∧ (∀ j, m ≤ j → j < m + q → r2 j = (i : Int)) ∧ SS w wr S cb bx (rareF xs S (i + 1)) r2)) (fun _ v32 _ => cn - (intOf v32).toNat)
    case atStart => exact ⟨0, m, r, rfl, rfl, Nat.zero_le _, rfl, fun _ _ => rfl, fun j h1 h2 => by omega, HSS.out.1⟩
    case round =>
     have HS3 := (show Hid (h2 + nr xs (i + 1) = S) from HSS.out.2)
     clear HSS
     obtain ⟨q, p, r2, rfl, rfl, hq, HC2⟩ := hrel
     obtain ⟨hp, hr1, hr2, hss⟩ := HC2.out
     have hp4 : p ≤ 4096 := by omega
     by_cases hql : q < cn
     ·have hqI : (q : Int) < (cn : Int) := by omega
      have hq2 : (q : Int) < 4096 := by omega
      have hpI : (p : Int) < 4096 := by omega
      have cp := hss.row.cell p (by omega)
      have fp := hss.row.frozen p
      have hss2 := hss.setRow hcb (by have := HBX.out; omega) p (i : Int)
      have HS4 := (show Hid (SS w (wr.setCell ⟨bx + 1, p, none⟩ (.int .u8 (i : Int))) S cb bx (rareF xs S (i + 1)) (fun j => if j = p then (i : Int) else r2 j)) from hss2)
      clear hp hr1 hr2 hss hss2
      gi_wp2_with fail
      go_roundw
      case rel =>
       obtain ⟨hp, hr1, hr2, -⟩ := HC2.out
       refine ⟨q + 1, p + 1, _, by go_num, by go_num, by omega, by omega, fun j hj => ?_, fun j h1 h2 => ?_, HS4.out⟩
       ·rw [if_neg (by omega)]; exact hr1 j hj
       ·split
        ·rfl
        ·exact hr2 j h1 (by omega)
      case measure => simp [intOf]; omega
     ·obtain rfl : q = cn := by omega
      have hqI : ¬ (q : Int) < (q : Int) := by omega
      clear hp hr1 hr2 hss
      gi_wp2_with fail
      go_roundw
      case rel =>
       obtain ⟨hp, hr1, hr2, hss⟩ := HC2.out
       obtain ⟨e1, e2, e3, -⟩ := HR.out
       refine ⟨i + 1, p, h2, r2, by go_num, rfl, rfl, by omega, by rw [e1, List.length_append, List.length_replicate, hp, e2], HS3.out, fun j hj => ?_, hss⟩
       rw [e1]
       by_cases hjm : j < m
       ·rw [List.getElem?_append_left (by omega), hr1 j hjm]; exact e3 j hjm
       ·rw [List.getElem?_append_right (by omega), List.getElem?_replicate, if_pos (by omega), hr2 j (by omega) (by omega)]; rfl
      case measure => simp [intOf]; omega
  ·obtain rfl : i = n := by omega
   obtain ⟨hm, hh, hr, hss⟩ := HC.out
   obtain ⟨hR, hgb, hTab, ho, -⟩ := HH.out
   have hnx := HN.out
   have cx : wr.cell? ⟨bx, 0, none⟩ = some (.slice (some ⟨cb, 0, none⟩) S 4096) := cell_of hss.box 0
   have hrow := hTab.row
   have hltI : ¬ (i : Int) < (i : Int) := by omega
   have HF := (show Hid (m = h ∧ SS w wr S cb bx (putF xs S h 0) r ∧ (∀ j, j < h → r j = ((rowAt xs j : Nat) : Int)) ∧ h = S - nr xs xs.length ∧ bx + 1 < wr.heap.size) from by
    have e : m = h := by rw [hnx] at hm hh; omega
    refine ⟨e, ?_, fun j hj => ?_, by rw [hnx] at hh; omega, hss.row.lt⟩
    ·show SS w wr S cb bx (rareF xs S xs.length) r
     rw [← hnx]; exact hss
    ·rw [hr j (by omega), hnx]; rfl)
   have hhS : h ≤ S := by omega
   clear hm hh hr hss hR hgb hTab hnx hrow HC HN
   gi_wp2_with fail
   refine ⟨trivial, (places_in Fence.wide 3 trivial rfl _ _ _).mono ?_⟩
   rintro e w4 ⟨rfl, rfl⟩
   obtain ⟨pb, hpb⟩ : ∃ pb, pb = wr.heap.size := ⟨_, rfl⟩
   have e1 := World.alloc_heap_new wr (.cells #[.int .i64 (S : Int)] 3)
   have e2 := World.alloc_heap_new (wr.alloc (.cells #[.int .i64 (S : Int)] 3)) (.cells #[.int .i64 (h : Int)] 3)
   have e3 := alloc_far e1 (.cells #[.int .i64 (h : Int)] 3)
   have hz4 : ((wr.alloc (.cells #[.int .i64 (S : Int)] 3)).alloc (.cells #[.int .i64 (h : Int)] 3)).heap.size = pb + 2 := by rw [World.size_alloc, World.size_alloc, hpb]
   rw [World.size_alloc] at e2
   have hk4 : Keep noBlock wr ((wr.alloc (.cells #[.int .i64 (S : Int)] 3)).alloc (.cells #[.int .i64 (h : Int)] 3)) := ((Keep.refl _ wr).alloc _).alloc _
   have hss4 := HF.out.2.1.keeps hk4
   have f5 : bx + 1 < wr.heap.size := HF.out.2.2.2.2
   have HF2 := (show Hid ((∀ j, j < h → r j = ((rowAt xs j : Nat) : Int)) ∧ h = S - nr xs xs.length) from ⟨HF.out.2.2.1, HF.out.2.2.2.1⟩)
   rw [← hpb] at e2 e3 f5 ⊢
   have HS4 := (show Hid (SS w _ S cb bx (putF xs S h 0) r ∧ PBox pb (pb + 1) S h _ ∧ _) from ⟨hss4, ⟨e3, e2⟩, hz4⟩)
   generalize (wr.alloc (.cells #[.int .i64 (S : Int)] 3)).alloc (.cells #[.int .i64 (h : Int)] 3) = W4 at HS4 ⊢
   clear e1 e2 e3 hz4 hk4 hss4 hpb HF cx
   gi_wp2
   have hz4 := HS4.out.2.2
   refine range_places (by omega) pb (pb + 1) S h v ho hSb hhS rfl rfl (fun k V => SS w V S cb bx (putF xs S h k) r ∧ PBox pb (pb + 1) S h V) (fun _ _ => False)
    (fun k a' _ => a' = { tmps := #[.slice (some ⟨cb, 0, none⟩) S 4096, .slice a i cap, .pointer (some ⟨bx, 0, none⟩), undef, .pointer (some ⟨bx + 1, 0, none⟩), .int .i64 (m : Int), .int .i64 (h : Int), u7, u8, .int .i64 (k : Int), .int .i64 ((place S h k : Nat) : Int), .slice (some ⟨cb, 0, none⟩) S 4096, .int .i64 (S : Int), .slice a i cap, .int .i64 (i : Int), .int .i64 (i : Int), .bool false, u17, u18, u19, u20, u21, u22, u23, u24, u25, u26, u27, u28, u29, u30, u31, u32, u33, u34, u35, u36, u37, u38, u39, u40, u41, .slice (some ⟨cb, 0, none⟩) S 4096, .int .i64 (S : Int), .int .i64 (h : Int), .func (.func 147) #[] #[.pointer (some ⟨pb, 0, none⟩), .pointer (some ⟨pb + 1, 0, none⟩)], .int .i64 (k : Int), .int .i64 ((place S h k : Nat) : Int), undef, undef, undef, undef, undef, undef, undef], defers := [] })
    (fun k V V' row hs hg hr => ⟨hs.1.own (by have := HBX.out; omega) hg hr, PBox.own hs.2 hg hr⟩) (fun _ _ _ _ h _ _ => h) (fun _ _ _ _ _ _ h _ _ => h)
    ⟨HS4.out.1, HS4.out.2.1⟩ (fun k V h => h.2) ?assign ?body ?done (fun _ _ h _ => h.elim)
   case assign =>
    intro k V K hk hi hK
    unfold placeV
    gi_wp2
    exact hK _ _ ⟨Nat.le_refl _, fun k' o _ ho _ => ho⟩ hi rfl
   case body =>
    rintro k a' V hk ⟨hss, hpbx⟩ rfl
    have hpl := place_lt ho h hhS k hk
    have cx : V.cell? ⟨bx, 0, none⟩ = some (.slice (some ⟨cb, 0, none⟩) S 4096) := cell_of hss.box 0
    have cr := hss.row.cell k (by omega)
    rw [HF2.out.1 k hk] at cr
    obtain ⟨x, hx⟩ : ∃ x, x = place S h k := ⟨_, rfl⟩
    obtain ⟨y, hy⟩ : ∃ y, y = rowAt xs k := ⟨_, rfl⟩
    rw [← hy] at cr
    rw [← hx] at hpl ⊢
    have fx := hss.tab.frozen (x * 3)
    have ct := (hss.tab.cells x (by omega)).1
    have hxI : (x : Int) < (S : Int) := by omega
    have hkI : (k : Int) < 4096 := by omega
    have hss2 := hss.setSym hcb x y
    have e : putF xs S h (k + 1) = upd (putF xs S h k) x y := by rw [hx, hy]; rfl
    rw [← e] at hss2
    have HG := (show Hid (SS w (V.setCell ⟨cb, x * 3, none⟩ (.int .u8 (y : Int))) S cb bx (putF xs S h (k + 1)) r ∧ PBox pb (pb + 1) S h V ∧ SS w V S cb bx (putF xs S h k) r) from ⟨hss2, hpbx, hss⟩)
    have fx2 : V.drew.frozen? ⟨cb, x * 3, none⟩ = false := fx
    have ct2 : V.drew.cell? ⟨cb, x * 3, none⟩ = _ := ct
    clear hss hpbx hss2 e hx hy HS4
    gi_wp2
    refine region_round (fun w' => w'.cell? ⟨bx, 0, none⟩ = some (.slice (some ⟨cb, 0, none⟩) S 4096) ∧ w'.cell? ⟨bx + 1, k, none⟩ = some (.int .u8 (y : Int))) (by kernel_rfl) hmx ⟨cx, cr⟩ (fun hS => ?_)
    refine wpAnyH_take (i := 0) (v := ?_) rfl (by kernel_rfl) (by kernel_rfl) (by kernel_rfl) (fun _ _ _ h => h) (Or.inl ⟨by rfl, ?_⟩) (by assumption) ?_
    rotate_left 1
    ·intro w hSw; (try dsimp only at hSw); (go_simp <;> with_reducible rfl)
    simp only [Act.put, List.getElem_toArray, List.getElem_cons_zero, List.setIfInBounds_toArray, List.set_cons_zero, List.set_cons_succ]
    refine wpAnyH_take (i := 1) (v := ?_) rfl (by kernel_rfl) (by kernel_rfl) (by kernel_rfl) (fun _ _ _ h => h) (Or.inl ⟨by rfl, ?_⟩) (by assumption) ?_
    rotate_left 1
    ·intro w hSw; (try dsimp only at hSw); (go_simp <;> with_reducible rfl)
    simp only [Act.put, List.getElem_toArray, List.getElem_cons_zero, List.getElem_cons_succ, List.setIfInBounds_toArray, List.set_cons_zero, List.set_cons_succ]
    refine wpAnyH_take (i := 2) (v := ?_) rfl (by kernel_rfl) (by kernel_rfl) (by kernel_rfl) (fun _ _ _ h => h) (Or.inl ⟨by rfl, ?_⟩) (by assumption) ?_
    rotate_left 1
    ·intro w hSw; (try dsimp only at hSw); (go_simp <;> with_reducible rfl)
    simp only [Act.put, List.getElem_toArray, List.getElem_cons_zero, List.getElem_cons_succ, List.setIfInBounds_toArray, List.set_cons_zero, List.set_cons_succ]
    refine wpAnyH_take (i := 3) (v := ?_) rfl (by kernel_rfl) (by kernel_rfl) (by kernel_rfl) (fun _ _ _ h => h) (Or.inl ⟨by rfl, ?_⟩) (by assumption) ?_
    rotate_left 1
    ·intro w hSw; (try dsimp only at hSw); (go_simp <;> with_reducible rfl)
    simp only [Act.put, List.getElem_toArray, List.getElem_cons_zero, List.getElem_cons_succ, List.setIfInBounds_toArray, List.set_cons_zero, List.set_cons_succ]
    refine wpAnyH_take (i := 4) (v := ?_) rfl (by kernel_rfl) (by kernel_rfl) (by kernel_rfl) (fun _ _ _ h => h) (Or.inl ⟨by rfl, ?_⟩) (by assumption) ?_
    rotate_left 1
    ·intro w hSw; (try dsimp only at hSw); (go_simp <;> with_reducible rfl)
    simp only [Act.put, List.getElem_toArray, List.getElem_cons_zero, List.getElem_cons_succ, List.setIfInBounds_toArray, List.set_cons_zero, List.set_cons_succ]
    refine wpAnyH_take (i := 5) (v := ?_) rfl (by kernel_rfl) (by kernel_rfl) (by kernel_rfl) (fun _ _ _ h => h) (Or.inl ⟨by rfl, ?_⟩) (by assumption) ?_
    rotate_left 1
    ·intro w hSw; (try dsimp only at hSw); (go_simp <;> with_reducible rfl)
    simp only [Act.put, List.getElem_toArray, List.getElem_cons_zero, List.getElem_cons_succ, List.setIfInBounds_toArray, List.set_cons_zero, List.set_cons_succ]
    refine wpAnyH_take (i := 6) (v := ?_) rfl (by kernel_rfl) (by kernel_rfl) (by kernel_rfl) (fun _ _ _ h => h) (Or.inl ⟨by rfl, ?_⟩) (by assumption) ?_
    rotate_left 1
    ·intro w hSw; (try dsimp only at hSw); (go_simp <;> with_reducible rfl)
    simp only [Act.put, List.getElem_toArray, List.getElem_cons_zero, List.getElem_cons_succ, List.setIfInBounds_toArray, List.set_cons_zero, List.set_cons_succ]
    refine wpAnyH_ready (rs := [7]) (by kernel_rfl) (by simp) ?_
    refine AllReadyH.cons rfl (fun K hK => ?_) AllReadyH.nil
    rw [if_pos (by rfl)]
    simp only [List.getElem_toArray, List.getElem_cons_zero, List.getElem_cons_succ]
    go_simp
    have hs3 := HG.out.2.2
    have hss4 : SS w (V.drew.setCell ⟨cb, x * 3, none⟩ (.int .u8 (y : Int))) S cb bx (putF xs S h (k + 1)) r := HG.out.1.keeps ⟨rfl, rfl, rfl, Nat.le_refl _, fun _ _ _ => rfl⟩
    refine hK.out _ _ ⟨cell_of hss4.box 0, (hss4.row.cell k (by omega)).trans (by rw [← cr, hs3.row.cell k (by omega)])⟩ (fun hS => ?_)
    refine wpAnyH_done (by kernel_rfl) ?_ _
    simp only [onward]
    have hss5 : SS w (V.setCell ⟨cb, x * 3, none⟩ (.int .u8 (y : Int))).drew S cb bx (putF xs S h (k + 1)) r := HG.out.1.keeps ⟨rfl, rfl, rfl, Nat.le_refl _, fun _ _ _ => rfl⟩
    have hkv : Keep (fun j => j = cb) V (V.setCell ⟨cb, x * 3, none⟩ (.int .u8 (y : Int))).drew := (Keep.setCell (S := fun j => j = cb) (p := ⟨cb, x * 3, none⟩) (Keep.refl _ V) (fun _ => rfl) _).drew
    have hb := HG.out.2.1
    refine ⟨⟨hkv.size, fun j o _ hjo hc => hkv.obj hjo ?_⟩, hss5, hkv.obj hb.1 (by omega), hkv.obj hb.2 (by omega)⟩
    rintro rfl
    obtain ⟨cs, hcs, _⟩ := hs3.tab.obj
    rw [hcs] at hjo; cases hjo; cases hc
   case done =>
    rintro V ⟨hss, hpbx⟩ hK
    gi_wp2
    refine ⟨by simp, .inl ⟨_, _, rfl, run_takeDeferred hK, ?_⟩⟩
    have hk : Keep (fun k => k = W4.heap.size) V (V.putObj W4.heap.size (.deferred none)) := (Keep.refl _ V).putObj _ _ (fun _ => rfl)
    refine ⟨_, results_none rfl _ _ _, rfl, ?_, ?_⟩
    ·have := hss.tab.keep hk (by omega)
     unfold symF symO
     rw [← HF2.out.2]
     exact this
    ·exact hss.keep.trans hk (fun j hj e => by have := HBX.out; omega)
end

end Go.Proofs.YtnjilcokkhodmaaGreatDoor

namespace Go.Proofs.YtnjilcokkhodmaaGreatDoor.Tl
open Go.RowKit Go.Shelf

attribute [local go_sem] Oper.semAt_some

set_option maxHeartbeats 1000000 in
theorem backwards_in (F : Fence) (n : Nat) (h20 : F.fn 91) (hro : F.round = none) (sa : Option Addr) (len cap : Nat) (fr to : Int) (w : World) :
  CallsIn F n Tryz.prog 91 #[.slice sa len cap, .int .i64 fr, .int .i64 to] w fun e w' => e = .returned (.func (.func 108) #[] #[.pointer (some ⟨w.heap.size + 1, 0, none⟩), .pointer (some ⟨w.heap.size + 2, 0, none⟩), .pointer (some ⟨w.heap.size, 0, none⟩)]) ∧
   w' = ((w.alloc (.cells #[.slice sa len cap] 22)).alloc (.cells #[.int .i64 fr] 3)).alloc (.cells #[.int .i64 to] 3) := by
 refine callsIn_of_wp Tryz.func91 rfl h20 ?_ hro
 simp only [Tryz.ntmps91, List.size_toArray, List.length_cons, List.length_nil, Nat.reduceAdd, Nat.reduceSub, Array.replicate_succ, Array.replicate_zero, List.push_toArray, List.append_toArray, List.nil_append, List.cons_append]
 gi_wp2
 go_ret
 exact ⟨rfl, rfl⟩

theorem wrap_div (c q : Nat) (hc : c < 18446744073709551616) : IntKind.u64.wrap ((c : Int) / 2 ^ q) = (c : Int) / 2 ^ q := by
 have e : ((c : Int) / 2 ^ q) = ((c / 2 ^ q : Nat) : Int) := by simp
 have h : c / 2 ^ q ≤ c := Nat.div_le_self _ _
 rw [e]
 generalize c / 2 ^ q = z at h ⊢
 rw [IntKind.wrap_u64]; omega

def bitBack (bs : List Nat) (fr j : Nat) : Fin 2 := ⟨bitAt bs (fr - 1 - j), bitAt_lt _ _⟩

set_option maxRecDepth 100000 in
set_option maxHeartbeats 1000000 in
theorem back1_in (F : Fence) (n : Nat) (h23 : F.fn 108) (hro : F.round = none) (hn : 1 ≤ n) (l Bs Bf Bt g cap : Nat) (sa : Option Addr) (bs : List Nat) (hsa : sa = some ⟨g, 0, none⟩ ∨ bs = []) (hlen : bs.length < 140737488355328) (hbs : ∀ j : Nat, bs[j]?.getD 0 < 256) (p m : Nat) (hp : p + m ≤ 8 * bs.length) (hm : m ≤ 56) (J Jx : List (Fin 2) → World → Prop)
  (hY : ∀ pre (b : Fin 2) W, J pre W → pre.length < m → YieldAt F (n - 1) Tryz.prog l #[.int .u64 (b.val : Int)] W fun e W' =>
   (e = .returned (.bool true) ∧ J (pre ++ [b]) W' ∧ Stay (fun k => k = Bs ∨ k = Bf ∨ k = Bt ∨ k = g) W W') ∨ (e = .returned (.bool false) ∧ Jx (pre ++ [b]) W'))
  (W : World) (hBs : W.heap[Bs]? = some (.cells #[.slice sa bs.length cap] 22 (0, 0))) (hBf : W.heap[Bf]? = some (.cells #[.int .i64 ((p + m : Nat) : Int)] 3 (0, 0))) (hBt : W.heap[Bt]? = some (.cells #[.int .i64 (p : Int)] 3 (0, 0)))
  (hg : ∀ j, j < bs.length → W.cell? ⟨g, j, none⟩ = some (.int .u8 (bs[j]?.getD 0 : Nat))) (h0 : J [] W) :
  CallsIn F n Tryz.prog 108 #[.func (.yield l) #[] #[], .pointer (some ⟨Bf, 0, none⟩), .pointer (some ⟨Bt, 0, none⟩), .pointer (some ⟨Bs, 0, none⟩)] W fun e W' => (∃ v, e = .returned v) ∧
   ((∃ ys, ys = upto (bitBack bs (p + m)) m ∧ J ys W') ∨ (∃ pre, True ∧ Jx pre W')) := by
 have hBf0 : W.cell? ⟨Bf, 0, none⟩ = some (.int .i64 ((p : Int) + (m : Int))) := by
  have := cell_of hBf 0
  simpa using this
 refine callsIn_of_wp Tryz.func108 rfl h23 ?_ hro
 simp only [Tryz.ntmps108, List.size_toArray, List.length_cons, List.length_nil, Nat.reduceAdd, Nat.reduceSub, Array.replicate_succ, Array.replicate_zero, List.push_toArray, List.append_toArray, List.nil_append, List.cons_append]
 gi_wp2
 gi_loopw [5] (fun i wr => ∃ k : Nat, k ≤ m ∧ i = .int .i64 ((p : Int) + m - 1 - k) ∧ J (upto (bitBack bs (p + m)) k) wr ∧ Stay (fun k => k = Bs ∨ k = Bf ∨ k = Bt ∨ k = g) W wr)
  (fun i _ => (intOf i + 1 - p).toNat)
 case atStart => exact ⟨0, Nat.zero_le _, by simp, h0, fun _ _ => rfl⟩
 case round =>
  obtain ⟨k, hk, rfl, hJs, hnx⟩ := hrel
  have hBs1 : wr.heap[Bs]? = _ := (hnx Bs (.inl rfl)).trans hBs
  have hBt1 : wr.heap[Bt]? = _ := (hnx Bt (.inr (.inr (.inl rfl)))).trans hBt
  have hcs : wr.cell? ⟨Bs, 0, none⟩ = some (.slice sa bs.length cap) := cell_of hBs1 0
  have hct : wr.cell? ⟨Bt, 0, none⟩ = some (.int .i64 (p : Int)) := cell_of hBt1 0
  by_cases hlt : k < m
  ·obtain ⟨fn, tmps, assign, body, hy, hR⟩ := hY _ (bitBack bs (p + m) k) wr hJs (by rw [upto_length]; exact hlt)
   obtain ⟨i, hi⟩ : ∃ i, p + m - 1 - k = i := ⟨_, rfl⟩
   have hii : (p : Int) + m - 1 - k = (i : Int) := by omega
   have hbb : ((bitBack bs (p + m) k).val : Nat) = bitAt bs i := by rw [← hi]; rfl
   rw [hbb] at hy
   have hidx : i / 8 < bs.length := by omega
   obtain rfl : sa = some ⟨g, 0, none⟩ := by
    rcases hsa with h | h
    ·exact h
    ·rw [h] at hidx; simp at hidx
   have hcg : wr.cell? ⟨g, i / 8, none⟩ = some (.int .u8 (bs[i / 8]?.getD 0 : Nat)) := (World.cell?_of_block (hnx g (.inr (.inr (.inr rfl))))).trans (hg _ hidx)
   obtain ⟨c, hc⟩ : ∃ c, bs[i / 8]?.getD 0 = c := ⟨_, rfl⟩
   obtain ⟨q, hq⟩ : ∃ q, i % 8 = q := ⟨_, rfl⟩
   have hc256 : c < 256 := by rw [← hc]; exact hbs _
   have hq8 : q < 8 := by omega
   have hba : bitAt bs i = bitOf c q := by unfold bitAt; rw [hc, hq]
   rw [hc] at hcg
   rw [hba] at hy
   have h7 : bits .and .i64 (i : Int) 7 = (q : Int) := by
    have := and_seven_i64 i (by omega)
    rw [hq] at this; exact this
   have hdI : (i : Int) / 8 = ((i / 8 : Nat) : Int) := by omega
   have hb1 := and_bit_u64 c q (by omega)
   have hwr := wrap_div c q (by omega)
   have hb3 := bitOf_lt c q
   have hpi : (p : Int) ≤ (i : Int) := by omega
   have HI := (show Hid _ from hii)
   rw [hii]
   have hil : i < 1125899906842624 := by omega
   generalize i / 8 = d at hcg hidx hdI
   clear hba hc hq hsa hbb hi hii
   gi_wp2
   refine hR.mono ?_
   rintro e W3 (⟨rfl, hJ3, hk3⟩ | ⟨rfl, hJx3⟩)
   ·gi_wp2
    go_roundw
    case rel => exact ⟨k + 1, by omega, by have := HI.out; simp; omega, by rw [upto_succ]; exact hJ3, hnx.trans hk3⟩
    case measure => simp [intOf]; omega
   ·gi_wp2
    refine bodyPost_ret (results_none rfl _ _ _) rfl ?_
    exact ⟨⟨_, rfl⟩, .inr ⟨_, trivial, hJx3⟩⟩
  ·obtain rfl : k = m := by omega
   have hend : (p : Int) + k - 1 - k = (p : Int) - 1 := by omega
   rw [hend]
   gi_wp2
   go_end0
   exact ⟨⟨_, rfl⟩, .inl ⟨_, rfl, hJs⟩⟩

end Go.Proofs.YtnjilcokkhodmaaGreatDoor.Tl
