/-
  The reader of package tail: what each of its calls does.
  math/bits.Len8, slices.Clone at bytes, and tail.New; the calls on no reader.
  Write of counts: their description, or ErrCounts.
  Read of a description: one count.
  What was put into a tail, and what is read of it again from the end on.
  Slices of bytes: cut, copied, appended, made, as strings.
  Small facts on worlds.
  Three kept distances: what a back means; Value and Pick.
-/
import Derived.BigQuiet
import Derived.Deep.QuietTactic
import Derived.Deep.AppendLies
import Derived.WalkLawsBesides
import Derived.BigRegion
import Derived.Deep.RegionLaw
import Derived.Laws.CopyRow
import Derived.Laws.IdiomCopy
import Derived.Deep.OwnRows
import Derived.Shelf.Abstract
import Derived.Shelf.RegionOpen
import Derived.WalkKit
import Derived.WalkSmall
import Derived.Deep.RegionWith
import Derived.Deep.RegionHeld3
import Derived.Test.YtnjilcokkhodmaaGreatDoorProg
import Derived.Test.YtnjilcokkhodmaaGreatDoorZP2
import Derived.Test.YtnjilcokkhodmaaGreatDoorZP3
namespace Go.Proofs.YtnjilcokkhodmaaGreatDoor.Tl
open Go.RowKit Go.Shelf
set_option linter.unusedVariables false

attribute [local go_sem] Oper.semAt_some
theorem numAt_front (bs : List Nat) (p m : Nat) : numAt bs p (m + 1) = bitAt bs p + 2 * numAt bs (p + 1) m := by
  induction m with
  | zero => simp [numAt]
  | succ m ih =>
    have h1 : numAt bs p (m + 1 + 1) = numAt bs p (m + 1) + bitAt bs (p + (m + 1)) * 2 ^ (m + 1) := rfl
    have h2 : numAt bs (p + 1) (m + 1) = numAt bs (p + 1) m + bitAt bs (p + 1 + m) * 2 ^ m := rfl
    rw [h1, ih, h2, show p + (m + 1) = p + 1 + m from by omega, Nat.pow_succ, Nat.mul_add, Nat.mul_comm (2 ^ m) 2, Nat.mul_left_comm]
    omega

def valOf (l : List (Fin 2)) : Nat := l.foldl (fun a b => 2 * a + b.val) 0
theorem valOf_snoc (l : List (Fin 2)) (b : Fin 2) : valOf (l ++ [b]) = 2 * valOf l + b.val := by simp [valOf]
theorem valOf_lt (l : List (Fin 2)) : valOf l < 2 ^ l.length := by
  have key : ∀ (l : List (Fin 2)) (a k : Nat), a < 2 ^ k → l.foldl (fun a b => 2 * a + b.val) a < 2 ^ (k + l.length) := by
    intro l
    induction l with
    | nil => intro a k h; exact h
    | cons b l ih =>
      intro a k h
      have := ih (2 * a + b.val) (k + 1) (by rw [Nat.pow_succ]; have := b.isLt; omega)
      rw [List.foldl_cons, List.length_cons, show k + (l.length + 1) = k + 1 + l.length from by omega]
      exact this
  have := key l 0 0 (by decide)
  rwa [Nat.zero_add] at this
theorem valOf_back (bs : List Nat) (p m k : Nat) (hk : k ≤ m) : valOf (upto (bitBack bs (p + m)) k) = numAt bs (p + m - k) k := by
  induction k with
  | zero => rfl
  | succ k ih =>
    rw [upto_succ, valOf_snoc, ih (by omega), numAt_front, show p + m - (k + 1) + 1 = p + m - k from by omega]
    have e : ((bitBack bs (p + m) k).val : Nat) = bitAt bs (p + m - (k + 1)) := by
      show bitAt bs (p + m - 1 - k) = _
      rw [show p + m - 1 - k = p + m - (k + 1) from by omega]
    rw [e]; omega

theorem or_low (x b : Nat) (hx : x < 9223372036854775808) (hb : b < 2) : bits .or .u64 (((2 * x : Nat) : Int)) (b : Int) = ((2 * x + b : Nat) : Int) := by
 rw [u64_or_nat (2 * x) b (by omega) (by omega), nat_join 1 _ _ (by omega) (by omega)]

/-- Block rb is a reader over the bytes bs, which lie in block g: u bits are not read, a were read ahead of the first one. -/
structure IsR (W : World) (rb g : Nat) (bs : List Nat) (u a : Nat) : Prop where
 lt : g < W.heap.size
 obj : ∃ sa cap, (sa = some (⟨g, 0, none⟩ : Addr) ∨ bs = []) ∧ W.heap[rb]? = some (.cells #[.slice sa bs.length cap, .int .i64 (u : Int), .int .i64 (a : Int)] 173 (0, 0))
 cells : ∀ j, j < bs.length → W.cell? ⟨g, j, none⟩ = some (.int .u8 ((bs[j]?.getD 0 : Nat) : Int))
 fits : bs.length < 140737488355328
 bytes : ∀ j : Nat, bs[j]?.getD 0 < 256
 in_ : u ≤ 8 * bs.length
 most : a ≤ 1099511627776

theorem IsR.ne {W : World} {rb g : Nat} {bs : List Nat} {u a : Nat} (h : IsR W rb g bs u a) (hb : bs ≠ []) : g ≠ rb := by
 rintro rfl
 obtain ⟨sa, cap, _, ho⟩ := h.obj
 have h0 := h.cells 0 (List.length_pos_iff.2 hb)
 rw [cell_of ho 0] at h0
 simp at h0
theorem IsR.keep {W W' : World} {S : Nat → Prop} {rb g : Nat} {bs : List Nat} {u a : Nat} (h : IsR W rb g bs u a) (hk : Keep S W W') (h1 : ¬ S rb) (h2 : bs ≠ [] → ¬ S g) : IsR W' rb g bs u a := by
 obtain ⟨sa, cap, hsa, ho⟩ := h.obj
 refine ⟨Nat.lt_of_lt_of_le h.lt hk.size, ⟨sa, cap, hsa, hk.obj ho h1⟩, fun j hj => ?_, h.fits, h.bytes, h.in_, h.most⟩
 have hne : bs ≠ [] := by rintro rfl; simp at hj
 exact (World.cell?_of_block (hk.block g h.lt (h2 hne))).trans (h.cells j hj)
theorem IsR.drewN {W : World} {rb g : Nat} {bs : List Nat} {u a : Nat} (h : IsR W rb g bs u a) (n : Nat) : IsR (W.drewN n) rb g bs u a := ⟨h.lt, h.obj, h.cells, h.fits, h.bytes, h.in_, h.most⟩

set_option maxHeartbeats 400000 in
theorem left_any (rb g : Nat) (bs : List Nat) (u a : Nat) (w : World) (h : IsR w rb g bs u a) :
  Calls Tryz.prog 72 #[.pointer (some ⟨rb, 0, none⟩)] w fun e w' => e = .returned (.int .i64 ((u : Int) - a)) ∧ ∃ n, w' = w.drewN n := by
 obtain ⟨sa, cap, hsa, ho⟩ := h.obj
 have hc1 : w.cell? ⟨rb, 1, none⟩ = some (.int .i64 (u : Int)) := cell_of ho 1
 have hc2 : w.cell? ⟨rb, 2, none⟩ = some (.int .i64 (a : Int)) := cell_of ho 2
 have hf := h.fits
 have hi := h.in_
 have hm := h.most
 clear h ho hsa
 go_enter Tryz.func72, Tryz.ntmps72
 go_wp2
 go_quiet (fail)
 go_wp2
 go_ret
 exact ⟨rfl, _, rfl⟩

set_option maxHeartbeats 400000 in
theorem back_there (rb u a m : Nat) (sl : Value) (w : World) (ho : w.heap[rb]? = some (.cells #[sl, .int .i64 (u : Int), .int .i64 (a : Int)] 173 (0, 0))) (hu : u < 2251799813685248) (ha : a ≤ 1099511627776) (hm : m ≤ 56) (hmu : m ≤ u) :
  Calls Tryz.prog 90 #[.pointer (some ⟨rb, 1, none⟩), .int .i64 (m : Int)] w fun e w' => e = .returned (.int .i64 0) ∧ w'.heap[rb]? = some (.cells #[sl, .int .i64 ((u - m : Nat) : Int), .int .i64 (a : Int)] 173 (0, 0)) ∧ Keep (fun k => k = rb) w w' := by
 have hc1 : w.cell? ⟨rb, 1, none⟩ = some (.int .i64 (u : Int)) := cell_of ho 1
 have hc2 : w.cell? ⟨rb, 2, none⟩ = some (.int .i64 (a : Int)) := cell_of ho 2
 have hf1 := frozen_of ho 1
 have hf2 := frozen_of ho 2
 go_enter Tryz.func90, Tryz.ntmps90
 go_wp2
 go_ret
 refine ⟨rfl, (set_obj (set_obj ho 1 _) 2 _).trans ?_, ((Keep.refl (fun k => k = rb) w).setCell (p := ⟨rb, 1, none⟩) (fun _ => rfl) _).setCell (p := ⟨rb, 2, none⟩) (fun _ => rfl) _⟩
 have e : ((u - m : Nat) : Int) = (u : Int) - m := by omega
 rw [e]
 simp

set_option maxHeartbeats 400000 in
theorem back_ahead (rb u a m b : Nat) (sl : Value) (w : World) (ho : w.heap[rb]? = some (.cells #[sl, .int .i64 (u : Int), .int .i64 (a : Int)] 173 (0, 0))) (ha : a ≤ 1099511627776) (hm : m ≤ 56) (hmu : u < m) (hb : b = min (a + (m - u)) 1099511627776) :
  Calls Tryz.prog 90 #[.pointer (some ⟨rb, 1, none⟩), .int .i64 (m : Int)] w fun e w' => e = .returned (.int .i64 ((m - u : Nat) : Int)) ∧ w'.heap[rb]? = some (.cells #[sl, .int .i64 0, .int .i64 (b : Int)] 173 (0, 0)) ∧ Keep (fun k => k = rb) w w' := by
 have hc1 : w.cell? ⟨rb, 1, none⟩ = some (.int .i64 (u : Int)) := cell_of ho 1
 have hc2 : w.cell? ⟨rb, 2, none⟩ = some (.int .i64 (a : Int)) := cell_of ho 2
 have hf1 := frozen_of ho 1
 have hf2 := frozen_of ho 2
 have HB := (show Hid _ from hb)
 clear hb
 by_cases hq : a + (m - u) ≤ 1099511627776
 ·have hq2 : (a : Int) + m - u ≤ 1099511627776 := by omega
  go_enter Tryz.func90, Tryz.ntmps90
  go_wp2
  go_ret
  refine ⟨by simp; omega, (set_obj (set_obj ho 1 _) 2 _).trans ?_, ((Keep.refl (fun k => k = rb) w).setCell (p := ⟨rb, 1, none⟩) (fun _ => rfl) _).setCell (p := ⟨rb, 2, none⟩) (fun _ => rfl) _⟩
  have e : (b : Int) = (a : Int) + m - u := by have := HB.out; omega
  rw [e]
  simp
 ·have hq2 : (1099511627776 : Int) < (a : Int) + m - u := by omega
  go_enter Tryz.func90, Tryz.ntmps90
  go_wp2
  go_ret
  refine ⟨by simp; omega, (set_obj (set_obj ho 1 _) 2 _).trans ?_, ((Keep.refl (fun k => k = rb) w).setCell (p := ⟨rb, 1, none⟩) (fun _ => rfl) _).setCell (p := ⟨rb, 2, none⟩) (fun _ => rfl) _⟩
  have e : (b : Int) = 1099511627776 := by have := HB.out; omega
  rw [e]
  simp

theorem back_any (rb u a m t b : Nat) (sl : Value) (ht : t = min m u) (hb : b = min (a + (m - t)) 1099511627776) (w : World) (ho : w.heap[rb]? = some (.cells #[sl, .int .i64 (u : Int), .int .i64 (a : Int)] 173 (0, 0))) (hu : u < 2251799813685248) (ha : a ≤ 1099511627776) (hm : m ≤ 56) :
  Calls Tryz.prog 90 #[.pointer (some ⟨rb, 1, none⟩), .int .i64 (m : Int)] w fun e w' => e = .returned (.int .i64 ((m - t : Nat) : Int)) ∧ w'.heap[rb]? = some (.cells #[sl, .int .i64 ((u - t : Nat) : Int), .int .i64 (b : Int)] 173 (0, 0)) ∧ Keep (fun k => k = rb) w w' := by
 by_cases hmu : m ≤ u
 ·obtain rfl : t = m := by omega
  obtain rfl : b = a := by omega
  have := back_there rb u b t sl w ho hu ha hm hmu
  rw [Nat.sub_self]
  exact this
 ·obtain rfl : t = u := by omega
  have := back_ahead rb t a m b sl w ho ha hm (by omega) hb
  rw [Nat.sub_self]
  exact this

theorem maxSem_run (ats : Array TypeId) (ty : TypeId) (a b c : Int) (h : c = max a b) (w : World) : (maxSem ats ty #[.int .i64 a, .int .i64 b]).run Tryz.prog w = .ok (.int .i64 c) w := by
 have e : (maxSem ats ty #[.int .i64 a, .int .i64 b]) = pure (.int .i64 (if b > a then b else a)) := rfl
 rw [e, h, show max a b = (if b > a then b else a) from by split <;> omega]
 rfl
theorem minSem_run (ats : Array TypeId) (ty : TypeId) (a b c : Int) (h : c = min a b) (w : World) : (minSem ats ty #[.int .i64 a, .int .i64 b]).run Tryz.prog w = .ok (.int .i64 c) w := by
 have e : (minSem ats ty #[.int .i64 a, .int .i64 b]) = pure (.int .i64 (if b < a then b else a)) := rfl
 rw [e, h, show min a b = (if b < a then b else a) from by split <;> omega]
 rfl

theorem back_stops (n : Nat) (hn : 1 ≤ n) (Bs Bf Bt g cap : Nat) (sa : Option Addr) (bs : List Nat) (hsa : sa = some ⟨g, 0, none⟩ ∨ bs = []) (hlen : bs.length < 140737488355328) (hbs : ∀ j : Nat, bs[j]?.getD 0 < 256) (p m u : Nat) (hu : u = p + m) (hp : p + m ≤ 8 * bs.length) (hm : m ≤ 56)
  (W : World) (hBs : W.heap[Bs]? = some (.cells #[.slice sa bs.length cap] 22 (0, 0))) (hBf : W.heap[Bf]? = some (.cells #[.int .i64 (u : Int)] 3 (0, 0))) (hBt : W.heap[Bt]? = some (.cells #[.int .i64 (p : Int)] 3 (0, 0)))
  (hgl : g < W.heap.size) (hg : ∀ j, j < bs.length → W.cell? ⟨g, j, none⟩ = some (.int .u8 (bs[j]?.getD 0 : Nat))) :
  SeqStopsK Fence.wide n Tryz.prog 108 #[.pointer (some ⟨Bf, 0, none⟩), .pointer (some ⟨Bt, 0, none⟩), .pointer (some ⟨Bs, 0, none⟩)] (fun b : Fin 2 => #[Value.int .u64 (b.val : Int)])
   (Stay (fun k => k = Bs ∨ k = Bf ∨ k = Bt ∨ k = g)) (fun ys => ys = upto (bitBack bs (p + m)) m) (fun _ => True) m W := fun l J Jx W1 hW _ _ hY h0 => by
 subst hu
 refine back1_in Fence.wide n trivial rfl hn l Bs Bf Bt g cap sa bs hsa (by omega) hbs p m hp hm J Jx hY W1 ((hW.block _ (obj_lt hBs)).trans hBs) ((hW.block _ (obj_lt hBf)).trans hBf) ((hW.block _ (obj_lt hBt)).trans hBt) (fun j hj => (hW.cell (p := ⟨g, j, none⟩) hgl).trans (hg j hj)) h0

section
attribute [local go_sem] maxSem_eq minSem_eq
set_option maxRecDepth 100000 in
set_option maxHeartbeats 1000000 in
theorem bits_read (rb g : Nat) (bs : List Nat) (p t z u m a b : Nat) (n : Int) (w : World) (h : IsR w rb g bs u a) (hu : u = p + t) (hmz : m = t + z) (hpz : z = 0 ∨ p = 0) (hn : (m : Int) = min (max n 0) 56) (hb : b = min (a + z) 1099511627776) :
  Calls Tryz.prog 68 #[.pointer (some ⟨rb, 0, none⟩), .int .i64 n] w fun e w' => e = .returned (.int .u64 ((numAt bs p t * 2 ^ z : Nat) : Int)) ∧ IsR w' rb g bs p b ∧ Keep (fun k => k = rb) w w' := by
 obtain ⟨sa, cap, hsa, ho⟩ := h.obj
 have hm : m ≤ 56 := by omega
 have hfit := h.fits
 have hin := h.in_
 have hc1 : w.cell? ⟨rb, 1, none⟩ = some (.int .i64 (u : Int)) := cell_of ho 1
 obtain ⟨X, hX⟩ : ∃ X : Int, X = max n 0 := ⟨_, rfl⟩
 have hmax := maxSem_run #[3, 3] 3 n 0 X hX
 have hmin := minSem_run #[3, 3] 3 X 56 m (by rw [hX]; exact hn)
 have HU := (show Hid _ from hu)
 have HM := (show Hid _ from hmz)
 have HB := (show Hid _ from hb)
 have HR : Hid (∀ w : World, w.heap[rb]? = some (.cells #[.slice sa bs.length cap, .int .i64 (u : Int), .int .i64 (a : Int)] 173 (0, 0)) → Calls Tryz.prog 90 #[.pointer (some ⟨rb, 1, none⟩), .int .i64 (m : Int)] w fun e w' => e = .returned (.int .i64 (z : Int)) ∧ w'.heap[rb]? = some (.cells #[.slice sa bs.length cap, .int .i64 (p : Int), .int .i64 (b : Int)] 173 (0, 0)) ∧ Keep (fun k => k = rb) w w') := fun w ho => by
  have := back_any rb u a m t b (.slice sa bs.length cap) (by omega) (by rw [hb]; congr 2; omega) w ho (by omega) h.most hm
  rw [show m - t = z from by omega, show u - t = p from by omega] at this
  exact this
 have hz64 : z ≤ 56 := by omega
 have ht56 : t ≤ 56 := by omega
 have hrb : rb < w.heap.size := obj_lt ho
 clear hX hn hb hpz hu hmz
 refine (callsIn_wide (n := 4)).1 ?_
 refine callsIn_of_wp_marks Tryz.func68 rfl trivial ?_ rfl
 simp only [Tryz.ntmps68, List.size_toArray, List.length_cons, List.length_nil, Nat.reduceAdd, Nat.reduceSub, Array.replicate_succ, Array.replicate_zero, List.push_toArray, List.append_toArray, List.nil_append, List.cons_append]
 have hmx : Tryz.prog.follows .mixedOrders = true := by kernel_rfl
 gi_wp2_with (refine ⟨trivial, ?_⟩; gi_at_call 90; refine (callsIn_wide.2 (HR.out _ ho)).mono ?_; rintro e w1 ⟨rfl, ho1, hK1⟩; have hz1 := cell_of (alloc_far ho1 (.cells #[.int .u64 0] 33)) 0; have hz2 := cell_of (alloc_far ho1 (.cells #[.int .u64 0] 33)) 1; simp at hz1 hz2)
 refine wpIn_calm ?_
 gi_region_with_o (refine ⟨trivial, ?_⟩; gi_at_call 91; refine (backwards_in Fence.wide _ trivial rfl _ _ _ _ _ _).mono ?_; rintro e w' ⟨rfl, rfl⟩)
 all_goals
  simp only [calm]
  gi_wp2
  have hlt1 : g < w1.heap.size := Nat.lt_of_lt_of_le h.lt hK1.size
  have hrb1 : rb < w1.heap.size := obj_lt ho1
  have hsz1 := hK1.size
  have hcells1 : ∀ j, j < bs.length → w1.cell? ⟨g, j, none⟩ = some (.int .u8 ((bs[j]?.getD 0 : Nat) : Int)) := fun j hj => by
   have hne : bs ≠ [] := by rintro rfl; simp at hj
   exact (World.cell?_of_block (hK1.block g h.lt (h.ne hne))).trans (h.cells j hj)
  obtain ⟨b0, b1, b2, b3, bsz, bkp⟩ := boxes4 w1 (Obj.cells #[Value.int IntKind.u64 0] 33) (Obj.cells #[Value.slice sa bs.length cap] 22) (Obj.cells #[Value.int IntKind.i64 ↑u] 3) (Obj.cells #[Value.int IntKind.i64 ↑p] 3)
  generalize ((((w1.alloc (Obj.cells #[Value.int IntKind.u64 0] 33)).alloc (Obj.cells #[Value.slice sa bs.length cap] 22)).alloc (Obj.cells #[Value.int IntKind.i64 ↑u] 3)).alloc (Obj.cells #[Value.int IntKind.i64 ↑p] 3)).drew = W0 at b0 b1 b2 b3 bsz bkp ⊢
  refine wpIn_rangeFunc_ownG rfl (by omega) (gf := 108) rfl trivial (enters_of Tryz.func108 (by kernel_rfl) rfl)
   (back_stops 3 (by omega) (w1.heap.size + 1) (w1.heap.size + 1 + 1) (w1.heap.size + 1 + 2) g cap sa bs hsa h.fits h.bytes p t u HU.out (by have := HU.out; omega) ht56 W0 b1 b2 b3 (by omega) (fun j hj => (World.cell?_of_block (bkp.block g hlt1 (fun h => h))).trans (hcells1 j hj)))
   (fun h k => h.trans k) (Stay.putObj (by rintro k (rfl | rfl | rfl | rfl) <;> omega)) (Below.refl _ _) (fun _ => rfl)
   (fun pre W => Boxed W w1.heap.size 33 (.int .u64 (valOf pre : Nat)) ∧ Keep (fun k => k = w1.heap.size) W0 W)
   (fun _ _ _ => False)
   (OwnFrom.and (Own.from (boxed_own _ _ _) _) (ownFrom_keep (Nat.le_refl _)))
   (fun _ _ _ _ _ hs _ _ => hs)
   ⟨b0, Keep.refl _ _⟩
   (fun x => { tmps := #[.pointer (some ⟨rb, 0, none⟩), .int .i64 (m : Int), undef, undef, .int .u64 0, .int .i64 (u : Int), .int .i64 (z : Int), .pointer (some ⟨w1.heap.size, 0, none⟩), .int .u64 ((x.val : Nat) : Int),
    .pointer (some ⟨rb, 0, none⟩), .bool false, .int .i64 n, .int .i64 X, .int .i64 (m : Int), .pointer (some ⟨rb, 0, none⟩), .pointer (some ⟨rb, 0, none⟩), .pointer (some ⟨rb, 1, none⟩), .pointer (some ⟨rb, 1, none⟩), .int .i64 (u : Int),
    .pointer (some ⟨rb, 0, none⟩), .pointer (some ⟨rb, 0, none⟩), .pointer (some ⟨rb, 1, none⟩), .int .i64 (m : Int), .int .i64 (z : Int), .pointer (some ⟨rb, 0, none⟩), .pointer (some ⟨rb, 0, none⟩), .pointer (some ⟨rb, 0, none⟩), .slice sa bs.length cap, .int .i64 (u : Int),
    .pointer (some ⟨rb, 0, none⟩), .pointer (some ⟨rb, 0, none⟩), .pointer (some ⟨rb, 1, none⟩), .pointer (some ⟨rb, 1, none⟩), .int .i64 (p : Int),
    .func (.func 108) #[] #[.pointer (some ⟨w1.heap.size + 1 + 1, 0, none⟩), .pointer (some ⟨w1.heap.size + 1 + 2, 0, none⟩), .pointer (some ⟨w1.heap.size + 1, 0, none⟩)],
    .int .u64 ((x.val : Nat) : Int), undef, undef, undef, undef, undef, undef, undef], defers := [] }) ?assign ?body ?done ?stop
  case assign =>
   intro l x W K hK
   gi_wp2
   exact hK
  case body =>
   rintro l pre x W ⟨hX, hKp⟩ hlt
   dsimp only
   have hcx := hX.cell
   have hfx := hX.frozen
   have hvl := valOf_lt pre
   have hpw : 2 ^ pre.length ≤ 2 ^ 56 := Nat.pow_le_pow_right (by omega) (by omega)
   have hv56 : valOf pre < 72057594037927936 := by omega
   have hor : bits .or .u64 (((valOf pre : Nat) : Int) * 2) ((x.val : Nat) : Int) = ((valOf (pre ++ [x]) : Nat) : Int) := by
    have := or_low (valOf pre) x.val (by omega) x.isLt
    rw [valOf_snoc, ← this, Int.mul_comm]; rfl
   clear hvl hpw
   gi_wp2
   refine ⟨(KeepsOthers.setCell _ _ _).from _, ?_, hX.set _, hKp.setCell (p := ⟨w1.heap.size, 0, none⟩) (fun _ => rfl) _⟩
   rintro k hk
   exact Below.heap_setCell _ _ _ _ (by rcases hk with rfl | rfl | rfl | rfl <;> (dsimp only; omega))
  case done =>
   rintro D ys W hD rfl ⟨hX, hKp⟩ hK
   have hr : W.heap[rb]? = _ := hKp.obj (bkp.obj ho1 (fun h => h)) (by omega)
   have hcx := hX.cell
   have hval := valOf_back bs p t t (Nat.le_refl _)
   rw [Nat.add_sub_cancel] at hval
   have hnl := numAt_lt bs p t
   have hpw : numAt bs p t * 2 ^ z < 2 ^ 56 := by
    have h1 : numAt bs p t * 2 ^ z < 2 ^ t * 2 ^ z := Nat.mul_lt_mul_of_pos_right hnl (Nat.two_pow_pos z)
    have h2 : 2 ^ (t + z) ≤ 2 ^ 56 := Nat.pow_le_pow_right (by omega) (by have := HM.out; omega)
    rw [← Nat.pow_add] at h1; omega
   have hsh : IntKind.u64.wrap (((numAt bs p t : Nat) : Int) * 2 ^ z) = ((numAt bs p t * 2 ^ z : Nat) : Int) := by
    have e : ((numAt bs p t : Nat) : Int) * 2 ^ z = ((numAt bs p t * 2 ^ z : Nat) : Int) := by simp
    rw [e]; generalize numAt bs p t * 2 ^ z = y at hpw; rw [IntKind.wrap_u64]; omega
   clear hz1 hz2 hpw hnl
   gi_wp2
   refine ⟨by simp, .inl ⟨_, _, rfl, run_takeDeferred hK, ?_⟩⟩
   have hkeep : Keep (fun k => k = rb) w (W.putObj D (.deferred none)) :=
    Keep.putObj ((hK1.trans bkp (fun _ _ h => h.elim)).trans hKp (fun i hi e => by omega)) D _ (fun hd => by omega)
   refine ⟨_, results_tmp rfl _ _ _, by rw [← hval, Int.natCast_mul, Int.natCast_pow]; rfl, ?_, hkeep⟩
   refine ⟨Nat.lt_of_lt_of_le h.lt hkeep.size, ⟨sa, cap, hsa, (World.putObj_heap_other (by omega)).trans hr⟩, fun k hk => ?_, h.fits, h.bytes, by have := HU.out; omega, by have := HB.out; omega⟩
   have hne : bs ≠ [] := by rintro rfl; simp at hk
   exact (World.cell?_of_block (hkeep.block g h.lt (h.ne hne))).trans (h.cells k hk)
  case stop =>
   rintro D c pre W _ _ h _
   exact h.elim
end

end Go.Proofs.YtnjilcokkhodmaaGreatDoor.Tl

namespace Go.Proofs.YtnjilcokkhodmaaGreatDoor.Tl
open Go.RowKit Go.Shelf
set_option linter.unusedVariables false
def lenB (c : Nat) : Nat := if c = 0 then 0 else Nat.log2 c + 1

set_option maxRecDepth 100000 in
set_option maxHeartbeats 1000000 in
theorem len8_any (c : Nat) (hc : c < 256) (w : World) : Calls Tryz.prog 89 #[.int .u8 (c : Int)] w fun e w' => e = .returned (.int .i64 ((lenB c : Nat) : Int)) ∧ w' = w := by
 go_enter Tryz.func89, Tryz.ntmps89
 go_wp2
 go_ret
 rename_i hI
 refine ⟨congrArg (fun x => Ending.returned (Value.int .i64 x)) ?_, rfl⟩
 clear w
 revert hI hc
 revert c
 decide +kernel

theorem lenB_pos (c : Nat) (h : c ≠ 0) : 0 < lenB c := by unfold lenB; rw [if_neg h]; omega
theorem lenB_le (c : Nat) (h : c < 256) : lenB c ≤ 8 := by
 unfold lenB
 split
 ·omega
 ·rename_i h0
  have := (Nat.log2_lt h0 (k := 8)).2 (by omega)
  omega

def tailLen (bs : List Nat) : Nat := 8 * (bs.length - 1) + (lenB (bs[bs.length - 1]?.getD 0) - 1)
theorem tailLen_le (bs : List Nat) (hbs : ∀ j : Nat, bs[j]?.getD 0 < 256) : tailLen bs ≤ 8 * bs.length := by
 have := lenB_le _ (hbs (bs.length - 1))
 unfold tailLen
 by_cases h : bs = []
 ·subst h; decide
 ·have := List.length_pos_iff.2 h; omega

set_option maxHeartbeats 400000 in
theorem new_none (sa : Option Addr) (cap : Nat) (w : World) : Calls Tryz.prog 67 #[.slice sa 0 cap] w fun e w' => e = .returned (.tuple #[.pointer none, .int .i64 11]) ∧ w' = w := by
 go_enter Tryz.func67, Tryz.ntmps67
 go_wp2
 go_ret2
 exact ⟨rfl, rfl⟩

set_option maxHeartbeats 400000 in
theorem new_zero (gb off cap k : Nat) (w : World) (hk : k < 140737488355328) (hc : w.cell? ⟨gb, off + k, none⟩ = some (.int .u8 0)) : Calls Tryz.prog 67 #[.slice (some ⟨gb, off, none⟩) (k + 1) cap] w fun e w' => e = .returned (.tuple #[.pointer none, .int .i64 11]) ∧ w' = w := by
 go_enter Tryz.func67, Tryz.ntmps67
 go_wp2
 go_ret2
 exact ⟨rfl, rfl⟩

set_option maxHeartbeats 1000000 in
theorem new_mark (gb off cap k c : Nat) (bs : List Nat) (hlen : bs.length = k + 1) (hk : k < 140737488355327) (hbs : ∀ j : Nat, bs[j]?.getD 0 < 256) (w : World) (hck : bs[k]?.getD 0 = c) (hc0 : c ≠ 0)
  (hcs : ∀ j, j < bs.length → w.cell? ⟨gb, off + j, none⟩ = some (.int .u8 ((bs[j]?.getD 0 : Nat) : Int))) :
  Calls Tryz.prog 67 #[.slice (some ⟨gb, off, none⟩) (k + 1) cap] w fun e w' => ∃ rb g, e = .returned (.tuple #[.pointer (some ⟨rb, 0, none⟩), .int .i64 0]) ∧ w.heap.size ≤ rb ∧ w.heap.size ≤ g ∧ IsR w' rb g bs (tailLen bs) 0 ∧ Keep noBlock w w' := by
 have hc : w.cell? ⟨gb, off + k, none⟩ = some (.int .u8 (c : Int)) := by rw [hcs k (by omega), hck]
 have hc256 : c < 256 := by rw [← hck]; exact hbs k
 have hsrc : Src w (.slice (some ⟨gb, off, none⟩) (k + 1) cap) bs := by
  refine .inr ⟨⟨gb, off, none⟩, cap, by rw [hlen], (World.block_lt_of_cell? w ⟨gb, off + k, none⟩ hc :), fun j u hu => ?_⟩
  have hj : j < (u8s bs).length := (List.getElem?_eq_some_iff.1 hu).1
  rw [u8s_length] at hj
  rw [u8s_at bs j hj] at hu
  rw [← hu, show (⟨gb, off, none⟩ : Addr).add j = ⟨gb, off + j, none⟩ from by unfold Addr.add; split <;> simp_all]
  exact hcs j hj
 have hT : tailLen bs = 8 * k + lenB c - 1 := by
  have := lenB_pos c hc0
  unfold tailLen
  rw [hlen, Nat.add_sub_cancel, hck]; omega
 have hTl := tailLen_le bs hbs
 have HT := (show Hid _ from hT)
 have HTL := (show Hid _ from hTl)
 have HL := (show Hid _ from hlen)
 have HC := (show Hid _ from hcs)
 have HCK := (show Hid _ from hck)
 have hl8 := lenB_le c hc256
 have hl0 := lenB_pos c hc0
 have H8 : Hid (∀ w : World, Calls Tryz.prog 89 #[.int .u8 (c : Int)] w fun e w' => e = .returned (.int .i64 ((lenB c : Nat) : Int)) ∧ w' = w) := fun w => len8_any c hc256 w
 generalize tailLen bs = T at HT HTL ⊢
 generalize lenB c = y at hl8 hl0 HT H8
 have hkd : decide ((k : Int) < 0) = false := decide_eq_false (by omega)
 have hce : ((c : Int) == 0) = false := by simp; omega
 clear hT hTl hlen hcs hck
 go_enter Tryz.func67, Tryz.ntmps67
 go_wp2_with (first | (go_at_call 89; refine (H8.out _).mono ?_; rintro e w' ⟨rfl, rfl⟩) | (go_at_call 59; refine (clone_any _ bs (by have := HL.out; omega) _ hsrc).mono ?_; rintro e w1 ⟨v', rfl, hown, hK, hn⟩; obtain ⟨sa, cap1, rfl⟩ := owns_form hown))
 go_ret2
 have hTe : ((T : Nat) : Int) = (k : Int) * 8 + y - 1 := by have := HT.out; omega
 have hTl := HTL.out
 have hlen := HL.out
 rw [← hTe]
 have hk2 : Keep noBlock w' (w1.alloc (.cells #[.slice sa bs.length cap1, .int .i64 (T : Int), .int .i64 0] 173)) := hK.alloc _
 have hsz := hK.size
 have hob := World.alloc_heap_new w1 (.cells #[.slice sa bs.length cap1, .int .i64 (T : Int), .int .i64 0] 173)
 rcases (hown.alloc (.cells #[.slice sa bs.length cap1, .int .i64 (T : Int), .int .i64 0] 173)).2 with ⟨e1, h0⟩ | ⟨g, cap', cur, e1, hb, hg, hr⟩
 ·omega
 ·simp only [Value.slice.injEq] at e1
  obtain ⟨rfl, _, rfl⟩ := e1
  refine ⟨w1.heap.size, g, rfl, hsz, hb, ⟨obj_lt hg, ⟨_, cap1, .inl rfl, hob⟩, fun j hj => ?_, by omega, hbs, hTl, by decide⟩, hk2⟩
  have := (hown.alloc (.cells #[.slice (some ⟨g, 0, none⟩) bs.length cap1, .int .i64 (T : Int), .int .i64 0] 173)).cells (g := g) rfl j _ (u8s_at bs j hj)
  rwa [add0] at this

theorem new_any (sa : Option Addr) (cap gb off : Nat) (bs : List Nat) (hlen : bs.length ≤ 140737488355327) (hbs : ∀ j : Nat, bs[j]?.getD 0 < 256) (w : World) (hsa : sa = some ⟨gb, off, none⟩ ∨ bs = [])
  (hcs : ∀ j, j < bs.length → w.cell? ⟨gb, off + j, none⟩ = some (.int .u8 ((bs[j]?.getD 0 : Nat) : Int))) :
  (bs[bs.length - 1]?.getD 0 = 0 ∧ Calls Tryz.prog 67 #[.slice sa bs.length cap] w fun e w' => e = .returned (.tuple #[.pointer none, .int .i64 11]) ∧ w' = w) ∨
  (bs[bs.length - 1]?.getD 0 ≠ 0 ∧ Calls Tryz.prog 67 #[.slice sa bs.length cap] w fun e w' => ∃ rb g, e = .returned (.tuple #[.pointer (some ⟨rb, 0, none⟩), .int .i64 0]) ∧ w.heap.size ≤ rb ∧ w.heap.size ≤ g ∧ IsR w' rb g bs (tailLen bs) 0 ∧ Keep noBlock w w') := by
 by_cases hnil : bs = []
 ·subst hnil
  exact .inl ⟨rfl, new_none sa cap w⟩
 ·obtain rfl : sa = some ⟨gb, off, none⟩ := hsa.elim id (fun e => absurd e hnil)
  obtain ⟨k, hk⟩ : ∃ k, bs.length = k + 1 := ⟨bs.length - 1, by have := List.length_pos_iff.2 hnil; omega⟩
  rw [show bs.length - 1 = k from by omega]
  by_cases h0 : bs[k]?.getD 0 = 0
  ·refine .inl ⟨h0, ?_⟩
   have := hcs k (by omega)
   rw [h0] at this
   rw [hk]
   exact new_zero gb off cap k w (by omega) this
  ·refine .inr ⟨h0, ?_⟩
   rw [hk]
   exact new_mark gb off cap k _ bs hk (by omega) hbs w rfl h0 hcs

end Go.Proofs.YtnjilcokkhodmaaGreatDoor.Tl

namespace Go.Proofs.YtnjilcokkhodmaaGreatDoor
open Go.RowKit Go.Shelf

def sliceLen : Value → Nat
 | .slice _ n _ => n
 | _ => 0

section
attribute [local go_sem] sliceSem_eq
end

end Go.Proofs.YtnjilcokkhodmaaGreatDoor

namespace Go.Proofs.YtnjilcokkhodmaaGreatDoor
open Go.RowKit Go.Shelf

theorem bits_take_i (rb g : Nat) (bs : List Nat) (p m x : Nat) (mi : Int) (hmi : mi = (m : Int)) (hm : m ≤ 56) (w : World) (h : IsR w rb g bs p) (hp : p + m ≤ 8 * bs.length) (hx : numAt bs p m = x) :
  Calls Tryz.prog 114 #[.pointer (some ⟨rb, 0, none⟩), .int .i64 mi] w fun e w' => e = .returned (.tuple #[.int .u64 (x : Int), .int .i64 0]) ∧ IsR w' rb g bs (p + m) ∧ Keep (fun k => k = rb) w w' := by
 subst hmi hx; exact bits_take rb g bs p m hm w h hp

end Go.Proofs.YtnjilcokkhodmaaGreatDoor

namespace Go.Proofs.YtnjilcokkhodmaaGreatDoor.Tl
open Go.RowKit Go.Shelf
set_option linter.unusedVariables false

end Go.Proofs.YtnjilcokkhodmaaGreatDoor.Tl

namespace Go.Proofs.YtnjilcokkhodmaaGreatDoor
open Go.RowKit Go.Shelf
set_option linter.unusedVariables false

theorem size5 : (Tryz.prog.info? 5).map (·.size) = some 1 := by kernel_rfl
theorem lt_drop {bs : List Nat} (h : ∀ j : Nat, bs[j]?.getD 0 < 256) (k : Nat) : ∀ j : Nat, (bs.drop k)[j]?.getD 0 < 256 := fun j => by
 rw [List.getElem?_drop]; exact h _
theorem lt_take {bs : List Nat} (h : ∀ j : Nat, bs[j]?.getD 0 < 256) (k : Nat) : ∀ j : Nat, (bs.take k)[j]?.getD 0 < 256 := fun j => by
 rw [List.getElem?_take]; split
 ·exact h _
 ·simp
theorem lt256 {bs : List Nat} (h : ∀ b ∈ bs, b < 256) : ∀ j : Nat, bs[j]?.getD 0 < 256 := fun j => by
 by_cases hj : j < bs.length
 ·rw [List.getElem?_eq_getElem hj]; exact h _ (List.getElem_mem _)
 ·rw [List.getElem?_eq_none (by omega)]; simp
theorem lt_mem {bs : List Nat} (h : ∀ j : Nat, bs[j]?.getD 0 < 256) : ∀ b ∈ bs, b < 256 := fun b hb => by
 obtain ⟨j, hj, rfl⟩ := List.mem_iff_getElem.1 hb
 have := h j
 rwa [List.getElem?_eq_getElem hj] at this
theorem lt_app {a b : List Nat} (h1 : ∀ j : Nat, a[j]?.getD 0 < 256) (h2 : ∀ j : Nat, b[j]?.getD 0 < 256) : ∀ j : Nat, (a ++ b)[j]?.getD 0 < 256 :=
 lt256 (fun x hx => (List.mem_append.1 hx).elim (lt_mem h1 x) (lt_mem h2 x))
theorem u8s_app (a b : List Nat) : u8s (a ++ b) = u8s a ++ u8s b := by simp [u8s]
theorem u8s_take (a : List Nat) (k : Nat) : (u8s a).take k = u8s (a.take k) := by simp [u8s, List.map_take]
theorem keep_setRow {S : Nat → Prop} {a w : World} (h : Keep S a w) (g : Nat) (hg : g < a.heap.size → S g) (cs : Array Value) : Keep S a (w.setRow g cs) :=
 h.trans (T := fun k => k = g) ⟨rfl, rfl, rfl, by simp [World.setRow], fun k _ hk => setRow_other w g k cs hk⟩ (fun i hi e => by subst e; exact hg hi)

/-- The slice reads as the bytes bs. -/
structure Bytes (w : World) (a : Option Addr) (cap gb off : Nat) (bs : List Nat) : Prop where
 at_ : a = some ⟨gb, off, none⟩ ∨ bs = []
 nil : a = none → cap = 0
 cells : ∀ j, j < bs.length → w.cell? ⟨gb, off + j, none⟩ = some (.int .u8 ((bs[j]?.getD 0 : Nat) : Int))
 lt : ∀ j : Nat, bs[j]?.getD 0 < 256
 cap : bs.length ≤ cap
 len : bs.length < 2 ^ 48
theorem Bytes.block {w : World} {a : Option Addr} {cap gb off : Nat} {bs : List Nat} (h : Bytes w a cap gb off bs) (hb : bs ≠ []) : gb < w.heap.size :=
 World.block_lt_of_cell? w ⟨gb, off + 0, none⟩ (h.cells 0 (List.length_pos_iff.2 hb))
theorem Bytes.keep {w w' : World} {S : Nat → Prop} {a : Option Addr} {cap gb off : Nat} {bs : List Nat} (h : Bytes w a cap gb off bs) (hk : Keep S w w') (hS : bs ≠ [] → ¬ S gb) : Bytes w' a cap gb off bs :=
 ⟨h.at_, h.nil, fun j hj => by
  have hne : bs ≠ [] := by rintro rfl; simp at hj
  exact (World.cell?_of_block (hk.block gb (h.block hne) (hS hne))).trans (h.cells j hj), h.lt, h.cap, h.len⟩
def SrcB (w : World) (v : Value) (bs : List Nat) : Prop := (v = .slice none 0 0 ∧ bs = []) ∨ ∃ a cap, v = .slice (some a) bs.length cap ∧ ∀ j u, (u8s bs)[j]? = some u → w.cell? (a.add j) = some u
theorem Bytes.src {w : World} {a : Option Addr} {cap gb off : Nat} {bs : List Nat} (h : Bytes w a cap gb off bs) : SrcB w (.slice a bs.length cap) bs := by
  cases a with
  | none =>
    have h1 := h.nil rfl
    have h2 := h.cap
    have : bs = [] := List.length_eq_zero_iff.1 (by omega)
    subst this
    exact .inl ⟨by rw [h1]; rfl, rfl⟩
  | some ad =>
    refine .inr ⟨ad, cap, rfl, fun j u hu => ?_⟩
    have hj : j < bs.length := by rw [← u8s_length]; exact (List.getElem?_eq_some_iff.1 hu).1
    rcases h.at_ with e | e
    · cases e
      rw [addO, h.cells j hj, ← u8s_at bs j hj, hu]
    · subst e; simp at hj

theorem run_low5 (a : Option Addr) (len cap k : Nat) (h1 : k ≤ len) (w : World) :
  (sliceSem 22 (.slice a len cap) (some (.int .i64 (k : Int))) none none).run Tryz.prog w = .ok (.slice (if cap = k then a else a.map (fun x => x.add k)) (len - k) (cap - k)) w := by
 obtain ⟨i0, hi, hz0, hz1, hz2⟩ := info_parts info5
 simp [sliceSem, Instr.slice, run_underlying Tryz.underlying22, Instr.sliceBounds, Instr.sliceBound, asIntOf, h1, sizeOf, typeInfo, hi, hz1]
theorem run_high5 (a : Option Addr) (len cap k : Nat) (h1 : k ≤ cap) (w : World) :
  (sliceSem 22 (.slice a len cap) none (some (.int .i64 (k : Int))) none).run Tryz.prog w = .ok (.slice a k cap) w := by
 obtain ⟨i0, hi, hz0, hz1, hz2⟩ := info_parts info5
 have e : (if cap = 0 then a else a.map (fun x => x.add 0)) = a := by
  split
  ·rfl
  ·cases a <;> simp [Addr.add]
 simp [sliceSem, Instr.slice, run_underlying Tryz.underlying22, Instr.sliceBounds, Instr.sliceBound, asIntOf, h1, sizeOf, typeInfo, hi, e]

theorem Bytes.drop {w : World} {a : Option Addr} {cap gb off : Nat} {bs : List Nat} (h : Bytes w a cap gb off bs) (k : Nat) (hk : k ≤ bs.length) :
  ∃ a' off', (∀ W, (sliceSem 22 (.slice a bs.length cap) (some (.int .i64 (k : Int))) none none).run Tryz.prog W = .ok (.slice a' (bs.drop k).length (cap - k)) W) ∧ Bytes w a' (cap - k) gb off' (bs.drop k) ∧ (bs.drop k ≠ [] → off' = off + k) := by
 have hc := h.cap
 have hl := h.len
 refine ⟨if cap = k then a else a.map (fun x => x.add k), if cap = k then off else off + k, fun W => by rw [run_low5 a bs.length cap k hk W, List.length_drop], ⟨?_, ?_, ?_, lt_drop h.lt k, by rw [List.length_drop]; omega, by rw [List.length_drop]; omega⟩, ?_⟩
 ·rcases h.at_ with e | e
  ·left
   subst e
   split
   ·rfl
   ·simp [addO]
  ·right; rw [e]; simp
 ·intro e
  split at e
  ·have := h.nil e; omega
  ·rw [Option.map_eq_none_iff] at e
   have := h.nil e; omega
 ·intro j hj
  rw [List.length_drop] at hj
  have := h.cells (k + j) (by omega)
  rw [List.getElem?_drop, if_neg (by omega), Nat.add_assoc]
  exact this
 ·intro hne
  have : 0 < (bs.drop k).length := List.length_pos_iff.2 hne
  rw [List.length_drop] at this
  rw [if_neg (by omega)]
theorem Bytes.take {w : World} {a : Option Addr} {cap gb off : Nat} {bs : List Nat} (h : Bytes w a cap gb off bs) (k : Nat) (hk : k ≤ bs.length) :
  (∀ W, (sliceSem 22 (.slice a bs.length cap) none (some (.int .i64 (k : Int))) none).run Tryz.prog W = .ok (.slice a (bs.take k).length cap) W) ∧ Bytes w a cap gb off (bs.take k) := by
 have hc := h.cap
 have hl := h.len
 have e : (bs.take k).length = k := by rw [List.length_take]; omega
 refine ⟨fun W => by rw [run_high5 a bs.length cap k (by omega) W, e], ⟨?_, h.nil, ?_, lt_take h.lt k, by omega, by omega⟩⟩
 ·rcases h.at_ with e | e
  ·exact .inl e
  ·right; rw [e]; simp
 ·intro j hj
  rw [e] at hj
  rw [List.getElem?_take, if_pos hj]
  exact h.cells j (by omega)

theorem run_copy_any (w : World) (ty : TypeId) (g o dl dc : Nat) (da : Option Addr) (v : Value) (bs : List Nat) (cur : Array Value) (t : Nat) (hv : SrcB w v bs) (ht : t = min bs.length dl)
  (hda : da = some ⟨g, o, none⟩ ∨ t = 0) (hg : w.heap[g]? = some (.cells cur 5 (0, 0))) (hfit : o + t ≤ cur.size) :
  (Builtin.copy_ #[22, 22] ty #[.slice da dl dc, v]).run Tryz.prog w = .ok (.int .i64 (t : Int)) (w.setRow g (cur.toList.take o ++ u8s (bs.take t) ++ cur.toList.drop (o + t)).toArray) := by
 by_cases h0 : t = 0
 ·subst h0
  have e : (cur.toList.take o ++ u8s (bs.take 0) ++ cur.toList.drop (o + 0)).toArray = cur := by simp [u8s]
  rw [e, setRow_self w g cur 5 (0, 0) hg]
  have hmin : Nat.min bs.length dl = 0 := ht.symm
  rcases hv with ⟨rfl, rfl⟩ | ⟨a, cap, rfl, hc⟩
  ·exact run_copy_none (P := Tryz.prog) w 22 22 ty 5 da none dl dc 0 0 Tryz.underlying22 size5 (by simp)
  ·exact run_copy_none (P := Tryz.prog) w 22 22 ty 5 da (some a) dl dc bs.length cap Tryz.underlying22 size5 hmin
 ·rcases hda with rfl | e
  ·rcases hv with ⟨rfl, rfl⟩ | ⟨a, cap, rfl, hc⟩
   ·simp at ht; omega
   ·have hl : (bs.take t).length = t := by rw [List.length_take]; omega
    have := run_copy_row Tryz.prog w 22 22 ty 5 g o dl dc a bs.length cap cur 5 (u8s (bs.take t)) Tryz.underlying22 size5 hg (by rw [u8s_length, hl]; exact ht)
     (fun j u hu => hc j u (by
      rw [← u8s_take] at hu
      rw [List.getElem?_take] at hu
      split at hu
      ·exact hu
      ·cases hu)) (by rw [u8s_length, hl]; exact hfit) (u8s_one _)
    rw [u8s_length, hl] at this
    exact this
  ·exact absurd e h0

theorem run_append_all (w : World) (ty : TypeId) (v : Value) (M bs : List Nat) (hown : w.ownsRow 0 5 1 v M.length (u8s M)) (hlen : M.length + bs.length ≤ 1099511627776) (sv : Value) (h : SrcB w sv bs) :
  ∃ v' w', (Builtin.append_ #[22, 22] ty #[v, sv]).run Tryz.prog w = .ok v' w' ∧ w'.ownsRow 0 5 1 v' (M ++ bs).length (u8s (M ++ bs)) ∧ Keep (fun k => v.ownBlock = some k) w w' ∧ (v'.ownBlock = v.ownBlock ∨ ∃ k, v'.ownBlock = some k ∧ w.heap.size ≤ k) := by
 obtain ⟨i0, hi, hz0, hz1, hz2⟩ := info_parts info5
 have happ : u8s (M ++ bs) = u8s M ++ u8s bs := by simp [u8s]
 rcases h with ⟨rfl, rfl⟩ | ⟨a, c, rfl, hc⟩
 ·refine ⟨v, w, ?_, by simpa using hown, Keep.refl _ _, .inl rfl⟩
  rcases hown.2 with ⟨rfl, h0⟩ | ⟨g, cap, cur, rfl, _, hg, hr1, hr2, _⟩
  ·simp [Builtin.append_, run_underlying Tryz.underlying22, sizeOf, typeInfo, hi, Builtin.lenOf, go_sem]
  ·have hcap : M.length ≤ cap := by omega
   simp [Builtin.append_, run_underlying Tryz.underlying22, sizeOf, typeInfo, hi, Builtin.lenOf, go_sem, hcap]
 ·obtain ⟨v', w', hr, h2, h3, h4, h5⟩ := run_append_own_at (P := Tryz.prog) w 0 22 ty 5 i0 (.int .u8 0) 1 1 Tryz.underlying22 hi hz0 hz1 hz2 rfl (by decide) v M.length (u8s M) hown a bs.length c (u8s bs) (by simp [u8s_length]) hc (u8s_one bs) (by unfold maxLen; omega) (by omega) (Nat.zero_le _)
  refine ⟨v', w', hr, by rw [List.length_append, happ]; exact h2, (Keep.refl _ w).grown h3 (fun k e _ => e), ?_⟩
  rcases h5 with e | e
  ·exact .inl e
  ·exact .inr ⟨_, e, Nat.le_refl _⟩

theorem owns_kept {w w' : World} {S : Nat → Prop} {base : Nat} {v : Value} {n : Nat} {xs : List Value} (h : w.ownsRow base 5 1 v n xs) (hk : Keep S w w') (hS : ∀ g, v.ownBlock = some g → ¬ S g) : w'.ownsRow base 5 1 v n xs := by
 refine ⟨h.1, ?_⟩
 rcases h.2 with ⟨e, h0⟩ | ⟨g, cap, cur, rfl, hb, hg, hr⟩
 ·exact .inl ⟨e, h0⟩
 ·exact .inr ⟨g, cap, cur, rfl, hb, hk.obj hg (hS g rfl), hr⟩
theorem bytes_own {w : World} {v : Value} {M : List Nat} (h : w.ownsRow 0 5 1 v M.length (u8s M)) (hlt : ∀ j : Nat, M[j]?.getD 0 < 256) (hl : M.length < 2 ^ 48) : ∃ a cap g, v = .slice a M.length cap ∧ Bytes w a cap g 0 M ∧ (a = none ∧ M = [] ∨ a = some ⟨g, 0, none⟩ ∧ ∃ cur, w.heap[g]? = some (.cells cur 5 (0, 0)) ∧ cur.size = cap ∧ cur.toList.take M.length = u8s M ∧ cap ≤ maxLen) := by
 rcases h.2 with ⟨e, h0⟩ | ⟨g, cap, cur, e, hb, hg, h1, h2, h3, h4⟩
 ·have : M = [] := List.length_eq_zero_iff.1 h0
  subst this
  exact ⟨none, 0, 0, e, ⟨.inr rfl, fun _ => rfl, fun j hj => by simp at hj, hlt, Nat.le_refl _, hl⟩, .inl ⟨rfl, rfl⟩⟩
 ·subst e
  rw [Nat.mul_one] at h3 h4
  refine ⟨some ⟨g, 0, none⟩, cap, g, rfl, ⟨.inl rfl, (fun e => by cases e), fun j hj => ?_, hlt, h1, hl⟩, .inr ⟨rfl, cur, hg, h3, h4, h2⟩⟩
  have := h.cells (g := g) rfl j _ (u8s_at M j hj)
  rw [add0] at this
  rw [Nat.zero_add]; exact this
theorem owns_mk {w : World} {g cap : Nat} {cur : Array Value} {M : List Nat} (hg : w.heap[g]? = some (.cells cur 5 (0, 0))) (h1 : M.length ≤ cap) (h2 : cap ≤ maxLen) (h3 : cur.size = cap) (h4 : cur.toList.take M.length = u8s M) : w.ownsRow 0 5 1 (.slice (some ⟨g, 0, none⟩) M.length cap) M.length (u8s M) :=
 ⟨by rw [u8s_length, Nat.mul_one], .inr ⟨g, cap, cur, rfl, Nat.zero_le _, hg, h1, h2, by rw [h3, Nat.mul_one], by rw [Nat.mul_one]; exact h4⟩⟩

theorem made_u8 (n : Nat) : madeCells #[.int .u8 0] n = (u8s (List.replicate n 0)).toArray := by
 refine Array.ext (by simp [size_madeCells, u8s]) fun i h1 h2 => ?_
 simp [madeCells, u8s, Nat.mod_one]
theorem run_make_u8 (l c : Nat) (hlc : l ≤ c) (hc : c ≤ 281474976710656) (w : World) :
  (Instr.makeSlice 22 (.int .i64 (l : Int)) (.int .i64 (c : Int))).run Tryz.prog w = .ok (.slice (some ⟨w.heap.size, 0, none⟩) l c) (w.alloc (.cells (u8s (List.replicate c 0)).toArray 5)) := by
 obtain ⟨i0, hi, hz0, hz1, hz2⟩ := info_parts info5
 have hr := run_make (P := Tryz.prog) w 22 5 i0 (.int .u8 0) Tryz.underlying22 hi hz0 .i64 .i64 (l : Int) (c : Int) (by omega) (by omega) (by rw [hz2]; omega) (by omega)
 simp only [Int.toNat_natCast, hz1, Nat.mul_one] at hr
 rw [show (Value.int .u8 0).cells = #[.int .u8 0] from rfl, made_u8] at hr
 exact hr

theorem SrcB.keep {w w' : World} {v : Value} {bs : List Nat} (h : SrcB w v bs) (hk : Keep noBlock w w') : SrcB w' v bs := by
 rcases h with h | ⟨a, cap, e, hc⟩
 ·exact .inl h
 ·exact .inr ⟨a, cap, e, fun j u hu => (World.cell?_of_block (hk.block _ (World.block_lt_of_cell? _ _ (hc j u hu)) (fun h => h))).trans (hc j u hu)⟩
theorem owns_bytes {w : World} {v : Value} {M : List Nat} (h : w.ownsRow 0 5 1 v M.length (u8s M)) (hM : ∀ j : Nat, M[j]?.getD 0 < 256) (hl : M.length < 2 ^ 48) : ∃ a cap g, v = .slice a M.length cap ∧ Bytes w a cap g 0 M ∧ ∀ k, v.ownBlock = some k → k = g := by
 obtain ⟨a, cap, g, e, hB, hc⟩ := bytes_own h hM hl
 refine ⟨a, cap, g, e, hB, fun k hk => ?_⟩
 subst e
 rcases hc with ⟨rfl, _⟩ | ⟨rfl, _⟩
 ·cases hk
 ·simpa [Value.ownBlock] using hk.symm

theorem owns_weak {w : World} {base : Nat} {v : Value} {n : Nat} {xs : List Value} (h : w.ownsRow base 5 1 v n xs) : w.ownsRow 0 5 1 v n xs ∧ ∀ k, v.ownBlock = some k → base ≤ k := by
 refine ⟨⟨h.1, ?_⟩, fun k hk => ?_⟩
 ·rcases h.2 with ⟨e, h0⟩ | ⟨g, cap, cur, e, hb, hr⟩
  ·exact .inl ⟨e, h0⟩
  ·exact .inr ⟨g, cap, cur, e, Nat.zero_le _, hr⟩
 ·rcases h.2 with ⟨e, h0⟩ | ⟨g, cap, cur, e, hb, hr⟩
  ·subst e; cases hk
  ·subst e
   have : g = k := by simpa [Value.ownBlock] using hk
   omega
theorem owns_bytesN {w : World} {v : Value} {M : List Nat} {b : Nat} (h : w.ownsRow 0 5 1 v M.length (u8s M)) (hM : ∀ j : Nat, M[j]?.getD 0 < 256) (hl : M.length < 2 ^ 48) (hn : ∀ k, v.ownBlock = some k → b ≤ k) : ∃ a cap g, v = .slice a M.length cap ∧ Bytes w a cap g 0 M ∧ b ≤ g := by
 obtain ⟨a, cap, g, e, hB, hc⟩ := bytes_own h hM hl
 subst e
 rcases hc with ⟨rfl, _⟩ | ⟨rfl, _⟩
 ·refine ⟨none, cap, b, rfl, ⟨.inr ?_, hB.nil, fun j hj => ?_, hB.lt, hB.cap, hB.len⟩, Nat.le_refl _⟩
  ·have h1 := hB.nil rfl
   have h2 := hB.cap
   exact List.length_eq_zero_iff.1 (by omega)
  ·have h1 := hB.nil rfl
   have h2 := hB.cap
   omega
 ·exact ⟨_, cap, g, rfl, hB, hn g (by simp [Value.ownBlock])⟩

end Go.Proofs.YtnjilcokkhodmaaGreatDoor

namespace Go.Proofs.YtnjilcokkhodmaaGreatDoor
open Go.RowKit

theorem alloc_new (w : World) (o : Obj) : (w.alloc o).heap[w.heap.size]? = some o := by show (w.heap.push o)[w.heap.size]? = some o; simp
theorem Keep.same {S : Nat → Prop} {a w : World} (h : Keep S a w) {W : World} (e1 : W.heap = w.heap) (e2 : W.os = w.os) (e3 : W.tape = w.tape) (e4 : W.output = w.output) : Keep S a W :=
 ⟨e2.trans h.os, e3.trans h.tape, e4.trans h.output, by rw [e1]; exact h.size, fun k hk hs => by rw [e1]; exact h.block k hk hs⟩
theorem hid {p : Prop} (h : p) : Hid p := h
theorem tA {α : Type} {xs : List α} {i : Nat} (h : i < xs.toArray.size) : xs.toArray[i] = xs[i]'(by simpa using h) := rfl
theorem tB {α : Type} {a : α} {l : List α} (h : 0 < (a :: l).length) : (a :: l)[0]'h = a := rfl
theorem tC {α : Type} {a : α} {l : List α} {i : Nat} (h : i + 1 < (a :: l).length) : (a :: l)[i + 1]'h = l[i]'(by simpa using h) := rfl
theorem tD {α : Type} (l : List α) (i : Nat) (a : α) : l.toArray.setIfInBounds i a = (l.set i a).toArray := List.setIfInBounds_toArray l i a
theorem tE {α : Type} {x b : α} {xs : List α} : (x :: xs).set 0 b = b :: xs := rfl
theorem tF {α : Type} {x b : α} {xs : List α} {i : Nat} : (x :: xs).set (i + 1) b = x :: xs.set i b := rfl

end Go.Proofs.YtnjilcokkhodmaaGreatDoor

namespace Go.Proofs.YtnjilcokkhodmaaGreatDoor
open Go.RowKit Go.Shelf
set_option linter.unusedVariables false

def whichN (z : Bool) (back : Nat) : Nat := back - 1 + z.toNat
def meantD (r0 r1 r2 : Int) (z : Bool) (back : Nat) : Int :=
 if 3 < back then (back : Int) - 3 else if whichN z back = 0 then r0 else if whichN z back = 1 then r1 else if whichN z back = 2 then r2 else if 1 < r0 then r0 - 1 else 0
def meantM (r0 : Int) (z : Bool) (back : Nat) : Nat :=
 if 3 < back then 2 else if whichN z back < 3 then whichN z back else if 1 < r0 then 2 else 0

end Go.Proofs.YtnjilcokkhodmaaGreatDoor
