/-
  The reader of package tail: what each of its calls does.
  math/bits.Len8, slices.Clone at bytes, and tail.New; the calls on no reader.
  What was put into a tail, and what is read of it again from the end on.
  Slices of bytes: cut, copied, appended, made, as strings.
  Small facts on worlds.
  Three kept distances: what a back means; Value and Pick.
  A region that draws its order: a head that only reads, and a tail that is forced.
  Value tells a distance and brings it to the front; Pick finds the least back that means it.
  A section's next byte; a section of no steps.
  share, sumOf, makeCode; the document's Bits.
  makeCode, and the document's Bits.
  The mark and the bits ahead of it, as numbers: no program is named here.
  A tail read from its end on, as a row of bits without an end.
  Codes are given their values: spread.
  The codings, as plain lists and as they lie.
  A region that draws its order and ends with a store into what it has read: loads may be taken first all the same, since the store waits for all of them.
  A region that draws its order, inside the body of a range over a function: whatever comes up next, and so on, behind each operation but the last.
-/
import Derived.BigQuiet
import Derived.Deep.QuietTactic
import Derived.Deep.AppendLies
import Derived.WalkLawsBesides
import Derived.BigRegion
import Derived.Deep.RegionLaw
import Derived.Laws.CopyRow
import Derived.Laws.IdiomCopy
import Derived.Deep.OwnRows
import Derived.Shelf.Abstract
import Derived.Shelf.RegionOpen
import Derived.WalkKit
import Derived.WalkSmall
import Derived.Deep.RegionWith
import Derived.Deep.RegionHeld3
import Derived.Test.YtnjilcokkhodmaaGreatDoorProg
import Derived.StillTailTactics
import Derived.Laws.Tables
import Derived.Lib.SmallJoins
import Derived.Laws.Rows
import Derived.Laws.StructEq
import Derived.ChangeKeysEq
import Derived.Deep.MidRow
import Derived.OrdersHeld
import Derived.RegionTactic
import Derived.Test.YtnjilcokkhodmaaGreatDoorZP4
namespace Go.Proofs.YtnjilcokkhodmaaGreatDoor.Tl
open Go.RowKit Go.Shelf
set_option linter.unusedVariables false

attribute [local go_sem] Oper.semAt_some
theorem numAt_front (bs : List Nat) (p m : Nat) : numAt bs p (m + 1) = bitAt bs p + 2 * numAt bs (p + 1) m := by
  induction m with
  | zero => simp [numAt]
  | succ m ih =>
    have h1 : numAt bs p (m + 1 + 1) = numAt bs p (m + 1) + bitAt bs (p + (m + 1)) * 2 ^ (m + 1) := rfl
    have h2 : numAt bs (p + 1) (m + 1) = numAt bs (p + 1) m + bitAt bs (p + 1 + m) * 2 ^ m := rfl
    rw [h1, ih, h2, show p + (m + 1) = p + 1 + m from by omega, Nat.pow_succ, Nat.mul_add, Nat.mul_comm (2 ^ m) 2, Nat.mul_left_comm]
    omega

def valOf (l : List (Fin 2)) : Nat := l.foldl (fun a b => 2 * a + b.val) 0
theorem valOf_snoc (l : List (Fin 2)) (b : Fin 2) : valOf (l ++ [b]) = 2 * valOf l + b.val := by simp [valOf]
theorem valOf_lt (l : List (Fin 2)) : valOf l < 2 ^ l.length := by
  have key : ∀ (l : List (Fin 2)) (a k : Nat), a < 2 ^ k → l.foldl (fun a b => 2 * a + b.val) a < 2 ^ (k + l.length) := by
    intro l
    induction l with
    | nil => intro a k h; exact h
    | cons b l ih =>
      intro a k h
      have := ih (2 * a + b.val) (k + 1) (by rw [Nat.pow_succ]; have := b.isLt; omega)
      rw [List.foldl_cons, List.length_cons, show k + (l.length + 1) = k + 1 + l.length from by omega]
      exact this
  have := key l 0 0 (by decide)
  rwa [Nat.zero_add] at this
theorem valOf_back (bs : List Nat) (p m k : Nat) (hk : k ≤ m) : valOf (upto (bitBack bs (p + m)) k) = numAt bs (p + m - k) k := by
  induction k with
  | zero => rfl
  | succ k ih =>
    rw [upto_succ, valOf_snoc, ih (by omega), numAt_front, show p + m - (k + 1) + 1 = p + m - k from by omega]
    have e : ((bitBack bs (p + m) k).val : Nat) = bitAt bs (p + m - (k + 1)) := by
      show bitAt bs (p + m - 1 - k) = _
      rw [show p + m - 1 - k = p + m - (k + 1) from by omega]
    rw [e]; omega

theorem or_low (x b : Nat) (hx : x < 9223372036854775808) (hb : b < 2) : bits .or .u64 (((2 * x : Nat) : Int)) (b : Int) = ((2 * x + b : Nat) : Int) := by
 rw [u64_or_nat (2 * x) b (by omega) (by omega), nat_join 1 _ _ (by omega) (by omega)]

/-- Block rb is a reader over the bytes bs, which lie in block g: u bits are not read, a were read ahead of the first one. -/
structure IsR (W : World) (rb g : Nat) (bs : List Nat) (u a : Nat) : Prop where
 lt : g < W.heap.size
 obj : ∃ sa cap, (sa = some (⟨g, 0, none⟩ : Addr) ∨ bs = []) ∧ W.heap[rb]? = some (.cells #[.slice sa bs.length cap, .int .i64 (u : Int), .int .i64 (a : Int)] 173 (0, 0))
 cells : ∀ j, j < bs.length → W.cell? ⟨g, j, none⟩ = some (.int .u8 ((bs[j]?.getD 0 : Nat) : Int))
 fits : bs.length < 140737488355328
 bytes : ∀ j : Nat, bs[j]?.getD 0 < 256
 in_ : u ≤ 8 * bs.length
 most : a ≤ 1099511627776

theorem IsR.ne {W : World} {rb g : Nat} {bs : List Nat} {u a : Nat} (h : IsR W rb g bs u a) (hb : bs ≠ []) : g ≠ rb := by
 rintro rfl
 obtain ⟨sa, cap, _, ho⟩ := h.obj
 have h0 := h.cells 0 (List.length_pos_iff.2 hb)
 rw [cell_of ho 0] at h0
 simp at h0
theorem IsR.keep {W W' : World} {S : Nat → Prop} {rb g : Nat} {bs : List Nat} {u a : Nat} (h : IsR W rb g bs u a) (hk : Keep S W W') (h1 : ¬ S rb) (h2 : bs ≠ [] → ¬ S g) : IsR W' rb g bs u a := by
 obtain ⟨sa, cap, hsa, ho⟩ := h.obj
 refine ⟨Nat.lt_of_lt_of_le h.lt hk.size, ⟨sa, cap, hsa, hk.obj ho h1⟩, fun j hj => ?_, h.fits, h.bytes, h.in_, h.most⟩
 have hne : bs ≠ [] := by rintro rfl; simp at hj
 exact (World.cell?_of_block (hk.block g h.lt (h2 hne))).trans (h.cells j hj)
theorem IsR.drewN {W : World} {rb g : Nat} {bs : List Nat} {u a : Nat} (h : IsR W rb g bs u a) (n : Nat) : IsR (W.drewN n) rb g bs u a := ⟨h.lt, h.obj, h.cells, h.fits, h.bytes, h.in_, h.most⟩

set_option maxHeartbeats 400000 in
theorem left_any (rb g : Nat) (bs : List Nat) (u a : Nat) (w : World) (h : IsR w rb g bs u a) :
  Calls Tryz.prog 72 #[.pointer (some ⟨rb, 0, none⟩)] w fun e w' => e = .returned (.int .i64 ((u : Int) - a)) ∧ ∃ n, w' = w.drewN n := by
 obtain ⟨sa, cap, hsa, ho⟩ := h.obj
 have hc1 : w.cell? ⟨rb, 1, none⟩ = some (.int .i64 (u : Int)) := cell_of ho 1
 have hc2 : w.cell? ⟨rb, 2, none⟩ = some (.int .i64 (a : Int)) := cell_of ho 2
 have hf := h.fits
 have hi := h.in_
 have hm := h.most
 clear h ho hsa
 go_enter Tryz.func72, Tryz.ntmps72
 go_wp2
 go_quiet (fail)
 go_wp2
 go_ret
 exact ⟨rfl, _, rfl⟩

set_option maxHeartbeats 400000 in
theorem back_there (rb u a m : Nat) (sl : Value) (w : World) (ho : w.heap[rb]? = some (.cells #[sl, .int .i64 (u : Int), .int .i64 (a : Int)] 173 (0, 0))) (hu : u < 2251799813685248) (ha : a ≤ 1099511627776) (hm : m ≤ 56) (hmu : m ≤ u) :
  Calls Tryz.prog 90 #[.pointer (some ⟨rb, 1, none⟩), .int .i64 (m : Int)] w fun e w' => e = .returned (.int .i64 0) ∧ w'.heap[rb]? = some (.cells #[sl, .int .i64 ((u - m : Nat) : Int), .int .i64 (a : Int)] 173 (0, 0)) ∧ Keep (fun k => k = rb) w w' := by
 have hc1 : w.cell? ⟨rb, 1, none⟩ = some (.int .i64 (u : Int)) := cell_of ho 1
 have hc2 : w.cell? ⟨rb, 2, none⟩ = some (.int .i64 (a : Int)) := cell_of ho 2
 have hf1 := frozen_of ho 1
 have hf2 := frozen_of ho 2
 go_enter Tryz.func90, Tryz.ntmps90
 go_wp2
 go_ret
 refine ⟨rfl, (set_obj (set_obj ho 1 _) 2 _).trans ?_, ((Keep.refl (fun k => k = rb) w).setCell (p := ⟨rb, 1, none⟩) (fun _ => rfl) _).setCell (p := ⟨rb, 2, none⟩) (fun _ => rfl) _⟩
 have e : ((u - m : Nat) : Int) = (u : Int) - m := by omega
 rw [e]
 simp

set_option maxHeartbeats 400000 in
theorem back_ahead (rb u a m b : Nat) (sl : Value) (w : World) (ho : w.heap[rb]? = some (.cells #[sl, .int .i64 (u : Int), .int .i64 (a : Int)] 173 (0, 0))) (ha : a ≤ 1099511627776) (hm : m ≤ 56) (hmu : u < m) (hb : b = min (a + (m - u)) 1099511627776) :
  Calls Tryz.prog 90 #[.pointer (some ⟨rb, 1, none⟩), .int .i64 (m : Int)] w fun e w' => e = .returned (.int .i64 ((m - u : Nat) : Int)) ∧ w'.heap[rb]? = some (.cells #[sl, .int .i64 0, .int .i64 (b : Int)] 173 (0, 0)) ∧ Keep (fun k => k = rb) w w' := by
 have hc1 : w.cell? ⟨rb, 1, none⟩ = some (.int .i64 (u : Int)) := cell_of ho 1
 have hc2 : w.cell? ⟨rb, 2, none⟩ = some (.int .i64 (a : Int)) := cell_of ho 2
 have hf1 := frozen_of ho 1
 have hf2 := frozen_of ho 2
 have HB := (show Hid _ from hb)
 clear hb
 by_cases hq : a + (m - u) ≤ 1099511627776
 ·have hq2 : (a : Int) + m - u ≤ 1099511627776 := by omega
  go_enter Tryz.func90, Tryz.ntmps90
  go_wp2
  go_ret
  refine ⟨by simp; omega, (set_obj (set_obj ho 1 _) 2 _).trans ?_, ((Keep.refl (fun k => k = rb) w).setCell (p := ⟨rb, 1, none⟩) (fun _ => rfl) _).setCell (p := ⟨rb, 2, none⟩) (fun _ => rfl) _⟩
  have e : (b : Int) = (a : Int) + m - u := by have := HB.out; omega
  rw [e]
  simp
 ·have hq2 : (1099511627776 : Int) < (a : Int) + m - u := by omega
  go_enter Tryz.func90, Tryz.ntmps90
  go_wp2
  go_ret
  refine ⟨by simp; omega, (set_obj (set_obj ho 1 _) 2 _).trans ?_, ((Keep.refl (fun k => k = rb) w).setCell (p := ⟨rb, 1, none⟩) (fun _ => rfl) _).setCell (p := ⟨rb, 2, none⟩) (fun _ => rfl) _⟩
  have e : (b : Int) = 1099511627776 := by have := HB.out; omega
  rw [e]
  simp

theorem back_any (rb u a m t b : Nat) (sl : Value) (ht : t = min m u) (hb : b = min (a + (m - t)) 1099511627776) (w : World) (ho : w.heap[rb]? = some (.cells #[sl, .int .i64 (u : Int), .int .i64 (a : Int)] 173 (0, 0))) (hu : u < 2251799813685248) (ha : a ≤ 1099511627776) (hm : m ≤ 56) :
  Calls Tryz.prog 90 #[.pointer (some ⟨rb, 1, none⟩), .int .i64 (m : Int)] w fun e w' => e = .returned (.int .i64 ((m - t : Nat) : Int)) ∧ w'.heap[rb]? = some (.cells #[sl, .int .i64 ((u - t : Nat) : Int), .int .i64 (b : Int)] 173 (0, 0)) ∧ Keep (fun k => k = rb) w w' := by
 by_cases hmu : m ≤ u
 ·obtain rfl : t = m := by omega
  obtain rfl : b = a := by omega
  have := back_there rb u b t sl w ho hu ha hm hmu
  rw [Nat.sub_self]
  exact this
 ·obtain rfl : t = u := by omega
  have := back_ahead rb t a m b sl w ho ha hm (by omega) hb
  rw [Nat.sub_self]
  exact this

theorem maxSem_run (ats : Array TypeId) (ty : TypeId) (a b c : Int) (h : c = max a b) (w : World) : (maxSem ats ty #[.int .i64 a, .int .i64 b]).run Tryz.prog w = .ok (.int .i64 c) w := by
 have e : (maxSem ats ty #[.int .i64 a, .int .i64 b]) = pure (.int .i64 (if b > a then b else a)) := rfl
 rw [e, h, show max a b = (if b > a then b else a) from by split <;> omega]
 rfl
theorem minSem_run (ats : Array TypeId) (ty : TypeId) (a b c : Int) (h : c = min a b) (w : World) : (minSem ats ty #[.int .i64 a, .int .i64 b]).run Tryz.prog w = .ok (.int .i64 c) w := by
 have e : (minSem ats ty #[.int .i64 a, .int .i64 b]) = pure (.int .i64 (if b < a then b else a)) := rfl
 rw [e, h, show min a b = (if b < a then b else a) from by split <;> omega]
 rfl

theorem back_stops (n : Nat) (hn : 1 ≤ n) (Bs Bf Bt g cap : Nat) (sa : Option Addr) (bs : List Nat) (hsa : sa = some ⟨g, 0, none⟩ ∨ bs = []) (hlen : bs.length < 140737488355328) (hbs : ∀ j : Nat, bs[j]?.getD 0 < 256) (p m u : Nat) (hu : u = p + m) (hp : p + m ≤ 8 * bs.length) (hm : m ≤ 56)
  (W : World) (hBs : W.heap[Bs]? = some (.cells #[.slice sa bs.length cap] 22 (0, 0))) (hBf : W.heap[Bf]? = some (.cells #[.int .i64 (u : Int)] 3 (0, 0))) (hBt : W.heap[Bt]? = some (.cells #[.int .i64 (p : Int)] 3 (0, 0)))
  (hgl : g < W.heap.size) (hg : ∀ j, j < bs.length → W.cell? ⟨g, j, none⟩ = some (.int .u8 (bs[j]?.getD 0 : Nat))) :
  SeqStopsK Fence.wide n Tryz.prog 108 #[.pointer (some ⟨Bf, 0, none⟩), .pointer (some ⟨Bt, 0, none⟩), .pointer (some ⟨Bs, 0, none⟩)] (fun b : Fin 2 => #[Value.int .u64 (b.val : Int)])
   (Stay (fun k => k = Bs ∨ k = Bf ∨ k = Bt ∨ k = g)) (fun ys => ys = upto (bitBack bs (p + m)) m) (fun _ => True) m W := fun l J Jx W1 hW _ _ hY h0 => by
 subst hu
 refine back1_in Fence.wide n trivial rfl hn l Bs Bf Bt g cap sa bs hsa (by omega) hbs p m hp hm J Jx hY W1 ((hW.block _ (obj_lt hBs)).trans hBs) ((hW.block _ (obj_lt hBf)).trans hBf) ((hW.block _ (obj_lt hBt)).trans hBt) (fun j hj => (hW.cell (p := ⟨g, j, none⟩) hgl).trans (hg j hj)) h0

section
attribute [local go_sem] maxSem_eq minSem_eq
set_option maxRecDepth 100000 in
set_option maxHeartbeats 1000000 in
theorem bits_read (rb g : Nat) (bs : List Nat) (p t z u m a b : Nat) (n : Int) (w : World) (h : IsR w rb g bs u a) (hu : u = p + t) (hmz : m = t + z) (hpz : z = 0 ∨ p = 0) (hn : (m : Int) = min (max n 0) 56) (hb : b = min (a + z) 1099511627776) :
  Calls Tryz.prog 68 #[.pointer (some ⟨rb, 0, none⟩), .int .i64 n] w fun e w' => e = .returned (.int .u64 ((numAt bs p t * 2 ^ z : Nat) : Int)) ∧ IsR w' rb g bs p b ∧ Keep (fun k => k = rb) w w' := by
 obtain ⟨sa, cap, hsa, ho⟩ := h.obj
 have hm : m ≤ 56 := by omega
 have hfit := h.fits
 have hin := h.in_
 have hc1 : w.cell? ⟨rb, 1, none⟩ = some (.int .i64 (u : Int)) := cell_of ho 1
 obtain ⟨X, hX⟩ : ∃ X : Int, X = max n 0 := ⟨_, rfl⟩
 have hmax := maxSem_run #[3, 3] 3 n 0 X hX
 have hmin := minSem_run #[3, 3] 3 X 56 m (by rw [hX]; exact hn)
 have HU := (show Hid _ from hu)
 have HM := (show Hid _ from hmz)
 have HB := (show Hid _ from hb)
 have HR : Hid (∀ w : World, w.heap[rb]? = some (.cells #[.slice sa bs.length cap, .int .i64 (u : Int), .int .i64 (a : Int)] 173 (0, 0)) → Calls Tryz.prog 90 #[.pointer (some ⟨rb, 1, none⟩), .int .i64 (m : Int)] w fun e w' => e = .returned (.int .i64 (z : Int)) ∧ w'.heap[rb]? = some (.cells #[.slice sa bs.length cap, .int .i64 (p : Int), .int .i64 (b : Int)] 173 (0, 0)) ∧ Keep (fun k => k = rb) w w') := fun w ho => by
  have := back_any rb u a m t b (.slice sa bs.length cap) (by omega) (by rw [hb]; congr 2; omega) w ho (by omega) h.most hm
  rw [show m - t = z from by omega, show u - t = p from by omega] at this
  exact this
 have hz64 : z ≤ 56 := by omega
 have ht56 : t ≤ 56 := by omega
 have hrb : rb < w.heap.size := obj_lt ho
 clear hX hn hb hpz hu hmz
 refine (callsIn_wide (n := 4)).1 ?_
 refine callsIn_of_wp_marks Tryz.func68 rfl trivial ?_ rfl
 simp only [Tryz.ntmps68, List.size_toArray, List.length_cons, List.length_nil, Nat.reduceAdd, Nat.reduceSub, Array.replicate_succ, Array.replicate_zero, List.push_toArray, List.append_toArray, List.nil_append, List.cons_append]
 have hmx : Tryz.prog.follows .mixedOrders = true := by kernel_rfl
 gi_wp2_with (refine ⟨trivial, ?_⟩; gi_at_call 90; refine (callsIn_wide.2 (HR.out _ ho)).mono ?_; rintro e w1 ⟨rfl, ho1, hK1⟩; have hz1 := cell_of (alloc_far ho1 (.cells #[.int .u64 0] 33)) 0; have hz2 := cell_of (alloc_far ho1 (.cells #[.int .u64 0] 33)) 1; simp at hz1 hz2)
 refine wpIn_calm ?_
 gi_region_with_o (refine ⟨trivial, ?_⟩; gi_at_call 91; refine (backwards_in Fence.wide _ trivial rfl _ _ _ _ _ _).mono ?_; rintro e w' ⟨rfl, rfl⟩)
 all_goals
  simp only [calm]
  gi_wp2
  have hlt1 : g < w1.heap.size := Nat.lt_of_lt_of_le h.lt hK1.size
  have hrb1 : rb < w1.heap.size := obj_lt ho1
  have hsz1 := hK1.size
  have hcells1 : ∀ j, j < bs.length → w1.cell? ⟨g, j, none⟩ = some (.int .u8 ((bs[j]?.getD 0 : Nat) : Int)) := fun j hj => by
   have hne : bs ≠ [] := by rintro rfl; simp at hj
   exact (World.cell?_of_block (hK1.block g h.lt (h.ne hne))).trans (h.cells j hj)
  obtain ⟨b0, b1, b2, b3, bsz, bkp⟩ := boxes4 w1 (Obj.cells #[Value.int IntKind.u64 0] 33) (Obj.cells #[Value.slice sa bs.length cap] 22) (Obj.cells #[Value.int IntKind.i64 ↑u] 3) (Obj.cells #[Value.int IntKind.i64 ↑p] 3)
  generalize ((((w1.alloc (Obj.cells #[Value.int IntKind.u64 0] 33)).alloc (Obj.cells #[Value.slice sa bs.length cap] 22)).alloc (Obj.cells #[Value.int IntKind.i64 ↑u] 3)).alloc (Obj.cells #[Value.int IntKind.i64 ↑p] 3)).drew = W0 at b0 b1 b2 b3 bsz bkp ⊢
  refine wpIn_rangeFunc_ownG rfl (by omega) (gf := 108) rfl trivial (enters_of Tryz.func108 (by kernel_rfl) rfl)
   (back_stops 3 (by omega) (w1.heap.size + 1) (w1.heap.size + 1 + 1) (w1.heap.size + 1 + 2) g cap sa bs hsa h.fits h.bytes p t u HU.out (by have := HU.out; omega) ht56 W0 b1 b2 b3 (by omega) (fun j hj => (World.cell?_of_block (bkp.block g hlt1 (fun h => h))).trans (hcells1 j hj)))
   (fun h k => h.trans k) (Stay.putObj (by rintro k (rfl | rfl | rfl | rfl) <;> omega)) (Below.refl _ _) (fun _ => rfl)
   (fun pre W => Boxed W w1.heap.size 33 (.int .u64 (valOf pre : Nat)) ∧ Keep (fun k => k = w1.heap.size) W0 W)
   (fun _ _ _ => False)
   (OwnFrom.and (Own.from (boxed_own _ _ _) _) (ownFrom_keep (Nat.le_refl _)))
   (fun _ _ _ _ _ hs _ _ => hs)
   ⟨b0, Keep.refl _ _⟩
   (fun x => { tmps := #[.pointer (some ⟨rb, 0, none⟩), .int .i64 (m : Int), undef, undef, .int .u64 0, .int .i64 (u : Int), .int .i64 (z : Int), .pointer (some ⟨w1.heap.size, 0, none⟩), .int .u64 ((x.val : Nat) : Int),
    .pointer (some ⟨rb, 0, none⟩), .bool false, .int .i64 n, .int .i64 X, .int .i64 (m : Int), .pointer (some ⟨rb, 0, none⟩), .pointer (some ⟨rb, 0, none⟩), .pointer (some ⟨rb, 1, none⟩), .pointer (some ⟨rb, 1, none⟩), .int .i64 (u : Int),
    .pointer (some ⟨rb, 0, none⟩), .pointer (some ⟨rb, 0, none⟩), .pointer (some ⟨rb, 1, none⟩), .int .i64 (m : Int), .int .i64 (z : Int), .pointer (some ⟨rb, 0, none⟩), .pointer (some ⟨rb, 0, none⟩), .pointer (some ⟨rb, 0, none⟩), .slice sa bs.length cap, .int .i64 (u : Int),
    .pointer (some ⟨rb, 0, none⟩), .pointer (some ⟨rb, 0, none⟩), .pointer (some ⟨rb, 1, none⟩), .pointer (some ⟨rb, 1, none⟩), .int .i64 (p : Int),
    .func (.func 108) #[] #[.pointer (some ⟨w1.heap.size + 1 + 1, 0, none⟩), .pointer (some ⟨w1.heap.size + 1 + 2, 0, none⟩), .pointer (some ⟨w1.heap.size + 1, 0, none⟩)],
    .int .u64 ((x.val : Nat) : Int), undef, undef, undef, undef, undef, undef, undef], defers := [] }) ?assign ?body ?done ?stop
  case assign =>
   intro l x W K hK
   gi_wp2
   exact hK
  case body =>
   rintro l pre x W ⟨hX, hKp⟩ hlt
   dsimp only
   have hcx := hX.cell
   have hfx := hX.frozen
   have hvl := valOf_lt pre
   have hpw : 2 ^ pre.length ≤ 2 ^ 56 := Nat.pow_le_pow_right (by omega) (by omega)
   have hv56 : valOf pre < 72057594037927936 := by omega
   have hor : bits .or .u64 (((valOf pre : Nat) : Int) * 2) ((x.val : Nat) : Int) = ((valOf (pre ++ [x]) : Nat) : Int) := by
    have := or_low (valOf pre) x.val (by omega) x.isLt
    rw [valOf_snoc, ← this, Int.mul_comm]; rfl
   clear hvl hpw
   gi_wp2
   refine ⟨(KeepsOthers.setCell _ _ _).from _, ?_, hX.set _, hKp.setCell (p := ⟨w1.heap.size, 0, none⟩) (fun _ => rfl) _⟩
   rintro k hk
   exact Below.heap_setCell _ _ _ _ (by rcases hk with rfl | rfl | rfl | rfl <;> (dsimp only; omega))
  case done =>
   rintro D ys W hD rfl ⟨hX, hKp⟩ hK
   have hr : W.heap[rb]? = _ := hKp.obj (bkp.obj ho1 (fun h => h)) (by omega)
   have hcx := hX.cell
   have hval := valOf_back bs p t t (Nat.le_refl _)
   rw [Nat.add_sub_cancel] at hval
   have hnl := numAt_lt bs p t
   have hpw : numAt bs p t * 2 ^ z < 2 ^ 56 := by
    have h1 : numAt bs p t * 2 ^ z < 2 ^ t * 2 ^ z := Nat.mul_lt_mul_of_pos_right hnl (Nat.two_pow_pos z)
    have h2 : 2 ^ (t + z) ≤ 2 ^ 56 := Nat.pow_le_pow_right (by omega) (by have := HM.out; omega)
    rw [← Nat.pow_add] at h1; omega
   have hsh : IntKind.u64.wrap (((numAt bs p t : Nat) : Int) * 2 ^ z) = ((numAt bs p t * 2 ^ z : Nat) : Int) := by
    have e : ((numAt bs p t : Nat) : Int) * 2 ^ z = ((numAt bs p t * 2 ^ z : Nat) : Int) := by simp
    rw [e]; generalize numAt bs p t * 2 ^ z = y at hpw; rw [IntKind.wrap_u64]; omega
   clear hz1 hz2 hpw hnl
   gi_wp2
   refine ⟨by simp, .inl ⟨_, _, rfl, run_takeDeferred hK, ?_⟩⟩
   have hkeep : Keep (fun k => k = rb) w (W.putObj D (.deferred none)) :=
    Keep.putObj ((hK1.trans bkp (fun _ _ h => h.elim)).trans hKp (fun i hi e => by omega)) D _ (fun hd => by omega)
   refine ⟨_, results_tmp rfl _ _ _, by rw [← hval, Int.natCast_mul, Int.natCast_pow]; rfl, ?_, hkeep⟩
   refine ⟨Nat.lt_of_lt_of_le h.lt hkeep.size, ⟨sa, cap, hsa, (World.putObj_heap_other (by omega)).trans hr⟩, fun k hk => ?_, h.fits, h.bytes, by have := HU.out; omega, by have := HB.out; omega⟩
   have hne : bs ≠ [] := by rintro rfl; simp at hk
   exact (World.cell?_of_block (hkeep.block g h.lt (h.ne hne))).trans (h.cells k hk)
  case stop =>
   rintro D c pre W _ _ h _
   exact h.elim
end

end Go.Proofs.YtnjilcokkhodmaaGreatDoor.Tl

namespace Go.Proofs.YtnjilcokkhodmaaGreatDoor.Tl
open Go.RowKit Go.Shelf
set_option linter.unusedVariables false
def lenB (c : Nat) : Nat := if c = 0 then 0 else Nat.log2 c + 1

set_option maxRecDepth 100000 in
set_option maxHeartbeats 1000000 in
theorem len8_any (c : Nat) (hc : c < 256) (w : World) : Calls Tryz.prog 89 #[.int .u8 (c : Int)] w fun e w' => e = .returned (.int .i64 ((lenB c : Nat) : Int)) ∧ w' = w := by
 go_enter Tryz.func89, Tryz.ntmps89
 go_wp2
 go_ret
 rename_i hI
 refine ⟨congrArg (fun x => Ending.returned (Value.int .i64 x)) ?_, rfl⟩
 clear w
 revert hI hc
 revert c
 decide +kernel

theorem lenB_pos (c : Nat) (h : c ≠ 0) : 0 < lenB c := by unfold lenB; rw [if_neg h]; omega
theorem lenB_le (c : Nat) (h : c < 256) : lenB c ≤ 8 := by
 unfold lenB
 split
 ·omega
 ·rename_i h0
  have := (Nat.log2_lt h0 (k := 8)).2 (by omega)
  omega

def tailLen (bs : List Nat) : Nat := 8 * (bs.length - 1) + (lenB (bs[bs.length - 1]?.getD 0) - 1)
theorem tailLen_le (bs : List Nat) (hbs : ∀ j : Nat, bs[j]?.getD 0 < 256) : tailLen bs ≤ 8 * bs.length := by
 have := lenB_le _ (hbs (bs.length - 1))
 unfold tailLen
 by_cases h : bs = []
 ·subst h; decide
 ·have := List.length_pos_iff.2 h; omega

set_option maxHeartbeats 400000 in
theorem new_none (sa : Option Addr) (cap : Nat) (w : World) : Calls Tryz.prog 67 #[.slice sa 0 cap] w fun e w' => e = .returned (.tuple #[.pointer none, .int .i64 11]) ∧ w' = w := by
 go_enter Tryz.func67, Tryz.ntmps67
 go_wp2
 go_ret2
 exact ⟨rfl, rfl⟩

set_option maxHeartbeats 400000 in
theorem new_zero (gb off cap k : Nat) (w : World) (hk : k < 140737488355328) (hc : w.cell? ⟨gb, off + k, none⟩ = some (.int .u8 0)) : Calls Tryz.prog 67 #[.slice (some ⟨gb, off, none⟩) (k + 1) cap] w fun e w' => e = .returned (.tuple #[.pointer none, .int .i64 11]) ∧ w' = w := by
 go_enter Tryz.func67, Tryz.ntmps67
 go_wp2
 go_ret2
 exact ⟨rfl, rfl⟩

set_option maxHeartbeats 1000000 in
theorem new_mark (gb off cap k c : Nat) (bs : List Nat) (hlen : bs.length = k + 1) (hk : k < 140737488355327) (hbs : ∀ j : Nat, bs[j]?.getD 0 < 256) (w : World) (hck : bs[k]?.getD 0 = c) (hc0 : c ≠ 0)
  (hcs : ∀ j, j < bs.length → w.cell? ⟨gb, off + j, none⟩ = some (.int .u8 ((bs[j]?.getD 0 : Nat) : Int))) :
  Calls Tryz.prog 67 #[.slice (some ⟨gb, off, none⟩) (k + 1) cap] w fun e w' => ∃ rb g, e = .returned (.tuple #[.pointer (some ⟨rb, 0, none⟩), .int .i64 0]) ∧ w.heap.size ≤ rb ∧ w.heap.size ≤ g ∧ IsR w' rb g bs (tailLen bs) 0 ∧ Keep noBlock w w' := by
 have hc : w.cell? ⟨gb, off + k, none⟩ = some (.int .u8 (c : Int)) := by rw [hcs k (by omega), hck]
 have hc256 : c < 256 := by rw [← hck]; exact hbs k
 have hsrc : Src w (.slice (some ⟨gb, off, none⟩) (k + 1) cap) bs := by
  refine .inr ⟨⟨gb, off, none⟩, cap, by rw [hlen], (World.block_lt_of_cell? w ⟨gb, off + k, none⟩ hc :), fun j u hu => ?_⟩
  have hj : j < (u8s bs).length := (List.getElem?_eq_some_iff.1 hu).1
  rw [u8s_length] at hj
  rw [u8s_at bs j hj] at hu
  rw [← hu, show (⟨gb, off, none⟩ : Addr).add j = ⟨gb, off + j, none⟩ from by unfold Addr.add; split <;> simp_all]
  exact hcs j hj
 have hT : tailLen bs = 8 * k + lenB c - 1 := by
  have := lenB_pos c hc0
  unfold tailLen
  rw [hlen, Nat.add_sub_cancel, hck]; omega
 have hTl := tailLen_le bs hbs
 have HT := (show Hid _ from hT)
 have HTL := (show Hid _ from hTl)
 have HL := (show Hid _ from hlen)
 have HC := (show Hid _ from hcs)
 have HCK := (show Hid _ from hck)
 have hl8 := lenB_le c hc256
 have hl0 := lenB_pos c hc0
 have H8 : Hid (∀ w : World, Calls Tryz.prog 89 #[.int .u8 (c : Int)] w fun e w' => e = .returned (.int .i64 ((lenB c : Nat) : Int)) ∧ w' = w) := fun w => len8_any c hc256 w
 generalize tailLen bs = T at HT HTL ⊢
 generalize lenB c = y at hl8 hl0 HT H8
 have hkd : decide ((k : Int) < 0) = false := decide_eq_false (by omega)
 have hce : ((c : Int) == 0) = false := by simp; omega
 clear hT hTl hlen hcs hck
 go_enter Tryz.func67, Tryz.ntmps67
 go_wp2_with (first | (go_at_call 89; refine (H8.out _).mono ?_; rintro e w' ⟨rfl, rfl⟩) | (go_at_call 59; refine (clone_any _ bs (by have := HL.out; omega) _ hsrc).mono ?_; rintro e w1 ⟨v', rfl, hown, hK, hn⟩; obtain ⟨sa, cap1, rfl⟩ := owns_form hown))
 go_ret2
 have hTe : ((T : Nat) : Int) = (k : Int) * 8 + y - 1 := by have := HT.out; omega
 have hTl := HTL.out
 have hlen := HL.out
 rw [← hTe]
 have hk2 : Keep noBlock w' (w1.alloc (.cells #[.slice sa bs.length cap1, .int .i64 (T : Int), .int .i64 0] 173)) := hK.alloc _
 have hsz := hK.size
 have hob := World.alloc_heap_new w1 (.cells #[.slice sa bs.length cap1, .int .i64 (T : Int), .int .i64 0] 173)
 rcases (hown.alloc (.cells #[.slice sa bs.length cap1, .int .i64 (T : Int), .int .i64 0] 173)).2 with ⟨e1, h0⟩ | ⟨g, cap', cur, e1, hb, hg, hr⟩
 ·omega
 ·simp only [Value.slice.injEq] at e1
  obtain ⟨rfl, _, rfl⟩ := e1
  refine ⟨w1.heap.size, g, rfl, hsz, hb, ⟨obj_lt hg, ⟨_, cap1, .inl rfl, hob⟩, fun j hj => ?_, by omega, hbs, hTl, by decide⟩, hk2⟩
  have := (hown.alloc (.cells #[.slice (some ⟨g, 0, none⟩) bs.length cap1, .int .i64 (T : Int), .int .i64 0] 173)).cells (g := g) rfl j _ (u8s_at bs j hj)
  rwa [add0] at this

theorem new_any (sa : Option Addr) (cap gb off : Nat) (bs : List Nat) (hlen : bs.length ≤ 140737488355327) (hbs : ∀ j : Nat, bs[j]?.getD 0 < 256) (w : World) (hsa : sa = some ⟨gb, off, none⟩ ∨ bs = [])
  (hcs : ∀ j, j < bs.length → w.cell? ⟨gb, off + j, none⟩ = some (.int .u8 ((bs[j]?.getD 0 : Nat) : Int))) :
  (bs[bs.length - 1]?.getD 0 = 0 ∧ Calls Tryz.prog 67 #[.slice sa bs.length cap] w fun e w' => e = .returned (.tuple #[.pointer none, .int .i64 11]) ∧ w' = w) ∨
  (bs[bs.length - 1]?.getD 0 ≠ 0 ∧ Calls Tryz.prog 67 #[.slice sa bs.length cap] w fun e w' => ∃ rb g, e = .returned (.tuple #[.pointer (some ⟨rb, 0, none⟩), .int .i64 0]) ∧ w.heap.size ≤ rb ∧ w.heap.size ≤ g ∧ IsR w' rb g bs (tailLen bs) 0 ∧ Keep noBlock w w') := by
 by_cases hnil : bs = []
 ·subst hnil
  exact .inl ⟨rfl, new_none sa cap w⟩
 ·obtain rfl : sa = some ⟨gb, off, none⟩ := hsa.elim id (fun e => absurd e hnil)
  obtain ⟨k, hk⟩ : ∃ k, bs.length = k + 1 := ⟨bs.length - 1, by have := List.length_pos_iff.2 hnil; omega⟩
  rw [show bs.length - 1 = k from by omega]
  by_cases h0 : bs[k]?.getD 0 = 0
  ·refine .inl ⟨h0, ?_⟩
   have := hcs k (by omega)
   rw [h0] at this
   rw [hk]
   exact new_zero gb off cap k w (by omega) this
  ·refine .inr ⟨h0, ?_⟩
   rw [hk]
   exact new_mark gb off cap k _ bs hk (by omega) hbs w rfl h0 hcs

end Go.Proofs.YtnjilcokkhodmaaGreatDoor.Tl

namespace Go.Proofs.YtnjilcokkhodmaaGreatDoor.Tl
open Go.RowKit Go.Shelf
set_option linter.unusedVariables false

end Go.Proofs.YtnjilcokkhodmaaGreatDoor.Tl

namespace Go.Proofs.YtnjilcokkhodmaaGreatDoor
open Go.RowKit Go.Shelf
set_option linter.unusedVariables false

theorem size5 : (Tryz.prog.info? 5).map (·.size) = some 1 := by kernel_rfl
theorem lt_drop {bs : List Nat} (h : ∀ j : Nat, bs[j]?.getD 0 < 256) (k : Nat) : ∀ j : Nat, (bs.drop k)[j]?.getD 0 < 256 := fun j => by
 rw [List.getElem?_drop]; exact h _
theorem lt_take {bs : List Nat} (h : ∀ j : Nat, bs[j]?.getD 0 < 256) (k : Nat) : ∀ j : Nat, (bs.take k)[j]?.getD 0 < 256 := fun j => by
 rw [List.getElem?_take]; split
 ·exact h _
 ·simp
theorem lt256 {bs : List Nat} (h : ∀ b ∈ bs, b < 256) : ∀ j : Nat, bs[j]?.getD 0 < 256 := fun j => by
 by_cases hj : j < bs.length
 ·rw [List.getElem?_eq_getElem hj]; exact h _ (List.getElem_mem _)
 ·rw [List.getElem?_eq_none (by omega)]; simp
theorem lt_mem {bs : List Nat} (h : ∀ j : Nat, bs[j]?.getD 0 < 256) : ∀ b ∈ bs, b < 256 := fun b hb => by
 obtain ⟨j, hj, rfl⟩ := List.mem_iff_getElem.1 hb
 have := h j
 rwa [List.getElem?_eq_getElem hj] at this
theorem lt_app {a b : List Nat} (h1 : ∀ j : Nat, a[j]?.getD 0 < 256) (h2 : ∀ j : Nat, b[j]?.getD 0 < 256) : ∀ j : Nat, (a ++ b)[j]?.getD 0 < 256 :=
 lt256 (fun x hx => (List.mem_append.1 hx).elim (lt_mem h1 x) (lt_mem h2 x))
theorem u8s_app (a b : List Nat) : u8s (a ++ b) = u8s a ++ u8s b := by simp [u8s]
theorem u8s_take (a : List Nat) (k : Nat) : (u8s a).take k = u8s (a.take k) := by simp [u8s, List.map_take]
theorem keep_setRow {S : Nat → Prop} {a w : World} (h : Keep S a w) (g : Nat) (hg : g < a.heap.size → S g) (cs : Array Value) : Keep S a (w.setRow g cs) :=
 h.trans (T := fun k => k = g) ⟨rfl, rfl, rfl, by simp [World.setRow], fun k _ hk => setRow_other w g k cs hk⟩ (fun i hi e => by subst e; exact hg hi)

/-- The slice reads as the bytes bs. -/
structure Bytes (w : World) (a : Option Addr) (cap gb off : Nat) (bs : List Nat) : Prop where
 at_ : a = some ⟨gb, off, none⟩ ∨ bs = []
 nil : a = none → cap = 0
 cells : ∀ j, j < bs.length → w.cell? ⟨gb, off + j, none⟩ = some (.int .u8 ((bs[j]?.getD 0 : Nat) : Int))
 lt : ∀ j : Nat, bs[j]?.getD 0 < 256
 cap : bs.length ≤ cap
 len : bs.length < 2 ^ 48
theorem Bytes.block {w : World} {a : Option Addr} {cap gb off : Nat} {bs : List Nat} (h : Bytes w a cap gb off bs) (hb : bs ≠ []) : gb < w.heap.size :=
 World.block_lt_of_cell? w ⟨gb, off + 0, none⟩ (h.cells 0 (List.length_pos_iff.2 hb))
theorem Bytes.keep {w w' : World} {S : Nat → Prop} {a : Option Addr} {cap gb off : Nat} {bs : List Nat} (h : Bytes w a cap gb off bs) (hk : Keep S w w') (hS : bs ≠ [] → ¬ S gb) : Bytes w' a cap gb off bs :=
 ⟨h.at_, h.nil, fun j hj => by
  have hne : bs ≠ [] := by rintro rfl; simp at hj
  exact (World.cell?_of_block (hk.block gb (h.block hne) (hS hne))).trans (h.cells j hj), h.lt, h.cap, h.len⟩
def SrcB (w : World) (v : Value) (bs : List Nat) : Prop := (v = .slice none 0 0 ∧ bs = []) ∨ ∃ a cap, v = .slice (some a) bs.length cap ∧ ∀ j u, (u8s bs)[j]? = some u → w.cell? (a.add j) = some u
theorem Bytes.src {w : World} {a : Option Addr} {cap gb off : Nat} {bs : List Nat} (h : Bytes w a cap gb off bs) : SrcB w (.slice a bs.length cap) bs := by
  cases a with
  | none =>
    have h1 := h.nil rfl
    have h2 := h.cap
    have : bs = [] := List.length_eq_zero_iff.1 (by omega)
    subst this
    exact .inl ⟨by rw [h1]; rfl, rfl⟩
  | some ad =>
    refine .inr ⟨ad, cap, rfl, fun j u hu => ?_⟩
    have hj : j < bs.length := by rw [← u8s_length]; exact (List.getElem?_eq_some_iff.1 hu).1
    rcases h.at_ with e | e
    · cases e
      rw [addO, h.cells j hj, ← u8s_at bs j hj, hu]
    · subst e; simp at hj

theorem run_low5 (a : Option Addr) (len cap k : Nat) (h1 : k ≤ len) (w : World) :
  (sliceSem 22 (.slice a len cap) (some (.int .i64 (k : Int))) none none).run Tryz.prog w = .ok (.slice (if cap = k then a else a.map (fun x => x.add k)) (len - k) (cap - k)) w := by
 obtain ⟨i0, hi, hz0, hz1, hz2⟩ := info_parts info5
 simp [sliceSem, Instr.slice, run_underlying Tryz.underlying22, Instr.sliceBounds, Instr.sliceBound, asIntOf, h1, sizeOf, typeInfo, hi, hz1]
theorem run_high5 (a : Option Addr) (len cap k : Nat) (h1 : k ≤ cap) (w : World) :
  (sliceSem 22 (.slice a len cap) none (some (.int .i64 (k : Int))) none).run Tryz.prog w = .ok (.slice a k cap) w := by
 obtain ⟨i0, hi, hz0, hz1, hz2⟩ := info_parts info5
 have e : (if cap = 0 then a else a.map (fun x => x.add 0)) = a := by
  split
  ·rfl
  ·cases a <;> simp [Addr.add]
 simp [sliceSem, Instr.slice, run_underlying Tryz.underlying22, Instr.sliceBounds, Instr.sliceBound, asIntOf, h1, sizeOf, typeInfo, hi, e]

theorem Bytes.drop {w : World} {a : Option Addr} {cap gb off : Nat} {bs : List Nat} (h : Bytes w a cap gb off bs) (k : Nat) (hk : k ≤ bs.length) :
  ∃ a' off', (∀ W, (sliceSem 22 (.slice a bs.length cap) (some (.int .i64 (k : Int))) none none).run Tryz.prog W = .ok (.slice a' (bs.drop k).length (cap - k)) W) ∧ Bytes w a' (cap - k) gb off' (bs.drop k) ∧ (bs.drop k ≠ [] → off' = off + k) := by
 have hc := h.cap
 have hl := h.len
 refine ⟨if cap = k then a else a.map (fun x => x.add k), if cap = k then off else off + k, fun W => by rw [run_low5 a bs.length cap k hk W, List.length_drop], ⟨?_, ?_, ?_, lt_drop h.lt k, by rw [List.length_drop]; omega, by rw [List.length_drop]; omega⟩, ?_⟩
 ·rcases h.at_ with e | e
  ·left
   subst e
   split
   ·rfl
   ·simp [addO]
  ·right; rw [e]; simp
 ·intro e
  split at e
  ·have := h.nil e; omega
  ·rw [Option.map_eq_none_iff] at e
   have := h.nil e; omega
 ·intro j hj
  rw [List.length_drop] at hj
  have := h.cells (k + j) (by omega)
  rw [List.getElem?_drop, if_neg (by omega), Nat.add_assoc]
  exact this
 ·intro hne
  have : 0 < (bs.drop k).length := List.length_pos_iff.2 hne
  rw [List.length_drop] at this
  rw [if_neg (by omega)]
theorem Bytes.take {w : World} {a : Option Addr} {cap gb off : Nat} {bs : List Nat} (h : Bytes w a cap gb off bs) (k : Nat) (hk : k ≤ bs.length) :
  (∀ W, (sliceSem 22 (.slice a bs.length cap) none (some (.int .i64 (k : Int))) none).run Tryz.prog W = .ok (.slice a (bs.take k).length cap) W) ∧ Bytes w a cap gb off (bs.take k) := by
 have hc := h.cap
 have hl := h.len
 have e : (bs.take k).length = k := by rw [List.length_take]; omega
 refine ⟨fun W => by rw [run_high5 a bs.length cap k (by omega) W, e], ⟨?_, h.nil, ?_, lt_take h.lt k, by omega, by omega⟩⟩
 ·rcases h.at_ with e | e
  ·exact .inl e
  ·right; rw [e]; simp
 ·intro j hj
  rw [e] at hj
  rw [List.getElem?_take, if_pos hj]
  exact h.cells j (by omega)

theorem run_copy_any (w : World) (ty : TypeId) (g o dl dc : Nat) (da : Option Addr) (v : Value) (bs : List Nat) (cur : Array Value) (t : Nat) (hv : SrcB w v bs) (ht : t = min bs.length dl)
  (hda : da = some ⟨g, o, none⟩ ∨ t = 0) (hg : w.heap[g]? = some (.cells cur 5 (0, 0))) (hfit : o + t ≤ cur.size) :
  (Builtin.copy_ #[22, 22] ty #[.slice da dl dc, v]).run Tryz.prog w = .ok (.int .i64 (t : Int)) (w.setRow g (cur.toList.take o ++ u8s (bs.take t) ++ cur.toList.drop (o + t)).toArray) := by
 by_cases h0 : t = 0
 ·subst h0
  have e : (cur.toList.take o ++ u8s (bs.take 0) ++ cur.toList.drop (o + 0)).toArray = cur := by simp [u8s]
  rw [e, setRow_self w g cur 5 (0, 0) hg]
  have hmin : Nat.min bs.length dl = 0 := ht.symm
  rcases hv with ⟨rfl, rfl⟩ | ⟨a, cap, rfl, hc⟩
  ·exact run_copy_none (P := Tryz.prog) w 22 22 ty 5 da none dl dc 0 0 Tryz.underlying22 size5 (by simp)
  ·exact run_copy_none (P := Tryz.prog) w 22 22 ty 5 da (some a) dl dc bs.length cap Tryz.underlying22 size5 hmin
 ·rcases hda with rfl | e
  ·rcases hv with ⟨rfl, rfl⟩ | ⟨a, cap, rfl, hc⟩
   ·simp at ht; omega
   ·have hl : (bs.take t).length = t := by rw [List.length_take]; omega
    have := run_copy_row Tryz.prog w 22 22 ty 5 g o dl dc a bs.length cap cur 5 (u8s (bs.take t)) Tryz.underlying22 size5 hg (by rw [u8s_length, hl]; exact ht)
     (fun j u hu => hc j u (by
      rw [← u8s_take] at hu
      rw [List.getElem?_take] at hu
      split at hu
      ·exact hu
      ·cases hu)) (by rw [u8s_length, hl]; exact hfit) (u8s_one _)
    rw [u8s_length, hl] at this
    exact this
  ·exact absurd e h0

theorem run_append_all (w : World) (ty : TypeId) (v : Value) (M bs : List Nat) (hown : w.ownsRow 0 5 1 v M.length (u8s M)) (hlen : M.length + bs.length ≤ 1099511627776) (sv : Value) (h : SrcB w sv bs) :
  ∃ v' w', (Builtin.append_ #[22, 22] ty #[v, sv]).run Tryz.prog w = .ok v' w' ∧ w'.ownsRow 0 5 1 v' (M ++ bs).length (u8s (M ++ bs)) ∧ Keep (fun k => v.ownBlock = some k) w w' ∧ (v'.ownBlock = v.ownBlock ∨ ∃ k, v'.ownBlock = some k ∧ w.heap.size ≤ k) := by
 obtain ⟨i0, hi, hz0, hz1, hz2⟩ := info_parts info5
 have happ : u8s (M ++ bs) = u8s M ++ u8s bs := by simp [u8s]
 rcases h with ⟨rfl, rfl⟩ | ⟨a, c, rfl, hc⟩
 ·refine ⟨v, w, ?_, by simpa using hown, Keep.refl _ _, .inl rfl⟩
  rcases hown.2 with ⟨rfl, h0⟩ | ⟨g, cap, cur, rfl, _, hg, hr1, hr2, _⟩
  ·simp [Builtin.append_, run_underlying Tryz.underlying22, sizeOf, typeInfo, hi, Builtin.lenOf, go_sem]
  ·have hcap : M.length ≤ cap := by omega
   simp [Builtin.append_, run_underlying Tryz.underlying22, sizeOf, typeInfo, hi, Builtin.lenOf, go_sem, hcap]
 ·obtain ⟨v', w', hr, h2, h3, h4, h5⟩ := run_append_own_at (P := Tryz.prog) w 0 22 ty 5 i0 (.int .u8 0) 1 1 Tryz.underlying22 hi hz0 hz1 hz2 rfl (by decide) v M.length (u8s M) hown a bs.length c (u8s bs) (by simp [u8s_length]) hc (u8s_one bs) (by unfold maxLen; omega) (by omega) (Nat.zero_le _)
  refine ⟨v', w', hr, by rw [List.length_append, happ]; exact h2, (Keep.refl _ w).grown h3 (fun k e _ => e), ?_⟩
  rcases h5 with e | e
  ·exact .inl e
  ·exact .inr ⟨_, e, Nat.le_refl _⟩

theorem owns_kept {w w' : World} {S : Nat → Prop} {base : Nat} {v : Value} {n : Nat} {xs : List Value} (h : w.ownsRow base 5 1 v n xs) (hk : Keep S w w') (hS : ∀ g, v.ownBlock = some g → ¬ S g) : w'.ownsRow base 5 1 v n xs := by
 refine ⟨h.1, ?_⟩
 rcases h.2 with ⟨e, h0⟩ | ⟨g, cap, cur, rfl, hb, hg, hr⟩
 ·exact .inl ⟨e, h0⟩
 ·exact .inr ⟨g, cap, cur, rfl, hb, hk.obj hg (hS g rfl), hr⟩
theorem bytes_own {w : World} {v : Value} {M : List Nat} (h : w.ownsRow 0 5 1 v M.length (u8s M)) (hlt : ∀ j : Nat, M[j]?.getD 0 < 256) (hl : M.length < 2 ^ 48) : ∃ a cap g, v = .slice a M.length cap ∧ Bytes w a cap g 0 M ∧ (a = none ∧ M = [] ∨ a = some ⟨g, 0, none⟩ ∧ ∃ cur, w.heap[g]? = some (.cells cur 5 (0, 0)) ∧ cur.size = cap ∧ cur.toList.take M.length = u8s M ∧ cap ≤ maxLen) := by
 rcases h.2 with ⟨e, h0⟩ | ⟨g, cap, cur, e, hb, hg, h1, h2, h3, h4⟩
 ·have : M = [] := List.length_eq_zero_iff.1 h0
  subst this
  exact ⟨none, 0, 0, e, ⟨.inr rfl, fun _ => rfl, fun j hj => by simp at hj, hlt, Nat.le_refl _, hl⟩, .inl ⟨rfl, rfl⟩⟩
 ·subst e
  rw [Nat.mul_one] at h3 h4
  refine ⟨some ⟨g, 0, none⟩, cap, g, rfl, ⟨.inl rfl, (fun e => by cases e), fun j hj => ?_, hlt, h1, hl⟩, .inr ⟨rfl, cur, hg, h3, h4, h2⟩⟩
  have := h.cells (g := g) rfl j _ (u8s_at M j hj)
  rw [add0] at this
  rw [Nat.zero_add]; exact this
theorem owns_mk {w : World} {g cap : Nat} {cur : Array Value} {M : List Nat} (hg : w.heap[g]? = some (.cells cur 5 (0, 0))) (h1 : M.length ≤ cap) (h2 : cap ≤ maxLen) (h3 : cur.size = cap) (h4 : cur.toList.take M.length = u8s M) : w.ownsRow 0 5 1 (.slice (some ⟨g, 0, none⟩) M.length cap) M.length (u8s M) :=
 ⟨by rw [u8s_length, Nat.mul_one], .inr ⟨g, cap, cur, rfl, Nat.zero_le _, hg, h1, h2, by rw [h3, Nat.mul_one], by rw [Nat.mul_one]; exact h4⟩⟩

theorem made_u8 (n : Nat) : madeCells #[.int .u8 0] n = (u8s (List.replicate n 0)).toArray := by
 refine Array.ext (by simp [size_madeCells, u8s]) fun i h1 h2 => ?_
 simp [madeCells, u8s, Nat.mod_one]
theorem run_make_u8 (l c : Nat) (hlc : l ≤ c) (hc : c ≤ 281474976710656) (w : World) :
  (Instr.makeSlice 22 (.int .i64 (l : Int)) (.int .i64 (c : Int))).run Tryz.prog w = .ok (.slice (some ⟨w.heap.size, 0, none⟩) l c) (w.alloc (.cells (u8s (List.replicate c 0)).toArray 5)) := by
 obtain ⟨i0, hi, hz0, hz1, hz2⟩ := info_parts info5
 have hr := run_make (P := Tryz.prog) w 22 5 i0 (.int .u8 0) Tryz.underlying22 hi hz0 .i64 .i64 (l : Int) (c : Int) (by omega) (by omega) (by rw [hz2]; omega) (by omega)
 simp only [Int.toNat_natCast, hz1, Nat.mul_one] at hr
 rw [show (Value.int .u8 0).cells = #[.int .u8 0] from rfl, made_u8] at hr
 exact hr

theorem SrcB.keep {w w' : World} {v : Value} {bs : List Nat} (h : SrcB w v bs) (hk : Keep noBlock w w') : SrcB w' v bs := by
 rcases h with h | ⟨a, cap, e, hc⟩
 ·exact .inl h
 ·exact .inr ⟨a, cap, e, fun j u hu => (World.cell?_of_block (hk.block _ (World.block_lt_of_cell? _ _ (hc j u hu)) (fun h => h))).trans (hc j u hu)⟩
theorem owns_bytes {w : World} {v : Value} {M : List Nat} (h : w.ownsRow 0 5 1 v M.length (u8s M)) (hM : ∀ j : Nat, M[j]?.getD 0 < 256) (hl : M.length < 2 ^ 48) : ∃ a cap g, v = .slice a M.length cap ∧ Bytes w a cap g 0 M ∧ ∀ k, v.ownBlock = some k → k = g := by
 obtain ⟨a, cap, g, e, hB, hc⟩ := bytes_own h hM hl
 refine ⟨a, cap, g, e, hB, fun k hk => ?_⟩
 subst e
 rcases hc with ⟨rfl, _⟩ | ⟨rfl, _⟩
 ·cases hk
 ·simpa [Value.ownBlock] using hk.symm

theorem owns_weak {w : World} {base : Nat} {v : Value} {n : Nat} {xs : List Value} (h : w.ownsRow base 5 1 v n xs) : w.ownsRow 0 5 1 v n xs ∧ ∀ k, v.ownBlock = some k → base ≤ k := by
 refine ⟨⟨h.1, ?_⟩, fun k hk => ?_⟩
 ·rcases h.2 with ⟨e, h0⟩ | ⟨g, cap, cur, e, hb, hr⟩
  ·exact .inl ⟨e, h0⟩
  ·exact .inr ⟨g, cap, cur, e, Nat.zero_le _, hr⟩
 ·rcases h.2 with ⟨e, h0⟩ | ⟨g, cap, cur, e, hb, hr⟩
  ·subst e; cases hk
  ·subst e
   have : g = k := by simpa [Value.ownBlock] using hk
   omega
theorem owns_bytesN {w : World} {v : Value} {M : List Nat} {b : Nat} (h : w.ownsRow 0 5 1 v M.length (u8s M)) (hM : ∀ j : Nat, M[j]?.getD 0 < 256) (hl : M.length < 2 ^ 48) (hn : ∀ k, v.ownBlock = some k → b ≤ k) : ∃ a cap g, v = .slice a M.length cap ∧ Bytes w a cap g 0 M ∧ b ≤ g := by
 obtain ⟨a, cap, g, e, hB, hc⟩ := bytes_own h hM hl
 subst e
 rcases hc with ⟨rfl, _⟩ | ⟨rfl, _⟩
 ·refine ⟨none, cap, b, rfl, ⟨.inr ?_, hB.nil, fun j hj => ?_, hB.lt, hB.cap, hB.len⟩, Nat.le_refl _⟩
  ·have h1 := hB.nil rfl
   have h2 := hB.cap
   exact List.length_eq_zero_iff.1 (by omega)
  ·have h1 := hB.nil rfl
   have h2 := hB.cap
   omega
 ·exact ⟨_, cap, g, rfl, hB, hn g (by simp [Value.ownBlock])⟩

end Go.Proofs.YtnjilcokkhodmaaGreatDoor

namespace Go.Proofs.YtnjilcokkhodmaaGreatDoor
open Go.RowKit

theorem alloc_new (w : World) (o : Obj) : (w.alloc o).heap[w.heap.size]? = some o := by show (w.heap.push o)[w.heap.size]? = some o; simp
theorem Keep.same {S : Nat → Prop} {a w : World} (h : Keep S a w) {W : World} (e1 : W.heap = w.heap) (e2 : W.os = w.os) (e3 : W.tape = w.tape) (e4 : W.output = w.output) : Keep S a W :=
 ⟨e2.trans h.os, e3.trans h.tape, e4.trans h.output, by rw [e1]; exact h.size, fun k hk hs => by rw [e1]; exact h.block k hk hs⟩
theorem hid {p : Prop} (h : p) : Hid p := h
theorem tA {α : Type} {xs : List α} {i : Nat} (h : i < xs.toArray.size) : xs.toArray[i] = xs[i]'(by simpa using h) := rfl
theorem tB {α : Type} {a : α} {l : List α} (h : 0 < (a :: l).length) : (a :: l)[0]'h = a := rfl
theorem tC {α : Type} {a : α} {l : List α} {i : Nat} (h : i + 1 < (a :: l).length) : (a :: l)[i + 1]'h = l[i]'(by simpa using h) := rfl
theorem tD {α : Type} (l : List α) (i : Nat) (a : α) : l.toArray.setIfInBounds i a = (l.set i a).toArray := List.setIfInBounds_toArray l i a
theorem tE {α : Type} {x b : α} {xs : List α} : (x :: xs).set 0 b = b :: xs := rfl
theorem tF {α : Type} {x b : α} {xs : List α} {i : Nat} : (x :: xs).set (i + 1) b = x :: xs.set i b := rfl

end Go.Proofs.YtnjilcokkhodmaaGreatDoor

namespace Go.Proofs.YtnjilcokkhodmaaGreatDoor
open Go.RowKit Go.Shelf
set_option linter.unusedVariables false

def whichN (z : Bool) (back : Nat) : Nat := back - 1 + z.toNat
def meantD (r0 r1 r2 : Int) (z : Bool) (back : Nat) : Int :=
 if 3 < back then (back : Int) - 3 else if whichN z back = 0 then r0 else if whichN z back = 1 then r1 else if whichN z back = 2 then r2 else if 1 < r0 then r0 - 1 else 0
def meantM (r0 : Int) (z : Bool) (back : Nat) : Nat :=
 if 3 < back then 2 else if whichN z back < 3 then whichN z back else if 1 < r0 then 2 else 0

end Go.Proofs.YtnjilcokkhodmaaGreatDoor

namespace Go.Proofs.YtnjilcokkhodmaaGreatDoor
open Go.RowKit Go.Shelf
set_option linter.unusedVariables false

theorem still_of_quiet {P : Program} {ops : Array Oper} {w : World} {Q : Act → Prop} : ∀ (l : List Oper) (a : Act), wpQuiet P ops (fun w' => w' = w) Q l a → wpStill P ops w Q l a
  | [], _, h => h
  | o :: l, a, h => by
    unfold wpQuiet at h
    unfold wpStill
    split
    · rename_i hw
      rw [if_pos hw] at h
      obtain ⟨v, h1, h2⟩ := h
      have h3 := h1 w rfl
      have h4 := still_of_quiet l _ h2
      unfold Oper.quietAt at h3
      unfold Oper.still
      generalize (execOp a.eval o).run P w = r at *
      cases r with
      | ok n w' =>
        cases n <;> simp only [Oper.quietUpon] at h3 <;> simp only [Oper.stillUpon]
        case value u =>
          obtain ⟨e1, e2⟩ := h3
          rw [e1, e2]
          exact ⟨rfl, h4⟩
        case skip =>
          obtain ⟨e1, e2⟩ := h3
          rw [e2] at h4
          exact ⟨e1, h4⟩
        case enter f args =>
          exact ⟨h3.1, v, h3.2, h4⟩
      | halt x w' => simp only [Oper.quietUpon] at h3
    · rename_i hw
      rw [if_neg hw] at h
      exact still_of_quiet l _ h
theorem region_tail {P : Program} {id : Nat} {Q : Exit → Act → World → Prop} {a : Act} {w : World} {l : List Oper} (n : Nat) (hm : P.follows .mixedOrders = true) (hB : Region.lexTailB .any l.toArray n = true)
  (h : wpQuiet P l.toArray (fun w' => w' = w.drew) (fun a' => wpList P l.toArray Q (l.drop n) a' w.drew) (l.take n) a) : (Code.region id l.toArray true).wp P Q a w :=
 wp_region_still_tail n hm hB (still_of_quiet _ _ h)
theorem mx : Tryz.prog.follows .mixedOrders = true := by kernel_rfl

end Go.Proofs.YtnjilcokkhodmaaGreatDoor

namespace Go.Proofs.YtnjilcokkhodmaaGreatDoor
open Go.RowKit Go.Shelf
set_option linter.unusedVariables false

def movedR (r0 r1 r2 : Int) (m : Nat) : Int × Int × Int := if m = 0 then (r0, r1, r2) else if m = 1 then (r0, r0, r2) else (r0, r0, r1)

theorem meantM_le (r0 : Int) (z : Bool) (back : Nat) : meantM r0 z back ≤ 2 := by
 unfold meantM
 split
 ·omega
 ·split
  ·omega
  ·split <;> omega

def sliceAtSem (t : TypeId) (x : Value) (lo hi mx : Option Value) : Sem Value := Instr.sliceAt t x lo hi mx
theorem sliceAtSem_eq (t : TypeId) (x : Value) (lo hi mx : Option Value) : Instr.sliceAt t x lo hi mx = sliceAtSem t x lo hi mx := rfl

section
attribute [local go_sem] sliceAtSem_eq
end
end Go.Proofs.YtnjilcokkhodmaaGreatDoor

namespace Go.Proofs.YtnjilcokkhodmaaGreatDoor
open Go.RowKit Go.Shelf
set_option linter.unusedVariables false

def IsSec (w : World) (sb : Nat) (v : Value) : Prop := w.heap[sb]? = some (.cells #[v] 98 (0, 0))
theorem IsSec.keep {w w' : World} {S : Nat → Prop} {sb : Nat} {v : Value} (h : IsSec w sb v) (hk : Keep S w w') (h1 : ¬ S sb) : IsSec w' sb v := hk.obj h h1

theorem next_none (sb : Nat) (a : Option Addr) (cap : Nat) (w : World) (h : IsSec w sb (.slice a 0 cap)) :
  Calls Tryz.prog 62 #[.pointer (some ⟨sb, 0, none⟩)] w fun e w' => e = .returned (.tuple #[.int .i64 0, .bool false]) ∧ w' = w := by
 have c0 : w.cell? ⟨sb, 0, none⟩ = some (.slice a 0 cap) := by rw [cell_of h]; rfl
 go_enter Tryz.func62, Tryz.ntmps62
 go_wp2_with fail
 go_ret2
 exact ⟨rfl, rfl⟩

section
attribute [local go_sem] sliceSem_eq
set_option maxHeartbeats 1000000 in
theorem next_some (sb g o n cap x c' : Nat) (a' : Option Addr) (w : World) (h : IsSec w sb (.slice (some ⟨g, o, none⟩) (n + 1) cap)) (hc : w.cell? ⟨g, o, none⟩ = some (.int .u8 (x : Int))) (hx : x < 256)
  (hsl : ∀ W, (sliceSem 22 (.slice (some ⟨g, o, none⟩) (n + 1) cap) (some (.int .i64 1)) none none).run Tryz.prog W = .ok (.slice a' n c') W) :
  Calls Tryz.prog 62 #[.pointer (some ⟨sb, 0, none⟩)] w fun e w' => e = .returned (.tuple #[.int .i64 (x : Int), .bool true]) ∧ IsSec w' sb (.slice a' n c') ∧ Keep (fun k => k = sb) w w' := by
 obtain ⟨W1, hW1⟩ : ∃ W1, W1 = w.drew := ⟨_, rfl⟩
 have hk1 : Keep noBlock w W1 := by rw [hW1]; exact (Keep.refl _ w).drew
 have h1 : IsSec W1 sb (.slice (some ⟨g, o, none⟩) (n + 1) cap) := h.keep hk1 (fun h => h)
 have hc1 : W1.cell? ⟨g, o, none⟩ = some (.int .u8 (x : Int)) := by rw [hW1]; exact hc
 have c0 : w.cell? ⟨sb, 0, none⟩ = some (.slice (some ⟨g, o, none⟩) (n + 1) cap) := by rw [cell_of h]; rfl
 have c1 : W1.cell? ⟨sb, 0, none⟩ = some (.slice (some ⟨g, o, none⟩) (n + 1) cap) := by rw [cell_of h1]; rfl
 have z1 : W1.frozen? ⟨sb, 0, none⟩ = false := frozen_of h1 0
 have HF := (show Hid (IsSec (W1.setCell ⟨sb, 0, none⟩ (.slice a' n c')) sb (.slice a' n c') ∧ Keep (fun k => k = sb) w (W1.setCell ⟨sb, 0, none⟩ (.slice a' n c'))) from
  ⟨set_obj h1 0 _, (hk1.mono (T := fun k => k = sb) (fun _ _ h => h.elim)).setCell (p := ⟨sb, 0, none⟩) (fun _ => rfl) _⟩)
 have hn : (((n + 1 : Nat) : Int) == 0) = false := by simp; omega
 have hn1 : (0 : Int) < ((n + 1 : Nat) : Int) := by omega
 have hxI : (x : Int) < 256 := by omega
 obtain ⟨N, hN⟩ : ∃ N, N = n + 1 := ⟨_, rfl⟩
 rw [← hN] at hn hn1 c0 c1 hsl
 have hn2 : 0 < N := by omega
 have hxw : IntKind.i64.wrap (x : Int) = (x : Int) := by rw [IntKind.wrap_i64]; omega
 clear h h1 hk1 hc hN
 go_enter Tryz.func62, Tryz.ntmps62
 go_wp2_with fail
 refine region_tail 14 mx (by kernel_rfl) ?_
 rw [← hW1]
 clear hW1
 simp only [List.take_succ_cons, List.take_zero, List.drop_succ_cons, List.drop_zero]
 repeat (quiet_step (fail))
 refine wpQuiet_nil ?_
 go_wp2_with fail
 go_ret2
 exact ⟨rfl, HF.out⟩
end

theorem results_cell {fn : Func} {a : Tmp} {t : TypeId} (h : fn.results = #[.cell a t]) (tmps : Array Value) (P : Program) (w : World) (p : Addr) (v : Value) (ha : tmps[a]?.getD undef = .pointer (some p)) (hv : (loadVar t p).run P w = .ok v w) :
  (results fn tmps).run P w = .ok v w := by
 simp [results, h, ha, asAddr, hv]
theorem results_tct {fn : Func} {x a u : Tmp} {t : TypeId} (h : fn.results = #[.tmp x, .cell a t, .tmp u]) (tmps : Array Value) (P : Program) (w : World) (p : Addr) (v : Value) (ha : tmps[a]?.getD undef = .pointer (some p)) (hv : (loadVar t p).run P w = .ok v w) :
  (results fn tmps).run P w = .ok (.tuple #[tmps.getD x undef, v, tmps.getD u undef]) w := by
 simp [results, h, ha, asAddr, hv]

def z3 : Array Value := #[.slice none 0 0, .slice none 0 0, .slice none 0 0]
/-- The worlds in which Read begins: its tables, the answer's tables, the section. -/
structure Begun (w W : World) (b0 b1 b2 : Nat) (v : Value) : Prop where
 o0 : W.heap[b0]? = some (.cells z3 38 (0, 0))
 o1 : W.heap[b1]? = some (.cells z3 38 (0, 0))
 o2 : IsSec W b2 v
 ne1 : b1 ≠ b0
 ne2 : b2 ≠ b0
 ne3 : b2 ≠ b1
 n0 : w.heap.size ≤ b0
 n1 : w.heap.size ≤ b1
 n2 : w.heap.size ≤ b2
 kp : Keep noBlock w W

end Go.Proofs.YtnjilcokkhodmaaGreatDoor

namespace Go.Proofs.YtnjilcokkhodmaaGreatDoor
open Go.RowKit Go.Shelf

set_option maxRecDepth 100000 in
set_option maxHeartbeats 1000000 in
theorem len64_big (x : Nat) (hx : x < 16777216) (w : World) : Calls Tryz.prog 110 #[.int .u64 (x : Int)] w fun e w' => e = .returned (.int .i64 ((lenN x : Nat) : Int)) ∧ w' = w := by
 by_cases h : x < 65536
 ·exact len64_any x h w
 ·have g1 : ¬ (4294967296 : Int) ≤ (x : Int) := by omega
  have g2 : (65536 : Int) ≤ (x : Int) := by omega
  have hs : lenN x = 16 + lenN (x / 65536) := by
   have h1 := lenN_shift x (by omega)
   have h2 := lenN_shift (x / 256) (by omega)
   rw [Nat.div_div_eq_div_mul, show 256 * 256 = 65536 from rfl] at h2
   omega
  obtain ⟨y, hy⟩ : ∃ y, y = x / 65536 := ⟨_, rfl⟩
  have hd : (x : Int) / 2 ^ 16 = (y : Int) := by omega
  have hd' : (x : Int) / 65536 = (y : Int) := by omega
  rw [← hy] at hs
  have hy2 : y < 256 := by omega
  have hyI : (y : Int) < 256 := by omega
  have hyn : ¬ (256 : Int) ≤ (y : Int) := by omega
  generalize lenN x = lx at hs ⊢
  have HS := (show Hid _ from hs)
  have HY := (show Hid _ from hy)
  clear hs hy
  go_enter Tryz.func110, Tryz.ntmps110
  go_wp2
  go_ret
  refine ⟨congrArg (fun x => Ending.returned (Value.int .i64 x)) ?_, rfl⟩
  rw [HS.out]
  clear w g1 g2 hx HS HY hd hd' h x lx
  revert hyn hyI hy2
  revert y
  decide +kernel

set_option maxHeartbeats 400000 in
theorem len_big (x : Nat) (hx : x < 16777216) (w : World) : Calls Tryz.prog 92 #[.int .u64 (x : Int)] w fun e w' => e = .returned (.int .i64 ((lenN x : Nat) : Int)) ∧ w' = w := by
 go_enter Tryz.func92, Tryz.ntmps92
 go_wp2_with (go_at_call 110; refine (len64_big x hx _).mono ?_; rintro e w' ⟨rfl, rfl⟩)
 go_ret
 exact ⟨rfl, rfl⟩

set_option maxHeartbeats 400000 in
theorem shareW_any (x : Nat) (hx : x ≤ 11) (w : World) : Calls Tryz.prog 120 #[.int .u8 (x : Int)] w fun e w' => e = .returned (.int .i64 ((shN x : Nat) : Int)) ∧ w' = w := by
 by_cases h0 : x = 0
 ·subst h0
  go_enter Tryz.func120, Tryz.ntmps120
  go_wp2
  go_ret
  exact ⟨rfl, rfl⟩
 ·have hb : ((x : Int) == 0) = false := by rw [beq_eq_false_iff_ne]; omega
  obtain ⟨k, hk⟩ : ∃ k, x = k + 1 := ⟨x - 1, by omega⟩
  have hkI : (x : Int) - 1 = (k : Int) := by omega
  have hk10 : (k : Int) ≤ 10 := by omega
  have hxI : (x : Int) ≤ 11 := by omega
  have hsh : shN x = 2 ^ k := by rw [hk]; rfl
  have hp : 2 ^ k ≤ 1024 := Nat.pow_le_pow_right (n := 2) (j := 10) (by omega) (by omega)
  have hpI : wrap64 ((2 : Int) ^ k) = ((shN x : Nat) : Int) := by
   rw [hsh]
   have e : (2 : Int) ^ k = ((2 ^ k : Nat) : Int) := by simp
   rw [e]
   generalize 2 ^ k = y at hp
   unfold wrap64; omega
  generalize shN x = y at *
  have HP := (show Hid _ from hpI)
  clear hk hsh hp hpI
  go_enter Tryz.func120, Tryz.ntmps120
  go_wp2
  go_ret
  exact ⟨congrArg (fun x => Ending.returned (Value.int .i64 x)) HP.out, rfl⟩

def okW (ws : List Nat) : Bool := decide (∀ i, i < ws.length → wt ws i ≤ 11)

set_option maxRecDepth 100000 in
set_option maxHeartbeats 1000000 in
theorem sumOfW_any (a : Option Addr) (cap gb off : Nat) (ws : List Nat) (w : World) (hB : Bytes w a cap gb off ws) (hl : ws.length ≤ 256) :
  Calls Tryz.prog 101 #[.slice a ws.length cap] w fun e w' => (okW ws = true ∧ e = .returned (.tuple #[.int .i64 ((sumW ws ws.length : Nat) : Int), .bool true]) ∨ okW ws = false ∧ e = .returned (.tuple #[.int .i64 0, .bool false])) ∧ w' = w := by
 have HB := (show Hid (Bytes w a cap gb off ws) from hB)
 obtain ⟨n, hn⟩ : ∃ n, n = ws.length := ⟨_, rfl⟩
 rw [← hn] at hl ⊢
 have HN := (show Hid (n = ws.length) from hn)
 have hnI : (n : Int) ≤ 256 := by omega
 clear hB hn
 go_enter Tryz.func101, Tryz.ntmps101
 go_wp2
 go_loop [2, 8] (fun v2 v8 => ∃ i : Nat, v8 = .int .i64 (i : Int) ∧ v2 = .int .i64 ((sumW ws i : Nat) : Int) ∧ i ≤ n ∧ Hid (∀ j, j < i → wt ws j ≤ 11)) (fun _ v8 => n - (intOf v8).toNat)
 case atStart => exact ⟨0, rfl, rfl, Nat.zero_le _, fun j hj => by omega⟩
 case round =>
  obtain ⟨i, rfl, rfl, hi, HA⟩ := hrel
  have hsb := sumW_le ws i HA.out
  have hsI : ((sumW ws i : Nat) : Int) ≤ 262144 := by omega
  by_cases hlt : i < n
  ·have hix : i < ws.length := by have := HN.out; omega
   obtain rfl : a = some ⟨gb, off, none⟩ := by
    rcases HB.out.at_ with e | e
    ·exact e
    ·rw [e] at hix; simp at hix
   have c0 := HB.out.cells i hix
   have hx256 := HB.out.lt i
   have HS := (show Hid (sumW ws (i + 1) = sumW ws i + shN (wt ws i)) from rfl)
   have hltI : (i : Int) < (n : Int) := by omega
   have HX := (show Hid (wt ws i = ws[i]?.getD 0) from rfl)
   rw [HX.out] at HS
   obtain ⟨x, hx⟩ : ∃ x, x = ws[i]?.getD 0 := ⟨_, rfl⟩
   rw [← hx] at c0 hx256 HS HX
   clear hsb hx
   by_cases h11 : x ≤ 11
   ·have hxI : (x : Int) ≤ 11 := by omega
    have hs1 := shN_le x h11
    have HSH := (show Hid (∀ w : World, _) from fun w => shareW_any x h11 w)
    generalize shN x = y at *
    generalize sumW ws i = si at *
    have hyI : (y : Int) ≤ 1024 := by omega
    go_wp2_with (go_at_call 120; refine (HSH.out _).mono ?_; rintro e w' ⟨rfl, rfl⟩)
    go_round
    case rel => exact ⟨i + 1, by go_num, by rw [HS.out]; go_num, by omega, fun j hj => by
     by_cases e : j = i
     ·subst e; rw [HX.out]; exact h11
     ·exact HA.out j (by omega)⟩
    case measure => simp [intOf]; omega
   ·have hxI : ¬ (x : Int) ≤ 11 := by omega
    have hx256I : (x : Int) < 256 := by omega
    generalize sumW ws i = si at *
    go_wp2_with fail
    go_ret2
    exact ⟨.inr ⟨decide_eq_false (fun h => h11 (by have := h i hix; rwa [HX.out] at this)), rfl⟩, rfl⟩
  ·obtain rfl : i = n := by omega
   have hltI : ¬ (i : Int) < (i : Int) := by omega
   clear hsb
   go_wp2
   go_ret2
   exact ⟨.inl ⟨decide_eq_true (fun j hj => HA.out j (by have := HN.out; omega)), rfl⟩, rfl⟩

end Go.Proofs.YtnjilcokkhodmaaGreatDoor

namespace Go.Proofs.YtnjilcokkhodmaaGreatDoor
open Go.RowKit Go.Shelf

theorem Bytes.here {w : World} {a : Option Addr} {cap gb off : Nat} {bs : List Nat} (h : Bytes w a cap gb off bs) {i : Nat} (hi : i < bs.length) : a = some ⟨gb, off, none⟩ := by
 rcases h.at_ with e | e
 ·exact e
 ·rw [e] at hi; simp at hi

theorem codeB_short {ws : List Nat} (h : ws.length < 2) : codeB ws = false := decide_eq_false (fun q => by omega)
theorem codeB_long {ws : List Nat} (h : 256 < ws.length) : codeB ws = false := decide_eq_false (fun q => by omega)
theorem codeB_last {ws : List Nat} (h : wt ws (ws.length - 1) = 0) : codeB ws = false := decide_eq_false (fun q => q.2.2.1 h)
theorem codeB_ok {ws : List Nat} (h : okW ws = false) : codeB ws = false := decide_eq_false (fun q => (of_decide_eq_false h) q.2.2.2.1)

def Made (ws : List Nat) (w : World) (e : Ending) (w' : World) : Prop := ∃ l : Int, e = .returned (.tuple #[.int .i64 l, .bool (codeB ws)]) ∧ (codeB ws = true → l = ((codeM ws : Nat) : Int)) ∧ w' = w
theorem made_no {ws : List Nat} {w : World} (l : Int) (h : codeB ws = false) : Made ws w (.returned (.tuple #[.int .i64 l, .bool false])) w := ⟨l, by rw [h], fun e => (by rw [h] at e; cases e), rfl⟩

set_option maxRecDepth 100000 in
set_option maxHeartbeats 2000000 in
theorem makeCode_any (a : Option Addr) (cap gb off : Nat) (ws : List Nat) (w : World) (hB : Bytes w a cap gb off ws) :
    Calls Tryz.prog 95 #[.slice a ws.length cap] w fun e w' => Made ws w e w' := by
  have HB := (show Hid (Bytes w a cap gb off ws) from hB)
  have h48 := hB.len
  obtain ⟨n, hn⟩ : ∃ n, n = ws.length := ⟨_, rfl⟩
  have HN := (show Hid (n = ws.length) from hn)
  have hnI : (n : Int) < 281474976710656 := by omega
  rw [← hn]
  by_cases h2 : n < 2
  · have h2I : (n : Int) < 2 := by omega
    have HC := (show Hid _ from codeB_short (ws := ws) (by omega))
    clear hB hn
    go_enter Tryz.func95, Tryz.ntmps95
    go_wp2
    go_ret2
    exact made_no 0 HC.out
  · have h2I : ¬ (n : Int) < 2 := by omega
    by_cases h256 : 256 < n
    · have h256I : (256 : Int) < (n : Int) := by omega
      have HC := (show Hid _ from codeB_long (ws := ws) (by omega))
      clear hB hn
      go_enter Tryz.func95, Tryz.ntmps95
      go_wp2
      go_ret2
      exact made_no 0 HC.out
    · have h256I : ¬ (256 : Int) < (n : Int) := by omega
      obtain ⟨k, hk⟩ : ∃ k, n = k + 1 := ⟨n - 1, by omega⟩
      have hk1 : (n : Int) - 1 = (k : Int) := by omega
      have hkn : (k : Int) < (n : Int) := by omega
      obtain rfl := hB.here (i := k) (by omega)
      have c0 := hB.cells k (by omega)
      have hx256 := hB.lt k
      obtain ⟨x, hx⟩ : ∃ x, x = ws[k]?.getD 0 := ⟨_, rfl⟩
      have hlast : wt ws (ws.length - 1) = x := by unfold wt; rw [hx]; congr 2; omega
      rw [← hx] at c0 hx256
      have HS := (show Hid (∀ u : Unit, Calls Tryz.prog 101 _ w _) from fun _ => sumOfW_any _ cap gb off ws w hB (by omega))
      rw [← hn] at HS
      by_cases hx0 : x = 0
      · have HC := (show Hid _ from codeB_last (ws := ws) (by rw [hlast]; exact hx0))
        subst hx0
        clear hB hn hk hlast hx
        go_enter Tryz.func95, Tryz.ntmps95
        go_wp2
        go_ret2
        exact made_no 0 HC.out
      · have hxb : ((x : Int) == 0) = false := by rw [beq_eq_false_iff_ne]; omega
        have hxI : (x : Int) < 256 := by omega
        have HL := (show Hid (wt ws (ws.length - 1) ≠ 0 ∧ n = k + 1) from ⟨by rw [hlast]; exact hx0, hk⟩)
        clear hB hn hk hlast hx hx0
        go_enter Tryz.func95, Tryz.ntmps95
        cases hok : okW ws with
        | false =>
          have HC := (show Hid _ from codeB_ok (ws := ws) hok)
          have HS2 := (show Hid (Calls Tryz.prog 101 #[.slice (some ⟨gb, off, none⟩) n cap] w fun e w' => e = .returned (.tuple #[.int .i64 0, .bool false]) ∧ w' = w) from (HS.out ()).mono (by
            rintro e w' ⟨h, rfl⟩
            rw [hok] at h
            rcases h with ⟨h, _⟩ | ⟨_, rfl⟩
            · cases h
            · exact ⟨rfl, rfl⟩))
          clear HS hok
          go_wp2_with (go_at_call 101; refine HS2.out.mono ?_; rintro e w' ⟨rfl, rfl⟩)
          go_ret2
          exact made_no 0 HC.out
        | true =>
          have HS2 := (show Hid (Calls Tryz.prog 101 #[.slice (some ⟨gb, off, none⟩) n cap] w fun e w' => e = .returned (.tuple #[.int .i64 ((sumW ws ws.length : Nat) : Int), .bool true]) ∧ w' = w) from (HS.out ()).mono (by
            rintro e w' ⟨h, rfl⟩
            rw [hok] at h
            rcases h with ⟨_, rfl⟩ | ⟨h, _⟩
            · rw [HN.out]; exact ⟨rfl, rfl⟩
            · cases h))
          have HOK := (show Hid (okW ws = true) from hok)
          have hsb := sumW_le ws ws.length (of_decide_eq_true hok)
          have hs0 : 0 < sumW ws ws.length := by
            have h1 := sumN_ge (fun j => shN (wt ws j)) ws.length (ws.length - 1) (by have := HN.out; omega)
            have h2 : 0 < shN (wt ws (ws.length - 1)) := by rw [shN_pos _ HL.out.1]; exact Nat.two_pow_pos _
            unfold sumW
            omega
          have hsS : sumW ws ws.length < 16777216 := by have := HN.out; omega
          have HCB := (show Hid (codeB ws = decide (sumW ws ws.length = 2 ^ (lenN (sumW ws ws.length) - 1) ∧ lenN (sumW ws ws.length) - 1 ≤ 11 ∧ 2 ≤ onesW ws ws.length)) from by
            have hnn := HN.out
            unfold codeB
            rw [Bool.eq_iff_iff, decide_eq_true_iff, decide_eq_true_iff]
            exact ⟨fun h => h.2.2.2.2, fun h => ⟨by omega, by omega, HL.out.1, of_decide_eq_true hok, h⟩⟩)
          have HCM := (show Hid (codeB ws = true → codeM ws = lenN (sumW ws ws.length) - 1) from fun h => by unfold codeM; rw [if_pos h])
          obtain ⟨q1, q2, q3⟩ := lenN_pos (sumW ws ws.length) (by omega)
          have hl18 : lenN (sumW ws ws.length) ≤ 24 := lenN_le _ _ (by omega)
          have HLN := (show Hid (∀ w : World, _) from fun w => len_big _ hsS w)
          generalize sumW ws ws.length = S at *
          obtain ⟨L1, hL1⟩ : ∃ L1, L1 = lenN S := ⟨_, rfl⟩
          rw [← hL1] at HLN HCB HCM hl18 q3
          obtain ⟨l, hl⟩ : ∃ l, l = L1 - 1 := ⟨_, rfl⟩
          have hl1 : (L1 : Int) - 1 = (l : Int) := by omega
          rw [← hl] at HCB HCM
          have hSI : (S : Int) < 16777216 := by omega
          have hlI : (L1 : Int) ≤ 24 := by omega
          clear HS hok hsb q1 q2 q3 hl hL1
          by_cases h11 : l ≤ 11
          · have h11I : ¬ (11 : Int) < (l : Int) := by omega
            have hp : 2 ^ l ≤ 2048 := Nat.pow_le_pow_right (n := 2) (j := 11) (by omega) h11
            have hpI : wrap64 ((2 : Int) ^ l) = ((2 ^ l : Nat) : Int) := by
              have e : (2 : Int) ^ l = ((2 ^ l : Nat) : Int) := by simp
              rw [e]
              generalize 2 ^ l = y at hp
              unfold wrap64; omega
            generalize 2 ^ l = P at *
            by_cases hSP : S = P
            · subst hSP
              have hne : ((S : Int) != (S : Int)) = false := by simp
              go_wp2_with (go_at_call 101; refine HS2.out.mono ?_; rintro e w' ⟨rfl, rfl⟩)
              refine (HLN.out _).mono ?_
              rintro e w' ⟨rfl, rfl⟩
              have H11 := (show Hid _ from h11)
              clear hSI hp hs0 hsS hk1 hkn hxb h2I h256I hlI h48 hl18 hx256 hxI h11 c0 hnI
              go_wp2_with fail
              go_loop [6, 46] (fun v6 v46 => ∃ i : Nat, v46 = .int .i64 (i : Int) ∧ v6 = .int .i64 ((onesW ws i : Nat) : Int) ∧ i ≤ n) (fun _ v46 => n - (intOf v46).toNat)
              case atStart => exact ⟨0, rfl, rfl, Nat.zero_le _⟩
              case round =>
                clear hne hpI
                have h256I : (n : Int) ≤ 256 := by omega
                obtain ⟨i, rfl, rfl, hi⟩ := hrel
                have hob := onesW_le ws i
                have hoI : ((onesW ws i : Nat) : Int) ≤ 256 := by omega
                by_cases hlt : i < n
                · have hix : i < ws.length := by have := HN.out; omega
                  have c1 := HB.out.cells i hix
                  have hx256 := HB.out.lt i
                  have HO := (show Hid (onesW ws (i + 1) = onesW ws i + (if ws[i]?.getD 0 = 1 then 1 else 0)) from rfl)
                  have hltI : (i : Int) < (n : Int) := by omega
                  clear hob
                  generalize ws[i]?.getD 0 = y at *
                  generalize onesW ws i = oi at *
                  have hyI : (y : Int) < 256 := by omega
                  by_cases hy1 : y = 1
                  · have hyb : ((y : Int) == 1) = true := by simp [hy1]
                    have HY := (show Hid _ from hy1)
                    clear hy1
                    go_wp2_with fail
                    go_round
                    case rel => exact ⟨i + 1, by go_num, by rw [HO.out, if_pos HY.out]; go_num, by omega⟩
                    case measure => simp [intOf]; omega
                  · have hyb : ((y : Int) == 1) = false := by rw [beq_eq_false_iff_ne]; omega
                    go_wp2_with fail
                    go_round
                    case rel => exact ⟨i + 1, by go_num, by rw [HO.out, if_neg hy1]; go_num, by omega⟩
                    case measure => simp [intOf]; omega
                · obtain rfl : i = n := by omega
                  have hltI : ¬ (i : Int) < (i : Int) := by omega
                  have HO := (show Hid (codeB ws = decide (2 ≤ onesW ws i)) from by
                    rw [HCB.out, HN.out, Bool.eq_iff_iff, decide_eq_true_iff, decide_eq_true_iff]
                    exact ⟨fun h => h.2.2, fun h => ⟨trivial, H11.out, h⟩⟩)
                  clear hob
                  generalize onesW ws i = oi at *
                  by_cases h2o : 2 ≤ oi
                  · have h2I : (2 : Int) ≤ (oi : Int) := by omega
                    go_wp2_with fail
                    go_ret2
                    have hcb : codeB ws = true := by rw [HO.out]; exact decide_eq_true h2o
                    exact ⟨l, by rw [hcb]; rfl, fun h => by rw [HCM.out h], rfl⟩
                  · have h2I : ¬ (2 : Int) ≤ (oi : Int) := by omega
                    go_wp2_with fail
                    go_ret2
                    exact made_no l (by rw [HO.out]; exact decide_eq_false h2o)
            · have hne : ((S : Int) != (P : Int)) = true := by simp; omega
              have HC := (show Hid (codeB ws = false) from by rw [HCB.out]; exact decide_eq_false (fun h => hSP h.1))
              go_wp2_with (first | (go_at_call 101; refine HS2.out.mono ?_; rintro e w' ⟨rfl, rfl⟩) | (go_at_call 92; refine (HLN.out _).mono ?_; rintro e w' ⟨rfl, rfl⟩))
              go_ret2
              exact made_no 0 HC.out
          · have h11I : (11 : Int) < (l : Int) := by omega
            have HC := (show Hid (codeB ws = false) from by rw [HCB.out]; exact decide_eq_false (fun h => h11 h.2.1))
            go_wp2_with (first | (go_at_call 101; refine HS2.out.mono ?_; rintro e w' ⟨rfl, rfl⟩) | (go_at_call 92; refine (HLN.out _).mono ?_; rintro e w' ⟨rfl, rfl⟩))
            go_ret2
            exact made_no 0 HC.out

end Go.Proofs.YtnjilcokkhodmaaGreatDoor

namespace Go.Proofs.YtnjilcokkhodmaaGreatDoor.Tl
open Go

def qv (bs : List Nat) (p t : Nat) : Nat → Nat
 | 0 => 0
 | k + 1 => 2 * qv bs p t k + (if k < t then bitAt bs (p + t - 1 - k) else 0)
theorem qv_low (bs : List Nat) (p t k : Nat) (hk : k ≤ t) : qv bs p t k = numAt bs (p + t - k) k := by
  induction k with
  | zero => rfl
  | succ k ih =>
    rw [qv, ih (by omega), if_pos (by omega), numAt_front, show p + t - (k + 1) + 1 = p + t - k from by omega, show p + t - 1 - k = p + t - (k + 1) from by omega]
    omega
theorem qv_high (bs : List Nat) (p t j : Nat) : qv bs p t (t + j) = numAt bs p t * 2 ^ j := by
  induction j with
  | zero => rw [Nat.add_zero, qv_low bs p t t (Nat.le_refl _), Nat.add_sub_cancel]; simp
  | succ j ih =>
    rw [show t + (j + 1) = (t + j) + 1 from by omega, qv, ih, if_neg (by omega), Nat.pow_succ, Nat.add_zero, Nat.mul_comm 2, Nat.mul_assoc]

end Go.Proofs.YtnjilcokkhodmaaGreatDoor.Tl

namespace Go.Proofs.YtnjilcokkhodmaaGreatDoor
open Go.RowKit Go.Shelf
set_option linter.unusedVariables false

def bitS (bs : List Nat) (i : Nat) : Nat := if i < Tl.tailLen bs then bitAt bs (Tl.tailLen bs - 1 - i) else 0
theorem bitS_lt (bs : List Nat) (i : Nat) : bitS bs i < 2 := by
 unfold bitS
 split
 ·exact bitAt_lt _ _
 ·omega
def strm (bs : List Nat) (q : Nat) : Nat → Nat
 | 0 => 0
 | n + 1 => 2 * strm bs q n + bitS bs (q + n)
theorem strm_lt (bs : List Nat) (q n : Nat) : strm bs q n < 2 ^ n := by
  induction n with
  | zero => simp [strm]
  | succ n ih =>
    have := bitS_lt bs (q + n)
    rw [strm, Nat.pow_succ]
    omega
theorem strm_add (bs : List Nat) (q n l : Nat) : strm bs q (n + l) = strm bs q n * 2 ^ l + strm bs (q + n) l := by
  induction l with
  | zero => simp [strm]
  | succ l ih =>
    rw [show n + (l + 1) = (n + l) + 1 from by omega, strm, ih, strm, Nat.pow_succ, show q + n + l = q + (n + l) from by omega, ← Nat.mul_assoc]
    generalize strm bs q n * 2 ^ l = z
    omega
theorem strm_shift (bs : List Nat) (q m l : Nat) : (strm bs q m * 2 ^ l + strm bs (q + m) l) % 2 ^ m = strm bs (q + l) m := by
 rw [← strm_add, show m + l = l + m from by omega, strm_add, Nat.mul_comm, Nat.mul_add_mod, Nat.mod_eq_of_lt (strm_lt _ _ _)]
theorem strm_qv (bs : List Nat) (q p t m : Nat) (hp : p + t = Tl.tailLen bs - q) (ht : t = m ∨ p = 0) (k : Nat) (hk : k ≤ m) : strm bs q k = Tl.qv bs p t k := by
  induction k with
  | zero => rfl
  | succ k ih =>
    rw [strm, Tl.qv, ih (by omega)]
    congr 1
    unfold bitS
    by_cases h : k < t
    · rw [if_pos h, if_pos (by omega), show Tl.tailLen bs - 1 - (q + k) = p + t - 1 - k from by omega]
    · rw [if_neg h, if_neg (by omega)]

/-- The reader has read q bits. -/
structure At (W : World) (rb g : Nat) (bs : List Nat) (q : Nat) : Prop where
 is : Tl.IsR W rb g bs (Tl.tailLen bs - q) (q - Tl.tailLen bs)
 le : q < 1000000000000
theorem At.keep {W W' : World} {S : Nat → Prop} {rb g : Nat} {bs : List Nat} {q : Nat} (h : At W rb g bs q) (hk : Keep S W W') (h1 : ¬ S rb) (h2 : ¬ S g) : At W' rb g bs q := ⟨h.is.keep hk h1 (fun _ => h2), h.le⟩
theorem At.drewN {W : World} {rb g : Nat} {bs : List Nat} {q : Nat} (h : At W rb g bs q) (n : Nat) : At (W.drewN n) rb g bs q := ⟨h.is.drewN n, h.le⟩
theorem At.bits {W : World} {rb g : Nat} {bs : List Nat} {q : Nat} (h : At W rb g bs q) (m : Nat) (hm : m ≤ 56) (hq : q + m < 1000000000000) :
  Calls Tryz.prog 68 #[.pointer (some ⟨rb, 0, none⟩), .int .i64 (m : Int)] W fun e W' => e = .returned (.int .u64 ((strm bs q m : Nat) : Int)) ∧ At W' rb g bs (q + m) ∧ Keep (fun k => k = rb) W W' := by
 obtain ⟨t, ht⟩ : ∃ t, t = min m (Tl.tailLen bs - q) := ⟨_, rfl⟩
 have := Tl.bits_read rb g bs (Tl.tailLen bs - q - t) t (m - t) (Tl.tailLen bs - q) m (q - Tl.tailLen bs) (q + m - Tl.tailLen bs) (m : Int) W h.is (by omega) (by omega) (by omega) (by omega) (by omega)
 refine this.mono ?_
 rintro e W' ⟨rfl, h1, h2⟩
 refine ⟨?_, ⟨by rw [show Tl.tailLen bs - (q + m) = Tl.tailLen bs - q - t from by omega]; exact h1, hq⟩, h2⟩
 rw [strm_qv bs q (Tl.tailLen bs - q - t) t m (by omega) (by omega) m (Nat.le_refl _)]
 have := Tl.qv_high bs (Tl.tailLen bs - q - t) t (m - t)
 rw [show t + (m - t) = m from by omega] at this
 rw [this]
theorem At.left {W : World} {rb g : Nat} {bs : List Nat} {q : Nat} (h : At W rb g bs q) :
  Calls Tryz.prog 72 #[.pointer (some ⟨rb, 0, none⟩)] W fun e W' => e = .returned (.int .i64 (((Tl.tailLen bs : Nat) : Int) - (q : Int))) ∧ ∃ n, W' = W.drewN n := by
 refine (Tl.left_any rb g bs _ _ W h.is).mono ?_
 rintro e W' ⟨rfl, h2⟩
 refine ⟨?_, h2⟩
 rw [show (((Tl.tailLen bs - q : Nat) : Int) - ((q - Tl.tailLen bs : Nat) : Int)) = ((Tl.tailLen bs : Nat) : Int) - (q : Int) from by omega]

theorem and_mask (x m : Nat) (hx : x < 18446744073709551616) (hm : m ≤ 56) : Go.bits .and .u64 (x : Int) ((2 ^ m - 1 : Nat) : Int) = ((x % 2 ^ m : Nat) : Int) := by
 have h1 : 2 ^ m ≤ 2 ^ 56 := Nat.pow_le_pow_right (by omega) hm
 rw [u64_and_nat x (2 ^ m - 1) hx (by omega), Nat.and_two_pow_sub_one_eq_mod]
theorem or_join (x y l : Nat) (hx : x < 4096) (hl : l ≤ 12) (hy : y < 2 ^ l) : Go.bits .or .u64 ((x * 2 ^ l : Nat) : Int) (y : Int) = ((x * 2 ^ l + y : Nat) : Int) := by
 have h1 : 2 ^ l ≤ 2 ^ 12 := Nat.pow_le_pow_right (by omega) hl
 have h2 : x * 2 ^ l ≤ 4096 * 2 ^ 12 := Nat.mul_le_mul (by omega) h1
 rw [u64_or_nat (x * 2 ^ l) y (by omega) (by omega)]
 congr 1
 rw [Nat.mul_comm, ← Nat.two_pow_add_eq_or_of_lt hy]

end Go.Proofs.YtnjilcokkhodmaaGreatDoor

namespace Go.Proofs.YtnjilcokkhodmaaGreatDoor
open Go.RowKit Go.Shelf
set_option linter.unusedVariables false

def sprN (o : Nat) : List Nat → Nat → Nat → Array Value → Array Value
 | [], _, _, cs => cs
 | e :: es, i, f, cs => sprN o es (i + 1) ((f + 2 ^ e) % 4294967296) ((cs.setIfInBounds (o + 1 + i) (.int .u32 (f : Int))).setIfInBounds (o + 54 + i) (.int .u8 (e : Int)))

section
set_option maxHeartbeats 2000000 in
theorem spread_any (b o first : Nat) (g off cap : Nat) (es : List Nat) (cs : Array Value) (w : World) (hb : w.heap[b]? = some (.cells cs 107 (0, 0))) (hs : o + 110 ≤ cs.size) (hf : first < 4294967296)
  (hR : Bytes w (some ⟨g, off, none⟩) cap g off es) (hne : g ≠ b) (hl : es.length ≤ 53) (he : ∀ e ∈ es, e < 32) :
  Calls Tryz.prog 64 #[.pointer (some ⟨b, o, none⟩), .int .u32 (first : Int), .slice (some ⟨g, off, none⟩) es.length cap] w fun e w' => e = .returned (.tuple #[]) ∧
   w'.heap[b]? = some (.cells (sprN o es 0 first (cs.setIfInBounds o (.int .i64 (es.length : Int)))) 107 (0, 0)) ∧ Keep (fun k => k = b) w w' := by
 have z0 : w.frozen? ⟨b, o, none⟩ = false := frozen_of hb o
 obtain ⟨u, hu⟩ : ∃ u, cs[o]? = some u := ⟨_, Array.getElem?_eq_getElem (by omega)⟩
 have c0 : w.cell? ⟨b, o, none⟩ = some u := by rw [cell_of hb, hu]
 obtain ⟨n, hn⟩ : ∃ n, n = es.length := ⟨_, rfl⟩
 rw [← hn]
 have hnI : (n : Int) ≤ 53 := by omega
 have hnw : IntKind.i64.wrap (n : Int) = (n : Int) := by rw [IntKind.wrap_i64]; omega
 obtain ⟨cs1, hcs1⟩ : ∃ cs1, cs1 = cs.setIfInBounds o (.int .i64 (n : Int)) := ⟨_, rfl⟩
 have hb1 : (w.setCell ⟨b, o, none⟩ (.int .i64 (n : Int))).heap[b]? = some (.cells cs1 107 (0, 0)) := by rw [hcs1]; exact set_obj hb o _
 rw [← hcs1]
 have hk1 : Keep (fun k => k = b) w (w.setCell ⟨b, o, none⟩ (.int .i64 (n : Int))) := (Keep.refl (fun k => k = b) w).setCell (p := ⟨b, o, none⟩) (fun _ => rfl) _
 have HB := (show Hid (Bytes w (some ⟨g, off, none⟩) cap g off es ∧ n = es.length ∧ (∀ e ∈ es, e < 32) ∧ o + 110 ≤ cs1.size) from ⟨hR, hn, he, by rw [hcs1, Array.size_setIfInBounds]; exact hs⟩)
 have HS := (show Hid (sprN o (es.drop 0) 0 first cs1 = sprN o es 0 first cs1) from by rw [List.drop_zero]; exact rfl)
 clear hR hb hn hl he hu hcs1 hs
 go_enter Tryz.func64, Tryz.ntmps64
 go_wp2_with fail
 generalize w.setCell ⟨b, o, none⟩ (.int .i64 (n : Int)) = W1 at *
 clear c0 z0
 go_loopw [1, 15] (fun v1 v15 wr => ∃ i f : Nat, v15 = .int .i64 (i : Int) ∧ v1 = .int .u32 (f : Int) ∧ i ≤ n ∧ Hid (∃ cur, wr.heap[b]? = some (.cells cur 107 (0, 0)) ∧ cur.size = cs1.size ∧ f < 4294967296 ∧ sprN o (es.drop i) i f cur = sprN o es 0 first cs1 ∧ Keep (fun k => k = b) w wr)) (fun _ v15 _ => n - (intOf v15).toNat)
 case atStart => exact ⟨0, first, rfl, rfl, Nat.zero_le _, cs1, hb1, rfl, hf, HS.out, hk1⟩
 case round =>
  clear hb1 hk1 HS hf
  obtain ⟨i, f, rfl, rfl, hi, HC⟩ := hrel
  by_cases hlt : i < n
  ·have hltI : (i : Int) < (n : Int) := by omega
   obtain ⟨cur, h1, h2, h3, h4, h5⟩ := HC.out
   have hix : i < es.length := by have := HB.out.2.1; omega
   have c1 := (HB.out.1.keep h5 (fun _ => hne)).cells i hix
   obtain ⟨x, hx⟩ : ∃ x, x = es[i]?.getD 0 := ⟨_, rfl⟩
   rw [← hx] at c1
   have hxe : es.drop i = x :: es.drop (i + 1) := by
    rw [List.drop_eq_getElem_cons hix, hx, List.getElem?_eq_getElem hix]; rfl
   have hx32 : x < 32 := HB.out.2.2.1 x (by rw [hx, List.getElem?_eq_getElem hix]; exact List.getElem_mem _)
   have hsz := HB.out.2.2.2
   obtain ⟨p, hp⟩ : ∃ p, cur[o + 1 + i]? = some p := ⟨_, Array.getElem?_eq_getElem (by omega)⟩
   obtain ⟨q, hq⟩ : ∃ q, (cur.setIfInBounds (o + 1 + i) (.int .u32 (f : Int)))[o + 54 + i]? = some q := ⟨_, Array.getElem?_eq_getElem (by rw [Array.size_setIfInBounds]; omega)⟩
   have G : ∀ W : World, W.heap = wr.heap → W.cell? ⟨b, o + 1 + i, none⟩ = some p ∧ W.frozen? ⟨b, o + 1 + i, none⟩ = false ∧ (W.setCell ⟨b, o + 1 + i, none⟩ (.int .u32 (f : Int))).cell? ⟨b, o + 54 + i, none⟩ = some q ∧ (W.setCell ⟨b, o + 1 + i, none⟩ (.int .u32 (f : Int))).frozen? ⟨b, o + 54 + i, none⟩ = false := fun W hW => by
    have g1 : W.heap[b]? = some (.cells cur 107 (0, 0)) := by rw [hW]; exact h1
    have g2 := set_obj g1 (o + 1 + i) (.int .u32 (f : Int))
    exact ⟨by rw [cell_of g1, hp], frozen_of g1 _, by rw [cell_of g2, hq], frozen_of g2 _⟩
   obtain ⟨d1, z1, d2, z2⟩ := G (wr.drewN 1) rfl
   obtain ⟨d1', z1', d2', z2'⟩ := G wr rfl
   obtain ⟨d1'', z1'', d2'', z2''⟩ := G wr.drew rfl
   obtain ⟨f', hf'⟩ : ∃ f', f' = (f + 2 ^ x) % 4294967296 := ⟨_, rfl⟩
   have HE := (show Hid (∀ W : World, W.heap = wr.heap → W.os = wr.os → W.tape = wr.tape → W.output = wr.output → ∃ cur, ((W.setCell ⟨b, o + 1 + i, none⟩ (.int .u32 (f : Int))).setCell ⟨b, o + 54 + i, none⟩ (.int .u8 (x : Int))).heap[b]? = some (.cells cur 107 (0, 0)) ∧ cur.size = cs1.size ∧ f' < 4294967296 ∧ sprN o (es.drop (i + 1)) (i + 1) f' cur = sprN o es 0 first cs1 ∧ Keep (fun k => k = b) w ((W.setCell ⟨b, o + 1 + i, none⟩ (.int .u32 (f : Int))).setCell ⟨b, o + 54 + i, none⟩ (.int .u8 (x : Int)))) from fun W e1 e2 e3 e4 => by
    have g1 : W.heap[b]? = some (.cells cur 107 (0, 0)) := by rw [e1]; exact h1
    have g2 := set_obj g1 (o + 1 + i) (.int .u32 (f : Int))
    refine ⟨_, set_obj g2 (o + 54 + i) _, by rw [Array.size_setIfInBounds, Array.size_setIfInBounds]; exact h2, by omega, ?_, ?_⟩
    ·rw [hxe] at h4
     rw [hf', ← h4]
     rfl
    ·exact ((h5.same e1 e2 e3 e4).setCell (p := ⟨b, o + 1 + i, none⟩) (fun _ => rfl) _).setCell (p := ⟨b, o + 54 + i, none⟩) (fun _ => rfl) _)
   have hxI : (x : Int) < 32 := by omega
   have hiI : (i : Int) < 53 := by omega
   have hi53 : i < 53 := by omega
   have hfw : ((f : Int) + 2 ^ x % 4294967296) % 4294967296 = (f' : Int) := by
    rw [hf', show ((2 : Int) ^ x) = ((2 ^ x : Nat) : Int) from by simp]
    omega
   clear h1 h2 h3 h4 h5 hp hq hx hxe hix hsz HC hf' G
   go_wp2_with fail
   go_region_held3 (fun _ => True) (trivial) ((fail))
   go_wp2_with fail
   go_roundw
   case rel =>
    obtain ⟨cur, q1, q2, q3, q4, q5⟩ := HE.out wr rfl rfl rfl rfl
    exact ⟨i + 1, f', by go_num, by rw [hfw], by omega, cur, q1, q2, q3, q4, q5.drew⟩
   case measure => simp [intOf]; omega
  ·obtain rfl : i = n := by omega
   have hltI : ¬ (i : Int) < (i : Int) := by omega
   obtain ⟨cur, h1, h2, h3, h4, h5⟩ := HC.out
   have HD := (show Hid (wr.heap[b]? = some (.cells (sprN o es 0 first cs1) 107 (0, 0)) ∧ Keep (fun k => k = b) w wr) from by
    rw [List.drop_eq_nil_of_le (by have := HB.out.2.1; omega)] at h4
    rw [← h4]
    exact ⟨h1, h5⟩)
   clear h1 h2 h3 h4 h5 HC
   go_wp2_with fail
   go_end0
   exact ⟨rfl, HD.out⟩
end
end Go.Proofs.YtnjilcokkhodmaaGreatDoor

namespace Go.Proofs.YtnjilcokkhodmaaGreatDoor
open Go.RowKit Go.Shelf
set_option linter.unusedVariables false

def eL : List Nat := [0, 0, 0, 0, 0, 0, 0, 0, 0, 0, 0, 0, 0, 0, 0, 0, 1, 1, 1, 1, 2, 2, 3, 3, 4, 6, 7, 8, 9, 10, 11, 12, 13, 14, 15, 16]
def eB : List Nat := [0, 1, 2, 3, 4, 5, 6, 7, 8, 9, 10, 11, 12, 13, 14, 15, 16, 17, 18, 19, 20, 21, 22, 23, 24, 25, 26, 27, 28, 29, 30, 31]
def eM : List Nat := [0, 0, 0, 0, 0, 0, 0, 0, 0, 0, 0, 0, 0, 0, 0, 0, 0, 0, 0, 0, 0, 0, 0, 0, 0, 0, 0, 0, 0, 0, 0, 0, 1, 1, 1, 1, 2, 2, 3, 3, 4, 4, 5, 7, 8, 9, 10, 11, 12, 13, 14, 15, 16]
def cL : List Int := [4, 3, 2, 2, 2, 2, 2, 2, 2, 2, 2, 2, 2, 1, 1, 1, 2, 2, 2, 2, 2, 2, 2, 2, 2, 3, 2, 1, 1, 1, 1, 1, -1, -1, -1, -1]
def cB : List Int := [1, 1, 1, 1, 1, 1, 2, 2, 2, 1, 1, 1, 1, 1, 1, 1, 1, 1, 1, 1, 1, 1, 1, 1, -1, -1, -1, -1, -1]
def cM : List Int := [1, 4, 3, 2, 2, 2, 2, 2, 2, 1, 1, 1, 1, 1, 1, 1, 1, 1, 1, 1, 1, 1, 1, 1, 1, 1, 1, 1, 1, 1, 1, 1, 1, 1, 1, 1, 1, 1, 1, 1, 1, 1, 1, 1, 1, 1, -1, -1, -1, -1, -1, -1, -1]
def leastsF : Nat → List Nat → List Nat
 | _, [] => []
 | f, e :: es => f :: leastsF ((f + 2 ^ e) % 4294967296) es
def pad (n : Nat) (l : List Nat) : List Nat := l ++ List.replicate (n - l.length) 0
def codL (first : Nat) (es : List Nat) (ml l : Nat) (v : Value) : List Value :=
 .int .i64 (es.length : Int) :: ((pad 53 (leastsF first es)).map (fun x => Value.int .u32 ((x : Nat) : Int)) ++ (pad 53 es).map (fun x => Value.int .u8 ((x : Nat) : Int)) ++ [.int .i64 (ml : Int), .int .i64 (l : Int), v])
def codA (v0 v1 v2 : Value) : List Value := codL 0 eL 9 6 v0 ++ codL 1 eB 8 5 v1 ++ codL 3 eM 9 6 v2

def setAll : Array Value → Nat → List Value → Array Value
 | cs, _, [] => cs
 | cs, o, v :: vs => setAll (cs.setIfInBounds o v) (o + 1) vs
def raw57 (ml l : Nat) (v : Value) : List Value := .int .i64 0 :: (List.replicate 53 (Value.int .u32 0) ++ List.replicate 53 (Value.int .u8 0) ++ [.int .i64 (ml : Int), .int .i64 (l : Int), v])
def stepC (o first : Nat) (es : List Nat) (ml l : Nat) (v : Value) (cs : Array Value) : Array Value := sprN o es 0 first ((setAll cs o (raw57 ml l v)).setIfInBounds o (.int .i64 (es.length : Int)))
theorem codA_made (v0 v1 v2 : Value) : stepC 220 3 eM 9 6 v2 (stepC 110 1 eB 8 5 v1 (stepC 0 0 eL 9 6 v0 Tryz.zeroCells107)) = (codA v0 v1 v2).toArray := by
 kernel_rfl
end Go.Proofs.YtnjilcokkhodmaaGreatDoor

namespace Go.Proofs.YtnjilcokkhodmaaGreatDoor
open Go.RowKit Go.Shelf

section
variable {P : Program} {ops : Array Oper} {Q : Exit → Act → World → Prop} {md : Region.Mode} {S : World → Prop} {z : Nat}

def wpLast (P : Program) (md : Region.Mode) (ops : Array Oper) (Q : Exit → Act → World → Prop) (S : World → Prop) (z : Nat) : Nat → Array Bool → Act → World → Prop
  | 0, listed, a, w => Region.ready md ops listed = [] ∧ Q .normal a w
  | n + 1, listed, a, w => (Region.ready md ops listed = [] → Q .normal a w) ∧
      ∀ j ∈ Region.ready md ops listed, wpOp P ops Q j (fun a' w' => wpLast P md ops Q S z n (listed.setIfInBounds j true) a' w' ∧ (j ≠ z → S w')) a w
theorem any_of_last (n : Nat) : ∀ (listed : Array Bool) (a : Act) (w : World), wpLast P md ops Q S z n listed a w → wpAny P md ops Q n listed a w := by
 induction n with
 | zero => exact fun _ _ _ h => h
 | succ n ih => exact fun _ _ _ h => ⟨h.1, fun j hj => wpOp_mono (fun a' w' q => ih _ a' w' q.1) (h.2 j hj)⟩
def waits (md : Region.Mode) (ops : Array Oper) (z i : Nat) : Bool := match ops[z]? with
 | some o => o.after.any (fun e => Region.binds md e && e.on == i)
 | none => true
theorem waits_not {i : Nat} {listed : Array Bool} (h : waits md ops z i = true) (hi : i ∈ Region.ready md ops listed) : z ∉ Region.ready md ops listed := by
 intro hz
 obtain ⟨_, o, ho, hall⟩ := mem_ready.1 hz
 have hun := (mem_ready.1 hi).1
 unfold waits at h
 rw [ho] at h
 obtain ⟨k, hk, e⟩ := Array.any_eq_true.1 h
 rw [Bool.and_eq_true, beq_iff_eq] at e
 have := hall _ (Array.getElem_mem hk) e.1
 rw [e.2] at this
 rcases Nat.lt_or_ge i listed.size with q | q
 ·simp [q] at hun this
  rw [hun] at this
  cases this
 ·simp [Array.getElem?_eq_none q] at this
theorem last_first {i : Nat} {oi : Oper} {v : Value} (hi : ops[i]? = some oi) (hsel : ∀ (j : Nat) (o : Oper) cs b, ops[j]? = some o → o.op ≠ .select cs b)
    (hQ : ∀ c a w, Q (.panic c) (a.put oi.dst v) w → Q (.panic c) a w) (hz : waits md ops z i = true) (n : Nat) :
    ∀ (listed : Array Bool) (a : Act) (w : World), (∀ j oj, ops[j]? = some oj → j ≠ i → listed.getD j true = false → (∀ e ∈ oj.after, Region.binds md e = true → e.on ≠ i) → oi.apart ops oj = true) →
      i ∈ Region.ready md ops listed → YieldsIf P ops S oi v a → S w → wpLast P md ops Q S z n (listed.setIfInBounds i true) (a.put oi.dst v) w → wpLast P md ops Q S z (n + 1) listed a w := by
  induction n with
  | zero =>
    intro listed a w _ hr hy hS H
    refine ⟨fun e => absurd hr (by rw [e]; simp), fun j hj => ?_⟩
    rcases Nat.decEq j i with q | q
    · have q2 := ready_mono hj q
      rw [H.1] at q2
      cases q2
    · subst q
      exact hy.wpOp hi hS ⟨H, fun _ => hS⟩
  | succ n ih =>
    intro listed a w hfree hr hy hS H
    refine ⟨fun e => absurd hr (by rw [e]; simp), fun j hj => ?_⟩
    rcases Nat.decEq j i with q | q
    · obtain ⟨hun, oj, hoj, hall⟩ := mem_ready.1 hj
      have hni : ∀ e ∈ oj.after, Region.binds md e = true → e.on ≠ i := fun e he hb q1 => by
        have q2 := hall e he hb
        have q3 := (mem_ready.1 hr).1
        rw [q1] at q2
        rcases Nat.lt_or_ge i listed.size with q4 | q4
        · simp [q4] at q2 q3
          rw [q3] at q2
          cases q2
        · simp [Array.getElem?_eq_none q4] at q2
      have hjz : j ≠ z := fun e => waits_not hz hr (e ▸ hj)
      have hput := wpOp_putIf hoj (hfree j oj hoj q hun hni) (fun cs b => hsel i oi cs b hi) (fun cs b => hsel j oj cs b hoj) hQ hy (H.2 j (ready_mono hj q))
      refine wpOp_mono (fun a' w' r => ?_) hput
      have hS' := r.2.2 hjz
      refine ⟨ih (listed.setIfInBounds j true) a' w' (fun k ok hk hki hku hno => hfree k ok hk hki ?_ hno) (ready_mono hr (Ne.symm q)) r.1 hS' ?_, fun _ => hS'⟩
      · rcases Nat.decEq j k with q5 | q5
        · rwa [getD_set_ne true q5] at hku
        · subst q5; exact hun
      · rw [Array.setIfInBounds_comm _ _ q]
        exact r.2.1
    · subst q
      exact hy.wpOp hi hS ⟨H, fun _ => hS⟩
theorem last_take {i : Nat} {oi : Oper} {v : Value} {n : Nat} {listed : Array Bool} {a : Act} {w : World} (hi : ops[i]? = some oi) (hs : Region.noSelect ops = true) (hf : Region.free md ops listed i = true) (hr : (Region.ready md ops listed).contains i = true)
  (hz : waits md ops z i = true) (hQ : ∀ c a w, Q (.panic c) (a.put oi.dst v) w → Q (.panic c) a w) (hy : YieldsIf P ops S oi v a) (hS : S w) (h : wpLast P md ops Q S z n (listed.setIfInBounds i true) (a.put oi.dst v) w) : wpLast P md ops Q S z (n + 1) listed a w :=
 last_first hi (Region.noSelect_spec hs) hQ hz n listed a w (Region.free_spec hi hf) (by simpa using hr) hy hS h
theorem tk {i : Nat} {oi : Oper} {v : Value} {n : Nat} {listed : Array Bool} {a : Act} {w : World} (hi : ops[i]? = some oi) (hc : (Region.noSelect ops && (Region.free md ops listed i && ((Region.ready md ops listed).contains i && waits md ops z i))) = true)
    (hQ : ∀ c a w, Q (.panic c) (a.put oi.dst v) w → Q (.panic c) a w) (hw : Region.wanted oi (yielded ops a.tmps) = true) (hy : ∀ w, S w → (execOp a.eval oi).run P w = .ok (.value v) w) (hS : S w) (h : wpLast P md ops Q S z n (listed.setIfInBounds i true) (a.put oi.dst v) w) : wpLast P md ops Q S z (n + 1) listed a w := by
  simp only [Bool.and_eq_true] at hc
  exact last_take hi hc.1 hc.2.1 hc.2.2.1 hc.2.2.2 hQ (Or.inl ⟨hw, hy⟩) hS h
theorem last_one {j : Nat} {o : Oper} {n : Nat} {listed : Array Bool} {a : Act} {w : World} (hr : Region.ready md ops listed = [j]) (ho : ops[j]? = some o)
  (h : ∀ K' : Act → World → Prop, Shut (∀ a' w', (j ≠ z → S w') → wpLast P md ops Q S z n (listed.setIfInBounds j true) a' w' → K' a' w') → if Region.wanted o (yielded ops a.tmps) = true then Oper.wp P o a w K' Q else K' (a.put o.dst undef) w) : wpLast P md ops Q S z (n + 1) listed a w := by
 refine ⟨fun e => (by rw [hr] at e; cases e), fun i hi => ?_⟩
 rw [hr] at hi
 obtain rfl : i = j := by simpa using hi
 exact wpOp_step ho (fun K' hK => h K' (fun a' w' q1 q2 => hK a' w' ⟨q2, q1⟩))
theorem last_done {listed : Array Bool} {a : Act} {w : World} (hr : Region.ready md ops listed = []) (h : Q .normal a w) : ∀ n, wpLast P md ops Q S z n listed a w
 | 0 => ⟨hr, h⟩
 | _ + 1 => ⟨fun _ => h, by rw [hr]; intro j hj; cases hj⟩
theorem region_last {id : Nat} {a : Act} {w : World} (S : World → Prop) (z : Nat) (hm : P.follows .mixedOrders = true) (hS : S w.drew) (h : S w.drew → wpLast P .any ops Q S z ops.size (Array.replicate ops.size false) a w.drew) : (Code.region id ops true).wp P Q a w :=
 wp_region_any hm (any_of_last _ _ _ _ (h hS))
end
end Go.Proofs.YtnjilcokkhodmaaGreatDoor

namespace Go.Proofs.YtnjilcokkhodmaaGreatDoor
open Go.RowKit Go.Shelf

theorem any_roundA {l n : Nat} {P : Program} {md : Region.Mode} {ops : Array Oper} {Q : Exit → Act → World → Prop} (hd : noDefer ops = true) (hq : ¬ LetsOut Q) :
    ∀ (fuel : Nat) (listed : Array Bool) (a : Act) (w : World), wpAny P md ops Q fuel listed a w → wpAnyIn (Fence.wide.inRound l) n P md ops Q fuel listed a w
  | 0, _, _, _, h => h
  | fuel + 1, listed, a, w, h => ⟨h.1, fun i hi => by
      have h1 := h.2 i hi
      unfold wpOp at h1
      unfold wpOpIn
      cases ho : ops[i]? with
      | none =>
        rw [ho] at h1
        exact any_roundA hd hq fuel _ _ _ h1
      | some o =>
        rw [ho] at h1
        dsimp only at h1 ⊢
        by_cases hw : Region.wanted o (yielded ops a.tmps) = true
        · rw [if_pos hw] at h1 ⊢
          refine ⟨fun _ _ => trivial, ?_⟩
          rw [Oper.semAt_eq _ _ _ (fun c => noDefer_at hd ho c)]
          refine upon_round ?_
          have h2 := h1.resolve_right (fun h => hq h.2)
          exact Oper.wp_mono (fun a' w' h3 => any_roundA hd hq fuel _ a' w' h3) h2
        · rw [if_neg hw] at h1 ⊢
          exact ⟨fun _ _ => trivial, any_roundA hd hq fuel _ _ _ h1⟩⟩
theorem region_roundL {l n id : Nat} {P : Program} {ops : Array Oper} {Q : Exit → Act → World → Prop} {a : Act} {w : World} (S : World → Prop) (z : Nat) (hd : noDefer ops = true) (hm : P.follows .mixedOrders = true) (hS : S w.drew)
  (h : S w.drew → wpLast P .any ops (onward Q) S z ops.size (Array.replicate ops.size false) a w.drew) : (Code.region id ops true).wpIn (Fence.wide.inRound l) n P Q a w :=
 wpIn_mono (wpIn_region_any hm (any_roundA hd (fun ⟨_, _, h⟩ => h) _ _ _ _ (any_of_last _ _ _ _ (h hS)))) (fun e a w h => by cases e <;> first | exact h | exact h.elim)
end Go.Proofs.YtnjilcokkhodmaaGreatDoor
