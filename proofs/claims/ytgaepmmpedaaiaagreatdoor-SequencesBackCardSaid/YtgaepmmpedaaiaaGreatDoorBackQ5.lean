/-
  The reader of package tail: what each of its calls does.
  math/bits.Len8, slices.Clone at bytes, and tail.New; the calls on no reader.
  push of a writer: one bit behind.
  The writer of package tail: what each of its calls does.
-/
import Derived.BigQuiet
import Derived.Deep.QuietTactic
import Derived.Deep.AppendLies
import Derived.WalkLawsBesides
import Derived.BigRegion
import Derived.Deep.RegionLaw
import Derived.Test.YtgaepmmpedaaiaaGreatDoorBackQ4
namespace Go.Proofs.YtgaepmmpedaaiaaGreatDoor.Tl
open Go.RowKit Go.Shelf
set_option linter.unusedVariables false

attribute [local go_sem] Oper.semAt_some
/-- The first bit apart. -/
theorem numAt_front (bs : List Nat) (p m : Nat) : numAt bs p (m + 1) = bitAt bs p + 2 * numAt bs (p + 1) m := by
  induction m with
  | zero => simp [numAt]
  | succ m ih =>
    have h1 : numAt bs p (m + 1 + 1) = numAt bs p (m + 1) + bitAt bs (p + (m + 1)) * 2 ^ (m + 1) := rfl
    have h2 : numAt bs (p + 1) (m + 1) = numAt bs (p + 1) m + bitAt bs (p + 1 + m) * 2 ^ m := rfl
    rw [h1, ih, h2, show p + (m + 1) = p + 1 + m from by omega, Nat.pow_succ, Nat.mul_add, Nat.mul_comm (2 ^ m) 2, Nat.mul_left_comm]
    omega

/-- The number that bits make, the first of them the highest. -/
def valOf (l : List (Fin 2)) : Nat := l.foldl (fun a b => 2 * a + b.val) 0
theorem valOf_snoc (l : List (Fin 2)) (b : Fin 2) : valOf (l ++ [b]) = 2 * valOf l + b.val := by simp [valOf]
theorem valOf_lt (l : List (Fin 2)) : valOf l < 2 ^ l.length := by
  have key : ∀ (l : List (Fin 2)) (a k : Nat), a < 2 ^ k → l.foldl (fun a b => 2 * a + b.val) a < 2 ^ (k + l.length) := by
    intro l
    induction l with
    | nil => intro a k h; exact h
    | cons b l ih =>
      intro a k h
      have := ih (2 * a + b.val) (k + 1) (by rw [Nat.pow_succ]; have := b.isLt; omega)
      rw [List.foldl_cons, List.length_cons, show k + (l.length + 1) = k + 1 + l.length from by omega]
      exact this
  have := key l 0 0 (by decide)
  rwa [Nat.zero_add] at this
theorem valOf_back (bs : List Nat) (p m k : Nat) (hk : k ≤ m) : valOf (upto (bitBack bs (p + m)) k) = numAt bs (p + m - k) k := by
  induction k with
  | zero => rfl
  | succ k ih =>
    rw [upto_succ, valOf_snoc, ih (by omega), numAt_front, show p + m - (k + 1) + 1 = p + m - k from by omega]
    have e : ((bitBack bs (p + m) k).val : Nat) = bitAt bs (p + m - (k + 1)) := by
      show bitAt bs (p + m - 1 - k) = _
      rw [show p + m - 1 - k = p + m - (k + 1) from by omega]
    rw [e]; omega

theorem or_low (x b : Nat) (hx : x < 9223372036854775808) (hb : b < 2) : bits .or .u64 (((2 * x : Nat) : Int)) (b : Int) = ((2 * x + b : Nat) : Int) := by
  rw [u64_or_nat (2 * x) b (by omega) (by omega), nat_join 1 _ _ (by omega) (by omega)]

/-- Block rb is a reader over the bytes bs, which lie in block g: u bits are not read, a were read ahead of the first one. -/
structure IsR (W : World) (rb g : Nat) (bs : List Nat) (u a : Nat) : Prop where
  lt : g < W.heap.size
  obj : ∃ sa cap, (sa = some (⟨g, 0, none⟩ : Addr) ∨ bs = []) ∧ W.heap[rb]? = some (.cells #[.slice sa bs.length cap, .int .i64 (u : Int), .int .i64 (a : Int)] 133 (0, 0))
  cells : ∀ j, j < bs.length → W.cell? ⟨g, j, none⟩ = some (.int .u8 ((bs[j]?.getD 0 : Nat) : Int))
  fits : bs.length < 140737488355328
  bytes : ∀ j : Nat, bs[j]?.getD 0 < 256
  in_ : u ≤ 8 * bs.length
  most : a ≤ 1099511627776

theorem IsR.ne {W : World} {rb g : Nat} {bs : List Nat} {u a : Nat} (h : IsR W rb g bs u a) (hb : bs ≠ []) : g ≠ rb := by
  rintro rfl
  obtain ⟨sa, cap, _, ho⟩ := h.obj
  have h0 := h.cells 0 (List.length_pos_iff.2 hb)
  rw [cell_of ho 0] at h0
  simp at h0
/-- A reader lies on wherever its two blocks lie on. -/
theorem IsR.keep {W W' : World} {S : Nat → Prop} {rb g : Nat} {bs : List Nat} {u a : Nat} (h : IsR W rb g bs u a) (hk : Keep S W W') (h1 : ¬ S rb) (h2 : bs ≠ [] → ¬ S g) : IsR W' rb g bs u a := by
  obtain ⟨sa, cap, hsa, ho⟩ := h.obj
  refine ⟨Nat.lt_of_lt_of_le h.lt hk.size, ⟨sa, cap, hsa, hk.obj ho h1⟩, fun j hj => ?_, h.fits, h.bytes, h.in_, h.most⟩
  have hne : bs ≠ [] := by rintro rfl; simp at hj
  exact (World.cell?_of_block (hk.block g h.lt (h2 hne))).trans (h.cells j hj)
theorem IsR.drewN {W : World} {rb g : Nat} {bs : List Nat} {u a : Nat} (h : IsR W rb g bs u a) (n : Nat) : IsR (W.drewN n) rb g bs u a := ⟨h.lt, h.obj, h.cells, h.fits, h.bytes, h.in_, h.most⟩

set_option maxHeartbeats 400000 in
/-- Left of a reader. -/
theorem left_any (rb g : Nat) (bs : List Nat) (u a : Nat) (w : World) (h : IsR w rb g bs u a) :
    Calls Tryz.prog 38 #[.pointer (some ⟨rb, 0, none⟩)] w fun e w' => e = .returned (.int .i64 ((u : Int) - a)) ∧ ∃ n, w' = w.drewN n := by
  obtain ⟨sa, cap, hsa, ho⟩ := h.obj
  have hc1 : w.cell? ⟨rb, 1, none⟩ = some (.int .i64 (u : Int)) := cell_of ho 1
  have hc2 : w.cell? ⟨rb, 2, none⟩ = some (.int .i64 (a : Int)) := cell_of ho 2
  have hf := h.fits
  have hi := h.in_
  have hm := h.most
  clear h ho hsa
  go_enter Tryz.func38, Tryz.ntmps38
  go_wp2
  go_quiet (fail)
  go_wp2
  go_ret
  exact ⟨rfl, _, rfl⟩

set_option maxHeartbeats 400000 in
/-- back(m), where there are so many bits. -/
theorem back_there (rb u a m : Nat) (sl : Value) (w : World) (ho : w.heap[rb]? = some (.cells #[sl, .int .i64 (u : Int), .int .i64 (a : Int)] 133 (0, 0))) (hu : u < 2251799813685248) (ha : a ≤ 1099511627776) (hm : m ≤ 56) (hmu : m ≤ u) :
    Calls Tryz.prog 60 #[.pointer (some ⟨rb, 1, none⟩), .int .i64 (m : Int)] w fun e w' => e = .returned (.int .i64 0) ∧ w'.heap[rb]? = some (.cells #[sl, .int .i64 ((u - m : Nat) : Int), .int .i64 (a : Int)] 133 (0, 0)) ∧ Keep (fun k => k = rb) w w' := by
  have hc1 : w.cell? ⟨rb, 1, none⟩ = some (.int .i64 (u : Int)) := cell_of ho 1
  have hc2 : w.cell? ⟨rb, 2, none⟩ = some (.int .i64 (a : Int)) := cell_of ho 2
  have hf1 := frozen_of ho 1
  have hf2 := frozen_of ho 2
  go_enter Tryz.func60, Tryz.ntmps60
  go_wp2
  go_ret
  refine ⟨rfl, (set_obj (set_obj ho 1 _) 2 _).trans ?_, ((Keep.refl (fun k => k = rb) w).setCell (p := ⟨rb, 1, none⟩) (fun _ => rfl) _).setCell (p := ⟨rb, 2, none⟩) (fun _ => rfl) _⟩
  have e : ((u - m : Nat) : Int) = (u : Int) - m := by omega
  rw [e]
  simp

set_option maxHeartbeats 400000 in
/-- back(m), where there are fewer bits. -/
theorem back_ahead (rb u a m b : Nat) (sl : Value) (w : World) (ho : w.heap[rb]? = some (.cells #[sl, .int .i64 (u : Int), .int .i64 (a : Int)] 133 (0, 0))) (ha : a ≤ 1099511627776) (hm : m ≤ 56) (hmu : u < m) (hb : b = min (a + (m - u)) 1099511627776) :
    Calls Tryz.prog 60 #[.pointer (some ⟨rb, 1, none⟩), .int .i64 (m : Int)] w fun e w' => e = .returned (.int .i64 ((m - u : Nat) : Int)) ∧ w'.heap[rb]? = some (.cells #[sl, .int .i64 0, .int .i64 (b : Int)] 133 (0, 0)) ∧ Keep (fun k => k = rb) w w' := by
  have hc1 : w.cell? ⟨rb, 1, none⟩ = some (.int .i64 (u : Int)) := cell_of ho 1
  have hc2 : w.cell? ⟨rb, 2, none⟩ = some (.int .i64 (a : Int)) := cell_of ho 2
  have hf1 := frozen_of ho 1
  have hf2 := frozen_of ho 2
  have HB := (show Hid _ from hb)
  clear hb
  by_cases hq : a + (m - u) ≤ 1099511627776
  · have hq2 : (a : Int) + m - u ≤ 1099511627776 := by omega
    go_enter Tryz.func60, Tryz.ntmps60
    go_wp2
    go_ret
    refine ⟨by simp; omega, (set_obj (set_obj ho 1 _) 2 _).trans ?_, ((Keep.refl (fun k => k = rb) w).setCell (p := ⟨rb, 1, none⟩) (fun _ => rfl) _).setCell (p := ⟨rb, 2, none⟩) (fun _ => rfl) _⟩
    have e : (b : Int) = (a : Int) + m - u := by have := HB.out; omega
    rw [e]
    simp
  · have hq2 : (1099511627776 : Int) < (a : Int) + m - u := by omega
    go_enter Tryz.func60, Tryz.ntmps60
    go_wp2
    go_ret
    refine ⟨by simp; omega, (set_obj (set_obj ho 1 _) 2 _).trans ?_, ((Keep.refl (fun k => k = rb) w).setCell (p := ⟨rb, 1, none⟩) (fun _ => rfl) _).setCell (p := ⟨rb, 2, none⟩) (fun _ => rfl) _⟩
    have e : (b : Int) = 1099511627776 := by have := HB.out; omega
    rw [e]
    simp

/-- back(m): how many of them lie ahead of the tail's first bit. -/
theorem back_any (rb u a m t b : Nat) (sl : Value) (ht : t = min m u) (hb : b = min (a + (m - t)) 1099511627776) (w : World) (ho : w.heap[rb]? = some (.cells #[sl, .int .i64 (u : Int), .int .i64 (a : Int)] 133 (0, 0))) (hu : u < 2251799813685248) (ha : a ≤ 1099511627776) (hm : m ≤ 56) :
    Calls Tryz.prog 60 #[.pointer (some ⟨rb, 1, none⟩), .int .i64 (m : Int)] w fun e w' => e = .returned (.int .i64 ((m - t : Nat) : Int)) ∧ w'.heap[rb]? = some (.cells #[sl, .int .i64 ((u - t : Nat) : Int), .int .i64 (b : Int)] 133 (0, 0)) ∧ Keep (fun k => k = rb) w w' := by
  by_cases hmu : m ≤ u
  · obtain rfl : t = m := by omega
    obtain rfl : b = a := by omega
    have := back_there rb u b t sl w ho hu ha hm hmu
    rw [Nat.sub_self]
    exact this
  · obtain rfl : t = u := by omega
    have := back_ahead rb t a m b sl w ho ha hm (by omega) hb
    rw [Nat.sub_self]
    exact this

theorem maxSem_run (ats : Array TypeId) (ty : TypeId) (a b c : Int) (h : c = max a b) (w : World) : (maxSem ats ty #[.int .i64 a, .int .i64 b]).run Tryz.prog w = .ok (.int .i64 c) w := by
  have e : (maxSem ats ty #[.int .i64 a, .int .i64 b]) = pure (.int .i64 (if b > a then b else a)) := rfl
  rw [e, h, show max a b = (if b > a then b else a) from by split <;> omega]
  rfl
theorem minSem_run (ats : Array TypeId) (ty : TypeId) (a b c : Int) (h : c = min a b) (w : World) : (minSem ats ty #[.int .i64 a, .int .i64 b]).run Tryz.prog w = .ok (.int .i64 c) w := by
  have e : (minSem ats ty #[.int .i64 a, .int .i64 b]) = pure (.int .i64 (if b < a then b else a)) := rfl
  rw [e, h, show min a b = (if b < a then b else a) from by split <;> omega]
  rfl

/-- The iterator's word, at the world where the loop begins. -/
theorem back_stops (n : Nat) (hn : 1 ≤ n) (Bs Bf Bt g cap : Nat) (sa : Option Addr) (bs : List Nat) (hsa : sa = some ⟨g, 0, none⟩ ∨ bs = []) (hlen : bs.length < 140737488355328) (hbs : ∀ j : Nat, bs[j]?.getD 0 < 256) (p m u : Nat) (hu : u = p + m) (hp : p + m ≤ 8 * bs.length) (hm : m ≤ 56)
    (W : World) (hBs : W.heap[Bs]? = some (.cells #[.slice sa bs.length cap] 22 (0, 0))) (hBf : W.heap[Bf]? = some (.cells #[.int .i64 (u : Int)] 3 (0, 0))) (hBt : W.heap[Bt]? = some (.cells #[.int .i64 (p : Int)] 3 (0, 0)))
    (hgl : g < W.heap.size) (hg : ∀ j, j < bs.length → W.cell? ⟨g, j, none⟩ = some (.int .u8 (bs[j]?.getD 0 : Nat))) :
    SeqStopsK Fence.wide n Tryz.prog 84 #[.pointer (some ⟨Bf, 0, none⟩), .pointer (some ⟨Bt, 0, none⟩), .pointer (some ⟨Bs, 0, none⟩)] (fun b : Fin 2 => #[Value.int .u64 (b.val : Int)])
      (Stay (fun k => k = Bs ∨ k = Bf ∨ k = Bt ∨ k = g)) (fun ys => ys = upto (bitBack bs (p + m)) m) (fun _ => True) m W := fun l J Jx W1 hW _ _ hY h0 => by
  subst hu
  refine back1_in Fence.wide n trivial rfl hn l Bs Bf Bt g cap sa bs hsa (by omega) hbs p m hp hm J Jx hY W1 ((hW.block _ (obj_lt hBs)).trans hBs) ((hW.block _ (obj_lt hBf)).trans hBf) ((hW.block _ (obj_lt hBt)).trans hBt) (fun j hj => (hW.cell (p := ⟨g, j, none⟩) hgl).trans (hg j hj)) h0

section
attribute [local go_sem] maxSem_eq minSem_eq
set_option maxRecDepth 100000 in
set_option maxHeartbeats 1000000 in
/-- Bits(n): the number of the bits ahead of where the reader stands (t of them are there); those ahead of the tail's first bit (z) count as 0. -/
theorem bits_read (rb g : Nat) (bs : List Nat) (p t z u m a b : Nat) (n : Int) (w : World) (h : IsR w rb g bs u a) (hu : u = p + t) (hmz : m = t + z) (hpz : z = 0 ∨ p = 0) (hn : (m : Int) = min (max n 0) 56) (hb : b = min (a + z) 1099511627776) :
    Calls Tryz.prog 34 #[.pointer (some ⟨rb, 0, none⟩), .int .i64 n] w fun e w' => e = .returned (.int .u64 ((numAt bs p t * 2 ^ z : Nat) : Int)) ∧ IsR w' rb g bs p b ∧ Keep (fun k => k = rb) w w' := by
  obtain ⟨sa, cap, hsa, ho⟩ := h.obj
  have hm : m ≤ 56 := by omega
  have hfit := h.fits
  have hin := h.in_
  have hc1 : w.cell? ⟨rb, 1, none⟩ = some (.int .i64 (u : Int)) := cell_of ho 1
  obtain ⟨X, hX⟩ : ∃ X : Int, X = max n 0 := ⟨_, rfl⟩
  have hmax := maxSem_run #[3, 3] 3 n 0 X hX
  have hmin := minSem_run #[3, 3] 3 X 56 m (by rw [hX]; exact hn)
  have HU := (show Hid _ from hu)
  have HM := (show Hid _ from hmz)
  have HB := (show Hid _ from hb)
  have HR : Hid (∀ w : World, w.heap[rb]? = some (.cells #[.slice sa bs.length cap, .int .i64 (u : Int), .int .i64 (a : Int)] 133 (0, 0)) → Calls Tryz.prog 60 #[.pointer (some ⟨rb, 1, none⟩), .int .i64 (m : Int)] w fun e w' => e = .returned (.int .i64 (z : Int)) ∧ w'.heap[rb]? = some (.cells #[.slice sa bs.length cap, .int .i64 (p : Int), .int .i64 (b : Int)] 133 (0, 0)) ∧ Keep (fun k => k = rb) w w') := fun w ho => by
    have := back_any rb u a m t b (.slice sa bs.length cap) (by omega) (by rw [hb]; congr 2; omega) w ho (by omega) h.most hm
    rw [show m - t = z from by omega, show u - t = p from by omega] at this
    exact this
  have hz64 : z ≤ 56 := by omega
  have ht56 : t ≤ 56 := by omega
  have hrb : rb < w.heap.size := obj_lt ho
  clear hX hn hb hpz hu hmz
  refine (callsIn_wide (n := 4)).1 ?_
  refine callsIn_of_wp_marks Tryz.func34 rfl trivial ?_ rfl
  simp only [Tryz.ntmps34, List.size_toArray, List.length_cons, List.length_nil, Nat.reduceAdd, Nat.reduceSub, Array.replicate_succ, Array.replicate_zero, List.push_toArray, List.append_toArray, List.nil_append, List.cons_append]
  have hmx : Tryz.prog.follows .mixedOrders = true := by kernel_rfl
  gi_wp2_with (refine ⟨trivial, ?_⟩; gi_at_call 60; refine (callsIn_wide.2 (HR.out _ ho)).mono ?_; rintro e w1 ⟨rfl, ho1, hK1⟩; have hz1 := cell_of (alloc_far ho1 (.cells #[.int .u64 0] 104)) 0; have hz2 := cell_of (alloc_far ho1 (.cells #[.int .u64 0] 104)) 1; simp at hz1 hz2)
  refine wpIn_calm ?_
  gi_region_with_o (refine ⟨trivial, ?_⟩; gi_at_call 61; refine (backwards_in Fence.wide _ trivial rfl _ _ _ _ _ _).mono ?_; rintro e w' ⟨rfl, rfl⟩)
  all_goals
    simp only [calm]
    gi_wp2
    have hlt1 : g < w1.heap.size := Nat.lt_of_lt_of_le h.lt hK1.size
    have hrb1 : rb < w1.heap.size := obj_lt ho1
    have hsz1 := hK1.size
    have hcells1 : ∀ j, j < bs.length → w1.cell? ⟨g, j, none⟩ = some (.int .u8 ((bs[j]?.getD 0 : Nat) : Int)) := fun j hj => by
      have hne : bs ≠ [] := by rintro rfl; simp at hj
      exact (World.cell?_of_block (hK1.block g h.lt (h.ne hne))).trans (h.cells j hj)
    obtain ⟨b0, b1, b2, b3, bsz, bkp⟩ := boxes4 w1 (Obj.cells #[Value.int IntKind.u64 0] 104) (Obj.cells #[Value.slice sa bs.length cap] 22) (Obj.cells #[Value.int IntKind.i64 ↑u] 3) (Obj.cells #[Value.int IntKind.i64 ↑p] 3)
    generalize ((((w1.alloc (Obj.cells #[Value.int IntKind.u64 0] 104)).alloc (Obj.cells #[Value.slice sa bs.length cap] 22)).alloc (Obj.cells #[Value.int IntKind.i64 ↑u] 3)).alloc (Obj.cells #[Value.int IntKind.i64 ↑p] 3)).drew = W0 at b0 b1 b2 b3 bsz bkp ⊢
    refine wpIn_rangeFunc_ownG rfl (by omega) (gf := 84) rfl trivial (enters_of Tryz.func84 (by kernel_rfl) rfl)
      (back_stops 3 (by omega) (w1.heap.size + 1) (w1.heap.size + 1 + 1) (w1.heap.size + 1 + 2) g cap sa bs hsa h.fits h.bytes p t u HU.out (by have := HU.out; omega) ht56 W0 b1 b2 b3 (by omega) (fun j hj => (World.cell?_of_block (bkp.block g hlt1 (fun h => h))).trans (hcells1 j hj)))
      (fun h k => h.trans k) (Stay.putObj (by rintro k (rfl | rfl | rfl | rfl) <;> omega)) (Below.refl _ _) (fun _ => rfl)
      (fun pre W => Boxed W w1.heap.size 104 (.int .u64 (valOf pre : Nat)) ∧ Keep (fun k => k = w1.heap.size) W0 W)
      (fun _ _ _ => False)
      (OwnFrom.and (Own.from (boxed_own _ _ _) _) (ownFrom_keep (Nat.le_refl _)))
      (fun _ _ _ _ _ hs _ _ => hs)
      ⟨b0, Keep.refl _ _⟩
      (fun x => { tmps := #[.pointer (some ⟨rb, 0, none⟩), .int .i64 (m : Int), undef, undef, .int .u64 0, .int .i64 (u : Int), .int .i64 (z : Int), .pointer (some ⟨w1.heap.size, 0, none⟩), .int .u64 ((x.val : Nat) : Int),
        .pointer (some ⟨rb, 0, none⟩), .bool false, .int .i64 n, .int .i64 X, .int .i64 (m : Int), .pointer (some ⟨rb, 0, none⟩), .pointer (some ⟨rb, 0, none⟩), .pointer (some ⟨rb, 1, none⟩), .pointer (some ⟨rb, 1, none⟩), .int .i64 (u : Int),
        .pointer (some ⟨rb, 0, none⟩), .pointer (some ⟨rb, 0, none⟩), .pointer (some ⟨rb, 1, none⟩), .int .i64 (m : Int), .int .i64 (z : Int), .pointer (some ⟨rb, 0, none⟩), .pointer (some ⟨rb, 0, none⟩), .pointer (some ⟨rb, 0, none⟩), .slice sa bs.length cap, .int .i64 (u : Int),
        .pointer (some ⟨rb, 0, none⟩), .pointer (some ⟨rb, 0, none⟩), .pointer (some ⟨rb, 1, none⟩), .pointer (some ⟨rb, 1, none⟩), .int .i64 (p : Int),
        .func (.func 84) #[] #[.pointer (some ⟨w1.heap.size + 1 + 1, 0, none⟩), .pointer (some ⟨w1.heap.size + 1 + 2, 0, none⟩), .pointer (some ⟨w1.heap.size + 1, 0, none⟩)],
        .int .u64 ((x.val : Nat) : Int), undef, undef, undef, undef, undef, undef, undef], defers := [] }) ?assign ?body ?done ?stop
    case assign =>
      intro l x W K hK
      gi_wp2
      exact hK
    case body =>
      rintro l pre x W ⟨hX, hKp⟩ hlt
      dsimp only
      have hcx := hX.cell
      have hfx := hX.frozen
      have hvl := valOf_lt pre
      have hpw : 2 ^ pre.length ≤ 2 ^ 56 := Nat.pow_le_pow_right (by omega) (by omega)
      have hv56 : valOf pre < 72057594037927936 := by omega
      have hor : bits .or .u64 (((valOf pre : Nat) : Int) * 2) ((x.val : Nat) : Int) = ((valOf (pre ++ [x]) : Nat) : Int) := by
        have := or_low (valOf pre) x.val (by omega) x.isLt
        rw [valOf_snoc, ← this, Int.mul_comm]; rfl
      clear hvl hpw
      gi_wp2
      refine ⟨(KeepsOthers.setCell _ _ _).from _, ?_, hX.set _, hKp.setCell (p := ⟨w1.heap.size, 0, none⟩) (fun _ => rfl) _⟩
      rintro k hk
      exact Below.heap_setCell _ _ _ _ (by rcases hk with rfl | rfl | rfl | rfl <;> (dsimp only; omega))
    case done =>
      rintro D ys W hD rfl ⟨hX, hKp⟩ hK
      have hr : W.heap[rb]? = _ := hKp.obj (bkp.obj ho1 (fun h => h)) (by omega)
      have hcx := hX.cell
      have hval := valOf_back bs p t t (Nat.le_refl _)
      rw [Nat.add_sub_cancel] at hval
      have hnl := numAt_lt bs p t
      have hpw : numAt bs p t * 2 ^ z < 2 ^ 56 := by
        have h1 : numAt bs p t * 2 ^ z < 2 ^ t * 2 ^ z := Nat.mul_lt_mul_of_pos_right hnl (Nat.two_pow_pos z)
        have h2 : 2 ^ (t + z) ≤ 2 ^ 56 := Nat.pow_le_pow_right (by omega) (by have := HM.out; omega)
        rw [← Nat.pow_add] at h1; omega
      have hsh : IntKind.u64.wrap (((numAt bs p t : Nat) : Int) * 2 ^ z) = ((numAt bs p t * 2 ^ z : Nat) : Int) := by
        have e : ((numAt bs p t : Nat) : Int) * 2 ^ z = ((numAt bs p t * 2 ^ z : Nat) : Int) := by simp
        rw [e]; generalize numAt bs p t * 2 ^ z = y at hpw; rw [IntKind.wrap_u64]; omega
      clear hz1 hz2 hpw hnl
      gi_wp2
      refine ⟨by simp, .inl ⟨_, _, rfl, run_takeDeferred hK, ?_⟩⟩
      have hkeep : Keep (fun k => k = rb) w (W.putObj D (.deferred none)) :=
        Keep.putObj ((hK1.trans bkp (fun _ _ h => h.elim)).trans hKp (fun i hi e => by omega)) D _ (fun hd => by omega)
      refine ⟨_, results_tmp rfl _ _ _, by rw [← hval, Int.natCast_mul, Int.natCast_pow]; rfl, ?_, hkeep⟩
      refine ⟨Nat.lt_of_lt_of_le h.lt hkeep.size, ⟨sa, cap, hsa, (World.putObj_heap_other (by omega)).trans hr⟩, fun k hk => ?_, h.fits, h.bytes, by have := HU.out; omega, by have := HB.out; omega⟩
      have hne : bs ≠ [] := by rintro rfl; simp at hk
      exact (World.cell?_of_block (hkeep.block g h.lt (h.ne hne))).trans (h.cells k hk)
    case stop =>
      rintro D c pre W _ _ h _
      exact h.elim
end

end Go.Proofs.YtgaepmmpedaaiaaGreatDoor.Tl

namespace Go.Proofs.YtgaepmmpedaaiaaGreatDoor.Tl
open Go.RowKit Go.Shelf
set_option linter.unusedVariables false
/-- How many bits a byte has, up to its highest that is set. -/
def lenB (c : Nat) : Nat := if c = 0 then 0 else Nat.log2 c + 1

set_option maxRecDepth 100000 in
set_option maxHeartbeats 1000000 in
/-- Len8. -/
theorem len8_any (c : Nat) (hc : c < 256) (w : World) : Calls Tryz.prog 58 #[.int .u8 (c : Int)] w fun e w' => e = .returned (.int .i64 ((lenB c : Nat) : Int)) ∧ w' = w := by
  go_enter Tryz.func58, Tryz.ntmps58
  go_wp2
  go_ret
  rename_i hI
  refine ⟨congrArg (fun x => Ending.returned (Value.int .i64 x)) ?_, rfl⟩
  clear w
  revert hI hc
  revert c
  decide +kernel

theorem lenB_pos (c : Nat) (h : c ≠ 0) : 0 < lenB c := by unfold lenB; rw [if_neg h]; omega
theorem lenB_le (c : Nat) (h : c < 256) : lenB c ≤ 8 := by
  unfold lenB
  split
  · omega
  · rename_i h0
    have := (Nat.log2_lt h0 (k := 8)).2 (by omega)
    omega

/-- How many bits the tail of bs has: those below the mark. -/
def tailLen (bs : List Nat) : Nat := 8 * (bs.length - 1) + (lenB (bs[bs.length - 1]?.getD 0) - 1)
theorem tailLen_le (bs : List Nat) (hbs : ∀ j : Nat, bs[j]?.getD 0 < 256) : tailLen bs ≤ 8 * bs.length := by
  have := lenB_le _ (hbs (bs.length - 1))
  unfold tailLen
  by_cases h : bs = []
  · subst h; decide
  · have := List.length_pos_iff.2 h; omega

set_option maxHeartbeats 400000 in
/-- New of no bytes. -/
theorem new_none (sa : Option Addr) (cap : Nat) (w : World) : Calls Tryz.prog 33 #[.slice sa 0 cap] w fun e w' => e = .returned (.tuple #[.pointer none, .int .i64 11]) ∧ w' = w := by
  go_enter Tryz.func33, Tryz.ntmps33
  go_wp2
  go_ret2
  exact ⟨rfl, rfl⟩

set_option maxHeartbeats 400000 in
/-- New of bytes whose last is 0. -/
theorem new_zero (gb off cap k : Nat) (w : World) (hk : k < 140737488355328) (hc : w.cell? ⟨gb, off + k, none⟩ = some (.int .u8 0)) : Calls Tryz.prog 33 #[.slice (some ⟨gb, off, none⟩) (k + 1) cap] w fun e w' => e = .returned (.tuple #[.pointer none, .int .i64 11]) ∧ w' = w := by
  go_enter Tryz.func33, Tryz.ntmps33
  go_wp2
  go_ret2
  exact ⟨rfl, rfl⟩

set_option maxHeartbeats 1000000 in
/-- New of bytes with a mark: a reader behind the tail's last bit. -/
theorem new_mark (gb off cap k c : Nat) (bs : List Nat) (hlen : bs.length = k + 1) (hk : k < 140737488355327) (hbs : ∀ j : Nat, bs[j]?.getD 0 < 256) (w : World) (hck : bs[k]?.getD 0 = c) (hc0 : c ≠ 0)
    (hcs : ∀ j, j < bs.length → w.cell? ⟨gb, off + j, none⟩ = some (.int .u8 ((bs[j]?.getD 0 : Nat) : Int))) :
    Calls Tryz.prog 33 #[.slice (some ⟨gb, off, none⟩) (k + 1) cap] w fun e w' => ∃ rb g, e = .returned (.tuple #[.pointer (some ⟨rb, 0, none⟩), .int .i64 0]) ∧ w.heap.size ≤ rb ∧ w.heap.size ≤ g ∧ IsR w' rb g bs (tailLen bs) 0 ∧ Keep noBlock w w' := by
  have hc : w.cell? ⟨gb, off + k, none⟩ = some (.int .u8 (c : Int)) := by rw [hcs k (by omega), hck]
  have hc256 : c < 256 := by rw [← hck]; exact hbs k
  have hsrc : Src w (.slice (some ⟨gb, off, none⟩) (k + 1) cap) bs := by
    refine .inr ⟨⟨gb, off, none⟩, cap, by rw [hlen], (World.block_lt_of_cell? w ⟨gb, off + k, none⟩ hc :), fun j u hu => ?_⟩
    have hj : j < (u8s bs).length := (List.getElem?_eq_some_iff.1 hu).1
    rw [u8s_length] at hj
    rw [u8s_at bs j hj] at hu
    rw [← hu, show (⟨gb, off, none⟩ : Addr).add j = ⟨gb, off + j, none⟩ from by unfold Addr.add; split <;> simp_all]
    exact hcs j hj
  have hT : tailLen bs = 8 * k + lenB c - 1 := by
    have := lenB_pos c hc0
    unfold tailLen
    rw [hlen, Nat.add_sub_cancel, hck]; omega
  have hTl := tailLen_le bs hbs
  have HT := (show Hid _ from hT)
  have HTL := (show Hid _ from hTl)
  have HL := (show Hid _ from hlen)
  have HC := (show Hid _ from hcs)
  have HCK := (show Hid _ from hck)
  have hl8 := lenB_le c hc256
  have hl0 := lenB_pos c hc0
  have H8 : Hid (∀ w : World, Calls Tryz.prog 58 #[.int .u8 (c : Int)] w fun e w' => e = .returned (.int .i64 ((lenB c : Nat) : Int)) ∧ w' = w) := fun w => len8_any c hc256 w
  generalize tailLen bs = T at HT HTL ⊢
  generalize lenB c = y at hl8 hl0 HT H8
  have hkd : decide ((k : Int) < 0) = false := decide_eq_false (by omega)
  have hce : ((c : Int) == 0) = false := by simp; omega
  clear hT hTl hlen hcs hck
  go_enter Tryz.func33, Tryz.ntmps33
  go_wp2_with (first | (go_at_call 58; refine (H8.out _).mono ?_; rintro e w' ⟨rfl, rfl⟩) | (go_at_call 59; refine (clone_any _ bs (by have := HL.out; omega) _ hsrc).mono ?_; rintro e w1 ⟨v', rfl, hown, hK, hn⟩; obtain ⟨sa, cap1, rfl⟩ := owns_form hown))
  go_ret2
  have hTe : ((T : Nat) : Int) = (k : Int) * 8 + y - 1 := by have := HT.out; omega
  have hTl := HTL.out
  have hlen := HL.out
  rw [← hTe]
  have hk2 : Keep noBlock w' (w1.alloc (.cells #[.slice sa bs.length cap1, .int .i64 (T : Int), .int .i64 0] 133)) := hK.alloc _
  have hsz := hK.size
  have hob := World.alloc_heap_new w1 (.cells #[.slice sa bs.length cap1, .int .i64 (T : Int), .int .i64 0] 133)
  rcases (hown.alloc (.cells #[.slice sa bs.length cap1, .int .i64 (T : Int), .int .i64 0] 133)).2 with ⟨e1, h0⟩ | ⟨g, cap', cur, e1, hb, hg, hr⟩
  · omega
  · simp only [Value.slice.injEq] at e1
    obtain ⟨rfl, _, rfl⟩ := e1
    refine ⟨w1.heap.size, g, rfl, hsz, hb, ⟨obj_lt hg, ⟨_, cap1, .inl rfl, hob⟩, fun j hj => ?_, by omega, hbs, hTl, by decide⟩, hk2⟩
    have := (hown.alloc (.cells #[.slice (some ⟨g, 0, none⟩) bs.length cap1, .int .i64 (T : Int), .int .i64 0] 133)).cells (g := g) rfl j _ (u8s_at bs j hj)
    rwa [add0] at this

/-- What New answers: an error, or a reader at the tail's end. -/
theorem new_any (sa : Option Addr) (cap gb off : Nat) (bs : List Nat) (hlen : bs.length ≤ 140737488355327) (hbs : ∀ j : Nat, bs[j]?.getD 0 < 256) (w : World) (hsa : sa = some ⟨gb, off, none⟩ ∨ bs = [])
    (hcs : ∀ j, j < bs.length → w.cell? ⟨gb, off + j, none⟩ = some (.int .u8 ((bs[j]?.getD 0 : Nat) : Int))) :
    (bs[bs.length - 1]?.getD 0 = 0 ∧ Calls Tryz.prog 33 #[.slice sa bs.length cap] w fun e w' => e = .returned (.tuple #[.pointer none, .int .i64 11]) ∧ w' = w) ∨
    (bs[bs.length - 1]?.getD 0 ≠ 0 ∧ Calls Tryz.prog 33 #[.slice sa bs.length cap] w fun e w' => ∃ rb g, e = .returned (.tuple #[.pointer (some ⟨rb, 0, none⟩), .int .i64 0]) ∧ w.heap.size ≤ rb ∧ w.heap.size ≤ g ∧ IsR w' rb g bs (tailLen bs) 0 ∧ Keep noBlock w w') := by
  by_cases hnil : bs = []
  · subst hnil
    exact .inl ⟨rfl, new_none sa cap w⟩
  · obtain rfl : sa = some ⟨gb, off, none⟩ := hsa.elim id (fun e => absurd e hnil)
    obtain ⟨k, hk⟩ : ∃ k, bs.length = k + 1 := ⟨bs.length - 1, by have := List.length_pos_iff.2 hnil; omega⟩
    rw [show bs.length - 1 = k from by omega]
    by_cases h0 : bs[k]?.getD 0 = 0
    · refine .inl ⟨h0, ?_⟩
      have := hcs k (by omega)
      rw [h0] at this
      rw [hk]
      exact new_zero gb off cap k w (by omega) this
    · refine .inr ⟨h0, ?_⟩
      rw [hk]
      exact new_mark gb off cap k _ bs hk (by omega) hbs w rfl h0 hcs

set_option maxHeartbeats 400000 in
theorem left_nil (w : World) : Calls Tryz.prog 38 #[.pointer none] w fun e w' => e = .returned (.int .i64 0) ∧ w' = w := by
  go_enter Tryz.func38, Tryz.ntmps38
  go_wp2
  go_ret
  exact ⟨rfl, rfl⟩
set_option maxHeartbeats 400000 in
theorem close_nil (w : World) : Calls Tryz.prog 75 #[.pointer none] w fun e w' => e = .returned (.slice none 0 0) ∧ w' = w := by
  go_enter Tryz.func75, Tryz.ntmps75
  go_wp2
  go_ret
  exact ⟨rfl, rfl⟩
set_option maxHeartbeats 400000 in
theorem bits_nil (n : Int) (w : World) : Calls Tryz.prog 34 #[.pointer none, .int .i64 n] w fun e w' => e = .returned (.int .u64 0) ∧ w' = w := by
  refine (callsIn_wide (n := 4)).1 ?_
  refine callsIn_of_wp_marks Tryz.func34 rfl trivial ?_ rfl
  simp only [Tryz.ntmps34, List.size_toArray, List.length_cons, List.length_nil, Nat.reduceAdd, Nat.reduceSub, Array.replicate_succ, Array.replicate_zero, List.push_toArray, List.append_toArray, List.nil_append, List.cons_append]
  gi_wp2
  exact ⟨_, results_tmp rfl _ _ _, rfl, rfl⟩
set_option maxHeartbeats 400000 in
/-- Put of no writer. -/
theorem put_nil (x n : Int) (w : World) :
    Calls Tryz.prog 92 #[.pointer none, .int .u64 x, .int .i64 n] w fun e w' => e = .returned (.int .i64 1) ∧ Keep noBlock w w' := by
  refine (callsIn_wide (n := 4)).1 ?_
  refine callsIn_of_wp_marks Tryz.func92 rfl trivial ?_ rfl
  simp only [Tryz.ntmps92, List.size_toArray, List.length_cons, List.length_nil, Nat.reduceAdd, Nat.reduceSub, Array.replicate_succ, Array.replicate_zero, List.push_toArray, List.append_toArray, List.nil_append, List.cons_append]
  gi_wp2
  exact ⟨_, results_tmp rfl _ _ _, rfl, (Keep.refl _ w).alloc _⟩

end Go.Proofs.YtgaepmmpedaaiaaGreatDoor.Tl

namespace Go.Proofs.YtgaepmmpedaaiaaGreatDoor.Tl
open Go.RowKit Go.Shelf
set_option linter.unusedVariables false
set_option maxHeartbeats 1000000 in
/-- A bit into a byte that is not whole then. -/
theorem push_small (wb q c b : Nat) (v : Value) (hq : q < 7) (hc : c < 256) (hb : b < 2) (w : World) (ho : w.heap[wb]? = some (.cells #[v, .int .u8 (c : Int), .int .i64 (q : Int)] 153 (0, 0))) :
    Calls Tryz.prog 93 #[.pointer (some ⟨wb, 0, none⟩), .int .u8 (b : Int)] w fun e w' => e = .returned (.tuple #[]) ∧ w'.heap[wb]? = some (.cells #[v, .int .u8 ((c ||| b * 2 ^ q : Nat) : Int), .int .i64 ((q + 1 : Nat) : Int)] 153 (0, 0)) ∧ Keep (fun k => k = wb) w w' := by
  have hc1 : w.cell? ⟨wb, 1, none⟩ = some (.int .u8 (c : Int)) := cell_of ho 1
  have hc2 : w.cell? ⟨wb, 2, none⟩ = some (.int .i64 (q : Int)) := cell_of ho 2
  have hf1 := frozen_of ho 1
  have hf2 := frozen_of ho 2
  have hor := shl_or_u8 c b q hc hb (by omega)
  have hmx : Tryz.prog.follows .mixedOrders = true := by kernel_rfl
  have h8 : ((q : Int) + 1 == 8) = false := by simp; omega
  go_enter Tryz.func93, Tryz.ntmps93
  go_wp2
  go_region
  all_goals
    go_wp2
    go_end0
    refine ⟨rfl, ?_, (((Keep.refl (fun k => k = wb) w).setCell (p := ⟨wb, 1, none⟩) (fun _ => rfl) _).drew).setCell (p := ⟨wb, 2, none⟩) (fun _ => rfl) _⟩
    refine (set_obj (w := (w.setCell _ _).drew) (set_obj ho 1 _) 2 _).trans ?_
    simp

set_option maxHeartbeats 1000000 in
/-- The eighth bit: the byte goes behind the whole ones. -/
theorem push_full (wb c b : Nat) (v : Value) (bs : List Nat) (hc : c < 256) (hb : b < 2) (hbl : bs.length < 140737488355327) (w : World) (ho : w.heap[wb]? = some (.cells #[v, .int .u8 (c : Int), .int .i64 7] 153 (0, 0))) (hrow : w.ownsRow 0 5 1 v bs.length (u8s bs)) :
    Calls Tryz.prog 93 #[.pointer (some ⟨wb, 0, none⟩), .int .u8 (b : Int)] w fun e w' => e = .returned (.tuple #[]) ∧ ∃ g cap, w'.heap[wb]? = some (.cells #[.slice (some ⟨g, 0, none⟩) (bs.length + 1) cap, .int .u8 0, .int .i64 0] 153 (0, 0)) ∧
      w'.ownsRow 0 5 1 (.slice (some ⟨g, 0, none⟩) (bs.length + 1) cap) (bs.length + 1) (u8s (bs ++ [c ||| b * 2 ^ 7])) ∧ (v.ownBlock = some g ∨ w.heap.size ≤ g) ∧ Keep (fun k => k = wb ∨ v.ownBlock = some k) w w' := by
  obtain ⟨i0, hi, hz0, hz1, hz2⟩ := info_parts info5
  have hc1 : w.cell? ⟨wb, 1, none⟩ = some (.int .u8 (c : Int)) := cell_of ho 1
  have hc2 : w.cell? ⟨wb, 2, none⟩ = some (.int .i64 7) := cell_of ho 2
  have hf1 := frozen_of ho 1
  have hf2 := frozen_of ho 2
  have hor : bits .or .u8 (c : Int) ((b : Int) * 128) = ((c ||| b * 2 ^ 7 : Nat) : Int) := by
    have h := shl_or_u8 c b 7 hc hb (by omega)
    rw [show (b : Int) * 2 ^ 7 % 256 = (b : Int) * 128 from by omega] at h
    exact h
  have hmx : Tryz.prog.follows .mixedOrders = true := by kernel_rfl
  have hvb := owns_ne hrow ho (by decide)
  generalize c ||| b * 2 ^ 7 = d at hor ⊢
  go_enter Tryz.func93, Tryz.ntmps93
  go_wp2
  go_region
  go_wp2
  have ho1 : ((w.setCell ⟨wb, 1, none⟩ (.int .u8 (d : Int))).setCell ⟨wb, 2, none⟩ (.int .i64 8)).drew.heap[wb]? = some (.cells #[v, .int .u8 (d : Int), .int .i64 8] 153 (0, 0)) := (set_obj (set_obj ho 1 _) 2 _).trans (by simp)
  have hK1 : Keep (fun k => k = wb) w ((w.setCell ⟨wb, 1, none⟩ (.int .u8 (d : Int))).setCell ⟨wb, 2, none⟩ (.int .i64 8)).drew :=
    (((Keep.refl (fun k => k = wb) w).setCell (p := ⟨wb, 1, none⟩) (fun _ => rfl) _).setCell (p := ⟨wb, 2, none⟩) (fun _ => rfl) _).drew
  generalize ((w.setCell ⟨wb, 1, none⟩ (.int .u8 (d : Int))).setCell ⟨wb, 2, none⟩ (.int .i64 8)).drew = W1 at ho1 hK1 ⊢
  clear hc1 hc2 hf1 hf2
  have hrow1 : W1.ownsRow 0 5 1 v bs.length (u8s bs) := by
    refine ⟨hrow.1, ?_⟩
    rcases hrow.2 with hn | ⟨g, cap, cur, rfl, hb', hg, hr⟩
    · exact .inl hn
    · exact .inr ⟨g, cap, cur, rfl, hb', hK1.obj hg (fun e => hvb (by rw [← e]; rfl)), hr⟩
  have hc0 : W1.cell? ⟨wb, 0, none⟩ = some v := cell_of ho1 0
  have hc1 : W1.cell? ⟨wb, 1, none⟩ = some (.int .u8 (d : Int)) := cell_of ho1 1
  have hwb := obj_lt ho1
  have hmax : bs.length + 1 ≤ maxLen := by unfold maxLen; omega
  obtain ⟨sa, cap0, rfl⟩ := owns_form hrow1
  go_region_law (refine step_append_lies _ rfl (.tmp 33) (.tmp 38) 22 rfl 0 5 i0 (.int .u8 0) 1 1 Tryz.underlying22 hi hz0 hz1 hz2 rfl (by decide) (.slice sa bs.length cap0) bs.length (u8s bs) (by simp [Act.eval]) (hrow1.alloc _) ⟨W1.heap.size, 0, none⟩ 1 1 [.int .u8 (d : Int)] (by simp [Act.eval]) rfl (World.news_of_block (World.alloc_heap_new W1 _)) (by simp [Value.oneCell']) (by decide) hmax (by omega) (Nat.zero_le _) (W1.heap.size + 1) (by simp) ?_; intro g cap w1 hown hgrow hat hlt; have hob1 := (hgrow.block wb (by simp; omega) (Ne.symm hvb)).trans (alloc_far ho1 _); have hcb := cell_of hob1 0; have hfb := frozen_of hob1 0)
  all_goals
    have hne : g ≠ wb := by
      rintro rfl
      rcases hat with e | e
      · exact hvb e
      · omega
    have ho2 : (w1.setCell ⟨wb, 0, none⟩ (.slice (some ⟨g, 0, none⟩) (bs.length + 1) cap)).heap[wb]? = some (.cells #[.slice (some ⟨g, 0, none⟩) (bs.length + 1) cap, .int .u8 (d : Int), .int .i64 8] 153 (0, 0)) := (set_obj hob1 0 _).trans (by simp)
    have hown2 : (w1.setCell ⟨wb, 0, none⟩ (.slice (some ⟨g, 0, none⟩) (bs.length + 1) cap)).ownsRow 0 5 1 (.slice (some ⟨g, 0, none⟩) (bs.length + 1) cap) (bs.length + 1) (u8s (bs ++ [d])) := by
      have := owns_far hown hne 0 (.slice (some ⟨g, 0, none⟩) (bs.length + 1) cap)
      simpa [u8s] using this
    have hk2 : Keep (fun k => k = wb ∨ (Value.slice sa bs.length cap0).ownBlock = some k) w (w1.setCell ⟨wb, 0, none⟩ (.slice (some ⟨g, 0, none⟩) (bs.length + 1) cap)) :=
      ((((hK1.mono (T := fun k => k = wb ∨ (Value.slice sa bs.length cap0).ownBlock = some k) (fun _ _ e => .inl e)).alloc _).drew).grown hgrow (fun k e _ => .inr e)).setCell (p := ⟨wb, 0, none⟩) (fun _ => .inl rfl) _
    have hgw : (Value.slice sa bs.length cap0).ownBlock = some g ∨ w.heap.size ≤ g := hat.imp id (fun e => by have := hK1.size; omega)
    generalize w1.setCell ⟨wb, 0, none⟩ (.slice (some ⟨g, 0, none⟩) (bs.length + 1) cap) = W2 at ho2 hown2 hk2 ⊢
    clear hcb hfb hob1 hgrow hown hrow1 ho1 hc0 hc1 hrow ho hz0 hz1 hz2 hi hK1
    have hd1 : W2.cell? ⟨wb, 1, none⟩ = some (.int .u8 (d : Int)) := cell_of ho2 1
    have hd2 : W2.cell? ⟨wb, 2, none⟩ = some (.int .i64 8) := cell_of ho2 2
    have hf1 := frozen_of ho2 1
    have hf2 := frozen_of ho2 2
    go_wp2
    go_end0
    refine ⟨rfl, g, cap, (set_obj (set_obj ho2 1 _) 2 _).trans (by simp), owns_far (owns_far hown2 hne 1 _) hne 2 _, hgw, (hk2.setCell (p := ⟨wb, 1, none⟩) (fun _ => .inl rfl) _).setCell (p := ⟨wb, 2, none⟩) (fun _ => .inl rfl) _⟩

end Go.Proofs.YtgaepmmpedaaiaaGreatDoor.Tl

namespace Go.Proofs.YtgaepmmpedaaiaaGreatDoor.Tl
open Go.RowKit Go.Shelf
set_option linter.unusedVariables false

attribute [local go_sem] Oper.semAt_some

/-- The bytes of a row of bits that are whole. -/
def whole (L : List (Fin 2)) : List Nat := (List.range (L.length / 8)).map (byteOf L)
theorem whole_length (L : List (Fin 2)) : (whole L).length = L.length / 8 := by simp [whole]
theorem whole_small (L : List (Fin 2)) (b : Fin 2) (h : L.length % 8 ≠ 7) : whole (L ++ [b]) = whole L := by
  have e : (L ++ [b]).length / 8 = L.length / 8 := by simp; omega
  unfold whole
  rw [e]
  exact List.map_congr_left (fun j hj => byteOf_old L b j (List.mem_range.1 hj))
theorem whole_full (L : List (Fin 2)) (b : Fin 2) (h : L.length % 8 = 7) : whole (L ++ [b]) = whole L ++ [byteOf (L ++ [b]) (L.length / 8)] := by
  have e : (L ++ [b]).length / 8 = L.length / 8 + 1 := by simp; omega
  unfold whole
  rw [e, List.range_succ, List.map_append]
  congr 1
  exact List.map_congr_left (fun j hj => byteOf_old L b j (List.mem_range.1 hj))
theorem bitL_pad (M : List (Fin 2)) (k i : Nat) : bitL (M ++ List.replicate k 0) i = bitL M i := by
  by_cases h : i < M.length
  · exact bitL_app M _ i h
  · obtain ⟨d, rfl⟩ : ∃ d, i = M.length + d := ⟨i - M.length, by omega⟩
    rw [bitL_behind, bitL_far M _ (by omega)]
    unfold bitL
    rw [List.getElem?_replicate]
    split <;> rfl
theorem byteOf_pad (M : List (Fin 2)) (k j : Nat) : byteOf (M ++ List.replicate k 0) j = byteOf M j :=
  numF_congr _ _ _ (fun i _ => bitL_pad M k _)
/-- Bits that are filled up to a byte's end: all bytes are whole. -/
theorem whole_pad (M : List (Fin 2)) (k : Nat) (hk : k < 8) (h : (M.length + k) % 8 = 0) : whole (M ++ List.replicate k 0) = pack M := by
  have e : (M ++ List.replicate k 0).length / 8 = (M.length + 7) / 8 := by simp; omega
  unfold whole pack
  rw [e]
  exact List.map_congr_left (fun j _ => byteOf_pad M k j)

/-- Block wb is a writer that was given the bits L; v is its row of whole bytes. -/
structure IsW (W : World) (wb : Nat) (v : Value) (L : List (Fin 2)) : Prop where
  obj : W.heap[wb]? = some (.cells #[v, .int .u8 ((byteOf L (L.length / 8) : Nat) : Int), .int .i64 ((L.length % 8 : Nat) : Int)] 153 (0, 0))
  row : W.ownsRow 0 5 1 v (whole L).length (u8s (whole L))

/-- A writer lies on wherever its blocks lie on. -/
theorem IsW.keep {W W' : World} {S : Nat → Prop} {wb : Nat} {v : Value} {L : List (Fin 2)} (h : IsW W wb v L) (hk : Keep S W W') (h1 : ¬ S wb) (h2 : ∀ k, v.ownBlock = some k → ¬ S k) : IsW W' wb v L :=
  ⟨hk.obj h.obj h1, owns_keep h.row hk h2⟩
theorem IsW.row_lt {W : World} {wb : Nat} {v : Value} {L : List (Fin 2)} (h : IsW W wb v L) : ∀ k, v.ownBlock = some k → k < W.heap.size := fun k e => (h.row.lt k e).2

/-- push: a bit behind. -/
theorem push_any (wb : Nat) (v : Value) (L : List (Fin 2)) (b : Fin 2) (hL : L.length < 1099511627776) (w : World) (h : IsW w wb v L) :
    Calls Tryz.prog 93 #[.pointer (some ⟨wb, 0, none⟩), .int .u8 ((b.val : Nat) : Int)] w fun e w' => e = .returned (.tuple #[]) ∧ ∃ v', IsW w' wb v' (L ++ [b]) ∧ Moves w.heap.size v v' ∧ Keep (fun k => k = wb ∨ v.ownBlock = some k) w w' := by
  have hwl := whole_length L
  have hl1 : (L ++ [b]).length = L.length + 1 := by simp
  have hbl := byteOf_last L b
  by_cases hm : L.length % 8 = 7
  · have ho := h.obj
    rw [hm] at ho
    refine (push_full wb (byteOf L (L.length / 8)) b.val v (whole L) (byteOf_lt _ _) b.isLt (by omega) w ho h.row).mono ?_
    rintro e w' ⟨rfl, g, cap, ho', hr, hat, hk⟩
    rw [hm] at hbl
    rw [← hbl] at hr
    refine ⟨rfl, .slice (some ⟨g, 0, none⟩) ((whole L).length + 1) cap, ⟨?_, ?_⟩, hat.elim (fun e => .inl e.symm) (fun e => .inr ⟨g, rfl, e⟩), hk⟩
    · rw [ho', byteOf_far (L ++ [b]) ((L ++ [b]).length / 8) (by omega), show (L ++ [b]).length % 8 = 0 from by omega]
      rfl
    · rw [whole_full L b hm]; simpa using hr
  · refine (push_small wb (L.length % 8) (byteOf L (L.length / 8)) b.val v (by omega) (byteOf_lt _ _) b.isLt w h.obj).mono ?_
    rintro e w' ⟨rfl, ho', hk⟩
    have hvb := owns_ne h.row h.obj (by decide)
    refine ⟨rfl, v, ⟨?_, ?_⟩, .inl rfl, hk.mono (fun k _ e => .inl e)⟩
    · rw [ho', ← hbl, show (L ++ [b]).length / 8 = L.length / 8 from by omega, show (L ++ [b]).length % 8 = L.length % 8 + 1 from by omega]
    · rw [whole_small L b hm]
      exact owns_keep h.row hk (fun k e1 e2 => hvb (by rw [← e2]; exact e1))

theorem keepsFrom_push {W W' : World} {wb : Nat} {v : Value} {L : List (Fin 2)} (h : IsW W wb v L) (hk : Keep (fun k => k = wb ∨ v.ownBlock = some k) W W') (B : Nat) : KeepsFrom B W W' := by
  refine ⟨hk.size, fun k o _ ho hc => hk.obj ho ?_⟩
  rintro (rfl | e)
  · rw [h.obj] at ho; cases ho; cases hc
  · rcases h.row.2 with ⟨rfl, _⟩ | ⟨g, cap, cur, rfl, _, hg, _⟩
    · cases e
    · obtain rfl : g = k := by simpa [Value.ownBlock] using e
      rw [hg] at ho; cases ho; cases hc

theorem isW_own (wb n : Nat) (v : Value) (L : List (Fin 2)) : Own (fun (pre : List (Fin 2)) W => ∃ v', IsW W wb v' (L ++ pre) ∧ Moves n v v') := by
  rintro s X Y row ⟨v', h, hm⟩ hg hrow
  have hc : ∀ {b : Nat} {cs : Array Value} {t : TypeId}, X.heap[b]? = some (.cells cs t (0, 0)) → some b ≠ row := fun {b cs t} hb e => by
    obtain ⟨o, ho, hc⟩ := hrow b e.symm
    rw [hb] at ho; cases ho; cases hc
  refine ⟨v', ⟨(hg.block wb (obj_lt h.obj) (hc h.obj)).trans h.obj, h.row.1, ?_⟩, hm⟩
  rcases h.row.2 with hn | ⟨g, cap, cur, rfl, hb, hgb, hr⟩
  · exact .inl hn
  · exact .inr ⟨g, cap, cur, rfl, hb, (hg.block g (obj_lt hgb) (hc hgb)).trans hgb, hr⟩

/-- The iterator's word, at the world where the loop begins. -/
theorem lowest_stops (n : Nat) (hn : 1 ≤ n) (Bx Bn x m : Nat) (hx : x < 18446744073709551616) (hm : m ≤ 56)
    (W : World) (hBx : W.heap[Bx]? = some (.cells #[.int .u64 (x : Int)] 104 (0, 0))) (hBn : W.heap[Bn]? = some (.cells #[.int .i64 (m : Int)] 3 (0, 0))) :
    SeqStopsK Fence.wide n Tryz.prog 126 #[.pointer (some ⟨Bn, 0, none⟩), .pointer (some ⟨Bx, 0, none⟩)] (fun b : Fin 2 => #[Value.int .u8 ((b.val : Nat) : Int)])
      (Stay (fun k => k = Bx ∨ k = Bn)) (fun ys => ys = upto (fun j => (⟨bitOf x j, bitOf_lt x j⟩ : Fin 2)) m) (fun _ => True) m W := fun l J Jx W1 hW _ _ hY h0 => by
  refine lowest1_in Fence.wide n trivial rfl hn l Bx Bn x m hx hm J Jx hY W1 ((hW.block _ (obj_lt hBx)).trans hBx) ((hW.block _ (obj_lt hBn)).trans hBn) h0

set_option maxRecDepth 100000 in
set_option maxHeartbeats 1000000 in
/-- Put(x, m): the lowest m bits of x behind. -/
theorem put_any (wb : Nat) (v : Value) (L : List (Fin 2)) (x m : Nat) (hx : x < 18446744073709551616) (hm : m ≤ 56) (hL : L.length < 1000000000000) (w : World) (h : IsW w wb v L) :
    Calls Tryz.prog 92 #[.pointer (some ⟨wb, 0, none⟩), .int .u64 (x : Int), .int .i64 (m : Int)] w fun e w' => e = .returned (.int .i64 0) ∧ ∃ v', IsW w' wb v' (L ++ low x m) ∧ Moves w.heap.size v v' ∧ Keep (fun k => k = wb ∨ v.ownBlock = some k) w w' := by
  have hd1 : decide ((m : Int) < 0) = false := decide_eq_false (by omega)
  have hd2 : decide (56 < (m : Int)) = false := decide_eq_false (by omega)
  refine (callsIn_wide (n := 4)).1 ?_
  refine callsIn_of_wp_marks Tryz.func92 rfl trivial ?_ rfl
  simp only [Tryz.ntmps92, List.size_toArray, List.length_cons, List.length_nil, Nat.reduceAdd, Nat.reduceSub, Array.replicate_succ, Array.replicate_zero, List.push_toArray, List.append_toArray, List.nil_append, List.cons_append]
  gi_wp2_with (refine ⟨trivial, ?_⟩; (gi_at_call 114; refine (lowest_in Fence.wide _ trivial rfl _ _ _).mono ?_; rintro e w' ⟨rfl, rfl⟩))
  obtain ⟨b0, b1, b2, bsz, bkp⟩ := boxes3 w (Obj.cells #[Value.pointer (some { block := wb, off := 0 })] 151) (Obj.cells #[Value.int IntKind.u64 ↑x] 104) (Obj.cells #[Value.int IntKind.i64 ↑m] 3)
  generalize ((w.alloc (Obj.cells #[Value.pointer (some { block := wb, off := 0 })] 151)).alloc (Obj.cells #[Value.int IntKind.u64 ↑x] 104)).alloc (Obj.cells #[Value.int IntKind.i64 ↑m] 3) = W0 at b0 b1 b2 bsz bkp ⊢
  have hwb := obj_lt h.obj
  have h0 : IsW W0 wb v L := h.keep bkp (fun h => h) (fun _ _ h => h)
  refine wpIn_rangeFunc_ownG rfl (by omega) (gf := 126) rfl trivial (enters_of Tryz.func126 (by kernel_rfl) rfl)
    (lowest_stops 3 (by omega) (w.heap.size + 1) (w.heap.size + 1 + 1) x m hx hm W0 b1 b2)
    (fun h k => h.trans k) (Stay.putObj (by rintro k (rfl | rfl) <;> omega)) (Below.refl _ _) (fun _ => rfl)
    (fun pre W => (∃ v', IsW W wb v' (L ++ pre) ∧ Moves w.heap.size v v') ∧ Boxed W w.heap.size 151 (.pointer (some ⟨wb, 0, none⟩)) ∧ Boxed W (w.heap.size + 1) 104 (.int .u64 (x : Int)) ∧ Boxed W (w.heap.size + 1 + 1) 3 (.int .i64 (m : Int)) ∧ Keep (fun k => k = wb ∨ v.ownBlock = some k) w W)
    (fun _ _ _ => False)
    (OwnFrom.and (Own.from (isW_own _ _ _ _) _) (OwnFrom.and (Own.from (boxed_own _ _ _) _) (OwnFrom.and (Own.from (boxed_own _ _ _) _) (OwnFrom.and (Own.from (boxed_own _ _ _) _) (ownFrom_keep (by omega))))))
    (fun _ _ _ _ _ hs _ _ => hs)
    ⟨⟨v, by simpa using h0, .inl rfl⟩, b0, b1, b2, bkp.mono (fun _ _ h => h.elim)⟩
    (fun b => { tmps := #[.pointer (some ⟨wb, 0, none⟩), .int .u64 (x : Int), .int .i64 (m : Int), .pointer (some ⟨w.heap.size, 0, none⟩), undef, undef, .int .i64 0, .int .u8 ((b.val : Nat) : Int), .pointer (some ⟨wb, 0, none⟩), .bool false, .int .i64 (m : Int), .bool false, .bool false, .int .i64 (m : Int), .bool false, .bool false,
      .int .u64 (x : Int), .int .i64 (m : Int), .func (.func 126) #[] #[.pointer (some ⟨w.heap.size + 1 + 1, 0, none⟩), .pointer (some ⟨w.heap.size + 1, 0, none⟩)], .int .u8 ((b.val : Nat) : Int), undef, undef, undef], defers := [] }) ?assign ?body ?done ?stop
  case assign =>
    intro l b W K hK
    gi_wp2
    exact hK
  case body =>
    rintro l pre b W ⟨⟨v1, hW1, hM1⟩, c0, c1, c2, hKw⟩ hlt
    have hc0 := c0.cell
    have hlen : (L ++ pre).length < 1099511627776 := by rw [List.length_append]; omega
    gi_wp2_with (refine ⟨trivial, ?_⟩; gi_at_call 93; refine (CallsIn.inRound l (callsIn_wide.2 (push_any wb v1 (L ++ pre) b hlen _ hW1))).mono ?_; rintro e w' ⟨rfl, v2, hW2, hM2, hK2⟩)
    have n0 : ¬ (w.heap.size = wb ∨ v1.ownBlock = some w.heap.size) := by rintro (e | e); omega; exact owns_ne hW1.row c0 (by decide) e
    have n1 : ¬ (w.heap.size + 1 = wb ∨ v1.ownBlock = some (w.heap.size + 1)) := by rintro (e | e); omega; exact owns_ne hW1.row c1 (by decide) e
    have n2 : ¬ (w.heap.size + 1 + 1 = wb ∨ v1.ownBlock = some (w.heap.size + 1 + 1)) := by rintro (e | e); omega; exact owns_ne hW1.row c2 (by decide) e
    refine ⟨keepsFrom_push hW1 hK2 _, ?_, ⟨v2, by rw [← List.append_assoc]; exact hW2, hM1.trans hM2 hKw.size⟩, hK2.obj c0 n0, hK2.obj c1 n1, hK2.obj c2 n2, hKw.trans hK2 ?_⟩
    · rintro k (rfl | rfl)
      · exact hK2.block _ (obj_lt c1) n1
      · exact hK2.block _ (obj_lt c2) n2
    · rintro i hi (e | e)
      · exact .inl e
      · rcases hM1 with e2 | ⟨k, e2, hk⟩
        · exact .inr (by rw [← e2]; exact e)
        · rw [e2] at e; cases e; omega
  case done =>
    rintro D ys W hD rfl ⟨⟨v1, hW1, hM1⟩, c0, c1, c2, hKw⟩ hK
    gi_wp2
    refine ⟨by simp, .inl ⟨_, _, rfl, run_takeDeferred hK, ?_⟩⟩
    have hk : Keep (fun k => k = D) W (W.putObj D (.deferred none)) := (Keep.refl _ W).putObj D _ (fun _ => rfl)
    refine ⟨_, results_tmp rfl _ _ _, rfl, v1, hW1.keep hk ?_ ?_, hM1, hKw.putObj D _ (fun hd => by omega)⟩
    · rintro rfl; rw [hW1.obj] at hK; cases hK
    · rintro k e rfl
      rcases hW1.row.2 with ⟨rfl, _⟩ | ⟨g, cap, cur, rfl, _, hg, _⟩
      · cases e
      · obtain rfl : g = k := by simpa [Value.ownBlock] using e
        rw [hg] at hK; cases hK
  case stop =>
    rintro D c pre W _ _ h _
    exact h.elim

set_option maxHeartbeats 400000 in
/-- Put, where so many bits can't be put. -/
theorem put_arg (wb : Nat) (x n : Int) (hn : ¬ (0 ≤ n ∧ n ≤ 56)) (w : World) :
    Calls Tryz.prog 92 #[.pointer (some ⟨wb, 0, none⟩), .int .u64 x, .int .i64 n] w fun e w' => e = .returned (.int .i64 2) ∧ Keep noBlock w w' := by
  refine (callsIn_wide (n := 4)).1 ?_
  refine callsIn_of_wp_marks Tryz.func92 rfl trivial ?_ rfl
  simp only [Tryz.ntmps92, List.size_toArray, List.length_cons, List.length_nil, Nat.reduceAdd, Nat.reduceSub, Array.replicate_succ, Array.replicate_zero, List.push_toArray, List.append_toArray, List.nil_append, List.cons_append]
  by_cases h0 : n < 0
  · have hd1 : decide (n < 0) = true := decide_eq_true h0
    gi_wp2
    exact ⟨_, results_tmp rfl _ _ _, rfl, (Keep.refl _ w).alloc _⟩
  · have hd1 : decide (n < 0) = false := decide_eq_false h0
    have hd2 : decide (56 < n) = true := decide_eq_true (by omega)
    gi_wp2
    exact ⟨_, results_tmp rfl _ _ _, rfl, (Keep.refl _ w).alloc _⟩

/-- How many bits the byte has that is not whole. -/
def heldN (W : World) (wb : Nat) : Nat := match W.cell? ⟨wb, 2, none⟩ with | some (.int _ n) => n.toNat | _ => 0
theorem heldN_of {W : World} {wb : Nat} {v : Value} {L : List (Fin 2)} (h : IsW W wb v L) : heldN W wb = L.length % 8 := by
  unfold heldN
  rw [cell_of h.obj 2]
  rfl

set_option maxRecDepth 100000 in
set_option maxHeartbeats 1000000 in
/-- Close: the bytes of what was put, with the mark; the writer is empty then. -/
theorem close_any (wb : Nat) (v : Value) (L : List (Fin 2)) (hL : L.length < 1000000000000) (w : World) (h : IsW w wb v L) :
    Calls Tryz.prog 75 #[.pointer (some ⟨wb, 0, none⟩)] w fun e w' => ∃ v', e = .returned v' ∧ w'.ownsRow 0 5 1 v' (pack (L ++ [1])).length (u8s (pack (L ++ [1]))) ∧ IsW w' wb (.slice none 0 0) [] ∧ Moves w.heap.size v v' ∧ Keep (fun k => k = wb ∨ v.ownBlock = some k) w w' := by
  go_enter Tryz.func75, Tryz.ntmps75
  go_wp2_with (go_at_call 93; refine (push_any wb v L 1 (by omega) _ h).mono ?_; rintro e w1 ⟨rfl, v1, hW1, hM1, hK1⟩)
  have hl1 : (L ++ [1]).length = L.length + 1 := by simp
  go_loopw [] (fun wr => ∃ (k : Nat) (v' : Value), k ≤ (8 - (L.length + 1) % 8) % 8 ∧ IsW wr wb v' (L ++ [1] ++ List.replicate k 0) ∧ Moves w.heap.size v v' ∧ Keep (fun k => k = wb ∨ v.ownBlock = some k) w wr) (fun wr => (8 - heldN wr wb % 8) % 8)
  case atStart => exact ⟨0, v1, Nat.zero_le _, by simpa using hW1, hM1, hK1⟩
  case round =>
    obtain ⟨k, v2, hk, hW, hM, hK⟩ := hrel
    have hll : (L ++ [1] ++ List.replicate k 0).length = L.length + 1 + k := by simp; omega
    have hc2 : wr.cell? ⟨wb, 2, none⟩ = some (.int .i64 (((L ++ [1] ++ List.replicate k 0).length % 8 : Nat) : Int)) := cell_of hW.obj 2
    have hrep : L ++ [1] ++ List.replicate (k + 1) 0 = L ++ [1] ++ List.replicate k 0 ++ [0] := by rw [List.replicate_succ', ← List.append_assoc]
    have hHN := heldN_of hW
    have HREP := (show Hid _ from hrep)
    have HPAD : Hid (k = (8 - (L.length + 1) % 8) % 8 → whole (L ++ [1] ++ List.replicate k 0) = pack (L ++ [1])) := fun e => whole_pad _ k (by omega) (by rw [hl1]; omega)
    clear hrep
    generalize L ++ [1] ++ List.replicate k 0 = M at hW hll hc2 HREP hHN HPAD
    obtain ⟨q, hq⟩ : ∃ q, M.length % 8 = q := ⟨_, rfl⟩
    rw [hq] at hc2 hHN
    by_cases hlt : k < (8 - (L.length + 1) % 8) % 8
    · have hne : ((q : Int) != 0) = true := by simp; omega
      have hML : M.length < 1099511627776 := by omega
      have HH := (show Hid _ from hHN)
      have HQ := (show Hid _ from hq)
      clear hHN hq
      go_wp2_with (go_at_call 93; refine (push_any wb v2 M 0 hML _ hW).mono ?_; rintro e w2 ⟨rfl, v3, hW3, hM3, hK3⟩)
      go_roundw
      case rel =>
        refine ⟨k + 1, v3, by omega, by rw [HREP.out]; exact hW3, hM.trans hM3 hK.size, hK.trans hK3 ?_⟩
        rintro i hi (e | e)
        · exact .inl e
        · rcases hM with e2 | ⟨j, e2, hj⟩
          · exact .inr (by rw [← e2]; exact e)
          · rw [e2] at e; cases e; omega
      case measure =>
        rw [heldN_of hW3, HH.out]
        have := HQ.out
        simp
        omega
    · have hke : k = (8 - (L.length + 1) % 8) % 8 := by omega
      have hq0 : q = 0 := by omega
      subst hq0
      have hwp := HPAD.out hke
      have hrow := hW.row
      rw [hwp] at hrow
      have hvb := owns_ne hW.row hW.obj (by decide)
      have ho := hW.obj
      have hc0 : wr.cell? ⟨wb, 0, none⟩ = some v2 := cell_of hW.obj 0
      have hc1 : wr.cell? ⟨wb, 1, none⟩ = some (.int .u8 ((byteOf M (M.length / 8) : Nat) : Int)) := cell_of hW.obj 1
      have hc20 : wr.cell? ⟨wb, 2, none⟩ = some (.int .i64 0) := hc2
      clear hc2
      have hf0 := frozen_of ho 0
      have hf1 := frozen_of ho 1
      have hf2 := frozen_of ho 2
      have HK := (show Hid _ from hke)
      clear hke hlt hk hHN hq
      obtain ⟨sa, cap, rfl⟩ := owns_form hrow
      go_wp2
      go_ret
      have hks : Keep (fun k => k = wb) wr (((wr.setCell ⟨wb, 0, none⟩ (.slice none 0 0)).setCell ⟨wb, 1, none⟩ (.int .u8 0)).setCell ⟨wb, 2, none⟩ (.int .i64 0)) :=
        (((Keep.refl (fun k => k = wb) wr).setCell (p := ⟨wb, 0, none⟩) (fun _ => rfl) _).setCell (p := ⟨wb, 1, none⟩) (fun _ => rfl) _).setCell (p := ⟨wb, 2, none⟩) (fun _ => rfl) _
      refine ⟨_, rfl, owns_keep hrow hks (fun k e1 e2 => hvb (by rw [← e2]; exact e1)), ⟨(set_obj (set_obj (set_obj ho 0 _) 1 _) 2 _).trans ?_, World.ownsRow_nil _ _ _ _⟩, hM, hK.trans hks (fun i hi e => .inl e)⟩
      rw [show byteOf ([] : List (Fin 2)) (([] : List (Fin 2)).length / 8) = 0 from by decide]
      simp

/-- A new writer. -/
theorem isW_new (w : World) : IsW (w.alloc (.cells #[.slice none 0 0, .int .u8 0, .int .i64 0] 153)) w.heap.size (.slice none 0 0) [] := by
  refine ⟨(World.alloc_heap_new w _).trans ?_, World.ownsRow_nil _ _ _ _⟩
  rw [show byteOf ([] : List (Fin 2)) (([] : List (Fin 2)).length / 8) = 0 from by decide]
  rfl

end Go.Proofs.YtgaepmmpedaaiaaGreatDoor.Tl
