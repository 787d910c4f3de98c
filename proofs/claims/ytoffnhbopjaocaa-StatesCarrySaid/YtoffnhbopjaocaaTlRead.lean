/-
  The reader of package tail: what each of its calls does.
-/
import Derived.Test.YtoffnhbopjaocaaTlIter
import Derived.BigQuiet
import Derived.Deep.QuietTactic
namespace Go.Proofs.Ytoffnhbopjaocaa.Tl
open Go.RowKit Go.Shelf
set_option linter.unusedVariables false

attribute [local go_sem] Oper.semAt_some
/-- The first bit apart. -/
theorem numAt_front (bs : List Nat) (p m : Nat) : numAt bs p (m + 1) = bitAt bs p + 2 * numAt bs (p + 1) m := by
  induction m with
  | zero => simp [numAt]
  | succ m ih =>
    have h1 : numAt bs p (m + 1 + 1) = numAt bs p (m + 1) + bitAt bs (p + (m + 1)) * 2 ^ (m + 1) := rfl
    have h2 : numAt bs (p + 1) (m + 1) = numAt bs (p + 1) m + bitAt bs (p + 1 + m) * 2 ^ m := rfl
    rw [h1, ih, h2, show p + (m + 1) = p + 1 + m from by omega, Nat.pow_succ, Nat.mul_add, Nat.mul_comm (2 ^ m) 2, Nat.mul_left_comm]
    omega

/-- The number that bits make, the first of them the highest. -/
def valOf (l : List (Fin 2)) : Nat := l.foldl (fun a b => 2 * a + b.val) 0
theorem valOf_snoc (l : List (Fin 2)) (b : Fin 2) : valOf (l ++ [b]) = 2 * valOf l + b.val := by simp [valOf]
theorem valOf_lt (l : List (Fin 2)) : valOf l < 2 ^ l.length := by
  have key : ∀ (l : List (Fin 2)) (a k : Nat), a < 2 ^ k → l.foldl (fun a b => 2 * a + b.val) a < 2 ^ (k + l.length) := by
    intro l
    induction l with
    | nil => intro a k h; exact h
    | cons b l ih =>
      intro a k h
      have := ih (2 * a + b.val) (k + 1) (by rw [Nat.pow_succ]; have := b.isLt; omega)
      rw [List.foldl_cons, List.length_cons, show k + (l.length + 1) = k + 1 + l.length from by omega]
      exact this
  have := key l 0 0 (by decide)
  rwa [Nat.zero_add] at this
theorem valOf_back (bs : List Nat) (p m k : Nat) (hk : k ≤ m) : valOf (upto (bitBack bs (p + m)) k) = numAt bs (p + m - k) k := by
  induction k with
  | zero => rfl
  | succ k ih =>
    rw [upto_succ, valOf_snoc, ih (by omega), numAt_front, show p + m - (k + 1) + 1 = p + m - k from by omega]
    have e : ((bitBack bs (p + m) k).val : Nat) = bitAt bs (p + m - (k + 1)) := by
      show bitAt bs (p + m - 1 - k) = _
      rw [show p + m - 1 - k = p + m - (k + 1) from by omega]
    rw [e]; omega

theorem or_low (x b : Nat) (hx : x < 9223372036854775808) (hb : b < 2) : bits .or .u64 (((2 * x : Nat) : Int)) (b : Int) = ((2 * x + b : Nat) : Int) := by
  rw [u64_or_nat (2 * x) b (by omega) (by omega), nat_join 1 _ _ (by omega) (by omega)]

/-- Block rb is a reader over the bytes bs, which lie in block g: u bits are not read, a were read ahead of the first one. -/
structure IsR (W : World) (rb g : Nat) (bs : List Nat) (u a : Nat) : Prop where
  lt : g < W.heap.size
  obj : ∃ sa cap, (sa = some (⟨g, 0, none⟩ : Addr) ∨ bs = []) ∧ W.heap[rb]? = some (.cells #[.slice sa bs.length cap, .int .i64 (u : Int), .int .i64 (a : Int)] 97 (0, 0))
  cells : ∀ j, j < bs.length → W.cell? ⟨g, j, none⟩ = some (.int .u8 ((bs[j]?.getD 0 : Nat) : Int))
  fits : bs.length < 140737488355328
  bytes : ∀ j : Nat, bs[j]?.getD 0 < 256
  in_ : u ≤ 8 * bs.length
  most : a ≤ 1099511627776

theorem IsR.ne {W : World} {rb g : Nat} {bs : List Nat} {u a : Nat} (h : IsR W rb g bs u a) (hb : bs ≠ []) : g ≠ rb := by
  rintro rfl
  obtain ⟨sa, cap, _, ho⟩ := h.obj
  have h0 := h.cells 0 (List.length_pos_iff.2 hb)
  rw [cell_of ho 0] at h0
  simp at h0
/-- A reader lies on wherever its two blocks lie on. -/
theorem IsR.keep {W W' : World} {S : Nat → Prop} {rb g : Nat} {bs : List Nat} {u a : Nat} (h : IsR W rb g bs u a) (hk : Keep S W W') (h1 : ¬ S rb) (h2 : bs ≠ [] → ¬ S g) : IsR W' rb g bs u a := by
  obtain ⟨sa, cap, hsa, ho⟩ := h.obj
  refine ⟨Nat.lt_of_lt_of_le h.lt hk.size, ⟨sa, cap, hsa, hk.obj ho h1⟩, fun j hj => ?_, h.fits, h.bytes, h.in_, h.most⟩
  have hne : bs ≠ [] := by rintro rfl; simp at hj
  exact (World.cell?_of_block (hk.block g h.lt (h2 hne))).trans (h.cells j hj)
theorem IsR.drewN {W : World} {rb g : Nat} {bs : List Nat} {u a : Nat} (h : IsR W rb g bs u a) (n : Nat) : IsR (W.drewN n) rb g bs u a := ⟨h.lt, h.obj, h.cells, h.fits, h.bytes, h.in_, h.most⟩

set_option maxHeartbeats 400000 in
/-- Left of a reader. -/
theorem left_any (rb g : Nat) (bs : List Nat) (u a : Nat) (w : World) (h : IsR w rb g bs u a) :
    Calls Try.prog 23 #[.pointer (some ⟨rb, 0, none⟩)] w fun e w' => e = .returned (.int .i64 ((u : Int) - a)) ∧ ∃ n, w' = w.drewN n := by
  obtain ⟨sa, cap, hsa, ho⟩ := h.obj
  have hc1 : w.cell? ⟨rb, 1, none⟩ = some (.int .i64 (u : Int)) := cell_of ho 1
  have hc2 : w.cell? ⟨rb, 2, none⟩ = some (.int .i64 (a : Int)) := cell_of ho 2
  have hf := h.fits
  have hi := h.in_
  have hm := h.most
  clear h ho hsa
  go_enter Try.func23, Try.ntmps23
  go_wp2
  go_quiet (fail)
  go_wp2
  go_ret
  exact ⟨rfl, _, rfl⟩

set_option maxHeartbeats 400000 in
/-- back(m), where there are so many bits. -/
theorem back_there (rb u a m : Nat) (sl : Value) (w : World) (ho : w.heap[rb]? = some (.cells #[sl, .int .i64 (u : Int), .int .i64 (a : Int)] 97 (0, 0))) (hu : u < 2251799813685248) (ha : a ≤ 1099511627776) (hm : m ≤ 56) (hmu : m ≤ u) :
    Calls Try.prog 54 #[.pointer (some ⟨rb, 1, none⟩), .int .i64 (m : Int)] w fun e w' => e = .returned (.int .i64 0) ∧ w'.heap[rb]? = some (.cells #[sl, .int .i64 ((u - m : Nat) : Int), .int .i64 (a : Int)] 97 (0, 0)) ∧ Keep (fun k => k = rb) w w' := by
  have hc1 : w.cell? ⟨rb, 1, none⟩ = some (.int .i64 (u : Int)) := cell_of ho 1
  have hc2 : w.cell? ⟨rb, 2, none⟩ = some (.int .i64 (a : Int)) := cell_of ho 2
  have hf1 := frozen_of ho 1
  have hf2 := frozen_of ho 2
  go_enter Try.func54, Try.ntmps54
  go_wp2
  go_ret
  refine ⟨rfl, (set_obj (set_obj ho 1 _) 2 _).trans ?_, ((Keep.refl (fun k => k = rb) w).setCell (p := ⟨rb, 1, none⟩) (fun _ => rfl) _).setCell (p := ⟨rb, 2, none⟩) (fun _ => rfl) _⟩
  have e : ((u - m : Nat) : Int) = (u : Int) - m := by omega
  rw [e]
  simp

set_option maxHeartbeats 400000 in
/-- back(m), where there are fewer bits. -/
theorem back_ahead (rb u a m b : Nat) (sl : Value) (w : World) (ho : w.heap[rb]? = some (.cells #[sl, .int .i64 (u : Int), .int .i64 (a : Int)] 97 (0, 0))) (ha : a ≤ 1099511627776) (hm : m ≤ 56) (hmu : u < m) (hb : b = min (a + (m - u)) 1099511627776) :
    Calls Try.prog 54 #[.pointer (some ⟨rb, 1, none⟩), .int .i64 (m : Int)] w fun e w' => e = .returned (.int .i64 ((m - u : Nat) : Int)) ∧ w'.heap[rb]? = some (.cells #[sl, .int .i64 0, .int .i64 (b : Int)] 97 (0, 0)) ∧ Keep (fun k => k = rb) w w' := by
  have hc1 : w.cell? ⟨rb, 1, none⟩ = some (.int .i64 (u : Int)) := cell_of ho 1
  have hc2 : w.cell? ⟨rb, 2, none⟩ = some (.int .i64 (a : Int)) := cell_of ho 2
  have hf1 := frozen_of ho 1
  have hf2 := frozen_of ho 2
  have HB := (show Hid _ from hb)
  clear hb
  by_cases hq : a + (m - u) ≤ 1099511627776
  · have hq2 : (a : Int) + m - u ≤ 1099511627776 := by omega
    go_enter Try.func54, Try.ntmps54
    go_wp2
    go_ret
    refine ⟨by simp; omega, (set_obj (set_obj ho 1 _) 2 _).trans ?_, ((Keep.refl (fun k => k = rb) w).setCell (p := ⟨rb, 1, none⟩) (fun _ => rfl) _).setCell (p := ⟨rb, 2, none⟩) (fun _ => rfl) _⟩
    have e : (b : Int) = (a : Int) + m - u := by have := HB.out; omega
    rw [e]
    simp
  · have hq2 : (1099511627776 : Int) < (a : Int) + m - u := by omega
    go_enter Try.func54, Try.ntmps54
    go_wp2
    go_ret
    refine ⟨by simp; omega, (set_obj (set_obj ho 1 _) 2 _).trans ?_, ((Keep.refl (fun k => k = rb) w).setCell (p := ⟨rb, 1, none⟩) (fun _ => rfl) _).setCell (p := ⟨rb, 2, none⟩) (fun _ => rfl) _⟩
    have e : (b : Int) = 1099511627776 := by have := HB.out; omega
    rw [e]
    simp

/-- back(m): how many of them lie ahead of the tail's first bit. -/
theorem back_any (rb u a m t b : Nat) (sl : Value) (ht : t = min m u) (hb : b = min (a + (m - t)) 1099511627776) (w : World) (ho : w.heap[rb]? = some (.cells #[sl, .int .i64 (u : Int), .int .i64 (a : Int)] 97 (0, 0))) (hu : u < 2251799813685248) (ha : a ≤ 1099511627776) (hm : m ≤ 56) :
    Calls Try.prog 54 #[.pointer (some ⟨rb, 1, none⟩), .int .i64 (m : Int)] w fun e w' => e = .returned (.int .i64 ((m - t : Nat) : Int)) ∧ w'.heap[rb]? = some (.cells #[sl, .int .i64 ((u - t : Nat) : Int), .int .i64 (b : Int)] 97 (0, 0)) ∧ Keep (fun k => k = rb) w w' := by
  by_cases hmu : m ≤ u
  · obtain rfl : t = m := by omega
    obtain rfl : b = a := by omega
    have := back_there rb u b t sl w ho hu ha hm hmu
    rw [Nat.sub_self]
    exact this
  · obtain rfl : t = u := by omega
    have := back_ahead rb t a m b sl w ho ha hm (by omega) hb
    rw [Nat.sub_self]
    exact this

theorem maxSem_run (ats : Array TypeId) (ty : TypeId) (a b c : Int) (h : c = max a b) (w : World) : (maxSem ats ty #[.int .i64 a, .int .i64 b]).run Try.prog w = .ok (.int .i64 c) w := by
  have e : (maxSem ats ty #[.int .i64 a, .int .i64 b]) = pure (.int .i64 (if b > a then b else a)) := rfl
  rw [e, h, show max a b = (if b > a then b else a) from by split <;> omega]
  rfl
theorem minSem_run (ats : Array TypeId) (ty : TypeId) (a b c : Int) (h : c = min a b) (w : World) : (minSem ats ty #[.int .i64 a, .int .i64 b]).run Try.prog w = .ok (.int .i64 c) w := by
  have e : (minSem ats ty #[.int .i64 a, .int .i64 b]) = pure (.int .i64 (if b < a then b else a)) := rfl
  rw [e, h, show min a b = (if b < a then b else a) from by split <;> omega]
  rfl

/-- The iterator's word, at the world where the loop begins. -/
theorem back_stops (n : Nat) (hn : 1 ≤ n) (Bs Bf Bt g cap : Nat) (sa : Option Addr) (bs : List Nat) (hsa : sa = some ⟨g, 0, none⟩ ∨ bs = []) (hlen : bs.length < 140737488355328) (hbs : ∀ j : Nat, bs[j]?.getD 0 < 256) (p m u : Nat) (hu : u = p + m) (hp : p + m ≤ 8 * bs.length) (hm : m ≤ 56)
    (W : World) (hBs : W.heap[Bs]? = some (.cells #[.slice sa bs.length cap] 23 (0, 0))) (hBf : W.heap[Bf]? = some (.cells #[.int .i64 (u : Int)] 3 (0, 0))) (hBt : W.heap[Bt]? = some (.cells #[.int .i64 (p : Int)] 3 (0, 0)))
    (hgl : g < W.heap.size) (hg : ∀ j, j < bs.length → W.cell? ⟨g, j, none⟩ = some (.int .u8 (bs[j]?.getD 0 : Nat))) :
    SeqStopsK Fence.wide n Try.prog 69 #[.pointer (some ⟨Bf, 0, none⟩), .pointer (some ⟨Bt, 0, none⟩), .pointer (some ⟨Bs, 0, none⟩)] (fun b : Fin 2 => #[Value.int .u64 (b.val : Int)])
      (Stay (fun k => k = Bs ∨ k = Bf ∨ k = Bt ∨ k = g)) (fun ys => ys = upto (bitBack bs (p + m)) m) (fun _ => True) m W := fun l J Jx W1 hW _ _ hY h0 => by
  subst hu
  refine back1_in Fence.wide n trivial rfl hn l Bs Bf Bt g cap sa bs hsa (by omega) hbs p m hp hm J Jx hY W1 ((hW.block _ (obj_lt hBs)).trans hBs) ((hW.block _ (obj_lt hBf)).trans hBf) ((hW.block _ (obj_lt hBt)).trans hBt) (fun j hj => (hW.cell (p := ⟨g, j, none⟩) hgl).trans (hg j hj)) h0

section
attribute [local go_sem] maxSem_eq minSem_eq
set_option maxRecDepth 100000 in
set_option maxHeartbeats 1000000 in
/-- Bits(n): the number of the bits ahead of where the reader stands (t of them are there); those ahead of the tail's first bit (z) count as 0. -/
theorem bits_read (rb g : Nat) (bs : List Nat) (p t z u m a b : Nat) (n : Int) (w : World) (h : IsR w rb g bs u a) (hu : u = p + t) (hmz : m = t + z) (hpz : z = 0 ∨ p = 0) (hn : (m : Int) = min (max n 0) 56) (hb : b = min (a + z) 1099511627776) :
    Calls Try.prog 22 #[.pointer (some ⟨rb, 0, none⟩), .int .i64 n] w fun e w' => e = .returned (.int .u64 ((numAt bs p t * 2 ^ z : Nat) : Int)) ∧ IsR w' rb g bs p b ∧ Keep (fun k => k = rb) w w' := by
  obtain ⟨sa, cap, hsa, ho⟩ := h.obj
  have hm : m ≤ 56 := by omega
  have hfit := h.fits
  have hin := h.in_
  have hc1 : w.cell? ⟨rb, 1, none⟩ = some (.int .i64 (u : Int)) := cell_of ho 1
  obtain ⟨X, hX⟩ : ∃ X : Int, X = max n 0 := ⟨_, rfl⟩
  have hmax := maxSem_run #[3, 3] 3 n 0 X hX
  have hmin := minSem_run #[3, 3] 3 X 56 m (by rw [hX]; exact hn)
  have HU := (show Hid _ from hu)
  have HM := (show Hid _ from hmz)
  have HB := (show Hid _ from hb)
  have HR : Hid (∀ w : World, w.heap[rb]? = some (.cells #[.slice sa bs.length cap, .int .i64 (u : Int), .int .i64 (a : Int)] 97 (0, 0)) → Calls Try.prog 54 #[.pointer (some ⟨rb, 1, none⟩), .int .i64 (m : Int)] w fun e w' => e = .returned (.int .i64 (z : Int)) ∧ w'.heap[rb]? = some (.cells #[.slice sa bs.length cap, .int .i64 (p : Int), .int .i64 (b : Int)] 97 (0, 0)) ∧ Keep (fun k => k = rb) w w') := fun w ho => by
    have := back_any rb u a m t b (.slice sa bs.length cap) (by omega) (by rw [hb]; congr 2; omega) w ho (by omega) h.most hm
    rw [show m - t = z from by omega, show u - t = p from by omega] at this
    exact this
  have hz64 : z ≤ 56 := by omega
  have ht56 : t ≤ 56 := by omega
  have hrb : rb < w.heap.size := obj_lt ho
  clear hX hn hb hpz hu hmz
  refine (callsIn_wide (n := 4)).1 ?_
  refine callsIn_of_wp_marks Try.func22 rfl trivial ?_ rfl
  simp only [Try.ntmps22, List.size_toArray, List.length_cons, List.length_nil, Nat.reduceAdd, Nat.reduceSub, Array.replicate_succ, Array.replicate_zero, List.push_toArray, List.append_toArray, List.nil_append, List.cons_append]
  have hmx : Try.prog.follows .mixedOrders = true := by kernel_rfl
  gi_wp2_with (refine ⟨trivial, ?_⟩; gi_at_call 54; refine (callsIn_wide.2 (HR.out _ ho)).mono ?_; rintro e w1 ⟨rfl, ho1, hK1⟩; have hz1 := cell_of (alloc_far ho1 (.cells #[.int .u64 0] 52)) 0; have hz2 := cell_of (alloc_far ho1 (.cells #[.int .u64 0] 52)) 1; simp at hz1 hz2)
  refine wpIn_calm ?_
  gi_region_with_o (refine ⟨trivial, ?_⟩; gi_at_call 55; refine (backwards_in Fence.wide _ trivial rfl _ _ _ _ _ _).mono ?_; rintro e w' ⟨rfl, rfl⟩)
  all_goals
    simp only [calm]
    gi_wp2
    have hlt1 : g < w1.heap.size := Nat.lt_of_lt_of_le h.lt hK1.size
    have hrb1 : rb < w1.heap.size := obj_lt ho1
    have hsz1 := hK1.size
    have hcells1 : ∀ j, j < bs.length → w1.cell? ⟨g, j, none⟩ = some (.int .u8 ((bs[j]?.getD 0 : Nat) : Int)) := fun j hj => by
      have hne : bs ≠ [] := by rintro rfl; simp at hj
      exact (World.cell?_of_block (hK1.block g h.lt (h.ne hne))).trans (h.cells j hj)
    obtain ⟨b0, b1, b2, b3, bsz, bkp⟩ := boxes4 w1 (Obj.cells #[Value.int IntKind.u64 0] 52) (Obj.cells #[Value.slice sa bs.length cap] 23) (Obj.cells #[Value.int IntKind.i64 ↑u] 3) (Obj.cells #[Value.int IntKind.i64 ↑p] 3)
    generalize ((((w1.alloc (Obj.cells #[Value.int IntKind.u64 0] 52)).alloc (Obj.cells #[Value.slice sa bs.length cap] 23)).alloc (Obj.cells #[Value.int IntKind.i64 ↑u] 3)).alloc (Obj.cells #[Value.int IntKind.i64 ↑p] 3)).drew = W0 at b0 b1 b2 b3 bsz bkp ⊢
    refine wpIn_rangeFunc_ownG rfl (by omega) (gf := 69) rfl trivial (enters_of Try.func69 (by kernel_rfl) rfl)
      (back_stops 3 (by omega) (w1.heap.size + 1) (w1.heap.size + 1 + 1) (w1.heap.size + 1 + 2) g cap sa bs hsa h.fits h.bytes p t u HU.out (by have := HU.out; omega) ht56 W0 b1 b2 b3 (by omega) (fun j hj => (World.cell?_of_block (bkp.block g hlt1 (fun h => h))).trans (hcells1 j hj)))
      (fun h k => h.trans k) (Stay.putObj (by rintro k (rfl | rfl | rfl | rfl) <;> omega)) (Below.refl _ _) (fun _ => rfl)
      (fun pre W => Boxed W w1.heap.size 52 (.int .u64 (valOf pre : Nat)) ∧ Keep (fun k => k = w1.heap.size) W0 W)
      (fun _ _ _ => False)
      (OwnFrom.and (Own.from (boxed_own _ _ _) _) (ownFrom_keep (Nat.le_refl _)))
      (fun _ _ _ _ _ hs _ _ => hs)
      ⟨b0, Keep.refl _ _⟩
      (fun x => { tmps := #[.pointer (some ⟨rb, 0, none⟩), .int .i64 (m : Int), undef, undef, .int .u64 0, .int .i64 (u : Int), .int .i64 (z : Int), .pointer (some ⟨w1.heap.size, 0, none⟩), .int .u64 ((x.val : Nat) : Int),
        .pointer (some ⟨rb, 0, none⟩), .bool false, .int .i64 n, .int .i64 X, .int .i64 (m : Int), .pointer (some ⟨rb, 0, none⟩), .pointer (some ⟨rb, 0, none⟩), .pointer (some ⟨rb, 1, none⟩), .pointer (some ⟨rb, 1, none⟩), .int .i64 (u : Int),
        .pointer (some ⟨rb, 0, none⟩), .pointer (some ⟨rb, 0, none⟩), .pointer (some ⟨rb, 1, none⟩), .int .i64 (m : Int), .int .i64 (z : Int), .pointer (some ⟨rb, 0, none⟩), .pointer (some ⟨rb, 0, none⟩), .pointer (some ⟨rb, 0, none⟩), .slice sa bs.length cap, .int .i64 (u : Int),
        .pointer (some ⟨rb, 0, none⟩), .pointer (some ⟨rb, 0, none⟩), .pointer (some ⟨rb, 1, none⟩), .pointer (some ⟨rb, 1, none⟩), .int .i64 (p : Int),
        .func (.func 69) #[] #[.pointer (some ⟨w1.heap.size + 1 + 1, 0, none⟩), .pointer (some ⟨w1.heap.size + 1 + 2, 0, none⟩), .pointer (some ⟨w1.heap.size + 1, 0, none⟩)],
        .int .u64 ((x.val : Nat) : Int), undef, undef, undef, undef, undef, undef, undef], defers := [] }) ?assign ?body ?done ?stop
    case assign =>
      intro l x W K hK
      gi_wp2
      exact hK
    case body =>
      rintro l pre x W ⟨hX, hKp⟩ hlt
      dsimp only
      have hcx := hX.cell
      have hfx := hX.frozen
      have hvl := valOf_lt pre
      have hpw : 2 ^ pre.length ≤ 2 ^ 56 := Nat.pow_le_pow_right (by omega) (by omega)
      have hv56 : valOf pre < 72057594037927936 := by omega
      have hor : bits .or .u64 (((valOf pre : Nat) : Int) * 2) ((x.val : Nat) : Int) = ((valOf (pre ++ [x]) : Nat) : Int) := by
        have := or_low (valOf pre) x.val (by omega) x.isLt
        rw [valOf_snoc, ← this, Int.mul_comm]; rfl
      clear hvl hpw
      gi_wp2
      refine ⟨(KeepsOthers.setCell _ _ _).from _, ?_, hX.set _, hKp.setCell (p := ⟨w1.heap.size, 0, none⟩) (fun _ => rfl) _⟩
      rintro k hk
      exact Below.heap_setCell _ _ _ _ (by rcases hk with rfl | rfl | rfl | rfl <;> (dsimp only; omega))
    case done =>
      rintro D ys W hD rfl ⟨hX, hKp⟩ hK
      have hr : W.heap[rb]? = _ := hKp.obj (bkp.obj ho1 (fun h => h)) (by omega)
      have hcx := hX.cell
      have hval := valOf_back bs p t t (Nat.le_refl _)
      rw [Nat.add_sub_cancel] at hval
      have hnl := numAt_lt bs p t
      have hpw : numAt bs p t * 2 ^ z < 2 ^ 56 := by
        have h1 : numAt bs p t * 2 ^ z < 2 ^ t * 2 ^ z := Nat.mul_lt_mul_of_pos_right hnl (Nat.two_pow_pos z)
        have h2 : 2 ^ (t + z) ≤ 2 ^ 56 := Nat.pow_le_pow_right (by omega) (by have := HM.out; omega)
        rw [← Nat.pow_add] at h1; omega
      have hsh : IntKind.u64.wrap (((numAt bs p t : Nat) : Int) * 2 ^ z) = ((numAt bs p t * 2 ^ z : Nat) : Int) := by
        have e : ((numAt bs p t : Nat) : Int) * 2 ^ z = ((numAt bs p t * 2 ^ z : Nat) : Int) := by simp
        rw [e]; generalize numAt bs p t * 2 ^ z = y at hpw; rw [IntKind.wrap_u64]; omega
      clear hz1 hz2 hpw hnl
      gi_wp2
      refine ⟨by simp, .inl ⟨_, _, rfl, run_takeDeferred hK, ?_⟩⟩
      have hkeep : Keep (fun k => k = rb) w (W.putObj D (.deferred none)) :=
        Keep.putObj ((hK1.trans bkp (fun _ _ h => h.elim)).trans hKp (fun i hi e => by omega)) D _ (fun hd => by omega)
      refine ⟨_, results_tmp rfl _ _ _, by rw [← hval, Int.natCast_mul, Int.natCast_pow]; rfl, ?_, hkeep⟩
      refine ⟨Nat.lt_of_lt_of_le h.lt hkeep.size, ⟨sa, cap, hsa, (World.putObj_heap_other (by omega)).trans hr⟩, fun k hk => ?_, h.fits, h.bytes, by have := HU.out; omega, by have := HB.out; omega⟩
      have hne : bs ≠ [] := by rintro rfl; simp at hk
      exact (World.cell?_of_block (hkeep.block g h.lt (h.ne hne))).trans (h.cells k hk)
    case stop =>
      rintro D c pre W _ _ h _
      exact h.elim
end

end Go.Proofs.Ytoffnhbopjaocaa.Tl
