/-
  The reader of package bits: what each of its calls does.
-/
import Derived.Test.YtoffnhbopjaocaaIter
import Derived.BigQuiet
import Derived.Deep.QuietTactic
namespace Go.Proofs.Ytoffnhbopjaocaa
open Go.RowKit Go.Shelf

attribute [local go_sem] Oper.semAt_some

/-- The number of m bits from bit p on. -/
def numAt (bs : List Nat) (p : Nat) : Nat → Nat
  | 0 => 0
  | m + 1 => numAt bs p m + bitAt bs (p + m) * 2 ^ m
theorem numAt_lt (bs : List Nat) (p m : Nat) : numAt bs p m < 2 ^ m := by
  induction m with
  | zero => simp [numAt]
  | succ m ih =>
    have := bitAt_lt bs (p + m)
    simp only [numAt, Nat.pow_succ]
    have h2 : bitAt bs (p + m) * 2 ^ m ≤ 1 * 2 ^ m := Nat.mul_le_mul_right _ (by omega)
    omega

/-- What a loop over some places has made by 'or'. -/
def orOf (bs : List Nat) (p : Nat) (l : List (Fin 64)) : Nat := l.foldl (fun a j => a ||| bitAt bs (p + j.val) * 2 ^ j.val) 0
theorem orOf_snoc (bs : List Nat) (p : Nat) (l : List (Fin 64)) (j : Fin 64) : orOf bs p (l ++ [j]) = orOf bs p l ||| bitAt bs (p + j.val) * 2 ^ j.val := by simp [orOf]
theorem bit_lt (bs : List Nat) (p : Nat) (j : Fin 64) : bitAt bs (p + j.val) * 2 ^ j.val < 18446744073709551616 := by
  have h1 : bitAt bs (p + j.val) * 2 ^ j.val ≤ 1 * 2 ^ j.val := Nat.mul_le_mul_right _ (by have := bitAt_lt bs (p + j.val); omega)
  have h2 : 2 ^ j.val ≤ 2 ^ 63 := Nat.pow_le_pow_right (by omega) (by have := j.isLt; omega)
  omega
theorem orOf_lt (bs : List Nat) (p : Nat) (l : List (Fin 64)) : orOf bs p l < 18446744073709551616 := by
  have key : ∀ (l : List (Fin 64)) (a : Nat), a < 2 ^ 64 → l.foldl (fun a j => a ||| bitAt bs (p + j.val) * 2 ^ j.val) a < 2 ^ 64 := by
    intro l
    induction l with
    | nil => intro a h; exact h
    | cons j l ih => intro a h; exact ih _ (Nat.or_lt_two_pow h (bit_lt bs p j))
  exact key l 0 (by decide)
theorem orOf_upto (bs : List Nat) (p m : Nat) (hm : m ≤ 64) : orOf bs p (upto fin64 m) = numAt bs p m := by
  induction m with
  | zero => rfl
  | succ m ih =>
    rw [upto_succ, orOf_snoc, ih (by omega)]
    have e : (fin64 m).val = m := Nat.mod_eq_of_lt (by omega)
    rw [e, Nat.or_comm, nat_join m _ _ (Nat.mul_mod_left _ _) (numAt_lt bs p m), numAt]
    omega

theorem or_snoc (bs : List Nat) (p : Nat) (pre : List (Fin 64)) (j : Fin 64) : bits .or .u64 (orOf bs p pre : Nat) (IntKind.u64.wrap ((bitAt bs (p + j.val) : Nat) * 2 ^ j.val)) = ((orOf bs p (pre ++ [j]) : Nat) : Int) := by
  have h1 : ((bitAt bs (p + j.val) : Nat) : Int) * 2 ^ j.val = ((bitAt bs (p + j.val) * 2 ^ j.val : Nat) : Int) := by simp
  have h2 := bit_lt bs p j
  rw [h1, IntKind.wrap_u64, orOf_snoc, ← u64_or_nat _ _ (orOf_lt bs p pre) h2]
  congr 1
  omega

/-- Block rb is a reader at bit p of the bytes bs, which lie in block g. -/
structure IsR (W : World) (rb g : Nat) (bs : List Nat) (p : Nat) : Prop where
  lt : g < W.heap.size
  obj : ∃ sa cap, (sa = some (⟨g, 0, none⟩ : Addr) ∨ bs = []) ∧ W.heap[rb]? = some (.cells #[.slice sa bs.length cap, .int .i64 (p : Int)] 111 (0, 0))
  cells : ∀ j, j < bs.length → W.cell? ⟨g, j, none⟩ = some (.int .u8 ((bs[j]?.getD 0 : Nat) : Int))
  fits : bs.length < 140737488355328
  bytes : ∀ j : Nat, bs[j]?.getD 0 < 256
  in_ : p ≤ 8 * bs.length

theorem IsR.ne {W : World} {rb g : Nat} {bs : List Nat} {p : Nat} (h : IsR W rb g bs p) (hb : bs ≠ []) : g ≠ rb := by
  rintro rfl
  obtain ⟨sa, cap, _, ho⟩ := h.obj
  have h0 := h.cells 0 (List.length_pos_iff.2 hb)
  rw [cell_of ho 0] at h0
  simp at h0
/-- A reader lies on wherever its two blocks lie on. -/
theorem IsR.keep {W W' : World} {S : Nat → Prop} {rb g : Nat} {bs : List Nat} {p : Nat} (h : IsR W rb g bs p) (hk : Keep S W W') (h1 : ¬ S rb) (h2 : bs ≠ [] → ¬ S g) : IsR W' rb g bs p := by
  obtain ⟨sa, cap, hsa, ho⟩ := h.obj
  refine ⟨Nat.lt_of_lt_of_le h.lt hk.size, ⟨sa, cap, hsa, hk.obj ho h1⟩, fun j hj => ?_, h.fits, h.bytes, h.in_⟩
  have hne : bs ≠ [] := by rintro rfl; simp at hj
  exact (World.cell?_of_block (hk.block g h.lt (h2 hne))).trans (h.cells j hj)

set_option maxHeartbeats 400000 in
/-- canCount(n). -/
theorem canCount_any (n : Int) (w : World) : Calls Try.prog 56 #[.int .i64 n] w fun e w' => e = .returned (.bool (decide (0 ≤ n ∧ n ≤ 56))) ∧ w' = w := by
  by_cases h1 : 0 ≤ n
  · by_cases h2 : n ≤ 56
    · go_enter Try.func56, Try.ntmps56
      go_wp2
      go_ret
      exact ⟨by simp [h1, h2], rfl⟩
    · go_enter Try.func56, Try.ntmps56
      go_wp2
      go_ret
      exact ⟨by simp [h2], rfl⟩
  · go_enter Try.func56, Try.ntmps56
    go_wp2
    go_ret
    exact ⟨by simp; omega, rfl⟩

theorem keep_drewN (w : World) (n : Nat) : Keep noBlock w (w.drewN n) := ⟨rfl, rfl, rfl, Nat.le_refl _, fun _ _ _ => rfl⟩
theorem heap_drewN (w : World) (n : Nat) : (w.drewN n).heap = w.heap := rfl

set_option maxHeartbeats 400000 in
/-- Left of a reader. -/
theorem left_any (rb g : Nat) (bs : List Nat) (p : Nat) (w : World) (h : IsR w rb g bs p) :
    Calls Try.prog 45 #[.pointer (some ⟨rb, 0, none⟩)] w fun e w' => e = .returned (.int .i64 ((bs.length : Int) * 8 - p)) ∧ ∃ n, w' = w.drewN n := by
  obtain ⟨sa, cap, hsa, ho⟩ := h.obj
  have hc0 : w.cell? ⟨rb, 0, none⟩ = some (.slice sa bs.length cap) := cell_of ho 0
  have hc1 : w.cell? ⟨rb, 1, none⟩ = some (.int .i64 (p : Int)) := cell_of ho 1
  have hf := h.fits
  have hi := h.in_
  clear h ho hsa
  go_enter Try.func45, Try.ntmps45
  go_wp2
  go_quiet (fail)
  go_wp2
  go_ret
  exact ⟨rfl, _, rfl⟩

theorem and_seven_neg (p : Nat) (h : p < 4611686018427387904) : bits .and .i64 (-(p : Int)) 7 = (((8 - p % 8) % 8 : Nat) : Int) := by
  have e : bits .and .i64 (-(p : Int)) 7 = IntKind.i64.wrap ((BitVec.ofInt 64 (-(p : Int)) &&& BitVec.ofInt 64 7).toNat : Int) := rfl
  have e7 : (BitVec.ofInt 64 7).toNat = 7 := by decide
  rw [e, BitVec.toNat_and, e7, BitVec.toNat_ofInt, nat_mask3, IntKind.wrap_i64]
  have h2 : (2 : Nat) ^ 64 = 18446744073709551616 := by decide
  rw [h2]
  omega

set_option maxHeartbeats 400000 in
/-- toByte(p). -/
theorem toByte_any (p : Nat) (hp : p < 4611686018427387904) (w : World) : Calls Try.prog 60 #[.int .i64 (p : Int)] w fun e w' => e = .returned (.int .i64 (((8 - p % 8) % 8 : Nat) : Int)) ∧ w' = w := by
  have h7 := and_seven_neg p hp
  obtain ⟨q, hq⟩ : ∃ q, (8 - p % 8) % 8 = q := ⟨_, rfl⟩
  rw [hq] at h7 ⊢
  clear hq
  go_enter Try.func60, Try.ntmps60
  go_wp2
  go_ret
  exact ⟨rfl, rfl⟩

/-- Q, but no panic. -/
def calm (Q : Exit → Act → World → Prop) : Exit → Act → World → Prop
  | .panic _, _, _ => False
  | e, a, w => Q e a w
theorem wpIn_calm {F : Fence} {n : Nat} {P : Program} {c : Code} {Q : Exit → Act → World → Prop} {a : Act} {w : World} (h : c.wpIn F n P (calm Q) a w) : c.wpIn F n P Q a w :=
  wpIn_mono h (fun e a w h => by cases e <;> first | exact h | exact h.elim)

theorem boxes4 (w : World) (o0 o1 o2 o3 : Obj) :
    ((((w.alloc o0).alloc o1).alloc o2).alloc o3).drew.heap[w.heap.size]? = some o0 ∧ ((((w.alloc o0).alloc o1).alloc o2).alloc o3).drew.heap[w.heap.size + 1]? = some o1 ∧
    ((((w.alloc o0).alloc o1).alloc o2).alloc o3).drew.heap[w.heap.size + 1 + 1]? = some o2 ∧ ((((w.alloc o0).alloc o1).alloc o2).alloc o3).drew.heap[w.heap.size + 1 + 2]? = some o3 ∧
    ((((w.alloc o0).alloc o1).alloc o2).alloc o3).drew.heap.size = w.heap.size + 4 ∧ Keep noBlock w ((((w.alloc o0).alloc o1).alloc o2).alloc o3).drew := by
  have e0 := World.alloc_heap_new w o0
  have e1 := World.alloc_heap_new (w.alloc o0) o1
  have e2 := World.alloc_heap_new ((w.alloc o0).alloc o1) o2
  have e3 := World.alloc_heap_new (((w.alloc o0).alloc o1).alloc o2) o3
  simp only [World.size_alloc] at e1 e2 e3
  refine ⟨alloc_far (alloc_far (alloc_far e0 _) _) _, alloc_far (alloc_far e1 _) _, alloc_far e2 _, e3, ?_, ((((Keep.refl _ w).alloc _).alloc _).alloc _).alloc _ |>.drew⟩
  show ((((w.alloc o0).alloc o1).alloc o2).alloc o3).heap.size = _
  simp only [World.size_alloc]

theorem ownFrom_keep {β : Type} {S : Nat → Prop} {W0 : World} {B : Nat} (hB : W0.heap.size ≤ B) : OwnFrom B (fun (_ : β) W => Keep S W0 W) :=
  fun _ _ _ _ hs hg hr => hs.grown hg (fun k e hk => by have := (hr k e).1; omega)

/-- The iterator's word, at the world where the loop begins. -/
theorem row_stops (n : Nat) (hn : 1 ≤ n) (Bs Ba Bn g cap : Nat) (sa : Option Addr) (bs : List Nat) (hsa : sa = some ⟨g, 0, none⟩ ∨ bs = []) (hlen : bs.length < 140737488355328) (hbs : ∀ j : Nat, bs[j]?.getD 0 < 256) (p m : Nat) (hp : p + m ≤ 8 * bs.length) (hm : m ≤ 56)
    (W : World) (hBs : W.heap[Bs]? = some (.cells #[.slice sa bs.length cap] 23 (0, 0))) (hBa : W.heap[Ba]? = some (.cells #[.int .i64 (p : Int)] 3 (0, 0))) (hBn : W.heap[Bn]? = some (.cells #[.int .i64 (m : Int)] 3 (0, 0)))
    (hgl : g < W.heap.size) (hg : ∀ j, j < bs.length → W.cell? ⟨g, j, none⟩ = some (.int .u8 (bs[j]?.getD 0 : Nat))) :
    SeqStopsK Fence.wide n Try.prog 76 #[.pointer (some ⟨Bn, 0, none⟩), .pointer (some ⟨Ba, 0, none⟩), .pointer (some ⟨Bs, 0, none⟩)] (fun b : Fin 64 => #[Value.int .i64 (b.val : Int), Value.int .u64 (bitAt bs (p + b.val) : Nat)])
      (Stay (fun k => k = Bs ∨ k = Ba ∨ k = Bn ∨ k = g)) (fun ys => ys = upto fin64 m) (fun _ => True) m W := fun l J Jx W1 hW _ _ hY h0 => by
  refine row1_in Fence.wide n trivial rfl hn l Bs Ba Bn g cap sa bs hsa (by omega) hbs p m hp hm J Jx hY W1 ((hW.block _ (obj_lt hBs)).trans hBs) ((hW.block _ (obj_lt hBa)).trans hBa) ((hW.block _ (obj_lt hBn)).trans hBn) (fun j hj => (hW.cell (p := ⟨g, j, none⟩) hgl).trans (hg j hj)) h0

set_option maxRecDepth 100000 in
set_option maxHeartbeats 1000000 in
/-- take(m): the number of the next m bits; the reader stands behind them. -/
theorem take_any (rb g : Nat) (bs : List Nat) (p m : Nat) (w : World) (h : IsR w rb g bs p) (hm : m ≤ 56) (hp : p + m ≤ 8 * bs.length) :
    Calls Try.prog 63 #[.pointer (some ⟨rb, 0, none⟩), .int .i64 (m : Int)] w fun e w' => e = .returned (.int .u64 (numAt bs p m : Nat)) ∧ IsR w' rb g bs (p + m) ∧ Keep (fun k => k = rb) w w' := by
  obtain ⟨sa, cap, hsa, ho⟩ := h.obj
  have hc0 : w.cell? ⟨rb, 0, none⟩ = some (.slice sa bs.length cap) := cell_of ho 0
  have hc1 : w.cell? ⟨rb, 1, none⟩ = some (.int .i64 (p : Int)) := cell_of ho 1
  refine (callsIn_wide (n := 4)).1 ?_
  refine callsIn_of_wp_marks Try.func63 rfl trivial ?_ rfl
  simp only [Try.ntmps63, List.size_toArray, List.length_cons, List.length_nil, Nat.reduceAdd, Nat.reduceSub, Array.replicate_succ, Array.replicate_zero, List.push_toArray, List.append_toArray, List.nil_append, List.cons_append]
  have hmx : Try.prog.follows .mixedOrders = true := by kernel_rfl
  have hz1 := cell_of (alloc_far ho (.cells #[.int .u64 0] 52)) 0
  have hz2 := cell_of (alloc_far ho (.cells #[.int .u64 0] 52)) 1
  simp at hz1 hz2
  gi_wp2_with fail
  refine wpIn_calm ?_
  gi_region_with_o (refine ⟨trivial, ?_⟩; gi_at_call 74; refine (row_in Fence.wide _ trivial rfl _ _ _ _ _ _).mono ?_; rintro e w' ⟨rfl, rfl⟩)
  all_goals
    simp only [calm]
    gi_wp2
    obtain ⟨b0, b1, b2, b3, bsz, bkp⟩ := boxes4 w (Obj.cells #[Value.int IntKind.u64 0] 52) (Obj.cells #[Value.slice sa bs.length cap] 23) (Obj.cells #[Value.int IntKind.i64 ↑p] 3) (Obj.cells #[Value.int IntKind.i64 ↑m] 3)
    generalize ((((w.alloc (Obj.cells #[Value.int IntKind.u64 0] 52)).alloc (Obj.cells #[Value.slice sa bs.length cap] 23)).alloc (Obj.cells #[Value.int IntKind.i64 ↑p] 3)).alloc (Obj.cells #[Value.int IntKind.i64 ↑m] 3)).drew = W0 at b0 b1 b2 b3 bsz bkp ⊢
    have hlt := h.lt
    refine wpIn_rangeFunc_ownG rfl (by omega) (gf := 76) rfl trivial (enters_of Try.func76 (by kernel_rfl) rfl)
      (row_stops 3 (by omega) (w.heap.size + 1) (w.heap.size + 1 + 1) (w.heap.size + 1 + 2) g cap sa bs hsa h.fits h.bytes p m hp hm W0 b1 b2 b3 (by omega) (fun j hj => (World.cell?_of_block (bkp.block g hlt (fun h => h))).trans (h.cells j hj)))
      (fun h k => h.trans k) (Stay.putObj (by rintro k (rfl | rfl | rfl | rfl) <;> omega)) (Below.refl _ _) (fun _ => rfl)
      (fun pre W => Boxed W w.heap.size 52 (.int .u64 (orOf bs p pre : Nat)) ∧ Keep (fun k => k = w.heap.size) W0 W)
      (fun _ _ _ => False)
      (OwnFrom.and (Own.from (boxed_own _ _ _) _) (ownFrom_keep (Nat.le_refl _)))
      (fun _ _ _ _ _ hs _ _ => hs)
      ⟨b0, Keep.refl _ _⟩
      (fun x => { tmps := #[.pointer (some ⟨rb, 0, none⟩), .int .i64 (m : Int), undef, undef, .int .u64 0, .pointer (some ⟨w.heap.size, 0, none⟩), .int .i64 (x.val : Int), .int .u64 (bitAt bs (p + x.val) : Nat),
        .pointer (some ⟨rb, 0, none⟩), .pointer (some ⟨rb, 0, none⟩), .pointer (some ⟨rb, 0, none⟩), .slice sa bs.length cap, .pointer (some ⟨rb, 0, none⟩), .pointer (some ⟨rb, 0, none⟩), .pointer (some ⟨rb, 1, none⟩), .int .i64 (p : Int), .int .i64 (m : Int),
        .func (.func 76) #[] #[.pointer (some ⟨w.heap.size + 1 + 2, 0, none⟩), .pointer (some ⟨w.heap.size + 1 + 1, 0, none⟩), .pointer (some ⟨w.heap.size + 1, 0, none⟩)],
        .int .i64 (x.val : Int), .int .u64 (bitAt bs (p + x.val) : Nat), undef, undef, undef, undef, undef, undef, undef, undef, undef, undef, undef, undef, undef, undef], defers := [] }) ?assign ?body ?done ?stop
    case assign =>
      intro l x W K hK
      gi_wp2
      exact hK
    case body =>
      rintro l pre ⟨j, hj⟩ W ⟨hX, hKp⟩ _
      dsimp only
      have hcx := hX.cell
      have hfx := hX.frozen
      have hor := or_snoc bs p pre ⟨j, hj⟩
      dsimp only at hor
      gi_wp2
      gi_region_with_o (fail)
      all_goals gi_wp2
      all_goals
        refine ⟨((KeepsOthers.setCell _ _ _).trans (KeepsOthers.drew _)).from _, ?_, hX.set _, (hKp.setCell (p := ⟨w.heap.size, 0, none⟩) (fun _ => rfl) _).drew⟩
        rintro k hk
        exact Below.heap_setCell _ _ _ _ (by have hne := IsR.ne h; rcases hk with rfl | rfl | rfl | rfl <;> (dsimp only; omega))
    case done =>
      rintro D ys W hD rfl ⟨hX, hKp⟩ hK
      have hrb : rb < w.heap.size := obj_lt ho
      have hr : W.heap[rb]? = _ := hKp.obj (bkp.obj ho (fun h => h)) (by omega)
      have hc1 : W.cell? ⟨rb, 1, none⟩ = some (.int .i64 (p : Int)) := cell_of hr 1
      have hf1 := frozen_of hr 1
      have hcx := hX.cell
      have hfits := h.fits
      clear hz1 hz2
      gi_wp2
      have hK' := (KeepsOthers.setCell W ⟨rb, 1, none⟩ (.int .i64 ((p : Int) + (m : Int)))).same D _ hK rfl
      refine ⟨by simp, .inl ⟨_, _, rfl, run_takeDeferred hK', ?_⟩⟩
      have hkeep : Keep (fun k => k = rb) w ((W.setCell ⟨rb, 1, none⟩ (.int .i64 ((p : Int) + (m : Int)))).putObj D (.deferred none)) :=
        Keep.putObj (Keep.setCell (S := fun k => k = rb) (p := ⟨rb, 1, none⟩) ((bkp.mono (fun _ _ h => h.elim)).trans hKp (fun i hi e => by omega)) (fun _ => rfl) _) D _ (fun hd => by omega)
      refine ⟨_, results_tmp rfl _ _ _, by rw [orOf_upto bs p m (by omega)]; rfl, ?_, hkeep⟩
      refine ⟨Nat.lt_of_lt_of_le h.lt hkeep.size, ⟨sa, cap, hsa, ?_⟩, fun k hk => ?_, h.fits, h.bytes, hp⟩
      · refine (World.putObj_heap_other (by omega)).trans ((set_obj hr 1 _).trans ?_)
        simp
      · have hne : bs ≠ [] := by rintro rfl; simp at hk
        exact (World.cell?_of_block (hkeep.block g h.lt (h.ne hne))).trans (h.cells k hk)
    case stop =>
      rintro D c pre W _ _ h _
      exact h.elim

end Go.Proofs.Ytoffnhbopjaocaa
