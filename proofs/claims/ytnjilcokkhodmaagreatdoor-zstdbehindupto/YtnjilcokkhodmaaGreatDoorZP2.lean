/-
  What a call may have turned: 'Keep S w w'': every block of w but those of S lies as it lay. Small facts on blocks and cells that are told whole.
  The two iterators of package bits, and the calls that make them.
  The reader of package bits: what each of its calls does.
  Bits and Align of a reader, and of none.
  slices.Clone at bytes, and bits.New.
  Bits in bytes, as numbers: no program is named here.
  The writer of package bits: what each of its calls does.
  How many bits a number has, and in how many a count is told: math/bits.Len, isLog, share, valueBits.
-/
import Derived.RangeFuncBox
import Derived.Deep.AppendLies
import Derived.RangeFuncNested
import Derived.RangeFuncBound
import Derived.RangeFuncCalls
import Derived.RangeFuncLeaves
import Derived.Shelf.Abstract
import Derived.Shelf.RegionOpen
import Derived.WalkKit
import Derived.OwnWalkIn
import Derived.TacticsInMore
import Derived.LoopNIn
import Derived.LoopIn
import Derived.WalkSmall
import Derived.Test.YtnjilcokkhodmaaGreatDoorProg
import Derived.BigQuiet
import Derived.Deep.QuietTactic
import Derived.WalkLawsBesides
import Derived.BigRegion
namespace Go.Proofs.YtnjilcokkhodmaaGreatDoor
open Go.RowKit

/-- Every block of w that is none of S lies in w' as it lay. -/
structure Keep (S : Nat → Prop) (w w' : World) : Prop where
 os : w'.os = w.os
 tape : w'.tape = w.tape
 output : w'.output = w.output
 size : w.heap.size ≤ w'.heap.size
 block : ∀ k, k < w.heap.size → ¬ S k → w'.heap[k]? = w.heap[k]?

def noBlock (_ : Nat) : Prop := False

theorem Keep.refl (S : Nat → Prop) (w : World) : Keep S w w := ⟨rfl, rfl, rfl, Nat.le_refl _, fun _ _ _ => rfl⟩
theorem Keep.mono {S T : Nat → Prop} {w w' : World} (h : Keep S w w') (hst : ∀ k, k < w.heap.size → S k → T k) : Keep T w w' :=
 ⟨h.os, h.tape, h.output, h.size, fun k hk ht => h.block k hk (fun hs => ht (hst k hk hs))⟩
theorem Keep.trans {S T : Nat → Prop} {a b c : World} (h : Keep S a b) (k : Keep T b c) (hst : ∀ i, i < a.heap.size → T i → S i) : Keep S a c :=
 ⟨k.os.trans h.os, k.tape.trans h.tape, k.output.trans h.output, Nat.le_trans h.size k.size, fun i hi hs => (k.block i (Nat.lt_of_lt_of_le hi h.size) (fun ht => hs (hst i hi ht))).trans (h.block i hi hs)⟩
theorem Keep.trans' {S : Nat → Prop} {a b c : World} (h : Keep S a b) (k : Keep S b c) : Keep S a c := h.trans k (fun _ _ h => h)
theorem Keep.drew {S : Nat → Prop} {a w : World} (h : Keep S a w) : Keep S a w.drew := ⟨h.os, h.tape, h.output, h.size, h.block⟩
theorem Keep.alloc {S : Nat → Prop} {a w : World} (h : Keep S a w) (o : Obj) : Keep S a (w.alloc o) :=
 h.trans (T := noBlock) ⟨rfl, rfl, rfl, by simp, fun k hk _ => Below.heap_alloc _ _ _ hk⟩ (fun _ _ h => h.elim)
theorem Keep.setCell {S : Nat → Prop} {a w : World} (h : Keep S a w) {p : Addr} (hp : p.block < a.heap.size → S p.block) (u : Value) : Keep S a (w.setCell p u) :=
 h.trans (T := fun k => k = p.block) ⟨rfl, rfl, rfl, by simp [World.setCell], fun k _ hk => Below.heap_setCell _ _ _ _ hk⟩ (fun i hi e => by subst e; exact hp hi)
theorem Keep.grown {S : Nat → Prop} {a w w' : World} {row : Option Nat} (h : Keep S a w) (hg : w.grownBy w' row) (hr : ∀ k, row = some k → k < a.heap.size → S k) : Keep S a w' :=
 h.trans (T := fun k => row = some k) ⟨hg.os, hg.tape, hg.output, hg.size, fun k hk hn => hg.block k hk (fun e => hn e.symm)⟩ (fun i hi e => hr i e hi)
theorem Keep.below {S : Nat → Prop} {w w' : World} (h : Keep S w w') {B : Nat} (hB : B ≤ w.heap.size) (hS : ∀ k, k < B → ¬ S k) : Below B w w' :=
 ⟨h.os, h.tape, h.output, h.size, fun k hk => h.block k (by omega) (hS k hk)⟩
theorem Keep.obj {S : Nat → Prop} {w w' : World} (h : Keep S w w') {b : Nat} {o : Obj} (hb : w.heap[b]? = some o) (hS : ¬ S b) : w'.heap[b]? = some o :=
 (h.block b (Array.getElem?_eq_some_iff.1 hb).1 hS).trans hb
theorem Keep.putObj {S : Nat → Prop} {a w : World} (h : Keep S a w) (l : Nat) (o : Obj) (hl : l < a.heap.size → S l) : Keep S a (w.putObj l o) :=
 h.grown (grownBy_putObj' w l o) (fun k e hk => by cases e; exact hl hk)

theorem obj_lt {w : World} {b : Nat} {o : Obj} (h : w.heap[b]? = some o) : b < w.heap.size := (Array.getElem?_eq_some_iff.1 h).1
theorem cell_of {w : World} {b : Nat} {cs : Array Value} {t : TypeId} (h : w.heap[b]? = some (.cells cs t (0, 0))) (i : Nat) : w.cell? ⟨b, i, none⟩ = cs[i]? := by simp [World.cell?, h]
theorem frozen_of {w : World} {b : Nat} {cs : Array Value} {t : TypeId} (h : w.heap[b]? = some (.cells cs t (0, 0))) (i : Nat) : w.frozen? ⟨b, i, none⟩ = false := by simp [World.frozen?, h]
theorem set_obj {w : World} {b : Nat} {cs : Array Value} {t : TypeId} (h : w.heap[b]? = some (.cells cs t (0, 0))) (i : Nat) (v : Value) : (w.setCell ⟨b, i, none⟩ v).heap[b]? = some (.cells (cs.setIfInBounds i v) t (0, 0)) := by
 obtain ⟨hlt, hk⟩ := Array.getElem?_eq_some_iff.1 h
 show (w.heap.modify b _)[b]? = _
 rw [Array.getElem?_eq_getElem (by rw [Array.size_modify]; exact hlt), Array.getElem_modify_self, hk]
 rfl
theorem alloc_far {w : World} {b : Nat} {o : Obj} (h : w.heap[b]? = some o) (o' : Obj) : (w.alloc o').heap[b]? = some o := (Below.heap_alloc _ _ _ (obj_lt h)).trans h

end Go.Proofs.YtnjilcokkhodmaaGreatDoor

namespace Go.Proofs.YtnjilcokkhodmaaGreatDoor
open Go.RowKit Go.Shelf

attribute [local go_sem] Oper.semAt_some

set_option maxHeartbeats 1000000 in
theorem row_in (F : Fence) (n : Nat) (h28 : F.fn 146) (hro : F.round = none) (sa : Option Addr) (len cap : Nat) (at_ k : Int) (w : World) :
  CallsIn F n Tryz.prog 146 #[.slice sa len cap, .int .i64 at_, .int .i64 k] w fun e w' => e = .returned (.func (.func 150) #[] #[.pointer (some ⟨w.heap.size + 2, 0, none⟩), .pointer (some ⟨w.heap.size + 1, 0, none⟩), .pointer (some ⟨w.heap.size, 0, none⟩)]) ∧
   w' = ((w.alloc (.cells #[.slice sa len cap] 22)).alloc (.cells #[.int .i64 at_] 3)).alloc (.cells #[.int .i64 k] 3) := by
 refine callsIn_of_wp Tryz.func146 rfl h28 ?_ hro
 simp only [Tryz.ntmps146, List.size_toArray, List.length_cons, List.length_nil, Nat.reduceAdd, Nat.reduceSub, Array.replicate_succ, Array.replicate_zero, List.push_toArray, List.append_toArray, List.nil_append, List.cons_append]
 gi_wp2
 go_ret
 exact ⟨rfl, rfl⟩

def Stay (S : Nat → Prop) (W W' : World) : Prop := ∀ k, S k → W'.heap[k]? = W.heap[k]?
theorem Stay.trans {S : Nat → Prop} {A B C : World} (h : Stay S A B) (k : Stay S B C) : Stay S A C := fun i hi => (k i hi).trans (h i hi)
theorem Stay.putObj {S : Nat → Prop} {w : World} (hS : ∀ k, S k → k < w.heap.size) (W : World) (l : Nat) (o o' : Obj) (hl : w.heap.size ≤ l) (_ : W.heap[l]? = some o) (_ : o.isCells = false) (_ : o.isWalk = false) : Stay S W (W.putObj l o') :=
 fun k hk => World.putObj_heap_other (by have := hS k hk; omega)

def upto {α : Type} (f : Nat → α) (k : Nat) : List α := (List.range k).map f
theorem upto_succ {α : Type} (f : Nat → α) (k : Nat) : upto f (k + 1) = upto f k ++ [f k] := by simp [upto, List.range_succ]
theorem upto_length {α : Type} (f : Nat → α) (k : Nat) : (upto f k).length = k := by simp [upto]

def bitOf (x : Nat) (k : Nat) : Nat := x / 2 ^ k % 2
theorem bitOf_lt (x k : Nat) : bitOf x k < 2 := Nat.mod_lt _ (by omega)
theorem and_bit_u64 (x k : Nat) (hx : x < 18446744073709551616) : bits .and .u64 ((x : Int) / 2 ^ k) 1 = ((bitOf x k : Nat) : Int) := by
 have e : ((x : Int) / 2 ^ k) = ((x / 2 ^ k : Nat) : Int) := by simp
 rw [e, and_one_u64 _ (Int.natCast_nonneg _) (by have : x / 2 ^ k ≤ x := Nat.div_le_self _ _; omega)]
 unfold bitOf; omega
theorem and_bit_u8 (x k : Nat) (hx : x < 256) : bits .and .u8 ((x : Int) / 2 ^ k) 1 = ((bitOf x k : Nat) : Int) := by
 have e : ((x : Int) / 2 ^ k) = ((x / 2 ^ k : Nat) : Int) := by simp
 have h := u8_and_nat (x / 2 ^ k) 1 (by have : x / 2 ^ k ≤ x := Nat.div_le_self _ _; omega) (by omega)
 rw [Nat.and_one_is_mod] at h
 rw [e]; exact h

theorem wraps_i64 (n : Int) (h₀ : 0 ≤ n) (h₁ : n < 2 ^ 63) : IntKind.i64.wrap n = n := by rw [IntKind.wrap_i64]; omega
theorem and_seven_i64 (x : Nat) (h : x < 9223372036854775808) : bits .and .i64 (x : Int) 7 = ((x % 8 : Nat) : Int) := by
 have := bits_mask .i64 63 (by decide) wraps_i64 3 (by decide) (x : Int) (by omega) (by omega)
 exact this.trans (by omega)

def bitAt (bs : List Nat) (i : Nat) : Nat := bitOf (bs[i / 8]?.getD 0) (i % 8)
theorem bitAt_lt (bs : List Nat) (i : Nat) : bitAt bs i < 2 := bitOf_lt _ _

def fin64 (k : Nat) : Fin 64 := ⟨k % 64, Nat.mod_lt _ (by omega)⟩

set_option maxRecDepth 100000 in
set_option maxHeartbeats 1000000 in
theorem row1_in (F : Fence) (n : Nat) (h30 : F.fn 150) (hro : F.round = none) (hn : 1 ≤ n) (l Bs Ba Bn g cap : Nat) (sa : Option Addr) (bs : List Nat) (hsa : sa = some ⟨g, 0, none⟩ ∨ bs = []) (hlen : bs.length < 140737488355328) (hbs : ∀ j : Nat, bs[j]?.getD 0 < 256) (p m : Nat) (hp : p + m ≤ 8 * bs.length) (hm : m ≤ 56) (J Jx : List (Fin 64) → World → Prop)
  (hY : ∀ pre (b : Fin 64) W, J pre W → pre.length < m → YieldAt F (n - 1) Tryz.prog l #[.int .i64 (b.val : Int), .int .u64 (bitAt bs (p + b.val) : Int)] W fun e W' =>
   (e = .returned (.bool true) ∧ J (pre ++ [b]) W' ∧ Stay (fun k => k = Bs ∨ k = Ba ∨ k = Bn ∨ k = g) W W') ∨ (e = .returned (.bool false) ∧ Jx (pre ++ [b]) W'))
  (W : World) (hBs : W.heap[Bs]? = some (.cells #[.slice sa bs.length cap] 22 (0, 0))) (hBa : W.heap[Ba]? = some (.cells #[.int .i64 (p : Int)] 3 (0, 0))) (hBn : W.heap[Bn]? = some (.cells #[.int .i64 (m : Int)] 3 (0, 0)))
  (hg : ∀ j, j < bs.length → W.cell? ⟨g, j, none⟩ = some (.int .u8 (bs[j]?.getD 0 : Nat))) (h0 : J [] W) :
  CallsIn F n Tryz.prog 150 #[.func (.yield l) #[] #[], .pointer (some ⟨Bn, 0, none⟩), .pointer (some ⟨Ba, 0, none⟩), .pointer (some ⟨Bs, 0, none⟩)] W fun e W' => (∃ v, e = .returned v) ∧
   ((∃ ys, ys = upto fin64 m ∧ J ys W') ∨ (∃ pre, True ∧ Jx pre W')) := by
 have hBn0 := cell_of hBn 0
 refine callsIn_of_wp Tryz.func150 rfl h30 ?_ hro
 simp only [Tryz.ntmps150, List.size_toArray, List.length_cons, List.length_nil, Nat.reduceAdd, Nat.reduceSub, Array.replicate_succ, Array.replicate_zero, List.push_toArray, List.append_toArray, List.nil_append, List.cons_append]
 gi_wp2
 gi_loopw [8] (fun i wr => ∃ k : Nat, k ≤ m ∧ i = .int .i64 k ∧ J (upto fin64 k) wr ∧ Stay (fun k => k = Bs ∨ k = Ba ∨ k = Bn ∨ k = g) W wr)
  (fun i _ => m - (intOf i).toNat)
 case atStart => exact ⟨0, Nat.zero_le _, rfl, h0, fun _ _ => rfl⟩
 case round =>
  obtain ⟨k, hk, rfl, hJs, hnx⟩ := hrel
  have hBs1 : wr.heap[Bs]? = _ := (hnx Bs (.inl rfl)).trans hBs
  have hBa1 : wr.heap[Ba]? = _ := (hnx Ba (.inr (.inl rfl))).trans hBa
  have hcs : wr.cell? ⟨Bs, 0, none⟩ = some (.slice sa bs.length cap) := cell_of hBs1 0
  have hca : wr.cell? ⟨Ba, 0, none⟩ = some (.int .i64 (p : Int)) := cell_of hBa1 0
  by_cases hlt : k < m
  ·obtain ⟨fn, tmps, assign, body, hy, hR⟩ := hY _ (fin64 k) wr hJs (by rw [upto_length]; exact hlt)
   have hk64 : (fin64 k).val = k := Nat.mod_eq_of_lt (by omega)
   rw [hk64] at hy
   have hidx : (p + k) / 8 < bs.length := by omega
   obtain rfl : sa = some ⟨g, 0, none⟩ := by
    rcases hsa with h | h
    ·exact h
    ·rw [h] at hidx; simp at hidx
   have hcg : wr.cell? ⟨g, (p + k) / 8, none⟩ = some (.int .u8 (bs[(p + k) / 8]?.getD 0 : Nat)) := (World.cell?_of_block (hnx g (.inr (.inr (.inr rfl))))).trans (hg _ hidx)
   obtain ⟨c, hc⟩ : ∃ c, bs[(p + k) / 8]?.getD 0 = c := ⟨_, rfl⟩
   obtain ⟨q, hq⟩ : ∃ q, (p + k) % 8 = q := ⟨_, rfl⟩
   have hc256 : c < 256 := by rw [← hc]; exact hbs _
   have hq8 : q < 8 := by omega
   have hba : bitAt bs (p + k) = bitOf c q := by unfold bitAt; rw [hc, hq]
   rw [hc] at hcg
   rw [hba] at hy
   have h7 : bits .and .i64 ((p : Int) + (k : Int)) 7 = (q : Int) := by
    have := and_seven_i64 (p + k) (by omega)
    rw [hq] at this; rw [← this]; simp
   have hb1 := and_bit_u8 c q hc256
   have hb3 := bitOf_lt c q
   clear hk64 hba hc hq hsa
   gi_wp2
   refine hR.mono ?_
   rintro e W3 (⟨rfl, hJ3, hk3⟩ | ⟨rfl, hJx3⟩)
   ·gi_wp2
    go_roundw
    case rel => exact ⟨k + 1, by omega, by simp, by rw [upto_succ]; exact hJ3, hnx.trans hk3⟩
    case measure => simp [intOf]; omega
   ·gi_wp2
    refine bodyPost_ret (results_none rfl _ _ _) rfl ?_
    exact ⟨⟨_, rfl⟩, .inr ⟨_, trivial, hJx3⟩⟩
  ·obtain rfl : k = m := by omega
   gi_wp2
   go_end0
   exact ⟨⟨_, rfl⟩, .inl ⟨_, rfl, hJs⟩⟩

end Go.Proofs.YtnjilcokkhodmaaGreatDoor

namespace Go.Proofs.YtnjilcokkhodmaaGreatDoor
open Go.RowKit Go.Shelf

attribute [local go_sem] Oper.semAt_some

def numAt (bs : List Nat) (p : Nat) : Nat → Nat
 | 0 => 0
 | m + 1 => numAt bs p m + bitAt bs (p + m) * 2 ^ m
theorem numAt_lt (bs : List Nat) (p m : Nat) : numAt bs p m < 2 ^ m := by
  induction m with
  | zero => simp [numAt]
  | succ m ih =>
    have := bitAt_lt bs (p + m)
    simp only [numAt, Nat.pow_succ]
    have h2 : bitAt bs (p + m) * 2 ^ m ≤ 1 * 2 ^ m := Nat.mul_le_mul_right _ (by omega)
    omega

def orOf (bs : List Nat) (p : Nat) (l : List (Fin 64)) : Nat := l.foldl (fun a j => a ||| bitAt bs (p + j.val) * 2 ^ j.val) 0
theorem orOf_snoc (bs : List Nat) (p : Nat) (l : List (Fin 64)) (j : Fin 64) : orOf bs p (l ++ [j]) = orOf bs p l ||| bitAt bs (p + j.val) * 2 ^ j.val := by simp [orOf]
theorem bit_lt (bs : List Nat) (p : Nat) (j : Fin 64) : bitAt bs (p + j.val) * 2 ^ j.val < 18446744073709551616 := by
 have h1 : bitAt bs (p + j.val) * 2 ^ j.val ≤ 1 * 2 ^ j.val := Nat.mul_le_mul_right _ (by have := bitAt_lt bs (p + j.val); omega)
 have h2 : 2 ^ j.val ≤ 2 ^ 63 := Nat.pow_le_pow_right (by omega) (by have := j.isLt; omega)
 omega
theorem orOf_lt (bs : List Nat) (p : Nat) (l : List (Fin 64)) : orOf bs p l < 18446744073709551616 := by
 have key : ∀ (l : List (Fin 64)) (a : Nat), a < 2 ^ 64 → l.foldl (fun a j => a ||| bitAt bs (p + j.val) * 2 ^ j.val) a < 2 ^ 64 := by
  intro l
  induction l with
  | nil => intro a h; exact h
  | cons j l ih => intro a h; exact ih _ (Nat.or_lt_two_pow h (bit_lt bs p j))
 exact key l 0 (by decide)
theorem orOf_upto (bs : List Nat) (p m : Nat) (hm : m ≤ 64) : orOf bs p (upto fin64 m) = numAt bs p m := by
  induction m with
  | zero => rfl
  | succ m ih =>
    rw [upto_succ, orOf_snoc, ih (by omega)]
    have e : (fin64 m).val = m := Nat.mod_eq_of_lt (by omega)
    rw [e, Nat.or_comm, nat_join m _ _ (Nat.mul_mod_left _ _) (numAt_lt bs p m), numAt]
    omega

theorem or_snoc (bs : List Nat) (p : Nat) (pre : List (Fin 64)) (j : Fin 64) : bits .or .u64 (orOf bs p pre : Nat) (IntKind.u64.wrap ((bitAt bs (p + j.val) : Nat) * 2 ^ j.val)) = ((orOf bs p (pre ++ [j]) : Nat) : Int) := by
 have h1 : ((bitAt bs (p + j.val) : Nat) : Int) * 2 ^ j.val = ((bitAt bs (p + j.val) * 2 ^ j.val : Nat) : Int) := by simp
 have h2 := bit_lt bs p j
 rw [h1, IntKind.wrap_u64, orOf_snoc, ← u64_or_nat _ _ (orOf_lt bs p pre) h2]
 congr 1
 omega

/-- Block rb is a reader at bit p of the bytes bs, which lie in block g. -/
structure IsR (W : World) (rb g : Nat) (bs : List Nat) (p : Nat) : Prop where
 lt : g < W.heap.size
 obj : ∃ sa cap, (sa = some (⟨g, 0, none⟩ : Addr) ∨ bs = []) ∧ W.heap[rb]? = some (.cells #[.slice sa bs.length cap, .int .i64 (p : Int)] 241 (0, 0))
 cells : ∀ j, j < bs.length → W.cell? ⟨g, j, none⟩ = some (.int .u8 ((bs[j]?.getD 0 : Nat) : Int))
 fits : bs.length < 140737488355328
 bytes : ∀ j : Nat, bs[j]?.getD 0 < 256
 in_ : p ≤ 8 * bs.length

theorem IsR.ne {W : World} {rb g : Nat} {bs : List Nat} {p : Nat} (h : IsR W rb g bs p) (hb : bs ≠ []) : g ≠ rb := by
 rintro rfl
 obtain ⟨sa, cap, _, ho⟩ := h.obj
 have h0 := h.cells 0 (List.length_pos_iff.2 hb)
 rw [cell_of ho 0] at h0
 simp at h0
theorem IsR.keep {W W' : World} {S : Nat → Prop} {rb g : Nat} {bs : List Nat} {p : Nat} (h : IsR W rb g bs p) (hk : Keep S W W') (h1 : ¬ S rb) (h2 : bs ≠ [] → ¬ S g) : IsR W' rb g bs p := by
 obtain ⟨sa, cap, hsa, ho⟩ := h.obj
 refine ⟨Nat.lt_of_lt_of_le h.lt hk.size, ⟨sa, cap, hsa, hk.obj ho h1⟩, fun j hj => ?_, h.fits, h.bytes, h.in_⟩
 have hne : bs ≠ [] := by rintro rfl; simp at hj
 exact (World.cell?_of_block (hk.block g h.lt (h2 hne))).trans (h.cells j hj)

set_option maxHeartbeats 400000 in
theorem canCount_any (n : Int) (w : World) : Calls Tryz.prog 134 #[.int .i64 n] w fun e w' => e = .returned (.bool (decide (0 ≤ n ∧ n ≤ 56))) ∧ w' = w := by
 by_cases h1 : 0 ≤ n
 ·by_cases h2 : n ≤ 56
  ·go_enter Tryz.func134, Tryz.ntmps134
   go_wp2
   go_ret
   exact ⟨by simp [h1, h2], rfl⟩
  ·go_enter Tryz.func134, Tryz.ntmps134
   go_wp2
   go_ret
   exact ⟨by simp [h2], rfl⟩
 ·go_enter Tryz.func134, Tryz.ntmps134
  go_wp2
  go_ret
  exact ⟨by simp; omega, rfl⟩

theorem keep_drewN (w : World) (n : Nat) : Keep noBlock w (w.drewN n) := ⟨rfl, rfl, rfl, Nat.le_refl _, fun _ _ _ => rfl⟩

set_option maxHeartbeats 400000 in
theorem left_any (rb g : Nat) (bs : List Nat) (p : Nat) (w : World) (h : IsR w rb g bs p) :
  Calls Tryz.prog 116 #[.pointer (some ⟨rb, 0, none⟩)] w fun e w' => e = .returned (.int .i64 ((bs.length : Int) * 8 - p)) ∧ ∃ n, w' = w.drewN n := by
 obtain ⟨sa, cap, hsa, ho⟩ := h.obj
 have hc0 : w.cell? ⟨rb, 0, none⟩ = some (.slice sa bs.length cap) := cell_of ho 0
 have hc1 : w.cell? ⟨rb, 1, none⟩ = some (.int .i64 (p : Int)) := cell_of ho 1
 have hf := h.fits
 have hi := h.in_
 clear h ho hsa
 go_enter Tryz.func116, Tryz.ntmps116
 go_wp2
 go_quiet (fail)
 go_wp2
 go_ret
 exact ⟨rfl, _, rfl⟩

def calm (Q : Exit → Act → World → Prop) : Exit → Act → World → Prop
 | .panic _, _, _ => False
 | e, a, w => Q e a w
theorem wpIn_calm {F : Fence} {n : Nat} {P : Program} {c : Code} {Q : Exit → Act → World → Prop} {a : Act} {w : World} (h : c.wpIn F n P (calm Q) a w) : c.wpIn F n P Q a w :=
 wpIn_mono h (fun e a w h => by cases e <;> first | exact h | exact h.elim)

theorem boxes4 (w : World) (o0 o1 o2 o3 : Obj) :
  ((((w.alloc o0).alloc o1).alloc o2).alloc o3).drew.heap[w.heap.size]? = some o0 ∧ ((((w.alloc o0).alloc o1).alloc o2).alloc o3).drew.heap[w.heap.size + 1]? = some o1 ∧
  ((((w.alloc o0).alloc o1).alloc o2).alloc o3).drew.heap[w.heap.size + 1 + 1]? = some o2 ∧ ((((w.alloc o0).alloc o1).alloc o2).alloc o3).drew.heap[w.heap.size + 1 + 2]? = some o3 ∧
  ((((w.alloc o0).alloc o1).alloc o2).alloc o3).drew.heap.size = w.heap.size + 4 ∧ Keep noBlock w ((((w.alloc o0).alloc o1).alloc o2).alloc o3).drew := by
 have e0 := World.alloc_heap_new w o0
 have e1 := World.alloc_heap_new (w.alloc o0) o1
 have e2 := World.alloc_heap_new ((w.alloc o0).alloc o1) o2
 have e3 := World.alloc_heap_new (((w.alloc o0).alloc o1).alloc o2) o3
 simp only [World.size_alloc] at e1 e2 e3
 refine ⟨alloc_far (alloc_far (alloc_far e0 _) _) _, alloc_far (alloc_far e1 _) _, alloc_far e2 _, e3, ?_, ((((Keep.refl _ w).alloc _).alloc _).alloc _).alloc _ |>.drew⟩
 show ((((w.alloc o0).alloc o1).alloc o2).alloc o3).heap.size = _
 simp only [World.size_alloc]

theorem ownFrom_keep {β : Type} {S : Nat → Prop} {W0 : World} {B : Nat} (hB : W0.heap.size ≤ B) : OwnFrom B (fun (_ : β) W => Keep S W0 W) :=
 fun _ _ _ _ hs hg hr => hs.grown hg (fun k e hk => by have := (hr k e).1; omega)

theorem row_stops (n : Nat) (hn : 1 ≤ n) (Bs Ba Bn g cap : Nat) (sa : Option Addr) (bs : List Nat) (hsa : sa = some ⟨g, 0, none⟩ ∨ bs = []) (hlen : bs.length < 140737488355328) (hbs : ∀ j : Nat, bs[j]?.getD 0 < 256) (p m : Nat) (hp : p + m ≤ 8 * bs.length) (hm : m ≤ 56)
  (W : World) (hBs : W.heap[Bs]? = some (.cells #[.slice sa bs.length cap] 22 (0, 0))) (hBa : W.heap[Ba]? = some (.cells #[.int .i64 (p : Int)] 3 (0, 0))) (hBn : W.heap[Bn]? = some (.cells #[.int .i64 (m : Int)] 3 (0, 0)))
  (hgl : g < W.heap.size) (hg : ∀ j, j < bs.length → W.cell? ⟨g, j, none⟩ = some (.int .u8 (bs[j]?.getD 0 : Nat))) :
  SeqStopsK Fence.wide n Tryz.prog 150 #[.pointer (some ⟨Bn, 0, none⟩), .pointer (some ⟨Ba, 0, none⟩), .pointer (some ⟨Bs, 0, none⟩)] (fun b : Fin 64 => #[Value.int .i64 (b.val : Int), Value.int .u64 (bitAt bs (p + b.val) : Nat)])
   (Stay (fun k => k = Bs ∨ k = Ba ∨ k = Bn ∨ k = g)) (fun ys => ys = upto fin64 m) (fun _ => True) m W := fun l J Jx W1 hW _ _ hY h0 => by
 refine row1_in Fence.wide n trivial rfl hn l Bs Ba Bn g cap sa bs hsa (by omega) hbs p m hp hm J Jx hY W1 ((hW.block _ (obj_lt hBs)).trans hBs) ((hW.block _ (obj_lt hBa)).trans hBa) ((hW.block _ (obj_lt hBn)).trans hBn) (fun j hj => (hW.cell (p := ⟨g, j, none⟩) hgl).trans (hg j hj)) h0

set_option maxRecDepth 100000 in
set_option maxHeartbeats 1000000 in
theorem take_any (rb g : Nat) (bs : List Nat) (p m : Nat) (w : World) (h : IsR w rb g bs p) (hm : m ≤ 56) (hp : p + m ≤ 8 * bs.length) :
  Calls Tryz.prog 135 #[.pointer (some ⟨rb, 0, none⟩), .int .i64 (m : Int)] w fun e w' => e = .returned (.int .u64 (numAt bs p m : Nat)) ∧ IsR w' rb g bs (p + m) ∧ Keep (fun k => k = rb) w w' := by
 obtain ⟨sa, cap, hsa, ho⟩ := h.obj
 have hc0 : w.cell? ⟨rb, 0, none⟩ = some (.slice sa bs.length cap) := cell_of ho 0
 have hc1 : w.cell? ⟨rb, 1, none⟩ = some (.int .i64 (p : Int)) := cell_of ho 1
 refine (callsIn_wide (n := 4)).1 ?_
 refine callsIn_of_wp_marks Tryz.func135 rfl trivial ?_ rfl
 simp only [Tryz.ntmps135, List.size_toArray, List.length_cons, List.length_nil, Nat.reduceAdd, Nat.reduceSub, Array.replicate_succ, Array.replicate_zero, List.push_toArray, List.append_toArray, List.nil_append, List.cons_append]
 have hmx : Tryz.prog.follows .mixedOrders = true := by kernel_rfl
 have hz1 := cell_of (alloc_far ho (.cells #[.int .u64 0] 33)) 0
 have hz2 := cell_of (alloc_far ho (.cells #[.int .u64 0] 33)) 1
 simp at hz1 hz2
 gi_wp2_with fail
 refine wpIn_calm ?_
 gi_region_with_o (refine ⟨trivial, ?_⟩; gi_at_call 146; refine (row_in Fence.wide _ trivial rfl _ _ _ _ _ _).mono ?_; rintro e w' ⟨rfl, rfl⟩)
 all_goals
  simp only [calm]
  gi_wp2
  obtain ⟨b0, b1, b2, b3, bsz, bkp⟩ := boxes4 w (Obj.cells #[Value.int IntKind.u64 0] 33) (Obj.cells #[Value.slice sa bs.length cap] 22) (Obj.cells #[Value.int IntKind.i64 ↑p] 3) (Obj.cells #[Value.int IntKind.i64 ↑m] 3)
  generalize ((((w.alloc (Obj.cells #[Value.int IntKind.u64 0] 33)).alloc (Obj.cells #[Value.slice sa bs.length cap] 22)).alloc (Obj.cells #[Value.int IntKind.i64 ↑p] 3)).alloc (Obj.cells #[Value.int IntKind.i64 ↑m] 3)).drew = W0 at b0 b1 b2 b3 bsz bkp ⊢
  have hlt := h.lt
  refine wpIn_rangeFunc_ownG rfl (by omega) (gf := 150) rfl trivial (enters_of Tryz.func150 (by kernel_rfl) rfl)
   (row_stops 3 (by omega) (w.heap.size + 1) (w.heap.size + 1 + 1) (w.heap.size + 1 + 2) g cap sa bs hsa h.fits h.bytes p m hp hm W0 b1 b2 b3 (by omega) (fun j hj => (World.cell?_of_block (bkp.block g hlt (fun h => h))).trans (h.cells j hj)))
   (fun h k => h.trans k) (Stay.putObj (by rintro k (rfl | rfl | rfl | rfl) <;> omega)) (Below.refl _ _) (fun _ => rfl)
   (fun pre W => Boxed W w.heap.size 33 (.int .u64 (orOf bs p pre : Nat)) ∧ Keep (fun k => k = w.heap.size) W0 W)
   (fun _ _ _ => False)
   (OwnFrom.and (Own.from (boxed_own _ _ _) _) (ownFrom_keep (Nat.le_refl _)))
   (fun _ _ _ _ _ hs _ _ => hs)
   ⟨b0, Keep.refl _ _⟩
   (fun x => { tmps := #[.pointer (some ⟨rb, 0, none⟩), .int .i64 (m : Int), undef, undef, .int .u64 0, .pointer (some ⟨w.heap.size, 0, none⟩), .int .i64 (x.val : Int), .int .u64 (bitAt bs (p + x.val) : Nat),
    .pointer (some ⟨rb, 0, none⟩), .pointer (some ⟨rb, 0, none⟩), .pointer (some ⟨rb, 0, none⟩), .slice sa bs.length cap, .pointer (some ⟨rb, 0, none⟩), .pointer (some ⟨rb, 0, none⟩), .pointer (some ⟨rb, 1, none⟩), .int .i64 (p : Int), .int .i64 (m : Int),
    .func (.func 150) #[] #[.pointer (some ⟨w.heap.size + 1 + 2, 0, none⟩), .pointer (some ⟨w.heap.size + 1 + 1, 0, none⟩), .pointer (some ⟨w.heap.size + 1, 0, none⟩)],
    .int .i64 (x.val : Int), .int .u64 (bitAt bs (p + x.val) : Nat), undef, undef, undef, undef, undef, undef, undef, undef, undef, undef, undef, undef, undef, undef], defers := [] }) ?assign ?body ?done ?stop
  case assign =>
   intro l x W K hK
   gi_wp2
   exact hK
  case body =>
   rintro l pre ⟨j, hj⟩ W ⟨hX, hKp⟩ _
   dsimp only
   have hcx := hX.cell
   have hfx := hX.frozen
   have hor := or_snoc bs p pre ⟨j, hj⟩
   dsimp only at hor
   gi_wp2
   gi_region_with_o (fail)
   all_goals gi_wp2
   all_goals
    refine ⟨((KeepsOthers.setCell _ _ _).trans (KeepsOthers.drew _)).from _, ?_, hX.set _, (hKp.setCell (p := ⟨w.heap.size, 0, none⟩) (fun _ => rfl) _).drew⟩
    rintro k hk
    exact Below.heap_setCell _ _ _ _ (by have hne := IsR.ne h; rcases hk with rfl | rfl | rfl | rfl <;> (dsimp only; omega))
  case done =>
   rintro D ys W hD rfl ⟨hX, hKp⟩ hK
   have hrb : rb < w.heap.size := obj_lt ho
   have hr : W.heap[rb]? = _ := hKp.obj (bkp.obj ho (fun h => h)) (by omega)
   have hc1 : W.cell? ⟨rb, 1, none⟩ = some (.int .i64 (p : Int)) := cell_of hr 1
   have hf1 := frozen_of hr 1
   have hcx := hX.cell
   have hfits := h.fits
   clear hz1 hz2
   gi_wp2
   have hK' := (KeepsOthers.setCell W ⟨rb, 1, none⟩ (.int .i64 ((p : Int) + (m : Int)))).same D _ hK rfl
   refine ⟨by simp, .inl ⟨_, _, rfl, run_takeDeferred hK', ?_⟩⟩
   have hkeep : Keep (fun k => k = rb) w ((W.setCell ⟨rb, 1, none⟩ (.int .i64 ((p : Int) + (m : Int)))).putObj D (.deferred none)) :=
    Keep.putObj (Keep.setCell (S := fun k => k = rb) (p := ⟨rb, 1, none⟩) ((bkp.mono (fun _ _ h => h.elim)).trans hKp (fun i hi e => by omega)) (fun _ => rfl) _) D _ (fun hd => by omega)
   refine ⟨_, results_tmp rfl _ _ _, by rw [orOf_upto bs p m (by omega)]; rfl, ?_, hkeep⟩
   refine ⟨Nat.lt_of_lt_of_le h.lt hkeep.size, ⟨sa, cap, hsa, ?_⟩, fun k hk => ?_, h.fits, h.bytes, hp⟩
   ·refine (World.putObj_heap_other (by omega)).trans ((set_obj hr 1 _).trans ?_)
    simp
   ·have hne : bs ≠ [] := by rintro rfl; simp at hk
    exact (World.cell?_of_block (hkeep.block g h.lt (h.ne hne))).trans (h.cells k hk)
  case stop =>
   rintro D c pre W _ _ h _
   exact h.elim

end Go.Proofs.YtnjilcokkhodmaaGreatDoor

namespace Go.Proofs.YtnjilcokkhodmaaGreatDoor
open Go.RowKit Go.Shelf

theorem IsR.drewN {W : World} {rb g : Nat} {bs : List Nat} {p : Nat} (h : IsR W rb g bs p) (n : Nat) : IsR (W.drewN n) rb g bs p := ⟨h.lt, h.obj, h.cells, h.fits, h.bytes, h.in_⟩

set_option maxHeartbeats 400000 in
theorem bits_few (rb g : Nat) (bs : List Nat) (p m : Nat) (hm : m ≤ 56) (w : World) (h : IsR w rb g bs p) (hp : 8 * bs.length < p + m) :
  Calls Tryz.prog 114 #[.pointer (some ⟨rb, 0, none⟩), .int .i64 (m : Int)] w fun e w' => e = .returned (.tuple #[.int .u64 0, .int .i64 10]) ∧ ∃ n, w' = w.drewN n := by
 have hd : decide (0 ≤ (m : Int) ∧ (m : Int) ≤ 56) = true := decide_eq_true ⟨by omega, by omega⟩
 have hlt : (bs.length : Int) * 8 - (p : Int) < (m : Int) := by omega
 go_enter Tryz.func114, Tryz.ntmps114
 go_wp2_with (first | (go_at_call 134; refine (canCount_any _ _).mono ?_; rw [hd]; rintro e w' ⟨rfl, rfl⟩) | (go_at_call 116; refine (left_any rb g bs p _ h).mono ?_; rintro e w' ⟨rfl, nq, rfl⟩))
 go_ret2
 exact ⟨rfl, _, rfl⟩

set_option maxHeartbeats 400000 in
theorem bits_take (rb g : Nat) (bs : List Nat) (p m : Nat) (hm : m ≤ 56) (w : World) (h : IsR w rb g bs p) (hp : p + m ≤ 8 * bs.length) :
  Calls Tryz.prog 114 #[.pointer (some ⟨rb, 0, none⟩), .int .i64 (m : Int)] w fun e w' => e = .returned (.tuple #[.int .u64 (numAt bs p m : Nat), .int .i64 0]) ∧ IsR w' rb g bs (p + m) ∧ Keep (fun k => k = rb) w w' := by
 have hd : decide (0 ≤ (m : Int) ∧ (m : Int) ≤ 56) = true := decide_eq_true ⟨by omega, by omega⟩
 have hlt : ¬ (bs.length : Int) * 8 - (p : Int) < (m : Int) := by omega
 go_enter Tryz.func114, Tryz.ntmps114
 go_wp2_with (first | (go_at_call 134; refine (canCount_any _ _).mono ?_; rw [hd]; rintro e w' ⟨rfl, rfl⟩) | (go_at_call 116; refine (left_any rb g bs p _ h).mono ?_; rintro e w' ⟨rfl, nq, rfl⟩) | (go_at_call 135; refine (take_any rb g bs p m _ (h.drewN _) hm hp).mono ?_; rintro e w' ⟨rfl, h1, h2⟩))
 go_ret2
 exact ⟨rfl, h1, ⟨h2.os, h2.tape, h2.output, h2.size, h2.block⟩⟩

end Go.Proofs.YtnjilcokkhodmaaGreatDoor

namespace Go.Proofs.YtnjilcokkhodmaaGreatDoor
open Go.RowKit Go.Shelf

theorem info5 : (Tryz.prog.info? 5).map (fun i => (i.zero, i.size, i.bytes)) = some (some (.int .u8 0), 1, 1) := by kernel_rfl

def u8s (bs : List Nat) : List Value := bs.map (fun b => Value.int .u8 ((b : Nat) : Int))
theorem u8s_length (bs : List Nat) : (u8s bs).length = bs.length := by simp [u8s]
theorem u8s_one (bs : List Nat) : ∀ u ∈ u8s bs, u.oneCell' = true := by
 intro u hu
 simp only [u8s, List.mem_map] at hu
 obtain ⟨b, _, rfl⟩ := hu
 rfl
theorem u8s_at (bs : List Nat) (j : Nat) (hj : j < bs.length) : (u8s bs)[j]? = some (.int .u8 ((bs[j]?.getD 0 : Nat) : Int)) := by
 simp [u8s, hj]

theorem add0 (g j : Nat) : (⟨g, 0, none⟩ : Addr).add j = ⟨g, j, none⟩ := by unfold Addr.add; split <;> simp_all

def Src (w : World) (v : Value) (bs : List Nat) : Prop :=
 (v = .slice none 0 0 ∧ bs = []) ∨ ∃ a cap, v = .slice (some a) bs.length cap ∧ a.block < w.heap.size ∧ ∀ j u, (u8s bs)[j]? = some u → w.cell? (a.add j) = some u

theorem owns_form {w : World} {base e size n : Nat} {v : Value} {xs : List Value} (h : w.ownsRow base e size v n xs) : ∃ sa cap, v = .slice sa n cap := by
 rcases h.2 with ⟨rfl, rfl⟩ | ⟨g, cap, cur, rfl, _⟩
 ·exact ⟨_, _, rfl⟩
 ·exact ⟨_, _, rfl⟩

set_option maxHeartbeats 400000 in
theorem clone_any (v : Value) (bs : List Nat) (hlen : bs.length ≤ 140737488355327) (w : World) (h : Src w v bs) :
  Calls Tryz.prog 59 #[v] w fun e w' => ∃ v', e = .returned v' ∧ w'.ownsRow w.heap.size 5 1 v' bs.length (u8s bs) ∧ Keep noBlock w w' ∧ (v' = .slice none 0 0 ↔ v = .slice none 0 0) := by
 obtain ⟨i0, hi, hz0, hz1, hz2⟩ := info_parts info5
 have hmax : bs.length ≤ maxLen := by unfold maxLen; omega
 have heq := fun (w : World) (a : Option Addr) (n c n' c' : Nat) => Lib.run_eql_slice_nil (P := Tryz.prog) w 22 5 a n c n' c' Tryz.underlying22
 rcases h with ⟨rfl, rfl⟩ | ⟨a, cap, rfl, ha, hc⟩
 ·go_enter Tryz.func59, Tryz.ntmps59
  go_wp2
  go_ret
  exact ⟨_, rfl, World.ownsRow_nil _ _ _ _, Keep.refl _ _, by simp⟩
 ·have hown := World.ownsRow_made (e := 5) (size := 1) (base := w.heap.size) w #[] 0 (Nat.le_refl _) (Nat.zero_le _) rfl
  have hc' : ∀ j u, (u8s bs)[j]? = some u → (w.alloc (.cells #[] 5)).cell? (a.add j) = some u := fun j u hu =>
   (World.cell?_of_block (Below.heap_alloc _ _ _ (by unfold Addr.add; split <;> exact ha))).trans (hc j u hu)
  go_enter Tryz.func59, Tryz.ntmps59
  go_wp2_with (at_builtin; refine wpList_append_own _ rfl _ _ 22 rfl w.heap.size 5 i0 (.int .u8 0) 1 1 Tryz.underlying22 hi hz0 hz1 hz2 rfl (by decide) (.slice (some ⟨w.heap.size, 0, none⟩) 0 0) 0 [] rfl hown a bs.length cap (u8s bs) rfl (by simp [u8s_length]) hc' (u8s_one bs) (by omega) (by omega) (by simp) ?_; intro v' w1 hown' hgrow hnil)
  go_ret
  refine ⟨v', rfl, by simpa using hown', ((Keep.refl _ w).alloc _).grown hgrow (fun k e hk => ?_), by rw [hnil]; simp⟩
  have e' : w.heap.size = k := by simpa [Value.ownBlock] using e
  omega

set_option maxHeartbeats 400000 in
theorem new_any (v : Value) (bs : List Nat) (hlen : bs.length ≤ 140737488355327) (hbs : ∀ j : Nat, bs[j]?.getD 0 < 256) (w : World) (h : Src w v bs) :
  Calls Tryz.prog 113 #[v] w fun e w' => ∃ rb g, e = .returned (.pointer (some ⟨rb, 0, none⟩)) ∧ w.heap.size ≤ rb ∧ w.heap.size ≤ g ∧ IsR w' rb g bs 0 ∧ Keep noBlock w w' := by
 go_enter Tryz.func113, Tryz.ntmps113
 go_wp2_with (go_at_call 59; refine (clone_any v bs hlen _ h).mono ?_; rintro e w1 ⟨v', rfl, hown, hk, hn⟩; obtain ⟨sa, cap, rfl⟩ := owns_form hown)
 go_ret
 have hk2 : Keep noBlock w (w1.alloc (.cells #[.slice sa bs.length cap, .int .i64 0] 241)) := hk.alloc _
 have hsz := hk.size
 have hob := World.alloc_heap_new w1 (.cells #[.slice sa bs.length cap, .int .i64 0] 241)
 rcases (hown.alloc (.cells #[.slice sa bs.length cap, .int .i64 0] 241)).2 with ⟨e1, h0⟩ | ⟨g, cap', cur, e1, hb, hg, hr⟩
 ·have hnil : bs = [] := List.length_eq_zero_iff.1 h0
  exact ⟨w1.heap.size, w1.heap.size, rfl, hsz, hsz, ⟨obj_lt hob, ⟨sa, cap, .inr hnil, hob⟩, fun j hj => by rw [h0] at hj; omega, by omega, hbs, Nat.zero_le _⟩, hk2⟩
 ·simp only [Value.slice.injEq] at e1
  obtain ⟨rfl, _, rfl⟩ := e1
  refine ⟨w1.heap.size, g, rfl, hsz, hb, ⟨obj_lt hg, ⟨_, cap, .inl rfl, hob⟩, fun j hj => ?_, by omega, hbs, Nat.zero_le _⟩, hk2⟩
  have := (hown.alloc (.cells #[.slice (some ⟨g, 0, none⟩) bs.length cap, .int .i64 0] 241)).cells (g := g) rfl j _ (u8s_at bs j hj)
  rwa [add0] at this

end Go.Proofs.YtnjilcokkhodmaaGreatDoor

namespace Go.Proofs.YtnjilcokkhodmaaGreatDoor

end Go.Proofs.YtnjilcokkhodmaaGreatDoor

namespace Go.Proofs.YtnjilcokkhodmaaGreatDoor
open Go.RowKit Go.Shelf

attribute [local go_sem] Oper.semAt_some

end Go.Proofs.YtnjilcokkhodmaaGreatDoor

namespace Go.Proofs.YtnjilcokkhodmaaGreatDoor
open Go.RowKit Go.Shelf

def lenN (x : Nat) : Nat := if x = 0 then 0 else Nat.log2 x + 1
theorem lenN_pos (x : Nat) (h : x ≠ 0) : 2 ^ (lenN x - 1) ≤ x ∧ x < 2 ^ lenN x ∧ 0 < lenN x := by
 unfold lenN
 rw [if_neg h]
 refine ⟨?_, ?_, by omega⟩
 ·rw [Nat.add_sub_cancel]; exact Nat.log2_self_le h
 ·exact (Nat.log2_lt h).1 (Nat.lt_succ_self _)
theorem lenN_le (x k : Nat) (h : x < 2 ^ k) : lenN x ≤ k := by
 unfold lenN
 split
 ·omega
 ·rename_i h0
  have := (Nat.log2_lt h0 (k := k)).2 h
  omega
theorem lenN_eq (x k : Nat) (h1 : 2 ^ k ≤ x) (h2 : x < 2 ^ (k + 1)) : lenN x = k + 1 := by
 have h0 : x ≠ 0 := by have : 0 < 2 ^ k := Nat.pow_pos (by omega); omega
 unfold lenN
 rw [if_neg h0, (Nat.log2_eq_iff h0).2 ⟨h1, h2⟩]
theorem lenN_shift (x : Nat) (h : 256 ≤ x) : lenN x = 8 + lenN (x / 256) := by
 have h0 : x / 256 ≠ 0 := by omega
 obtain ⟨a, b, c⟩ := lenN_pos (x / 256) h0
 obtain ⟨k, hk⟩ : ∃ k, lenN (x / 256) = k + 1 := ⟨lenN (x / 256) - 1, by omega⟩
 rw [hk] at a b ⊢
 rw [Nat.add_sub_cancel] at a
 rw [lenN_eq x (k + 8) ?_ ?_]
 ·omega
 ·rw [Nat.pow_add]; omega
 ·rw [show k + 8 + 1 = k + 1 + 8 from by omega, Nat.pow_add]; omega

set_option maxRecDepth 100000 in
set_option maxHeartbeats 1000000 in
theorem len64_any (x : Nat) (hx : x < 65536) (w : World) : Calls Tryz.prog 110 #[.int .u64 (x : Int)] w fun e w' => e = .returned (.int .i64 ((lenN x : Nat) : Int)) ∧ w' = w := by
 have g1 : ¬ (4294967296 : Int) ≤ (x : Int) := by omega
 have g2 : ¬ (65536 : Int) ≤ (x : Int) := by omega
 by_cases h : x < 256
 ·have g3 : ¬ (256 : Int) ≤ (x : Int) := by omega
  go_enter Tryz.func110, Tryz.ntmps110
  go_wp2
  go_ret
  refine ⟨congrArg (fun x => Ending.returned (Value.int .i64 x)) ?_, rfl⟩
  clear w g1 g2 hx
  revert g3 h
  revert x
  decide +kernel
 ·have g3 : (256 : Int) ≤ (x : Int) := by omega
  have hs := lenN_shift x (by omega)
  obtain ⟨y, hy⟩ : ∃ y, y = x / 256 := ⟨_, rfl⟩
  have hd : (x : Int) / 2 ^ 8 = (y : Int) := by omega
  have hd' : (x : Int) / 256 = (y : Int) := by omega
  rw [← hy] at hs
  have hy2 : y < 256 := by omega
  have hyI : (y : Int) < 256 := by omega
  generalize lenN x = lx at hs ⊢
  have HS := (show Hid _ from hs)
  have HY := (show Hid _ from hy)
  clear hs hy
  go_enter Tryz.func110, Tryz.ntmps110
  go_wp2
  go_ret
  refine ⟨congrArg (fun x => Ending.returned (Value.int .i64 x)) ?_, rfl⟩
  rw [HS.out]
  clear w g1 g2 g3 hx HS HY hd hd' h x lx
  revert hyI hy2
  revert y
  decide +kernel

set_option maxHeartbeats 400000 in
theorem len_any (x : Nat) (hx : x < 65536) (w : World) : Calls Tryz.prog 92 #[.int .u64 (x : Int)] w fun e w' => e = .returned (.int .i64 ((lenN x : Nat) : Int)) ∧ w' = w := by
 go_enter Tryz.func92, Tryz.ntmps92
 go_wp2_with (go_at_call 110; refine (len64_any x hx _).mono ?_; rintro e w' ⟨rfl, rfl⟩)
 go_ret
 exact ⟨rfl, rfl⟩
theorem len_i (x : Nat) (xi : Int) (hi : xi = (x : Int)) (hx : x < 65536) (w : World) : Calls Tryz.prog 92 #[.int .u64 xi] w fun e w' => e = .returned (.int .i64 ((lenN x : Nat) : Int)) ∧ w' = w := by
 subst hi; exact len_any x hx w

set_option maxHeartbeats 400000 in
theorem isLog_any (n : Int) (w : World) : Calls Tryz.prog 112 #[.int .i64 n] w fun e w' => e = .returned (.bool (decide (5 ≤ n ∧ n ≤ 12))) ∧ w' = w := by
 by_cases h1 : 5 ≤ n
 ·by_cases h2 : n ≤ 12
  ·rw [decide_eq_true ⟨h1, h2⟩]
   go_enter Tryz.func112, Tryz.ntmps112
   go_wp2
   go_ret
   exact ⟨rfl, rfl⟩
  ·rw [decide_eq_false (fun h => h2 h.2)]
   go_enter Tryz.func112, Tryz.ntmps112
   go_wp2
   go_ret
   exact ⟨rfl, rfl⟩
 ·rw [decide_eq_false (fun h => h1 h.1)]
  go_enter Tryz.func112, Tryz.ntmps112
  go_wp2
  go_ret
  exact ⟨rfl, rfl⟩

def shareN (c : Int) : Int := if c = -1 then 1 else c

set_option maxHeartbeats 400000 in
theorem share_any (c : Int) (h1 : -32768 ≤ c) (h2 : c ≤ 32767) (w : World) : Calls Tryz.prog 128 #[.int .i16 c] w fun e w' => e = .returned (.int .i64 (shareN c)) ∧ w' = w := by
 unfold shareN
 by_cases h : c = -1
 ·subst h
  go_enter Tryz.func128, Tryz.ntmps128
  go_wp2
  go_ret
  exact ⟨rfl, rfl⟩
 ·rw [if_neg h]
  have hb : (c == -1) = false := by simpa using h
  go_enter Tryz.func128, Tryz.ntmps128
  go_wp2
  go_ret
  exact ⟨rfl, rfl⟩

def valM (R : Nat) : Nat := lenN (R + 1)
def valT (R : Nat) : Nat := 2 ^ valM R - 1 - (R + 1)
theorem valM_ge (R : Nat) (h : 1 ≤ R) : 2 ≤ valM R := by
 have := lenN_pos (R + 1) (by omega)
 unfold valM
 rcases Nat.lt_or_ge (lenN (R + 1)) 2 with h' | h'
 ·have : 2 ^ lenN (R + 1) ≤ 2 ^ 1 := Nat.pow_le_pow_right (by omega) (by omega)
  omega
 ·exact h'
theorem valM_le (R : Nat) (h : R ≤ 4096) : valM R ≤ 13 := lenN_le _ _ (by omega)
theorem valT_eq (R : Nat) : valT R + (R + 1) + 1 = 2 ^ valM R := by
 have := lenN_pos (R + 1) (by omega)
 unfold valT valM
 omega
theorem val_half (R : Nat) (h : 1 ≤ R) : 2 ^ (valM R - 1) ≤ R + 1 ∧ 2 ^ valM R = 2 * 2 ^ (valM R - 1) ∧ valT R < 2 ^ (valM R - 1) := by
 have h1 := lenN_pos (R + 1) (by omega)
 have h2 := valM_ge R h
 have h3 := valT_eq R
 have e : 2 ^ valM R = 2 * 2 ^ (valM R - 1) := by rw [Nat.mul_comm, ← Nat.pow_succ, show (valM R - 1).succ = valM R from by omega]
 have h4 := h1.1
 unfold valM at *
 exact ⟨h4, e, by omega⟩

set_option maxHeartbeats 1000000 in
theorem valueBits_any (R : Nat) (hR : R ≤ 4096) (w : World) : Calls Tryz.prog 143 #[.int .i64 (R : Int)] w fun e w' => e = .returned (.tuple #[.int .i64 ((valM R : Nat) : Int), .int .u64 ((valT R : Nat) : Int)]) ∧ ∃ q, w' = w.drewN q := by
 have hM := valM_le R hR
 have hT := valT_eq R
 have hl := len_i (R + 1) ((R : Int) + 1) (by omega) (by omega)
 have e1 : (2 : Int) ^ valM R - 1 - ((R : Int) + 1) = ((valT R : Nat) : Int) := by
  have : ((2 ^ valM R : Nat) : Int) = (2 : Int) ^ valM R := by simp
  omega
 have hp : (2 : Nat) ^ valM R ≤ 2 ^ 13 := Nat.pow_le_pow_right (by omega) hM
 have hpI : (2 : Int) ^ valM R ≤ 8192 := by
  have : ((2 ^ valM R : Nat) : Int) = (2 : Int) ^ valM R := by simp
  omega
 have hp0 : (0 : Int) < (2 : Int) ^ valM R := by
  have : ((2 ^ valM R : Nat) : Int) = (2 : Int) ^ valM R := by simp
  have : 0 < 2 ^ valM R := Nat.pow_pos (by omega)
  omega
 unfold valM at *
 have HL := (show Hid (∀ w, _) from hl)
 have hT2 : valT R ≤ 8192 := by omega
 clear hl hT hp
 generalize lenN (R + 1) = m at *
 generalize valT R = t at *
 go_enter Tryz.func143, Tryz.ntmps143
 go_wp2_with (go_at_call 92; refine (HL.out _).mono ?_; rintro e w' ⟨rfl, rfl⟩)
 go_quiet (fail)
 go_wp2
 go_ret2
 exact ⟨rfl, _, rfl⟩

end Go.Proofs.YtnjilcokkhodmaaGreatDoor
