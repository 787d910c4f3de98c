/-
  The two iterators of package bits, and the calls that make them.
-/
import Derived.RangeFuncNested
import Derived.RangeFuncBound
import Derived.RangeFuncCalls
import Derived.RangeFuncLeaves
import Derived.Shelf.Abstract
import Derived.Shelf.RegionOpen
import Derived.WalkKit
import Derived.OwnWalkIn
import Derived.TacticsInMore
import Derived.LoopNIn
import Derived.LoopIn
import Derived.WalkSmall
import Derived.Test.YtoffnhbopjaocaaProg
import Derived.Test.YtoffnhbopjaocaaBase
namespace Go.Proofs.Ytoffnhbopjaocaa
open Go.RowKit Go.Shelf

attribute [local go_sem] Oper.semAt_some

set_option maxHeartbeats 1000000 in
/-- row(b, at, n): three boxes, and the closure over them. -/
theorem row_in (F : Fence) (n : Nat) (h28 : F.fn 74) (hro : F.round = none) (sa : Option Addr) (len cap : Nat) (at_ k : Int) (w : World) :
    CallsIn F n Try.prog 74 #[.slice sa len cap, .int .i64 at_, .int .i64 k] w fun e w' => e = .returned (.func (.func 76) #[] #[.pointer (some ⟨w.heap.size + 2, 0, none⟩), .pointer (some ⟨w.heap.size + 1, 0, none⟩), .pointer (some ⟨w.heap.size, 0, none⟩)]) ∧
      w' = ((w.alloc (.cells #[.slice sa len cap] 23)).alloc (.cells #[.int .i64 at_] 3)).alloc (.cells #[.int .i64 k] 3) := by
  refine callsIn_of_wp Try.func74 rfl h28 ?_ hro
  simp only [Try.ntmps74, List.size_toArray, List.length_cons, List.length_nil, Nat.reduceAdd, Nat.reduceSub, Array.replicate_succ, Array.replicate_zero, List.push_toArray, List.append_toArray, List.nil_append, List.cons_append]
  gi_wp2
  go_ret
  exact ⟨rfl, rfl⟩

set_option maxHeartbeats 1000000 in
/-- lowest(x, n): two boxes, and the closure over them. -/
theorem lowest_in (F : Fence) (n : Nat) (h26 : F.fn 57) (hro : F.round = none) (x k : Int) (w : World) :
    CallsIn F n Try.prog 57 #[.int .u64 x, .int .i64 k] w fun e w' => e = .returned (.func (.func 70) #[] #[.pointer (some ⟨w.heap.size + 1, 0, none⟩), .pointer (some ⟨w.heap.size, 0, none⟩)]) ∧
      w' = (w.alloc (.cells #[.int .u64 x] 52)).alloc (.cells #[.int .i64 k] 3) := by
  refine callsIn_of_wp Try.func57 rfl h26 ?_ hro
  simp only [Try.ntmps57, List.size_toArray, List.length_cons, List.length_nil, Nat.reduceAdd, Nat.reduceSub, Array.replicate_succ, Array.replicate_zero, List.push_toArray, List.append_toArray, List.nil_append, List.cons_append]
  gi_wp2
  go_ret
  exact ⟨rfl, rfl⟩

/-- Blocks of S lie as they lay. -/
def Stay (S : Nat → Prop) (W W' : World) : Prop := ∀ k, S k → W'.heap[k]? = W.heap[k]?
theorem Stay.trans {S : Nat → Prop} {A B C : World} (h : Stay S A B) (k : Stay S B C) : Stay S A C := fun i hi => (k i hi).trans (h i hi)
theorem Stay.putObj {S : Nat → Prop} {w : World} (hS : ∀ k, S k → k < w.heap.size) (W : World) (l : Nat) (o o' : Obj) (hl : w.heap.size ≤ l) (_ : W.heap[l]? = some o) (_ : o.isCells = false) (_ : o.isWalk = false) : Stay S W (W.putObj l o') :=
  fun k hk => World.putObj_heap_other (by have := hS k hk; omega)

/-- What has come when k rounds are over. -/
def upto {α : Type} (f : Nat → α) (k : Nat) : List α := (List.range k).map f
theorem upto_succ {α : Type} (f : Nat → α) (k : Nat) : upto f (k + 1) = upto f k ++ [f k] := by simp [upto, List.range_succ]
theorem upto_length {α : Type} (f : Nat → α) (k : Nat) : (upto f k).length = k := by simp [upto]

/-- The bits of x, bit k as a number 0 or 1. -/
def bitOf (x : Nat) (k : Nat) : Nat := x / 2 ^ k % 2
theorem bitOf_lt (x k : Nat) : bitOf x k < 2 := Nat.mod_lt _ (by omega)
theorem and_bit_u64 (x k : Nat) (hx : x < 18446744073709551616) : bits .and .u64 ((x : Int) / 2 ^ k) 1 = ((bitOf x k : Nat) : Int) := by
  have e : ((x : Int) / 2 ^ k) = ((x / 2 ^ k : Nat) : Int) := by simp
  rw [e, and_one_u64 _ (Int.natCast_nonneg _) (by have : x / 2 ^ k ≤ x := Nat.div_le_self _ _; omega)]
  unfold bitOf; omega
theorem and_bit_u8 (x k : Nat) (hx : x < 256) : bits .and .u8 ((x : Int) / 2 ^ k) 1 = ((bitOf x k : Nat) : Int) := by
  have e : ((x : Int) / 2 ^ k) = ((x / 2 ^ k : Nat) : Int) := by simp
  have h := u8_and_nat (x / 2 ^ k) 1 (by have : x / 2 ^ k ≤ x := Nat.div_le_self _ _; omega) (by omega)
  rw [Nat.and_one_is_mod] at h
  rw [e]; exact h

theorem wraps_i64 (n : Int) (h₀ : 0 ≤ n) (h₁ : n < 2 ^ 63) : IntKind.i64.wrap n = n := by rw [IntKind.wrap_i64]; omega
theorem and_seven_i64 (x : Nat) (h : x < 9223372036854775808) : bits .and .i64 (x : Int) 7 = ((x % 8 : Nat) : Int) := by
  have := bits_mask .i64 63 (by decide) wraps_i64 3 (by decide) (x : Int) (by omega) (by omega)
  exact this.trans (by omega)

/-- Bit i of bytes. -/
def bitAt (bs : List Nat) (i : Nat) : Nat := bitOf (bs[i / 8]?.getD 0) (i % 8)
theorem bitAt_lt (bs : List Nat) (i : Nat) : bitAt bs i < 2 := bitOf_lt _ _

set_option maxRecDepth 100000 in
set_option maxHeartbeats 1000000 in
/-- The closure that lowest makes: the bits of x one by one, for every loop body that keeps the two boxes. -/
theorem lowest1_in (F : Fence) (n : Nat) (h29 : F.fn 70) (hro : F.round = none) (hn : 1 ≤ n) (l Bx Bn : Nat) (x m : Nat) (hx : x < 18446744073709551616) (hm : m ≤ 56) (J Jx : List (Fin 2) → World → Prop)
    (hY : ∀ pre b W, J pre W → pre.length < m → YieldAt F (n - 1) Try.prog l #[.int .u8 (b.val : Int)] W fun e W' =>
      (e = .returned (.bool true) ∧ J (pre ++ [b]) W' ∧ Stay (fun k => k = Bx ∨ k = Bn) W W') ∨ (e = .returned (.bool false) ∧ Jx (pre ++ [b]) W'))
    (W : World) (hBx : W.heap[Bx]? = some (.cells #[.int .u64 (x : Int)] 52 (0, 0))) (hBn : W.heap[Bn]? = some (.cells #[.int .i64 (m : Int)] 3 (0, 0))) (h0 : J [] W) :
    CallsIn F n Try.prog 70 #[.func (.yield l) #[] #[], .pointer (some ⟨Bn, 0, none⟩), .pointer (some ⟨Bx, 0, none⟩)] W fun e W' => (∃ v, e = .returned v) ∧
      ((∃ ys, ys = upto (fun j => (⟨bitOf x j, bitOf_lt x j⟩ : Fin 2)) m ∧ J ys W') ∨ (∃ pre, True ∧ Jx pre W')) := by
  have hBn0 := cell_of hBn 0
  refine callsIn_of_wp Try.func70 rfl h29 ?_ hro
  simp only [Try.ntmps70, List.size_toArray, List.length_cons, List.length_nil, Nat.reduceAdd, Nat.reduceSub, Array.replicate_succ, Array.replicate_zero, List.push_toArray, List.append_toArray, List.nil_append, List.cons_append]
  gi_wp2
  gi_loopw [6] (fun i wr => ∃ k : Nat, k ≤ m ∧ i = .int .i64 k ∧ J (upto (fun j => (⟨bitOf x j, bitOf_lt x j⟩ : Fin 2)) k) wr ∧ Stay (fun k => k = Bx ∨ k = Bn) W wr)
    (fun i _ => m - (intOf i).toNat)
  case atStart => exact ⟨0, Nat.zero_le _, rfl, h0, fun _ _ => rfl⟩
  case round =>
    obtain ⟨k, hk, rfl, hJs, hnx⟩ := hrel
    have hBx1 : wr.heap[Bx]? = _ := (hnx Bx (.inl rfl)).trans hBx
    have hcx : wr.cell? ⟨Bx, 0, none⟩ = some (.int .u64 (x : Int)) := cell_of hBx1 0
    by_cases hlt : k < m
    · obtain ⟨fn, tmps, assign, body, hy, hR⟩ := hY _ (⟨bitOf x k, bitOf_lt x k⟩ : Fin 2) wr hJs (by rw [upto_length]; exact hlt)
      dsimp only at hy
      have hb1 := and_bit_u64 x k hx
      have hb2 : ((bitOf x k : Nat) : Int) % 256 = ((bitOf x k : Nat) : Int) := by have := bitOf_lt x k; omega
      gi_wp2
      refine hR.mono ?_
      rintro e W3 (⟨rfl, hJ3, hk3⟩ | ⟨rfl, hJx3⟩)
      · gi_wp2
        go_roundw
        case rel => exact ⟨k + 1, by omega, by simp, by rw [upto_succ]; exact hJ3, hnx.trans hk3⟩
        case measure => simp [intOf]; omega
      · gi_wp2
        refine bodyPost_ret (results_none rfl _ _ _) rfl ?_
        exact ⟨⟨_, rfl⟩, .inr ⟨_, trivial, hJx3⟩⟩
    · obtain rfl : k = m := by omega
      gi_wp2
      go_end0
      exact ⟨⟨_, rfl⟩, .inl ⟨_, rfl, hJs⟩⟩

/-- A place among 64. -/
def fin64 (k : Nat) : Fin 64 := ⟨k % 64, Nat.mod_lt _ (by omega)⟩

set_option maxRecDepth 100000 in
set_option maxHeartbeats 1000000 in
/-- The closure that row makes: m bits of the bytes bs from bit p on, each with its place, for every loop body that keeps the boxes and the bytes. -/
theorem row1_in (F : Fence) (n : Nat) (h30 : F.fn 76) (hro : F.round = none) (hn : 1 ≤ n) (l Bs Ba Bn g cap : Nat) (sa : Option Addr) (bs : List Nat) (hsa : sa = some ⟨g, 0, none⟩ ∨ bs = []) (hlen : bs.length < 140737488355328) (hbs : ∀ j : Nat, bs[j]?.getD 0 < 256) (p m : Nat) (hp : p + m ≤ 8 * bs.length) (hm : m ≤ 56) (J Jx : List (Fin 64) → World → Prop)
    (hY : ∀ pre (b : Fin 64) W, J pre W → pre.length < m → YieldAt F (n - 1) Try.prog l #[.int .i64 (b.val : Int), .int .u64 (bitAt bs (p + b.val) : Int)] W fun e W' =>
      (e = .returned (.bool true) ∧ J (pre ++ [b]) W' ∧ Stay (fun k => k = Bs ∨ k = Ba ∨ k = Bn ∨ k = g) W W') ∨ (e = .returned (.bool false) ∧ Jx (pre ++ [b]) W'))
    (W : World) (hBs : W.heap[Bs]? = some (.cells #[.slice sa bs.length cap] 23 (0, 0))) (hBa : W.heap[Ba]? = some (.cells #[.int .i64 (p : Int)] 3 (0, 0))) (hBn : W.heap[Bn]? = some (.cells #[.int .i64 (m : Int)] 3 (0, 0)))
    (hg : ∀ j, j < bs.length → W.cell? ⟨g, j, none⟩ = some (.int .u8 (bs[j]?.getD 0 : Nat))) (h0 : J [] W) :
    CallsIn F n Try.prog 76 #[.func (.yield l) #[] #[], .pointer (some ⟨Bn, 0, none⟩), .pointer (some ⟨Ba, 0, none⟩), .pointer (some ⟨Bs, 0, none⟩)] W fun e W' => (∃ v, e = .returned v) ∧
      ((∃ ys, ys = upto fin64 m ∧ J ys W') ∨ (∃ pre, True ∧ Jx pre W')) := by
  have hBn0 := cell_of hBn 0
  refine callsIn_of_wp Try.func76 rfl h30 ?_ hro
  simp only [Try.ntmps76, List.size_toArray, List.length_cons, List.length_nil, Nat.reduceAdd, Nat.reduceSub, Array.replicate_succ, Array.replicate_zero, List.push_toArray, List.append_toArray, List.nil_append, List.cons_append]
  gi_wp2
  gi_loopw [8] (fun i wr => ∃ k : Nat, k ≤ m ∧ i = .int .i64 k ∧ J (upto fin64 k) wr ∧ Stay (fun k => k = Bs ∨ k = Ba ∨ k = Bn ∨ k = g) W wr)
    (fun i _ => m - (intOf i).toNat)
  case atStart => exact ⟨0, Nat.zero_le _, rfl, h0, fun _ _ => rfl⟩
  case round =>
    obtain ⟨k, hk, rfl, hJs, hnx⟩ := hrel
    have hBs1 : wr.heap[Bs]? = _ := (hnx Bs (.inl rfl)).trans hBs
    have hBa1 : wr.heap[Ba]? = _ := (hnx Ba (.inr (.inl rfl))).trans hBa
    have hcs : wr.cell? ⟨Bs, 0, none⟩ = some (.slice sa bs.length cap) := cell_of hBs1 0
    have hca : wr.cell? ⟨Ba, 0, none⟩ = some (.int .i64 (p : Int)) := cell_of hBa1 0
    by_cases hlt : k < m
    · obtain ⟨fn, tmps, assign, body, hy, hR⟩ := hY _ (fin64 k) wr hJs (by rw [upto_length]; exact hlt)
      have hk64 : (fin64 k).val = k := Nat.mod_eq_of_lt (by omega)
      rw [hk64] at hy
      have hidx : (p + k) / 8 < bs.length := by omega
      obtain rfl : sa = some ⟨g, 0, none⟩ := by
        rcases hsa with h | h
        · exact h
        · rw [h] at hidx; simp at hidx
      have hcg : wr.cell? ⟨g, (p + k) / 8, none⟩ = some (.int .u8 (bs[(p + k) / 8]?.getD 0 : Nat)) := (World.cell?_of_block (hnx g (.inr (.inr (.inr rfl))))).trans (hg _ hidx)
      obtain ⟨c, hc⟩ : ∃ c, bs[(p + k) / 8]?.getD 0 = c := ⟨_, rfl⟩
      obtain ⟨q, hq⟩ : ∃ q, (p + k) % 8 = q := ⟨_, rfl⟩
      have hc256 : c < 256 := by rw [← hc]; exact hbs _
      have hq8 : q < 8 := by omega
      have hba : bitAt bs (p + k) = bitOf c q := by unfold bitAt; rw [hc, hq]
      rw [hc] at hcg
      rw [hba] at hy
      have h7 : bits .and .i64 ((p : Int) + (k : Int)) 7 = (q : Int) := by
        have := and_seven_i64 (p + k) (by omega)
        rw [hq] at this; rw [← this]; simp
      have hb1 := and_bit_u8 c q hc256
      have hb3 := bitOf_lt c q
      clear hk64 hba hc hq hsa
      gi_wp2
      refine hR.mono ?_
      rintro e W3 (⟨rfl, hJ3, hk3⟩ | ⟨rfl, hJx3⟩)
      · gi_wp2
        go_roundw
        case rel => exact ⟨k + 1, by omega, by simp, by rw [upto_succ]; exact hJ3, hnx.trans hk3⟩
        case measure => simp [intOf]; omega
      · gi_wp2
        refine bodyPost_ret (results_none rfl _ _ _) rfl ?_
        exact ⟨⟨_, rfl⟩, .inr ⟨_, trivial, hJx3⟩⟩
    · obtain rfl : k = m := by omega
      gi_wp2
      go_end0
      exact ⟨⟨_, rfl⟩, .inl ⟨_, rfl, hJs⟩⟩

end Go.Proofs.Ytoffnhbopjaocaa
