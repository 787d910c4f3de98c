/-
  The two iterators of package tail, and the calls that make them.
-/
import Derived.RangeFuncNested
import Derived.RangeFuncBound
import Derived.RangeFuncCalls
import Derived.RangeFuncLeaves
import Derived.Shelf.Abstract
import Derived.Shelf.RegionOpen
import Derived.WalkKit
import Derived.OwnWalkIn
import Derived.TacticsInMore
import Derived.LoopNIn
import Derived.LoopIn
import Derived.WalkSmall
import Derived.Test.YtoffnhbopjaocaaProg
import Derived.Test.YtoffnhbopjaocaaSet
namespace Go.Proofs.Ytoffnhbopjaocaa.Tl
open Go.RowKit Go.Shelf

attribute [local go_sem] Oper.semAt_some

set_option maxHeartbeats 1000000 in
/-- backwards(b, from, to): three boxes, and the closure over them. -/
theorem backwards_in (F : Fence) (n : Nat) (h20 : F.fn 55) (hro : F.round = none) (sa : Option Addr) (len cap : Nat) (fr to : Int) (w : World) :
    CallsIn F n Try.prog 55 #[.slice sa len cap, .int .i64 fr, .int .i64 to] w fun e w' => e = .returned (.func (.func 69) #[] #[.pointer (some ⟨w.heap.size + 1, 0, none⟩), .pointer (some ⟨w.heap.size + 2, 0, none⟩), .pointer (some ⟨w.heap.size, 0, none⟩)]) ∧
      w' = ((w.alloc (.cells #[.slice sa len cap] 23)).alloc (.cells #[.int .i64 fr] 3)).alloc (.cells #[.int .i64 to] 3) := by
  refine callsIn_of_wp Try.func55 rfl h20 ?_ hro
  simp only [Try.ntmps55, List.size_toArray, List.length_cons, List.length_nil, Nat.reduceAdd, Nat.reduceSub, Array.replicate_succ, Array.replicate_zero, List.push_toArray, List.append_toArray, List.nil_append, List.cons_append]
  gi_wp2
  go_ret
  exact ⟨rfl, rfl⟩

set_option maxHeartbeats 1000000 in
/-- lowest(x, n): two boxes, and the closure over them. -/
theorem lowest_in (F : Fence) (n : Nat) (h21 : F.fn 50) (hro : F.round = none) (x k : Int) (w : World) :
    CallsIn F n Try.prog 50 #[.int .u64 x, .int .i64 k] w fun e w' => e = .returned (.func (.func 68) #[] #[.pointer (some ⟨w.heap.size + 1, 0, none⟩), .pointer (some ⟨w.heap.size, 0, none⟩)]) ∧
      w' = (w.alloc (.cells #[.int .u64 x] 52)).alloc (.cells #[.int .i64 k] 3) := by
  refine callsIn_of_wp Try.func50 rfl h21 ?_ hro
  simp only [Try.ntmps50, List.size_toArray, List.length_cons, List.length_nil, Nat.reduceAdd, Nat.reduceSub, Array.replicate_succ, Array.replicate_zero, List.push_toArray, List.append_toArray, List.nil_append, List.cons_append]
  gi_wp2
  go_ret
  exact ⟨rfl, rfl⟩

set_option maxRecDepth 100000 in
set_option maxHeartbeats 1000000 in
/-- The closure that lowest makes: the bits of x one by one, for every loop body that keeps the two boxes. -/
theorem lowest1_in (F : Fence) (n : Nat) (h24 : F.fn 68) (hro : F.round = none) (hn : 1 ≤ n) (l Bx Bn : Nat) (x m : Nat) (hx : x < 18446744073709551616) (hm : m ≤ 56) (J Jx : List (Fin 2) → World → Prop)
    (hY : ∀ pre b W, J pre W → pre.length < m → YieldAt F (n - 1) Try.prog l #[.int .u8 (b.val : Int)] W fun e W' =>
      (e = .returned (.bool true) ∧ J (pre ++ [b]) W' ∧ Stay (fun k => k = Bx ∨ k = Bn) W W') ∨ (e = .returned (.bool false) ∧ Jx (pre ++ [b]) W'))
    (W : World) (hBx : W.heap[Bx]? = some (.cells #[.int .u64 (x : Int)] 52 (0, 0))) (hBn : W.heap[Bn]? = some (.cells #[.int .i64 (m : Int)] 3 (0, 0))) (h0 : J [] W) :
    CallsIn F n Try.prog 68 #[.func (.yield l) #[] #[], .pointer (some ⟨Bn, 0, none⟩), .pointer (some ⟨Bx, 0, none⟩)] W fun e W' => (∃ v, e = .returned v) ∧
      ((∃ ys, ys = upto (fun j => (⟨bitOf x j, bitOf_lt x j⟩ : Fin 2)) m ∧ J ys W') ∨ (∃ pre, True ∧ Jx pre W')) := by
  have hBn0 := cell_of hBn 0
  refine callsIn_of_wp Try.func68 rfl h24 ?_ hro
  simp only [Try.ntmps68, List.size_toArray, List.length_cons, List.length_nil, Nat.reduceAdd, Nat.reduceSub, Array.replicate_succ, Array.replicate_zero, List.push_toArray, List.append_toArray, List.nil_append, List.cons_append]
  gi_wp2
  gi_loopw [6] (fun i wr => ∃ k : Nat, k ≤ m ∧ i = .int .i64 k ∧ J (upto (fun j => (⟨bitOf x j, bitOf_lt x j⟩ : Fin 2)) k) wr ∧ Stay (fun k => k = Bx ∨ k = Bn) W wr)
    (fun i _ => m - (intOf i).toNat)
  case atStart => exact ⟨0, Nat.zero_le _, rfl, h0, fun _ _ => rfl⟩
  case round =>
    obtain ⟨k, hk, rfl, hJs, hnx⟩ := hrel
    have hBx1 : wr.heap[Bx]? = _ := (hnx Bx (.inl rfl)).trans hBx
    have hcx : wr.cell? ⟨Bx, 0, none⟩ = some (.int .u64 (x : Int)) := cell_of hBx1 0
    by_cases hlt : k < m
    · obtain ⟨fn, tmps, assign, body, hy, hR⟩ := hY _ (⟨bitOf x k, bitOf_lt x k⟩ : Fin 2) wr hJs (by rw [upto_length]; exact hlt)
      dsimp only at hy
      have hb1 := and_bit_u64 x k hx
      have hb2 : ((bitOf x k : Nat) : Int) % 256 = ((bitOf x k : Nat) : Int) := by have := bitOf_lt x k; omega
      gi_wp2
      refine hR.mono ?_
      rintro e W3 (⟨rfl, hJ3, hk3⟩ | ⟨rfl, hJx3⟩)
      · gi_wp2
        go_roundw
        case rel => exact ⟨k + 1, by omega, by simp, by rw [upto_succ]; exact hJ3, hnx.trans hk3⟩
        case measure => simp [intOf]; omega
      · gi_wp2
        refine bodyPost_ret (results_none rfl _ _ _) rfl ?_
        exact ⟨⟨_, rfl⟩, .inr ⟨_, trivial, hJx3⟩⟩
    · obtain rfl : k = m := by omega
      gi_wp2
      go_end0
      exact ⟨⟨_, rfl⟩, .inl ⟨_, rfl, hJs⟩⟩

theorem wrap_div (c q : Nat) (hc : c < 18446744073709551616) : IntKind.u64.wrap ((c : Int) / 2 ^ q) = (c : Int) / 2 ^ q := by
  have e : ((c : Int) / 2 ^ q) = ((c / 2 ^ q : Nat) : Int) := by simp
  have h : c / 2 ^ q ≤ c := Nat.div_le_self _ _
  rw [e]
  generalize c / 2 ^ q = z at h ⊢
  rw [IntKind.wrap_u64]; omega

/-- The j-th bit ahead of bit fr. -/
def bitBack (bs : List Nat) (fr j : Nat) : Fin 2 := ⟨bitAt bs (fr - 1 - j), bitAt_lt _ _⟩

set_option maxRecDepth 100000 in
set_option maxHeartbeats 1000000 in
/-- The closure that backwards makes: the m bits of the bytes bs ahead of bit p + m, down to bit p, for every loop body that keeps the boxes and the bytes. -/
theorem back1_in (F : Fence) (n : Nat) (h23 : F.fn 69) (hro : F.round = none) (hn : 1 ≤ n) (l Bs Bf Bt g cap : Nat) (sa : Option Addr) (bs : List Nat) (hsa : sa = some ⟨g, 0, none⟩ ∨ bs = []) (hlen : bs.length < 140737488355328) (hbs : ∀ j : Nat, bs[j]?.getD 0 < 256) (p m : Nat) (hp : p + m ≤ 8 * bs.length) (hm : m ≤ 56) (J Jx : List (Fin 2) → World → Prop)
    (hY : ∀ pre (b : Fin 2) W, J pre W → pre.length < m → YieldAt F (n - 1) Try.prog l #[.int .u64 (b.val : Int)] W fun e W' =>
      (e = .returned (.bool true) ∧ J (pre ++ [b]) W' ∧ Stay (fun k => k = Bs ∨ k = Bf ∨ k = Bt ∨ k = g) W W') ∨ (e = .returned (.bool false) ∧ Jx (pre ++ [b]) W'))
    (W : World) (hBs : W.heap[Bs]? = some (.cells #[.slice sa bs.length cap] 23 (0, 0))) (hBf : W.heap[Bf]? = some (.cells #[.int .i64 ((p + m : Nat) : Int)] 3 (0, 0))) (hBt : W.heap[Bt]? = some (.cells #[.int .i64 (p : Int)] 3 (0, 0)))
    (hg : ∀ j, j < bs.length → W.cell? ⟨g, j, none⟩ = some (.int .u8 (bs[j]?.getD 0 : Nat))) (h0 : J [] W) :
    CallsIn F n Try.prog 69 #[.func (.yield l) #[] #[], .pointer (some ⟨Bf, 0, none⟩), .pointer (some ⟨Bt, 0, none⟩), .pointer (some ⟨Bs, 0, none⟩)] W fun e W' => (∃ v, e = .returned v) ∧
      ((∃ ys, ys = upto (bitBack bs (p + m)) m ∧ J ys W') ∨ (∃ pre, True ∧ Jx pre W')) := by
  have hBf0 : W.cell? ⟨Bf, 0, none⟩ = some (.int .i64 ((p : Int) + (m : Int))) := by
    have := cell_of hBf 0
    simpa using this
  refine callsIn_of_wp Try.func69 rfl h23 ?_ hro
  simp only [Try.ntmps69, List.size_toArray, List.length_cons, List.length_nil, Nat.reduceAdd, Nat.reduceSub, Array.replicate_succ, Array.replicate_zero, List.push_toArray, List.append_toArray, List.nil_append, List.cons_append]
  gi_wp2
  gi_loopw [5] (fun i wr => ∃ k : Nat, k ≤ m ∧ i = .int .i64 ((p : Int) + m - 1 - k) ∧ J (upto (bitBack bs (p + m)) k) wr ∧ Stay (fun k => k = Bs ∨ k = Bf ∨ k = Bt ∨ k = g) W wr)
    (fun i _ => (intOf i + 1 - p).toNat)
  case atStart => exact ⟨0, Nat.zero_le _, by simp, h0, fun _ _ => rfl⟩
  case round =>
    obtain ⟨k, hk, rfl, hJs, hnx⟩ := hrel
    have hBs1 : wr.heap[Bs]? = _ := (hnx Bs (.inl rfl)).trans hBs
    have hBt1 : wr.heap[Bt]? = _ := (hnx Bt (.inr (.inr (.inl rfl)))).trans hBt
    have hcs : wr.cell? ⟨Bs, 0, none⟩ = some (.slice sa bs.length cap) := cell_of hBs1 0
    have hct : wr.cell? ⟨Bt, 0, none⟩ = some (.int .i64 (p : Int)) := cell_of hBt1 0
    by_cases hlt : k < m
    · obtain ⟨fn, tmps, assign, body, hy, hR⟩ := hY _ (bitBack bs (p + m) k) wr hJs (by rw [upto_length]; exact hlt)
      obtain ⟨i, hi⟩ : ∃ i, p + m - 1 - k = i := ⟨_, rfl⟩
      have hii : (p : Int) + m - 1 - k = (i : Int) := by omega
      have hbb : ((bitBack bs (p + m) k).val : Nat) = bitAt bs i := by rw [← hi]; rfl
      rw [hbb] at hy
      have hidx : i / 8 < bs.length := by omega
      obtain rfl : sa = some ⟨g, 0, none⟩ := by
        rcases hsa with h | h
        · exact h
        · rw [h] at hidx; simp at hidx
      have hcg : wr.cell? ⟨g, i / 8, none⟩ = some (.int .u8 (bs[i / 8]?.getD 0 : Nat)) := (World.cell?_of_block (hnx g (.inr (.inr (.inr rfl))))).trans (hg _ hidx)
      obtain ⟨c, hc⟩ : ∃ c, bs[i / 8]?.getD 0 = c := ⟨_, rfl⟩
      obtain ⟨q, hq⟩ : ∃ q, i % 8 = q := ⟨_, rfl⟩
      have hc256 : c < 256 := by rw [← hc]; exact hbs _
      have hq8 : q < 8 := by omega
      have hba : bitAt bs i = bitOf c q := by unfold bitAt; rw [hc, hq]
      rw [hc] at hcg
      rw [hba] at hy
      have h7 : bits .and .i64 (i : Int) 7 = (q : Int) := by
        have := and_seven_i64 i (by omega)
        rw [hq] at this; exact this
      have hdI : (i : Int) / 8 = ((i / 8 : Nat) : Int) := by omega
      have hb1 := and_bit_u64 c q (by omega)
      have hwr := wrap_div c q (by omega)
      have hb3 := bitOf_lt c q
      have hpi : (p : Int) ≤ (i : Int) := by omega
      have HI := (show Hid _ from hii)
      rw [hii]
      have hil : i < 1125899906842624 := by omega
      generalize i / 8 = d at hcg hidx hdI
      clear hba hc hq hsa hbb hi hii
      gi_wp2
      refine hR.mono ?_
      rintro e W3 (⟨rfl, hJ3, hk3⟩ | ⟨rfl, hJx3⟩)
      · gi_wp2
        go_roundw
        case rel => exact ⟨k + 1, by omega, by have := HI.out; simp; omega, by rw [upto_succ]; exact hJ3, hnx.trans hk3⟩
        case measure => simp [intOf]; omega
      · gi_wp2
        refine bodyPost_ret (results_none rfl _ _ _) rfl ?_
        exact ⟨⟨_, rfl⟩, .inr ⟨_, trivial, hJx3⟩⟩
    · obtain rfl : k = m := by omega
      have hend : (p : Int) + k - 1 - k = (p : Int) - 1 := by omega
      rw [hend]
      gi_wp2
      go_end0
      exact ⟨⟨_, rfl⟩, .inl ⟨_, rfl, hJs⟩⟩

end Go.Proofs.Ytoffnhbopjaocaa.Tl
