/-
  A range over runs(many): the words of a code, those of one length at a time, in their order.
-/
import Derived.Test.YtapcohpagipkpaaTally
namespace Go.Proofs.Ytapcohpagipkpaa
open Go.RowKit Go.Shelf

/-- The first word of each length. -/
def nextF (c : Nat → Nat) : Nat → Nat
  | 0 => 0
  | l + 1 => 2 * (nextF c l + c l)
theorem nextF_le (c : Nat → Nat) (h : ∀ l, c l ≤ 1024) (l : Nat) : nextF c l + 2048 ≤ 2048 * 2 ^ l := by
  induction l with
  | zero => simp [nextF]
  | succ l ih =>
    have := h l
    simp only [nextF, Nat.pow_succ]
    omega
theorem nextF_lt (c : Nat → Nat) (h : ∀ l, c l ≤ 1024) (l : Nat) (hl : l ≤ 16) : nextF c l < 134217728 := by
  have h1 := nextF_le c h l
  have h2 : 2 ^ l ≤ 2 ^ 16 := Nat.pow_le_pow_right (by omega) hl
  omega
/-- A run as a value. -/
def runV (c : Nat → Nat) (k : Nat) : Value := .agg #[.int .i64 (k : Int), .int .i64 ((nextF c k : Nat) : Int), .int .i64 ((c k : Nat) : Int)]

set_option maxHeartbeats 1000000 in
/-- runs(many): a box, and the closure over it. -/
theorem runs_in (F : Fence) (n : Nat) (h28 : F.fn 28) (hro : F.round = none) (c : Nat → Nat) (w : World) :
    CallsIn F n Try.prog 28 #[.agg (arr16 c)] w fun e w' => e = .returned (.func (.func 45) #[] #[.pointer (some ⟨w.heap.size, 0, none⟩)]) ∧ w' = w.alloc (.cells (arr16 c) 63) := by
  refine callsIn_of_wp Try.func28 rfl h28 ?_ hro
  simp only [Try.ntmps28, List.size_toArray, List.length_cons, List.length_nil, Nat.reduceAdd, Nat.reduceSub, Array.replicate_succ, Array.replicate_zero, List.push_toArray, List.append_toArray, List.nil_append, List.cons_append]
  rw [arr16_lit]
  gi_wp2
  go_ret
  exact ⟨rfl, rfl⟩

set_option maxRecDepth 100000 in
set_option maxHeartbeats 4000000 in
/-- The closure that runs makes. -/
theorem runs1_in (F : Fence) (n : Nat) (h45 : F.fn 45) (hro : F.round = none) (hn : 1 ≤ n) (l Bx : Nat) (c : Nat → Nat) (hc : ∀ k, c k ≤ 1024) (J : Nat → World → Prop) (Jx : World → Prop)
    (hY : ∀ k W, k < 16 → 0 < c k → J k W → YieldAt F (n - 1) Try.prog l #[runV c k] W fun e W' => (e = .returned (.bool true) ∧ J (k + 1) W') ∨ (e = .returned (.bool false) ∧ Jx W'))
    (hS : ∀ k W, k < 16 → c k = 0 → J k W → J (k + 1) W) (W : World) (hB : W.heap[Bx]? = some (.cells (arr16 c) 63 (0, 0))) (h0 : J 0 W) :
    CallsIn F n Try.prog 45 #[.func (.yield l) #[] #[], .pointer (some ⟨Bx, 0, none⟩)] W fun e W' => (∃ v, e = .returned v) ∧ (J 16 W' ∨ Jx W') := by
  have k0 := cells16 hB 0 (by omega)
  have k1 := cells16 hB 1 (by omega)
  have k2 := cells16 hB 2 (by omega)
  have k3 := cells16 hB 3 (by omega)
  have k4 := cells16 hB 4 (by omega)
  have k5 := cells16 hB 5 (by omega)
  have k6 := cells16 hB 6 (by omega)
  have k7 := cells16 hB 7 (by omega)
  have k8 := cells16 hB 8 (by omega)
  have k9 := cells16 hB 9 (by omega)
  have k10 := cells16 hB 10 (by omega)
  have k11 := cells16 hB 11 (by omega)
  have k12 := cells16 hB 12 (by omega)
  have k13 := cells16 hB 13 (by omega)
  have k14 := cells16 hB 14 (by omega)
  have k15 := cells16 hB 15 (by omega)
  have HY := (show Hid _ from hY)
  clear hY
  refine callsIn_of_wp Try.func45 rfl h45 ?_ hro
  simp only [Try.ntmps45, List.size_toArray, List.length_cons, List.length_nil, Nat.reduceAdd, Nat.reduceSub, Array.replicate_succ, Array.replicate_zero, List.push_toArray, List.append_toArray, List.nil_append, List.cons_append]
  gi_wp2
  rw [← arr16_lit c]
  have HAt := (show Hid (∀ l, l < 16 → (arr16 c)[l]? = some (.int .i64 ((c l : Nat) : Int))) from arr16_at c)
  generalize arr16 c = A at HAt ⊢
  clear hB k0 k1 k2 k3 k4 k5 k6 k7 k8 k9 k10 k11 k12 k13 k14 k15
  gi_loopw [3, 7] (fun vn vi wr => ∃ (k x : Nat), vi = .int .i64 (k : Int) ∧ vn = .int .i64 (x : Int) ∧ k ≤ 16 ∧ 2 * x = nextF c k ∧ J k wr) (fun _ vi _ => 16 - (intOf vi).toNat)
  case atStart => exact ⟨0, 0, rfl, rfl, by omega, rfl, h0⟩
  case round =>
    obtain ⟨k, x, rfl, rfl, hk, hx, hJ⟩ := hrel
    by_cases hlt : k < 16
    · have hAi : ∀ W, _ := fun W => run_index63 A k hlt _ (HAt.out k hlt) W
      have hck := hc k
      have hnl := nextF_lt c hc k (by omega)
      have hxI : (x : Int) * 2 = ((nextF c k : Nat) : Int) := by omega
      have HN := (show Hid (nextF c (k + 1) = 2 * (nextF c k + c k)) from rfl)
      by_cases hz : c k = 0
      · have hJ2 := hS k wr hlt hz hJ
        rw [hz] at hAi HN
        have HJ := (show Hid (J (k + 1) wr) from hJ2)
        clear hJ hJ2 hx
        generalize nextF c k = nk at hxI hnl HN
        gi_wp2
        refine ⟨fun f h => (by cases h), ?_⟩
        gi_wp2
        go_roundw
        case rel => exact ⟨k + 1, nk, by go_num, by congr 1 <;> omega, by omega, by rw [HN.out]; omega, HJ.out⟩
        case measure => simp [intOf]; omega
      · obtain ⟨fn, tmps, assign, body, hy, hR⟩ := HY.out k wr hlt (by omega) hJ
        unfold runV at hy
        have hpos : (0 : Int) < ((c k : Nat) : Int) := by omega
        generalize c k = ck at hAi hck HN hy hpos
        generalize nextF c k = nk at hxI hnl HN hy
        clear hx hJ
        gi_wp2
        refine hR.mono ?_
        rintro e W3 (⟨rfl, hJ3⟩ | ⟨rfl, hJx3⟩)
        · gi_wp2
          go_roundw
          case rel => exact ⟨k + 1, nk + ck, by go_num, by congr 1 <;> omega, by omega, by rw [HN.out], hJ3⟩
          case measure => simp [intOf]; omega
        · gi_wp2
          refine bodyPost_ret (results_none rfl _ _ _) rfl ?_
          exact ⟨⟨_, rfl⟩, .inr hJx3⟩
    · obtain rfl : k = 16 := by omega
      rw [show ((16 : Nat) : Int) = (16 : Int) from rfl]
      gi_wp2
      go_end0
      exact ⟨⟨_, rfl⟩, .inl hJ⟩

end Go.Proofs.Ytapcohpagipkpaa
