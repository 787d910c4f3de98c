/-
  The program's XXH64 as an object: what it holds, what it tells.
-/
import Derived.Test.YtoohkldhfkoocaaXxh
import Derived.Test.YtoohkldhfkoocaaCrc
import Derived.Laws.CopyOwn
namespace Go.Proofs.Ytoohkldhfkoocaa
open Go.RowKit Go.Shelf
set_option linter.unusedVariables false

/-- An XXH64's cells: the four numbers behind k stripes of bs, r bytes that wait, how many there were. -/
structure Xc (bs : List Nat) (k r : Nat) (cs : Array Value) : Prop where
  size : cs.size = 37
  four : ∀ i, i < 4 → cs[i]? = some (.int .u64 ((lane bs k i : Nat) : Int))
  all : ∀ j, j < 32 → ∃ u, cs[4 + j]? = some (.int .u8 u)
  rest : ∀ j, j < r → cs[4 + j]? = some (.int .u8 ((bs[32 * k + j]?.getD 0 : Nat) : Int))
  num : cs[36]? = some (.int .u64 (bs.length : Int))
/-- Block b is an XXH64 of the bytes bs. -/
def IsX (w : World) (b : Nat) (bs : List Nat) : Prop := (∃ cs, w.heap[b]? = some (.cells cs 60 (0, 0)) ∧ Xc bs (bs.length / 32) (bs.length % 32) cs) ∧ (∀ j : Nat, bs[j]?.getD 0 < 256) ∧ bs.length < 2 ^ 62
theorem IsX.keep {w w' : World} {S : Nat → Prop} {b : Nat} {bs : List Nat} (h : IsX w b bs) (hk : Keep S w w') (hS : ¬ S b) : IsX w' b bs := by
  obtain ⟨⟨cs, ho, ht⟩, h2, h3⟩ := h
  exact ⟨⟨cs, hk.obj ho hS, ht⟩, h2, h3⟩
theorem IsX.lt {w : World} {b : Nat} {bs : List Nat} (h : IsX w b bs) : b < w.heap.size := by
  obtain ⟨⟨cs, ho, ht⟩, h2, h3⟩ := h
  exact obj_lt ho

set_option maxHeartbeats 1000000 in
theorem held_any (b n : Nat) (w : World) (hn : n < 2 ^ 62) (hc : w.cell? ⟨b, 36, none⟩ = some (.int .u64 (n : Int))) :
    Calls Try.prog 48 #[.pointer (some ⟨b, 0, none⟩)] w fun e w' => e = .returned (.int .i64 ((n % 32 : Nat) : Int)) ∧ ∃ n, w' = w.drewN n := by
  go_enter Try.func48, Try.ntmps48
  go_wp2
  go_ret
  exact ⟨by simp, 0, rfl⟩

theorem idx0 (a b c d : Int) (w : World) : (Instr.index 57 (.agg #[.int .u64 a, .int .u64 b, .int .u64 c, .int .u64 d]) (.int .i64 0)).run Try.prog w = .ok (.int .u64 a) w := by kernel_rfl
theorem idx1 (a b c d : Int) (w : World) : (Instr.index 57 (.agg #[.int .u64 a, .int .u64 b, .int .u64 c, .int .u64 d]) (.int .i64 1)).run Try.prog w = .ok (.int .u64 b) w := by kernel_rfl
theorem idx2 (a b c d : Int) (w : World) : (Instr.index 57 (.agg #[.int .u64 a, .int .u64 b, .int .u64 c, .int .u64 d]) (.int .i64 2)).run Try.prog w = .ok (.int .u64 c) w := by kernel_rfl
theorem idx3 (a b c d : Int) (w : World) : (Instr.index 57 (.agg #[.int .u64 a, .int .u64 b, .int .u64 c, .int .u64 d]) (.int .i64 3)).run Try.prog w = .ok (.int .u64 d) w := by kernel_rfl
theorem mix_form (y r : Nat) (hy : y < 2 ^ 64) (hr : r < 2 ^ 64) : IntKind.u64.wrap (IntKind.u64.wrap (bits .xor .u64 (y : Int) (r : Int) * 11400714785074694791) + 9650029242287828579) = ((((y ^^^ r) * p1 % 2 ^ 64 + p4) % 2 ^ 64 : Nat) : Int) := by
  rw [xorN y r _ _ rfl rfl hy hr]
  exact wrapN _ _ (by rw [wrapN _ ((y ^^^ r) * p1) (by simp [p1])]; simp [p4])

theorem mixIn_form (y a : Nat) (hy : y < 2 ^ 64) : IntKind.u64.wrap (IntKind.u64.wrap (bits .xor .u64 (y : Int) ((round 0 a : Nat) : Int) * 11400714785074694791) + 9650029242287828579) = ((mixIn y a : Nat) : Int) := by
  rw [mix_form y _ hy (round_lt 0 a), mixIn]

set_option maxRecDepth 100000 in
set_option maxHeartbeats 2000000 in
theorem begin_any (b : Nat) (bs : List Nat) (w : World) (h : IsX w b bs) :
    Calls Try.prog 51 #[.pointer (some ⟨b, 0, none⟩)] w fun e w' => e = .returned (.int .u64 ((beginOf bs : Nat) : Int)) ∧ ∃ n, w' = w.drewN n := by
  obtain ⟨⟨cs, ho, ht⟩, h2, h3⟩ := h
  have hc : w.cell? ⟨b, 36, none⟩ = some (.int .u64 (bs.length : Int)) := (cell_of ho 36).trans ht.num
  have hc0 : w.cell? ⟨b, 0, none⟩ = some (.int .u64 ((lane bs (bs.length / 32) 0 : Nat) : Int)) := (cell_of ho 0).trans (ht.four 0 (by decide))
  have hc1 : w.cell? ⟨b, 1, none⟩ = some (.int .u64 ((lane bs (bs.length / 32) 1 : Nat) : Int)) := (cell_of ho 1).trans (ht.four 1 (by decide))
  have hc2 : w.cell? ⟨b, 2, none⟩ = some (.int .u64 ((lane bs (bs.length / 32) 2 : Nat) : Int)) := (cell_of ho 2).trans (ht.four 2 (by decide))
  have hc3 : w.cell? ⟨b, 3, none⟩ = some (.int .u64 ((lane bs (bs.length / 32) 3 : Nat) : Int)) := (cell_of ho 3).trans (ht.four 3 (by decide))
  have hl := fun i => lane_lt bs (bs.length / 32) i
  have hb : beginOf bs = if bs.length < 32 then p5 else mixed (lane bs (bs.length / 32)) 4 := rfl
  clear ho ht h2
  generalize lane bs (bs.length / 32) = f at hc0 hc1 hc2 hc3 hl hb
  generalize bs.length = n at hc h3 hb
  generalize beginOf bs = r at hb ⊢
  by_cases hn : n < 32
  · rw [if_pos hn] at hb
    have HB := (show Hid _ from hb)
    clear hb
    clear hl hc0 hc1 hc2 hc3
    have hd : ((n : Int) < 32) := by omega
    go_enter Try.func51, Try.ntmps51
    go_wp2
    go_ret
    refine ⟨?_, 0, rfl⟩
    rw [HB.out]
    simp [p5]
  · rw [if_neg hn] at hb
    have HB := (show Hid _ from hb)
    clear hb
    have hl0 := hl 0
    have hl1 := hl 1
    have hl2 := hl 2
    have hl3 := hl 3
    clear hl
    have hd : ¬ ((n : Int) < 32) := by omega
    have hj : IntKind.u64.wrap (IntKind.u64.wrap (IntKind.u64.wrap (((turn (f 0) 1 : Nat) : Int) + ((turn (f 1) 7 : Nat) : Int)) + ((turn (f 2) 12 : Nat) : Int)) + ((turn (f 3) 18 : Nat) : Int)) = ((joined f : Nat) : Int) := by
      rw [wrapN (((turn (f 0) 1 : Nat) : Int) + ((turn (f 1) 7 : Nat) : Int)) (turn (f 0) 1 + turn (f 1) 7) (by simp), wrapN (_ + ((turn (f 2) 12 : Nat) : Int)) ((turn (f 0) 1 + turn (f 1) 7) % 2 ^ 64 + turn (f 2) 12) (by simp), wrapN _ ((((turn (f 0) 1 + turn (f 1) 7) % 2 ^ 64 + turn (f 2) 12) % 2 ^ 64 + turn (f 3) 18)) (by simp)]
      rfl
    go_enter Try.func51, Try.ntmps51
    go_wp2_with fail
    go_quiet (first | (go_at_call_of 53 (Value.int .u64 ((f 0 : Nat) : Int)); exact Calls.quiet_of (turn_any (f 0) 1 _ _ rfl rfl hl0 (by decide) (by decide) _)) | (go_at_call_of 53 (Value.int .u64 ((f 1 : Nat) : Int)); exact Calls.quiet_of (turn_any (f 1) 7 _ _ rfl rfl hl1 (by decide) (by decide) _)) | (go_at_call_of 53 (Value.int .u64 ((f 2 : Nat) : Int)); exact Calls.quiet_of (turn_any (f 2) 12 _ _ rfl rfl hl2 (by decide) (by decide) _)) | (go_at_call_of 53 (Value.int .u64 ((f 3 : Nat) : Int)); exact Calls.quiet_of (turn_any (f 3) 18 _ _ rfl rfl hl3 (by decide) (by decide) _)))
    go_wp2_with fail
    have hj0 : joined f = mixed f 0 := rfl
    rw [hj0]
    clear hj0 hj hc0 hc1 hc2 hc3 hc
    go_loopw [42, 3] (fun i x wr => ∃ (k nq : Nat), k ≤ 4 ∧ i = .int .i64 k ∧ x = .int .u64 ((mixed f k : Nat) : Int) ∧ wr = w.drewN nq) (fun i _ _ => 4 - (intOf i).toNat)
    case atStart => exact ⟨0, _, by omega, rfl, rfl, rfl⟩
    case round =>
      obtain ⟨k, nq, hk, rfl, rfl, rfl⟩ := hrel
      obtain rfl | rfl | rfl | rfl | rfl : k = 0 ∨ k = 1 ∨ k = 2 ∨ k = 3 ∨ k = 4 := by omega
      · have hix := idx0 (f 0 : Int) (f 1 : Int) (f 2 : Int) (f 3 : Int)
        have hy := mixed_lt f 0
        have hs : mixed f 1 = mixIn (mixed f 0) (f 0) := rfl
        generalize mixed f 0 = y at hy hs
        have HS := (show Hid _ from hs)
        clear hs
        go_wp2_with fail
        refine (round_any 0 (f 0) _ _ rfl rfl _).mono ?_
        rintro e w' ⟨rfl, n2, rfl⟩
        have hm := mixIn_form y (f 0) hy
        go_wp2_with fail
        go_roundw
        case rel => exact ⟨1, _, by omega, by go_num, by rw [HS.out], rfl⟩
        case measure => simp [intOf]
      · have hix := idx1 (f 0 : Int) (f 1 : Int) (f 2 : Int) (f 3 : Int)
        have hy := mixed_lt f 1
        have hs : mixed f 2 = mixIn (mixed f 1) (f 1) := rfl
        generalize mixed f 1 = y at hy hs
        have HS := (show Hid _ from hs)
        clear hs
        go_wp2_with fail
        refine (round_any 0 (f 1) _ _ rfl rfl _).mono ?_
        rintro e w' ⟨rfl, n2, rfl⟩
        have hm := mixIn_form y (f 1) hy
        go_wp2_with fail
        go_roundw
        case rel => exact ⟨2, _, by omega, by go_num, by rw [HS.out], rfl⟩
        case measure => simp [intOf]
      · have hix := idx2 (f 0 : Int) (f 1 : Int) (f 2 : Int) (f 3 : Int)
        have hy := mixed_lt f 2
        have hs : mixed f 3 = mixIn (mixed f 2) (f 2) := rfl
        generalize mixed f 2 = y at hy hs
        have HS := (show Hid _ from hs)
        clear hs
        go_wp2_with fail
        refine (round_any 0 (f 2) _ _ rfl rfl _).mono ?_
        rintro e w' ⟨rfl, n2, rfl⟩
        have hm := mixIn_form y (f 2) hy
        go_wp2_with fail
        go_roundw
        case rel => exact ⟨3, _, by omega, by go_num, by rw [HS.out], rfl⟩
        case measure => simp [intOf]
      · have hix := idx3 (f 0 : Int) (f 1 : Int) (f 2 : Int) (f 3 : Int)
        have hy := mixed_lt f 3
        have hs : mixed f 4 = mixIn (mixed f 3) (f 3) := rfl
        generalize mixed f 3 = y at hy hs
        have HS := (show Hid _ from hs)
        clear hs
        go_wp2_with fail
        refine (round_any 0 (f 3) _ _ rfl rfl _).mono ?_
        rintro e w' ⟨rfl, n2, rfl⟩
        have hm := mixIn_form y (f 3) hy
        go_wp2_with fail
        go_roundw
        case rel => exact ⟨4, _, by omega, by go_num, by rw [HS.out], rfl⟩
        case measure => simp [intOf]
      · go_wp2
        go_ret
        exact ⟨by rw [HB.out]; rfl, _, rfl⟩

end Go.Proofs.Ytoohkldhfkoocaa
