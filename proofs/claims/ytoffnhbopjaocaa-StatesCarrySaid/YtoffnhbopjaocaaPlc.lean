/-
  A range over places(states, below): the states in the order in which symbols take them.
-/
import Derived.Test.YtoffnhbopjaocaaBig
namespace Go.Proofs.Ytoffnhbopjaocaa
open Go.RowKit Go.Shelf

attribute [local go_sem] Oper.semAt_some

set_option maxHeartbeats 1000000 in
/-- places(S, H): two boxes, and the closure over them. -/
theorem places_in (F : Fence) (n : Nat) (h61 : F.fn 61) (hro : F.round = none) (s h : Int) (w : World) :
    CallsIn F n Try.prog 61 #[.int .i64 s, .int .i64 h] w fun e w' => e = .returned (.func (.func 71) #[] #[.pointer (some ⟨w.heap.size, 0, none⟩), .pointer (some ⟨w.heap.size + 1, 0, none⟩)]) ∧ w' = (w.alloc (.cells #[.int .i64 s] 3)).alloc (.cells #[.int .i64 h] 3) := by
  refine callsIn_of_wp Try.func61 rfl h61 ?_ hro
  simp only [Try.ntmps61, List.size_toArray, List.length_cons, List.length_nil, Nat.reduceAdd, Nat.reduceSub, Array.replicate_succ, Array.replicate_zero, List.push_toArray, List.append_toArray, List.nil_append, List.cons_append]
  gi_wp2
  go_ret
  exact ⟨rfl, rfl⟩

/-- The boxes of a range over places. -/
def PBox (Bs Bh S H : Nat) (W : World) : Prop := W.heap[Bs]? = some (.cells #[.int .i64 (S : Int)] 3 (0, 0)) ∧ W.heap[Bh]? = some (.cells #[.int .i64 (H : Int)] 3 (0, 0))
def placeV (S H k : Nat) : Array Value := #[.int .i64 (k : Int), .int .i64 ((place S H k : Nat) : Int)]

set_option maxRecDepth 100000 in
set_option maxHeartbeats 4000000 in
/-- The closure that places makes. -/
theorem places1_in (F : Fence) (n : Nat) (h71 : F.fn 71) (hro : F.round = none) (hn : 1 ≤ n) (l Bs Bh S H v : Nat) (ho : Odd S v) (hS : S ≤ 4096) (hH : H ≤ S) (J : Nat → World → Prop) (Jx : World → Prop)
    (hB : ∀ k W, J k W → PBox Bs Bh S H W)
    (hY : ∀ k W, k < H → J k W → YieldAt F (n - 1) Try.prog l (placeV S H k) W fun e W' => (e = .returned (.bool true) ∧ J (k + 1) W') ∨ (e = .returned (.bool false) ∧ Jx W')) (W : World) (h0 : J 0 W) :
    CallsIn F n Try.prog 71 #[.func (.yield l) #[] #[], .pointer (some ⟨Bs, 0, none⟩), .pointer (some ⟨Bh, 0, none⟩)] W fun e W' => (∃ v, e = .returned v) ∧ (J H W' ∨ Jx W') := by
  obtain ⟨b1, b2⟩ := hB 0 W h0
  have c1 : W.cell? ⟨Bs, 0, none⟩ = some (.int .i64 (S : Int)) := cell_of b1 0
  have c2 : W.cell? ⟨Bh, 0, none⟩ = some (.int .i64 (H : Int)) := cell_of b2 0
  obtain ⟨P, hP⟩ : ∃ P, P = stepN S := ⟨_, rfl⟩
  have hPI : (S : Int) / 2 + (S : Int) / 8 + 3 = (P : Int) := by rw [hP]; unfold stepN; omega
  have hPb : (P : Int) ≤ 4096 := by rw [hP]; unfold stepN; omega
  have HP := (show Hid (P = stepN S) from hP)
  have HY := (show Hid (∀ k W, k < H → J k W → _) from hY)
  have HB := (show Hid (∀ k W, J k W → PBox Bs Bh S H W) from hB)
  have hSI : (S : Int) ≤ 4096 := by omega
  have hHI : (H : Int) ≤ (S : Int) := by omega
  have hSp : 0 < (S : Int) := by have := ho.pos; omega
  have HO := (show Hid (Odd S v) from ho)
  clear hY hB b1 b2 hP ho
  refine callsIn_of_wp Try.func71 rfl h71 ?_ hro
  simp only [Try.ntmps71, List.size_toArray, List.length_cons, List.length_nil, Nat.reduceAdd, Nat.reduceSub, Array.replicate_succ, Array.replicate_zero, List.push_toArray, List.append_toArray, List.nil_append, List.cons_append]
  gi_wp2
  clear c1 c2
  gi_loopw [5, 14] (fun vs vi wr => ∃ (k x : Nat), vi = .int .i64 (k : Int) ∧ vs = .int .i64 (x : Int) ∧ k ≤ H ∧ Hid (k < H → Turn S H k x) ∧ J k wr) (fun _ vi _ => H - (intOf vi).toNat)
  case atStart => exact ⟨0, 0, rfl, rfl, Nat.zero_le _, fun h => turn_zero S H (by omega) h, h0⟩
  case round =>
    clear h0 hPI
    obtain ⟨k, x, rfl, rfl, hk, HT, hJ⟩ := hrel
    by_cases hlt : k < H
    · have hT := HT.out hlt
      obtain ⟨fn, tmps, assign, body, hy, hR⟩ := HY.out k wr hlt hJ
      unfold placeV at hy
      rw [hT.place] at hy
      have hxS : x < H := hT.lt
      have hltI : (k : Int) < (H : Int) := by omega
      clear hJ
      gi_wp2
      refine hR.mono ?_
      rintro e W3 (⟨rfl, hJ3⟩ | ⟨rfl, hJx3⟩)
      · obtain ⟨b1, b2⟩ := HB.out _ _ hJ3
        have c1 : W3.cell? ⟨Bs, 0, none⟩ = some (.int .i64 (S : Int)) := cell_of b1 0
        have c2 : W3.cell? ⟨Bh, 0, none⟩ = some (.int .i64 (H : Int)) := cell_of b2 0
        obtain ⟨y, hy2⟩ : ∃ y, y = (x + P) % S := ⟨_, rfl⟩
        have hyI : ((x : Int) + (P : Int)) % (S : Int) = (y : Int) := by rw [hy2]; simp
        have HYI := (show Hid (((x : Int) + (P : Int)) % (S : Int) = (y : Int)) from hyI)
        have HM := (show Hid (Mid S H k y) from by rw [hy2, HP.out]; exact hT.next)
        have hSne : (S : Int) ≠ 0 := by omega
        have hSnb : ((S : Int) == 0) = false := by simpa using hSne
        have HJ3 := (show Hid (J (k + 1) W3) from hJ3)
        clear hT hy2 hJ3 b1 b2 hR hy hyI
        gi_wp2_with fail
        gi_loop [5] (fun vs => ∃ z : Nat, vs = .int .i64 (z : Int) ∧ Hid (Mid S H k z)) (fun vs => meas S v (intOf vs).toNat)
        case atStart => exact ⟨y, by rw [HYI.out], HM⟩
        case round =>
          clear HM
          obtain ⟨z, rfl, HM⟩ := hrel
          have hzS : (z : Int) < (S : Int) := by have := HM.out.lt HO.out; omega
          by_cases hz : H ≤ z
          · have hzI : (H : Int) ≤ (z : Int) := by omega
            obtain ⟨y2, hy2⟩ : ∃ y, y = (z + P) % S := ⟨_, rfl⟩
            have hyI : ((z : Int) + (P : Int)) % (S : Int) = (y2 : Int) := by rw [hy2]; simp
            have HYI := (show Hid (((z : Int) + (P : Int)) % (S : Int) = (y2 : Int)) from hyI)
            have HM2 := (show Hid (Mid S H k y2 ∧ meas S v y2 < meas S v z) from by rw [hy2, HP.out]; exact ⟨HM.out.next (by omega) hz, HM.out.meas HO.out (by omega) hz⟩)
            clear hy2 hyI
            gi_wp2_with fail
            go_round
            case rel => exact ⟨y2, by rw [HYI.out], HM2.out.1⟩
            case measure => have h := HYI.out; simp only [intOf]; simp; rw [h]; simpa using HM2.out.2
          · have hzI : ¬ (H : Int) ≤ (z : Int) := by omega
            gi_wp2_with fail
            go_roundw
            case rel => exact ⟨k + 1, z, by go_num, rfl, by omega, fun h => (HM.out.end_ HO.out hH (by omega)).resolve_left (by omega), HJ3.out⟩
            case measure => simp [intOf]; omega
      · gi_wp2
        refine bodyPost_ret (results_none rfl _ _ _) rfl ?_
        exact ⟨⟨_, rfl⟩, .inr hJx3⟩
    · obtain rfl : k = H := by omega
      gi_wp2
      go_end0
      exact ⟨⟨_, rfl⟩, .inl hJ⟩

end Go.Proofs.Ytoffnhbopjaocaa
