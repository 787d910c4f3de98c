/-
  SumsLinear, the walk.
-/
import Derived.Test.YtoohkldhfkoocaaSrc
import Derived.Test.YtoohkldhfkoocaaLin
import Derived.Test.YtoohkldhfkoocaaOneLaw
import Derived.Laws.OwnMore
import Derived.Deep.RegionHeld3
namespace Go.Proofs.Ytoohkldhfkoocaa
open Go.RowKit Go.Shelf
set_option linter.unusedVariables false

/-- The row of the three, as far as i. -/
def dRow (A B C : List Nat) (n i : Nat) : List Nat := xor3 A B C i ++ List.replicate (n - i) 0
theorem dRow_length (A B C : List Nat) (n i : Nat) (h : i ≤ n) : (dRow A B C n i).length = n := by simp [dRow, xor3]; omega
theorem dRow_set (A B C : List Nat) (n i : Nat) (h : i < n) : (dRow A B C n i).set i (A[i]?.getD 0 ^^^ B[i]?.getD 0 ^^^ C[i]?.getD 0) = dRow A B C n (i + 1) := by
  apply List.ext_getElem?
  intro j
  have e : xor3 A B C (i + 1) = xor3 A B C i ++ [A[i]?.getD 0 ^^^ B[i]?.getD 0 ^^^ C[i]?.getD 0] := by simp [xor3, List.range_succ]
  have hl := xor3_length A B C i
  have e2 : List.replicate (n - i) 0 = (0 : Nat) :: List.replicate (n - (i + 1)) 0 := by
    rw [show n - i = (n - (i + 1)) + 1 from by omega, List.replicate_succ]
  unfold dRow
  rw [e, e2, List.append_assoc, List.set_append_right _ _ (by omega), hl, Nat.sub_self]
  rfl
theorem dRow_zero (A B C : List Nat) (n : Nat) : dRow A B C n 0 = List.replicate n 0 := by simp [dRow, xor3]
theorem dRow_end (A B C : List Nat) (n : Nat) : dRow A B C n n = xor3 A B C n := by simp [dRow]
theorem dRow_lt (A B C : List Nat) (hA : ∀ j : Nat, A[j]?.getD 0 < 256) (hB : ∀ j : Nat, B[j]?.getD 0 < 256) (hC : ∀ j : Nat, C[j]?.getD 0 < 256) (n i : Nat) : ∀ j : Nat, (dRow A B C n i)[j]?.getD 0 < 256 := by
  refine lt256 _ (fun b hb => ?_)
  simp only [dRow, xor3, List.mem_append, List.mem_map, List.mem_range, List.mem_replicate] at hb
  rcases hb with ⟨j, _, rfl⟩ | ⟨_, rfl⟩
  · exact Nat.xor_lt_two_pow (n := 8) (Nat.xor_lt_two_pow (hA j) (hB j)) (hC j)
  · decide

theorem made_u8 (n : Nat) : (madeCells (Value.cells (.int .u8 0)) (n * 1)).toList = u8s (List.replicate n 0) := by
  have h := toList_madeCells_one (.int .u8 0) (n * 1)
  have e : Value.cells (.int .u8 0) = #[.int .u8 0] := rfl
  rw [e, h]
  simp [u8s]
def minSem (ats : Array TypeId) (ty : TypeId) (args : Array Value) : Sem Value := Builtin.min_ ats ty args
theorem minSem_eq (ats : Array TypeId) (ty : TypeId) (args : Array Value) : Builtin.min_ ats ty args = minSem ats ty args := rfl
theorem minSem_run (ats : Array TypeId) (ty : TypeId) (a b c n : Nat) (hn : n = min a (min b c)) (w : World) : (minSem ats ty #[.int .i64 (a : Int), .int .i64 (b : Int), .int .i64 (c : Int)]).run Try.prog w = .ok (.int .i64 (n : Int)) w := by
  unfold minSem
  rw [run_min_int3]
  have e : (if (c : Int) < (if (b : Int) < (a : Int) then (b : Int) else (a : Int)) then (c : Int) else (if (b : Int) < (a : Int) then (b : Int) else (a : Int))) = (n : Int) := by
    split <;> split at * <;> omega
  rw [e]
theorem take_len {A : List Nat} {n : Nat} (h : n ≤ A.length) : (A.take n).length = n := by simp; omega
theorem Bytes.take {w : World} {a : Option Addr} {cap g o : Nat} {A : List Nat} (h : Bytes w a cap g o A) {n : Nat} (hn : n ≤ A.length) : Bytes w a cap g o (A.take n) := by
  have hl := take_len hn
  refine ⟨h.at_.imp id (fun e => by rw [e]; simp), fun j hj => ?_, take_lt h.lt n, by have := h.cap; omega, by have := h.len; omega⟩
  rw [hl] at hj
  rw [h.cells j (by omega), List.getElem?_take, if_pos hj]

section
attribute [local go_sem ↓] minSem_eq
set_option maxRecDepth 100000 in
set_option maxHeartbeats 8000000 in
theorem linear_walk (a0 a1 a2 : Option Addr) (cap0 cap1 cap2 g0 o0 g1 o1 g2 o2 : Nat) (A B C : List Nat) (w : World) (hA : Bytes w a0 cap0 g0 o0 A) (hB : Bytes w a1 cap1 g1 o1 B) (hC : Bytes w a2 cap2 g2 o2 C) :
    Calls Try.prog 6 #[.slice a0 A.length cap0, .slice a1 B.length cap1, .slice a2 C.length cap2] w fun e w' => e = .returned (.bool true) ∧ Keep noBlock w w' := by
  have HA := (show Hid _ from hA)
  have HB := (show Hid _ from hB)
  have HC := (show Hid _ from hC)
  clear hA hB hC
  obtain ⟨n, hn⟩ : ∃ n, n = min A.length (min B.length C.length) := ⟨_, rfl⟩
  have hmin := minSem_run #[3, 3, 3] 3 A.length B.length C.length n hn
  have HN : Hid (n ≤ A.length ∧ n ≤ B.length ∧ n ≤ C.length) := ⟨by omega, by omega, by omega⟩
  have hAl := HA.out.len
  have hBl := HB.out.len
  have hCl := HC.out.len
  clear hn
  by_cases h1 : 16384 < n
  · have d1 : (16384 : Int) < (n : Int) := by omega
    go_enter Try.func6, Try.ntmps6
    go_wp2_with fail
    refine (wakes_any _).mono ?_
    rintro e w1 ⟨rfl, hK⟩
    go_wp2_with fail
    go_ret
    exact ⟨rfl, hK⟩
  have d1 : ¬ ((16384 : Int) < (n : Int)) := by omega
  obtain ⟨i0, hi, hz0, hz1, hz2⟩ := info_parts info5
  have hnm : n ≤ maxLen := by unfold maxLen; omega
  go_enter Try.func6, Try.ntmps6
  go_wp2_with (first | (at_make; refine wpList_make_full _ rfl _ _ 22 rfl 0 5 i0 (.int .u8 0) 1 Try.underlying22 hi hz0 hz1 .i64 .i64 _ _ n rfl rfl rfl rfl (by rw [hz2]; omega) hnm (Nat.zero_le _) ?_; intro w1 hown hgrow) | fail)
  rw [made_u8, ← dRow_zero A B C n] at hown
  have hK1 : Keep noBlock w w1 := (Keep.refl _ w).grown hgrow (fun k e _ => by cases e)
  have hDw : w.heap.size < w1.heap.size := (hown.lt w.heap.size rfl).2
  generalize hD : w.heap.size = D at *
  have HD := (show Hid _ from hD)
  clear hD hgrow hi hz0 hz1 hz2 hmin
  go_loopw [9] (fun i wr => ∃ k : Nat, k ≤ n ∧ i = .int .i64 k ∧ wr.ownsRow 0 5 1 (.slice (some ⟨D, 0, none⟩) n n) n (u8s (dRow A B C n k)) ∧ Keep noBlock w wr) (fun i _ => n - (intOf i).toNat)
  case atStart => exact ⟨0, Nat.zero_le _, rfl, hown, hK1⟩
  case round =>
    clear hown hK1
    obtain ⟨k, hk, rfl, hown, hK⟩ := hrel
    by_cases hlt : k < n
    · obtain ⟨hnA, hnB, hnC⟩ := HN.out
      have eA : a0 = some ⟨g0, o0, none⟩ := HA.out.at_.resolve_right (by rintro rfl; simp at hnA; omega)
      have eB : a1 = some ⟨g1, o1, none⟩ := HB.out.at_.resolve_right (by rintro rfl; simp at hnB; omega)
      have eC : a2 = some ⟨g2, o2, none⟩ := HC.out.at_.resolve_right (by rintro rfl; simp at hnC; omega)
      subst eA eB eC
      have hcA := (HA.out.keep hK (fun _ h => h)).cells k (by omega)
      have hcB := (HB.out.keep hK (fun _ h => h)).cells k (by omega)
      have hcC := (HC.out.keep hK (fun _ h => h)).cells k (by omega)
      have hxA := HA.out.lt k
      have hxB := HB.out.lt k
      have hxC := HC.out.lt k
      have hdl := dRow_length A B C n k hk
      have hcD : wr.cell? ⟨D, k, none⟩ = some (.int .u8 (((dRow A B C n k)[k]?.getD 0 : Nat) : Int)) := by
        have := hown.cells (g := D) rfl k _ (u8s_at _ k (by omega))
        rwa [add0] at this
      have hfD := own_frozen hown k
      have hset := dRow_set A B C n k hlt
      generalize A[k]?.getD 0 = x at *
      generalize B[k]?.getD 0 = y at *
      generalize C[k]?.getD 0 = z at *
      have hx1 := u8_xor_nat x y hxA hxB
      have hx2 := u8_xor_nat (x ^^^ y) z (Nat.xor_lt_two_pow (n := 8) hxA hxB) hxC
      have hown2 := owns_set hown k (x ^^^ y ^^^ z)
      rw [hset] at hown2
      have hkA : (k : Int) < (A.length : Int) := by omega
      have hkB : (k : Int) < (B.length : Int) := by omega
      have hkC : (k : Int) < (C.length : Int) := by omega
      have hkn : (k : Int) < (n : Int) := by omega
      have hmx : Try.prog.follows .mixedOrders = true := by kernel_rfl
      have HO := (show Hid _ from hown2)
      clear hset hdl hown hown2 hnA hnB hnC
      generalize (dRow A B C n k)[k]?.getD 0 = dv at hcD
      go_wp2
      go_region
      go_wp2
      go_roundw
      case rel => exact ⟨k + 1, by omega, by go_num, owns_drew HO.out, (hK.trans (Keep.setCell (S := fun j => j = D) (p := ⟨D, k, none⟩) (Keep.refl _ wr) (fun _ => rfl) _) (fun i hi e => by have := HD.out; omega)).drew⟩
      case measure => simp [intOf]; omega
    · obtain rfl : k = n := by omega
      obtain ⟨hnA, hnB, hnC⟩ := HN.out
      rw [dRow_end] at hown
      have hxl := xor3_length A B C k
      have hxlt : ∀ j : Nat, (xor3 A B C k)[j]?.getD 0 < 256 := by have := dRow_lt A B C HA.out.lt HB.out.lt HC.out.lt k k; rwa [dRow_end] at this
      have hBD : Bytes wr (some ⟨D, 0, none⟩) k D 0 (xor3 A B C k) := Bytes.of_owns (by rw [hxl]; exact hown) hxlt (by omega)
      have cA := fun W (hW : Keep noBlock wr W) => crc32_any a0 cap0 g0 o0 (A.take k) W (((HA.out.keep hK (fun _ h => h)).take hnA).keep hW (fun _ h => h))
      have cB := fun W (hW : Keep noBlock wr W) => crc32_any a1 cap1 g1 o1 (B.take k) W (((HB.out.keep hK (fun _ h => h)).take hnB).keep hW (fun _ h => h))
      have cC := fun W (hW : Keep noBlock wr W) => crc32_any a2 cap2 g2 o2 (C.take k) W (((HC.out.keep hK (fun _ h => h)).take hnC).keep hW (fun _ h => h))
      have cD := fun W (hW : Keep noBlock wr W) => crc32_any (some ⟨D, 0, none⟩) k D 0 (xor3 A B C k) W (hBD.keep hW (fun _ h => h))
      have eA := fun W (hW : Keep noBlock wr W) => crc64_any a0 cap0 g0 o0 (A.take k) W (((HA.out.keep hK (fun _ h => h)).take hnA).keep hW (fun _ h => h))
      have eB := fun W (hW : Keep noBlock wr W) => crc64_any a1 cap1 g1 o1 (B.take k) W (((HB.out.keep hK (fun _ h => h)).take hnB).keep hW (fun _ h => h))
      have eC := fun W (hW : Keep noBlock wr W) => crc64_any a2 cap2 g2 o2 (C.take k) W (((HC.out.keep hK (fun _ h => h)).take hnC).keep hW (fun _ h => h))
      have eD := fun W (hW : Keep noBlock wr W) => crc64_any (some ⟨D, 0, none⟩) k D 0 (xor3 A B C k) W (hBD.keep hW (fun _ h => h))
      rw [take_len hnA] at cA eA
      rw [take_len hnB] at cB eB
      rw [take_len hnC] at cC eC
      rw [hxl] at cD eD
      have l32 := crc32_lin A B C k hnA hnB hnC
      have l64 := crc64_lin A B C k hnA hnB hnC
      have b1 := crc32_lt (take_lt HA.out.lt k)
      have b2 := crc32_lt (take_lt HB.out.lt k)
      have b3 := crc32_lt (take_lt HC.out.lt k)
      have f1 : crc64 (A.take k) < 2 ^ 64 := Nat.xor_lt_two_pow (in64_lt (take_lt HA.out.lt k)) (by decide)
      have f2 : crc64 (B.take k) < 2 ^ 64 := Nat.xor_lt_two_pow (in64_lt (take_lt HB.out.lt k)) (by decide)
      have f3 : crc64 (C.take k) < 2 ^ 64 := Nat.xor_lt_two_pow (in64_lt (take_lt HC.out.lt k)) (by decide)
      generalize crc32 (A.take k) = p at cA l32 b1
      generalize crc32 (B.take k) = q at cB l32 b2
      generalize crc32 (C.take k) = r at cC l32 b3
      generalize crc64 (A.take k) = s at eA l64 f1
      generalize crc64 (B.take k) = t at eB l64 f2
      generalize crc64 (C.take k) = u at eC l64 f3
      have x1 := u32_xor_nat p q b1 b2
      have x2 := u32_xor_nat (p ^^^ q) r (Nat.xor_lt_two_pow (n := 32) b1 b2) b3
      have y1 := u64_xor_nat s t f1 f2
      have y2 := u64_xor_nat (s ^^^ t) u (Nat.xor_lt_two_pow (n := 64) f1 f2) f3
      rw [l32] at x2
      rw [l64] at y2
      clear l32 l64
      generalize crc32 (xor3 A B C k) = v at cD x2
      generalize crc64 (xor3 A B C k) = z at eD y2
      have CA := (show Hid _ from cA)
      have CB := (show Hid _ from cB)
      have CC := (show Hid _ from cC)
      have CD := (show Hid _ from cD)
      have EA := (show Hid _ from eA)
      have EB := (show Hid _ from eB)
      have EC := (show Hid _ from eC)
      have ED := (show Hid _ from eD)
      have hc0 : (k : Int) ≤ (cap0 : Int) := by have := HA.out.cap; omega
      have hc1 : (k : Int) ≤ (cap1 : Int) := by have := HB.out.cap; omega
      have hc2 : (k : Int) ≤ (cap2 : Int) := by have := HC.out.cap; omega
      have hk0 : (0 : Int) ≤ (k : Int) := by omega
      have K0 : Keep noBlock wr wr.drew := (Keep.refl _ wr).drew
      clear cA cB cC cD eA eB eC eD hxl hxlt hBD hown hnA hnB hnC hlt hk b1 b2 b3 f1 f2 f3 HN
      go_wp2_with fail
      go_region_held3 (fun _ => True) (trivial) ((first
        | (go_at_call_of 10 (Value.slice a0 k cap0); refine (CA.out _ ?_).mono ?_; (first | exact keep_drewN wr 1 | exact keep_drewN wr _ | exact K0); rintro e v1 ⟨rfl, q1⟩; have k1 := (keep_drewN wr 1).trans' q1)
        | (go_at_call_of 10 (Value.slice a1 k cap1); refine (CB.out _ k1).mono ?_; rintro e v2 ⟨rfl, q2⟩; have k2 := k1.trans' q2)
        | (go_at_call_of 10 (Value.slice a2 k cap2); refine (CC.out _ k2).mono ?_; rintro e v3 ⟨rfl, q3⟩; have k3 := k2.trans' q3)
        | (go_at_call_of 10 (Value.slice (some ⟨D, 0, none⟩) k k); refine (CD.out _ k3).mono ?_; rintro e v4 ⟨rfl, q4⟩; have k4 := k3.trans' q4)
        | (go_at_call_of 12 (Value.slice a0 k cap0); refine (EA.out _ k4).mono ?_; rintro e v5 ⟨rfl, q5⟩; have k5 := k4.trans' q5)
        | (go_at_call_of 12 (Value.slice a1 k cap1); refine (EB.out _ k5).mono ?_; rintro e v6 ⟨rfl, q6⟩; have k6 := k5.trans' q6)
        | (go_at_call_of 12 (Value.slice a2 k cap2); refine (EC.out _ k6).mono ?_; rintro e v7 ⟨rfl, q7⟩; have k7 := k6.trans' q7)
        | (go_at_call_of 12 (Value.slice (some ⟨D, 0, none⟩) k k); refine (ED.out _ k7).mono ?_; rintro e v8 ⟨rfl, q8⟩; have k8 := k7.trans' q8)
        | (go_at_call 9; refine (wakes_any _).mono ?_; rintro e v9 ⟨rfl, q9⟩; have k9 := k8.trans' q9)))
      go_wp2
      go_ret
      exact ⟨rfl, hK.trans' (by first | exact k9 | exact k9.drew)⟩
end

end Go.Proofs.Ytoohkldhfkoocaa
