/-
  The program's CRCs: the table, a byte, what is told.
-/
import Derived.Test.YtoohkldhfkoocaaNums
import Derived.RangeFuncBox
namespace Go.Proofs.Ytoohkldhfkoocaa
open Go.RowKit Go.Shelf
set_option linter.unusedVariables false

theorem and1_u64 (y : Nat) (hy : y < 2 ^ 64) : bits .and .u64 (y : Int) 1 = ((y % 2 : Nat) : Int) := by
  rw [and_one_u64 _ (by omega) (by omega)]; simp
theorem xorHalf_u64 (y p : Nat) (hy : y < 2 ^ 64) (hp : p < 2 ^ 64) : bits .xor .u64 ((y : Int) / 2) (p : Int) = ((y / 2 ^^^ p : Nat) : Int) := by
  have := u64_xor_nat (y / 2) p (by omega) (by omega)
  simpa using this

set_option maxHeartbeats 400000 in
/-- eightSteps: what the eight steps of a byte make of a number. -/
theorem eight_any (x poly : Nat) (hp : poly < 2 ^ 64) (hx : x < 2 ^ 64) (w : World) :
    Calls Try.prog 27 #[.int .u64 (x : Int), .int .u64 (poly : Int)] w fun e w' => e = .returned (.int .u64 ((steps poly 8 x : Nat) : Int)) ∧ w' = w := by
  go_enter Try.func27, Try.ntmps27
  go_wp2_with fail
  go_loopw [6, 0] (fun i x' wr => ∃ k : Nat, k ≤ 8 ∧ i = .int .i64 k ∧ x' = .int .u64 ((steps poly k x : Nat) : Int) ∧ wr = w) (fun i _ _ => 8 - (intOf i).toNat)
  case atStart => exact ⟨0, by omega, rfl, rfl, rfl⟩
  case round =>
    obtain ⟨k, hk, rfl, rfl, rfl⟩ := hrel
    by_cases hlt : k < 8
    · have hy := steps_lt hp hx k
      have hs : steps poly (k + 1) x = step poly (steps poly k x) := rfl
      generalize steps poly k x = y at hy hs
      have hand := and1_u64 y hy
      have hxo := xorHalf_u64 y poly hy hp
      unfold step at hs
      rcases Nat.mod_two_eq_zero_or_one y with h | h
      · rw [h] at hand hs
        have HS := (show Hid _ from hs)
        clear hs h
        go_wp2
        go_roundw
        case rel => exact ⟨k + 1, by omega, by go_num, by rw [HS.out]; simp⟩
        case measure => simp [intOf]; omega
      · rw [h] at hand hs
        have HS := (show Hid _ from hs)
        clear hs h
        go_wp2
        go_roundw
        case rel => exact ⟨k + 1, by omega, by go_num, by rw [HS.out]; simp⟩
        case measure => simp [intOf]; omega
    · obtain rfl : k = 8 := by omega
      go_wp2
      go_ret
      exact ⟨rfl, rfl⟩

theorem eight_i (xi : Int) (x poly : Nat) (ex : xi = (x : Int)) (hp : poly < 2 ^ 64) (hx : x < 2 ^ 64) (w : World) :
    Calls Try.prog 27 #[.int .u64 xi, .int .u64 (poly : Int)] w fun e w' => e = .returned (.int .u64 ((steps poly 8 x : Nat) : Int)) ∧ w' = w := by
  subst ex
  exact eight_any x poly hp hx w
theorem wrap_u64_nat (k : Nat) (hk : k < 2 ^ 64) : IntKind.u64.wrap (k : Int) = (k : Int) := by
  rw [IntKind.wrap_u64]; omega

/-- A CRC's block as it is made: 256 zeros, the mask twice. -/
def crcZero (m : Int) : Array Value := ((List.replicate 256 (Value.int .u64 0)) ++ [Value.int .u64 m, Value.int .u64 m]).toArray
def build56 (parts : Array (Nat × Value)) : Sem Value := Instr.build 56 parts
theorem run_build56 (parts : Array (Nat × Value)) : Instr.build 56 parts = build56 parts := rfl
theorem build56_at (m : Int) (w : World) : (build56 #[(1, .int .u64 m), (2, .int .u64 m)]).run Try.prog w = .ok (.agg (crcZero m)) w :=
  run_build w 56 _ (crcZero m) (by kernel_rfl)

/-- A CRC's cells: the table as far as k, the mask, the number. -/
structure Tab (poly mask x k : Nat) (cs : Array Value) : Prop where
  size : cs.size = 258
  tab : ∀ i, i < k → cs[i]? = some (.int .u64 ((steps poly 8 i : Nat) : Int))
  rest : ∀ i, k ≤ i → i < 256 → ∃ u, cs[i]? = some (.int .u64 u)
  mask : cs[256]? = some (.int .u64 (mask : Int))
  num : cs[257]? = some (.int .u64 (x : Int))
theorem tab_zero (poly m n : Nat) (z : Value) (u : Int) (hz : z = .int .u64 u) (hn : n = 256) : Tab poly m m 0 ((List.replicate n z) ++ [Value.int .u64 (m : Int), Value.int .u64 (m : Int)]).toArray := by
  have e : 256 = n + 0 := by omega
  have e1 : 257 = n + 1 := by omega
  refine ⟨by simp; omega, fun i hi => by omega, fun i _ hi => ⟨u, ?_⟩, ?_, ?_⟩
  · have : i < n := by omega
    simp [this, List.getElem?_append, hz]
  · rw [e]; simp
  · rw [e1]; simp
theorem crcZero_tab (poly m : Nat) : Tab poly m m 0 (crcZero (m : Int)) := tab_zero poly m 256 _ 0 rfl rfl
theorem Tab.set {poly mask x k : Nat} {cs : Array Value} (h : Tab poly mask x k cs) (hk : k < 256) : Tab poly mask x (k + 1) (cs.setIfInBounds k (.int .u64 ((steps poly 8 k : Nat) : Int))) := by
  have hs := h.size
  refine ⟨by simp [hs], fun i hi => ?_, fun i hi hi2 => ?_, ?_, ?_⟩
  · rw [Array.getElem?_setIfInBounds]
    split
    · next e => subst e; rw [if_pos (by omega)]
    · exact h.tab i (by omega)
  · rw [Array.getElem?_setIfInBounds, if_neg (by omega)]; exact h.rest i (by omega) hi2
  · rw [Array.getElem?_setIfInBounds, if_neg (by omega)]; exact h.mask
  · rw [Array.getElem?_setIfInBounds, if_neg (by omega)]; exact h.num
theorem Tab.setNum {poly mask x : Nat} {cs : Array Value} (h : Tab poly mask x 256 cs) (y : Nat) : Tab poly mask y 256 (cs.setIfInBounds 257 (.int .u64 (y : Int))) := by
  have hs := h.size
  refine ⟨by simp [hs], fun i hi => ?_, fun i hi hi2 => by omega, ?_, ?_⟩
  · rw [Array.getElem?_setIfInBounds, if_neg (by omega)]; exact h.tab i hi
  · rw [Array.getElem?_setIfInBounds, if_neg (by omega)]; exact h.mask
  · rw [Array.getElem?_setIfInBounds, if_pos rfl, if_pos (by omega)]

/-- Block b is a CRC that stands at x. -/
def IsC (w : World) (b poly mask x : Nat) : Prop := ∃ cs, w.heap[b]? = some (.cells cs 56 (0, 0)) ∧ Tab poly mask x 256 cs

section
attribute [local go_sem ↓] run_build56
set_option maxRecDepth 10000 in
set_option maxHeartbeats 1000000 in
/-- newCRC: a new block with the table. -/
theorem newCRC_any (poly mask : Nat) (hp : poly < 2 ^ 64) (w : World) :
    Calls Try.prog 25 #[.int .u64 (poly : Int), .int .u64 (mask : Int)] w fun e w' => e = .returned (.pointer (some ⟨w.heap.size, 0, none⟩)) ∧ IsC w' w.heap.size poly mask mask ∧ Keep noBlock w w' := by
  have hb := build56_at (mask : Int)
  have hob : (w.alloc (.cells (crcZero (mask : Int)) 56)).heap[w.heap.size]? = some (.cells (crcZero (mask : Int)) 56 (0, 0)) := World.alloc_heap_new w _
  have hk0 : Keep noBlock w (w.alloc (.cells (crcZero (mask : Int)) 56)) := (Keep.refl _ w).alloc _
  have hmx : Try.prog.follows .mixedOrders = true := by kernel_rfl
  go_enter Try.func25, Try.ntmps25
  go_wp2_with fail
  have HO := (show Hid _ from hob)
  have HK := (show Hid _ from hk0)
  clear hob hk0 hb
  generalize w.alloc (.cells (crcZero (mask : Int)) 56) = W at HO HK ⊢
  generalize hB : w.heap.size = b at HO ⊢
  have HB := (show Hid _ from hB)
  clear hB
  go_loopw [11] (fun i wr => ∃ (k : Nat) (cs : Array Value), k ≤ 256 ∧ i = .int .i64 k ∧ wr.heap[b]? = some (.cells cs 56 (0, 0)) ∧ Tab poly mask mask k cs ∧ Keep noBlock w wr) (fun i _ => 256 - (intOf i).toNat)
  case atStart => exact ⟨0, _, by omega, rfl, HO.out, crcZero_tab poly mask, HK.out⟩
  case round =>
    obtain ⟨k, cs, hk, rfl, ho, ht, hkr⟩ := hrel
    by_cases hlt : k < 256
    · obtain ⟨u, hu⟩ := ht.rest k (by omega) hlt
      have hc : wr.cell? ⟨b, k, none⟩ = some (.int .u64 u) := (cell_of ho k).trans hu
      have hf := frozen_of ho k
      go_wp2_with fail
      go_region_with (go_at_call 27; refine (eight_i _ k poly (wrap_u64_nat k (by omega)) hp (by omega) _).mono ?_; rintro e w' ⟨rfl, rfl⟩)
      go_wp2
      go_roundw
      case rel => exact ⟨k + 1, _, by omega, by go_num, set_obj ho k _, ht.set hlt, (hkr.trans (Keep.setCell (S := fun j => j = b) (p := ⟨b, k, none⟩) (Keep.refl _ wr) (fun _ => rfl) _) (fun i hi e => by have := HB.out; omega)).drew⟩
      case measure => simp [intOf]; omega
    · obtain rfl : k = 256 := by omega
      go_wp2
      go_ret
      rw [HB.out]
      exact ⟨rfl, ⟨cs, ho, ht⟩, hkr⟩
end

theorem IsC.keep {w w' : World} {S : Nat → Prop} {b poly mask x : Nat} (h : IsC w b poly mask x) (hk : Keep S w w') (hS : ¬ S b) : IsC w' b poly mask x := by
  obtain ⟨cs, ho, ht⟩ := h
  exact ⟨cs, hk.obj ho hS, ht⟩
theorem IsC.lt {w : World} {b poly mask x : Nat} (h : IsC w b poly mask x) : b < w.heap.size := by
  obtain ⟨cs, ho, ht⟩ := h
  exact obj_lt ho

theorem keep_drewN (w : World) (n : Nat) : Keep noBlock w (w.drewN n) := ⟨rfl, rfl, rfl, Nat.le_refl _, fun _ _ _ => rfl⟩

set_option maxHeartbeats 1000000 in
/-- value: the number and the mask. -/
theorem crcValue_any (b poly mask x : Nat) (hm : mask < 2 ^ 64) (hx : x < 2 ^ 64) (w : World) (h : IsC w b poly mask x) :
    Calls Try.prog 44 #[.pointer (some ⟨b, 0, none⟩)] w fun e w' => e = .returned (.int .u64 ((x ^^^ mask : Nat) : Int)) ∧ ∃ n, w' = w.drewN n := by
  obtain ⟨cs, ho, ht⟩ := h
  have hc1 : w.cell? ⟨b, 256, none⟩ = some (.int .u64 (mask : Int)) := (cell_of ho 256).trans ht.mask
  have hc2 : w.cell? ⟨b, 257, none⟩ = some (.int .u64 (x : Int)) := (cell_of ho 257).trans ht.num
  have hxo := u64_xor_nat x mask hx hm
  go_enter Try.func44, Try.ntmps44
  go_wp2
  go_quiet (fail)
  go_wp2
  go_ret
  exact ⟨rfl, _, rfl⟩

theorem take_lt {bs : List Nat} (h : ∀ j : Nat, bs[j]?.getD 0 < 256) (k : Nat) : ∀ j : Nat, (bs.take k)[j]?.getD 0 < 256 := by
  intro j
  rw [List.getElem?_take]
  split
  · exact h j
  · decide
theorem bytesIn_take (poly x : Nat) (bs : List Nat) (k : Nat) (hk : k < bs.length) : bytesIn poly x (bs.take (k + 1)) = byteIn poly (bytesIn poly x (bs.take k)) (bs[k]?.getD 0) := by
  rw [List.take_add_one, bytesIn_append]
  simp [hk, bytesIn]

set_option maxHeartbeats 1000000 in
/-- add: bytes go in. -/
theorem crcAdd_any (b poly mask x : Nat) (hp : poly < 2 ^ 64) (hx : x < 2 ^ 64) (a : Option Addr) (cap gb off : Nat) (bs : List Nat) (hbs : ∀ j : Nat, bs[j]?.getD 0 < 256) (hfit : bs.length < 2 ^ 48) (w : World) (h : IsC w b poly mask x)
    (ha : a = some ⟨gb, off, none⟩ ∨ bs = []) (hcs : ∀ j, j < bs.length → w.cell? ⟨gb, off + j, none⟩ = some (.int .u8 ((bs[j]?.getD 0 : Nat) : Int))) (hne : gb ≠ b) :
    Calls Try.prog 43 #[.pointer (some ⟨b, 0, none⟩), .slice a bs.length cap] w fun e w' => e = .returned (.tuple #[]) ∧ IsC w' b poly mask (bytesIn poly x bs) ∧ Keep (fun k => k = b) w w' := by
  have HC := (show Hid _ from hcs)
  have HA := (show Hid _ from ha)
  have HX := (show Hid _ from hbs)
  clear hcs ha hbs
  go_enter Try.func43, Try.ntmps43
  go_wp2_with fail
  go_loopw [8] (fun i wr => ∃ (k : Nat), k ≤ bs.length ∧ i = .int .i64 k ∧ IsC wr b poly mask (bytesIn poly x (bs.take k)) ∧ Keep (fun k => k = b) w wr) (fun i _ => bs.length - (intOf i).toNat)
  case atStart => exact ⟨0, Nat.zero_le _, rfl, h, Keep.refl _ _⟩
  case round =>
    obtain ⟨k, hk, rfl, hC, hK⟩ := hrel
    by_cases hlt : k < bs.length
    · have hcv : wr.cell? ⟨gb, off + k, none⟩ = some (.int .u8 ((bs[k]?.getD 0 : Nat) : Int)) :=
        (World.cell?_of_block (hK.block gb (World.block_lt_of_cell? w ⟨gb, off + k, none⟩ (HC.out k hlt)) hne)).trans (HC.out k hlt)
      obtain rfl : a = some ⟨gb, off, none⟩ := HA.out.elim id (fun e => by subst e; simp at hlt)
      have hv := HX.out k
      have hstep := bytesIn_take poly x bs k hlt
      have hy : bytesIn poly x (bs.take k) < 2 ^ 64 := bytesIn_lt hp _ (fun j => Nat.lt_of_lt_of_le (take_lt HX.out k j) (by decide)) _ hx
      have HS := (show Hid _ from hstep)
      clear hstep
      generalize bs[k]?.getD 0 = v at hcv hv HS
      generalize bytesIn poly x (bs.take k) = y at hC hy HS
      obtain ⟨cs, ho, ht⟩ := hC
      have hc2 : wr.cell? ⟨b, 257, none⟩ = some (.int .u64 (y : Int)) := (cell_of ho 257).trans ht.num
      have hf2 := frozen_of ho 257
      have hi : y % 256 ^^^ v < 256 := Nat.xor_lt_two_pow (n := 8) (by omega) hv
      have hc1 : wr.cell? ⟨b, y % 256 ^^^ v, none⟩ = some (.int .u64 ((steps poly 8 (y % 256 ^^^ v) : Nat) : Int)) := (cell_of ho _).trans (ht.tab _ hi)
      have hx8 : bits .xor .u8 ((y : Int) % 256) (v : Int) = ((y % 256 ^^^ v : Nat) : Int) := by
        have := u8_xor_nat (y % 256) v (by omega) hv
        simpa using this
      have hst := steps_lt (k := 8) hp (Nat.lt_trans hi (by decide))
      have hx64 : bits .xor .u64 ((steps poly 8 (y % 256 ^^^ v) : Nat) : Int) ((y : Int) / 256) = ((byteIn poly y v : Nat) : Int) := by
        rw [byteIn_table]
        have := u64_xor_nat (steps poly 8 (y % 256 ^^^ v)) (y / 256) hst (by omega)
        simpa using this
      have hmx : Try.prog.follows .mixedOrders = true := by kernel_rfl
      generalize y % 256 ^^^ v = i at hc1 hx8 hx64 hi hst
      generalize steps poly 8 i = s at hc1 hx64 hst
      go_wp2
      go_region
      go_wp2
      go_roundw
      case rel => exact ⟨k + 1, by omega, by go_num, by rw [HS.out]; exact ⟨_, set_obj ho 257 _, ht.setNum _⟩, (hK.setCell (p := ⟨b, 257, none⟩) (fun _ => rfl) _).drew⟩
      case measure => simp [intOf]; omega
    · obtain rfl : k = bs.length := by omega
      rw [List.take_length] at hC
      go_wp2
      go_end0
      exact ⟨rfl, hC, hK⟩
end Go.Proofs.Ytoohkldhfkoocaa
