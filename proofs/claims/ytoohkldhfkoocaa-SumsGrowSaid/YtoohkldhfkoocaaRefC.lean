/-
  The document's own CRCs.
-/
import Derived.Test.YtoohkldhfkoocaaSum
namespace Go.Proofs.Ytoohkldhfkoocaa
open Go.RowKit Go.Shelf
set_option linter.unusedVariables false

theorem and1_u32 (y : Nat) (hy : y < 2 ^ 32) : bits .and .u32 (y : Int) 1 = ((y % 2 : Nat) : Int) := by
  have := u32_and_nat y 1 hy (by decide)
  rw [nat_mask1] at this
  exact this
theorem xorHalf_u32 (y : Nat) (hy : y < 2 ^ 32) : bits .xor .u32 ((y : Int) / 2) 3988292384 = ((y / 2 ^^^ P32 : Nat) : Int) := by
  have := u32_xor_nat (y / 2) P32 (by omega) (by decide)
  simpa [P32] using this
theorem xorHalf_64 (y : Nat) (hy : y < 2 ^ 64) : bits .xor .u64 ((y : Int) / 2) 14514072000185962306 = ((y / 2 ^^^ P64 : Nat) : Int) := by
  have := u64_xor_nat (y / 2) P64 (by omega) (by decide)
  simpa [P64] using this

theorem not_u32 (y : Nat) (hy : y < 2 ^ 32) : bits .xor .u32 IntKind.u32.max (y : Int) = ((y ^^^ M32 : Nat) : Int) := by
  have h := u32_xor_nat M32 y (by decide) hy
  rw [Nat.xor_comm] at h
  rw [← h]
  rfl
theorem not_u64 (y : Nat) (hy : y < 2 ^ 64) : bits .xor .u64 IntKind.u64.max (y : Int) = ((y ^^^ M64 : Nat) : Int) := by
  have h := u64_xor_nat M64 y (by decide) hy
  rw [Nat.xor_comm] at h
  rw [← h]
  rfl

set_option maxRecDepth 100000 in
set_option maxHeartbeats 1000000 in
theorem refCrc32_any (a : Option Addr) (cap gb off : Nat) (bs : List Nat) (w : World) (hb : Bytes w a cap gb off bs) :
    Calls Try.prog 11 #[.slice a bs.length cap] w fun e w' => e = .returned (.int .u32 ((crc32 bs : Nat) : Int)) ∧ w' = w := by
  have HB := (show Hid _ from hb)
  have hlen := hb.len
  clear hb
  go_enter Try.func11, Try.ntmps11
  go_wp2_with fail
  go_loopw [4, 3] (fun i x wr => ∃ k : Nat, k ≤ bs.length ∧ i = .int .i64 k ∧ x = .int .u32 ((bytesIn P32 M32 (bs.take k) : Nat) : Int) ∧ wr = w) (fun i _ _ => bs.length - (intOf i).toNat)
  case atStart => exact ⟨0, Nat.zero_le _, rfl, by simp [bytesIn, M32], rfl⟩
  case round =>
    obtain ⟨k, hk, rfl, rfl, rfl⟩ := hrel
    by_cases hlt : k < bs.length
    · have hcv := HB.out.cells k hlt
      obtain rfl : a = some ⟨gb, off, none⟩ := HB.out.at_.elim id (fun e => by subst e; simp at hlt)
      have hv := HB.out.lt k
      have hy : bytesIn P32 M32 (bs.take k) < 2 ^ 32 := in32_lt (take_lt HB.out.lt k)
      have HS := (show Hid _ from bytesIn_take P32 M32 bs k hlt)
      generalize bs[k]?.getD 0 = v at hcv hv HS
      generalize bytesIn P32 M32 (bs.take k) = y at hy HS
      have hxo := u32_xor_nat y v hy (by omega)
      have hz : y ^^^ v < 2 ^ 32 := Nat.xor_lt_two_pow hy (by omega)
      have hbi : byteIn P32 y v = steps P32 8 (y ^^^ v) := rfl
      rw [hbi] at HS
      clear hbi
      generalize y ^^^ v = z at hxo hz HS
      go_wp2_with fail
      go_loopw [5, 3] (fun i x wr' => ∃ j : Nat, j ≤ 8 ∧ i = .int .i64 j ∧ x = .int .u32 ((steps P32 j z : Nat) : Int) ∧ wr' = wr) (fun i _ _ => 8 - (intOf i).toNat)
      case atStart => exact ⟨0, by omega, rfl, rfl, rfl⟩
      case round =>
        obtain ⟨j, hj, rfl, rfl, rfl⟩ := hrel
        by_cases hlt2 : j < 8
        · have hu := steps_lt (n := 32) (poly := P32) (by decide) hz j
          have hs : steps P32 (j + 1) z = step P32 (steps P32 j z) := rfl
          generalize steps P32 j z = u at hu hs
          have hand := and1_u32 u hu
          have hxh := xorHalf_u32 u hu
          unfold step at hs
          rcases Nat.mod_two_eq_zero_or_one u with h | h
          · rw [h] at hand hs
            have HS2 := (show Hid _ from hs)
            clear hs h
            go_wp2
            go_roundw
            case rel => exact ⟨j + 1, by omega, by go_num, by rw [HS2.out]; simp⟩
            case measure => simp [intOf]; omega
          · rw [h] at hand hs
            have HS2 := (show Hid _ from hs)
            clear hs h
            go_wp2
            go_roundw
            case rel => exact ⟨j + 1, by omega, by go_num, by rw [HS2.out]; simp⟩
            case measure => simp [intOf]; omega
        · obtain rfl : j = 8 := by omega
          go_wp2
          go_roundw
          case rel => exact ⟨k + 1, by omega, by go_num, by first | (rw [HS.out]; done) | (rw [HS.out]; simp; done) | (rw [HS.out]; exact ⟨rfl, trivial⟩)⟩
          case measure => simp [intOf]; omega
    · obtain rfl : k = bs.length := by omega
      have hy := in32_lt HB.out.lt
      rw [List.take_length]
      have hc : crc32 bs = bytesIn P32 M32 bs ^^^ M32 := rfl
      generalize bytesIn P32 M32 bs = y at hy hc ⊢
      go_wp2
      go_ret
      exact ⟨congrArg (fun z => Ending.returned (Value.int .u32 z)) (not_u32 y hy), rfl⟩

set_option maxRecDepth 100000 in
set_option maxHeartbeats 1000000 in
theorem refCrc64_any (a : Option Addr) (cap gb off : Nat) (bs : List Nat) (w : World) (hb : Bytes w a cap gb off bs) :
    Calls Try.prog 13 #[.slice a bs.length cap] w fun e w' => e = .returned (.int .u64 ((crc64 bs : Nat) : Int)) ∧ w' = w := by
  have HB := (show Hid _ from hb)
  have hlen := hb.len
  clear hb
  go_enter Try.func13, Try.ntmps13
  go_wp2_with fail
  go_loopw [4, 3] (fun i x wr => ∃ k : Nat, k ≤ bs.length ∧ i = .int .i64 k ∧ x = .int .u64 ((bytesIn P64 M64 (bs.take k) : Nat) : Int) ∧ wr = w) (fun i _ _ => bs.length - (intOf i).toNat)
  case atStart => exact ⟨0, Nat.zero_le _, rfl, by simp [bytesIn, M64], rfl⟩
  case round =>
    obtain ⟨k, hk, rfl, rfl, rfl⟩ := hrel
    by_cases hlt : k < bs.length
    · have hcv := HB.out.cells k hlt
      obtain rfl : a = some ⟨gb, off, none⟩ := HB.out.at_.elim id (fun e => by subst e; simp at hlt)
      have hv := HB.out.lt k
      have hy : bytesIn P64 M64 (bs.take k) < 2 ^ 64 := in64_lt (take_lt HB.out.lt k)
      have HS := (show Hid _ from bytesIn_take P64 M64 bs k hlt)
      generalize bs[k]?.getD 0 = v at hcv hv HS
      generalize bytesIn P64 M64 (bs.take k) = y at hy HS
      have hxo := u64_xor_nat y v hy (by omega)
      have hz : y ^^^ v < 2 ^ 64 := Nat.xor_lt_two_pow hy (by omega)
      have hbi : byteIn P64 y v = steps P64 8 (y ^^^ v) := rfl
      rw [hbi] at HS
      clear hbi
      generalize y ^^^ v = z at hxo hz HS
      go_wp2_with fail
      go_loopw [5, 3] (fun i x wr' => ∃ j : Nat, j ≤ 8 ∧ i = .int .i64 j ∧ x = .int .u64 ((steps P64 j z : Nat) : Int) ∧ wr' = wr) (fun i _ _ => 8 - (intOf i).toNat)
      case atStart => exact ⟨0, by omega, rfl, rfl, rfl⟩
      case round =>
        obtain ⟨j, hj, rfl, rfl, rfl⟩ := hrel
        by_cases hlt2 : j < 8
        · have hu := steps_lt (n := 64) (poly := P64) (by decide) hz j
          have hs : steps P64 (j + 1) z = step P64 (steps P64 j z) := rfl
          generalize steps P64 j z = u at hu hs
          have hand := and1_u64 u hu
          have hxh := xorHalf_64 u hu
          unfold step at hs
          rcases Nat.mod_two_eq_zero_or_one u with h | h
          · rw [h] at hand hs
            have HS2 := (show Hid _ from hs)
            clear hs h
            go_wp2
            go_roundw
            case rel => exact ⟨j + 1, by omega, by go_num, by rw [HS2.out]; simp⟩
            case measure => simp [intOf]; omega
          · rw [h] at hand hs
            have HS2 := (show Hid _ from hs)
            clear hs h
            go_wp2
            go_roundw
            case rel => exact ⟨j + 1, by omega, by go_num, by rw [HS2.out]; simp⟩
            case measure => simp [intOf]; omega
        · obtain rfl : j = 8 := by omega
          go_wp2
          go_roundw
          case rel => exact ⟨k + 1, by omega, by go_num, by first | (rw [HS.out]; done) | (rw [HS.out]; simp; done) | (rw [HS.out]; exact ⟨rfl, trivial⟩)⟩
          case measure => simp [intOf]; omega
    · obtain rfl : k = bs.length := by omega
      have hy := in64_lt HB.out.lt
      rw [List.take_length]
      have hc : crc64 bs = bytesIn P64 M64 bs ^^^ M64 := rfl
      generalize bytesIn P64 M64 bs = y at hy hc ⊢
      go_wp2
      go_ret
      exact ⟨congrArg (fun z => Ending.returned (Value.int .u64 z)) (not_u64 y hy), rfl⟩

end Go.Proofs.Ytoohkldhfkoocaa
