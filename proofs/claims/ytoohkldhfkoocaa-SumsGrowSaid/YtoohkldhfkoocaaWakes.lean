/-
  What the statements' own example comes to: true.
-/
import Derived.Test.YtoohkldhfkoocaaSum
import Derived.Lib.SmallJoins
namespace Go.Proofs.Ytoohkldhfkoocaa
open Go.RowKit Go.Shelf
set_option linter.unusedVariables false

def nine : List Nat := [49, 50, 51, 52, 53, 54, 55, 56, 57]
theorem wk1 : crc32 [49, 50, 51, 52, 53, 54, 55, 56, 57] = 3421780262 := by decide +kernel
theorem wk2 : crc64 [49, 50, 51, 52, 53, 54, 55, 56, 57] = 11051210869376104954 := by decide +kernel
theorem wk3 : xxh [] = 17241709254077376921 := by decide +kernel
theorem wk4 : xxh [97, 98, 99] = 4952883123889572249 := by decide +kernel
theorem wk5 : xxh [97] = 15154266338359012955 := by decide +kernel

theorem bytes_new (w : World) (bs : List Nat) (fr : Nat × Nat) (hlt : ∀ j : Nat, bs[j]?.getD 0 < 256) (hl : bs.length < 2 ^ 48) : Bytes (w.alloc (.cells (u8s bs).toArray 5 fr)) (some ⟨w.heap.size, 0, none⟩) bs.length w.heap.size 0 bs :=
  ⟨.inl rfl, fun j hj => by rw [Joins.cell_of_block (World.alloc_heap_new w _), Nat.zero_add, List.getElem?_toArray, u8s_at bs j hj], hlt, Nat.le_refl _, hl⟩
theorem lt256 (bs : List Nat) (h : ∀ b ∈ bs, b < 256) (j : Nat) : bs[j]?.getD 0 < 256 := by
  by_cases hj : j < bs.length
  · rw [List.getElem?_eq_getElem hj]; exact h _ (List.getElem_mem hj)
  · rw [List.getElem?_eq_none (by omega)]; decide
theorem bytes_nil (w : World) : Bytes w none 0 0 0 [] := ⟨.inr rfl, fun j hj => by simp at hj, fun j => by simp, Nat.le_refl _, by decide⟩

set_option maxRecDepth 100000 in
set_option maxHeartbeats 1000000 in
theorem wakes_any (w : World) : Calls Try.prog 9 #[] w fun e w' => e = .returned (.bool true) ∧ Keep noBlock w w' := by
  have hB : Bytes (w.alloc (.cells #[.int .u8 49, .int .u8 50, .int .u8 51, .int .u8 52, .int .u8 53, .int .u8 54, .int .u8 55, .int .u8 56, .int .u8 57] 5 (9, 10))) (some ⟨w.heap.size, 0, none⟩) 9 w.heap.size 0 [49, 50, 51, 52, 53, 54, 55, 56, 57] :=
    bytes_new w [49, 50, 51, 52, 53, 54, 55, 56, 57] (9, 10) (lt256 _ (by decide)) (by decide)
  have hK0 : Keep noBlock w (w.alloc (.cells #[.int .u8 49, .int .u8 50, .int .u8 51, .int .u8 52, .int .u8 53, .int .u8 54, .int .u8 55, .int .u8 56, .int .u8 57] 5 (9, 10))) := (Keep.refl _ w).alloc _
  have HB := (show Hid _ from hB)
  clear hB
  have hcv := fun (w : World) (C : Array Value) (n c : Nat) => Lib.run_convert_bytes_const (P := Try.prog) w 22 5 C n c Try.underlying22 Try.underlying5
  go_enter Try.func9, Try.ntmps9
  go_wp2_with fail
  refine (crc32_any (some ⟨w.heap.size, 0, none⟩) 9 w.heap.size 0 [49, 50, 51, 52, 53, 54, 55, 56, 57] _ HB.out).mono ?_
  rintro e w1 ⟨rfl, hK1⟩
  rw [wk1]
  have HB1 := (show Hid _ from HB.out.keep hK1 (fun _ h => h))
  have hK2 := hK0.trans' hK1
  clear hK0 hK1 HB
  go_wp2_with fail
  refine (crc64_any (some ⟨w.heap.size, 0, none⟩) 9 w.heap.size 0 [49, 50, 51, 52, 53, 54, 55, 56, 57] _ HB1.out).mono ?_
  rintro e w2 ⟨rfl, hK1⟩
  rw [wk2]
  have hK3 := hK2.trans' hK1
  clear hK2 hK1 HB1
  go_wp2_with fail
  refine (xxh_any none 0 0 0 [] _ (bytes_nil _)).mono ?_
  rintro e w3 ⟨rfl, hK1⟩
  rw [wk3]
  have hK4 := hK3.trans' hK1
  clear hK3 hK1
  go_wp2_with fail
  refine (xxh_any (some ⟨w3.heap.size, 0, none⟩) 3 w3.heap.size 0 [97, 98, 99] _ (bytes_new w3 [97, 98, 99] _ (lt256 _ (by decide)) (by decide))).mono ?_
  rintro e w4 ⟨rfl, hK1⟩
  rw [wk4]
  have hK5 := (hK4.alloc _).trans' hK1
  clear hK4 hK1
  go_wp2_with fail
  refine (xxh_any (some ⟨w4.heap.size, 0, none⟩) 1 w4.heap.size 0 [97] _ (bytes_new w4 [97] _ (lt256 _ (by decide)) (by decide))).mono ?_
  rintro e w5 ⟨rfl, hK1⟩
  rw [wk5]
  have hK6 := (hK5.alloc _).trans' hK1
  clear hK5 hK1
  go_wp2_with fail
  go_ret
  exact ⟨rfl, hK6⟩

end Go.Proofs.Ytoohkldhfkoocaa
