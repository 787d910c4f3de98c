/-
  The document's decoder: a new one.
-/
import Derived.Test.YtfhgbggcpoingaaRde
namespace Go.Proofs.Ytfhgbggcpoingaa
open Go.RowKit Go.Shelf
set_option linter.unusedVariables false

theorem four_bytes (x1 x2 x3 x4 : Nat) (h1 : x1 < 256) (h2 : x2 < 256) (h3 : x3 < 256) (h4 : x4 < 256) :
    bits .or .u32 (bits .or .u32 (bits .or .u32 ((x1 : Int) * 16777216) ((x2 : Int) * 65536)) ((x3 : Int) * 256)) (x4 : Int) = ((((x1 * 256 + x2) * 256 + x3) * 256 + x4 : Nat) : Int) := by
  have e1 : bits .or .u32 ((x1 : Int) * 16777216) ((x2 : Int) * 65536) = ((x1 * 16777216 + x2 * 65536 : Nat) : Int) := by
    have := u32_or_nat (x1 * 16777216) (x2 * 65536) (by omega) (by omega)
    rw [nat_join 24 _ _ (by omega) (by omega)] at this
    simpa using this
  have e2 : bits .or .u32 ((x1 * 16777216 + x2 * 65536 : Nat) : Int) ((x3 : Int) * 256) = ((x1 * 16777216 + x2 * 65536 + x3 * 256 : Nat) : Int) := by
    have := u32_or_nat (x1 * 16777216 + x2 * 65536) (x3 * 256) (by omega) (by omega)
    rw [nat_join 16 _ _ (by omega) (by omega)] at this
    simpa using this
  rw [e1, e2, u32_or_nat _ _ (by omega) (by omega), nat_join 8 _ _ (by omega) (by omega), show x1 * 16777216 + x2 * 65536 + x3 * 256 + x4 = ((x1 * 256 + x2) * 256 + x3) * 256 + x4 from by omega]

theorem newQ_short (a : Option Addr) (cap gb off : Nat) (bs : List Nat) (w : World) (hB : Bytes w a cap gb off bs) (hl : bs.length < 5) :
    Calls Try.prog 10 #[.slice a bs.length cap] w fun e w' => e = .returned (.tuple #[.pointer none, .int .i64 10]) ∧ w' = w := by
  have hI : (bs.length : Int) < 5 := by omega
  generalize bs.length = n at *
  clear hB hl
  go_enter Try.func10, Try.ntmps10
  go_wp2
  exact bodyPost_ret (v := .tuple #[.pointer none, .int .i64 10]) (by simp [results, Try.results10]) rfl ⟨rfl, rfl⟩
set_option maxHeartbeats 1000000 in
theorem newQ_bad (a : Option Addr) (cap gb off : Nat) (bs : List Nat) (w : World) (hB : Bytes w a cap gb off bs) (hl : 5 ≤ bs.length) (h0 : bs[0]?.getD 0 ≠ 0) :
    Calls Try.prog 10 #[.slice a bs.length cap] w fun e w' => e = .returned (.tuple #[.pointer none, .int .i64 11]) ∧ w' = w := by
  have hI : ¬ (bs.length : Int) < 5 := by omega
  have hI2 : (0 : Int) < (bs.length : Int) := by omega
  have hc := hB.cells 0 (by omega)
  rw [Nat.add_zero] at hc
  obtain rfl : a = some ⟨gb, off, none⟩ := by
    rcases hB.at_ with e | e
    · exact e
    · rw [e] at hl; simp at hl
  have hn : (((bs[0]?.getD 0 : Nat) : Int) != 0) = true := by simp; omega
  have hlt := hB.lt 0
  have hl2 : bs.length < 2 ^ 48 := hB.len
  generalize bs[0]?.getD 0 = x at *
  generalize bs.length = n at *
  clear hB h0
  go_enter Try.func10, Try.ntmps10
  go_wp2
  exact bodyPost_ret (v := .tuple #[.pointer none, .int .i64 11]) (by simp [results, Try.results10]) rfl ⟨rfl, rfl⟩
theorem newD_code {bs : List Nat} (h5 : 5 ≤ bs.length) : val ((bs.drop 1).take 4) = ((bs[1]?.getD 0 * 256 + bs[2]?.getD 0) * 256 + bs[3]?.getD 0) * 256 + bs[4]?.getD 0 := by
  match bs, h5 with
  | x0 :: x1 :: x2 :: x3 :: x4 :: r, _ =>
    simp [val]
section
attribute [local go_sem] sliceSem_eq
set_option maxHeartbeats 2000000 in
theorem newQ_good (a : Option Addr) (cap gb off : Nat) (bs : List Nat) (w : World) (hB : Bytes w a cap gb off bs) (hl : 5 ≤ bs.length) (h0 : bs[0]?.getD 0 = 0) :
    Calls Try.prog 10 #[.slice a bs.length cap] w fun e w' => ∃ b, e = .returned (.tuple #[.pointer (some ⟨b, 0, none⟩), .int .i64 0]) ∧ w.heap.size ≤ b ∧ IsQ w' b gb (newD bs) ∧ Keep noBlock w w' := by
  have hI : ¬ (bs.length : Int) < 5 := by omega
  have hI2 : (0 : Int) < (bs.length : Int) := by omega
  have i1 : (1 : Int) < (bs.length : Int) := by omega
  have i2 : (2 : Int) < (bs.length : Int) := by omega
  have i3 : (3 : Int) < (bs.length : Int) := by omega
  have i4 : (4 : Int) < (bs.length : Int) := by omega
  have hc := hB.cells 0 (by omega)
  rw [Nat.add_zero, h0] at hc
  rw [show (((0 : Nat) : Int)) = (0 : Int) from rfl] at hc
  have hc1 := hB.cells 1 (by omega)
  have hc2 := hB.cells 2 (by omega)
  have hc3 := hB.cells 3 (by omega)
  have hc4 := hB.cells 4 (by omega)
  obtain rfl : a = some ⟨gb, off, none⟩ := by
    rcases hB.at_ with e | e
    · exact e
    · rw [e] at hl; simp at hl
  obtain ⟨a', off', hsl, hB', -⟩ := hB.drop 5 (by omega)
  rw [show (((5 : Nat) : Int)) = (5 : Int) from rfl] at hsl
  have hgb := hB.block (by rintro rfl; simp at hl)
  have hcd := newD_code hl
  have l1 := hB.lt 1
  have l2 := hB.lt 2
  have l3 := hB.lt 3
  have l4 := hB.lt 4
  have hfour := four_bytes _ _ _ _ l1 l2 l3 l4
  rw [← hcd] at hfour
  have HD := (show Hid (∀ nq : Nat, IsQ ((w.drewN nq).alloc (.cells #[.slice a' (bs.drop 5).length (cap - 5), .int .u32 4294967295, .int .u32 ((val ((bs.drop 1).take 4) : Nat) : Int), .bool false] 60)) w.heap.size gb (newD bs) ∧ Keep noBlock w ((w.drewN nq).alloc (.cells #[.slice a' (bs.drop 5).length (cap - 5), .int .u32 4294967295, .int .u32 ((val ((bs.drop 1).take 4) : Nat) : Int), .bool false] 60))) from by
    intro nq
    have hk : Keep noBlock w (w.drewN nq) := ⟨rfl, rfl, rfl, Nat.le_refl _, fun _ _ _ => rfl⟩
    have hka := hk.alloc (.cells #[.slice a' (bs.drop 5).length (cap - 5), .int .u32 4294967295, .int .u32 ((val ((bs.drop 1).take 4) : Nat) : Int), .bool false] 60)
    refine ⟨⟨⟨a', cap - 5, off', alloc_new (w.drewN nq) _, hB'.keep hka (fun _ h => h)⟩, by omega, ⟨by show 4294967295 < 4294967296; omega, ?_⟩⟩, hka⟩
    show val ((bs.drop 1).take 4) < _
    rw [hcd]
    omega)
  have hl2 : bs.length < 2 ^ 48 := hB.len
  generalize val ((bs.drop 1).take 4) = V at *
  generalize bs[1]?.getD 0 = x1 at *
  generalize bs[2]?.getD 0 = x2 at *
  generalize bs[3]?.getD 0 = x3 at *
  generalize bs[4]?.getD 0 = x4 at *
  generalize (bs.drop 5).length = rn at *
  generalize newD bs = N at *
  generalize bs.length = n at *
  clear hB hB' h0 hl hcd
  go_enter Try.func10, Try.ntmps10
  go_wp2_with fail
  go_quiet (fail)
  go_wp2_with fail
  refine bodyPost_ret (v := .tuple #[.pointer (some ⟨w.heap.size, 0, none⟩), .int .i64 0]) (by simp [results, Try.results10]) rfl ?_
  exact ⟨w.heap.size, rfl, Nat.le_refl _, HD.out _⟩
end

end Go.Proofs.Ytfhgbggcpoingaa
