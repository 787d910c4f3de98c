/-
  What came in: slices of integers, as the rows hand them on.
-/
import Derived.Test.YtoohkldhfkoocaaRows
import Derived.WalkKit
import Derived.ProofKit
import Derived.OpenShut
import Derived.ShutString
import Derived.ChangeOld
import Derived.Below
import Derived.SizedLaws
import Derived.Test.YtoohkldhfkoocaaWakes
namespace Go.Proofs.Ytoohkldhfkoocaa
open Go.ChangeShapes Go.WideShapes Go.ChangeAt Go.RowKit
set_option linter.unusedVariables false

theorem own : ownKnob Try.prog.godebug = none := by kernel_rfl
theorem bytes5 : Try.prog.bytesOf 5 = 1 := by kernel_rfl
theorem bytes3 : Try.prog.bytesOf 3 = 8 := by kernel_rfl
theorem laidOut : laidOutB Try.prog = true := by kernel_rfl

/-- A slice of integers that came in: nil, or a row of cap cells that hold zs. -/
def IsRow (k : IntKind) (w : World) (a : Option Addr) (len cap : Nat) (zs : List Int) : Prop :=
  (a = none ∧ len = 0 ∧ cap = 0 ∧ zs = []) ∨
  ∃ x, a = some x ∧ len ≤ cap ∧ cap ≤ maxLen ∧ zs.length = cap ∧ (∀ i, i < zs.length → w.cell? (x.add i) = some (.int k (zs.getD i 0))) ∧ ∀ n ∈ zs, (Lit.int k n).wf = true

/-- A slice of integers that came in: the row's address, where it has elements. -/
theorem row_open {k : IntKind} {w : World} {a : Option Addr} {len cap : Nat} {zs : List Int} (h : IsRow k w a len cap zs) :
    ∃ b off, (a = some ⟨b, off, none⟩ ∨ len = 0) ∧ ∀ j, j < len → w.cell? ⟨b, off + j, none⟩ = some (.int k (zs[j]?.getD 0)) := by
  rcases h with ⟨rfl, rfl, rfl, rfl⟩ | ⟨x, rfl, hl, hm, hz, hc, hw⟩
  · exact ⟨0, 0, .inr rfl, fun j hj => by omega⟩
  · by_cases h0 : len = 0
    · exact ⟨0, 0, .inr h0, fun j hj => by omega⟩
    · obtain ⟨b, off, spot⟩ := x
      have hc0 := hc 0 (by omega)
      have hspot : spot = none := by simpa [Addr.add] using World.cell?_spot hc0
      subst hspot
      refine ⟨b, off, .inl rfl, fun j hj => ?_⟩
      have h1 := hc j (by omega)
      rw [show (⟨b, off, none⟩ : Addr).add j = ⟨b, off + j, none⟩ from by unfold Addr.add; split <;> simp_all] at h1
      rw [h1]; simp [List.getD]

/-- The bytes of a slice that came in. -/
def bytesOf (len : Nat) (zs : List Int) : List Nat := (zs.take len).map Int.toNat
theorem u8_of_wf {n : Int} (h : (Lit.int .u8 n).wf = true) : 0 ≤ n ∧ n < 256 := by
  have := bounds_u8 h
  omega
theorem bytesOf_length {w : World} {a : Option Addr} {len cap : Nat} {zs : List Int} (h : IsRow .u8 w a len cap zs) : (bytesOf len zs).length = len := by
  rcases h with ⟨rfl, rfl, rfl, rfl⟩ | ⟨x, rfl, hl, hm, hz, hc, hw⟩
  · rfl
  · simp [bytesOf]; omega
theorem bytesOf_at {w : World} {a : Option Addr} {len cap : Nat} {zs : List Int} (h : IsRow .u8 w a len cap zs) (j : Nat) (hj : j < len) : (((bytesOf len zs)[j]?.getD 0 : Nat) : Int) = zs[j]?.getD 0 := by
  rcases h with ⟨rfl, rfl, rfl, rfl⟩ | ⟨x, rfl, hl, hm, hz, hc, hw⟩
  · omega
  · have hjz : j < zs.length := by omega
    have hwf := u8_of_wf (hw zs[j] (List.getElem_mem hjz))
    simp only [bytesOf, List.getElem?_map, List.getElem?_take, hj, if_true, List.getElem?_eq_getElem hjz, Option.map_some, Option.getD_some]
    omega
theorem bytesOf_lt {w : World} {a : Option Addr} {len cap : Nat} {zs : List Int} (h : IsRow .u8 w a len cap zs) (j : Nat) : (bytesOf len zs)[j]?.getD 0 < 256 := by
  have hl := bytesOf_length h
  by_cases hj : j < len
  · rcases h with ⟨rfl, rfl, rfl, rfl⟩ | ⟨x, rfl, hl, hm, hz, hc, hw⟩
    · omega
    · have hjz : j < zs.length := by omega
      have hwf := u8_of_wf (hw zs[j] (List.getElem_mem hjz))
      simp only [bytesOf, List.getElem?_map, List.getElem?_take, hj, if_true, List.getElem?_eq_getElem hjz, Option.map_some, Option.getD_some]
      omega
  · rw [List.getElem?_eq_none (by omega)]; decide

theorem bytes_of_row {w : World} {a : Option Addr} {len cap : Nat} {zs : List Int} (h : IsRow .u8 w a len cap zs) (hr : len ≤ 140737488351232) : ∃ gb off, Bytes w a cap gb off (bytesOf len zs) := by
  obtain ⟨b, off, ha, hc⟩ := row_open h
  have hl := bytesOf_length h
  have hat := bytesOf_at h
  have hlt := bytesOf_lt h
  refine ⟨b, off, ha.imp id (fun e => List.length_eq_zero_iff.1 (by omega)), fun j hj => by rw [hc j (by omega), hat j (by omega)], hlt, ?_, by omega⟩
  rcases h with ⟨rfl, rfl, rfl, rfl⟩ | ⟨x, rfl, hl0, hm, hz, hcz, hw⟩
  · omega
  · omega

end Go.Proofs.Ytoohkldhfkoocaa
