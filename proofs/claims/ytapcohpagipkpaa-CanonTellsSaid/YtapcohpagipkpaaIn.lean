/-
  What came in: slices of integers, as the rows hand them on.
-/
import Derived.Test.YtapcohpagipkpaaRows
import Derived.WalkKit
import Derived.ProofKit
import Derived.OpenShut
import Derived.ShutString
import Derived.ChangeOld
import Derived.Below
import Derived.SizedLaws
import Derived.Test.YtapcohpagipkpaaCmp
namespace Go.Proofs.Ytapcohpagipkpaa
open Go.ChangeShapes Go.WideShapes Go.ChangeAt Go.RowKit
set_option linter.unusedVariables false

theorem own : ownKnob Try.prog.godebug = none := by kernel_rfl
theorem bytes5 : Try.prog.bytesOf 5 = 1 := by kernel_rfl
theorem bytes3 : Try.prog.bytesOf 3 = 8 := by kernel_rfl
theorem bytes59 : Try.prog.bytesOf 59 = 4 := by kernel_rfl
theorem laidOut : laidOutB Try.prog = true := by kernel_rfl

/-- A slice of integers that came in: nil, or a row of cap cells that hold zs. -/
def IsRow (k : IntKind) (w : World) (a : Option Addr) (len cap : Nat) (zs : List Int) : Prop :=
  (a = none ∧ len = 0 ∧ cap = 0 ∧ zs = []) ∨
  ∃ x, a = some x ∧ len ≤ cap ∧ cap ≤ maxLen ∧ zs.length = cap ∧ (∀ i, i < zs.length → w.cell? (x.add i) = some (.int k (zs.getD i 0))) ∧ ∀ n ∈ zs, (Lit.int k n).wf = true

theorem row_open {k : IntKind} {w : World} {a : Option Addr} {len cap : Nat} {zs : List Int} (h : IsRow k w a len cap zs) :
    ∃ b off, (a = some ⟨b, off, none⟩ ∨ len = 0) ∧ ∀ j, j < len → w.cell? ⟨b, off + j, none⟩ = some (.int k (zs[j]?.getD 0)) := by
  rcases h with ⟨rfl, rfl, rfl, rfl⟩ | ⟨x, rfl, hl, hm, hz, hc, hw⟩
  · exact ⟨0, 0, .inr rfl, fun j hj => by omega⟩
  · by_cases h0 : len = 0
    · exact ⟨0, 0, .inr h0, fun j hj => by omega⟩
    · obtain ⟨b, off, spot⟩ := x
      have hc0 := hc 0 (by omega)
      have hspot : spot = none := by simpa [Addr.add] using World.cell?_spot hc0
      subst hspot
      refine ⟨b, off, .inl rfl, fun j hj => ?_⟩
      have h1 := hc j (by omega)
      rw [show (⟨b, off, none⟩ : Addr).add j = ⟨b, off + j, none⟩ from by unfold Addr.add; split <;> simp_all] at h1
      rw [h1]; simp [List.getD]

theorem u8_of_wf {n : Int} (h : (Lit.int .u8 n).wf = true) : 0 ≤ n ∧ n < 256 := by
  have := bounds_u8 h
  omega
theorem u32_of_wf {n : Int} (h : (Lit.int .u32 n).wf = true) : 0 ≤ n ∧ n < 4294967296 := by
  have := bounds_u32 h
  omega

/-- The numbers of a slice that came in. -/
def numsOf (len : Nat) (zs : List Int) : List Nat := (zs.take len).map Int.toNat
theorem rowIn {k : IntKind} {B : Nat} (hB0 : 0 < B) (hB : ∀ n, (Lit.int k n).wf = true → 0 ≤ n ∧ n < (B : Int)) {w : World} {a : Option Addr} {len cap : Nat} {zs : List Int} (h : IsRow k w a len cap zs) :
    ∃ gb off, Row w k a cap gb off (numsOf len zs) ∧ (numsOf len zs).length = len ∧ ∀ i, numOf (numsOf len zs) i < B := by
  obtain ⟨b, off, ha, hc⟩ := row_open h
  have hlen : (numsOf len zs).length = len := by
    rcases h with ⟨rfl, rfl, rfl, rfl⟩ | ⟨x, rfl, hl, hm, hz, hc, hw⟩
    · rfl
    · simp [numsOf]; omega
  have hcap : len ≤ cap := by
    rcases h with ⟨rfl, rfl, rfl, rfl⟩ | ⟨x, rfl, hl, _⟩
    · exact Nat.le_refl _
    · exact hl
  have hat : ∀ j, j < len → (((numsOf len zs)[j]?.getD 0 : Nat) : Int) = zs[j]?.getD 0 ∧ (numsOf len zs)[j]?.getD 0 < B := by
    intro j hj
    rcases h with ⟨rfl, rfl, rfl, rfl⟩ | ⟨x, rfl, hl, hm, hz, hcc, hw⟩
    · omega
    · have hjz : j < zs.length := by omega
      have hwf := hB _ (hw zs[j] (List.getElem_mem hjz))
      simp only [numsOf, List.getElem?_map, List.getElem?_take, hj, if_true, List.getElem?_eq_getElem hjz, Option.map_some, Option.getD_some]
      omega
  refine ⟨b, off, ⟨ha.imp id (fun e => List.length_eq_zero_iff.1 (by omega)), fun j hj => by rw [hc j (by omega), (hat j (by omega)).1], by omega⟩, hlen, fun i => ?_⟩
  unfold numOf
  by_cases hi : i < len
  · exact (hat i hi).2
  · rw [List.getElem?_eq_none (by omega)]; exact hB0

end Go.Proofs.Ytapcohpagipkpaa
