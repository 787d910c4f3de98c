/-
  What came in: slices of integers, as the rows hand them on.
-/
import Derived.Test.YtoffnhbopjaocaaRows
import Derived.Test.YtoffnhbopjaocaaCnt
import Derived.WalkKit
import Derived.ProofKit
import Derived.OpenShut
import Derived.ChangeOld
import Derived.ChangeSame
import Derived.ChangeArms
import Derived.Below
import Derived.SizedLaws
import Derived.Deep.Slices
import Derived.Deep.Strs
import Derived.Deep.Matrix
import Derived.Lib.SmallJoins
namespace Go.Proofs.Ytoffnhbopjaocaa
open Go.ChangeShapes Go.WideShapes Go.ChangeAt Go.RowKit
set_option linter.unusedVariables false

theorem own : ownKnob Try.prog.godebug = none := by kernel_rfl
theorem laidOut : laidOutB Try.prog = true := by kernel_rfl
theorem bytes5 : Try.prog.bytesOf 5 = 1 := by kernel_rfl
theorem getD_el (zs : List Int) (j : Nat) (h : j < zs.length) : zs.getD j 0 = zs[j] := by simp [List.getD, h]

/-- A slice of integers that came in, made of a row of cap cells. -/
theorem rowI_of {k : IntKind} {W : World} {x : Addr} {l cp : Nat} {zs : List Int} (hl : l ≤ cp) (hz : zs.length = cp) (hcell : ∀ i, i < cp → W.cell? (x.add i) = some (.int k (zs.getD i 0))) :
    ∃ (gb off : Nat), RowI W k (some x) cp gb off (zs.take l) ∧ (zs.take l).length = l := by
  have hbl : (zs.take l).length = l := by rw [List.length_take]; omega
  by_cases h0 : l = 0
  · subst h0
    exact ⟨0, 0, ⟨.inr (by simp), (fun e => by cases e), (fun j hj => by simp at hj), by rw [hbl]; omega⟩, hbl⟩
  · obtain ⟨b, off, spot⟩ := x
    have hc0 := hcell 0 (by omega)
    have hspot : spot = none := by simpa [Addr.add] using World.cell?_spot hc0
    subst hspot
    refine ⟨b, off, ⟨.inl rfl, (fun e => by cases e), fun j hj => ?_, by omega⟩, hbl⟩
    rw [hbl] at hj
    have h1 := hcell j (by omega)
    rw [addO] at h1
    rw [h1, List.getElem?_take, if_pos hj]
    simp [List.getD]

theorem row22_open {H : Type} {enc : TypeId × Value → H} {W : World} {a : Option Addr} {len cap fuel : Nat} {x : DataW H × List MemPlace} (h : DataW.trod enc Try.prog W 0 (fun _ => true) true fuel 22 [.slice a len cap] = some x) (hw : ∀ n ∈ x.1.weights Try.prog 22, n ≤ reachBytes) :
    ∃ (b off : Nat) (xs : List Int), xs.length = len ∧ RowI W .i16 a cap b off xs ∧ (∀ i : Nat, -32768 ≤ xs[i]?.getD 0 ∧ xs[i]?.getD 0 ≤ 32767) ∧ len * Try.prog.bytesOf 42 ≤ reachBytes := by
  rcases open_ints Try.underlying22 Try.underlying42 (by kernel_rfl) h with ⟨hcs, _⟩ | ⟨y, l, cp, zs, hcs, _, hl, hm, hz, hx, hcell, hwz⟩
  · simp at hcs
    obtain ⟨rfl, rfl, rfl⟩ := hcs
    exact ⟨0, 0, [], rfl, ⟨.inr rfl, (fun _ => rfl), (fun j hj => by simp at hj), Nat.le_refl _⟩, (fun i => by simp), by simp⟩
  · simp at hcs
    obtain ⟨rfl, rfl, rfl⟩ := hcs
    have hz' : zs.length = cap := by simpa using hz
    obtain ⟨b, off, hR, hlen⟩ := rowI_of (k := .i16) hl hz' (fun i hi => hcell i (by omega))
    refine ⟨b, off, zs.take len, hlen, hR, fun i => ?_, ?_⟩
    · by_cases hi : i < len
      · have hb := bounds_i16 (hwz (zs.getD i 0) (by rw [getD_el zs i (by omega)]; exact List.getElem_mem _))
        rw [List.getElem?_take, if_pos hi, List.getElem?_eq_getElem (by omega), Option.getD_some]
        rw [getD_el zs i (by omega)] at hb
        omega
      · rw [List.getElem?_eq_none (by omega)]; simp
    · have hx1 : x.1 = .slice (lits .i16 (zs.take len)) (lits .i16 (zs.drop len)) := by rw [hx]
      have h1 := hw (((lits (H := H) .i16 (zs.take len)).length + (lits (H := H) .i16 (zs.drop len)).length) * Try.prog.bytesOf 42) (by
        rw [hx1]
        simp only [DataW.weights, Try.underlying22]
        exact List.mem_cons_self)
      simp only [lits, List.length_map, List.length_take, List.length_drop] at h1
      refine Nat.le_trans (Nat.mul_le_mul_right _ ?_) h1
      omega
theorem row37_open {H : Type} {enc : TypeId × Value → H} {W : World} {a : Option Addr} {len cap fuel : Nat} {x : DataW H × List MemPlace} (h : DataW.trod enc Try.prog W 0 (fun _ => true) true fuel 37 [.slice a len cap] = some x) (hw : ∀ n ∈ x.1.weights Try.prog 37, n ≤ reachBytes) :
    ∃ (b off : Nat) (xs : List Int), xs.length = len ∧ RowI W .u32 a cap b off xs ∧ (∀ i : Nat, 0 ≤ xs[i]?.getD 0 ∧ xs[i]?.getD 0 ≤ 4294967295) ∧ len * Try.prog.bytesOf 41 ≤ reachBytes := by
  rcases open_ints Try.underlying37 Try.underlying41 (by kernel_rfl) h with ⟨hcs, _⟩ | ⟨y, l, cp, zs, hcs, _, hl, hm, hz, hx, hcell, hwz⟩
  · simp at hcs
    obtain ⟨rfl, rfl, rfl⟩ := hcs
    exact ⟨0, 0, [], rfl, ⟨.inr rfl, (fun _ => rfl), (fun j hj => by simp at hj), Nat.le_refl _⟩, (fun i => by simp), by simp⟩
  · simp at hcs
    obtain ⟨rfl, rfl, rfl⟩ := hcs
    have hz' : zs.length = cap := by simpa using hz
    obtain ⟨b, off, hR, hlen⟩ := rowI_of (k := .u32) hl hz' (fun i hi => hcell i (by omega))
    refine ⟨b, off, zs.take len, hlen, hR, fun i => ?_, ?_⟩
    · by_cases hi : i < len
      · have hb := bounds_u32 (hwz (zs.getD i 0) (by rw [getD_el zs i (by omega)]; exact List.getElem_mem _))
        rw [List.getElem?_take, if_pos hi, List.getElem?_eq_getElem (by omega), Option.getD_some]
        rw [getD_el zs i (by omega)] at hb
        omega
      · rw [List.getElem?_eq_none (by omega)]; simp
    · have hx1 : x.1 = .slice (lits .u32 (zs.take len)) (lits .u32 (zs.drop len)) := by rw [hx]
      have h1 := hw (((lits (H := H) .u32 (zs.take len)).length + (lits (H := H) .u32 (zs.drop len)).length) * Try.prog.bytesOf 41) (by
        rw [hx1]
        simp only [DataW.weights, Try.underlying37]
        exact List.mem_cons_self)
      simp only [lits, List.length_map, List.length_take, List.length_drop] at h1
      refine Nat.le_trans (Nat.mul_le_mul_right _ ?_) h1
      omega
theorem row23_open {H : Type} {enc : TypeId × Value → H} {W : World} {a : Option Addr} {len cap fuel : Nat} {x : DataW H × List MemPlace} (h : DataW.trod enc Try.prog W 0 (fun _ => true) true fuel 23 [.slice a len cap] = some x) (hw : ∀ n ∈ x.1.weights Try.prog 23, n ≤ reachBytes) :
    ∃ (b off : Nat) (xs : List Int), xs.length = len ∧ RowI W .u8 a cap b off xs ∧ (∀ i : Nat, 0 ≤ xs[i]?.getD 0 ∧ xs[i]?.getD 0 ≤ 255) ∧ len * Try.prog.bytesOf 5 ≤ reachBytes := by
  rcases open_ints Try.underlying23 Try.underlying5 (by kernel_rfl) h with ⟨hcs, _⟩ | ⟨y, l, cp, zs, hcs, _, hl, hm, hz, hx, hcell, hwz⟩
  · simp at hcs
    obtain ⟨rfl, rfl, rfl⟩ := hcs
    exact ⟨0, 0, [], rfl, ⟨.inr rfl, (fun _ => rfl), (fun j hj => by simp at hj), Nat.le_refl _⟩, (fun i => by simp), by simp⟩
  · simp at hcs
    obtain ⟨rfl, rfl, rfl⟩ := hcs
    have hz' : zs.length = cap := by simpa using hz
    obtain ⟨b, off, hR, hlen⟩ := rowI_of (k := .u8) hl hz' (fun i hi => hcell i (by omega))
    refine ⟨b, off, zs.take len, hlen, hR, fun i => ?_, ?_⟩
    · by_cases hi : i < len
      · have hb := bounds_u8 (hwz (zs.getD i 0) (by rw [getD_el zs i (by omega)]; exact List.getElem_mem _))
        rw [List.getElem?_take, if_pos hi, List.getElem?_eq_getElem (by omega), Option.getD_some]
        rw [getD_el zs i (by omega)] at hb
        omega
      · rw [List.getElem?_eq_none (by omega)]; simp
    · have hx1 : x.1 = .slice (lits .u8 (zs.take len)) (lits .u8 (zs.drop len)) := by rw [hx]
      have h1 := hw (((lits (H := H) .u8 (zs.take len)).length + (lits (H := H) .u8 (zs.drop len)).length) * Try.prog.bytesOf 5) (by
        rw [hx1]
        simp only [DataW.weights, Try.underlying23]
        exact List.mem_cons_self)
      simp only [lits, List.length_map, List.length_take, List.length_drop] at h1
      refine Nat.le_trans (Nat.mul_le_mul_right _ ?_) h1
      omega

end Go.Proofs.Ytoffnhbopjaocaa
