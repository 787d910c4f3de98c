/-
  What came in: slices of integers, and of acts, as the rows hand them on.
-/
import Derived.Test.YtinhlkioeadfdaaDoorRows
import Derived.Test.YtinhlkioeadfdaaDoorByt
import Derived.WalkKit
import Derived.ProofKit
import Derived.OpenShut
import Derived.ChangeOld
import Derived.ChangeSame
import Derived.ChangeArms
import Derived.Below
import Derived.SizedLaws
import Derived.Deep.Slices
import Derived.Deep.Strs
import Derived.Deep.Matrix
import Derived.Lib.SmallJoins
namespace Go.Proofs.YtinhlkioeadfdaaDoor
open Go.ChangeShapes Go.WideShapes Go.ChangeAt Go.RowKit
set_option linter.unusedVariables false

/-- A slice of integers, as it lies. -/
structure RowI (w : World) (k : IntKind) (a : Option Addr) (cap gb off : Nat) (xs : List Int) : Prop where
  at_ : a = some ⟨gb, off, none⟩ ∨ xs = []
  nil : a = none → cap = 0
  cells : ∀ j, j < xs.length → w.cell? ⟨gb, off + j, none⟩ = some (.int k (xs[j]?.getD 0))
  le : xs.length ≤ cap
theorem own : ownKnob Tryd.prog.godebug = none := by kernel_rfl
theorem laidOut : laidOutB Tryd.prog = true := by kernel_rfl
theorem bytes5 : Tryd.prog.bytesOf 5 = 1 := by kernel_rfl
theorem getD_el (zs : List Int) (j : Nat) (h : j < zs.length) : zs.getD j 0 = zs[j] := by simp [List.getD, h]

/-- A slice of integers that came in, made of a row of cap cells. -/
theorem rowI_of {k : IntKind} {W : World} {x : Addr} {l cp : Nat} {zs : List Int} (hl : l ≤ cp) (hz : zs.length = cp) (hcell : ∀ i, i < cp → W.cell? (x.add i) = some (.int k (zs.getD i 0))) :
    ∃ (gb off : Nat), RowI W k (some x) cp gb off (zs.take l) ∧ (zs.take l).length = l := by
  have hbl : (zs.take l).length = l := by rw [List.length_take]; omega
  by_cases h0 : l = 0
  · subst h0
    exact ⟨0, 0, ⟨.inr (by simp), (fun e => by cases e), (fun j hj => by simp at hj), by rw [hbl]; omega⟩, hbl⟩
  · obtain ⟨b, off, spot⟩ := x
    have hc0 := hcell 0 (by omega)
    have hspot : spot = none := by simpa [Addr.add] using World.cell?_spot hc0
    subst hspot
    refine ⟨b, off, ⟨.inl rfl, (fun e => by cases e), fun j hj => ?_, by omega⟩, hbl⟩
    rw [hbl] at hj
    have h1 := hcell j (by omega)
    rw [addO] at h1
    rw [h1, List.getElem?_take, if_pos hj]
    simp [List.getD]

theorem row22_open {H : Type} {enc : TypeId × Value → H} {W : World} {a : Option Addr} {len cap fuel : Nat} {x : DataW H × List MemPlace} (h : DataW.trod enc Tryd.prog W 0 (fun _ => true) true fuel 22 [.slice a len cap] = some x) (hw : ∀ n ∈ x.1.weights Tryd.prog 22, n ≤ reachBytes) :
    ∃ (b off : Nat) (xs : List Int), xs.length = len ∧ RowI W .u8 a cap b off xs ∧ (∀ i : Nat, 0 ≤ xs[i]?.getD 0 ∧ xs[i]?.getD 0 ≤ 255) ∧ len * Tryd.prog.bytesOf 5 ≤ reachBytes := by
  rcases open_ints Tryd.underlying22 Tryd.underlying5 (by kernel_rfl) h with ⟨hcs, _⟩ | ⟨y, l, cp, zs, hcs, _, hl, hm, hz, hx, hcell, hwz⟩
  · simp at hcs
    obtain ⟨rfl, rfl, rfl⟩ := hcs
    exact ⟨0, 0, [], rfl, ⟨.inr rfl, (fun _ => rfl), (fun j hj => by simp at hj), Nat.le_refl _⟩, (fun i => by simp), by simp⟩
  · simp at hcs
    obtain ⟨rfl, rfl, rfl⟩ := hcs
    have hz' : zs.length = cap := by simpa using hz
    obtain ⟨b, off, hR, hlen⟩ := rowI_of (k := .u8) hl hz' (fun i hi => hcell i (by omega))
    refine ⟨b, off, zs.take len, hlen, hR, fun i => ?_, ?_⟩
    · by_cases hi : i < len
      · have hb := bounds_u8 (hwz (zs.getD i 0) (by rw [getD_el zs i (by omega)]; exact List.getElem_mem _))
        rw [List.getElem?_take, if_pos hi, List.getElem?_eq_getElem (by omega), Option.getD_some]
        rw [getD_el zs i (by omega)] at hb
        omega
      · rw [List.getElem?_eq_none (by omega)]; simp
    · have hx1 : x.1 = .slice (lits .u8 (zs.take len)) (lits .u8 (zs.drop len)) := by rw [hx]
      have h1 := hw (((lits (H := H) .u8 (zs.take len)).length + (lits (H := H) .u8 (zs.drop len)).length) * Tryd.prog.bytesOf 5) (by
        rw [hx1]
        simp only [DataW.weights, Tryd.underlying22]
        exact List.mem_cons_self)
      simp only [lits, List.length_map, List.length_take, List.length_drop] at h1
      refine Nat.le_trans (Nat.mul_le_mul_right _ ?_) h1
      omega

/-- A slice of bytes that came in. -/
theorem bytes_open {H : Type} {enc : TypeId × Value → H} {W : World} {a : Option Addr} {len cap fuel : Nat} {x : DataW H × List MemPlace} (h : DataW.trod enc Tryd.prog W 0 (fun _ => true) true fuel 22 [.slice a len cap] = some x) (hw : ∀ n ∈ x.1.weights Tryd.prog 22, n ≤ reachBytes) :
    ∃ (b off : Nat) (bs : List Nat), bs.length = len ∧ Bytes W a cap b off bs ∧ len ≤ 140737488351232 := by
  obtain ⟨b, off, xs, hl, hR, hb, hr⟩ := row22_open h hw
  have hlen : len ≤ 140737488351232 := by rw [bytes5, Nat.mul_one] at hr; exact hr
  refine ⟨b, off, xs.map Int.toNat, by simpa using hl, ⟨?_, hR.nil, fun j hj => ?_, fun j => ?_, ?_, ?_⟩, hlen⟩
  · rcases hR.at_ with e | e
    · exact .inl e
    · exact .inr (by rw [e]; rfl)
  · rw [List.length_map] at hj
    rw [hR.cells j hj]
    have := hb j
    rw [List.getElem?_eq_getElem hj] at this ⊢
    rw [List.getElem?_map, List.getElem?_eq_getElem hj]
    simp only [Option.getD_some, Option.map_some] at this ⊢
    rw [Int.toNat_of_nonneg this.1]
  · have := hb j
    rw [List.getElem?_map]
    cases hx : xs[j]? with
    | none => simp
    | some y => rw [hx] at this; simp only [Option.getD_some, Option.map_some] at this ⊢; omega
  · rw [List.length_map, hl]; have := hR.le; omega
  · rw [List.length_map, hl]; omega

end Go.Proofs.YtinhlkioeadfdaaDoor
