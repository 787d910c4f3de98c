/-
  What came in: slices of integers, and of acts, as the rows hand them on.
  No state answers no state's answers, and what is no place is refused: the walk of the statement.
-/
import Derived.WalkKit
import Derived.ProofKit
import Derived.OpenShut
import Derived.ChangeOld
import Derived.ChangeSame
import Derived.ChangeArms
import Derived.Below
import Derived.SizedLaws
import Derived.Deep.Slices
import Derived.Deep.Strs
import Derived.Deep.Matrix
import Derived.Lib.SmallJoins
import Derived.Test.YtnokemcogjoonaaGreatRows
import Derived.Test.YtnokemcogjoonaaGreatPutP1
import Derived.Test.YtnokemcogjoonaaGreatPutP15
namespace Go.Proofs.YtnokemcogjoonaaGreat
open Go.ChangeShapes Go.WideShapes Go.ChangeAt Go.RowKit
set_option linter.unusedVariables false

/-- A slice of integers, as it lies. -/
structure RowI (w : World) (k : IntKind) (a : Option Addr) (cap gb off : Nat) (xs : List Int) : Prop where
  at_ : a = some ⟨gb, off, none⟩ ∨ xs = []
  nil : a = none → cap = 0
  cells : ∀ j, j < xs.length → w.cell? ⟨gb, off + j, none⟩ = some (.int k (xs[j]?.getD 0))
  le : xs.length ≤ cap
theorem own : ownKnob Tryz.prog.godebug = none := by kernel_rfl
theorem laidOut : laidOutB Tryz.prog = true := by kernel_rfl
theorem bytes5 : Tryz.prog.bytesOf 5 = 1 := by kernel_rfl
theorem getD_el (zs : List Int) (j : Nat) (h : j < zs.length) : zs.getD j 0 = zs[j] := by simp [List.getD, h]

/-- A slice of integers that came in, made of a row of cap cells. -/
theorem rowI_of {k : IntKind} {W : World} {x : Addr} {l cp : Nat} {zs : List Int} (hl : l ≤ cp) (hz : zs.length = cp) (hcell : ∀ i, i < cp → W.cell? (x.add i) = some (.int k (zs.getD i 0))) :
    ∃ (gb off : Nat), RowI W k (some x) cp gb off (zs.take l) ∧ (zs.take l).length = l := by
  have hbl : (zs.take l).length = l := by rw [List.length_take]; omega
  by_cases h0 : l = 0
  · subst h0
    exact ⟨0, 0, ⟨.inr (by simp), (fun e => by cases e), (fun j hj => by simp at hj), by rw [hbl]; omega⟩, hbl⟩
  · obtain ⟨b, off, spot⟩ := x
    have hc0 := hcell 0 (by omega)
    have hspot : spot = none := by simpa [Addr.add] using World.cell?_spot hc0
    subst hspot
    refine ⟨b, off, ⟨.inl rfl, (fun e => by cases e), fun j hj => ?_, by omega⟩, hbl⟩
    rw [hbl] at hj
    have h1 := hcell j (by omega)
    rw [addO] at h1
    rw [h1, List.getElem?_take, if_pos hj]
    simp [List.getD]

theorem row22_open {H : Type} {enc : TypeId × Value → H} {W : World} {a : Option Addr} {len cap fuel : Nat} {x : DataW H × List MemPlace} (h : DataW.trod enc Tryz.prog W 0 (fun _ => true) true fuel 22 [.slice a len cap] = some x) (hw : ∀ n ∈ x.1.weights Tryz.prog 22, n ≤ reachBytes) :
    ∃ (b off : Nat) (xs : List Int), xs.length = len ∧ RowI W .u8 a cap b off xs ∧ (∀ i : Nat, 0 ≤ xs[i]?.getD 0 ∧ xs[i]?.getD 0 ≤ 255) ∧ len * Tryz.prog.bytesOf 5 ≤ reachBytes := by
  rcases open_ints Tryz.underlying22 Tryz.underlying5 (by kernel_rfl) h with ⟨hcs, _⟩ | ⟨y, l, cp, zs, hcs, _, hl, hm, hz, hx, hcell, hwz⟩
  · simp at hcs
    obtain ⟨rfl, rfl, rfl⟩ := hcs
    exact ⟨0, 0, [], rfl, ⟨.inr rfl, (fun _ => rfl), (fun j hj => by simp at hj), Nat.le_refl _⟩, (fun i => by simp), by simp⟩
  · simp at hcs
    obtain ⟨rfl, rfl, rfl⟩ := hcs
    have hz' : zs.length = cap := by simpa using hz
    obtain ⟨b, off, hR, hlen⟩ := rowI_of (k := .u8) hl hz' (fun i hi => hcell i (by omega))
    refine ⟨b, off, zs.take len, hlen, hR, fun i => ?_, ?_⟩
    · by_cases hi : i < len
      · have hb := bounds_u8 (hwz (zs.getD i 0) (by rw [getD_el zs i (by omega)]; exact List.getElem_mem _))
        rw [List.getElem?_take, if_pos hi, List.getElem?_eq_getElem (by omega), Option.getD_some]
        rw [getD_el zs i (by omega)] at hb
        omega
      · rw [List.getElem?_eq_none (by omega)]; simp
    · have hx1 : x.1 = .slice (lits .u8 (zs.take len)) (lits .u8 (zs.drop len)) := by rw [hx]
      have h1 := hw (((lits (H := H) .u8 (zs.take len)).length + (lits (H := H) .u8 (zs.drop len)).length) * Tryz.prog.bytesOf 5) (by
        rw [hx1]
        simp only [DataW.weights, Tryz.underlying22]
        exact List.mem_cons_self)
      simp only [lits, List.length_map, List.length_take, List.length_drop] at h1
      refine Nat.le_trans (Nat.mul_le_mul_right _ ?_) h1
      omega

/-- A slice of bytes that came in. -/
theorem bytes_open {H : Type} {enc : TypeId × Value → H} {W : World} {a : Option Addr} {len cap fuel : Nat} {x : DataW H × List MemPlace} (h : DataW.trod enc Tryz.prog W 0 (fun _ => true) true fuel 22 [.slice a len cap] = some x) (hw : ∀ n ∈ x.1.weights Tryz.prog 22, n ≤ reachBytes) :
    ∃ (b off : Nat) (bs : List Nat), bs.length = len ∧ Bytes W a cap b off bs ∧ len ≤ 140737488351232 := by
  obtain ⟨b, off, xs, hl, hR, hb, hr⟩ := row22_open h hw
  have hlen : len ≤ 140737488351232 := by rw [bytes5, Nat.mul_one] at hr; exact hr
  refine ⟨b, off, xs.map Int.toNat, by simpa using hl, ⟨?_, hR.nil, fun j hj => ?_, fun j => ?_, ?_, ?_⟩, hlen⟩
  · rcases hR.at_ with e | e
    · exact .inl e
    · exact .inr (by rw [e]; rfl)
  · rw [List.length_map] at hj
    rw [hR.cells j hj]
    have := hb j
    rw [List.getElem?_eq_getElem hj] at this ⊢
    rw [List.getElem?_map, List.getElem?_eq_getElem hj]
    simp only [Option.getD_some, Option.map_some] at this ⊢
    rw [Int.toNat_of_nonneg this.1]
  · have := hb j
    rw [List.getElem?_map]
    cases hx : xs[j]? with
    | none => simp
    | some y => rw [hx] at this; simp only [Option.getD_some, Option.map_some] at this ⊢; omega
  · rw [List.length_map, hl]; have := hR.le; omega
  · rw [List.length_map, hl]; omega

end Go.Proofs.YtnokemcogjoonaaGreat

namespace Go.Proofs.YtnokemcogjoonaaGreat.Pt
open Go.RowKit Go.Shelf
set_option linter.unusedVariables false

theorem rowq_nil (w : World) : Fd.RowQ w none 0 0 0 [] := ⟨.inr rfl, (fun j hj => by simp at hj), fun j => by show (0 : Int) < _; decide⟩
theorem made_nil (T : List Nat) (i : Nat) : madeB T [] i = decide (i = T.length) := rfl
set_option maxHeartbeats 2000000 in
theorem nil_law (a : Option Addr) (cap gb off : Nat) (bs : List Nat) (fr : Int) (w : World) (hB : Bytes w a cap gb off bs) :
    Calls Tryz.prog 5 #[.slice a bs.length cap, .int .i64 fr] w fun e w' => e = .returned (.bool true) ∧ Keep noBlock w w' := by
  have HW := hid wakes_any
  by_cases hl : 4096 < bs.length
  · have hlI : 4096 < (bs.length : Int) := by omega
    clear hB hl
    generalize bs.length = bl at *
    go_enter Tryz.func5, Tryz.ntmps5
    go_wp2_with fail
    refine (HW.out _).mono ?_
    rintro e w1 ⟨rfl, k1⟩
    have HK := hid k1
    clear k1 HW
    go_wp2_with fail
    go_ret
    exact ⟨rfl, HK.out⟩
  · have hlI : ¬ 4096 < (bs.length : Int) := by omega
    have H1 := hid reset_nil
    have H2 := hid (fun w => chunkP_nil (.slice a bs.length cap) (.slice none 0 0) 0 0 w)
    have H3 := hid (new_good 0 0 0 (by omega) (by omega))
    rw [show (((0 : Nat)) : Int) = (0 : Int) from rfl] at H3
    have H5 := hid (fun (sb : Nat) (w : World) => chunkP_arg sb a bs.length cap (.slice none 0 0) 0 (-1) (.inr (.inr (by omega))) w)
    by_cases hr : fr < 0 ∨ (bs.length : Int) < fr
    · have H4 := hid (fun (sb : Nat) (w : World) => chunkP_arg sb a bs.length cap (.slice none 0 0) fr 0 (hr.elim .inl (fun h => .inr (.inl h))) w)
      have hd : fr < 0 ∨ ¬ fr < 0 ∧ (bs.length : Int) < fr := by omega
      clear hB hl hr
      generalize bs.length = bl at *
      go_enter Tryz.func5, Tryz.ntmps5
      go_wp2_with fail
      refine (H1.out _).mono ?_
      rintro e w1 ⟨rfl, rfl⟩
      go_wp2_with fail
      refine (H2.out _).mono ?_
      rintro e w1 ⟨rfl, rfl⟩
      go_wp2_with fail
      refine (H3.out _).mono ?_
      rintro e w2 ⟨sb, rfl, b2, s2, k2⟩
      have HK := hid k2
      clear b2 s2 k2 H1 H2 H3
      go_wp2_with fail
      refine (H4.out _ _).mono ?_
      rintro e w3 ⟨rfl, rfl⟩
      rcases hd with h1 | ⟨h1, h2⟩
      · have h1' : decide (fr < 0) = true := decide_eq_true h1
        go_wp2_with fail
        refine (H5.out _ _).mono ?_
        rintro e w4 ⟨rfl, rfl⟩
        go_wp2_with fail
        refine (HW.out _).mono ?_
        rintro e w5 ⟨rfl, k5⟩
        have HF := hid (HK.out.trans' k5)
        clear k5 HW HK
        go_wp2_with fail
        go_ret
        exact ⟨rfl, HF.out⟩
      · have h1' : decide (fr < 0) = false := decide_eq_false (by omega)
        have h2' : decide ((bl : Int) < fr) = true := decide_eq_true h2
        go_wp2_with fail
        refine (H5.out _ _).mono ?_
        rintro e w4 ⟨rfl, rfl⟩
        go_wp2_with fail
        refine (HW.out _).mono ?_
        rintro e w5 ⟨rfl, k5⟩
        have HF := hid (HK.out.trans' k5)
        clear k5 HW HK
        go_wp2_with fail
        go_ret
        exact ⟨rfl, HF.out⟩
    · obtain ⟨f, rfl⟩ : ∃ f : Nat, fr = (f : Int) := ⟨fr.toNat, by omega⟩
      have hfl : f ≤ bs.length := by omega
      have H4 := hid (fun (sb : Nat) (w : World) (hB : Bytes w a cap gb off bs) => chunkP_mal sb a cap gb off bs f none 0 0 0 [] 0 w hB (rowq_nil w) (by omega) hfl (by decide) (by decide) (by
        by_cases e : f = bs.length
        · exact .inl e
        · exact .inr (by rw [made_nil]; exact decide_eq_false e)))
      rw [show ([] : List Tri).length = 0 from rfl] at H4
      have h1' : decide ((f : Int) < 0) = false := decide_eq_false (by omega)
      have h2n : decide (bs.length < f) = false := decide_eq_false (by omega)
      have h2' : decide ((bs.length : Int) < (f : Int)) = false := decide_eq_false (by omega)
      have HB := hid hB
      clear hB hl hr hfl
      obtain ⟨bl, hbl⟩ : ∃ bl, bl = bs.length := ⟨_, rfl⟩
      rw [← hbl] at hlI H2 H4 H5 h2n h2' ⊢
      clear hbl
      go_enter Tryz.func5, Tryz.ntmps5
      go_wp2_with fail
      refine (H1.out _).mono ?_
      rintro e w1 ⟨rfl, rfl⟩
      go_wp2_with fail
      refine (H2.out _).mono ?_
      rintro e w1 ⟨rfl, rfl⟩
      go_wp2_with fail
      refine (H3.out _).mono ?_
      rintro e w2 ⟨sb, rfl, b2, s2, k2⟩
      have HK := hid k2
      have HC := hid (H4.out sb w2 (HB.out.keep k2 (fun _ h => h)))
      clear b2 s2 k2 H1 H2 H3 H4 HB
      go_wp2_with fail
      refine HC.out.mono ?_
      rintro e w3 ⟨rfl, k3⟩
      have HK3 := hid (HK.out.trans' k3)
      clear k3 HC HK
      go_wp2_with fail
      refine (H5.out _ _).mono ?_
      rintro e w4 ⟨rfl, rfl⟩
      go_wp2_with fail
      refine (HW.out _).mono ?_
      rintro e w5 ⟨rfl, k5⟩
      have HF := hid (HK3.out.trans' k5)
      clear k5 HW HK3
      go_wp2_with fail
      go_ret
      exact ⟨rfl, HF.out⟩

end Go.Proofs.YtnokemcogjoonaaGreat.Pt
