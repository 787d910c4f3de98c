/-
  What came in: slices of bytes, and the variables that the rows list, as they lie.
  ZstdCut, walked: a member that is cut short is told as such.
-/
import Derived.WalkKit
import Derived.ProofKit
import Derived.OpenShut
import Derived.ChangeOld
import Derived.ChangeSame
import Derived.ChangeArms
import Derived.Below
import Derived.SizedLaws
import Derived.Deep.Slices
import Derived.Deep.Strs
import Derived.Deep.Matrix
import Derived.Lib.SmallJoins
import Derived.LaidMore
import Derived.Stop.Joined
import Derived.ShutString
import Derived.Test.YtnjilcokkhodmaaGreatDoorRows
import Derived.Test.YtnjilcokkhodmaaGreatDoorZP6
import Derived.Test.YtnjilcokkhodmaaGreatDoorZP23
namespace Go.Proofs.YtnjilcokkhodmaaGreatDoor
open Go.ChangeShapes Go.WideShapes Go.ChangeAt Go.RowKit
set_option linter.unusedVariables false

theorem own : ownKnob Tryz.prog.godebug = none := by kernel_rfl
theorem laidOut : laidOutB Tryz.prog = true := by kernel_rfl
theorem bytes5 : Tryz.prog.bytesOf 5 = 1 := by kernel_rfl
theorem getD_el (zs : List Int) (j : Nat) (h : j < zs.length) : zs.getD j 0 = zs[j] := by simp [List.getD, h]

theorem rowI_of {k : IntKind} {W : World} {x : Addr} {l cp : Nat} {zs : List Int} (hl : l ≤ cp) (hz : zs.length = cp) (hcell : ∀ i, i < cp → W.cell? (x.add i) = some (.int k (zs.getD i 0))) :
  ∃ (gb off : Nat), RowI W k (some x) cp gb off (zs.take l) ∧ (zs.take l).length = l := by
 have hbl : (zs.take l).length = l := by rw [List.length_take]; omega
 by_cases h0 : l = 0
 ·subst h0
  exact ⟨0, 0, ⟨.inr (by simp), (fun e => by cases e), (fun j hj => by simp at hj), by rw [hbl]; omega⟩, hbl⟩
 ·obtain ⟨b, off, spot⟩ := x
  have hc0 := hcell 0 (by omega)
  have hspot : spot = none := by simpa [Addr.add] using World.cell?_spot hc0
  subst hspot
  refine ⟨b, off, ⟨.inl rfl, (fun e => by cases e), fun j hj => ?_, by omega⟩, hbl⟩
  rw [hbl] at hj
  have h1 := hcell j (by omega)
  rw [addO] at h1
  rw [h1, List.getElem?_take, if_pos hj]
  simp [List.getD]

theorem row22_open {H : Type} {enc : TypeId × Value → H} {W : World} {a : Option Addr} {len cap fuel : Nat} {x : DataW H × List MemPlace} (h : DataW.trod enc Tryz.prog W 0 (fun _ => true) true fuel 22 [.slice a len cap] = some x) (hw : ∀ n ∈ x.1.weights Tryz.prog 22, n ≤ reachBytes) :
  ∃ (b off : Nat) (xs : List Int), xs.length = len ∧ RowI W .u8 a cap b off xs ∧ (∀ i : Nat, 0 ≤ xs[i]?.getD 0 ∧ xs[i]?.getD 0 ≤ 255) ∧ len * Tryz.prog.bytesOf 5 ≤ reachBytes := by
 rcases open_ints Tryz.underlying22 Tryz.underlying5 (by kernel_rfl) h with ⟨hcs, _⟩ | ⟨y, l, cp, zs, hcs, _, hl, hm, hz, hx, hcell, hwz⟩
 ·simp at hcs
  obtain ⟨rfl, rfl, rfl⟩ := hcs
  exact ⟨0, 0, [], rfl, ⟨.inr rfl, (fun _ => rfl), (fun j hj => by simp at hj), Nat.le_refl _⟩, (fun i => by simp), by simp⟩
 ·simp at hcs
  obtain ⟨rfl, rfl, rfl⟩ := hcs
  have hz' : zs.length = cap := by simpa using hz
  obtain ⟨b, off, hR, hlen⟩ := rowI_of (k := .u8) hl hz' (fun i hi => hcell i (by omega))
  refine ⟨b, off, zs.take len, hlen, hR, fun i => ?_, ?_⟩
  ·by_cases hi : i < len
   ·have hb := bounds_u8 (hwz (zs.getD i 0) (by rw [getD_el zs i (by omega)]; exact List.getElem_mem _))
    rw [List.getElem?_take, if_pos hi, List.getElem?_eq_getElem (by omega), Option.getD_some]
    rw [getD_el zs i (by omega)] at hb
    omega
   ·rw [List.getElem?_eq_none (by omega)]; simp
  ·have hx1 : x.1 = .slice (lits .u8 (zs.take len)) (lits .u8 (zs.drop len)) := by rw [hx]
   have h1 := hw (((lits (H := H) .u8 (zs.take len)).length + (lits (H := H) .u8 (zs.drop len)).length) * Tryz.prog.bytesOf 5) (by
    rw [hx1]
    simp only [DataW.weights, Tryz.underlying22]
    exact List.mem_cons_self)
   simp only [lits, List.length_map, List.length_take, List.length_drop] at h1
   refine Nat.le_trans (Nat.mul_le_mul_right _ ?_) h1
   omega

theorem bytes_open {H : Type} {enc : TypeId × Value → H} {W : World} {a : Option Addr} {len cap fuel : Nat} {x : DataW H × List MemPlace} (h : DataW.trod enc Tryz.prog W 0 (fun _ => true) true fuel 22 [.slice a len cap] = some x) (hw : ∀ n ∈ x.1.weights Tryz.prog 22, n ≤ reachBytes) :
  ∃ (b off : Nat) (bs : List Nat), bs.length = len ∧ Bytes W a cap b off bs ∧ len ≤ 140737488351232 := by
 obtain ⟨b, off, xs, hl, hR, hb, hr⟩ := row22_open h hw
 have hlen : len ≤ 140737488351232 := by rw [bytes5, Nat.mul_one] at hr; exact hr
 refine ⟨b, off, xs.map Int.toNat, by simpa using hl, ⟨?_, hR.nil, fun j hj => ?_, fun j => ?_, ?_, ?_⟩, hlen⟩
 ·rcases hR.at_ with e | e
  ·exact .inl e
  ·exact .inr (by rw [e]; rfl)
 ·rw [List.length_map] at hj
  rw [hR.cells j hj]
  have := hb j
  rw [List.getElem?_eq_getElem hj] at this ⊢
  rw [List.getElem?_map, List.getElem?_eq_getElem hj]
  simp only [Option.getD_some, Option.map_some] at this ⊢
  rw [Int.toNat_of_nonneg this.1]
 ·have := hb j
  rw [List.getElem?_map]
  cases hx : xs[j]? with
  | none => simp
  | some y => rw [hx] at this; simp only [Option.getD_some, Option.map_some] at this ⊢; omega
 ·rw [List.length_map, hl]; have := hR.le; omega
 ·rw [List.length_map, hl]; omega

theorem gForms : Tryz.prog.globalNamed "baler/literals.forms" = some 1 := by kernel_rfl
theorem tForms : (Tryz.prog.globals[1]?).map (·.type) = some 123 := by kernel_rfl
theorem cells3 : Tryz.prog.cellsOf 3 = 1 := by kernel_rfl
theorem cells29 : Tryz.prog.cellsOf 89 = 4 := by kernel_rfl
theorem cells46 : Tryz.prog.cellsOf 122 = 16 := by kernel_rfl
theorem gExt : Tryz.prog.globalNamed "baler/sequences.extraOrder" = some 2 := by kernel_rfl
theorem gNxt : Tryz.prog.globalNamed "baler/sequences.nextOrder" = some 3 := by kernel_rfl
theorem tExt : (Tryz.prog.globals[2]?).map (·.type) = some 39 := by kernel_rfl
theorem tNxt : (Tryz.prog.globals[3]?).map (·.type) = some 39 := by kernel_rfl
theorem door_met (os : Os) (args : Array Value) : laidMetH Tryz.prog [("baler/sequences.extraOrder", Rows.laid_baler_sequences_extraOrder), ("baler/sequences.nextOrder", Rows.laid_baler_sequences_nextOrder), ("baler/literals.forms", Rows.laid_baler_literals_forms)] ((World.doorLaid Tryz.prog 400 os).forCall (fun _ _ => 0) ⟨#[], args, []⟩).memory :=
 laidMetH_of_parts3 (fuel := 8) (laidMet_of_run' 8 (by kernel_rfl) (by kernel_rfl)) (by kernel_rfl) (by kernel_rfl)

theorem cell_of_trod {H : Type} {enc : TypeId × Value → H} {W : World} {m : Nat} {cs : List Value} {o : Nat} {y : DataW H × List MemPlace} {hd : Bool} (h : DataW.trod enc Tryz.prog W 0 (fun _ => true) hd m 3 ((cs.drop o).take (Tryz.prog.cellsOf 3)) = some y) : ∃ k : Int, cs[o]? = some (.int .i64 k) ∧ y.1 = .lit (.int .i64 k) := by
 obtain ⟨k, e1, e2, _⟩ := DataW.trod_int Tryz.underlying3 h
 refine ⟨k, ?_, by rw [e2]⟩
 rw [cells3] at e1
 have e3 := congrArg (fun l : List Value => l[0]?) e1
 simp only [List.getElem?_take, List.getElem?_drop] at e3
 simpa using e3
theorem form_of_trod {H : Type} {enc : TypeId × Value → H} {W : World} {m : Nat} {cs : List Value} {o : Nat} {y : DataW H × List MemPlace} {hd : Bool} (h : DataW.trod enc Tryz.prog W 0 (fun _ => true) hd m 89 ((cs.drop o).take (Tryz.prog.cellsOf 89)) = some y) :
  ∃ k0 k1 k2 k3 : Int, cs[o]? = some (.int .i64 k0) ∧ cs[o + 1]? = some (.int .i64 k1) ∧ cs[o + 2]? = some (.int .i64 k2) ∧ cs[o + 3]? = some (.int .i64 k3) ∧ y.1 = .agg [.lit (.int .i64 k0), .lit (.int .i64 k1), .lit (.int .i64 k2), .lit (.int .i64 k3)] := by
 obtain ⟨y0, y1, y2, y3, n, hx, -, h0, h1, h2, h3⟩ := Joins.trod_struct4 Tryz.underlying89 h
 obtain ⟨k0, a0, b0⟩ := cell_of_trod h0
 obtain ⟨k1, a1, b1⟩ := cell_of_trod h1
 obtain ⟨k2, a2, b2⟩ := cell_of_trod h2
 obtain ⟨k3, a3, b3⟩ := cell_of_trod h3
 rw [cells29, List.getElem?_take, if_pos (by decide), List.getElem?_drop] at a0 a1 a2 a3
 exact ⟨k0, k1, k2, k3, a0, a1, a2, a3, by rw [hx, b0, b1, b2, b3]⟩
theorem four_of_trod {H : Type} {enc : TypeId × Value → H} {W : World} {m : Nat} {cs : List Value} {o : Nat} {y : DataW H × List MemPlace} {hd : Bool} (h : DataW.trod enc Tryz.prog W 0 (fun _ => true) hd m 122 ((cs.drop o).take (Tryz.prog.cellsOf 122)) = some y) :
  ∃ ys : List (DataW H), y.1 = .agg ys ∧ ∀ f, f < 4 → ∃ k0 k1 k2 k3 : Int, cs[o + f * 4]? = some (.int .i64 k0) ∧ cs[o + f * 4 + 1]? = some (.int .i64 k1) ∧ cs[o + f * 4 + 2]? = some (.int .i64 k2) ∧ cs[o + f * 4 + 3]? = some (.int .i64 k3) ∧ ys[f]? = some (.agg [.lit (.int .i64 k0), .lit (.int .i64 k1), .lit (.int .i64 k2), .lit (.int .i64 k3)]) := by
 obtain ⟨xs, n, -, hx, -, hlen, hel⟩ := DataW.trod_array Tryz.underlying122 h
 refine ⟨xs.map (·.1), by rw [hx], fun f hf => ?_⟩
 have hf0 := hel f hf
 obtain ⟨x, hxf⟩ : ∃ x, xs[f]? = some x := ⟨_, List.getElem?_eq_getElem (by omega)⟩
 rw [hxf, cells46, cells29, List.drop_take, List.take_take, List.drop_drop, Nat.min_eq_left (by omega)] at hf0
 obtain ⟨k0, k1, k2, k3, a0, a1, a2, a3, b⟩ := form_of_trod (o := o + f * 4) (by rw [cells29]; exact hf0)
 exact ⟨k0, k1, k2, k3, a0, a1, a2, a3, by rw [List.getElem?_map, hxf]; simp [b]⟩
theorem three_of {H : Type} {enc : TypeId × Value → H} {W : World} {fuel : Nat} {cs : List Value} {x : DataW H × List MemPlace} {hd : Bool} (h : DataW.trod enc Tryz.prog W 0 (fun _ => true) hd fuel 39 cs = some x) (y0 y1 y2 : Int) (hx : x.1 = .agg [.lit (.int .i64 y0), .lit (.int .i64 y1), .lit (.int .i64 y2)]) :
  cs[0]? = some (.int .i64 y0) ∧ cs[1]? = some (.int .i64 y1) ∧ cs[2]? = some (.int .i64 y2) := by
 obtain ⟨xs, m1, -, hx1, hlen, hn, hel⟩ := DataW.trod_array Tryz.underlying39 h
 have hall : ∀ i, i < 3 → ∃ k : Int, cs[i]? = some (.int .i64 k) ∧ (xs[i]?).map (·.1) = some (.lit (.int .i64 k)) := fun i hi => by
  have h0 := hel i hi
  obtain ⟨x, hx⟩ : ∃ x, xs[i]? = some x := ⟨_, List.getElem?_eq_getElem (by omega)⟩
  rw [hx] at h0
  obtain ⟨k, e1, e2, _⟩ := DataW.trod_int Tryz.underlying3 h0
  refine ⟨k, ?_, ?_⟩
  ·rw [cells3] at e1
   have e3 := congrArg (fun l : List Value => l[0]?) e1
   simp only [List.getElem?_take, List.getElem?_drop] at e3
   simpa using e3
  ·rw [hx]; simp [e2]
 rw [hx1] at hx
 simp only [DataW.agg.injEq] at hx
 obtain ⟨k0, a0, b0⟩ := hall 0 (by omega)
 obtain ⟨k1, a1, b1⟩ := hall 1 (by omega)
 obtain ⟨k2, a2, b2⟩ := hall 2 (by omega)
 rw [← List.getElem?_map, hx] at b0 b1 b2
 simp at b0 b1 b2
 subst b0 b1 b2
 exact ⟨a0, a1, a2⟩
theorem of_laid {W : World} (h : laidMetH Tryz.prog [("baler/sequences.extraOrder", Rows.laid_baler_sequences_extraOrder), ("baler/sequences.nextOrder", Rows.laid_baler_sequences_nextOrder), ("baler/literals.forms", Rows.laid_baler_literals_forms)] W) : Frm W ∧ Ords W := by
 rw [MakeChecks.laidMetH_plain _ _ _ (by kernel_rfl)] at h
 obtain ⟨ps, ⟨g2, t2, cs2, f2, p2, q2, hg2, ht2, hv2, hd2, hr, -⟩, -, -⟩ := h
 obtain ⟨g3, t3, cs3, f3, p3, q3, hg3, ht3, hv3, hd3, hr2, -⟩ := hr
 obtain ⟨g1, t1, cs1, f1, p1, q1, hg1, ht1, hv1, hd1, -⟩ := hr2
 obtain rfl := Option.some.inj (gExt.symm.trans hg2)
 obtain rfl := Option.some.inj (tExt.symm.trans ht2)
 obtain rfl := Option.some.inj (gNxt.symm.trans hg3)
 obtain rfl := Option.some.inj (tNxt.symm.trans ht3)
 obtain ⟨a0, a1, a2⟩ := three_of hd2 1 2 0 rfl
 obtain ⟨b0, b1, b2⟩ := three_of hd3 0 2 1 rfl
 rw [Array.getElem?_toList] at a0 a1 a2 b0 b1 b2
 refine ⟨?_, ⟨(World.var?_cell hg2 hv2 0).trans a0, (World.var?_cell hg2 hv2 1).trans a1, (World.var?_cell hg2 hv2 2).trans a2⟩, ⟨(World.var?_cell hg3 hv3 0).trans b0, (World.var?_cell hg3 hv3 1).trans b1, (World.var?_cell hg3 hv3 2).trans b2⟩⟩
 clear a0 a1 a2 b0 b1 b2
 obtain rfl := Option.some.inj (gForms.symm.trans hg1)
 obtain rfl := Option.some.inj (tForms.symm.trans ht1)
 obtain ⟨xs, m1, rfl, hx1, hlen, hn2, hel⟩ := DataW.trod_array Tryz.underlying123 hd1
 simp only [Prod.mk.injEq, DataW.agg.injEq, Rows.laid_baler_literals_forms] at hx1
 intro i f hi hf
 have h0 := hel i hi
 obtain ⟨x, hx⟩ : ∃ x, xs[i]? = some x := ⟨_, List.getElem?_eq_getElem (by omega)⟩
 rw [hx] at h0
 rw [cells46] at h0
 obtain ⟨ys, hy, hall⟩ := four_of_trod (o := i * 16) (by rw [cells46]; exact h0)
 obtain ⟨k0, k1, k2, k3, a0, a1, a2, a3, b⟩ := hall f hf
 rw [World.var?_cell hg1 hv1, World.var?_cell hg1 hv1, World.var?_cell hg1 hv1, World.var?_cell hg1 hv1]
 have h3 : (xs.map (·.1))[i]? = some (.agg ys) := by rw [List.getElem?_map, hx]; simp [hy]
 rw [← hx1.1] at h3
 have key : k0 = ((hbN (2 * i) f : Nat) : Int) ∧ k1 = ((frN (2 * i) f : Nat) : Int) ∧ k2 = ((btN (2 * i) f : Nat) : Int) ∧ k3 = ((rwN (2 * i) f : Nat) : Int) := by
  obtain rfl | rfl : i = 0 ∨ i = 1 := by omega
  ·simp only [List.getElem?_cons_zero, Option.some.injEq, DataW.agg.injEq] at h3
   subst h3
   obtain rfl | rfl | rfl | rfl : f = 0 ∨ f = 1 ∨ f = 2 ∨ f = 3 := by omega
   all_goals (simp at b; obtain ⟨rfl, rfl, rfl, rfl⟩ := b; decide)
  ·simp only [List.getElem?_cons_succ, List.getElem?_cons_zero, Option.some.injEq, DataW.agg.injEq] at h3
   subst h3
   obtain rfl | rfl | rfl | rfl : f = 0 ∨ f = 1 ∨ f = 2 ∨ f = 3 := by omega
   all_goals (simp at b; obtain ⟨rfl, rfl, rfl, rfl⟩ := b; decide)
 obtain ⟨rfl, rfl, rfl, rfl⟩ := key
 exact ⟨by simpa using a0, by simpa using a1, by simpa using a2, by simpa using a3⟩

theorem Bytes.low {w : World} {a : Option Addr} {cap gb off : Nat} {bs : List Nat} (h : Bytes w a cap gb off bs) (h0 : 0 < w.heap.size) : ∃ gb2 off2, Bytes w a cap gb2 off2 bs ∧ gb2 < w.heap.size := by
 by_cases hb : bs = []
 ·subst hb
  exact ⟨0, 0, ⟨.inr rfl, h.nil, fun j hj => (by simp at hj), h.lt, h.cap, h.len⟩, h0⟩
 ·exact ⟨gb, off, h, h.block hb⟩

end Go.Proofs.YtnjilcokkhodmaaGreatDoor

namespace Go.Proofs.YtnjilcokkhodmaaGreatDoor
open Go.RowKit Go.Shelf
set_option linter.unusedVariables false
set_option linter.unusedSimpArgs false

theorem arnd48 (m : Nat) (a : Int) (hm : 0 < m) (h : m < 281474976710656) : ∃ (r : Int) (s q : Nat), a.tmod m = r ∧ r + (m : Int) = (s : Int) ∧ (s : Int) % (m : Int) = (q : Int) ∧ q < m ∧ -281474976710656 ≤ r ∧ r ≤ 281474976710656 ∧ s ≤ 562949953421312 := by
 have h1 : -(m : Int) < a.tmod m := by
  have h := Int.natAbs_tmod a m
  have h' := Nat.mod_lt a.natAbs (show 0 < (m : Int).natAbs by simpa using hm)
  rw [← h] at h'
  simp only [Int.natAbs_natCast] at h'
  omega
 have h2 : a.tmod m < m := Int.tmod_lt_of_pos _ (by omega)
 have h3 : 0 ≤ a.tmod m + m := by omega
 have h4 : (((a.tmod m + m).toNat : Nat) : Int) % (m : Int) = ((((a.tmod m + m).toNat % m : Nat)) : Int) := by rw [Int.natCast_emod]
 exact ⟨a.tmod m, (a.tmod m + m).toNat, (a.tmod m + m).toNat % m, rfl, by omega, h4, Nat.mod_lt _ hm, by omega, by omega, by omega⟩
section
attribute [local go_sem] sliceSem_eq
set_option maxRecDepth 100000 in
set_option maxHeartbeats 4000000 in
theorem cut_law (a : Option Addr) (cap gb off : Nat) (b : List Nat) (bud at_ : Int) (w : World) (hB : Bytes w a cap gb off b) (hg : gb < w.heap.size) (hF : Frm w) (hO : Ords w) (hb1 : -9223372036854775808 ≤ bud) (hb2 : bud ≤ 9223372036854775807) :
  Calls Tryz.prog 4 #[.slice a b.length cap, .int .i64 bud, .int .i64 at_] w fun e w' => e = .returned (.bool true) ∧ Keep noBlock w w' := by
 obtain ⟨Ω⟩ := oc_ex
 obtain ⟨Δ⟩ := od_ex
 obtain ⟨B, hBB⟩ : ∃ B : Nat, (B : Int) = min (max bud 0) 16777216 := ⟨(min (max bud 0) 16777216).toNat, by omega⟩
 have HW := hid (show ∀ W, Keep noBlock w W → Calls Tryz.prog 7 #[] W fun e w' => e = .returned (.bool true) ∧ Keep noBlock W w' from fun W hW => wakesZ_any W (hF.keep hW) (hO.keep hW (fun h => h) (fun h => h)))
 have HM1 := hid (memberB Ω Δ a cap gb off b bud w hB hg hF hO hb1 hb2 B hBB)
 have HM2 := hid (fun (k : Nat) (hk : k ≤ b.length) (W : World) (hkw : Keep noBlock w W) => memberB Ω Δ a cap gb off (b.take k) bud W ((hB.keep hkw (fun _ h => h)).take k hk).2 (Nat.lt_of_lt_of_le hg hkw.size) (hF.keep hkw) (hO.keep hkw (fun h => h) (fun h => h)) hb1 hb2 B hBB)
 have HSl := hid (fun (k : Nat) (hk : k ≤ b.length) => (hB.take k hk).1)
 have HCt := hid (memP_cut (orc Ω Δ) b B)
 have HEr := hid (memP_err (orc Ω Δ) b B)
 have HLb := hid hB.len
 obtain ⟨n, hn⟩ : ∃ n, n = b.length := ⟨_, rfl⟩
 rw [← hn] at HM1 HM2 HSl HCt HLb ⊢
 generalize memP (orc Ω Δ) b B = M at *
 obtain ⟨o1, u1, e1⟩ := M
 dsimp only at HCt HEr
 clear hB hg hF hO hn hb1 hb2
 by_cases h0 : e1 = 0
 ·subst h0
  have HM := (show Hid (Calls Tryz.prog 6 #[.slice a n cap, .int .i64 bud] w fun e w' => ∃ oa on oc og, e = .returned (.tuple #[.slice oa on oc, .int .i64 (u1 : Int), .int .i64 0]) ∧ on = o1.length ∧ Bytes w' oa oc og 0 o1 ∧ Keep noBlock w w') from HM1.out)
  obtain ⟨hc1, hc2, hc3⟩ := HCt.out rfl
  have hl48 := HLb.out
  obtain ⟨r, s, q, y1, y2, y3, y4, y5, y6, y7⟩ := arnd48 u1 at_ (by omega) (by omega)
  have hc := hc3 q y4
  have HMq := hid (HM2.out q (by omega))
  have HSq := hid (HSl.out q (by omega))
  generalize memP (orc Ω Δ) (b.take q) B = M2 at hc HMq
  obtain ⟨o2, u2, e2⟩ := M2
  obtain ⟨hc4, hpre⟩ := hc
  dsimp only at hc4 hpre
  obtain ⟨rfl, rfl⟩ : u2 = 0 ∧ e2 = 10 := by cases hc4; exact ⟨rfl, rfl⟩
  clear hc4
  have HMr := (show Hid (∀ W, Keep noBlock w W → Calls Tryz.prog 6 #[.slice a (b.take q).length cap, .int .i64 bud] W fun e w' => ∃ oa on oc og, e = .returned (.tuple #[.slice oa on oc, .int .i64 0, .int .i64 10]) ∧ on = o2.length ∧ Bytes w' oa oc og 0 o2 ∧ Keep noBlock W w') from fun W hW => HMq.out W hW)
  have HSr := HSq.out
  have HPr := hid hpre
  generalize (b.take q).length = nq at *
  have hx1 : ¬ (u1 : Int) < 1 := by omega
  have hx1d : decide ((u1 : Int) < 1) = false := decide_eq_false hx1
  have hx2 : ¬ (n : Int) < (u1 : Int) := by omega
  have hx2d : decide ((n : Int) < (u1 : Int)) = false := decide_eq_false hx2
  have hx3 : ¬ (u1 : Int) = 0 := by omega
  have hx4 : (q : Int) < (u1 : Int) := by omega
  clear hc1 hc2 hc3 HM1 HM2 HSl HCt HEr HLb hl48 HMq HSq hpre hBB
  go_enter Tryz.func4, Tryz.ntmps4
  go_wp2_with fail
  refine HM.out.mono ?_
  rintro e w1 ⟨oa, on, oc, og, rfl, t2, t3, k1⟩
  have HK1 := (show Hid (Keep noBlock w w1 ∧ on = o1.length ∧ Bytes w1 oa oc og 0 o1) from ⟨k1, t2, t3⟩)
  have HM3 := hid (HMr.out w1 k1)
  clear k1 t2 t3 HM HMr
  go_wp2_with fail
  refine HM3.out.mono ?_
  rintro e w2 ⟨oa2, on2, oc2, og2, rfl, t2, t3, k2⟩
  have hB1 := HK1.out.2.2.keep k2 (fun _ h => h)
  have hle := HPr.out.length_le
  have htk := hB1.take o2.length hle
  rw [← List.prefix_iff_eq_take.1 HPr.out, ← HK1.out.2.1, ← t2] at htk
  have hs1 := run_convB t3.src
  have hs2 := run_convB htk.2.src
  rw [← t2] at hs1 hs2
  have hSl2 := htk.1
  have hle2 : (on2 : Int) ≤ (on : Int) := by have := HK1.out.2.1; omega
  have hle2d : decide ((on2 : Int) ≤ (on : Int)) = true := decide_eq_true hle2
  have HK2 := hid (HK1.out.1.trans' k2)
  have HWk := hid (show ∀ W, Keep noBlock w2 W → Calls Tryz.prog 7 #[] W fun e w' => e = .returned (.bool true) ∧ Keep noBlock W w' from fun W hW => HW.out W (HK2.out.trans' hW))
  have HSt := (show Hid (∀ W, Keep noBlock w2 W → (convert 22 9 (.slice oa2 on2 oc2)).run Tryz.prog W = .ok (.string (strOf o2)) W ∧ (convert 22 9 (.slice oa on2 oc)).run Tryz.prog W = .ok (.string (strOf o2)) W ∧ Keep noBlock w2 W) from fun W hW => by
   have e1 := run_convB (t3.keep hW (fun _ h => h)).src
   have e2 := run_convB (htk.2.keep hW (fun _ h => h)).src
   rw [← t2] at e1 e2
   exact ⟨e1, e2, hW⟩)
  clear hs1 hs2 k2 t2 t3 HM3 HK1 hB1 hle htk HPr HW HSr y1 y2 y3 y4 y5 y6 y7 hx1 hx1d hx2 hx2d hx3 hx4
  generalize strOf o2 = S1 at *
  go_wp2_with fail
  refine region_last (fun W => (convert 22 9 (.slice oa2 on2 oc2)).run Tryz.prog W = .ok (.string S1) W ∧ (convert 22 9 (.slice oa on2 oc)).run Tryz.prog W = .ok (.string S1) W ∧ Keep noBlock w2 W) 26 mx (HSt.out _ (Keep.refl _ w2).drew) (fun hS => ?_)
  refine tk (i := 0) (v := ?_) rfl (by kernel_rfl) (fun _ _ _ h => h) (by rfl) ?_ (by assumption) ?_
  rotate_left 1
  ·intro w hSw; (try dsimp only at hSw); (try obtain ⟨hSw1, hSw2, hSw3⟩ := hSw); (go_simp <;> with_reducible rfl)
  simp only [Act.put, tA, tB, tD, tE, tF]
  refine tk (i := 1) (v := ?_) rfl (by kernel_rfl) (fun _ _ _ h => h) (by rfl) ?_ (by assumption) ?_
  rotate_left 1
  ·intro w hSw; (try dsimp only at hSw); (try obtain ⟨hSw1, hSw2, hSw3⟩ := hSw); (go_simp <;> with_reducible rfl)
  simp only [Act.put, tA, tB, tC, tD, tE, tF]
  refine tk (i := 2) (v := ?_) rfl (by kernel_rfl) (fun _ _ _ h => h) (by rfl) ?_ (by assumption) ?_
  rotate_left 1
  ·intro w hSw; (try dsimp only at hSw); (try obtain ⟨hSw1, hSw2, hSw3⟩ := hSw); (go_simp <;> with_reducible rfl)
  simp only [Act.put, tA, tB, tC, tD, tE, tF]
  refine tk (i := 3) (v := ?_) rfl (by kernel_rfl) (fun _ _ _ h => h) (by rfl) ?_ (by assumption) ?_
  rotate_left 1
  ·intro w hSw; (try dsimp only at hSw); (try obtain ⟨hSw1, hSw2, hSw3⟩ := hSw); (go_simp <;> with_reducible rfl)
  simp only [Act.put, tA, tB, tC, tD, tE, tF]
  refine tk (i := 4) (v := ?_) rfl (by kernel_rfl) (fun _ _ _ h => h) (by rfl) ?_ (by assumption) ?_
  rotate_left 1
  ·intro w hSw; (try dsimp only at hSw); (try obtain ⟨hSw1, hSw2, hSw3⟩ := hSw); (go_simp <;> with_reducible rfl)
  simp only [Act.put, tA, tB, tC, tD, tE, tF]
  refine tk (i := 5) (v := ?_) rfl (by kernel_rfl) (fun _ _ _ h => h) (by rfl) ?_ (by assumption) ?_
  rotate_left 1
  ·intro w hSw; (try dsimp only at hSw); (try obtain ⟨hSw1, hSw2, hSw3⟩ := hSw); (go_simp <;> with_reducible rfl)
  simp only [Act.put, tA, tB, tC, tD, tE, tF]
  refine tk (i := 6) (v := ?_) rfl (by kernel_rfl) (fun _ _ _ h => h) (by rfl) ?_ (by assumption) ?_
  rotate_left 1
  ·intro w hSw; (try dsimp only at hSw); (try obtain ⟨hSw1, hSw2, hSw3⟩ := hSw); (go_simp <;> with_reducible rfl)
  simp only [Act.put, tA, tB, tC, tD, tE, tF]
  refine tk (i := 7) (v := ?_) rfl (by kernel_rfl) (fun _ _ _ h => h) (by rfl) ?_ (by assumption) ?_
  rotate_left 1
  ·intro w hSw; (try dsimp only at hSw); (try obtain ⟨hSw1, hSw2, hSw3⟩ := hSw); (go_simp <;> with_reducible rfl)
  simp only [Act.put, tA, tB, tC, tD, tE, tF]
  refine tk (i := 8) (v := ?_) rfl (by kernel_rfl) (fun _ _ _ h => h) (by rfl) ?_ (by assumption) ?_
  rotate_left 1
  ·intro w hSw; (try dsimp only at hSw); (try obtain ⟨hSw1, hSw2, hSw3⟩ := hSw); (go_simp <;> with_reducible rfl)
  simp only [Act.put, tA, tB, tC, tD, tE, tF]
  refine tk (i := 9) (v := ?_) rfl (by kernel_rfl) (fun _ _ _ h => h) (by rfl) ?_ (by assumption) ?_
  rotate_left 1
  ·intro w hSw; (try dsimp only at hSw); (try obtain ⟨hSw1, hSw2, hSw3⟩ := hSw); (go_simp <;> with_reducible rfl)
  simp only [Act.put, tA, tB, tC, tD, tE, tF]
  refine tk (i := 10) (v := ?_) rfl (by kernel_rfl) (fun _ _ _ h => h) (by rfl) ?_ (by assumption) ?_
  rotate_left 1
  ·intro w hSw; (try dsimp only at hSw); (try obtain ⟨hSw1, hSw2, hSw3⟩ := hSw); (go_simp <;> with_reducible rfl)
  simp only [Act.put, tA, tB, tC, tD, tE, tF]
  refine tk (i := 11) (v := ?_) rfl (by kernel_rfl) (fun _ _ _ h => h) (by rfl) ?_ (by assumption) ?_
  rotate_left 1
  ·intro w hSw; (try dsimp only at hSw); (try obtain ⟨hSw1, hSw2, hSw3⟩ := hSw); (go_simp <;> with_reducible rfl)
  simp only [Act.put, tA, tB, tC, tD, tE, tF]
  refine tk (i := 12) (v := ?_) rfl (by kernel_rfl) (fun _ _ _ h => h) (by rfl) ?_ (by assumption) ?_
  rotate_left 1
  ·intro w hSw; (try dsimp only at hSw); (try obtain ⟨hSw1, hSw2, hSw3⟩ := hSw); (go_simp <;> with_reducible rfl)
  simp only [Act.put, tA, tB, tC, tD, tE, tF]
  refine tk (i := 13) (v := ?_) rfl (by kernel_rfl) (fun _ _ _ h => h) (by rfl) ?_ (by assumption) ?_
  rotate_left 1
  ·intro w hSw; (try dsimp only at hSw); (try obtain ⟨hSw1, hSw2, hSw3⟩ := hSw); (go_simp <;> with_reducible rfl)
  simp only [Act.put, tA, tB, tC, tD, tE, tF]
  refine tk (i := 14) (v := ?_) rfl (by kernel_rfl) (fun _ _ _ h => h) (by rfl) ?_ (by assumption) ?_
  rotate_left 1
  ·intro w hSw; (try dsimp only at hSw); (try obtain ⟨hSw1, hSw2, hSw3⟩ := hSw); (go_simp <;> with_reducible rfl)
  simp only [Act.put, tA, tB, tC, tD, tE, tF]
  refine tk (i := 15) (v := ?_) rfl (by kernel_rfl) (fun _ _ _ h => h) (by rfl) ?_ (by assumption) ?_
  rotate_left 1
  ·intro w hSw; (try dsimp only at hSw); (try obtain ⟨hSw1, hSw2, hSw3⟩ := hSw); (go_simp <;> with_reducible rfl)
  simp only [Act.put, tA, tB, tC, tD, tE, tF]
  refine tk (i := 16) (v := ?_) rfl (by kernel_rfl) (fun _ _ _ h => h) (by rfl) ?_ (by assumption) ?_
  rotate_left 1
  ·intro w hSw; (try dsimp only at hSw); (try obtain ⟨hSw1, hSw2, hSw3⟩ := hSw); (go_simp <;> with_reducible rfl)
  simp only [Act.put, tA, tB, tC, tD, tE, tF]
  refine tk (i := 17) (v := ?_) rfl (by kernel_rfl) (fun _ _ _ h => h) (by rfl) ?_ (by assumption) ?_
  rotate_left 1
  ·intro w hSw; (try dsimp only at hSw); (try obtain ⟨hSw1, hSw2, hSw3⟩ := hSw); (go_simp <;> with_reducible rfl)
  simp only [Act.put, tA, tB, tC, tD, tE, tF]
  refine tk (i := 18) (v := ?_) rfl (by kernel_rfl) (fun _ _ _ h => h) (by rfl) ?_ (by assumption) ?_
  rotate_left 1
  ·intro w hSw; (try dsimp only at hSw); (try obtain ⟨hSw1, hSw2, hSw3⟩ := hSw); (go_simp <;> with_reducible rfl)
  simp only [Act.put, tA, tB, tC, tD, tE, tF]
  refine tk (i := 19) (v := ?_) rfl (by kernel_rfl) (fun _ _ _ h => h) (by rfl) ?_ (by assumption) ?_
  rotate_left 1
  ·intro w hSw; (try dsimp only at hSw); (try obtain ⟨hSw1, hSw2, hSw3⟩ := hSw); (go_simp <;> with_reducible rfl)
  simp only [Act.put, tA, tB, tC, tD, tE, tF]
  refine tk (i := 20) (v := ?_) rfl (by kernel_rfl) (fun _ _ _ h => h) (by rfl) ?_ (by assumption) ?_
  rotate_left 1
  ·intro w hSw; (try dsimp only at hSw); (try obtain ⟨hSw1, hSw2, hSw3⟩ := hSw); (go_simp <;> with_reducible rfl)
  simp only [Act.put, tA, tB, tC, tD, tE, tF]
  refine tk (i := 21) (v := ?_) rfl (by kernel_rfl) (fun _ _ _ h => h) (by rfl) ?_ (by assumption) ?_
  rotate_left 1
  ·intro w hSw; (try dsimp only at hSw); (try obtain ⟨hSw1, hSw2, hSw3⟩ := hSw); (go_simp <;> with_reducible rfl)
  simp only [Act.put, tA, tB, tC, tD, tE, tF]
  refine tk (i := 22) (v := ?_) rfl (by kernel_rfl) (fun _ _ _ h => h) (by rfl) ?_ (by assumption) ?_
  rotate_left 1
  ·intro w hSw; (try dsimp only at hSw); (try obtain ⟨hSw1, hSw2, hSw3⟩ := hSw); (go_simp <;> with_reducible rfl)
  simp only [Act.put, tA, tB, tC, tD, tE, tF]
  refine tk (i := 23) (v := ?_) rfl (by kernel_rfl) (fun _ _ _ h => h) (by rfl) ?_ (by assumption) ?_
  rotate_left 1
  ·intro w hSw; (try dsimp only at hSw); (try obtain ⟨hSw1, hSw2, hSw3⟩ := hSw); (go_simp <;> with_reducible rfl)
  simp only [Act.put, tA, tB, tC, tD, tE, tF]
  refine last_one (j := 24) (by kernel_rfl) rfl (fun K hK => ?_)
  rw [if_pos (by rfl)]
  simp only [tA, tB, tC]
  go_simp
  refine (HWk.out _ (Keep.refl _ w2).drew).mono ?_
  rintro e w3 ⟨rfl, k3⟩
  refine hK.out _ _ (fun _ => HSt.out _ ((Keep.refl _ w2).drew.trans' k3)) ?_
  clear hK K
  refine last_one (j := 25) (by kernel_rfl) rfl (fun K hK => ?_)
  rw [if_pos (by rfl)]
  simp only [tA, tB, tC]
  go_simp
  refine hK.out _ _ (fun _ => HSt.out _ ((Keep.refl _ w2).drew.trans' k3)) ?_
  clear hK K
  refine last_one (j := 26) (by kernel_rfl) rfl (fun K hK => ?_)
  rw [if_pos (by rfl)]
  simp only [tA, tB, tC]
  go_simp
  refine hK.out _ _ (fun e => absurd rfl e) ?_
  clear hK K
  refine last_done (by kernel_rfl) ?_ _
  have HK3 := hid (HK2.out.trans' ((Keep.refl _ w2).drew.trans' k3))
  clear hS HSt HWk k3
  go_wp2_with fail
  go_ret
  exact ⟨rfl, HK3.out⟩
 ·obtain rfl : u1 = 0 := HEr.out h0
  have HM := (show Hid (Calls Tryz.prog 6 #[.slice a n cap, .int .i64 bud] w fun e w' => ∃ oa on oc og, e = .returned (.tuple #[.slice oa on oc, .int .i64 0, .int .i64 (e1 : Int)]) ∧ on = o1.length ∧ Bytes w' oa oc og 0 o1 ∧ Keep noBlock w w') from HM1.out)
  have hne : ((e1 : Int) == 0) = false := by simp; omega
  have hne2 : ¬ (e1 : Int) = 0 := by omega
  have hned : decide (e1 = 0) = false := decide_eq_false h0
  clear HM1 HM2 HSl HCt HEr HLb hBB
  go_enter Tryz.func4, Tryz.ntmps4
  go_wp2_with fail
  refine HM.out.mono ?_
  rintro e w1 ⟨oa, on, oc, og, rfl, t2, t3, k1⟩
  have HK1 := hid k1
  have HWk := hid (HW.out w1 k1)
  clear k1 t2 t3 HM
  go_wp2_with fail
  refine HWk.out.mono ?_
  rintro e w2 ⟨rfl, k2⟩
  have HK2 := hid (HK1.out.trans' k2)
  clear k2 HWk
  go_wp2_with fail
  go_ret
  refine ⟨?_, HK2.out⟩
  show Ending.returned (.bool ((e1 : Int) != 0)) = _
  rw [show ((e1 : Int) != 0) = true by simp; omega]
end
end Go.Proofs.YtnjilcokkhodmaaGreatDoor
