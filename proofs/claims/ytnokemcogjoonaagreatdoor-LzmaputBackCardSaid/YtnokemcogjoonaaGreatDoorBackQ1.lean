/-
  What came in: slices of integers, and of acts, as the rows hand them on.
  What came in: the table of depths, as the rows hand it on; parts of a text, opened.
  Chunks one behind the other are read as the text that they were made of: the walk of the statement.
-/
import Derived.WalkKit
import Derived.ProofKit
import Derived.OpenShut
import Derived.ChangeOld
import Derived.ChangeSame
import Derived.ChangeArms
import Derived.Below
import Derived.SizedLaws
import Derived.Deep.Slices
import Derived.Deep.Strs
import Derived.Deep.Matrix
import Derived.Lib.SmallJoins
import Derived.LaidMore
import Derived.Stop.Joined
import Derived.ShutString
import Derived.Test.YtnokemcogjoonaaGreatDoorRows
import Derived.Test.YtnokemcogjoonaaGreatDoorPutP1
import Derived.Test.YtnokemcogjoonaaGreatDoorPutP23
namespace Go.Proofs.YtnokemcogjoonaaGreatDoor
open Go.ChangeShapes Go.WideShapes Go.ChangeAt Go.RowKit
set_option linter.unusedVariables false

/-- A slice of integers, as it lies. -/
structure RowI (w : World) (k : IntKind) (a : Option Addr) (cap gb off : Nat) (xs : List Int) : Prop where
  at_ : a = some ⟨gb, off, none⟩ ∨ xs = []
  nil : a = none → cap = 0
  cells : ∀ j, j < xs.length → w.cell? ⟨gb, off + j, none⟩ = some (.int k (xs[j]?.getD 0))
  le : xs.length ≤ cap
theorem own : ownKnob Tryz.prog.godebug = none := by kernel_rfl
theorem laidOut : laidOutB Tryz.prog = true := by kernel_rfl
theorem bytes5 : Tryz.prog.bytesOf 5 = 1 := by kernel_rfl
theorem getD_el (zs : List Int) (j : Nat) (h : j < zs.length) : zs.getD j 0 = zs[j] := by simp [List.getD, h]

/-- A slice of integers that came in, made of a row of cap cells. -/
theorem rowI_of {k : IntKind} {W : World} {x : Addr} {l cp : Nat} {zs : List Int} (hl : l ≤ cp) (hz : zs.length = cp) (hcell : ∀ i, i < cp → W.cell? (x.add i) = some (.int k (zs.getD i 0))) :
    ∃ (gb off : Nat), RowI W k (some x) cp gb off (zs.take l) ∧ (zs.take l).length = l := by
  have hbl : (zs.take l).length = l := by rw [List.length_take]; omega
  by_cases h0 : l = 0
  · subst h0
    exact ⟨0, 0, ⟨.inr (by simp), (fun e => by cases e), (fun j hj => by simp at hj), by rw [hbl]; omega⟩, hbl⟩
  · obtain ⟨b, off, spot⟩ := x
    have hc0 := hcell 0 (by omega)
    have hspot : spot = none := by simpa [Addr.add] using World.cell?_spot hc0
    subst hspot
    refine ⟨b, off, ⟨.inl rfl, (fun e => by cases e), fun j hj => ?_, by omega⟩, hbl⟩
    rw [hbl] at hj
    have h1 := hcell j (by omega)
    rw [addO] at h1
    rw [h1, List.getElem?_take, if_pos hj]
    simp [List.getD]

theorem row22_open {H : Type} {enc : TypeId × Value → H} {W : World} {a : Option Addr} {len cap fuel : Nat} {x : DataW H × List MemPlace} (h : DataW.trod enc Tryz.prog W 0 (fun _ => true) true fuel 22 [.slice a len cap] = some x) (hw : ∀ n ∈ x.1.weights Tryz.prog 22, n ≤ reachBytes) :
    ∃ (b off : Nat) (xs : List Int), xs.length = len ∧ RowI W .u8 a cap b off xs ∧ (∀ i : Nat, 0 ≤ xs[i]?.getD 0 ∧ xs[i]?.getD 0 ≤ 255) ∧ len * Tryz.prog.bytesOf 5 ≤ reachBytes := by
  rcases open_ints Tryz.underlying22 Tryz.underlying5 (by kernel_rfl) h with ⟨hcs, _⟩ | ⟨y, l, cp, zs, hcs, _, hl, hm, hz, hx, hcell, hwz⟩
  · simp at hcs
    obtain ⟨rfl, rfl, rfl⟩ := hcs
    exact ⟨0, 0, [], rfl, ⟨.inr rfl, (fun _ => rfl), (fun j hj => by simp at hj), Nat.le_refl _⟩, (fun i => by simp), by simp⟩
  · simp at hcs
    obtain ⟨rfl, rfl, rfl⟩ := hcs
    have hz' : zs.length = cap := by simpa using hz
    obtain ⟨b, off, hR, hlen⟩ := rowI_of (k := .u8) hl hz' (fun i hi => hcell i (by omega))
    refine ⟨b, off, zs.take len, hlen, hR, fun i => ?_, ?_⟩
    · by_cases hi : i < len
      · have hb := bounds_u8 (hwz (zs.getD i 0) (by rw [getD_el zs i (by omega)]; exact List.getElem_mem _))
        rw [List.getElem?_take, if_pos hi, List.getElem?_eq_getElem (by omega), Option.getD_some]
        rw [getD_el zs i (by omega)] at hb
        omega
      · rw [List.getElem?_eq_none (by omega)]; simp
    · have hx1 : x.1 = .slice (lits .u8 (zs.take len)) (lits .u8 (zs.drop len)) := by rw [hx]
      have h1 := hw (((lits (H := H) .u8 (zs.take len)).length + (lits (H := H) .u8 (zs.drop len)).length) * Tryz.prog.bytesOf 5) (by
        rw [hx1]
        simp only [DataW.weights, Tryz.underlying22]
        exact List.mem_cons_self)
      simp only [lits, List.length_map, List.length_take, List.length_drop] at h1
      refine Nat.le_trans (Nat.mul_le_mul_right _ ?_) h1
      omega

/-- A slice of bytes that came in. -/
theorem bytes_open {H : Type} {enc : TypeId × Value → H} {W : World} {a : Option Addr} {len cap fuel : Nat} {x : DataW H × List MemPlace} (h : DataW.trod enc Tryz.prog W 0 (fun _ => true) true fuel 22 [.slice a len cap] = some x) (hw : ∀ n ∈ x.1.weights Tryz.prog 22, n ≤ reachBytes) :
    ∃ (b off : Nat) (bs : List Nat), bs.length = len ∧ Bytes W a cap b off bs ∧ len ≤ 140737488351232 := by
  obtain ⟨b, off, xs, hl, hR, hb, hr⟩ := row22_open h hw
  have hlen : len ≤ 140737488351232 := by rw [bytes5, Nat.mul_one] at hr; exact hr
  refine ⟨b, off, xs.map Int.toNat, by simpa using hl, ⟨?_, hR.nil, fun j hj => ?_, fun j => ?_, ?_, ?_⟩, hlen⟩
  · rcases hR.at_ with e | e
    · exact .inl e
    · exact .inr (by rw [e]; rfl)
  · rw [List.length_map] at hj
    rw [hR.cells j hj]
    have := hb j
    rw [List.getElem?_eq_getElem hj] at this ⊢
    rw [List.getElem?_map, List.getElem?_eq_getElem hj]
    simp only [Option.getD_some, Option.map_some] at this ⊢
    rw [Int.toNat_of_nonneg this.1]
  · have := hb j
    rw [List.getElem?_map]
    cases hx : xs[j]? with
    | none => simp
    | some y => rw [hx] at this; simp only [Option.getD_some, Option.map_some] at this ⊢; omega
  · rw [List.length_map, hl]; have := hR.le; omega
  · rw [List.length_map, hl]; omega

end Go.Proofs.YtnokemcogjoonaaGreatDoor

namespace Go.Proofs.YtnokemcogjoonaaGreatDoor
open Go.ChangeShapes Go.WideShapes Go.ChangeAt Go.RowKit
set_option linter.unusedVariables false

theorem gDepths : Tryz.prog.globalNamed "baler/finder.depths" = some 0 := by kernel_rfl
theorem tDepths : (Tryz.prog.globals[0]?).map (·.type) = some 130 := by kernel_rfl
theorem cells3 : Tryz.prog.cellsOf 3 = 1 := by kernel_rfl
theorem cells37 : Tryz.prog.cellsOf 37 = 3 := by kernel_rfl
theorem cells4 : Tryz.prog.cellsOf 4 = 1 := by kernel_rfl

/-- The door's own heap meets the condition. -/
theorem door_met (os : Os) (args : Array Value) : laidMetH Tryz.prog [("baler/finder.depths", Rows.laid_baler_finder_depths)] ((World.doorLaid Tryz.prog 400 os).forCall (fun _ _ => 0) ⟨#[], args, []⟩).memory :=
  laidMetH_of_parts3 (fuel := 8) (laidMet_of_run' 8 (by kernel_rfl) (by kernel_rfl)) (by kernel_rfl) (by kernel_rfl)

/-- What the condition gives: the table, as it lies. -/
theorem of_laid {W : World} (h : laidMetH Tryz.prog [("baler/finder.depths", Rows.laid_baler_finder_depths)] W) : Fd.Dep W := by
  rw [MakeChecks.laidMetH_plain _ _ _ (by kernel_rfl)] at h
  obtain ⟨ps, ⟨g1, t1, cs1, f1, p1, q1, hg1, ht1, hv1, hd1, _⟩, _, _⟩ := h
  obtain rfl := Option.some.inj (gDepths.symm.trans hg1)
  obtain rfl := Option.some.inj (tDepths.symm.trans ht1)
  obtain ⟨xs, m1, rfl, hx1, hlen, hn4, hel⟩ := DataW.trod_array Tryz.underlying130 hd1
  simp only [Prod.mk.injEq, DataW.agg.injEq, Rows.laid_baler_finder_depths] at hx1
  have hall : ∀ i, i < 4 → ∃ k : Int, cs1[i]? = some (.int .i64 k) ∧ (xs[i]?).map (·.1) = some (.lit (.int .i64 k)) := fun i hi => by
    have h0 := hel i hi
    obtain ⟨x, hx⟩ : ∃ x, xs[i]? = some x := ⟨_, List.getElem?_eq_getElem (by omega)⟩
    rw [hx] at h0
    obtain ⟨k, e1, e2, _⟩ := DataW.trod_int Tryz.underlying3 h0
    refine ⟨k, ?_, ?_⟩
    · rw [cells3] at e1
      have e3 := congrArg (fun l : List Value => l[0]?) e1
      simp only [List.getElem?_take, List.getElem?_drop] at e3
      simpa using e3
    · rw [hx]; simp [e2]
  intro i hi
  obtain ⟨k, h1, h2⟩ := hall i hi
  have hv := World.var?_cell hg1 hv1 i
  rw [hv, h1]
  have h3 : (xs.map (·.1))[i]? = some (.lit (.int .i64 k)) := by rw [List.getElem?_map]; exact h2
  rw [← hx1.1] at h3
  rcases i with _ | _ | _ | _ | i
  · simp at h3; subst h3; rfl
  · simp at h3; subst h3; rfl
  · simp at h3; subst h3; rfl
  · simp at h3; subst h3; rfl
  · omega

set_option maxRecDepth 100000 in
theorem part_open {H : Type} {enc : TypeId × Value → H} {W : World} {fuel : Nat} {cs : List Value} {x : DataW H × List MemPlace} (h : DataW.trod enc Tryz.prog W 0 (fun _ => true) true fuel 37 cs = some x) :
    ∃ d : Pt.Prt, cs = [.int .i64 d.1, .int .i64 d.2.1, .bool d.2.2] := by
  obtain ⟨y0, y1, y2, n, _, hl, h0, h1, h2⟩ := Go.Deep.trod_struct3 Tryz.underlying37 h
  rw [cells37] at hl
  match cs, hl with
  | [c0, c1, c2], _ =>
    simp only [cells3, cells4, List.drop_succ_cons, List.drop_zero, List.take_succ_cons, List.take_zero] at h0 h1 h2
    obtain ⟨q0, e0, _, w0⟩ := DataW.trod_int Tryz.underlying3 h0
    obtain ⟨q1, e1, _, w1⟩ := DataW.trod_int Tryz.underlying3 h1
    obtain ⟨q2, e2, _⟩ := DataW.trod_bool Tryz.underlying4 h2
    simp only [List.cons.injEq, and_true] at e0 e1 e2
    subst e0 e1 e2
    exact ⟨(q0, q1, q2), rfl⟩

theorem add_at (b off j i : Nat) : ((⟨b, off, none⟩ : Addr).add j).add i = ⟨b, off + j + i, none⟩ := by
  rw [Go.Deep.add_add]
  unfold Addr.add
  split <;> simp_all [Nat.add_assoc]

theorem parts_open {H : Type} {enc : TypeId × Value → H} {W : World} {a : Option Addr} {len cap fuel : Nat} {x : DataW H × List MemPlace} (h : DataW.trod enc Tryz.prog W 0 (fun _ => true) true fuel 23 [.slice a len cap] = some x) :
    ∃ (b off : Nat) (ps : List Pt.Prt), ps.length = len ∧ Pt.RowP W a cap b off ps := by
  rcases Go.Deep.open_slice Tryz.underlying23 h with ⟨e, _⟩ | ⟨ad, l, c, m, n, D, Pl, e, _, hl, hm, hmm, _, hel⟩
  · simp only [List.cons.injEq, Value.slice.injEq, and_true] at e
    obtain ⟨rfl, rfl, rfl⟩ := e
    exact ⟨0, 0, [], rfl, ⟨.inr rfl, (fun j hj => by simp at hj)⟩⟩
  · simp only [List.cons.injEq, Value.slice.injEq, and_true] at e
    obtain ⟨rfl, rfl, rfl⟩ := e
    simp only [if_true] at hmm
    subst hmm
    have hel2 : ∀ i, i < len → ∃ d : Pt.Prt, W.cell? (ad.add (i * 3)) = some (.int .i64 d.1) ∧ W.cell? ((ad.add (i * 3)).add 1) = some (.int .i64 d.2.1) ∧ W.cell? ((ad.add (i * 3)).add 2) = some (.bool d.2.2) := by
      intro i hi
      obtain ⟨cs, hc, ht⟩ := hel i (by omega)
      obtain ⟨d, rfl⟩ := part_open ht
      rw [cells37] at hc
      obtain ⟨_, _, hcc⟩ := World.cells?_some hc
      have q0 := hcc 0 (by omega)
      have q1 := hcc 1 (by omega)
      have q2 := hcc 2 (by omega)
      have e0 : (ad.add (i * 3)).add 0 = ad.add (i * 3) := by rw [Go.Deep.add_add]; rfl
      rw [e0] at q0
      exact ⟨d, q0, q1, q2⟩
    obtain ⟨f, hf⟩ := Go.Deep.choose_lt hel2
    by_cases h0 : len = 0
    · subst h0
      exact ⟨0, 0, [], rfl, ⟨.inr rfl, (fun j hj => by simp at hj)⟩⟩
    · obtain ⟨b, off, spot⟩ := ad
      have c0 := (hf 0 (by omega)).1
      have hspot : spot = none := by simpa [Addr.add] using World.cell?_spot c0
      subst hspot
      have hat : ∀ j, j < len → ((List.range len).map f)[j]?.getD (0, 0, false) = f j := fun j hj => by
        rw [List.getElem?_map, List.getElem?_range hj]; rfl
      have hlen : ((List.range len).map f).length = len := by simp
      refine ⟨b, off, (List.range len).map f, hlen, ⟨.inl rfl, fun j hj => ?_⟩⟩
      rw [hlen] at hj
      rw [hat j hj]
      obtain ⟨p0, p1, p2⟩ := hf j hj
      have e0 : (⟨b, off, none⟩ : Addr).add (j * 3) = ⟨b, off + j * 3, none⟩ := by have := add_at b off (j * 3) 0; rw [Go.Deep.add_add] at this; exact this
      rw [add_at] at p1 p2
      rw [e0] at p0
      exact ⟨p0, p1, p2⟩
end Go.Proofs.YtnokemcogjoonaaGreatDoor

namespace Go.Proofs.YtnokemcogjoonaaGreatDoor.Pt
open Go.RowKit Go.Shelf
set_option linter.unusedVariables false

section
attribute [local go_sem] minSem_eq sliceSem_eq
set_option maxRecDepth 40000 in
set_option maxHeartbeats 8000000 in
theorem bk_law (a : Option Addr) (cap gb off : Nat) (bs : List Nat) (lc lp pb : Int) (pa : Option Addr) (pc pg po : Nat) (ps : List Prt) (total : Int) (w : World) (hB : Bytes w a cap gb off bs) (hP : RowP w pa pc pg po ps) (hD : Fd.Dep w) (hlc : lc < 9223372036854775808) :
    Calls Tryz.prog 3 #[.slice a bs.length cap, .int .i64 lc, .int .i64 lp, .int .i64 pb, .slice pa ps.length pc, .int .i64 total] w fun e w' => e = .returned (.bool true) ∧ Keep noBlock w w' := by
  have HW := hid wakes_any
  by_cases g1 : 8192 < bs.length
  · have g1' : decide (8192 < bs.length) = true := decide_eq_true g1
    have g1I : decide (8192 < (bs.length : Int)) = true := decide_eq_true (by omega)
    clear hB hP hD g1
    generalize bs.length = bl at *
    generalize ps.length = pl at *
    go_enter Tryz.func3, Tryz.ntmps3
    go_wp2_with fail
    refine (HW.out _).mono ?_
    rintro e w1 ⟨rfl, k1⟩
    have HK := hid k1
    clear k1 HW
    go_wp2_with fail
    go_ret
    exact ⟨rfl, HK.out⟩
  have g1' : decide (8192 < bs.length) = false := decide_eq_false g1
  have g1I : decide (8192 < (bs.length : Int)) = false := decide_eq_false (by omega)
  by_cases g2 : 8 < ps.length
  · have g2' : decide (8 < ps.length) = true := decide_eq_true g2
    have g2I : decide (8 < (ps.length : Int)) = true := decide_eq_true (by omega)
    clear hB hP hD g2
    generalize bs.length = bl at *
    generalize ps.length = pl at *
    go_enter Tryz.func3, Tryz.ntmps3
    go_wp2_with fail
    refine (HW.out _).mono ?_
    rintro e w1 ⟨rfl, k1⟩
    have HK := hid k1
    clear k1 HW
    go_wp2_with fail
    go_ret
    exact ⟨rfl, HK.out⟩
  have g2' : decide (8 < ps.length) = false := decide_eq_false g2
  have g2I : decide (8 < (ps.length : Int)) = false := decide_eq_false (by omega)
  by_cases g3 : total < 0
  · have g3' : decide (total < 0) = true := decide_eq_true g3
    clear hB hP hD g1 g2 g3
    generalize bs.length = bl at *
    generalize ps.length = pl at *
    go_enter Tryz.func3, Tryz.ntmps3
    go_wp2_with fail
    refine (HW.out _).mono ?_
    rintro e w1 ⟨rfl, k1⟩
    have HK := hid k1
    clear k1 HW
    go_wp2_with fail
    go_ret
    exact ⟨rfl, HK.out⟩
  have g3' : decide (total < 0) = false := decide_eq_false g3
  by_cases g4 : 1099511627776 < total
  · have g4' : decide (1099511627776 < total) = true := decide_eq_true g4
    clear hB hP hD g1 g2 g4
    generalize bs.length = bl at *
    generalize ps.length = pl at *
    go_enter Tryz.func3, Tryz.ntmps3
    go_wp2_with fail
    refine (HW.out _).mono ?_
    rintro e w1 ⟨rfl, k1⟩
    have HK := hid k1
    clear k1 HW
    go_wp2_with fail
    go_ret
    exact ⟨rfl, HK.out⟩
  have g4' : decide (1099511627776 < total) = false := decide_eq_false g4
  have HSt := hid (set_any lc lp pb)
  cases hok : okSet lc lp pb with
  | false =>
    have HN := hid (new_bad lc lp pb hlc hok)
    rw [hok] at HSt
    clear hB hP hD g1 g2 g3 g4 hok
    generalize bs.length = bl at *
    generalize ps.length = pl at *
    go_enter Tryz.func3, Tryz.ntmps3
    go_wp2_with fail
    refine (HN.out _).mono ?_
    rintro e w1 ⟨rfl, k1⟩
    have HK1 := hid k1
    clear k1 HN
    go_wp2_with fail
    refine (HSt.out _).mono ?_
    rintro e w2 ⟨rfl, rfl⟩
    go_wp2_with fail
    refine (HW.out _).mono ?_
    rintro e w3 ⟨rfl, k3⟩
    have HK := hid (HK1.out.trans' k3)
    clear k3 HW HK1
    go_wp2_with fail
    go_ret
    exact ⟨rfl, HK.out⟩
  | true =>
    rw [hok] at HSt
    have hok2 := hok
    unfold okSet at hok2
    simp only [Bool.and_eq_true, decide_eq_true_eq] at hok2
    obtain ⟨xl, rfl⟩ : ∃ xl : Nat, lc = (xl : Int) := ⟨lc.toNat, by omega⟩
    obtain ⟨xp, rfl⟩ : ∃ xp : Nat, lp = (xp : Int) := ⟨lp.toNat, by omega⟩
    obtain ⟨xb, rfl⟩ : ∃ xb : Nat, pb = (xb : Int) := ⟨pb.toNat, by omega⟩
    have hs1 : xl + xp ≤ 4 := by omega
    have hs2 : xb ≤ 4 := by omega
    have HN := hid (new_good xl xp xb hs1 hs2 w)
    have HPV := hid (propsV_any xl xp xb (by omega) (by omega) hs2)
    have HIn := hid (And.intro hB (And.intro hP (And.intro hD (And.intro (show bs.length ≤ 8192 by omega) (show ps.length ≤ 8 by omega)))))
    have hlen : bs.length ≤ 8192 := by omega
    have hpl : ps.length ≤ 8 := by omega
    have ht0 : 0 ≤ total := by omega
    have ht1 : total ≤ 1099511627776 := by omega
    clear hB hP hD g1 g2 g3 g4 hok hok2 hlc
    obtain ⟨bl, hbl⟩ : ∃ bl, bl = bs.length := ⟨_, rfl⟩
    rw [← hbl] at g1' g1I hlen ⊢
    have HBL := hid hbl
    clear hbl
    go_enter Tryz.func3, Tryz.ntmps3
    go_wp2_with fail
    refine HN.out.mono ?_
    rintro e w1 ⟨sb, rfl, b1, s1, k1⟩
    have H1 := hid (And.intro b1 (And.intro s1 k1))
    clear b1 s1 k1 HN
    go_wp2_with fail
    refine (HSt.out _).mono ?_
    rintro e w1' ⟨rfl, rfl⟩
    have HNd := hid (new_state w1')
    clear HSt
    go_wp2_with fail
    refine HNd.out.mono ?_
    rintro e w2 ⟨rfl, s2, k2⟩
    have HR := hid (room_any 16384 (by omega) (by omega) w2)
    rw [show (((16384 : Nat)) : Int) = (16384 : Int) from rfl] at HR
    generalize hdb : w1'.heap.size = db at *
    have H2 := hid (And.intro hdb (And.intro s2 k2))
    clear s2 k2 HNd hdb
    go_wp2_with fail
    refine HR.out.mono ?_
    rintro e w3 ⟨wb, lb, rfl, wl, w3w, k3⟩
    have H3 := hid (And.intro wl (And.intro w3w k3))
    clear wl w3w k3 HR
    go_wp2_with fail
    refine (HPV.out _).mono ?_
    rintro e w3' ⟨rfl, rfl⟩
    obtain ⟨hdb, s2, k2⟩ := H2.out
    obtain ⟨wl, w3w, k3⟩ := H3.out
    have HPr := hid (props_good db _ _ xl xp xb hs1 hs2 w3' (s2.keep k3 (fun h => h)))
    clear s2 hdb k2 wl w3w k3 HPV
    go_wp2_with fail
    refine HPr.out.mono ?_
    rintro e w4 ⟨rfl, s4, k4⟩
    have H4 := hid (show ∃ s c rv, Bkw w w4 sb db wb lb s c rv (bs.take 0) from by
      obtain ⟨b1, s1, k1⟩ := H1.out
      obtain ⟨hdb, s2, k2⟩ := H2.out
      obtain ⟨wl, w3w, k3⟩ := H3.out
      have z1 := k1.size
      have z2 := k2.size
      have zb := s1.block
      have zd := s2.block
      have kk : Keep noBlock w w3' := (k1.trans' k2).trans' k3
      have s1' := (s1.keep k2 (fun h => h)).keep k3 (fun h => h)
      refine ⟨newS xl xp xb, fun _ => 1024, .slice none 0 0, s1'.keep k4 (fun e => ?_), s4, w3w.keep k4 (fun e => ?_) (fun g hg => by cases hg), kk.trans k4 (fun i hi e => ?_), b1, by omega, by omega, (fun k hk => by cases hk), by show 0 < 7; omega⟩
      · have e : sb = db := e; omega
      · have e : wb = db := e; omega
      · have e : i = db := e; omega)
    clear s4 k4 HPr H1 H2 H3
    go_wp2_with fail
    go_loopw [5, 17, 18] (fun t5 t17 t18 wr => ∃ (i at_ : Nat), t18 = .int .i64 (i : Int) ∧ t17 = .int .i64 (at_ : Int) ∧ t5 = .int .i64 (total + (at_ : Int)) ∧ i ≤ ps.length ∧ at_ ≤ bl ∧ Hid (∃ s c rv, Bkw w wr sb db wb lb s c rv (bs.take at_))) (fun _ _ t18 _ => ps.length - (intOf t18).toNat)
    case atStart => exact ⟨0, 0, rfl, rfl, by rw [show (((0 : Nat)) : Int) = (0 : Int) from rfl, Int.add_zero], Nat.zero_le _, Nat.zero_le _, H4⟩
    case round =>
      clear H4
      obtain ⟨i, at_, rfl, rfl, rfl, hi, hat, HQ⟩ := hrel
      by_cases hlt : i < ps.length
      rotate_left
      · have hltN : decide (i < ps.length) = false := decide_eq_false hlt
        have hltI : decide ((i : Int) < (ps.length : Int)) = false := decide_eq_false (by omega)
        have HK1 := hid (show Keep noBlock w wr from by obtain ⟨s, c, rv, h⟩ := HQ.out; exact h.kp)
        clear HQ hlt
        go_wp2_with fail
        refine (HW.out _).mono ?_
        rintro e w9 ⟨rfl, k9⟩
        have HK := hid (HK1.out.trans' k9)
        clear k9 HW HK1
        go_wp2_with fail
        go_ret
        exact ⟨rfl, HK.out⟩
      have hltN : decide (i < ps.length) = true := decide_eq_true hlt
      have hltI : decide ((i : Int) < (ps.length : Int)) = true := decide_eq_true (by omega)
      by_cases hal : at_ < bl
      rotate_left
      · have halN : decide (at_ < bl) = false := decide_eq_false hal
        have halI : decide ((at_ : Int) < (bl : Int)) = false := decide_eq_false (by omega)
        have HK1 := hid (show Keep noBlock w wr from by obtain ⟨s, c, rv, h⟩ := HQ.out; exact h.kp)
        clear HQ hlt hal
        go_wp2_with fail
        refine (HW.out _).mono ?_
        rintro e w9 ⟨rfl, k9⟩
        have HK := hid (HK1.out.trans' k9)
        clear k9 HW HK1
        go_wp2_with fail
        go_ret
        exact ⟨rfl, HK.out⟩
      have halN : decide (at_ < bl) = true := decide_eq_true hal
      have halI : decide ((at_ : Int) < (bl : Int)) = true := decide_eq_true (by omega)
      obtain ⟨s, c, rv, hbk⟩ := HQ.out
      obtain ⟨hB, hP, hD, -, -⟩ := HIn.out
      obtain ⟨e1, e2, e3⟩ := (hP.keep hbk.kp).cells i hlt
      have hpa := hP.here hlt
      obtain ⟨⟨N, lv, rs⟩, hprt⟩ : ∃ t : Prt, ps[i]?.getD (0, 0, false) = t := ⟨_, rfl⟩
      rw [hprt] at e1 e2 e3
      dsimp only at e1 e2 e3
      rw [hpa]
      have HPrt := hid hprt
      clear hprt hB hP hD HQ
      obtain ⟨r, sN, q, y1, y2, y3, y4, y5, y6, y7⟩ := arnd2 N
      obtain ⟨x1, hx1⟩ : ∃ x1 : Nat, x1 = at_ + 1 := ⟨_, rfl⟩
      have hx1I : (at_ : Int) + 1 = (x1 : Int) := by omega
      obtain ⟨x2, hx2⟩ : ∃ x2 : Nat, x2 = x1 + q := ⟨_, rfl⟩
      have hx2I : (x1 : Int) + (q : Int) = (x2 : Int) := by omega
      obtain ⟨e, he⟩ : ∃ e : Nat, e = min bl x2 := ⟨_, rfl⟩
      have hmin := minSem_run .i64 #[3, 3] 3 (bl : Int) (x2 : Int) (e : Int) (by omega)
      have hae : at_ < e := by omega
      have hel : e ≤ bl := by omega
      have hx1b : x1 ≤ 8192 := by omega
      have hx2b : x2 ≤ 16384 := by omega
      clear hx1 hx2 he
      have HBk := hid hbk
      clear hbk
      cases rs with
      | false =>
        go_wp2_with fail
        have hw5 : wr = wr := rfl
        generalize hwr : wr = w5 at *
        clear hw5 hwr
        have HX := hid (show ∃ s c rv, Bkw w w5 sb db wb lb s c rv (bs.take at_) from ⟨s, c, rv, HBk.out⟩)
        clear HBk
        obtain ⟨s5, c5, rv5, hbk⟩ := HX.out
        clear HX
        obtain ⟨hB, hP, hD, -, -⟩ := HIn.out
        obtain ⟨W6, hW6⟩ : ∃ W6, W6 = w5.drew := ⟨_, rfl⟩
        have h6 : Bkw w W6 sb db wb lb s5 c5 rv5 (bs.take at_) := by rw [hW6]; exact hbk.keep ((Keep.refl noBlock w5).drew)
        obtain ⟨-, e2, -⟩ := (hP.keep h6.kp).cells i hlt
        rw [HPrt.out] at e2
        dsimp only at e2
        have hblE : e ≤ bs.length := by rw [← HBL.out]; exact hel
        have hbtE := (hB.keep h6.kp (fun _ h => h)).take e hblE
        have hsl1 := hbtE.1
        rw [take_length hblE, ← HBL.out] at hsl1
        have hPa := parse_made a cap gb off (bs.take e) at_ lv W6 (hD.keep h6.kp) hbtE.2 (by rw [take_length hblE]; omega) (by rw [take_length hblE]; omega)
        rw [take_length hblE] at hPa
        have HPa := hid hPa
        have H6 := hid h6
        clear hbk hB hP hD h6 hPa hbtE
        refine region_tail 9 mx (by kernel_rfl) ?_
        rw [← hW6]
        clear hW6
        simp only [List.take_succ_cons, List.take_zero, List.drop_succ_cons, List.drop_zero]
        repeat (quiet_step (fail))
        refine wpQuiet_nil ?_
        go_wp2_with fail
        refine HPa.out.mono ?_
        rintro e9 w7 ⟨la, lc7, lg, ts, rfl, hQ7, hlg7, hmd7, htl7, k7⟩
        have h7 := H6.out.keep k7
        obtain ⟨hB, -, -, -, -⟩ := HIn.out
        have k8 : Keep noBlock w7 (w7.alloc (.cells #[] 5)) := (Keep.refl noBlock w7).alloc _
        obtain ⟨ta, tc, tg, W9, r9, b9, k9, hn9⟩ := copy_own w7 (.slice a (bs.take e).length cap) (bs.take e) (lt_take hB.lt e) (by rw [take_length hblE]; omega) (((hB.keep h7.kp (fun _ h => h)).keep k8 (fun _ h => h)).take e hblE).2.src
        rw [take_length hblE] at r9
        have h9 := h7.keep k9
        have hTne : bs.take e ≠ [] := fun q => by have := congrArg List.length q; rw [take_length hblE] at this; simp at this; omega
        have hsb7 := h7.en.block
        have hCh := chunkP_good sb s5 c5 ta tc tg 0 (bs.take e) at_ la lc7 lg 0 ts (total + (at_ : Int)) W9 h9.en h9.low b9 (hQ7.keep k9 (fun _ h => h)) (by rw [take_length hblE]; omega) (by rw [take_length hblE]; omega) (by omega) (by omega) (by omega) hmd7 (by have := hn9 hTne; omega) (fun hne => by have := hlg7 hne; have := H6.out.en.block; omega)
        rw [take_length hblE] at hCh
        have HCh := hid hCh
        have H9 := hid (And.intro h9 (And.intro b9 (And.intro hmd7 (show tg ≠ sb by have := hn9 hTne; omega))))
        clear h7 h9 b9 hCh hQ7 hlg7 hmd7 k7 k8 k9 hn9 hTne hsb7 hB HPa H6 e2
        generalize htsl : List.length ts = tsl at *
        clear htsl
        go_wp2_with (at_builtin; refine wpList_append_run _ rfl _ _ 22 rfl _ _ _ _ rfl rfl r9 ?_)
        clear r9
        refine HCh.out.mono ?_
        rintro e9 w10 ⟨u, rfl, p10⟩
        obtain ⟨cp, g, rfl, bt10, hge⟩ := p10.row.ex
        obtain ⟨h9, b9, hmd, htgs⟩ := H9.out
        have hrd := steps_read (bs.take e) at_ (total + (at_ : Int)) ts s5 c5 16384 (by rw [take_length hblE]; omega) (by rw [take_length hblE]; omega) (by rw [take_length hblE]; omega) b9.lt h9.low hmd
        have hol := steps_len (bs.take e) at_ (total + (at_ : Int)) ts s5 c5 (by rw [take_length hblE]; omega) (by rw [take_length hblE]; omega) h9.low hmd
        have hlw := steps_low (bs.take e) at_ (total + (at_ : Int)) ts s5 (by rw [take_length hblE]; omega) (by rw [take_length hblE]; omega) h9.low hmd
        have hbg := out_begins (opsA (tkOf (bs.take e) at_ (total + (at_ : Int))) (opsOf (bs.take e) at_ (total + (at_ : Int)) ts s5) s5 at_) c5
        rw [take_at (Nat.le_of_lt hae), take_length hblE] at hrd
        obtain ⟨hB, -, -, -, -⟩ := HIn.out
        obtain ⟨W11, hW11⟩ : ∃ W11, W11 = w10.drew := ⟨_, rfl⟩
        have kd : Keep noBlock w10 W11 := by rw [hW11]; exact (Keep.refl noBlock w10).drew
        have m11 := (h9.mid p10.st p10.kp).keep kd
        have hbm : Bytes W11 ta tc tg 0 (bs.take e) := (b9.keep p10.kp (fun _ q => htgs q)).keep kd (fun _ h => h)
        have hbb : Bytes W11 a cap gb off bs := hB.keep m11.kp (fun _ h => h)
        have bt11 := bt10.keep kd (fun _ h => h)
        have q1 := run_convB hbm.src
        have q2 := run_convB (hbb.take e hblE).2.src
        rw [take_length hblE] at q1 q2
        generalize opsS (opsOf (bs.take e) at_ (total + (at_ : Int)) ts s5) s5 = S6 at *
        generalize (runA (opsA (tkOf (bs.take e) at_ (total + (at_ : Int))) (opsOf (bs.take e) at_ (total + (at_ : Int)) ts s5) s5 at_) ⟨c5, newE⟩).c = C6 at *
        generalize outA (opsA (tkOf (bs.take e) at_ (total + (at_ : Int))) (opsOf (bs.take e) at_ (total + (at_ : Int)) ts s5) s5 at_) c5 = M at *
        have hCk := chunk_good db wb lb 16384 rv5 s5 c5 (bs.take at_) (total + (at_ : Int)) (some ⟨g, 0, none⟩) cp g 0 M (e - at_) W11 m11.de m11.wi bt11 (by omega) (by omega) (by omega) (by omega) (by omega) hbg
        rw [hrd] at hCk
        obtain ⟨n, hn⟩ : ∃ n : Nat, n = e - at_ := ⟨_, rfl⟩
        have hnI : (e : Int) - (at_ : Int) = (n : Int) := by omega
        rw [← hn] at hCk
        have HCk := hid hCk
        have H11 := hid (And.intro m11 (And.intro hbb hlw))
        clear p10 bt10 hge h9 b9 hmd htgs hrd hol hlw hbg hB kd m11 hbm hbb bt11 hCk HCh H9 hn
        generalize hml : M.length = ml at *
        clear hml
        generalize strOf (bs.take e) = st at *
        go_wp2_with fail
        refine region_tail 10 mx (by kernel_rfl) ?_
        rw [← hW11]
        clear hW11
        simp only [List.take_succ_cons, List.take_zero, List.drop_succ_cons, List.drop_zero]
        repeat (quiet_step (fail))
        refine wpQuiet_nil ?_
        go_wp2_with fail
        refine HCk.out.mono ?_
        rintro e9 w12 ⟨a12, cap12, g12, off12, rv12, rfl, b12, -, s12, wi12, nr12, k12⟩
        obtain ⟨m11, hbb, hlw⟩ := H11.out
        have h12 := m11.end s12 wi12 nr12 k12 hlw
        obtain ⟨W13, hW13⟩ : ∃ W13, W13 = w12.drew := ⟨_, rfl⟩
        have kd : Keep noBlock w12 W13 := by rw [hW13]; exact (Keep.refl noBlock w12).drew
        have h13 := h12.keep kd
        have b13 := b12.keep kd (fun _ h => h)
        obtain ⟨hB, -, -, -, -⟩ := HIn.out
        have hb13 := hB.keep h13.kp (fun _ h => h)
        have ha : a = some ⟨gb, off, none⟩ := hB.at_.resolve_right (fun q => by rw [q] at hblE; simp at hblE; omega)
        have hto : ((bs.take e).drop at_).length = n := by rw [List.length_drop, take_length hblE]; omega
        have hmid : ∀ W, (sliceSem 22 (.slice a bl cap) (some (.int .i64 (at_ : Int))) (some (.int .i64 (e : Int))) none).run Tryz.prog W = .ok (.slice (some ⟨gb, off + at_, none⟩) n (cap - at_)) W := by
          intro W
          rw [ha, show n = e - at_ from by omega]
          exact Fd.run_mid gb off bl cap at_ e hae (by have := hB.cap; have := HBL.out; omega) W
        rw [ha] at hb13
        have q3 := run_convB b13.src
        have q4 := run_convB (mid_src (c := cap - at_) hb13 (Nat.le_of_lt hae) hblE)
        dsimp only at q3
        rw [show e - at_ = n from by omega] at q4
        rw [hto] at q3
        have HF := hid (show ∃ s c rv, Bkw w W13 sb db wb lb s c rv (bs.take e) from ⟨_, _, _, h13⟩)
        dsimp only
        rw [hto]
        generalize strOf ((bs.take e).drop at_) = st2 at *
        clear m11 hbb hlw h12 kd h13 b12 b13 s12 wi12 nr12 k12 hB hb13 hto HCk H11 q1 q2 hsl1
        clear ha
        have hw1 : IntKind.i64.wrap (total + (at_ : Int) + (e : Int)) = total + (at_ : Int) + (e : Int) := by rw [IntKind.wrap_i64]; omega
        have hw2 : IntKind.i64.wrap (total + (at_ : Int) + (e : Int) - (at_ : Int)) = total + (e : Int) := by rw [IntKind.wrap_i64]; omega
        go_wp2_with fail
        refine region_tail 11 mx (by kernel_rfl) ?_
        rw [← hW13]
        clear hW13
        simp only [List.take_succ_cons, List.take_zero, List.drop_succ_cons, List.drop_zero]
        repeat (quiet_step (fail))
        refine wpQuiet_nil ?_
        go_wp2_with fail
        go_roundw
        case rel => exact ⟨i + 1, e, by go_num, by go_num, by first | rfl | (congr 1; omega) | (simp; omega), by omega, hel, HF⟩
        case measure => simp [intOf]; omega
      | true =>
        have HR1 := hid (reset_any sb s c wr HBk.out.en)
        go_wp2_with fail
        refine HR1.out.mono ?_
        rintro e9 w51 ⟨rfl, s51, k51⟩
        have HR2 := hid (Go.Proofs.YtnokemcogjoonaaGreatDoor.reset_any db s c w51 (HBk.out.de.keep k51 (fun e => HBk.out.ne.1 e.symm)))
        have H51 := hid (And.intro s51 k51)
        clear s51 k51 HR1
        go_wp2_with fail
        refine HR2.out.mono ?_
        rintro e9 w5 ⟨rfl, s5, k5⟩
        have HX := hid (show ∃ s c rv, Bkw w w5 sb db wb lb s c rv (bs.take at_) from ⟨_, _, rv, HBk.out.reset H51.out.1 H51.out.2 s5 k5⟩)
        clear s5 k5 HR2 H51 HBk e1 e2 e3
        go_wp2_with fail
        obtain ⟨s5, c5, rv5, hbk⟩ := HX.out
        clear HX
        obtain ⟨hB, hP, hD, -, -⟩ := HIn.out
        obtain ⟨W6, hW6⟩ : ∃ W6, W6 = w5.drew := ⟨_, rfl⟩
        have h6 : Bkw w W6 sb db wb lb s5 c5 rv5 (bs.take at_) := by rw [hW6]; exact hbk.keep ((Keep.refl noBlock w5).drew)
        obtain ⟨-, e2, -⟩ := (hP.keep h6.kp).cells i hlt
        rw [HPrt.out] at e2
        dsimp only at e2
        have hblE : e ≤ bs.length := by rw [← HBL.out]; exact hel
        have hbtE := (hB.keep h6.kp (fun _ h => h)).take e hblE
        have hsl1 := hbtE.1
        rw [take_length hblE, ← HBL.out] at hsl1
        have hPa := parse_made a cap gb off (bs.take e) at_ lv W6 (hD.keep h6.kp) hbtE.2 (by rw [take_length hblE]; omega) (by rw [take_length hblE]; omega)
        rw [take_length hblE] at hPa
        have HPa := hid hPa
        have H6 := hid h6
        clear hbk hB hP hD h6 hPa hbtE
        refine region_tail 9 mx (by kernel_rfl) ?_
        rw [← hW6]
        clear hW6
        simp only [List.take_succ_cons, List.take_zero, List.drop_succ_cons, List.drop_zero]
        repeat (quiet_step (fail))
        refine wpQuiet_nil ?_
        go_wp2_with fail
        refine HPa.out.mono ?_
        rintro e9 w7 ⟨la, lc7, lg, ts, rfl, hQ7, hlg7, hmd7, htl7, k7⟩
        have h7 := H6.out.keep k7
        obtain ⟨hB, -, -, -, -⟩ := HIn.out
        have k8 : Keep noBlock w7 (w7.alloc (.cells #[] 5)) := (Keep.refl noBlock w7).alloc _
        obtain ⟨ta, tc, tg, W9, r9, b9, k9, hn9⟩ := copy_own w7 (.slice a (bs.take e).length cap) (bs.take e) (lt_take hB.lt e) (by rw [take_length hblE]; omega) (((hB.keep h7.kp (fun _ h => h)).keep k8 (fun _ h => h)).take e hblE).2.src
        rw [take_length hblE] at r9
        have h9 := h7.keep k9
        have hTne : bs.take e ≠ [] := fun q => by have := congrArg List.length q; rw [take_length hblE] at this; simp at this; omega
        have hsb7 := h7.en.block
        have hCh := chunkP_good sb s5 c5 ta tc tg 0 (bs.take e) at_ la lc7 lg 0 ts (total + (at_ : Int)) W9 h9.en h9.low b9 (hQ7.keep k9 (fun _ h => h)) (by rw [take_length hblE]; omega) (by rw [take_length hblE]; omega) (by omega) (by omega) (by omega) hmd7 (by have := hn9 hTne; omega) (fun hne => by have := hlg7 hne; have := H6.out.en.block; omega)
        rw [take_length hblE] at hCh
        have HCh := hid hCh
        have H9 := hid (And.intro h9 (And.intro b9 (And.intro hmd7 (show tg ≠ sb by have := hn9 hTne; omega))))
        clear h7 h9 b9 hCh hQ7 hlg7 hmd7 k7 k8 k9 hn9 hTne hsb7 hB HPa H6 e2
        generalize htsl : List.length ts = tsl at *
        clear htsl
        go_wp2_with (at_builtin; refine wpList_append_run _ rfl _ _ 22 rfl _ _ _ _ rfl rfl r9 ?_)
        clear r9
        refine HCh.out.mono ?_
        rintro e9 w10 ⟨u, rfl, p10⟩
        obtain ⟨cp, g, rfl, bt10, hge⟩ := p10.row.ex
        obtain ⟨h9, b9, hmd, htgs⟩ := H9.out
        have hrd := steps_read (bs.take e) at_ (total + (at_ : Int)) ts s5 c5 16384 (by rw [take_length hblE]; omega) (by rw [take_length hblE]; omega) (by rw [take_length hblE]; omega) b9.lt h9.low hmd
        have hol := steps_len (bs.take e) at_ (total + (at_ : Int)) ts s5 c5 (by rw [take_length hblE]; omega) (by rw [take_length hblE]; omega) h9.low hmd
        have hlw := steps_low (bs.take e) at_ (total + (at_ : Int)) ts s5 (by rw [take_length hblE]; omega) (by rw [take_length hblE]; omega) h9.low hmd
        have hbg := out_begins (opsA (tkOf (bs.take e) at_ (total + (at_ : Int))) (opsOf (bs.take e) at_ (total + (at_ : Int)) ts s5) s5 at_) c5
        rw [take_at (Nat.le_of_lt hae), take_length hblE] at hrd
        obtain ⟨hB, -, -, -, -⟩ := HIn.out
        obtain ⟨W11, hW11⟩ : ∃ W11, W11 = w10.drew := ⟨_, rfl⟩
        have kd : Keep noBlock w10 W11 := by rw [hW11]; exact (Keep.refl noBlock w10).drew
        have m11 := (h9.mid p10.st p10.kp).keep kd
        have hbm : Bytes W11 ta tc tg 0 (bs.take e) := (b9.keep p10.kp (fun _ q => htgs q)).keep kd (fun _ h => h)
        have hbb : Bytes W11 a cap gb off bs := hB.keep m11.kp (fun _ h => h)
        have bt11 := bt10.keep kd (fun _ h => h)
        have q1 := run_convB hbm.src
        have q2 := run_convB (hbb.take e hblE).2.src
        rw [take_length hblE] at q1 q2
        generalize opsS (opsOf (bs.take e) at_ (total + (at_ : Int)) ts s5) s5 = S6 at *
        generalize (runA (opsA (tkOf (bs.take e) at_ (total + (at_ : Int))) (opsOf (bs.take e) at_ (total + (at_ : Int)) ts s5) s5 at_) ⟨c5, newE⟩).c = C6 at *
        generalize outA (opsA (tkOf (bs.take e) at_ (total + (at_ : Int))) (opsOf (bs.take e) at_ (total + (at_ : Int)) ts s5) s5 at_) c5 = M at *
        have hCk := chunk_good db wb lb 16384 rv5 s5 c5 (bs.take at_) (total + (at_ : Int)) (some ⟨g, 0, none⟩) cp g 0 M (e - at_) W11 m11.de m11.wi bt11 (by omega) (by omega) (by omega) (by omega) (by omega) hbg
        rw [hrd] at hCk
        obtain ⟨n, hn⟩ : ∃ n : Nat, n = e - at_ := ⟨_, rfl⟩
        have hnI : (e : Int) - (at_ : Int) = (n : Int) := by omega
        rw [← hn] at hCk
        have HCk := hid hCk
        have H11 := hid (And.intro m11 (And.intro hbb hlw))
        clear p10 bt10 hge h9 b9 hmd htgs hrd hol hlw hbg hB kd m11 hbm hbb bt11 hCk HCh H9 hn
        generalize hml : M.length = ml at *
        clear hml
        generalize strOf (bs.take e) = st at *
        go_wp2_with fail
        refine region_tail 10 mx (by kernel_rfl) ?_
        rw [← hW11]
        clear hW11
        simp only [List.take_succ_cons, List.take_zero, List.drop_succ_cons, List.drop_zero]
        repeat (quiet_step (fail))
        refine wpQuiet_nil ?_
        go_wp2_with fail
        refine HCk.out.mono ?_
        rintro e9 w12 ⟨a12, cap12, g12, off12, rv12, rfl, b12, -, s12, wi12, nr12, k12⟩
        obtain ⟨m11, hbb, hlw⟩ := H11.out
        have h12 := m11.end s12 wi12 nr12 k12 hlw
        obtain ⟨W13, hW13⟩ : ∃ W13, W13 = w12.drew := ⟨_, rfl⟩
        have kd : Keep noBlock w12 W13 := by rw [hW13]; exact (Keep.refl noBlock w12).drew
        have h13 := h12.keep kd
        have b13 := b12.keep kd (fun _ h => h)
        obtain ⟨hB, -, -, -, -⟩ := HIn.out
        have hb13 := hB.keep h13.kp (fun _ h => h)
        have ha : a = some ⟨gb, off, none⟩ := hB.at_.resolve_right (fun q => by rw [q] at hblE; simp at hblE; omega)
        have hto : ((bs.take e).drop at_).length = n := by rw [List.length_drop, take_length hblE]; omega
        have hmid : ∀ W, (sliceSem 22 (.slice a bl cap) (some (.int .i64 (at_ : Int))) (some (.int .i64 (e : Int))) none).run Tryz.prog W = .ok (.slice (some ⟨gb, off + at_, none⟩) n (cap - at_)) W := by
          intro W
          rw [ha, show n = e - at_ from by omega]
          exact Fd.run_mid gb off bl cap at_ e hae (by have := hB.cap; have := HBL.out; omega) W
        rw [ha] at hb13
        have q3 := run_convB b13.src
        have q4 := run_convB (mid_src (c := cap - at_) hb13 (Nat.le_of_lt hae) hblE)
        dsimp only at q3
        rw [show e - at_ = n from by omega] at q4
        rw [hto] at q3
        have HF := hid (show ∃ s c rv, Bkw w W13 sb db wb lb s c rv (bs.take e) from ⟨_, _, _, h13⟩)
        dsimp only
        rw [hto]
        generalize strOf ((bs.take e).drop at_) = st2 at *
        clear m11 hbb hlw h12 kd h13 b12 b13 s12 wi12 nr12 k12 hB hb13 hto HCk H11 q1 q2 hsl1
        clear ha
        have hw1 : IntKind.i64.wrap (total + (at_ : Int) + (e : Int)) = total + (at_ : Int) + (e : Int) := by rw [IntKind.wrap_i64]; omega
        have hw2 : IntKind.i64.wrap (total + (at_ : Int) + (e : Int) - (at_ : Int)) = total + (e : Int) := by rw [IntKind.wrap_i64]; omega
        go_wp2_with fail
        refine region_tail 11 mx (by kernel_rfl) ?_
        rw [← hW13]
        clear hW13
        simp only [List.take_succ_cons, List.take_zero, List.drop_succ_cons, List.drop_zero]
        repeat (quiet_step (fail))
        refine wpQuiet_nil ?_
        go_wp2_with fail
        go_roundw
        case rel => exact ⟨i + 1, e, by go_num, by go_num, by first | rfl | (congr 1; omega) | (simp; omega), by omega, hel, HF⟩
        case measure => simp [intOf]; omega
end

end Go.Proofs.YtnokemcogjoonaaGreatDoor.Pt
