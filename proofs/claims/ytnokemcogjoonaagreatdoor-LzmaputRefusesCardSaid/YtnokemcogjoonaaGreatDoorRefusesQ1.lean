/-
  What came in: slices of integers, and of acts, as the rows hand them on.
  What came in: the table of depths, as the rows hand it on; parts of a text, opened.
  Steps in a row of one's own: a copy of them, one number of it changed.
  Steps that do not make the text are refused, and the state is as it was: the walk of the statement.
-/
import Derived.WalkKit
import Derived.ProofKit
import Derived.OpenShut
import Derived.ChangeOld
import Derived.ChangeSame
import Derived.ChangeArms
import Derived.Below
import Derived.SizedLaws
import Derived.Deep.Slices
import Derived.Deep.Strs
import Derived.Deep.Matrix
import Derived.Lib.SmallJoins
import Derived.LaidMore
import Derived.Stop.Joined
import Derived.ShutString
import Derived.Test.YtnokemcogjoonaaGreatDoorRows
import Derived.Test.YtnokemcogjoonaaGreatDoorPutP1
import Derived.Test.YtnokemcogjoonaaGreatDoorPutP23
namespace Go.Proofs.YtnokemcogjoonaaGreatDoor
open Go.ChangeShapes Go.WideShapes Go.ChangeAt Go.RowKit
set_option linter.unusedVariables false

/-- A slice of integers, as it lies. -/
structure RowI (w : World) (k : IntKind) (a : Option Addr) (cap gb off : Nat) (xs : List Int) : Prop where
  at_ : a = some ⟨gb, off, none⟩ ∨ xs = []
  nil : a = none → cap = 0
  cells : ∀ j, j < xs.length → w.cell? ⟨gb, off + j, none⟩ = some (.int k (xs[j]?.getD 0))
  le : xs.length ≤ cap
theorem own : ownKnob Tryz.prog.godebug = none := by kernel_rfl
theorem laidOut : laidOutB Tryz.prog = true := by kernel_rfl
theorem bytes5 : Tryz.prog.bytesOf 5 = 1 := by kernel_rfl
theorem getD_el (zs : List Int) (j : Nat) (h : j < zs.length) : zs.getD j 0 = zs[j] := by simp [List.getD, h]

/-- A slice of integers that came in, made of a row of cap cells. -/
theorem rowI_of {k : IntKind} {W : World} {x : Addr} {l cp : Nat} {zs : List Int} (hl : l ≤ cp) (hz : zs.length = cp) (hcell : ∀ i, i < cp → W.cell? (x.add i) = some (.int k (zs.getD i 0))) :
    ∃ (gb off : Nat), RowI W k (some x) cp gb off (zs.take l) ∧ (zs.take l).length = l := by
  have hbl : (zs.take l).length = l := by rw [List.length_take]; omega
  by_cases h0 : l = 0
  · subst h0
    exact ⟨0, 0, ⟨.inr (by simp), (fun e => by cases e), (fun j hj => by simp at hj), by rw [hbl]; omega⟩, hbl⟩
  · obtain ⟨b, off, spot⟩ := x
    have hc0 := hcell 0 (by omega)
    have hspot : spot = none := by simpa [Addr.add] using World.cell?_spot hc0
    subst hspot
    refine ⟨b, off, ⟨.inl rfl, (fun e => by cases e), fun j hj => ?_, by omega⟩, hbl⟩
    rw [hbl] at hj
    have h1 := hcell j (by omega)
    rw [addO] at h1
    rw [h1, List.getElem?_take, if_pos hj]
    simp [List.getD]

theorem row22_open {H : Type} {enc : TypeId × Value → H} {W : World} {a : Option Addr} {len cap fuel : Nat} {x : DataW H × List MemPlace} (h : DataW.trod enc Tryz.prog W 0 (fun _ => true) true fuel 22 [.slice a len cap] = some x) (hw : ∀ n ∈ x.1.weights Tryz.prog 22, n ≤ reachBytes) :
    ∃ (b off : Nat) (xs : List Int), xs.length = len ∧ RowI W .u8 a cap b off xs ∧ (∀ i : Nat, 0 ≤ xs[i]?.getD 0 ∧ xs[i]?.getD 0 ≤ 255) ∧ len * Tryz.prog.bytesOf 5 ≤ reachBytes := by
  rcases open_ints Tryz.underlying22 Tryz.underlying5 (by kernel_rfl) h with ⟨hcs, _⟩ | ⟨y, l, cp, zs, hcs, _, hl, hm, hz, hx, hcell, hwz⟩
  · simp at hcs
    obtain ⟨rfl, rfl, rfl⟩ := hcs
    exact ⟨0, 0, [], rfl, ⟨.inr rfl, (fun _ => rfl), (fun j hj => by simp at hj), Nat.le_refl _⟩, (fun i => by simp), by simp⟩
  · simp at hcs
    obtain ⟨rfl, rfl, rfl⟩ := hcs
    have hz' : zs.length = cap := by simpa using hz
    obtain ⟨b, off, hR, hlen⟩ := rowI_of (k := .u8) hl hz' (fun i hi => hcell i (by omega))
    refine ⟨b, off, zs.take len, hlen, hR, fun i => ?_, ?_⟩
    · by_cases hi : i < len
      · have hb := bounds_u8 (hwz (zs.getD i 0) (by rw [getD_el zs i (by omega)]; exact List.getElem_mem _))
        rw [List.getElem?_take, if_pos hi, List.getElem?_eq_getElem (by omega), Option.getD_some]
        rw [getD_el zs i (by omega)] at hb
        omega
      · rw [List.getElem?_eq_none (by omega)]; simp
    · have hx1 : x.1 = .slice (lits .u8 (zs.take len)) (lits .u8 (zs.drop len)) := by rw [hx]
      have h1 := hw (((lits (H := H) .u8 (zs.take len)).length + (lits (H := H) .u8 (zs.drop len)).length) * Tryz.prog.bytesOf 5) (by
        rw [hx1]
        simp only [DataW.weights, Tryz.underlying22]
        exact List.mem_cons_self)
      simp only [lits, List.length_map, List.length_take, List.length_drop] at h1
      refine Nat.le_trans (Nat.mul_le_mul_right _ ?_) h1
      omega

/-- A slice of bytes that came in. -/
theorem bytes_open {H : Type} {enc : TypeId × Value → H} {W : World} {a : Option Addr} {len cap fuel : Nat} {x : DataW H × List MemPlace} (h : DataW.trod enc Tryz.prog W 0 (fun _ => true) true fuel 22 [.slice a len cap] = some x) (hw : ∀ n ∈ x.1.weights Tryz.prog 22, n ≤ reachBytes) :
    ∃ (b off : Nat) (bs : List Nat), bs.length = len ∧ Bytes W a cap b off bs ∧ len ≤ 140737488351232 := by
  obtain ⟨b, off, xs, hl, hR, hb, hr⟩ := row22_open h hw
  have hlen : len ≤ 140737488351232 := by rw [bytes5, Nat.mul_one] at hr; exact hr
  refine ⟨b, off, xs.map Int.toNat, by simpa using hl, ⟨?_, hR.nil, fun j hj => ?_, fun j => ?_, ?_, ?_⟩, hlen⟩
  · rcases hR.at_ with e | e
    · exact .inl e
    · exact .inr (by rw [e]; rfl)
  · rw [List.length_map] at hj
    rw [hR.cells j hj]
    have := hb j
    rw [List.getElem?_eq_getElem hj] at this ⊢
    rw [List.getElem?_map, List.getElem?_eq_getElem hj]
    simp only [Option.getD_some, Option.map_some] at this ⊢
    rw [Int.toNat_of_nonneg this.1]
  · have := hb j
    rw [List.getElem?_map]
    cases hx : xs[j]? with
    | none => simp
    | some y => rw [hx] at this; simp only [Option.getD_some, Option.map_some] at this ⊢; omega
  · rw [List.length_map, hl]; have := hR.le; omega
  · rw [List.length_map, hl]; omega

end Go.Proofs.YtnokemcogjoonaaGreatDoor

namespace Go.Proofs.YtnokemcogjoonaaGreatDoor
open Go.ChangeShapes Go.WideShapes Go.ChangeAt Go.RowKit
set_option linter.unusedVariables false

theorem gDepths : Tryz.prog.globalNamed "baler/finder.depths" = some 0 := by kernel_rfl
theorem tDepths : (Tryz.prog.globals[0]?).map (·.type) = some 130 := by kernel_rfl
theorem cells3 : Tryz.prog.cellsOf 3 = 1 := by kernel_rfl
theorem cells37 : Tryz.prog.cellsOf 37 = 3 := by kernel_rfl
theorem cells4 : Tryz.prog.cellsOf 4 = 1 := by kernel_rfl

/-- The door's own heap meets the condition. -/
theorem door_met (os : Os) (args : Array Value) : laidMetH Tryz.prog [("baler/finder.depths", Rows.laid_baler_finder_depths)] ((World.doorLaid Tryz.prog 400 os).forCall (fun _ _ => 0) ⟨#[], args, []⟩).memory :=
  laidMetH_of_parts3 (fuel := 8) (laidMet_of_run' 8 (by kernel_rfl) (by kernel_rfl)) (by kernel_rfl) (by kernel_rfl)

/-- What the condition gives: the table, as it lies. -/
theorem of_laid {W : World} (h : laidMetH Tryz.prog [("baler/finder.depths", Rows.laid_baler_finder_depths)] W) : Fd.Dep W := by
  rw [MakeChecks.laidMetH_plain _ _ _ (by kernel_rfl)] at h
  obtain ⟨ps, ⟨g1, t1, cs1, f1, p1, q1, hg1, ht1, hv1, hd1, _⟩, _, _⟩ := h
  obtain rfl := Option.some.inj (gDepths.symm.trans hg1)
  obtain rfl := Option.some.inj (tDepths.symm.trans ht1)
  obtain ⟨xs, m1, rfl, hx1, hlen, hn4, hel⟩ := DataW.trod_array Tryz.underlying130 hd1
  simp only [Prod.mk.injEq, DataW.agg.injEq, Rows.laid_baler_finder_depths] at hx1
  have hall : ∀ i, i < 4 → ∃ k : Int, cs1[i]? = some (.int .i64 k) ∧ (xs[i]?).map (·.1) = some (.lit (.int .i64 k)) := fun i hi => by
    have h0 := hel i hi
    obtain ⟨x, hx⟩ : ∃ x, xs[i]? = some x := ⟨_, List.getElem?_eq_getElem (by omega)⟩
    rw [hx] at h0
    obtain ⟨k, e1, e2, _⟩ := DataW.trod_int Tryz.underlying3 h0
    refine ⟨k, ?_, ?_⟩
    · rw [cells3] at e1
      have e3 := congrArg (fun l : List Value => l[0]?) e1
      simp only [List.getElem?_take, List.getElem?_drop] at e3
      simpa using e3
    · rw [hx]; simp [e2]
  intro i hi
  obtain ⟨k, h1, h2⟩ := hall i hi
  have hv := World.var?_cell hg1 hv1 i
  rw [hv, h1]
  have h3 : (xs.map (·.1))[i]? = some (.lit (.int .i64 k)) := by rw [List.getElem?_map]; exact h2
  rw [← hx1.1] at h3
  rcases i with _ | _ | _ | _ | i
  · simp at h3; subst h3; rfl
  · simp at h3; subst h3; rfl
  · simp at h3; subst h3; rfl
  · simp at h3; subst h3; rfl
  · omega

set_option maxRecDepth 100000 in
theorem part_open {H : Type} {enc : TypeId × Value → H} {W : World} {fuel : Nat} {cs : List Value} {x : DataW H × List MemPlace} (h : DataW.trod enc Tryz.prog W 0 (fun _ => true) true fuel 37 cs = some x) :
    ∃ d : Pt.Prt, cs = [.int .i64 d.1, .int .i64 d.2.1, .bool d.2.2] := by
  obtain ⟨y0, y1, y2, n, _, hl, h0, h1, h2⟩ := Go.Deep.trod_struct3 Tryz.underlying37 h
  rw [cells37] at hl
  match cs, hl with
  | [c0, c1, c2], _ =>
    simp only [cells3, cells4, List.drop_succ_cons, List.drop_zero, List.take_succ_cons, List.take_zero] at h0 h1 h2
    obtain ⟨q0, e0, _, w0⟩ := DataW.trod_int Tryz.underlying3 h0
    obtain ⟨q1, e1, _, w1⟩ := DataW.trod_int Tryz.underlying3 h1
    obtain ⟨q2, e2, _⟩ := DataW.trod_bool Tryz.underlying4 h2
    simp only [List.cons.injEq, and_true] at e0 e1 e2
    subst e0 e1 e2
    exact ⟨(q0, q1, q2), rfl⟩

theorem add_at (b off j i : Nat) : ((⟨b, off, none⟩ : Addr).add j).add i = ⟨b, off + j + i, none⟩ := by
  rw [Go.Deep.add_add]
  unfold Addr.add
  split <;> simp_all [Nat.add_assoc]

theorem parts_open {H : Type} {enc : TypeId × Value → H} {W : World} {a : Option Addr} {len cap fuel : Nat} {x : DataW H × List MemPlace} (h : DataW.trod enc Tryz.prog W 0 (fun _ => true) true fuel 23 [.slice a len cap] = some x) :
    ∃ (b off : Nat) (ps : List Pt.Prt), ps.length = len ∧ Pt.RowP W a cap b off ps := by
  rcases Go.Deep.open_slice Tryz.underlying23 h with ⟨e, _⟩ | ⟨ad, l, c, m, n, D, Pl, e, _, hl, hm, hmm, _, hel⟩
  · simp only [List.cons.injEq, Value.slice.injEq, and_true] at e
    obtain ⟨rfl, rfl, rfl⟩ := e
    exact ⟨0, 0, [], rfl, ⟨.inr rfl, (fun j hj => by simp at hj)⟩⟩
  · simp only [List.cons.injEq, Value.slice.injEq, and_true] at e
    obtain ⟨rfl, rfl, rfl⟩ := e
    simp only [if_true] at hmm
    subst hmm
    have hel2 : ∀ i, i < len → ∃ d : Pt.Prt, W.cell? (ad.add (i * 3)) = some (.int .i64 d.1) ∧ W.cell? ((ad.add (i * 3)).add 1) = some (.int .i64 d.2.1) ∧ W.cell? ((ad.add (i * 3)).add 2) = some (.bool d.2.2) := by
      intro i hi
      obtain ⟨cs, hc, ht⟩ := hel i (by omega)
      obtain ⟨d, rfl⟩ := part_open ht
      rw [cells37] at hc
      obtain ⟨_, _, hcc⟩ := World.cells?_some hc
      have q0 := hcc 0 (by omega)
      have q1 := hcc 1 (by omega)
      have q2 := hcc 2 (by omega)
      have e0 : (ad.add (i * 3)).add 0 = ad.add (i * 3) := by rw [Go.Deep.add_add]; rfl
      rw [e0] at q0
      exact ⟨d, q0, q1, q2⟩
    obtain ⟨f, hf⟩ := Go.Deep.choose_lt hel2
    by_cases h0 : len = 0
    · subst h0
      exact ⟨0, 0, [], rfl, ⟨.inr rfl, (fun j hj => by simp at hj)⟩⟩
    · obtain ⟨b, off, spot⟩ := ad
      have c0 := (hf 0 (by omega)).1
      have hspot : spot = none := by simpa [Addr.add] using World.cell?_spot c0
      subst hspot
      have hat : ∀ j, j < len → ((List.range len).map f)[j]?.getD (0, 0, false) = f j := fun j hj => by
        rw [List.getElem?_map, List.getElem?_range hj]; rfl
      have hlen : ((List.range len).map f).length = len := by simp
      refine ⟨b, off, (List.range len).map f, hlen, ⟨.inl rfl, fun j hj => ?_⟩⟩
      rw [hlen] at hj
      rw [hat j hj]
      obtain ⟨p0, p1, p2⟩ := hf j hj
      have e0 : (⟨b, off, none⟩ : Addr).add (j * 3) = ⟨b, off + j * 3, none⟩ := by have := add_at b off (j * 3) 0; rw [Go.Deep.add_add] at this; exact this
      rw [add_at] at p1 p2
      rw [e0] at p0
      exact ⟨p0, p1, p2⟩
end Go.Proofs.YtnokemcogjoonaaGreatDoor

namespace Go.Proofs.YtnokemcogjoonaaGreatDoor.Pt
open Go.RowKit Go.Shelf
set_option linter.unusedVariables false

/-- Steps as values. -/
def cellsT : List Tri → List Value
  | [] => []
  | t :: r => .int .i64 t.1 :: .int .i64 t.2.1 :: .int .i64 t.2.2 :: cellsT r
theorem cellsT_length : ∀ ts : List Tri, (cellsT ts).length = ts.length * 3
  | [] => rfl
  | t :: r => by show (cellsT r).length + 3 = (r.length + 1) * 3; rw [cellsT_length r]; omega
theorem cellsT_one : ∀ (ts : List Tri), ∀ u ∈ cellsT ts, u.oneCell' = true
  | [], u, h => by cases h
  | t :: r, u, h => by
    simp only [cellsT, List.mem_cons] at h
    rcases h with rfl | rfl | rfl | h
    · rfl
    · rfl
    · rfl
    · exact cellsT_one r u h
theorem cellsT_at : ∀ (ts : List Tri) (j : Nat), j < ts.length → (cellsT ts)[j * 3]? = some (.int .i64 (ts[j]?.getD (0, 0, 0)).1) ∧ (cellsT ts)[j * 3 + 1]? = some (.int .i64 (ts[j]?.getD (0, 0, 0)).2.1) ∧ (cellsT ts)[j * 3 + 2]? = some (.int .i64 (ts[j]?.getD (0, 0, 0)).2.2)
  | [], j, h => by simp at h
  | t :: r, 0, h => ⟨rfl, rfl, rfl⟩
  | t :: r, j + 1, h => by
    have := cellsT_at r j (by simpa using h)
    rw [show (j + 1) * 3 = j * 3 + 3 from by omega]
    exact this
theorem cellsT_back (ts : List Tri) (k : Nat) (u : Value) (h : (cellsT ts)[k]? = some u) : ∃ j c, j < ts.length ∧ c < 3 ∧ k = j * 3 + c := by
  have hk : k < (cellsT ts).length := (List.getElem?_eq_some_iff.1 h).1
  rw [cellsT_length] at hk
  exact ⟨k / 3, k % 3, by omega, by omega, by omega⟩
/-- One number of a step. -/
def updT (f : Nat) (t : Tri) (x : Int) : Tri := if f = 0 then (x, t.2.1, t.2.2) else if f = 1 then (t.1, x, t.2.2) else (t.1, t.2.1, x)
theorem updT_1 {f : Nat} {x : Int} (h : ¬ f = 0) (t : Tri) : (updT f t x).1 = t.1 := by unfold updT; rw [if_neg h]; split <;> rfl
theorem updT_2 {f : Nat} {x : Int} (h : ¬ f = 1) (t : Tri) : (updT f t x).2.1 = t.2.1 := by unfold updT; split; rfl; first | rfl | (split <;> first | rfl | omega)
theorem updT_3 {f : Nat} {x : Int} (h : ¬ f = 2) (hf : f < 3) (t : Tri) : (updT f t x).2.2 = t.2.2 := by
  unfold updT
  split
  · rfl
  · rw [if_pos (by omega)]
/-- A row of steps of one's own. -/
structure OwnT (w : World) (g cap : Nat) (ts : List Tri) : Prop where
  obj : ∃ cur, w.heap[g]? = some (.cells cur 46 (0, 0)) ∧ ∀ k, k < ts.length * 3 → cur[k]? = (cellsT ts)[k]?
theorem OwnT.keep {w w' : World} {g cap : Nat} {ts : List Tri} (h : OwnT w g cap ts) (k : Keep noBlock w w') : OwnT w' g cap ts := by
  obtain ⟨cur, h1, h2⟩ := h.obj
  exact ⟨cur, k.obj h1 (fun h => h), h2⟩
theorem OwnT.row {w : World} {g cap : Nat} {ts : List Tri} (h : OwnT w g cap ts) (hb : ∀ j : Nat, (ts[j]?.getD (0, 0, 0)).2.2 < 9223372036854775808) : Fd.RowQ w (some ⟨g, 0, none⟩) cap g 0 ts := by
  obtain ⟨cur, h1, h2⟩ := h.obj
  refine ⟨.inl rfl, fun j hj => ?_, hb⟩
  obtain ⟨q1, q2, q3⟩ := cellsT_at ts j hj
  refine ⟨?_, ?_, ?_⟩
  · rw [cell_of h1, Nat.zero_add, h2 _ (by omega)]; exact q1
  · rw [cell_of h1, Nat.zero_add, h2 _ (by omega)]; exact q2
  · rw [cell_of h1, Nat.zero_add, h2 _ (by omega)]; exact q3
theorem set_at {ts : List Tri} {q j : Nat} {t : Tri} : (ts.set q t)[j]?.getD (0, 0, 0) = if q = j ∧ j < ts.length then t else ts[j]?.getD (0, 0, 0) := by
  rw [List.getElem?_set]
  by_cases h : q = j
  · rw [if_pos h]
    by_cases h2 : q < ts.length
    · rw [if_pos h2, if_pos ⟨h, by omega⟩]; rfl
    · rw [if_neg h2, if_neg (by omega), List.getElem?_eq_none (by omega)]
  · rw [if_neg h, if_neg (by omega)]
theorem OwnT.put {w : World} {g cap : Nat} {ts : List Tri} (h : OwnT w g cap ts) (q f : Nat) (hf : f < 3) (hq : q < ts.length) (x : Int) : OwnT (w.setCell ⟨g, q * 3 + f, none⟩ (.int .i64 x)) g cap (ts.set q (updT f (ts[q]?.getD (0, 0, 0)) x)) := by
  obtain ⟨cur, h1, h2⟩ := h.obj
  refine ⟨cur.setIfInBounds (q * 3 + f) (.int .i64 x), set_obj h1 _ _, fun k hk => ?_⟩
  rw [List.length_set] at hk
  have hcs : q * 3 + f < cur.size := by
    have := h2 (q * 3 + f) (by omega)
    rw [List.getElem?_eq_getElem (by rw [cellsT_length]; omega)] at this
    exact (Array.getElem?_eq_some_iff.1 this).1
  obtain ⟨j, c, hj, hc, rfl⟩ : ∃ j c, j < ts.length ∧ c < 3 ∧ k = j * 3 + c := ⟨k / 3, k % 3, by omega, by omega, by omega⟩
  have hN := cellsT_at (ts.set q (updT f (ts[q]?.getD (0, 0, 0)) x)) j (by rw [List.length_set]; exact hj)
  have hO := cellsT_at ts j hj
  rw [set_at] at hN
  rw [Array.getElem?_setIfInBounds]
  by_cases hjq : q = j
  · subst hjq
    rw [if_pos ⟨rfl, hq⟩] at hN
    by_cases hcf : f = c
    · subst hcf
      rw [if_pos rfl, if_pos hcs]
      rcases (show f = 0 ∨ f = 1 ∨ f = 2 by omega) with rfl | rfl | rfl
      · exact hN.1.symm
      · exact hN.2.1.symm
      · exact hN.2.2.symm
    · rw [if_neg (by omega), h2 _ (by omega)]
      rcases (show c = 0 ∨ c = 1 ∨ c = 2 by omega) with rfl | rfl | rfl
      · exact hO.1.trans (by rw [← updT_1 (x := x) hcf (ts[q]?.getD (0, 0, 0))]; exact hN.1.symm)
      · exact hO.2.1.trans (by rw [← updT_2 (x := x) hcf (ts[q]?.getD (0, 0, 0))]; exact hN.2.1.symm)
      · exact hO.2.2.trans (by rw [← updT_3 (x := x) hcf hf (ts[q]?.getD (0, 0, 0))]; exact hN.2.2.symm)
  · rw [if_neg (by omega), h2 _ (by omega)]
    rw [if_neg (by omega)] at hN
    rcases (show c = 0 ∨ c = 1 ∨ c = 2 by omega) with rfl | rfl | rfl
    · exact hO.1.trans hN.1.symm
    · exact hO.2.1.trans hN.2.1.symm
    · exact hO.2.2.trans hN.2.2.symm

/-- A copy of steps of one's own. -/
theorem copy_steps (w : World) (lg lo lc : Nat) (ts : List Tri) (hl : ts.length ≤ 65536) (hne : ts ≠ []) (hQ : Fd.RowQ (w.alloc (.cells #[] 46)) (some ⟨lg, lo, none⟩) lc lg lo ts) :
    ∃ g cap W, (Builtin.append_ #[38, 38] 38 #[.slice (some ⟨w.heap.size, 0, none⟩) 0 0, .slice (some ⟨lg, lo, none⟩) ts.length lc]).run Tryz.prog (w.alloc (.cells #[] 46)) = .ok (.slice (some ⟨g, 0, none⟩) ts.length cap) W ∧ OwnT W g cap ts ∧ Keep noBlock w W ∧ w.heap.size ≤ g := by
  obtain ⟨i0, hi, hz0, hz1, hz2⟩ := info_parts Fd.info25
  have hb6 : (w.alloc (.cells #[] 46)).heap[w.heap.size]? = some (.cells #[] 46 (0, 0)) := alloc_new w _
  have o6 : (w.alloc (.cells #[] 46)).ownsRow 0 46 3 (.slice (some ⟨w.heap.size, 0, none⟩) 0 0) 0 [] := ⟨rfl, .inr ⟨w.heap.size, 0, #[], rfl, Nat.zero_le _, hb6, Nat.le_refl _, by unfold maxLen; omega, rfl, rfl⟩⟩
  have hc : ∀ j u, (cellsT ts)[j]? = some u → (w.alloc (.cells #[] 46)).cell? ((⟨lg, lo, none⟩ : Addr).add j) = some u := fun k u hu => by
    obtain ⟨j, c, hj, hc3, rfl⟩ := cellsT_back ts k u hu
    rw [addO]
    obtain ⟨q1, q2, q3⟩ := hQ.cells j hj
    obtain ⟨p1, p2, p3⟩ := cellsT_at ts j hj
    rcases (show c = 0 ∨ c = 1 ∨ c = 2 by omega) with rfl | rfl | rfl
    · have := p1.symm.trans hu
      rw [← this]; exact q1
    · have := p2.symm.trans hu
      rw [← this, ← Nat.add_assoc]; exact q2
    · have := p3.symm.trans hu
      rw [← this, ← Nat.add_assoc]; exact q3
  obtain ⟨v', W, hr, h2, h3, h4, h5⟩ := run_append_own_at (P := Tryz.prog) _ 0 38 38 46 i0 (.agg #[.int .i64 0, .int .i64 0, .int .i64 0]) 3 24 Tryz.underlying38 hi hz0 hz1 hz2 rfl (by decide) _ 0 [] o6 ⟨lg, lo, none⟩ ts.length lc (cellsT ts) (by rw [cellsT_length]) hc (cellsT_one _) (by unfold maxLen; omega) (by omega) (Nat.zero_le _)
  have k0 : Keep noBlock w (w.alloc (.cells #[] 46)) := (Keep.refl noBlock w).alloc _
  have hkW : Keep noBlock w W := k0.grown h3 (fun k e hk => by
    have e : some w.heap.size = some k := e
    have : w.heap.size = k := by simpa using e
    omega)
  rw [Nat.zero_add, List.nil_append] at h2
  obtain ⟨h21, h22⟩ := h2
  rcases h22 with ⟨-, e⟩ | ⟨g, cap, cur, e1, e2, e3, e4, e5, e6, e7⟩
  · exact absurd (List.length_eq_zero_iff.1 e) hne
  · subst e1
    refine ⟨g, cap, W, hr, ⟨cur, e3, fun k hk => ?_⟩, hkW, ?_⟩
    · rw [← e7, List.getElem?_take, if_pos hk, Array.getElem?_toList]
    · rcases h5 with e | e
      · have e : some g = some w.heap.size := e
        have : g = w.heap.size := by simpa using e
        omega
      · have e : some g = some (w.alloc (.cells #[] 46)).heap.size := e
        have : g = (w.alloc (.cells #[] 46)).heap.size := by simpa using e
        have := k0.size
        omega

end Go.Proofs.YtnokemcogjoonaaGreatDoor.Pt

namespace Go.Proofs.YtnokemcogjoonaaGreatDoor.Pt
open Go.RowKit Go.Shelf
set_option linter.unusedVariables false

theorem arndm (m : Nat) (a : Int) (hm : 0 < m) (h : m ≤ 8192) : ∃ (r : Int) (s q : Nat), a.tmod m = r ∧ r + (m : Int) = (s : Int) ∧ (s : Int) % (m : Int) = (q : Int) ∧ q < m ∧ -8192 ≤ r ∧ r ≤ 8192 ∧ s ≤ 16384 := by
  have h1 : -(m : Int) < a.tmod m := by
    have h := Int.natAbs_tmod a m
    have h' := Nat.mod_lt a.natAbs (show 0 < (m : Int).natAbs by simpa using hm)
    rw [← h] at h'
    simp only [Int.natAbs_natCast] at h'
    omega
  have h2 : a.tmod m < m := Int.tmod_lt_of_pos _ (by omega)
  have h3 : 0 ≤ a.tmod m + m := by omega
  have h4 : (((a.tmod m + m).toNat : Nat) : Int) % (m : Int) = ((((a.tmod m + m).toNat % m : Nat)) : Int) := by rw [Int.natCast_emod]
  exact ⟨a.tmod m, (a.tmod m + m).toNat, (a.tmod m + m).toNat % m, rfl, by omega, h4, Nat.mod_lt _ hm, by omega, by omega, by omega⟩
theorem made_ne {T : List Nat} {ts : List Tri} (h : madeB T ts 0 = true) (hT : T ≠ []) : ts ≠ [] := fun e => by
  rw [e] at h
  have h2 : (0 : Nat) = T.length := of_decide_eq_true h
  exact hT (List.length_eq_zero_iff.1 h2.symm)
theorem wrap_lt (x : Int) : wrap64 x < 9223372036854775808 := by
  have h : IntKind.i64.wrap x < 9223372036854775808 := by rw [IntKind.wrap_i64]; omega
  first | exact h | (unfold wrap64; omega)
theorem upd_b63 {ts : List Tri} (h : ∀ j : Nat, (ts[j]?.getD (0, 0, 0)).2.2 < 9223372036854775808) (q f : Nat) (x : Int) (hx : x < 9223372036854775808) : ∀ j : Nat, ((ts.set q (updT f (ts[q]?.getD (0, 0, 0)) x))[j]?.getD (0, 0, 0)).2.2 < 9223372036854775808 := fun j => by
  rw [set_at]
  split
  · rename_i e
    unfold updT
    split
    · exact h q
    · split
      · exact h q
      · exact hx
  · exact h j
/-- What stands when the steps are changed: two states, the text, the steps, and those that were changed. -/
structure Rfw (w W : World) (sb tb : Nat) (bs : List Nat) (a : Option Addr) (cap gb off : Nat) (ts : List Tri) (lg lc : Nat) : Prop where
  s1 : IsS W sb (newS 3 0 2) (fun _ => 1024)
  s2 : IsS W tb (newS 3 0 2) (fun _ => 1024)
  bt : Bytes W a cap gb off bs
  rq : Fd.RowQ W (some ⟨lg, 0, none⟩) lc lg 0 ts
  kp : Keep noBlock w W
  n1 : w.heap.size ≤ sb
  n2 : w.heap.size ≤ tb
  n3 : sb ≠ tb
  n4 : lg ≠ sb
  n5 : lg ≠ tb
  n6 : gb < w.heap.size
theorem Rfw.keep {w W W' : World} {sb tb : Nat} {bs : List Nat} {a : Option Addr} {cap gb off : Nat} {ts : List Tri} {lg lc : Nat} (h : Rfw w W sb tb bs a cap gb off ts lg lc) (k : Keep noBlock W W') : Rfw w W' sb tb bs a cap gb off ts lg lc :=
  ⟨h.s1.keep k (fun h => h), h.s2.keep k (fun h => h), h.bt.keep k (fun _ h => h), h.rq.keep k (fun _ h => h), h.kp.trans' k, h.n1, h.n2, h.n3, h.n4, h.n5, h.n6⟩
theorem Rfw.put {w W : World} {sb tb : Nat} {bs : List Nat} {a : Option Addr} {cap gb off : Nat} {ts : List Tri} {lg lc g : Nat} (h : Rfw w W sb tb bs a cap gb off ts lg lc) (i : Nat) (x : Value) (h1 : w.heap.size ≤ g) (h2 : g ≠ sb) (h3 : g ≠ tb) (h4 : g ≠ lg) : Rfw w (W.setCell ⟨g, i, none⟩ x) sb tb bs a cap gb off ts lg lc := by
  have k : Keep (fun k => k = g) W (W.setCell ⟨g, i, none⟩ x) := (Keep.refl (fun k => k = g) W).setCell (p := ⟨g, i, none⟩) (fun _ => rfl) _
  have hg := h.n6
  exact ⟨h.s1.keep k (fun e => h2 e.symm), h.s2.keep k (fun e => h3 e.symm), h.bt.keep k (fun _ e => by have e : gb = g := e; omega), h.rq.keep k (fun _ e => h4 e.symm), h.kp.trans k (fun i hi e => by have e : i = g := e; omega), h.n1, h.n2, h.n3, h.n4, h.n5, h.n6⟩
theorem strOf_refl (T : List Nat) : ((strOf T).toList == (strOf T).toList) = true := by simp
section
set_option maxRecDepth 40000 in
set_option maxHeartbeats 8000000 in
theorem rf_law (a : Option Addr) (cap gb off : Nat) (bs : List Nat) (which field by_ : Int) (w : World) (hB : Bytes w a cap gb off bs) (hD : Fd.Dep w) :
    Calls Tryz.prog 4 #[.slice a bs.length cap, .int .i64 which, .int .i64 field, .int .i64 by_] w fun e w' => e = .returned (.bool true) ∧ Keep noBlock w w' := by
  have HW := hid wakes_any
  by_cases g1 : bs.length = 0
  · clear hB hD
    rw [g1]
    clear g1
    go_enter Tryz.func4, Tryz.ntmps4
    go_wp2_with fail
    refine (HW.out _).mono ?_
    rintro e w1 ⟨rfl, k1⟩
    have HK := hid k1
    clear k1 HW
    go_wp2_with fail
    go_ret
    exact ⟨rfl, HK.out⟩
  have g1' : ((bs.length : Int) == 0) = false := beq_eq_false_iff_ne.2 (by omega)
  by_cases g2 : 4096 < bs.length
  · have g2' : decide (4096 < bs.length) = true := decide_eq_true g2
    have g2I : decide (4096 < (bs.length : Int)) = true := decide_eq_true (by omega)
    clear hB hD g2
    generalize bs.length = bl at *
    go_enter Tryz.func4, Tryz.ntmps4
    go_wp2_with fail
    refine (HW.out _).mono ?_
    rintro e w1 ⟨rfl, k1⟩
    have HK := hid k1
    clear k1 HW
    go_wp2_with fail
    go_ret
    exact ⟨rfl, HK.out⟩
  have g2' : decide (4096 < bs.length) = false := decide_eq_false g2
  have g2I : decide (4096 < (bs.length : Int)) = false := decide_eq_false (by omega)
  have hbl1 : 1 ≤ bs.length := by omega
  have hbl2 : bs.length ≤ 4096 := by omega
  have hTne : bs ≠ [] := fun q => by rw [q] at hbl1; simp at hbl1
  have hPa := parse_made a cap gb off bs 0 1 w hD hB (by omega) (Nat.zero_le _)
  rw [show (((0 : Nat)) : Int) = (0 : Int) from rfl] at hPa
  have HPa := hid hPa
  have HIn := hid (And.intro hB (hB.block hTne))
  have HN := hid (new_good 3 0 2 (by omega) (by omega))
  rw [show (((3 : Nat)) : Int) = (3 : Int) from rfl, show (((0 : Nat)) : Int) = (0 : Int) from rfl, show (((2 : Nat)) : Int) = (2 : Int) from rfl] at HN
  have HPV := hid (propsV_any 3 0 2 (by omega) (by omega) (by omega))
  rw [show (((3 : Nat)) : Int) = (3 : Int) from rfl, show (((0 : Nat)) : Int) = (0 : Int) from rfl, show (((2 : Nat)) : Int) = (2 : Int) from rfl] at HPV
  clear hPa hB hD g2
  obtain ⟨bl, hbl⟩ : ∃ bl, bl = bs.length := ⟨_, rfl⟩
  rw [← hbl] at g1 g1' g2' g2I HPa ⊢
  have HBL := hid hbl
  clear hbl
  go_enter Tryz.func4, Tryz.ntmps4
  go_wp2_with fail
  refine HPa.out.mono ?_
  rintro e w1 ⟨la, lc, lg, ts, rfl, hQ1, hlg1, hmd, htl, k1⟩
  have htne := made_ne hmd hTne
  have hla := hQ1.here (i := 0) (List.length_pos_iff.2 htne)
  subst hla
  obtain ⟨tsl, htsl⟩ : ∃ tsl, tsl = ts.length := ⟨_, rfl⟩
  have htp : 0 < tsl := by rw [htsl]; exact List.length_pos_iff.2 htne
  have htb : tsl ≤ 4097 := by rw [htsl]; have := HBL.out; omega
  rw [← htsl]
  have HTS := hid htsl
  have hz : ¬ tsl = 0 := by omega
  have hzI : ((tsl : Int) == 0) = false := beq_eq_false_iff_ne.2 (by omega)
  have H1 := hid (And.intro hQ1 (And.intro (hlg1 htne) (And.intro hmd k1)))
  clear hQ1 hlg1 hmd k1 HPa htsl htl
  go_wp2_with fail
  refine (HN.out _).mono ?_
  rintro e w2 ⟨sb, rfl, b2, s2, k2⟩
  have H2 := hid (And.intro b2 (And.intro s2 k2))
  clear b2 s2 k2
  go_wp2_with fail
  refine (HN.out _).mono ?_
  rintro e w3 ⟨tb, rfl, b3, s3, k3⟩
  have H3 := hid (show Rfw w w3 sb tb bs a cap gb off ts lg lc ∧ madeB bs ts 0 = true ∧ w1.heap.size ≤ w3.heap.size from by
    obtain ⟨hQ1, hl1, hmd, k1⟩ := H1.out
    obtain ⟨b2, s2, k2⟩ := H2.out
    have z1 := k1.size
    have z2 := k2.size
    have z3 := k3.size
    have zs := s2.block
    have zl := hQ1.block htne
    have kk : Keep noBlock w w3 := (k1.trans' k2).trans' k3
    exact ⟨⟨s2.keep k3 (fun h => h), s3, HIn.out.1.keep kk (fun _ h => h), (hQ1.keep k2 (fun _ h => h)).keep k3 (fun _ h => h), kk, by omega, by omega, by omega, by omega, by omega, HIn.out.2⟩, hmd, by omega⟩)
  clear b3 s3 k3 H1 H2 HN HIn
  obtain ⟨hr3, hmd, hsz3⟩ := H3.out
  have ka : Keep noBlock w3 (w3.alloc (.cells #[] 46)) := (Keep.refl noBlock w3).alloc _
  obtain ⟨g, cp, W4, r4, o4, k4, hg4⟩ := copy_steps w3 lg 0 lc ts (by rw [← HTS.out]; omega) htne (hr3.rq.keep ka (fun _ h => h))
  rw [← HTS.out] at r4
  have h4 := hr3.keep k4
  have zsb := hr3.s1.block
  have ztb := hr3.s2.block
  have zlg := hr3.rq.block htne
  have zk := hr3.kp.size
  have H4 := hid (And.intro h4 (And.intro o4 (And.intro hmd (And.intro (show w.heap.size ≤ g by omega) (And.intro (show g ≠ sb by omega) (And.intro (show g ≠ tb by omega) (show g ≠ lg by omega)))))))
  clear hr3 hmd hsz3 ka h4 o4 k4 hg4 zsb ztb zlg zk H3
  obtain ⟨r, sN, q, y1, y2, y3, y4, y5, y6, y7⟩ := arndm tsl which htp (by omega)
  have hqI : (q : Int) < (tsl : Int) := by omega
  obtain ⟨cur, ho4, -⟩ := H4.out.2.1.obj
  have hb63 := H4.out.1.rq.b63
  have hrow := H4.out.2.1.row hb63
  obtain ⟨e1, e2, e3⟩ := hrow.cells q (by rw [← HTS.out]; exact y4)
  rw [Nat.zero_add] at e1 e2 e3
  have z0 := frozen_of ho4 (q * 3)
  have z1 := frozen_of ho4 (q * 3 + 1)
  have z2 := frozen_of ho4 (q * 3 + 2)
  obtain ⟨⟨tl, tm, tk⟩, ht⟩ : ∃ t : Tri, ts[q]?.getD (0, 0, 0) = t := ⟨_, rfl⟩
  rw [ht] at e1 e2 e3
  dsimp only at e1 e2 e3
  have HT := hid ht
  have HB63 := hid hb63
  clear ht hb63 hrow ho4
  obtain ⟨zf, hzf⟩ : ∃ zf, zf = bits .and .i64 field 3 := ⟨_, rfl⟩
  have hzf' : bits .and .i64 field 3 = zf := hzf.symm
  clear hzf
  by_cases f0 : zf = 0
  · have f0' : (zf == 0) = true := by simp [f0]
    subst f0
    have H5 := hid (show ∃ ts2, ts2.length = tsl ∧ Rfw w (W4.setCell ⟨g, q * 3, none⟩ (.int .i64 (wrap64 (tl + by_)))) sb tb bs a cap gb off ts lg lc ∧ Fd.RowQ (W4.setCell ⟨g, q * 3, none⟩ (.int .i64 (wrap64 (tl + by_)))) (some ⟨g, 0, none⟩) cp g 0 ts2 ∧ madeB bs ts 0 = true ∧ g ≠ sb from by
      obtain ⟨h4, o4, hmd, n1, n2, n3, n4⟩ := H4.out
      have hq : q < ts.length := by rw [← HTS.out]; exact y4
      refine ⟨ts.set q (updT 0 (ts[q]?.getD (0, 0, 0)) (wrap64 (tl + by_))), by rw [List.length_set, HTS.out], h4.put _ _ n1 n2 n3 n4, ?_, hmd, n2⟩
      exact (o4.put q 0 (by omega) hq (wrap64 (tl + by_))).row (upd_b63 HB63.out q 0 _ (wrap_lt _)))
    go_wp2_with (at_builtin; refine wpList_append_run _ rfl _ _ 38 rfl _ _ _ _ rfl rfl r4 ?_)
    clear r4 e1 e2 e3 z0 z1 z2
    generalize W4.setCell ⟨g, q * 3, none⟩ (.int .i64 (wrap64 (tl + by_))) = W5 at *
    clear H4 HT HB63 y1 y2 y3 y4 y5 y6 y7 hqI
    obtain ⟨ts2, hts2, h5, hq5, hmd, hgs⟩ := H5.out
    cases hm2 : madeB bs ts2 0 with
    | false =>
      have hC := chunkP_mal sb a cap gb off bs 0 (some ⟨g, 0, none⟩) cp g 0 ts2 0 W5 h5.bt hq5 (by omega) (Nat.zero_le _) (by omega) (by decide) (.inr hm2)
      rw [← HBL.out, hts2, show (((0 : Nat)) : Int) = (0 : Int) from rfl] at hC
      have HC := hid hC
      have H6 := hid (And.intro h5 hmd)
      clear hC h5 hq5 hmd hm2 H5 hgs HPV
      refine HC.out.mono ?_
      rintro e w6 ⟨rfl, k6⟩
      obtain ⟨h5, hmd⟩ := H6.out
      have h6 := h5.keep k6
      have hC2 := chunkP_good sb (newS 3 0 2) (fun _ => 1024) a cap gb off bs 0 (some ⟨lg, 0, none⟩) lc lg 0 ts 0 w6 h6.s1 (by decide) h6.bt h6.rq (by omega) (by omega) (by rw [← HTS.out]; omega) (by decide) (by decide) hmd (by have := h6.n6; have := h6.n1; omega) (fun _ => h6.n4)
      rw [← HBL.out, ← HTS.out, show (((0 : Nat)) : Int) = (0 : Int) from rfl] at hC2
      have HC2 := hid hC2
      have H7 := hid (And.intro h6 hmd)
      clear hC2 h5 hmd h6 k6 HC H6
      go_wp2_with fail
      refine HC2.out.mono ?_
      rintro e w7 ⟨u, rfl, p7⟩
      obtain ⟨c7, g7, rfl, bt7, hge7⟩ := p7.row.ex
      obtain ⟨h6, hmd⟩ := H7.out
      have hsT := h6.s2.keep p7.kp (fun e => h6.n3 e.symm)
      have hbT := h6.bt.keep p7.kp (fun _ e => by have e : gb = sb := e; have := h6.n6; have := h6.n1; omega)
      have hqT := h6.rq.keep p7.kp (fun _ e => h6.n4 e)
      have hkT : Keep noBlock w w7 := h6.kp.trans p7.kp (fun i hi e => by have e : i = sb := e; have := h6.n1; omega)
      have hgT : g7 ≠ tb := by have := h6.s2.block; omega
      have hC3 := chunkP_good tb (newS 3 0 2) (fun _ => 1024) a cap gb off bs 0 (some ⟨lg, 0, none⟩) lc lg 0 ts 0 w7 hsT (by decide) hbT hqT (by omega) (by omega) (by rw [← HTS.out]; omega) (by decide) (by decide) hmd (by have := h6.n6; have := h6.n2; omega) (fun _ => h6.n5)
      rw [← HBL.out, ← HTS.out, show (((0 : Nat)) : Int) = (0 : Int) from rfl] at hC3
      have HC3 := hid hC3
      have hn2 := h6.n2
      have H8 := hid (And.intro bt7 (And.intro hkT (And.intro hgT hn2)))
      clear hC3 hsT hbT hqT hkT hgT hn2 h6 hmd p7 hge7 bt7 HC2 H7
      have hol := rfl (a := (0 : Nat))
      clear hol
      go_wp2_with fail
      refine HC3.out.mono ?_
      rintro e w8 ⟨u, rfl, p8⟩
      obtain ⟨c8, g8, rfl, bt8, hge8⟩ := p8.row.ex
      obtain ⟨bt7, hkT, hgT, hn2⟩ := H8.out
      have q7 := run_convB (bt7.keep p8.kp (fun _ e => hgT e)).src
      have q8 := run_convB bt8.src
      have HK8 := hid (show Keep noBlock w w8 from hkT.trans p8.kp (fun i hi e => by have e : i = tb := e; omega))
      generalize outA (opsA (tkOf bs 0 0) (opsOf bs 0 0 ts (newS 3 0 2)) (newS 3 0 2) 0) (fun _ => 1024) = M at *
      generalize M.length = ml at *
      generalize strOf M = st at *
      clear p8 bt7 bt8 hkT hgT hn2 hge8 HC3 H8
      go_wp2_with fail
      refine (HW.out _).mono ?_
      rintro e w9 ⟨rfl, k9⟩
      have HF := hid (HK8.out.trans' k9)
      clear k9 HW HK8
      go_wp2_with fail
      go_ret
      exact ⟨rfl, HF.out⟩
    | true =>
      have hC := chunkP_good sb (newS 3 0 2) (fun _ => 1024) a cap gb off bs 0 (some ⟨g, 0, none⟩) cp g 0 ts2 0 W5 h5.s1 (by decide) h5.bt hq5 (by omega) (by omega) (by omega) (by decide) (by decide) hm2 (by have := h5.n6; have := h5.n1; omega) (fun _ => hgs)
      rw [← HBL.out, hts2, show (((0 : Nat)) : Int) = (0 : Int) from rfl] at hC
      have HC := hid hC
      have H6 := hid (And.intro h5 hm2)
      clear hC h5 hq5 hmd hm2 H5 hgs
      refine HC.out.mono ?_
      rintro e w6 ⟨u, rfl, p6⟩
      obtain ⟨c6, g6, rfl, bt6, hge6⟩ := p6.row.ex
      obtain ⟨h5, hm2⟩ := H6.out
      have hrd := steps_read bs 0 0 ts2 (newS 3 0 2) (fun _ => 1024) 65536 (by omega) (by omega) (Nat.zero_le _) h5.bt.lt (by decide) hm2
      have hol := steps_len bs 0 0 ts2 (newS 3 0 2) (fun _ => 1024) (by omega) (Nat.zero_le _) (by decide) hm2
      have hbg := out_begins (opsA (tkOf bs 0 0) (opsOf bs 0 0 ts2 (newS 3 0 2)) (newS 3 0 2) 0) (fun _ => 1024)
      have hk6 : Keep noBlock w w6 := h5.kp.trans p6.kp (fun i hi e => by have e : i = sb := e; have := h5.n1; omega)
      have hb6 := h5.bt.keep p6.kp (fun _ e => by have e : gb = sb := e; have := h5.n6; have := h5.n1; omega)
      generalize opsS (opsOf bs 0 0 ts2 (newS 3 0 2)) (newS 3 0 2) = S6 at *
      generalize (runA (opsA (tkOf bs 0 0) (opsOf bs 0 0 ts2 (newS 3 0 2)) (newS 3 0 2) 0) ⟨fun _ => 1024, newE⟩).c = C6 at *
      generalize outA (opsA (tkOf bs 0 0) (opsOf bs 0 0 ts2 (newS 3 0 2)) (newS 3 0 2) 0) (fun _ => 1024) = M at *
      have H7 := hid (And.intro hk6 (And.intro hb6 bt6))
      have HRd := hid (And.intro hrd (And.intro hol hbg))
      clear p6 hge6 hrd hol hbg hk6 hb6 bt6 HC H6 h5 hm2
      generalize hml : M.length = ml at *
      have HML := hid hml
      clear hml
      go_wp2_with fail
      refine (HPV.out _).mono ?_
      rintro e w7 ⟨rfl, rfl⟩
      go_wp2_with fail
      obtain ⟨j1, j2, j3⟩ := H7.out
      obtain ⟨r1, r2, r3⟩ := HRd.out
      have hr := rdn_new w7 (.slice (some ⟨g6, 0, none⟩) ml c6) g6 c6 bl M (by rw [HML.out]) j3
      have hRG := read_good 3 0 2 (by omega) (by omega) _ _ g6 c6 M bs 0 S6 C6 bs _ (by rw [← HBL.out]; exact hr) r3 (by rw [HML.out]; omega) (by decide) (by decide) hbl1 (by omega) r1
      have k8 : Keep noBlock w7 ((w7.alloc (.cells #[.slice (some ⟨g6, 0, none⟩) ml c6] 22)).alloc (.cells #[.int .i64 (bl : Int)] 3)) := ((Keep.refl noBlock w7).alloc _).alloc _
      have HR := hid hRG
      have H8 := hid (And.intro (j1.trans' k8) (j2.keep k8 (fun _ h => h)))
      clear hRG hr r1 r2 r3 j1 j2 j3 k8 H7 HRd HPV
      refine HR.out.mono ?_
      rintro e w9 ⟨rfl, k9⟩
      have H9 := hid (And.intro (H8.out.1.trans' k9) (H8.out.2.keep k9 (fun _ h => h)))
      have hcv := run_convB (H9.out.2.src)
      rw [← HBL.out] at hcv
      generalize strOf bs = st at *
      clear k9 HR H8
      go_wp2_with fail
      refine (HW.out _).mono ?_
      rintro e w10 ⟨rfl, k10⟩
      have HF := hid (H9.out.1.trans' k10)
      clear k10 HW H9
      go_wp2_with fail
      go_ret
      exact ⟨rfl, HF.out⟩
  have f0' : (zf == 0) = false := beq_eq_false_iff_ne.2 f0
  by_cases f1 : zf = 1
  · have f1' : (zf == 1) = true := by simp [f1]
    subst f1
    have H5 := hid (show ∃ ts2, ts2.length = tsl ∧ Rfw w (W4.setCell ⟨g, q * 3 + 1, none⟩ (.int .i64 (wrap64 (tm + by_)))) sb tb bs a cap gb off ts lg lc ∧ Fd.RowQ (W4.setCell ⟨g, q * 3 + 1, none⟩ (.int .i64 (wrap64 (tm + by_)))) (some ⟨g, 0, none⟩) cp g 0 ts2 ∧ madeB bs ts 0 = true ∧ g ≠ sb from by
      obtain ⟨h4, o4, hmd, n1, n2, n3, n4⟩ := H4.out
      have hq : q < ts.length := by rw [← HTS.out]; exact y4
      refine ⟨ts.set q (updT 1 (ts[q]?.getD (0, 0, 0)) (wrap64 (tm + by_))), by rw [List.length_set, HTS.out], h4.put _ _ n1 n2 n3 n4, ?_, hmd, n2⟩
      exact (o4.put q 1 (by omega) hq (wrap64 (tm + by_))).row (upd_b63 HB63.out q 1 _ (wrap_lt _)))
    go_wp2_with (at_builtin; refine wpList_append_run _ rfl _ _ 38 rfl _ _ _ _ rfl rfl r4 ?_)
    clear r4 e1 e2 e3 z0 z1 z2
    generalize W4.setCell ⟨g, q * 3 + 1, none⟩ (.int .i64 (wrap64 (tm + by_))) = W5 at *
    clear H4 HT HB63 y1 y2 y3 y4 y5 y6 y7 hqI
    obtain ⟨ts2, hts2, h5, hq5, hmd, hgs⟩ := H5.out
    cases hm2 : madeB bs ts2 0 with
    | false =>
      have hC := chunkP_mal sb a cap gb off bs 0 (some ⟨g, 0, none⟩) cp g 0 ts2 0 W5 h5.bt hq5 (by omega) (Nat.zero_le _) (by omega) (by decide) (.inr hm2)
      rw [← HBL.out, hts2, show (((0 : Nat)) : Int) = (0 : Int) from rfl] at hC
      have HC := hid hC
      have H6 := hid (And.intro h5 hmd)
      clear hC h5 hq5 hmd hm2 H5 hgs HPV
      refine HC.out.mono ?_
      rintro e w6 ⟨rfl, k6⟩
      obtain ⟨h5, hmd⟩ := H6.out
      have h6 := h5.keep k6
      have hC2 := chunkP_good sb (newS 3 0 2) (fun _ => 1024) a cap gb off bs 0 (some ⟨lg, 0, none⟩) lc lg 0 ts 0 w6 h6.s1 (by decide) h6.bt h6.rq (by omega) (by omega) (by rw [← HTS.out]; omega) (by decide) (by decide) hmd (by have := h6.n6; have := h6.n1; omega) (fun _ => h6.n4)
      rw [← HBL.out, ← HTS.out, show (((0 : Nat)) : Int) = (0 : Int) from rfl] at hC2
      have HC2 := hid hC2
      have H7 := hid (And.intro h6 hmd)
      clear hC2 h5 hmd h6 k6 HC H6
      go_wp2_with fail
      refine HC2.out.mono ?_
      rintro e w7 ⟨u, rfl, p7⟩
      obtain ⟨c7, g7, rfl, bt7, hge7⟩ := p7.row.ex
      obtain ⟨h6, hmd⟩ := H7.out
      have hsT := h6.s2.keep p7.kp (fun e => h6.n3 e.symm)
      have hbT := h6.bt.keep p7.kp (fun _ e => by have e : gb = sb := e; have := h6.n6; have := h6.n1; omega)
      have hqT := h6.rq.keep p7.kp (fun _ e => h6.n4 e)
      have hkT : Keep noBlock w w7 := h6.kp.trans p7.kp (fun i hi e => by have e : i = sb := e; have := h6.n1; omega)
      have hgT : g7 ≠ tb := by have := h6.s2.block; omega
      have hC3 := chunkP_good tb (newS 3 0 2) (fun _ => 1024) a cap gb off bs 0 (some ⟨lg, 0, none⟩) lc lg 0 ts 0 w7 hsT (by decide) hbT hqT (by omega) (by omega) (by rw [← HTS.out]; omega) (by decide) (by decide) hmd (by have := h6.n6; have := h6.n2; omega) (fun _ => h6.n5)
      rw [← HBL.out, ← HTS.out, show (((0 : Nat)) : Int) = (0 : Int) from rfl] at hC3
      have HC3 := hid hC3
      have hn2 := h6.n2
      have H8 := hid (And.intro bt7 (And.intro hkT (And.intro hgT hn2)))
      clear hC3 hsT hbT hqT hkT hgT hn2 h6 hmd p7 hge7 bt7 HC2 H7
      have hol := rfl (a := (0 : Nat))
      clear hol
      go_wp2_with fail
      refine HC3.out.mono ?_
      rintro e w8 ⟨u, rfl, p8⟩
      obtain ⟨c8, g8, rfl, bt8, hge8⟩ := p8.row.ex
      obtain ⟨bt7, hkT, hgT, hn2⟩ := H8.out
      have q7 := run_convB (bt7.keep p8.kp (fun _ e => hgT e)).src
      have q8 := run_convB bt8.src
      have HK8 := hid (show Keep noBlock w w8 from hkT.trans p8.kp (fun i hi e => by have e : i = tb := e; omega))
      generalize outA (opsA (tkOf bs 0 0) (opsOf bs 0 0 ts (newS 3 0 2)) (newS 3 0 2) 0) (fun _ => 1024) = M at *
      generalize M.length = ml at *
      generalize strOf M = st at *
      clear p8 bt7 bt8 hkT hgT hn2 hge8 HC3 H8
      go_wp2_with fail
      refine (HW.out _).mono ?_
      rintro e w9 ⟨rfl, k9⟩
      have HF := hid (HK8.out.trans' k9)
      clear k9 HW HK8
      go_wp2_with fail
      go_ret
      exact ⟨rfl, HF.out⟩
    | true =>
      have hC := chunkP_good sb (newS 3 0 2) (fun _ => 1024) a cap gb off bs 0 (some ⟨g, 0, none⟩) cp g 0 ts2 0 W5 h5.s1 (by decide) h5.bt hq5 (by omega) (by omega) (by omega) (by decide) (by decide) hm2 (by have := h5.n6; have := h5.n1; omega) (fun _ => hgs)
      rw [← HBL.out, hts2, show (((0 : Nat)) : Int) = (0 : Int) from rfl] at hC
      have HC := hid hC
      have H6 := hid (And.intro h5 hm2)
      clear hC h5 hq5 hmd hm2 H5 hgs
      refine HC.out.mono ?_
      rintro e w6 ⟨u, rfl, p6⟩
      obtain ⟨c6, g6, rfl, bt6, hge6⟩ := p6.row.ex
      obtain ⟨h5, hm2⟩ := H6.out
      have hrd := steps_read bs 0 0 ts2 (newS 3 0 2) (fun _ => 1024) 65536 (by omega) (by omega) (Nat.zero_le _) h5.bt.lt (by decide) hm2
      have hol := steps_len bs 0 0 ts2 (newS 3 0 2) (fun _ => 1024) (by omega) (Nat.zero_le _) (by decide) hm2
      have hbg := out_begins (opsA (tkOf bs 0 0) (opsOf bs 0 0 ts2 (newS 3 0 2)) (newS 3 0 2) 0) (fun _ => 1024)
      have hk6 : Keep noBlock w w6 := h5.kp.trans p6.kp (fun i hi e => by have e : i = sb := e; have := h5.n1; omega)
      have hb6 := h5.bt.keep p6.kp (fun _ e => by have e : gb = sb := e; have := h5.n6; have := h5.n1; omega)
      generalize opsS (opsOf bs 0 0 ts2 (newS 3 0 2)) (newS 3 0 2) = S6 at *
      generalize (runA (opsA (tkOf bs 0 0) (opsOf bs 0 0 ts2 (newS 3 0 2)) (newS 3 0 2) 0) ⟨fun _ => 1024, newE⟩).c = C6 at *
      generalize outA (opsA (tkOf bs 0 0) (opsOf bs 0 0 ts2 (newS 3 0 2)) (newS 3 0 2) 0) (fun _ => 1024) = M at *
      have H7 := hid (And.intro hk6 (And.intro hb6 bt6))
      have HRd := hid (And.intro hrd (And.intro hol hbg))
      clear p6 hge6 hrd hol hbg hk6 hb6 bt6 HC H6 h5 hm2
      generalize hml : M.length = ml at *
      have HML := hid hml
      clear hml
      go_wp2_with fail
      refine (HPV.out _).mono ?_
      rintro e w7 ⟨rfl, rfl⟩
      go_wp2_with fail
      obtain ⟨j1, j2, j3⟩ := H7.out
      obtain ⟨r1, r2, r3⟩ := HRd.out
      have hr := rdn_new w7 (.slice (some ⟨g6, 0, none⟩) ml c6) g6 c6 bl M (by rw [HML.out]) j3
      have hRG := read_good 3 0 2 (by omega) (by omega) _ _ g6 c6 M bs 0 S6 C6 bs _ (by rw [← HBL.out]; exact hr) r3 (by rw [HML.out]; omega) (by decide) (by decide) hbl1 (by omega) r1
      have k8 : Keep noBlock w7 ((w7.alloc (.cells #[.slice (some ⟨g6, 0, none⟩) ml c6] 22)).alloc (.cells #[.int .i64 (bl : Int)] 3)) := ((Keep.refl noBlock w7).alloc _).alloc _
      have HR := hid hRG
      have H8 := hid (And.intro (j1.trans' k8) (j2.keep k8 (fun _ h => h)))
      clear hRG hr r1 r2 r3 j1 j2 j3 k8 H7 HRd HPV
      refine HR.out.mono ?_
      rintro e w9 ⟨rfl, k9⟩
      have H9 := hid (And.intro (H8.out.1.trans' k9) (H8.out.2.keep k9 (fun _ h => h)))
      have hcv := run_convB (H9.out.2.src)
      rw [← HBL.out] at hcv
      generalize strOf bs = st at *
      clear k9 HR H8
      go_wp2_with fail
      refine (HW.out _).mono ?_
      rintro e w10 ⟨rfl, k10⟩
      have HF := hid (H9.out.1.trans' k10)
      clear k10 HW H9
      go_wp2_with fail
      go_ret
      exact ⟨rfl, HF.out⟩
  have f1' : (zf == 1) = false := beq_eq_false_iff_ne.2 f1
  have H5 := hid (show ∃ ts2, ts2.length = tsl ∧ Rfw w (W4.setCell ⟨g, q * 3 + 2, none⟩ (.int .i64 (wrap64 (tk + by_)))) sb tb bs a cap gb off ts lg lc ∧ Fd.RowQ (W4.setCell ⟨g, q * 3 + 2, none⟩ (.int .i64 (wrap64 (tk + by_)))) (some ⟨g, 0, none⟩) cp g 0 ts2 ∧ madeB bs ts 0 = true ∧ g ≠ sb from by
    obtain ⟨h4, o4, hmd, n1, n2, n3, n4⟩ := H4.out
    have hq : q < ts.length := by rw [← HTS.out]; exact y4
    refine ⟨ts.set q (updT 2 (ts[q]?.getD (0, 0, 0)) (wrap64 (tk + by_))), by rw [List.length_set, HTS.out], h4.put _ _ n1 n2 n3 n4, ?_, hmd, n2⟩
    exact (o4.put q 2 (by omega) hq (wrap64 (tk + by_))).row (upd_b63 HB63.out q 2 _ (wrap_lt _)))
  go_wp2_with (at_builtin; refine wpList_append_run _ rfl _ _ 38 rfl _ _ _ _ rfl rfl r4 ?_)
  clear r4 e1 e2 e3 z0 z1 z2
  generalize W4.setCell ⟨g, q * 3 + 2, none⟩ (.int .i64 (wrap64 (tk + by_))) = W5 at *
  clear H4 HT HB63 y1 y2 y3 y4 y5 y6 y7 hqI
  obtain ⟨ts2, hts2, h5, hq5, hmd, hgs⟩ := H5.out
  cases hm2 : madeB bs ts2 0 with
  | false =>
    have hC := chunkP_mal sb a cap gb off bs 0 (some ⟨g, 0, none⟩) cp g 0 ts2 0 W5 h5.bt hq5 (by omega) (Nat.zero_le _) (by omega) (by decide) (.inr hm2)
    rw [← HBL.out, hts2, show (((0 : Nat)) : Int) = (0 : Int) from rfl] at hC
    have HC := hid hC
    have H6 := hid (And.intro h5 hmd)
    clear hC h5 hq5 hmd hm2 H5 hgs HPV
    refine HC.out.mono ?_
    rintro e w6 ⟨rfl, k6⟩
    obtain ⟨h5, hmd⟩ := H6.out
    have h6 := h5.keep k6
    have hC2 := chunkP_good sb (newS 3 0 2) (fun _ => 1024) a cap gb off bs 0 (some ⟨lg, 0, none⟩) lc lg 0 ts 0 w6 h6.s1 (by decide) h6.bt h6.rq (by omega) (by omega) (by rw [← HTS.out]; omega) (by decide) (by decide) hmd (by have := h6.n6; have := h6.n1; omega) (fun _ => h6.n4)
    rw [← HBL.out, ← HTS.out, show (((0 : Nat)) : Int) = (0 : Int) from rfl] at hC2
    have HC2 := hid hC2
    have H7 := hid (And.intro h6 hmd)
    clear hC2 h5 hmd h6 k6 HC H6
    go_wp2_with fail
    refine HC2.out.mono ?_
    rintro e w7 ⟨u, rfl, p7⟩
    obtain ⟨c7, g7, rfl, bt7, hge7⟩ := p7.row.ex
    obtain ⟨h6, hmd⟩ := H7.out
    have hsT := h6.s2.keep p7.kp (fun e => h6.n3 e.symm)
    have hbT := h6.bt.keep p7.kp (fun _ e => by have e : gb = sb := e; have := h6.n6; have := h6.n1; omega)
    have hqT := h6.rq.keep p7.kp (fun _ e => h6.n4 e)
    have hkT : Keep noBlock w w7 := h6.kp.trans p7.kp (fun i hi e => by have e : i = sb := e; have := h6.n1; omega)
    have hgT : g7 ≠ tb := by have := h6.s2.block; omega
    have hC3 := chunkP_good tb (newS 3 0 2) (fun _ => 1024) a cap gb off bs 0 (some ⟨lg, 0, none⟩) lc lg 0 ts 0 w7 hsT (by decide) hbT hqT (by omega) (by omega) (by rw [← HTS.out]; omega) (by decide) (by decide) hmd (by have := h6.n6; have := h6.n2; omega) (fun _ => h6.n5)
    rw [← HBL.out, ← HTS.out, show (((0 : Nat)) : Int) = (0 : Int) from rfl] at hC3
    have HC3 := hid hC3
    have hn2 := h6.n2
    have H8 := hid (And.intro bt7 (And.intro hkT (And.intro hgT hn2)))
    clear hC3 hsT hbT hqT hkT hgT hn2 h6 hmd p7 hge7 bt7 HC2 H7
    have hol := rfl (a := (0 : Nat))
    clear hol
    go_wp2_with fail
    refine HC3.out.mono ?_
    rintro e w8 ⟨u, rfl, p8⟩
    obtain ⟨c8, g8, rfl, bt8, hge8⟩ := p8.row.ex
    obtain ⟨bt7, hkT, hgT, hn2⟩ := H8.out
    have q7 := run_convB (bt7.keep p8.kp (fun _ e => hgT e)).src
    have q8 := run_convB bt8.src
    have HK8 := hid (show Keep noBlock w w8 from hkT.trans p8.kp (fun i hi e => by have e : i = tb := e; omega))
    generalize outA (opsA (tkOf bs 0 0) (opsOf bs 0 0 ts (newS 3 0 2)) (newS 3 0 2) 0) (fun _ => 1024) = M at *
    generalize M.length = ml at *
    generalize strOf M = st at *
    clear p8 bt7 bt8 hkT hgT hn2 hge8 HC3 H8
    go_wp2_with fail
    refine (HW.out _).mono ?_
    rintro e w9 ⟨rfl, k9⟩
    have HF := hid (HK8.out.trans' k9)
    clear k9 HW HK8
    go_wp2_with fail
    go_ret
    exact ⟨rfl, HF.out⟩
  | true =>
    have hC := chunkP_good sb (newS 3 0 2) (fun _ => 1024) a cap gb off bs 0 (some ⟨g, 0, none⟩) cp g 0 ts2 0 W5 h5.s1 (by decide) h5.bt hq5 (by omega) (by omega) (by omega) (by decide) (by decide) hm2 (by have := h5.n6; have := h5.n1; omega) (fun _ => hgs)
    rw [← HBL.out, hts2, show (((0 : Nat)) : Int) = (0 : Int) from rfl] at hC
    have HC := hid hC
    have H6 := hid (And.intro h5 hm2)
    clear hC h5 hq5 hmd hm2 H5 hgs
    refine HC.out.mono ?_
    rintro e w6 ⟨u, rfl, p6⟩
    obtain ⟨c6, g6, rfl, bt6, hge6⟩ := p6.row.ex
    obtain ⟨h5, hm2⟩ := H6.out
    have hrd := steps_read bs 0 0 ts2 (newS 3 0 2) (fun _ => 1024) 65536 (by omega) (by omega) (Nat.zero_le _) h5.bt.lt (by decide) hm2
    have hol := steps_len bs 0 0 ts2 (newS 3 0 2) (fun _ => 1024) (by omega) (Nat.zero_le _) (by decide) hm2
    have hbg := out_begins (opsA (tkOf bs 0 0) (opsOf bs 0 0 ts2 (newS 3 0 2)) (newS 3 0 2) 0) (fun _ => 1024)
    have hk6 : Keep noBlock w w6 := h5.kp.trans p6.kp (fun i hi e => by have e : i = sb := e; have := h5.n1; omega)
    have hb6 := h5.bt.keep p6.kp (fun _ e => by have e : gb = sb := e; have := h5.n6; have := h5.n1; omega)
    generalize opsS (opsOf bs 0 0 ts2 (newS 3 0 2)) (newS 3 0 2) = S6 at *
    generalize (runA (opsA (tkOf bs 0 0) (opsOf bs 0 0 ts2 (newS 3 0 2)) (newS 3 0 2) 0) ⟨fun _ => 1024, newE⟩).c = C6 at *
    generalize outA (opsA (tkOf bs 0 0) (opsOf bs 0 0 ts2 (newS 3 0 2)) (newS 3 0 2) 0) (fun _ => 1024) = M at *
    have H7 := hid (And.intro hk6 (And.intro hb6 bt6))
    have HRd := hid (And.intro hrd (And.intro hol hbg))
    clear p6 hge6 hrd hol hbg hk6 hb6 bt6 HC H6 h5 hm2
    generalize hml : M.length = ml at *
    have HML := hid hml
    clear hml
    go_wp2_with fail
    refine (HPV.out _).mono ?_
    rintro e w7 ⟨rfl, rfl⟩
    go_wp2_with fail
    obtain ⟨j1, j2, j3⟩ := H7.out
    obtain ⟨r1, r2, r3⟩ := HRd.out
    have hr := rdn_new w7 (.slice (some ⟨g6, 0, none⟩) ml c6) g6 c6 bl M (by rw [HML.out]) j3
    have hRG := read_good 3 0 2 (by omega) (by omega) _ _ g6 c6 M bs 0 S6 C6 bs _ (by rw [← HBL.out]; exact hr) r3 (by rw [HML.out]; omega) (by decide) (by decide) hbl1 (by omega) r1
    have k8 : Keep noBlock w7 ((w7.alloc (.cells #[.slice (some ⟨g6, 0, none⟩) ml c6] 22)).alloc (.cells #[.int .i64 (bl : Int)] 3)) := ((Keep.refl noBlock w7).alloc _).alloc _
    have HR := hid hRG
    have H8 := hid (And.intro (j1.trans' k8) (j2.keep k8 (fun _ h => h)))
    clear hRG hr r1 r2 r3 j1 j2 j3 k8 H7 HRd HPV
    refine HR.out.mono ?_
    rintro e w9 ⟨rfl, k9⟩
    have H9 := hid (And.intro (H8.out.1.trans' k9) (H8.out.2.keep k9 (fun _ h => h)))
    have hcv := run_convB (H9.out.2.src)
    rw [← HBL.out] at hcv
    generalize strOf bs = st at *
    clear k9 HR H8
    go_wp2_with fail
    refine (HW.out _).mono ?_
    rintro e w10 ⟨rfl, k10⟩
    have HF := hid (H9.out.1.trans' k10)
    clear k10 HW H9
    go_wp2_with fail
    go_ret
    exact ⟨rfl, HF.out⟩
end

end Go.Proofs.YtnokemcogjoonaaGreatDoor.Pt
