/-
  Write.
  Two rows of bytes, one behind the other, in a new row.
  What came in: slices of integers, as the rows hand them on.
  What came in: the forms, as the rows hand them on.
-/
import Derived.Deep.DeepAppendWide
import Derived.WalkKit
import Derived.ProofKit
import Derived.OpenShut
import Derived.ChangeOld
import Derived.ChangeSame
import Derived.ChangeArms
import Derived.Below
import Derived.SizedLaws
import Derived.Deep.Slices
import Derived.Deep.Strs
import Derived.Deep.Matrix
import Derived.Lib.SmallJoins
import Derived.LaidMore
import Derived.Stop.Joined
import Derived.ShutString
import Derived.Test.YtcoahkmiebeeeaaGreatDoorRows
import Derived.Test.YtcoahkmiebeeeaaGreatDoorLitP6
import Derived.Test.YtcoahkmiebeeeaaGreatDoorLitP9
import Derived.Test.YtcoahkmiebeeeaaGreatDoorLitP23
namespace Go.Proofs.YtcoahkmiebeeeaaGreatDoor
open Go.RowKit Go.Shelf
set_option linter.unusedVariables false

def WrAns (ws lits : List Nat) (w : World) (e : Ending) (w' : World) : Prop := Keep noBlock w w' ∧ ∃ S nx a1 n1 c1 g1 o1 a2 n2 c2 g2 o2, Short ws lits S nx ∧ e = .returned (.tuple #[.slice a1 n1 c1, .slice a2 n2 c2, .int .i64 0]) ∧ n1 = S.length ∧ n2 = nx.length ∧ Bytes w' a1 c1 g1 o1 S ∧ Bytes w' a2 c2 g2 o2 nx

set_option maxRecDepth 100000 in
set_option maxHeartbeats 1000000 in
theorem writeL_long (a : Option Addr) (cap n : Nat) (a2 : Option Addr) (cap2 n2 : Nat) (w : World) (h : 131072 < n) :
    Calls Tryz.prog 6 #[.slice a n cap, .slice a2 n2 cap2] w fun e w' => e = .returned (.tuple #[.slice none 0 0, .slice none 0 0, .int .i64 3]) ∧ Keep noBlock w w' := by
  have hI : (131072 : Int) < (n : Int) := by omega
  go_enter Tryz.func6, Tryz.ntmps6
  go_wp2_with fail
  refine bodyPost_ret (v := .tuple #[.slice none 0 0, .slice none 0 0, .int .i64 3]) (by simp [results, Tryz.results6, go_sem]) rfl ?_
  exact ⟨rfl, Keep.refl _ _⟩

set_option maxRecDepth 100000 in
set_option maxHeartbeats 1000000 in
theorem writeL_any (a : Option Addr) (cap gb off : Nat) (lits : List Nat) (a2 : Option Addr) (cap2 gb2 off2 : Nat) (ws : List Nat) (w : World) (hF : Frm w) (hB : Bytes w a cap gb off lits) (hB2 : Bytes w a2 cap2 gb2 off2 ws) (hl : lits.length ≤ 131072) (hl2 : ws.length ≤ 140737488355327) :
    Calls Tryz.prog 6 #[.slice a lits.length cap, .slice a2 ws.length cap2] w fun e w' => WrAns ws lits w e w' := by
  have HS := hid (shortest_any a cap gb off lits a2 cap2 gb2 off2 ws w hF hB hB2 hl hl2)
  obtain ⟨n, hn⟩ : ∃ n, n = lits.length := ⟨_, rfl⟩
  obtain ⟨n2, hn2⟩ : ∃ n2, n2 = ws.length := ⟨_, rfl⟩
  rw [← hn, ← hn2] at HS
  rw [← hn] at hl
  rw [← hn, ← hn2]
  have hI : ¬ (131072 : Int) < (n : Int) := by omega
  clear hF hB hB2 hl2 hn hn2
  go_enter Tryz.func6, Tryz.ntmps6
  go_wp2_with fail
  refine HS.out.mono ?_
  rintro e w1 ⟨hk, S, nx, a1, n1, c1, g1, o1, a3, n3, c3, g3, o3, hSh, rfl, h1, h2, h3, h4⟩
  have HE := hid (And.intro hk (And.intro hSh (And.intro h1 (And.intro h2 (And.intro h3 h4)))))
  clear hk hSh h1 h2 h3 h4
  go_wp2_with fail
  refine bodyPost_ret (v := .tuple #[.slice a1 n1 c1, .slice a3 n3 c3, .int .i64 0]) (by simp [results, Tryz.results6, go_sem]) rfl ?_
  obtain ⟨q1, q2, q3, q4, q5, q6⟩ := HE.out
  exact ⟨q1, S, nx, a1, n1, c1, g1, o1, a3, n3, c3, g3, o3, q2, rfl, q3, q4, q5, q6⟩

theorem readL_back {ws lits S nx : List Nat} (h : Sec ws lits S nx) (rest : List Nat) (most : Int) (hm : (lits.length : Int) ≤ most) (hm2 : most ≤ 131072) (a : Option Addr) (cap gb off : Nat) (a2 : Option Addr) (cap2 gb2 off2 : Nat) (w : World) (hF : Frm w) (hB : Bytes w a cap gb off (S ++ rest)) (hB2 : Bytes w a2 cap2 gb2 off2 ws) (hl : ws.length ≤ 140737488355327) :
    Calls Tryz.prog 8 #[.slice a (S ++ rest).length cap, .slice a2 ws.length cap2, .int .i64 most] w fun e w' => LAns (0, lits, nx, S.length) w e w' := by
  obtain ⟨c, u, V, h1, h2, h3⟩ := h rest most hm hm2
  have := readL_any a cap gb off (S ++ rest) a2 cap2 gb2 off2 ws most c u V w hF hB hB2 hl h2 (fun h => ⟨(h1 h).1, code_ok (h1 h).2⟩)
  rw [h3] at this
  exact this
end Go.Proofs.YtcoahkmiebeeeaaGreatDoor

namespace Go.Proofs.YtcoahkmiebeeeaaGreatDoor
open Go.RowKit Go.Shelf
set_option linter.unusedVariables false

theorem run_append_wide (w : World) (ty : TypeId) (v : Value) (M bs : List Nat) (hown : w.ownsRow 0 5 1 v M.length (u8s M)) (hlen : M.length + bs.length ≤ 140737490000000) (sv : Value) (h : SrcB w sv bs) :
    ∃ v' w', (Builtin.append_ #[22, 22] ty #[v, sv]).run Tryz.prog w = .ok v' w' ∧ w'.ownsRow 0 5 1 v' (M ++ bs).length (u8s (M ++ bs)) ∧ Keep (fun k => v.ownBlock = some k) w w' := by
  obtain ⟨i0, hi, hz0, hz1, hz2⟩ := info_parts info5
  have happ : u8s (M ++ bs) = u8s M ++ u8s bs := by simp [u8s]
  rcases h with ⟨rfl, rfl⟩ | ⟨a, c, rfl, hc⟩
  · refine ⟨v, w, ?_, by simpa using hown, Keep.refl _ _⟩
    rcases hown.2 with ⟨rfl, h0⟩ | ⟨g, cap, cur, rfl, _, hg, hr1, hr2, _⟩
    · simp [Builtin.append_, run_underlying Tryz.underlying22, sizeOf, typeInfo, hi, Builtin.lenOf, go_sem]
    · have hcap : M.length ≤ cap := by omega
      simp [Builtin.append_, run_underlying Tryz.underlying22, sizeOf, typeInfo, hi, Builtin.lenOf, go_sem, hcap]
  · obtain ⟨v', w', hr, h2, h3, h4⟩ := run_append_own_wide (P := Tryz.prog) w 0 22 ty 5 i0 (.int .u8 0) 1 1 Tryz.underlying22 hi hz0 hz1 hz2 rfl (by decide) v M.length (u8s M) hown a bs.length c (u8s bs) (by simp [u8s_length]) hc (u8s_one bs) (by unfold maxLen; omega) (by omega) (Nat.zero_le _)
    exact ⟨v', w', hr, by rw [List.length_append, happ]; exact h2, (Keep.refl _ w).grown h3 (fun k e _ => e)⟩

theorem two_appends {w1 : World} {va : Option Addr} {vc vg vo : Nat} {S : List Nat} (hS : Bytes w1 va vc vg vo S) {a2 : Option Addr} {cap2 gb2 off2 : Nat} {R : List Nat} (hR : Bytes w1 a2 cap2 gb2 off2 R) (hl : S.length ≤ 1000000) (hl2 : S.length + R.length ≤ 140737490000000) :
    ∃ ad3 c3 W3 xa xc xg W4, (Builtin.append_ #[22, 22] 22 #[.slice (some ⟨w1.heap.size, 0, none⟩) 0 0, .slice va S.length vc]).run Tryz.prog (w1.alloc (.cells #[] 5)) = .ok (.slice ad3 S.length c3) W3 ∧
      (Builtin.append_ #[22, 22] 22 #[.slice ad3 S.length c3, .slice a2 R.length cap2]).run Tryz.prog W3 = .ok (.slice xa (S ++ R).length xc) W4 ∧ Keep noBlock w1 W4 ∧ Bytes W4 xa xc xg 0 (S ++ R) := by
  have hk2 : Keep noBlock w1 (w1.alloc (.cells #[] 5)) := (Keep.refl _ w1).alloc _
  have hmade := World.ownsRow_made (e := 5) (size := 1) (base := 0) w1 #[] 0 (Nat.zero_le _) (Nat.zero_le _) rfl
  obtain ⟨v3, W3, hrun3, hown3, hK3, hm3⟩ := run_append_all (w1.alloc (.cells #[] 5)) 22 (.slice (some ⟨w1.heap.size, 0, none⟩) 0 0) [] S (by simpa [u8s] using hmade) (by simp; omega) (.slice va S.length vc) (hS.keep hk2 (fun _ h => h)).src
  rw [List.nil_append] at hown3
  have hKw3 : Keep noBlock w1 W3 := hk2.trans hK3 (fun j hj e => by
    have : w1.heap.size = j := by simpa [Value.ownBlock] using e
    omega)
  have hnew3 : ∀ j, v3.ownBlock = some j → w1.heap.size ≤ j := fun j e => by
    rcases hm3 with q | ⟨i, q, hi⟩
    · rw [q] at e
      have : w1.heap.size = j := by simpa [Value.ownBlock] using e
      omega
    · rw [q] at e; cases e
      rw [World.size_alloc] at hi
      omega
  obtain ⟨v4, W4, hrun4, hown4, hK4⟩ := run_append_wide W3 22 v3 S R hown3 hl2 (.slice a2 R.length cap2) (hR.keep hKw3 (fun _ h => h)).src
  have hKw4 : Keep noBlock w1 W4 := hKw3.trans hK4 (fun j hj e => by have := hnew3 j e; omega)
  obtain ⟨xa, xc, xg, rfl, hBx, -⟩ := owns_bytes hown4 (lt_app hS.lt hR.lt) (by rw [List.length_append]; omega)
  obtain ⟨ad3, c3, rfl⟩ := owns_form hown3
  exact ⟨ad3, c3, W3, xa, xc, xg, W4, hrun3, hrun4, hKw4, hBx⟩
end Go.Proofs.YtcoahkmiebeeeaaGreatDoor

namespace Go.Proofs.YtcoahkmiebeeeaaGreatDoor
open Go.ChangeShapes Go.WideShapes Go.ChangeAt Go.RowKit
set_option linter.unusedVariables false

theorem own : ownKnob Tryz.prog.godebug = none := by kernel_rfl
theorem laidOut : laidOutB Tryz.prog = true := by kernel_rfl
theorem bytes5 : Tryz.prog.bytesOf 5 = 1 := by kernel_rfl
theorem getD_el (zs : List Int) (j : Nat) (h : j < zs.length) : zs.getD j 0 = zs[j] := by simp [List.getD, h]

theorem rowI_of {k : IntKind} {W : World} {x : Addr} {l cp : Nat} {zs : List Int} (hl : l ≤ cp) (hz : zs.length = cp) (hcell : ∀ i, i < cp → W.cell? (x.add i) = some (.int k (zs.getD i 0))) :
    ∃ (gb off : Nat), RowI W k (some x) cp gb off (zs.take l) ∧ (zs.take l).length = l := by
  have hbl : (zs.take l).length = l := by rw [List.length_take]; omega
  by_cases h0 : l = 0
  · subst h0
    exact ⟨0, 0, ⟨.inr (by simp), (fun e => by cases e), (fun j hj => by simp at hj), by rw [hbl]; omega⟩, hbl⟩
  · obtain ⟨b, off, spot⟩ := x
    have hc0 := hcell 0 (by omega)
    have hspot : spot = none := by simpa [Addr.add] using World.cell?_spot hc0
    subst hspot
    refine ⟨b, off, ⟨.inl rfl, (fun e => by cases e), fun j hj => ?_, by omega⟩, hbl⟩
    rw [hbl] at hj
    have h1 := hcell j (by omega)
    rw [addO] at h1
    rw [h1, List.getElem?_take, if_pos hj]
    simp [List.getD]

theorem row22_open {H : Type} {enc : TypeId × Value → H} {W : World} {a : Option Addr} {len cap fuel : Nat} {x : DataW H × List MemPlace} (h : DataW.trod enc Tryz.prog W 0 (fun _ => true) true fuel 22 [.slice a len cap] = some x) (hw : ∀ n ∈ x.1.weights Tryz.prog 22, n ≤ reachBytes) :
    ∃ (b off : Nat) (xs : List Int), xs.length = len ∧ RowI W .u8 a cap b off xs ∧ (∀ i : Nat, 0 ≤ xs[i]?.getD 0 ∧ xs[i]?.getD 0 ≤ 255) ∧ len * Tryz.prog.bytesOf 5 ≤ reachBytes := by
  rcases open_ints Tryz.underlying22 Tryz.underlying5 (by kernel_rfl) h with ⟨hcs, _⟩ | ⟨y, l, cp, zs, hcs, _, hl, hm, hz, hx, hcell, hwz⟩
  · simp at hcs
    obtain ⟨rfl, rfl, rfl⟩ := hcs
    exact ⟨0, 0, [], rfl, ⟨.inr rfl, (fun _ => rfl), (fun j hj => by simp at hj), Nat.le_refl _⟩, (fun i => by simp), by simp⟩
  · simp at hcs
    obtain ⟨rfl, rfl, rfl⟩ := hcs
    have hz' : zs.length = cap := by simpa using hz
    obtain ⟨b, off, hR, hlen⟩ := rowI_of (k := .u8) hl hz' (fun i hi => hcell i (by omega))
    refine ⟨b, off, zs.take len, hlen, hR, fun i => ?_, ?_⟩
    · by_cases hi : i < len
      · have hb := bounds_u8 (hwz (zs.getD i 0) (by rw [getD_el zs i (by omega)]; exact List.getElem_mem _))
        rw [List.getElem?_take, if_pos hi, List.getElem?_eq_getElem (by omega), Option.getD_some]
        rw [getD_el zs i (by omega)] at hb
        omega
      · rw [List.getElem?_eq_none (by omega)]; simp
    · have hx1 : x.1 = .slice (lits .u8 (zs.take len)) (lits .u8 (zs.drop len)) := by rw [hx]
      have h1 := hw (((lits (H := H) .u8 (zs.take len)).length + (lits (H := H) .u8 (zs.drop len)).length) * Tryz.prog.bytesOf 5) (by
        rw [hx1]
        simp only [DataW.weights, Tryz.underlying22]
        exact List.mem_cons_self)
      simp only [lits, List.length_map, List.length_take, List.length_drop] at h1
      refine Nat.le_trans (Nat.mul_le_mul_right _ ?_) h1
      omega

theorem bytes_open {H : Type} {enc : TypeId × Value → H} {W : World} {a : Option Addr} {len cap fuel : Nat} {x : DataW H × List MemPlace} (h : DataW.trod enc Tryz.prog W 0 (fun _ => true) true fuel 22 [.slice a len cap] = some x) (hw : ∀ n ∈ x.1.weights Tryz.prog 22, n ≤ reachBytes) :
    ∃ (b off : Nat) (bs : List Nat), bs.length = len ∧ Bytes W a cap b off bs ∧ len ≤ 140737488351232 := by
  obtain ⟨b, off, xs, hl, hR, hb, hr⟩ := row22_open h hw
  have hlen : len ≤ 140737488351232 := by rw [bytes5, Nat.mul_one] at hr; exact hr
  refine ⟨b, off, xs.map Int.toNat, by simpa using hl, ⟨?_, hR.nil, fun j hj => ?_, fun j => ?_, ?_, ?_⟩, hlen⟩
  · rcases hR.at_ with e | e
    · exact .inl e
    · exact .inr (by rw [e]; rfl)
  · rw [List.length_map] at hj
    rw [hR.cells j hj]
    have := hb j
    rw [List.getElem?_eq_getElem hj] at this ⊢
    rw [List.getElem?_map, List.getElem?_eq_getElem hj]
    simp only [Option.getD_some, Option.map_some] at this ⊢
    rw [Int.toNat_of_nonneg this.1]
  · have := hb j
    rw [List.getElem?_map]
    cases hx : xs[j]? with
    | none => simp
    | some y => rw [hx] at this; simp only [Option.getD_some, Option.map_some] at this ⊢; omega
  · rw [List.length_map, hl]; have := hR.le; omega
  · rw [List.length_map, hl]; omega

end Go.Proofs.YtcoahkmiebeeeaaGreatDoor

namespace Go.Proofs.YtcoahkmiebeeeaaGreatDoor
open Go.ChangeShapes Go.WideShapes Go.ChangeAt Go.RowKit
set_option linter.unusedVariables false

theorem gForms : Tryz.prog.globalNamed "baler/literals.forms" = some 0 := by kernel_rfl
theorem tForms : (Tryz.prog.globals[0]?).map (·.type) = some 52 := by kernel_rfl
theorem cells3 : Tryz.prog.cellsOf 3 = 1 := by kernel_rfl
theorem cells29 : Tryz.prog.cellsOf 36 = 4 := by kernel_rfl
theorem cells46 : Tryz.prog.cellsOf 51 = 16 := by kernel_rfl
theorem door_met (os : Os) (args : Array Value) : laidMetH Tryz.prog [("baler/literals.forms", Rows.laid_baler_literals_forms)] ((World.doorLaid Tryz.prog 400 os).forCall (fun _ _ => 0) ⟨#[], args, []⟩).memory :=
  laidMetH_of_parts3 (fuel := 8) (laidMet_of_run' 8 (by kernel_rfl) (by kernel_rfl)) (by kernel_rfl) (by kernel_rfl)

theorem cell_of_trod {H : Type} {enc : TypeId × Value → H} {W : World} {m : Nat} {cs : List Value} {o : Nat} {y : DataW H × List MemPlace} {hd : Bool} (h : DataW.trod enc Tryz.prog W 0 (fun _ => true) hd m 3 ((cs.drop o).take (Tryz.prog.cellsOf 3)) = some y) : ∃ k : Int, cs[o]? = some (.int .i64 k) ∧ y.1 = .lit (.int .i64 k) := by
  obtain ⟨k, e1, e2, _⟩ := DataW.trod_int Tryz.underlying3 h
  refine ⟨k, ?_, by rw [e2]⟩
  rw [cells3] at e1
  have e3 := congrArg (fun l : List Value => l[0]?) e1
  simp only [List.getElem?_take, List.getElem?_drop] at e3
  simpa using e3
theorem form_of_trod {H : Type} {enc : TypeId × Value → H} {W : World} {m : Nat} {cs : List Value} {o : Nat} {y : DataW H × List MemPlace} {hd : Bool} (h : DataW.trod enc Tryz.prog W 0 (fun _ => true) hd m 36 ((cs.drop o).take (Tryz.prog.cellsOf 36)) = some y) :
    ∃ k0 k1 k2 k3 : Int, cs[o]? = some (.int .i64 k0) ∧ cs[o + 1]? = some (.int .i64 k1) ∧ cs[o + 2]? = some (.int .i64 k2) ∧ cs[o + 3]? = some (.int .i64 k3) ∧ y.1 = .agg [.lit (.int .i64 k0), .lit (.int .i64 k1), .lit (.int .i64 k2), .lit (.int .i64 k3)] := by
  obtain ⟨y0, y1, y2, y3, n, hx, -, h0, h1, h2, h3⟩ := Joins.trod_struct4 Tryz.underlying36 h
  obtain ⟨k0, a0, b0⟩ := cell_of_trod h0
  obtain ⟨k1, a1, b1⟩ := cell_of_trod h1
  obtain ⟨k2, a2, b2⟩ := cell_of_trod h2
  obtain ⟨k3, a3, b3⟩ := cell_of_trod h3
  rw [cells29, List.getElem?_take, if_pos (by decide), List.getElem?_drop] at a0 a1 a2 a3
  exact ⟨k0, k1, k2, k3, a0, a1, a2, a3, by rw [hx, b0, b1, b2, b3]⟩
theorem four_of_trod {H : Type} {enc : TypeId × Value → H} {W : World} {m : Nat} {cs : List Value} {o : Nat} {y : DataW H × List MemPlace} {hd : Bool} (h : DataW.trod enc Tryz.prog W 0 (fun _ => true) hd m 51 ((cs.drop o).take (Tryz.prog.cellsOf 51)) = some y) :
    ∃ ys : List (DataW H), y.1 = .agg ys ∧ ∀ f, f < 4 → ∃ k0 k1 k2 k3 : Int, cs[o + f * 4]? = some (.int .i64 k0) ∧ cs[o + f * 4 + 1]? = some (.int .i64 k1) ∧ cs[o + f * 4 + 2]? = some (.int .i64 k2) ∧ cs[o + f * 4 + 3]? = some (.int .i64 k3) ∧ ys[f]? = some (.agg [.lit (.int .i64 k0), .lit (.int .i64 k1), .lit (.int .i64 k2), .lit (.int .i64 k3)]) := by
  obtain ⟨xs, n, -, hx, -, hlen, hel⟩ := DataW.trod_array Tryz.underlying51 h
  refine ⟨xs.map (·.1), by rw [hx], fun f hf => ?_⟩
  have hf0 := hel f hf
  obtain ⟨x, hxf⟩ : ∃ x, xs[f]? = some x := ⟨_, List.getElem?_eq_getElem (by omega)⟩
  rw [hxf, cells46, cells29, List.drop_take, List.take_take, List.drop_drop, Nat.min_eq_left (by omega)] at hf0
  obtain ⟨k0, k1, k2, k3, a0, a1, a2, a3, b⟩ := form_of_trod (o := o + f * 4) (by rw [cells29]; exact hf0)
  exact ⟨k0, k1, k2, k3, a0, a1, a2, a3, by rw [List.getElem?_map, hxf]; simp [b]⟩
theorem of_laid {W : World} (h : laidMetH Tryz.prog [("baler/literals.forms", Rows.laid_baler_literals_forms)] W) : Frm W := by
  rw [MakeChecks.laidMetH_plain _ _ _ (by kernel_rfl)] at h
  obtain ⟨ps, ⟨g1, t1, cs1, f1, p1, q1, hg1, ht1, hv1, hd1, _⟩, _, _⟩ := h
  obtain rfl := Option.some.inj (gForms.symm.trans hg1)
  obtain rfl := Option.some.inj (tForms.symm.trans ht1)
  obtain ⟨xs, m1, rfl, hx1, hlen, hn2, hel⟩ := DataW.trod_array Tryz.underlying52 hd1
  simp only [Prod.mk.injEq, DataW.agg.injEq, Rows.laid_baler_literals_forms] at hx1
  intro i f hi hf
  have h0 := hel i hi
  obtain ⟨x, hx⟩ : ∃ x, xs[i]? = some x := ⟨_, List.getElem?_eq_getElem (by omega)⟩
  rw [hx] at h0
  rw [cells46] at h0
  obtain ⟨ys, hy, hall⟩ := four_of_trod (o := i * 16) (by rw [cells46]; exact h0)
  obtain ⟨k0, k1, k2, k3, a0, a1, a2, a3, b⟩ := hall f hf
  rw [World.var?_cell hg1 hv1, World.var?_cell hg1 hv1, World.var?_cell hg1 hv1, World.var?_cell hg1 hv1]
  have h3 : (xs.map (·.1))[i]? = some (.agg ys) := by rw [List.getElem?_map, hx]; simp [hy]
  rw [← hx1.1] at h3
  have key : k0 = ((hbN (2 * i) f : Nat) : Int) ∧ k1 = ((frN (2 * i) f : Nat) : Int) ∧ k2 = ((btN (2 * i) f : Nat) : Int) ∧ k3 = ((rwN (2 * i) f : Nat) : Int) := by
    obtain rfl | rfl : i = 0 ∨ i = 1 := by omega
    · simp only [List.getElem?_cons_zero, Option.some.injEq, DataW.agg.injEq] at h3
      subst h3
      obtain rfl | rfl | rfl | rfl : f = 0 ∨ f = 1 ∨ f = 2 ∨ f = 3 := by omega
      all_goals (simp at b; obtain ⟨rfl, rfl, rfl, rfl⟩ := b; decide)
    · simp only [List.getElem?_cons_succ, List.getElem?_cons_zero, Option.some.injEq, DataW.agg.injEq] at h3
      subst h3
      obtain rfl | rfl | rfl | rfl : f = 0 ∨ f = 1 ∨ f = 2 ∨ f = 3 := by omega
      all_goals (simp at b; obtain ⟨rfl, rfl, rfl, rfl⟩ := b; decide)
  obtain ⟨rfl, rfl, rfl, rfl⟩ := key
  exact ⟨by simpa using a0, by simpa using a1, by simpa using a2, by simpa using a3⟩
end Go.Proofs.YtcoahkmiebeeeaaGreatDoor
