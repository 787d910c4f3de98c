/-
  What came in: slices of acts and slices of integers, as the rows hand them on.
-/
import Derived.Test.YtpjbegafhgnebaaRows
import Derived.Test.YtpjbegafhgnebaaGreat
import Derived.WalkKit
import Derived.ProofKit
import Derived.OpenShut
import Derived.ChangeOld
import Derived.ChangeSame
import Derived.ChangeArms
import Derived.Below
import Derived.SizedLaws
import Derived.Deep.Slices
import Derived.Deep.Strs
import Derived.Deep.Matrix
import Derived.Lib.SmallJoins
namespace Go.Proofs.Ytpjbegafhgnebaa
open Go.ChangeShapes Go.WideShapes Go.ChangeAt Go.RowKit
set_option linter.unusedVariables false

theorem own : ownKnob Try.prog.godebug = none := by kernel_rfl
theorem laidOut : laidOutB Try.prog = true := by kernel_rfl
theorem bytes5 : Try.prog.bytesOf 5 = 1 := by kernel_rfl
theorem bytes3 : Try.prog.bytesOf 3 = 8 := by kernel_rfl
theorem bytes40 : Try.prog.bytesOf 40 = 48 := by kernel_rfl
theorem cells40 : Try.prog.cellsOf 40 = 4 := by kernel_rfl
theorem cells3 : Try.prog.cellsOf 3 = 1 := by kernel_rfl
theorem cells38 : Try.prog.cellsOf 38 = 1 := by kernel_rfl

theorem weightsAll_mem {H : Type} {P : Program} {e : TypeId} {d : DataW H} {l : List (DataW H)} {n : Nat} (h : d ∈ l) (hn : n ∈ d.weights P e) : n ∈ DataW.weightsAll P e l := by
  induction l with
  | nil => cases h
  | cons x r ih =>
    simp only [DataW.weightsAll, List.mem_append]
    cases List.mem_cons.1 h with
    | inl e => subst e; exact .inl hn
    | inr e => exact .inr (ih e)

theorem getD_el (zs : List Int) (j : Nat) (h : j < zs.length) : zs.getD j 0 = zs[j] := by simp [List.getD, h]

/-- A slice of bytes that came in as a field. -/
theorem bytes_open {H : Type} {enc : TypeId × Value → H} {W : World} {fuel : Nat} {c : Value} {y : DataW H × List MemPlace} (h : DataW.trod enc Try.prog W 0 (fun _ => true) true fuel 38 [c] = some y) (hw : ∀ n ∈ y.1.weights Try.prog 38, n ≤ reachBytes) :
    ∃ (a : Option Addr) (cap gb off : Nat) (bs : List Nat), c = .slice a bs.length cap ∧ Bytes W a cap gb off bs := by
  rcases open_ints Try.underlying38 Try.underlying5 (by kernel_rfl) h with ⟨hcs, _⟩ | ⟨x, l, cp, zs, hcs, _, hl, hm, hz, hx, hcell, hwz⟩
  · simp at hcs
    exact ⟨none, 0, 0, 0, [], hcs, ⟨.inr rfl, fun _ => rfl, (fun j hj => by simp at hj), (fun j => by simp), Nat.le_refl _, by decide⟩⟩
  · simp at hcs
    have hz' : zs.length = cp := by simpa using hz
    have hlen : l ≤ 140737488351232 := by
      have hx1 : y.1 = .slice (lits .u8 (zs.take l)) (lits .u8 (zs.drop l)) := by rw [hx]
      have h1 := hw (((lits (H := H) .u8 (zs.take l)).length + (lits (H := H) .u8 (zs.drop l)).length) * Try.prog.bytesOf 5) (by
        rw [hx1]
        simp only [DataW.weights, Try.underlying38]
        exact List.mem_cons_self)
      rw [bytes5] at h1
      simp only [lits, List.length_map, List.length_take, List.length_drop, reachBytes] at h1
      omega
    have hbl : ((zs.take l).map Int.toNat).length = l := by simp; omega
    by_cases h0 : l = 0
    · subst h0
      exact ⟨some x, cp, 0, 0, [], hcs, ⟨.inr rfl, (fun e => by cases e), (fun j hj => by simp at hj), (fun j => by simp), Nat.zero_le _, by decide⟩⟩
    · obtain ⟨b, off, spot⟩ := x
      have hc0 := hcell 0 (by omega)
      have hspot : spot = none := by simpa [Addr.add] using World.cell?_spot hc0
      subst hspot
      refine ⟨some ⟨b, off, none⟩, cp, b, off, (zs.take l).map Int.toNat, by rw [hbl]; exact hcs, ⟨.inl rfl, (fun e => by cases e), fun j hj => ?_, fun j => ?_, by omega, by omega⟩⟩
      · rw [hbl] at hj
        have h1 := hcell j (by omega)
        rw [addO] at h1
        have hb := bounds_u8 (hwz (zs.getD j 0) (by rw [getD_el zs j (by omega)]; exact List.getElem_mem _))
        rw [h1]
        simp only [List.getElem?_map, List.getElem?_take, if_pos hj, List.getElem?_eq_getElem (show j < zs.length by omega), Option.map_some, Option.getD_some]
        rw [getD_el zs j (by omega)] at hb ⊢
        congr 2
        omega
      · by_cases hj : j < l
        · have hb := bounds_u8 (hwz (zs.getD j 0) (by rw [getD_el zs j (by omega)]; exact List.getElem_mem _))
          simp only [List.getElem?_map, List.getElem?_take, if_pos hj, List.getElem?_eq_getElem (show j < zs.length by omega), Option.map_some, Option.getD_some]
          rw [getD_el zs j (by omega)] at hb
          omega
        · rw [List.getElem?_eq_none (by omega)]; decide

theorem act_open {H : Type} {enc : TypeId × Value → H} {W : World} {fuel : Nat} {cs : List Value} {x : DataW H × List MemPlace} (h : DataW.trod enc Try.prog W 0 (fun _ => true) true fuel 40 cs = some x) (hw : ∀ n ∈ x.1.weights Try.prog 40, n ≤ reachBytes) :
    ∃ d : ActD, cs = [.int .i64 d.what, .slice d.a d.bs.length d.cap, .int .i64 d.back, .int .i64 d.n] ∧ Bytes W d.a d.cap d.gb d.off d.bs := by
  obtain ⟨y0, y1, y2, y3, n, hx, hl, h0, h1, h2, h3⟩ := Go.Joins.trod_struct4 Try.underlying40 h
  rw [cells40] at hl
  match cs, hl with
  | [c0, c1, c2, c3], _ =>
    simp only [cells3, cells38, List.drop_succ_cons, List.drop_zero, List.take_succ_cons, List.take_zero] at h0 h1 h2 h3
    obtain ⟨q0, e0, _, w0⟩ := DataW.trod_int Try.underlying3 h0
    obtain ⟨q2, e2, _, w2⟩ := DataW.trod_int Try.underlying3 h2
    obtain ⟨q3, e3, _, w3⟩ := DataW.trod_int Try.underlying3 h3
    obtain ⟨a, cap, gb, off, bs, e1, hB⟩ := bytes_open h1 (fun n hn => hw n (by
      rw [hx]
      simp only [DataW.weights, Try.underlying40]
      simp only [List.map_cons, List.map_nil, DataW.weightsEach, List.mem_append]
      exact .inr (.inl hn)))
    simp only [List.cons.injEq, and_true] at e0 e2 e3
    subst e0 e1 e2 e3
    exact ⟨⟨q0, bs, q2, q3, a, cap, gb, off⟩, rfl, hB⟩

theorem add_at (b off j i : Nat) : ((⟨b, off, none⟩ : Addr).add j).add i = ⟨b, off + j + i, none⟩ := by
  rw [addO, addO]

theorem acts_open {H : Type} {enc : TypeId × Value → H} {W : World} {a : Option Addr} {len cap fuel : Nat} {x : DataW H × List MemPlace} (h : DataW.trod enc Try.prog W 0 (fun _ => true) true fuel 22 [.slice a len cap] = some x) (hw : ∀ n ∈ x.1.weights Try.prog 22, n ≤ reachBytes) :
    len < 2 ^ 60 ∧ ∃ (b off : Nat) (ps : Nat → ActD), Acts W a len b off ps := by
  rcases Go.Deep.open_slice Try.underlying22 h with ⟨e, _⟩ | ⟨ad, l, c, m, n, D, Pl, e, _, hl, hm, hmm, hx, hel⟩
  · simp only [List.cons.injEq, Value.slice.injEq, and_true] at e
    obtain ⟨rfl, rfl, rfl⟩ := e
    exact ⟨by decide, 0, 0, fun _ => ⟨0, [], 0, 0, none, 0, 0, 0⟩, ⟨.inr rfl, (fun j hj => by omega), (fun j hj => by omega)⟩⟩
  · simp only [List.cons.injEq, Value.slice.injEq, and_true] at e
    obtain ⟨rfl, rfl, rfl⟩ := e
    simp only [if_true] at hmm
    subst hmm
    have hx1 : x.1 = .slice ((List.range len).map D) ((List.range (m - len)).map fun j => D (len + j)) := by rw [hx]
    have hw' := hw
    rw [hx1] at hw'
    simp only [DataW.weights, Try.underlying22] at hw'
    have hlen := hw' _ List.mem_cons_self
    rw [bytes40] at hlen
    simp only [List.length_map, List.length_range, reachBytes] at hlen
    have hel2 : ∀ i, i < len → ∃ d : ActD, Bytes W d.a d.cap d.gb d.off d.bs ∧ W.cell? (ad.add (i * 4)) = some (.int .i64 d.what) ∧ W.cell? ((ad.add (i * 4)).add 1) = some (.slice d.a d.bs.length d.cap) ∧ W.cell? ((ad.add (i * 4)).add 2) = some (.int .i64 d.back) ∧ W.cell? ((ad.add (i * 4)).add 3) = some (.int .i64 d.n) := by
      intro i hi
      obtain ⟨cs, hc, ht⟩ := hel i (by omega)
      obtain ⟨d, rfl, hd⟩ := act_open ht (fun n hn => hw' n (List.mem_cons_of_mem _ (List.mem_append_left _ (weightsAll_mem (List.mem_map.2 ⟨i, List.mem_range.2 hi, rfl⟩) hn))))
      rw [cells40] at hc
      obtain ⟨_, _, hcc⟩ := World.cells?_some hc
      have q0 := hcc 0 (by omega)
      have q1 := hcc 1 (by omega)
      have q2 := hcc 2 (by omega)
      have q3 := hcc 3 (by omega)
      have e0 : (ad.add (i * 4)).add 0 = ad.add (i * 4) := by rw [Go.Deep.add_add]; rfl
      rw [e0] at q0
      exact ⟨d, hd, q0, q1, q2, q3⟩
    refine ⟨by omega, ?_⟩
    by_cases h0 : len = 0
    · exact ⟨0, 0, fun _ => ⟨0, [], 0, 0, none, 0, 0, 0⟩, ⟨.inr h0, (fun j hj => by omega), (fun j hj => by omega)⟩⟩
    · obtain ⟨b, off, spot⟩ := ad
      obtain ⟨d0, _, c0, _⟩ := hel2 0 (by omega)
      have hspot : spot = none := by simpa [Addr.add] using World.cell?_spot c0
      subst hspot
      have hch : ∀ i, ∃ d : ActD, i < len → (Bytes W d.a d.cap d.gb d.off d.bs ∧ W.cell? ⟨b, off + i * 4, none⟩ = some (.int .i64 d.what) ∧ W.cell? ⟨b, off + i * 4 + 1, none⟩ = some (.slice d.a d.bs.length d.cap) ∧ W.cell? ⟨b, off + i * 4 + 2, none⟩ = some (.int .i64 d.back) ∧ W.cell? ⟨b, off + i * 4 + 3, none⟩ = some (.int .i64 d.n)) := fun i => by
        by_cases hi : i < len
        · obtain ⟨d, hd, q0, q1, q2, q3⟩ := hel2 i hi
          rw [addO] at q0
          rw [add_at] at q1 q2 q3
          exact ⟨d, fun _ => ⟨hd, q0, q1, q2, q3⟩⟩
        · exact ⟨⟨0, [], 0, 0, none, 0, 0, 0⟩, fun e => absurd e hi⟩
      refine ⟨b, off, fun i => Classical.choose (hch i), ⟨.inl rfl, fun j hj => ?_, fun j hj => ?_⟩⟩
      · obtain ⟨_, q0, q1, q2, q3⟩ := Classical.choose_spec (hch j) hj
        exact ⟨q0, q1, q2, q3⟩
      · exact (Classical.choose_spec (hch j) hj).1

/-- A slice of integers that came in. -/
structure RowZ (w : World) (a : Option Addr) (len b off : Nat) (zs : Nat → Int) : Prop where
  at_ : a = some ⟨b, off, none⟩ ∨ len = 0
  cells : ∀ j, j < len → w.cell? ⟨b, off + j, none⟩ = some (.int .i64 (zs j))
theorem rowZ_open {H : Type} {enc : TypeId × Value → H} {W : World} {a : Option Addr} {len cap fuel : Nat} {x : DataW H × List MemPlace} (h : DataW.trod enc Try.prog W 0 (fun _ => true) true fuel 52 [.slice a len cap] = some x) :
    ∃ (b off : Nat) (zs : Nat → Int), RowZ W a len b off zs := by
  rcases open_ints Try.underlying52 Try.underlying3 (by kernel_rfl) h with ⟨hcs, _⟩ | ⟨y, l, cp, zs, hcs, _, hl, hm, hz, hx, hcell, hwz⟩
  · simp at hcs
    obtain ⟨rfl, rfl, rfl⟩ := hcs
    exact ⟨0, 0, fun _ => 0, ⟨.inr rfl, (fun j hj => by omega)⟩⟩
  · simp at hcs
    obtain ⟨rfl, rfl, rfl⟩ := hcs
    have hz' : zs.length = cap := by simpa using hz
    by_cases h0 : len = 0
    · exact ⟨0, 0, fun _ => 0, ⟨.inr h0, (fun j hj => by omega)⟩⟩
    · obtain ⟨b, off, spot⟩ := y
      have hc0 := hcell 0 (by omega)
      have hspot : spot = none := by simpa [Addr.add] using World.cell?_spot hc0
      subst hspot
      refine ⟨b, off, fun j => zs.getD j 0, ⟨.inl rfl, fun j hj => ?_⟩⟩
      have h1 := hcell j (by omega)
      rwa [addO] at h1

end Go.Proofs.Ytpjbegafhgnebaa
