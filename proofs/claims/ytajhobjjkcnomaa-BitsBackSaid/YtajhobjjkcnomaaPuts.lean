/-
  A slice of numbers with their bits that came in, opened: each element's three cells.
-/
import Derived.Test.YtajhobjjkcnomaaRows
import Derived.Test.YtajhobjjkcnomaaWriteLaw
import Derived.WalkKit
import Derived.ProofKit
import Derived.OpenShut
import Derived.ChangeOld
import Derived.Below
import Derived.Deep.Slices
import Derived.Deep.Strs
namespace Go.Proofs.Ytajhobjjkcnomaa
open Go.ChangeShapes Go.WideShapes Go.ChangeAt Go.RowKit

theorem cells45 : Try.prog.cellsOf 45 = 3 := by kernel_rfl
theorem cells29 : Try.prog.cellsOf 29 = 1 := by kernel_rfl
theorem cells3 : Try.prog.cellsOf 3 = 1 := by kernel_rfl
theorem cells4 : Try.prog.cellsOf 4 = 1 := by kernel_rfl

theorem put_open {H : Type} {enc : TypeId × Value → H} {W : World} {fuel : Nat} {cs : List Value} {x : DataW H × List MemPlace} (h : DataW.trod enc Try.prog W 0 (fun _ => true) true fuel 45 cs = some x) :
    ∃ d : Nat × Int × Bool, cs = [.int .u64 (d.1 : Int), .int .i64 d.2.1, .bool d.2.2] ∧ d.1 < 18446744073709551616 := by
  obtain ⟨y0, y1, y2, n, _, hl, h0, h1, h2⟩ := Go.Deep.trod_struct3 Try.underlying45 h
  rw [cells45] at hl
  match cs, hl with
  | [c0, c1, c2], _ =>
    simp only [cells29, cells3, cells4, List.drop_succ_cons, List.drop_zero, List.take_succ_cons, List.take_zero] at h0 h1 h2
    obtain ⟨q0, e0, _, w0⟩ := DataW.trod_int Try.underlying29 h0
    obtain ⟨q1, e1, _, _⟩ := DataW.trod_int Try.underlying3 h1
    obtain ⟨q2, e2, _⟩ := DataW.trod_bool Try.underlying4 h2
    have hb := bounds_u64 w0
    simp only [List.cons.injEq, and_true] at e0 e1 e2
    subst e0 e1 e2
    refine ⟨(q0.toNat, q1, q2), ?_, ?_⟩
    · rw [Int.toNat_of_nonneg hb.1]
    · show q0.toNat < 18446744073709551616
      omega

theorem add_at (b off j i : Nat) : ((⟨b, off, none⟩ : Addr).add j).add i = ⟨b, off + j + i, none⟩ := by
  rw [Go.Deep.add_add]
  unfold Addr.add
  split <;> simp_all [Nat.add_assoc]

theorem puts_open {H : Type} {enc : TypeId × Value → H} {W : World} {a : Option Addr} {len cap fuel : Nat} {x : DataW H × List MemPlace} (h : DataW.trod enc Try.prog W 0 (fun _ => true) true fuel 37 [.slice a len cap] = some x) :
    len ≤ cap ∧ ∃ (b off : Nat) (ps : List PutD), (a = some ⟨b, off, none⟩ ∨ len = 0) ∧ (∀ j : Nat, (ps[j]?.getD putD0).x < 18446744073709551616) ∧
      ∀ j, j < len → W.cell? ⟨b, off + j * 3, none⟩ = some (.int .u64 ((ps[j]?.getD putD0).x : Int)) ∧ W.cell? ⟨b, off + j * 3 + 1, none⟩ = some (.int .i64 (ps[j]?.getD putD0).n) ∧ W.cell? ⟨b, off + j * 3 + 2, none⟩ = some (.bool (ps[j]?.getD putD0).al) := by
  rcases Go.Deep.open_slice Try.underlying37 h with ⟨e, _⟩ | ⟨ad, l, c, m, n, D, Pl, e, _, hl, hm, hmm, _, hel⟩
  · simp only [List.cons.injEq, Value.slice.injEq, and_true] at e
    obtain ⟨rfl, rfl, rfl⟩ := e
    exact ⟨Nat.le_refl _, 0, 0, [], .inr rfl, fun j => by simp [putD0], fun j hj => by omega⟩
  · simp only [List.cons.injEq, Value.slice.injEq, and_true] at e
    obtain ⟨rfl, rfl, rfl⟩ := e
    simp only [if_true] at hmm
    subst hmm
    refine ⟨hl, ?_⟩
    have hel2 : ∀ i, i < len → ∃ d : Nat × Int × Bool, d.1 < 18446744073709551616 ∧ W.cell? (ad.add (i * 3)) = some (.int .u64 (d.1 : Int)) ∧ W.cell? ((ad.add (i * 3)).add 1) = some (.int .i64 d.2.1) ∧ W.cell? ((ad.add (i * 3)).add 2) = some (.bool d.2.2) := by
      intro i hi
      obtain ⟨cs, hc, ht⟩ := hel i (by omega)
      obtain ⟨d, rfl, hd⟩ := put_open ht
      rw [cells45] at hc
      obtain ⟨_, _, hcc⟩ := World.cells?_some hc
      have q0 := hcc 0 (by omega)
      have q1 := hcc 1 (by omega)
      have q2 := hcc 2 (by omega)
      have e0 : (ad.add (i * 3)).add 0 = ad.add (i * 3) := by rw [Go.Deep.add_add]; rfl
      rw [e0] at q0
      exact ⟨d, hd, q0, q1, q2⟩
    obtain ⟨f, hf⟩ := Go.Deep.choose_lt hel2
    by_cases h0 : len = 0
    · exact ⟨0, 0, [], .inr h0, fun j => by simp [putD0], fun j hj => by omega⟩
    · obtain ⟨b, off, spot⟩ := ad
      have c0 := (hf 0 (by omega)).2.1
      have hspot : spot = none := by simpa [Addr.add] using World.cell?_spot c0
      subst hspot
      have hat : ∀ j, j < len → ((List.range len).map (fun i => (⟨(f i).1, (f i).2.1, (f i).2.2⟩ : PutD)))[j]?.getD putD0 = ⟨(f j).1, (f j).2.1, (f j).2.2⟩ := fun j hj => by
        rw [List.getElem?_map, List.getElem?_range hj]; rfl
      refine ⟨b, off, (List.range len).map (fun i => ⟨(f i).1, (f i).2.1, (f i).2.2⟩), .inl rfl, fun j => ?_, fun j hj => ?_⟩
      · by_cases hj : j < len
        · rw [hat j hj]; exact (hf j hj).1
        · rw [List.getElem?_eq_none (by simp; omega)]; decide
      · rw [hat j hj]
        obtain ⟨_, p0, p1, p2⟩ := hf j hj
        have e0 : (⟨b, off, none⟩ : Addr).add (j * 3) = ⟨b, off + j * 3, none⟩ := by have := add_at b off (j * 3) 0; rw [Go.Deep.add_add] at this; exact this
        rw [add_at] at p1 p2
        rw [e0] at p0
        exact ⟨p0, p1, p2⟩

end Go.Proofs.Ytajhobjjkcnomaa
