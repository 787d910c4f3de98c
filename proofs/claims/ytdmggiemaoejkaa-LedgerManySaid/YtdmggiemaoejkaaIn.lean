/-
  A slice of acts that came in, opened: each element's two cells.
-/
import Derived.Test.YtdmggiemaoejkaaRows
import Derived.Test.YtdmggiemaoejkaaPlaysLaw
import Derived.WalkKit
import Derived.ProofKit
import Derived.OpenShut
import Derived.ChangeOld
import Derived.ChangeSame
import Derived.ChangeArms
import Derived.Below
import Derived.Deep.Slices
import Derived.Deep.Strs
namespace Go.Proofs.Ytdmggiemaoejkaa
open Go.ChangeShapes Go.WideShapes Go.ChangeAt Go.RowKit

theorem cells30 : Try.prog.cellsOf 30 = 2 := by kernel_rfl
theorem cells3 : Try.prog.cellsOf 3 = 1 := by kernel_rfl
theorem cells4 : Try.prog.cellsOf 4 = 1 := by kernel_rfl

theorem act_open {H : Type} {enc : TypeId × Value → H} {W : World} {fuel : Nat} {cs : List Value} {x : DataW H × List MemPlace} (h : DataW.trod enc Try.prog W 0 (fun _ => true) true fuel 30 cs = some x) :
    ∃ d : Int × Bool, cs = [.int .i64 d.1, .bool d.2] ∧ d.1 ≤ 9223372036854775807 := by
  obtain ⟨y0, y1, n, _, hl, h0, h1⟩ := trod_struct2 Try.underlying30 h
  rw [cells30] at hl
  match cs, hl with
  | [c0, c1], _ =>
    simp only [cells3, cells4, List.drop_succ_cons, List.drop_zero, List.take_succ_cons, List.take_zero] at h0 h1
    obtain ⟨q0, e0, _, w0⟩ := DataW.trod_int Try.underlying3 h0
    obtain ⟨q1, e1, _⟩ := DataW.trod_bool Try.underlying4 h1
    have hb := bounds_i64 w0
    simp only [List.cons.injEq, and_true] at e0 e1
    subst e0 e1
    exact ⟨(q0, q1), rfl, hb.2⟩

theorem add_at (b off j i : Nat) : ((⟨b, off, none⟩ : Addr).add j).add i = ⟨b, off + j + i, none⟩ := by
  rw [Go.Deep.add_add]
  unfold Addr.add
  split <;> simp_all [Nat.add_assoc]

theorem acts_open {H : Type} {enc : TypeId × Value → H} {W : World} {a : Option Addr} {len cap fuel : Nat} {x : DataW H × List MemPlace} (h : DataW.trod enc Try.prog W 0 (fun _ => true) true fuel 22 [.slice a len cap] = some x) :
    ∃ (b off : Nat) (ps : List ActD), (a = some ⟨b, off, none⟩ ∨ len = 0) ∧ (∀ j : Nat, (ps[j]?.getD actD0).n ≤ 9223372036854775807) ∧
      ∀ j, j < len → W.cell? ⟨b, off + j * 2, none⟩ = some (.int .i64 (ps[j]?.getD actD0).n) ∧ W.cell? ⟨b, off + j * 2 + 1, none⟩ = some (.bool (ps[j]?.getD actD0).back) := by
  rcases Go.Deep.open_slice Try.underlying22 h with ⟨e, _⟩ | ⟨ad, l, c, m, n, D, Pl, e, _, hl, hm, hmm, _, hel⟩
  · simp only [List.cons.injEq, Value.slice.injEq, and_true] at e
    obtain ⟨rfl, rfl, rfl⟩ := e
    exact ⟨0, 0, [], .inr rfl, fun j => by simp [actD0], fun j hj => by omega⟩
  · simp only [List.cons.injEq, Value.slice.injEq, and_true] at e
    obtain ⟨rfl, rfl, rfl⟩ := e
    simp only [if_true] at hmm
    subst hmm
    have hel2 : ∀ i, i < len → ∃ d : Int × Bool, d.1 ≤ 9223372036854775807 ∧ W.cell? (ad.add (i * 2)) = some (.int .i64 d.1) ∧ W.cell? ((ad.add (i * 2)).add 1) = some (.bool d.2) := by
      intro i hi
      obtain ⟨cs, hc, ht⟩ := hel i (by omega)
      obtain ⟨d, rfl, hd⟩ := act_open ht
      rw [cells30] at hc
      obtain ⟨_, _, hcc⟩ := World.cells?_some hc
      have q0 := hcc 0 (by omega)
      have q1 := hcc 1 (by omega)
      have e0 : (ad.add (i * 2)).add 0 = ad.add (i * 2) := by rw [Go.Deep.add_add]; rfl
      rw [e0] at q0
      exact ⟨d, hd, q0, q1⟩
    obtain ⟨f, hf⟩ := Go.Deep.choose_lt hel2
    by_cases h0 : len = 0
    · exact ⟨0, 0, [], .inr h0, fun j => by simp [actD0], fun j hj => by omega⟩
    · obtain ⟨b, off, spot⟩ := ad
      have c0 := (hf 0 (by omega)).2.1
      have hspot : spot = none := by simpa [Addr.add] using World.cell?_spot c0
      subst hspot
      have hat : ∀ j, j < len → ((List.range len).map (fun i => (⟨(f i).1, (f i).2⟩ : ActD)))[j]?.getD actD0 = ⟨(f j).1, (f j).2⟩ := fun j hj => by
        rw [List.getElem?_map, List.getElem?_range hj]; rfl
      refine ⟨b, off, (List.range len).map (fun i => ⟨(f i).1, (f i).2⟩), .inl rfl, fun j => ?_, fun j hj => ?_⟩
      · by_cases hj : j < len
        · rw [hat j hj]; exact (hf j hj).1
        · rw [List.getElem?_eq_none (by simp; omega)]; decide
      · rw [hat j hj]
        obtain ⟨_, p0, p1⟩ := hf j hj
        have e0 : (⟨b, off, none⟩ : Addr).add (j * 2) = ⟨b, off + j * 2, none⟩ := by have := add_at b off (j * 2) 0; rw [Go.Deep.add_add] at this; exact this
        rw [add_at] at p1
        rw [e0] at p0
        exact ⟨p0, p1⟩

end Go.Proofs.Ytdmggiemaoejkaa
