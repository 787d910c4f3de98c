/-
  A slice of numbers with their bits that came in, opened: each element's two cells.
-/
import Derived.Test.YtdkjciilhlhagaaRows
import Derived.Test.YtdkjciilhlhagaaPair
import Derived.WalkKit
import Derived.ProofKit
import Derived.OpenShut
import Derived.ChangeOld
import Derived.ChangeSame
import Derived.Below
import Derived.Deep.Slices
import Derived.Deep.Strs
namespace Go.Proofs.Ytdkjciilhlhagaa
open Go.ChangeShapes Go.WideShapes Go.ChangeAt Go.RowKit

theorem cells46 : Try.prog.cellsOf 46 = 2 := by kernel_rfl
theorem cells32 : Try.prog.cellsOf 32 = 1 := by kernel_rfl
theorem cells3 : Try.prog.cellsOf 3 = 1 := by kernel_rfl

theorem put_open {H : Type} {enc : TypeId × Value → H} {W : World} {fuel : Nat} {cs : List Value} {x : DataW H × List MemPlace} (h : DataW.trod enc Try.prog W 0 (fun _ => true) true fuel 46 cs = some x) :
    ∃ d : Nat × Int, cs = [.int .u64 (d.1 : Int), .int .i64 d.2] ∧ d.1 < 18446744073709551616 := by
  obtain ⟨y0, y1, n, _, hl, h0, h1⟩ := trod_struct2 Try.underlying46 h
  rw [cells46] at hl
  match cs, hl with
  | [c0, c1], _ =>
    simp only [cells32, cells3, List.drop_succ_cons, List.drop_zero, List.take_succ_cons, List.take_zero] at h0 h1
    obtain ⟨q0, e0, _, w0⟩ := DataW.trod_int Try.underlying32 h0
    obtain ⟨q1, e1, _, _⟩ := DataW.trod_int Try.underlying3 h1
    have hb := bounds_u64 w0
    simp only [List.cons.injEq, and_true] at e0 e1
    subst e0 e1
    refine ⟨(q0.toNat, q1), ?_, ?_⟩
    · rw [Int.toNat_of_nonneg hb.1]
    · show q0.toNat < 18446744073709551616
      omega

theorem add_at (b off j i : Nat) : ((⟨b, off, none⟩ : Addr).add j).add i = ⟨b, off + j + i, none⟩ := by
  rw [Go.Deep.add_add]
  unfold Addr.add
  split <;> simp_all [Nat.add_assoc]

theorem puts_open {H : Type} {enc : TypeId × Value → H} {W : World} {a : Option Addr} {len cap fuel : Nat} {x : DataW H × List MemPlace} (h : DataW.trod enc Try.prog W 0 (fun _ => true) true fuel 38 [.slice a len cap] = some x) :
    len ≤ cap ∧ ∃ (b off : Nat) (ps : List PutD), (a = some ⟨b, off, none⟩ ∨ len = 0) ∧ (∀ j : Nat, (ps[j]?.getD putD0).x < 18446744073709551616) ∧
      ∀ j, j < len → W.cell? ⟨b, off + j * 2, none⟩ = some (.int .u64 ((ps[j]?.getD putD0).x : Int)) ∧ W.cell? ⟨b, off + j * 2 + 1, none⟩ = some (.int .i64 (ps[j]?.getD putD0).n) := by
  rcases Go.Deep.open_slice Try.underlying38 h with ⟨e, _⟩ | ⟨ad, l, c, m, n, D, Pl, e, _, hl, hm, hmm, _, hel⟩
  · simp only [List.cons.injEq, Value.slice.injEq, and_true] at e
    obtain ⟨rfl, rfl, rfl⟩ := e
    exact ⟨Nat.le_refl _, 0, 0, [], .inr rfl, fun j => by simp [putD0], fun j hj => by omega⟩
  · simp only [List.cons.injEq, Value.slice.injEq, and_true] at e
    obtain ⟨rfl, rfl, rfl⟩ := e
    simp only [if_true] at hmm
    subst hmm
    refine ⟨hl, ?_⟩
    have hel2 : ∀ i, i < len → ∃ d : Nat × Int, d.1 < 18446744073709551616 ∧ W.cell? (ad.add (i * 2)) = some (.int .u64 (d.1 : Int)) ∧ W.cell? ((ad.add (i * 2)).add 1) = some (.int .i64 d.2) := by
      intro i hi
      obtain ⟨cs, hc, ht⟩ := hel i (by omega)
      obtain ⟨d, rfl, hd⟩ := put_open ht
      rw [cells46] at hc
      obtain ⟨_, _, hcc⟩ := World.cells?_some hc
      have q0 := hcc 0 (by omega)
      have q1 := hcc 1 (by omega)
      have e0 : (ad.add (i * 2)).add 0 = ad.add (i * 2) := by rw [Go.Deep.add_add]; rfl
      rw [e0] at q0
      exact ⟨d, hd, q0, q1⟩
    obtain ⟨f, hf⟩ := Go.Deep.choose_lt hel2
    by_cases h0 : len = 0
    · exact ⟨0, 0, [], .inr h0, fun j => by simp [putD0], fun j hj => by omega⟩
    · obtain ⟨b, off, spot⟩ := ad
      have c0 := (hf 0 (by omega)).2.1
      have hspot : spot = none := by simpa [Addr.add] using World.cell?_spot c0
      subst hspot
      have hat : ∀ j, j < len → ((List.range len).map (fun i => (⟨(f i).1, (f i).2⟩ : PutD)))[j]?.getD putD0 = ⟨(f j).1, (f j).2⟩ := fun j hj => by
        rw [List.getElem?_map, List.getElem?_range hj]; rfl
      refine ⟨b, off, (List.range len).map (fun i => ⟨(f i).1, (f i).2⟩), .inl rfl, fun j => ?_, fun j hj => ?_⟩
      · by_cases hj : j < len
        · rw [hat j hj]; exact (hf j hj).1
        · rw [List.getElem?_eq_none (by simp; omega)]; decide
      · rw [hat j hj]
        obtain ⟨_, p0, p1⟩ := hf j hj
        have e0 : (⟨b, off, none⟩ : Addr).add (j * 2) = ⟨b, off + j * 2, none⟩ := by have := add_at b off (j * 2) 0; rw [Go.Deep.add_add] at this; exact this
        rw [add_at] at p1
        rw [e0] at p0
        exact ⟨p0, p1⟩

end Go.Proofs.Ytdkjciilhlhagaa
