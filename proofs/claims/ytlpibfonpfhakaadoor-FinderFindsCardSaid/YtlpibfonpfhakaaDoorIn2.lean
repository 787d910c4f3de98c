/-
  Slices that came in, opened.
-/
import Derived.Test.YtlpibfonpfhakaaDoorIn
namespace Go.Proofs.YtlpibfonpfhakaaDoor
open Go.ChangeShapes Go.WideShapes Go.ChangeAt Go.RowKit
set_option linter.unusedVariables false
/-- A slice of integers that came in: nil, or a row of cap cells that hold zs. -/
def IsRow (k : IntKind) (w : World) (a : Option Addr) (len cap : Nat) (zs : List Int) : Prop :=
  (a = none ∧ len = 0 ∧ cap = 0 ∧ zs = []) ∨
  ∃ x, a = some x ∧ len ≤ cap ∧ cap ≤ maxLen ∧ zs.length = cap ∧ (∀ i, i < zs.length → w.cell? (x.add i) = some (.int k (zs.getD i 0))) ∧ ∀ n ∈ zs, (Lit.int k n).wf = true

/-- A slice of integers that came in: the row's address, where it has elements. -/
theorem row_open {k : IntKind} {w : World} {a : Option Addr} {len cap : Nat} {zs : List Int} (h : IsRow k w a len cap zs) :
    ∃ b off, (a = some ⟨b, off, none⟩ ∨ len = 0) ∧ ∀ j, j < len → w.cell? ⟨b, off + j, none⟩ = some (.int k (zs[j]?.getD 0)) := by
  rcases h with ⟨rfl, rfl, rfl, rfl⟩ | ⟨x, rfl, hl, hm, hz, hc, hw⟩
  · exact ⟨0, 0, .inr rfl, fun j hj => by omega⟩
  · by_cases h0 : len = 0
    · exact ⟨0, 0, .inr h0, fun j hj => by omega⟩
    · obtain ⟨b, off, spot⟩ := x
      have hc0 := hc 0 (by omega)
      have hspot : spot = none := by simpa [Addr.add] using World.cell?_spot hc0
      subst hspot
      refine ⟨b, off, .inl rfl, fun j hj => ?_⟩
      have h1 := hc j (by omega)
      rw [show (⟨b, off, none⟩ : Addr).add j = ⟨b, off + j, none⟩ from by unfold Addr.add; split <;> simp_all] at h1
      rw [h1]; simp [List.getD]

/-- The bytes of a slice that came in. -/
def bytesOf (len : Nat) (zs : List Int) : List Nat := (zs.take len).map Int.toNat
theorem u8_of_wf {n : Int} (h : (Lit.int .u8 n).wf = true) : 0 ≤ n ∧ n < 256 := by
  have := bounds_u8 h
  omega
theorem bytesOf_length {w : World} {a : Option Addr} {len cap : Nat} {zs : List Int} (h : IsRow .u8 w a len cap zs) : (bytesOf len zs).length = len := by
  rcases h with ⟨rfl, rfl, rfl, rfl⟩ | ⟨x, rfl, hl, hm, hz, hc, hw⟩
  · rfl
  · simp [bytesOf]; omega
theorem bytesOf_at {w : World} {a : Option Addr} {len cap : Nat} {zs : List Int} (h : IsRow .u8 w a len cap zs) (j : Nat) (hj : j < len) : (((bytesOf len zs)[j]?.getD 0 : Nat) : Int) = zs[j]?.getD 0 := by
  rcases h with ⟨rfl, rfl, rfl, rfl⟩ | ⟨x, rfl, hl, hm, hz, hc, hw⟩
  · omega
  · have hjz : j < zs.length := by omega
    have hwf := u8_of_wf (hw zs[j] (List.getElem_mem hjz))
    simp only [bytesOf, List.getElem?_map, List.getElem?_take, hj, if_true, List.getElem?_eq_getElem hjz, Option.map_some, Option.getD_some]
    omega
theorem bytesOf_lt {w : World} {a : Option Addr} {len cap : Nat} {zs : List Int} (h : IsRow .u8 w a len cap zs) (j : Nat) : (bytesOf len zs)[j]?.getD 0 < 256 := by
  have hl := bytesOf_length h
  by_cases hj : j < len
  · rcases h with ⟨rfl, rfl, rfl, rfl⟩ | ⟨x, rfl, hl, hm, hz, hc, hw⟩
    · omega
    · have hjz : j < zs.length := by omega
      have hwf := u8_of_wf (hw zs[j] (List.getElem_mem hjz))
      simp only [bytesOf, List.getElem?_map, List.getElem?_take, hj, if_true, List.getElem?_eq_getElem hjz, Option.map_some, Option.getD_some]
      omega
  · rw [List.getElem?_eq_none (by omega)]; decide


theorem bytes_of_row {w : World} {a : Option Addr} {len cap : Nat} {zs : List Int} (h : IsRow .u8 w a len cap zs) (hr : len ≤ 140737488351232) : ∃ gb off, Bytes w a cap gb off (bytesOf len zs) := by
  obtain ⟨b, off, ha, hc⟩ := row_open h
  have hl := bytesOf_length h
  have hat := bytesOf_at h
  have hlt := bytesOf_lt h
  refine ⟨b, off, ha.imp id (fun e => List.length_eq_zero_iff.1 (by omega)), ?_, fun j hj => by rw [hc j (by omega), hat j (by omega)], hlt, ?_, by omega⟩
  · rcases h with ⟨rfl, rfl, rfl, rfl⟩ | ⟨x, rfl, hl0, hm, hz, hcz, hw⟩
    · exact fun _ => rfl
    · exact fun e => by cases e
  · rcases h with ⟨rfl, rfl, rfl, rfl⟩ | ⟨x, rfl, hl0, hm, hz, hcz, hw⟩
    · omega
    · omega

/-- A slice of int that came in. -/
structure RowZ (w : World) (a : Option Addr) (len b off : Nat) (zs : Nat → Int) : Prop where
  at_ : a = some ⟨b, off, none⟩ ∨ len = 0
  cells : ∀ j, j < len → w.cell? ⟨b, off + j, none⟩ = some (.int .i64 (zs j))
theorem RowZ.keep {w w' : World} {a : Option Addr} {len b off : Nat} {zs : Nat → Int} (h : RowZ w a len b off zs) (hk : Keep noBlock w w') : RowZ w' a len b off zs :=
  ⟨h.at_, fun j hj => (World.cell?_of_block (hk.block b (World.block_lt_of_cell? _ _ (h.cells j hj)) (fun h => h))).trans (h.cells j hj)⟩
theorem rowZ_of {w : World} {a : Option Addr} {len cap : Nat} {zs : List Int} (h : IsRow .i64 w a len cap zs) : ∃ b off, RowZ w a len b off (fun j => zs[j]?.getD 0) := by
  obtain ⟨b, off, ha, hc⟩ := row_open h
  exact ⟨b, off, ha, hc⟩

theorem step_open {H : Type} {enc : TypeId × Value → H} {W : World} {fuel : Nat} {cs : List Value} {x : DataW H × List MemPlace} (h : DataW.trod enc Tryd.prog W 0 (fun _ => true) true fuel 25 cs = some x) :
    ∃ d : Tri, cs = [.int .i64 d.1, .int .i64 d.2.1, .int .i64 d.2.2] ∧ d.2.2 < 9223372036854775808 ∧ d.2.1 < 9223372036854775808 ∧ -9223372036854775808 ≤ d.2.1 := by
  obtain ⟨y0, y1, y2, n, _, hl, h0, h1, h2⟩ := Go.Deep.trod_struct3 Tryd.underlying25 h
  rw [cells25] at hl
  match cs, hl with
  | [c0, c1, c2], _ =>
    simp only [cells3, List.drop_succ_cons, List.drop_zero, List.take_succ_cons, List.take_zero] at h0 h1 h2
    obtain ⟨q0, e0, _, w0⟩ := DataW.trod_int Tryd.underlying3 h0
    obtain ⟨q1, e1, _, w1⟩ := DataW.trod_int Tryd.underlying3 h1
    obtain ⟨q2, e2, _, w2⟩ := DataW.trod_int Tryd.underlying3 h2
    have hb := bounds_i64 w2
    have hb1 := bounds_i64 w1
    simp only [List.cons.injEq, and_true] at e0 e1 e2
    subst e0 e1 e2
    exact ⟨(q0, q1, q2), rfl, by show q2 < 9223372036854775808; omega, by show q1 < 9223372036854775808; omega, by show -9223372036854775808 ≤ q1; omega⟩

theorem add_at (b off j i : Nat) : ((⟨b, off, none⟩ : Addr).add j).add i = ⟨b, off + j + i, none⟩ := by
  rw [Go.Deep.add_add]
  unfold Addr.add
  split <;> simp_all [Nat.add_assoc]

theorem steps_open {H : Type} {enc : TypeId × Value → H} {W : World} {a : Option Addr} {len cap fuel : Nat} {x : DataW H × List MemPlace} (h : DataW.trod enc Tryd.prog W 0 (fun _ => true) true fuel 23 [.slice a len cap] = some x) :
    ∃ (b off : Nat) (ts : List Tri), ts.length = len ∧ RowQ W a cap b off ts := by
  rcases Go.Deep.open_slice Tryd.underlying23 h with ⟨e, _⟩ | ⟨ad, l, c, m, n, D, Pl, e, _, hl, hm, hmm, _, hel⟩
  · simp only [List.cons.injEq, Value.slice.injEq, and_true] at e
    obtain ⟨rfl, rfl, rfl⟩ := e
    exact ⟨0, 0, [], rfl, ⟨.inr rfl, (fun j hj => by simp at hj), fun j => by show (0 : Int) < _; decide⟩⟩
  · simp only [List.cons.injEq, Value.slice.injEq, and_true] at e
    obtain ⟨rfl, rfl, rfl⟩ := e
    simp only [if_true] at hmm
    subst hmm
    have hel2 : ∀ i, i < len → ∃ d : Tri, d.2.2 < 9223372036854775808 ∧ W.cell? (ad.add (i * 3)) = some (.int .i64 d.1) ∧ W.cell? ((ad.add (i * 3)).add 1) = some (.int .i64 d.2.1) ∧ W.cell? ((ad.add (i * 3)).add 2) = some (.int .i64 d.2.2) := by
      intro i hi
      obtain ⟨cs, hc, ht⟩ := hel i (by omega)
      obtain ⟨d, rfl, hd, -⟩ := step_open ht
      rw [cells25] at hc
      obtain ⟨_, _, hcc⟩ := World.cells?_some hc
      have q0 := hcc 0 (by omega)
      have q1 := hcc 1 (by omega)
      have q2 := hcc 2 (by omega)
      have e0 : (ad.add (i * 3)).add 0 = ad.add (i * 3) := by rw [Go.Deep.add_add]; rfl
      rw [e0] at q0
      exact ⟨d, hd, q0, q1, q2⟩
    obtain ⟨f, hf⟩ := Go.Deep.choose_lt hel2
    by_cases h0 : len = 0
    · subst h0
      exact ⟨0, 0, [], rfl, ⟨.inr rfl, (fun j hj => by simp at hj), fun j => by show (0 : Int) < _; decide⟩⟩
    · obtain ⟨b, off, spot⟩ := ad
      have c0 := (hf 0 (by omega)).2.1
      have hspot : spot = none := by simpa [Addr.add] using World.cell?_spot c0
      subst hspot
      have hat : ∀ j, j < len → ((List.range len).map f)[j]?.getD (0, 0, 0) = f j := fun j hj => by
        rw [List.getElem?_map, List.getElem?_range hj]; rfl
      have hlen : ((List.range len).map f).length = len := by simp
      refine ⟨b, off, (List.range len).map f, hlen, ⟨.inl rfl, fun j hj => ?_, fun j => ?_⟩⟩
      · rw [hlen] at hj
        rw [hat j hj]
        obtain ⟨_, p0, p1, p2⟩ := hf j hj
        have e0 : (⟨b, off, none⟩ : Addr).add (j * 3) = ⟨b, off + j * 3, none⟩ := by have := add_at b off (j * 3) 0; rw [Go.Deep.add_add] at this; exact this
        rw [add_at] at p1 p2
        rw [e0] at p0
        exact ⟨p0, p1, p2⟩
      · by_cases hj : j < len
        · rw [hat j hj]; exact (hf j hj).1
        · rw [List.getElem?_eq_none (by omega)]; decide
end Go.Proofs.YtlpibfonpfhakaaDoor
