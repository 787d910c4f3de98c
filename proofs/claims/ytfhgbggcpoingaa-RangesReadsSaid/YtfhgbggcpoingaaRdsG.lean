/-
  RangesReads: the program's decoder and the document's, side by side.
-/
import Derived.Test.YtfhgbggcpoingaaRdn
import Derived.Test.YtfhgbggcpoingaaBckG
namespace Go.Proofs.Ytfhgbggcpoingaa
open Go.RowKit Go.Shelf
set_option linter.unusedVariables false

/-- Both decoders, and the chances of both. -/
structure Pair (w wr : World) (db rb g qb r2 g2 : Nat) (s : Dec × List Nat) : Prop where
  dec : DecG w wr db rb g s
  ref : IsQ wr qb r2 s.1
  chs : Chs wr g2 s.2
  n1 : g ≠ g2
  n2 : rb ≠ qb
  n3 : rb ≠ g2
  n4 : r2 < w.heap.size
  hq : w.heap.size ≤ qb
  hg2 : w.heap.size ≤ g2
theorem Pair.to {w wr W : World} {db rb g qb r2 g2 : Nat} {s : Dec × List Nat} (h : Pair w wr db rb g qb r2 g2 s) (hk : Keep noBlock wr W) : Pair w W db rb g qb r2 g2 s :=
  ⟨h.dec.to hk, h.ref.keep hk (fun h => h) (fun h => h), h.chs.keep hk (fun h => h), h.n1, h.n2, h.n3, h.n4, h.hq, h.hg2⟩
theorem Pair.ne {w wr : World} {db rb g qb r2 g2 : Nat} {s : Dec × List Nat} (h : Pair w wr db rb g qb r2 g2 s) : db ≠ qb ∧ g ≠ qb ∧ g2 ≠ db ∧ g2 ≠ qb ∧ r2 ≠ db ∧ r2 ≠ g ∧ r2 ≠ g2 ∧ db < wr.heap.size ∧ g < wr.heap.size ∧ qb < wr.heap.size ∧ g2 < wr.heap.size := by
  obtain ⟨_, _, _, ho, _⟩ := h.dec.dec.obj
  obtain ⟨_, _, _, ho2, _⟩ := h.ref.obj
  obtain ⟨_, hc1, _⟩ := h.dec.chs.obj
  obtain ⟨_, hc2, _⟩ := h.chs.obj
  have h1 := h.dec.hb
  have h2 := h.dec.hg
  have h3 := h.n4
  have h4 := h.hg2
  exact ⟨ne_of_type ho ho2 (by decide), ne_of_type hc1 ho2 (by decide), ne_of_type hc2 ho (by decide), ne_of_type hc2 ho2 (by decide), by omega, by omega, by omega, obj_lt ho, obj_lt hc1, obj_lt ho2, obj_lt hc2⟩
/-- What both may turn. -/
def PairS (db g qb g2 k : Nat) : Prop := k = db ∨ k = g ∨ k = qb ∨ k = g2
theorem Pair.direct {w wr : World} {db rb g qb r2 g2 : Nat} {s : Dec × List Nat} (h : Pair w wr db rb g qb r2 g2 s) (a : ActD) (ha : 0 < a.many) :
    Calls Try.prog 12 #[.pointer (some ⟨db, 0, none⟩), .int .i64 a.many] wr fun e w1 => e = .returned (.int .u32 (((dirD (bitsN a.many) s.1 0).2 : Nat) : Int)) ∧ Keep (PairS db g qb g2) wr w1 ∧
      Hid (Calls Try.prog 13 #[.pointer (some ⟨qb, 0, none⟩), .int .i64 a.many] w1 fun e w2 => e = .returned (.int .u32 (((dirD (bitsN a.many) s.1 0).2 : Nat) : Int)) ∧ Keep (PairS db g qb g2) wr w2 ∧ Pair w w2 db rb g qb r2 g2 (chD s a)) := by
  obtain ⟨m1, m2, m3, m4, m5, m6, m7, -⟩ := h.ne
  refine (h.dec.direct a ha).mono ?_
  rintro e w1 ⟨rfl, a1, a2⟩
  have k1 : Keep (PairS db g qb g2) wr w1 := a2.mono (fun _ _ q => by
    rcases q with q | q
    · exact .inl q
    · exact .inr (.inl q))
  refine ⟨rfl, k1, (show Calls _ _ _ _ _ from ?_)⟩
  have hq1 := h.ref.keep a2 (fun q => q.elim (fun q => m1 q.symm) (fun q => m2 q.symm)) (fun q => q.elim (fun q => m5 q) (fun q => m6 q))
  have hc1 := h.chs.keep a2 (fun q => q.elim (fun q => m3 q) (fun q => h.n1 q.symm))
  refine (directQ_any qb r2 a.many s.1 w1 hq1).mono ?_
  rintro e w2 ⟨rfl, b1, b2⟩
  have e : chD s a = ((dirD (bitsN a.many) s.1 0).1, s.2) := if_pos ha
  have k2 : Keep (PairS db g qb g2) wr w2 := k1.trans b2 (fun _ _ q => .inr (.inr (.inl q)))
  refine ⟨rfl, k2, ?_⟩
  rw [e] at a1 ⊢
  refine ⟨⟨a1.dec.keep b2 m1 h.n2, a1.chs.keep b2 m2, a1.hb, a1.hg, a1.hr, a1.keep.trans b2 (fun i hi q => by have := h.hq; omega)⟩, b1, hc1.keep b2 m4, h.n1, h.n2, h.n3, h.n4, h.hq, h.hg2⟩
theorem Pair.bit {w wr : World} {db rb g qb r2 g2 m : Nat} {s : Dec × List Nat} (h : Pair w wr db rb g qb r2 g2 s) (a : ActD) (ha : ¬ 0 < a.many) (hsl : s.2.length = m) (hL : 0 < m) (hL2 : m ≤ 300) :
    Calls Try.prog 14 #[.pointer (some ⟨db, 0, none⟩), .pointer (some ⟨g, arndN m a.at_, none⟩)] wr fun e w1 => e = .returned (.int .i64 (bitI (oneD (ordD s.1) (chc s.2 a)))) ∧
      Hid (Calls Try.prog 15 #[.pointer (some ⟨qb, 0, none⟩), .pointer (some ⟨g2, arndN m a.at_, none⟩)] w1 fun e w2 => e = .returned (.int .i64 (bitI (oneD (ordD s.1) (chc s.2 a)))) ∧ Pair w w2 db rb g qb r2 g2 (chD s a)) := by
  subst hsl
  obtain ⟨m1, m2, m3, m4, m5, m6, m7, -⟩ := h.ne
  refine (h.dec.bit a ha hL hL2).mono ?_
  rintro e w1 ⟨rfl, a1, a2⟩
  refine ⟨rfl, (show Calls _ _ _ _ _ from ?_)⟩
  have hq1 := h.ref.keep a2 (fun q => q.elim (fun q => m1 q.symm) (fun q => m2 q.symm)) (fun q => q.elim (fun q => m5 q) (fun q => m6 q))
  have hc1 := h.chs.keep a2 (fun q => q.elim (fun q => m3 q) (fun q => h.n1 q.symm))
  obtain ⟨cs, h1, h2⟩ := hc1.obj
  obtain ⟨_, _, _, _, _, hlt, _⟩ := arnd_parts s.2.length a.at_ hL hL2
  refine (bitQ_any qb r2 g2 (arndN s.2.length a.at_) (s.2[arndN s.2.length a.at_]?.getD 0) cs s.1 w1 hq1 h1 (h2 _ hlt) (hc1.lt _) m7).mono ?_
  rintro e w2 ⟨rfl, b1, b2, b3⟩
  have e : chD s a = (narD (ordD s.1) (chc s.2 a), s.2.set (arndN s.2.length a.at_) (learnN (chc s.2 a) (oneD (ordD s.1) (chc s.2 a)))) := if_neg ha
  have hb := learnN_bd (oneD (ordD s.1) (chc s.2 a)) (chc_bd s.2 a).1 (chc_bd s.2 a).2
  rw [e] at a1 ⊢
  refine ⟨rfl, ⟨a1.dec.keep b3 ?_ ?_, a1.chs.keep b3 ?_, a1.hb, a1.hg, a1.hr, a1.keep.trans b3 (fun i hi q => ?_)⟩, b1, Chs.set b2 h2 hc1.lt (by have := hb.2; unfold chc at this; omega), h.n1, h.n2, h.n3, h.n4, h.hq, h.hg2⟩
  · rintro (q | q)
    · exact m1 q
    · exact m3 q.symm
  · rintro (q | q)
    · exact h.n2 q
    · exact h.n3 q
  · rintro (q | q)
    · exact m2 q
    · exact h.n1 q
  · have := h.hq
    have := h.hg2
    rcases q with q | q <;> omega
theorem Pair.done {w wr : World} {db rb g qb r2 g2 : Nat} {s : Dec × List Nat} (h : Pair w wr db rb g qb r2 g2 s) :
    Calls Try.prog 16 #[.pointer (some ⟨db, 0, none⟩)] wr fun e w1 => e = .returned (.tuple #[.int .i64 ((endL (ordD s.1) : Nat) : Int), .int .i64 ((endE (ordD s.1) : Nat) : Int)]) ∧
      Hid (Calls Try.prog 17 #[.pointer (some ⟨qb, 0, none⟩)] w1 fun e w2 => e = .returned (.tuple #[.int .i64 ((endL (ordD s.1) : Nat) : Int), .int .i64 ((endE (ordD s.1) : Nat) : Int)]) ∧ Keep noBlock w w2) := by
  obtain ⟨m1, m2, m3, m4, m5, m6, m7, -⟩ := h.ne
  refine (end_any db rb s.1 wr h.dec.dec).mono ?_
  rintro e w1 ⟨rfl, a1, a2⟩
  refine ⟨rfl, (show Calls _ _ _ _ _ from ?_)⟩
  have hq1 := h.ref.keep a2 (fun q => m1 q.symm) (fun q => m5 q)
  refine (endQ_any qb r2 s.1 w1 hq1).mono ?_
  rintro e w2 ⟨rfl, b1, b2⟩
  exact ⟨rfl, (h.dec.keep.trans a2 (fun i hi q => by have := h.dec.hb; omega)).trans b2 (fun i hi q => by have := h.hq; omega)⟩

/-- A row of bytes of one's own, whatever they are. -/
structure Own8 (w : World) (g n : Nat) : Prop where
  obj : ∃ cur, w.heap[g]? = some (.cells cur 5 (0, 0)) ∧ ∀ j, j < n → ∃ y : Nat, y < 256 ∧ cur[j]? = some (.int .u8 (y : Int))
theorem not_u8 (y : Nat) (hy : y < 256) : bits .xor .u8 IntKind.u8.max (y : Int) = ((255 ^^^ y : Nat) : Int) := by
  have h := u8_xor_nat 255 y (by decide) hy
  exact h
theorem Own8.step {w : World} {g n : Nat} (h : Own8 w g n) (j : Nat) (hj : j < n) : ∃ y z : Nat, w.cell? ⟨g, j, none⟩ = some (.int .u8 (y : Int)) ∧ w.frozen? ⟨g, j, none⟩ = false ∧ bits .xor .u8 (if IntKind.u8.signed = true then -1 else IntKind.u8.max) (y : Int) = (z : Int) ∧ Own8 (w.setCell ⟨g, j, none⟩ (.int .u8 (z : Int))) g n ∧ y < 256 := by
  obtain ⟨cur, h1, h2⟩ := h.obj
  obtain ⟨y, hy, hc⟩ := h2 j hj
  refine ⟨y, 255 ^^^ y, (cell_of h1 j).trans hc, frozen_of h1 j, not_u8 y hy, ⟨⟨_, set_obj h1 j _, fun i hi => ?_⟩⟩, hy⟩
  rw [Array.getElem?_setIfInBounds]
  split
  · rename_i e
    subst e
    rw [if_pos (Array.getElem?_eq_some_iff.1 hc).1]
    exact ⟨255 ^^^ y, Nat.xor_lt_two_pow (n := 8) (by decide) hy, rfl⟩
  · exact h2 i hi

end Go.Proofs.Ytfhgbggcpoingaa
