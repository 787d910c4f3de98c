/-
  The document's state: new, all chances even.
-/
import Derived.Test.YtinhlkioeadfdaaBck
import Derived.Test.YtinhlkioeadfdaaByt
namespace Go.Proofs.Ytinhlkioeadfdaa
open Go.RowKit Go.Shelf
set_option linter.unusedVariables false

/-- Cells that were made even, from o on, n of them. -/
structure EvA (cs cs' : Array Value) (o n : Nat) : Prop where
  size : cs'.size = cs.size
  in_ : ∀ i, o ≤ i → i < o + n → cs'[i]? = some (.int .u16 1024)
  out : ∀ i, (i < o ∨ o + n ≤ i) → cs'[i]? = cs[i]?
set_option maxHeartbeats 1000000 in
theorem even_any (kb o n cap : Nat) (t : TypeId) (cs : Array Value) (w : World) (h : w.heap[kb]? = some (.cells cs t (0, 0))) (hn : o + n ≤ cs.size) (hn2 : n < 2 ^ 40) :
    Calls Try.prog 28 #[.slice (some ⟨kb, o, none⟩) n cap] w fun e w' => e = .returned (.tuple #[]) ∧ ∃ cs', w'.heap[kb]? = some (.cells cs' t (0, 0)) ∧ EvA cs cs' o n ∧ Keep (fun k => k = kb) w w' := by
  have HI := hid h
  have HN := hid hn
  have hn3 : (n : Int) < 1099511627776 := by omega
  clear h hn
  go_enter Try.func28, Try.ntmps28
  go_wp2_with fail
  go_loopw [2] (fun i wr => ∃ j : Nat, i = .int .i64 j ∧ j ≤ n ∧ Hid (∃ cs', wr.heap[kb]? = some (.cells cs' t (0, 0)) ∧ EvA cs cs' o j ∧ Keep (fun k => k = kb) w wr)) (fun i _ => n - (intOf i).toNat)
  case atStart => exact ⟨0, rfl, by omega, (show ∃ cs', _ from ⟨cs, HI.out, ⟨rfl, fun i h1 h2 => by omega, fun i _ => rfl⟩, Keep.refl _ _⟩)⟩
  case round =>
    obtain ⟨j, rfl, hj, HQ⟩ := hrel
    by_cases hlt : j < n
    · have hltI : (j : Int) < (n : Int) := by omega
      obtain ⟨c2, q1, q2, q3⟩ := HQ.out
      have hsz : o + j < c2.size := by have := q2.size; have := HN.out; omega
      have x1 : wr.cell? ⟨kb, o + j, none⟩ = some c2[o + j] := (cell_of q1 (o + j)).trans (Array.getElem?_eq_getElem hsz)
      have x2 := frozen_of q1 (o + j)
      have HG := (show Hid (∃ cs', (wr.setCell ⟨kb, o + j, none⟩ (.int .u16 1024)).heap[kb]? = some (.cells cs' t (0, 0)) ∧ EvA cs cs' o (j + 1) ∧ Keep (fun k => k = kb) w (wr.setCell ⟨kb, o + j, none⟩ (.int .u16 1024))) from by
        refine ⟨_, set_obj q1 (o + j) _, ⟨by rw [Array.size_setIfInBounds]; exact q2.size, fun i h1 h2 => ?_, fun i hi => ?_⟩, q3.setCell (p := ⟨kb, o + j, none⟩) (fun _ => rfl) _⟩
        · rw [Array.getElem?_setIfInBounds]
          split
          · first | rfl | rw [if_pos (by omega)]
          · exact q2.in_ i h1 (by omega)
        · rw [Array.getElem?_setIfInBounds, if_neg (by omega)]
          exact q2.out i (by omega))
      generalize c2[o + j] = vv at *
      clear q1 q2 q3 HQ hsz
      go_wp2_with fail
      go_roundw
      case rel => exact ⟨j + 1, by go_num, by omega, HG⟩
      case measure => simp [intOf]; omega
    · have hltI : ¬ (j : Int) < (n : Int) := by omega
      obtain rfl : j = n := by omega
      go_wp2_with fail
      go_end0
      exact ⟨rfl, HQ.out⟩
/-- The document's state, its first chances even up to number j. -/
structure Qr (w W : World) (qb j : Nat) : Prop where
  obj : ∃ cs, W.heap[qb]? = some (.cells cs 90 (0, 0)) ∧ cs.size = 1869 ∧ cs[0]? = some (.int .i64 3) ∧ cs[1]? = some (.int .i64 0) ∧ ∀ i, 8 ≤ i → i < 8 + j → cs[i]? = some (.int .u16 1024)
  kp : Keep (fun k => k = qb) w W
theorem Qr.even {w W : World} {qb j : Nat} (h : Qr w W qb j) (hj : j ≤ 192) (o n cap : Nat) (ho : 8 ≤ o) (hn : o + n ≤ 1869) (j' : Nat) (hj' : j' = j ∨ (o = 8 + j ∧ j' = j + n)) :
    Calls Try.prog 28 #[.slice (some ⟨qb, o, none⟩) n cap] W fun e W' => e = .returned (.tuple #[]) ∧ Qr w W' qb j' := by
  obtain ⟨cs, q1, q2, q3, q4, q5⟩ := h.obj
  refine (even_any qb o n cap 90 cs W q1 (by omega) (by omega)).mono ?_
  rintro e W' ⟨rfl, cs', r1, r2, r3⟩
  refine ⟨rfl, ⟨cs', r1, r2.size.trans q2, (r2.out 0 (.inl (by omega))).trans q3, (r2.out 1 (.inl (by omega))).trans q4, fun i h1 h2 => ?_⟩, h.kp.trans' r3⟩
  by_cases hi : o ≤ i ∧ i < o + n
  · exact r2.in_ i hi.1 hi.2
  · rw [r2.out i (by omega)]
    exact q5 i h1 (by omega)
theorem Qr.set {w W : World} {qb j : Nat} (h : Qr w W qb j) (i : Nat) (v : Value) (hi : i = 3 ∨ i = 4 ∨ i = 5 ∨ i = 6 ∨ i = 7 ∨ (8 ≤ i ∧ v = .int .u16 1024) ∨ i = 1868) (hj : j ≤ 192) : Qr w (W.setCell ⟨qb, i, none⟩ v) qb j := by
  obtain ⟨cs, q1, q2, q3, q4, q5⟩ := h.obj
  refine ⟨⟨_, set_obj q1 i v, by rw [Array.size_setIfInBounds]; exact q2, ?_, ?_, fun k h1 h2 => ?_⟩, h.kp.setCell (p := ⟨qb, i, none⟩) (fun _ => rfl) _⟩
  · rw [Array.getElem?_setIfInBounds, if_neg (by omega)]; exact q3
  · rw [Array.getElem?_setIfInBounds, if_neg (by omega)]; exact q4
  · rw [Array.getElem?_setIfInBounds]
    split
    · rename_i e
      subst e
      rw [if_pos (by omega)]
      rcases hi with e | e | e | e | e | e | e
      · omega
      · omega
      · omega
      · omega
      · omega
      · rw [e.2]
      · omega
    · exact q5 k h1 h2
theorem Qr.cell {w W : World} {qb j : Nat} (h : Qr w W qb j) (i : Nat) (hi : i < 1869) : ∃ v, W.cell? ⟨qb, i, none⟩ = some v := by
  obtain ⟨cs, q1, q2, -⟩ := h.obj
  exact ⟨cs[i]'(by omega), (cell_of q1 i).trans (Array.getElem?_eq_getElem (by omega))⟩
theorem Qr.fro {w W : World} {qb j : Nat} (h : Qr w W qb j) (i : Nat) : W.frozen? ⟨qb, i, none⟩ = false := by
  obtain ⟨cs, q1, -⟩ := h.obj
  exact frozen_of q1 i
theorem Qr.kept {w W W' : World} {qb j : Nat} (h : Qr w W qb j) (hk : Keep noBlock W W') : Qr w W' qb j := by
  obtain ⟨cs, q1, q2⟩ := h.obj
  exact ⟨⟨cs, hk.obj q1 (fun h => h), q2⟩, h.kp.trans hk (fun _ _ h => h.elim)⟩

set_option maxHeartbeats 2000000 in
theorem qlen_any (w : World) (qb L : Nat) (W : World) (h : Qr w W qb 192) (h8 : 840 ≤ L) (hL : L + 514 ≤ 1868) :
    Calls Try.prog 29 #[.pointer (some ⟨qb, L, none⟩)] W fun e W' => e = .returned (.tuple #[]) ∧ Qr w W' qb 192 := by
  obtain ⟨v1, c1⟩ := h.cell L (by omega)
  have f1 := h.fro L
  have h1 := h.set L (.int .u16 1024) (.inr (.inr (.inr (.inr (.inr (.inl ⟨by omega, rfl⟩)))))) (by omega)
  obtain ⟨v2, c2⟩ := h1.cell (L + 1) (by omega)
  have f2 := h1.fro (L + 1)
  have H2 := hid (h1.set (L + 1) (.int .u16 1024) (.inr (.inr (.inr (.inr (.inr (.inl ⟨by omega, rfl⟩)))))) (by omega))
  clear h h1
  go_enter Try.func29, Try.ntmps29
  go_wp2_with fail
  go_loopw [2] (fun i wr => ∃ j : Nat, i = .int .i64 j ∧ j ≤ 16 ∧ Hid (Qr w wr qb 192)) (fun i _ => 16 - (intOf i).toNat)
  case atStart => exact ⟨0, rfl, by omega, H2⟩
  case round =>
    obtain ⟨j, rfl, hj, HQ⟩ := hrel
    by_cases hlt : j < 16
    · have hltI : (j : Int) < 16 := by omega
      have HA := hid (HQ.out.even (by omega) (L + 2 + j * 8) 8 8 (by omega) (by omega) 192 (.inl rfl))
      clear HQ
      go_wp2_with fail
      refine HA.out.mono ?_
      rintro e w3 ⟨rfl, r3⟩
      have HB := hid (r3.even (by omega) (L + 130 + j * 8) 8 8 (by omega) (by omega) 192 (.inl rfl))
      clear r3 HA
      go_wp2_with fail
      refine HB.out.mono ?_
      rintro e w4 ⟨rfl, r4⟩
      have H4 := hid r4
      clear r4 HB
      go_wp2_with fail
      go_roundw
      case rel => exact ⟨j + 1, by go_num, by omega, H4⟩
      case measure => simp [intOf]; omega
    · have hltI : ¬ (j : Int) < 16 := by omega
      obtain rfl : j = 16 := by omega
      have HA := hid (HQ.out.even (by omega) (L + 258) 256 256 (by omega) (by omega) 192 (.inl rfl))
      clear HQ
      go_wp2_with fail
      refine HA.out.mono ?_
      rintro e w3 ⟨rfl, r3⟩
      have H3 := hid r3
      clear r3 HA
      go_wp2_with fail
      go_end0
      exact ⟨rfl, H3.out⟩

end Go.Proofs.Ytinhlkioeadfdaa
