/-
  right: do steps tell a text? Of the steps that do.
  Steps of a text, as they are found, make the text.
  Parts of a text, as they lie; which settings may be; a number brought into a bound.
  An encoder, a decoder in the same state, its window: chunk behind chunk.
-/
import Derived.Test.YtnokemcogjoonaaGreatDoorPutP3
import Derived.Test.YtnokemcogjoonaaGreatDoorPutP12
import Derived.Test.YtnokemcogjoonaaGreatDoorPutP13
import Derived.Test.YtnokemcogjoonaaGreatDoorPutP16
import Derived.Test.YtnokemcogjoonaaGreatDoorPutP22
namespace Go.Proofs.YtnokemcogjoonaaGreatDoor.Fd
open Go.RowKit Go.Shelf
set_option linter.unusedVariables false

/-- Steps as numbers that may be below 0. -/
def triI (L : List Trip) : List Tri := L.map (fun t => ((t.1 : Int), (t.2.1 : Int), (t.2.2 : Int)))
theorem triI_length (L : List Trip) : (triI L).length = L.length := by simp [triI]
theorem triI_at (L : List Trip) (j : Nat) (hj : j < L.length) : (triI L)[j]?.getD (0, 0, 0) = (((L[j]?.getD (0, 0, 0)).1 : Int), ((L[j]?.getD (0, 0, 0)).2.1 : Int), ((L[j]?.getD (0, 0, 0)).2.2 : Int)) := by simp [triI, hj]
theorem RightL.small {c : Cf} (hn : c.bs.length < 65536) : ∀ {L : List Trip} {p : Nat}, RightL c p L → ∀ t ∈ L, t.1 < 65536 ∧ t.2.1 < 65536 ∧ t.2.2 < 65536
  | [], p, h, t, ht => by cases ht
  | (l, m, b) :: r, p, h, t, ht => by
    rcases h with ⟨q1, q2, q3, q4, q5⟩ | ⟨q1, q2⟩
    · subst q2
      have : t = (l, m, b) := by simpa using ht
      subst this
      exact ⟨by show l < 65536; omega, by show m < 65536; omega, by show b < 65536; omega⟩
    · rcases List.mem_cons.1 ht with e | e
      · subst e
        have h1 := q1.fin; have h2 := q1.ba
        exact ⟨by show l < 65536; omega, by show m < 65536; omega, by show b < 65536; omega⟩
      · exact RightL.small hn q2 t e
theorem ownsQ_row {w : World} {v : Value} {L : List Trip} (h : ownsQ w v L) (hs : ∀ t ∈ L, t.2.2 < 65536) : ∃ a cap g, v = .slice a L.length cap ∧ RowQ w a cap g 0 (triI L) ∧ (v.ownBlock = some g ∨ L = []) := by
  have hb : ∀ j : Nat, ((triI L)[j]?.getD (0, 0, 0)).2.2 < 9223372036854775808 := fun j => by
    by_cases hj : j < L.length
    · rw [triI_at L j hj]
      have := hs (L[j]?.getD (0, 0, 0)) (by rw [List.getElem?_eq_getElem hj]; exact List.getElem_mem hj)
      show (((L[j]?.getD (0, 0, 0)).2.2 : Nat) : Int) < 9223372036854775808
      omega
    · rw [List.getElem?_eq_none (by rw [triI_length]; omega)]; decide
  rcases h.2 with ⟨e, h0⟩ | ⟨g, cap, cur, e, _, hg, h1, h2, h3, h4⟩
  · have : L = [] := List.length_eq_zero_iff.1 h0
    subst this
    exact ⟨none, 0, 0, e, ⟨.inr rfl, fun j hj => by simp [triI] at hj, hb⟩, .inr rfl⟩
  · subst e
    refine ⟨some ⟨g, 0, none⟩, cap, g, rfl, ⟨.inl rfl, fun j hj => ?_, hb⟩, .inl rfl⟩
    rw [triI_length] at hj
    rw [triI_at L j hj]
    obtain ⟨q1, q2, q3⟩ := seqs_at L j hj
    have e : ∀ k, k < L.length * 3 → cur[k]? = (seqs L)[k]? := fun k hk => by
      rw [← h4, List.getElem?_take, if_pos hk, Array.getElem?_toList]
    refine ⟨?_, ?_, ?_⟩
    · rw [cell_of hg, Nat.zero_add, e _ (by omega)]; exact q1
    · rw [cell_of hg, Nat.zero_add, e _ (by omega)]; exact q2
    · rw [cell_of hg, Nat.zero_add, e _ (by omega)]; exact q3


end Go.Proofs.YtnokemcogjoonaaGreatDoor.Fd

namespace Go.Proofs.YtnokemcogjoonaaGreatDoor
set_option linter.unusedVariables false

theorem take_eq {T : List Nat} {i k m : Nat} (h1 : i + m ≤ T.length) (h2 : k + m ≤ T.length) (h : ∀ j, j < m → byteT T (i + j) = byteT T (k + j)) : (T.drop i).take m = (T.drop k).take m := by
  refine getD_ext (by rw [List.length_take, List.length_take, List.length_drop, List.length_drop]; omega) fun j hj => ?_
  rw [List.length_take, List.length_drop] at hj
  rw [List.getElem?_take, if_pos (by omega), List.getElem?_take, if_pos (by omega), List.getElem?_drop, List.getElem?_drop]
  exact h j (by omega)
theorem right_made {T : List Nat} {win : Nat} : ∀ {L : List Fd.Trip} {p : Nat}, Fd.RightL (Fd.cf0 T win 2 273) p L → madeB T (Fd.triI L) p = true
  | [], p, h => by
    have e : p = T.length := h
    show decide (p = T.length) = true
    exact decide_eq_true e
  | (l, m, b) :: r, p, h => by
    show (okStep T p ((l : Int), (m : Int), (b : Int)) && madeB T (Fd.triI r) (p + ((l : Int)).toNat + ((m : Int)).toNat)) = true
    rw [Int.toNat_natCast, Int.toNat_natCast]
    rcases h with ⟨q1, q2, q3, q4, q5⟩ | ⟨q1, q2⟩
    · subst q2
      subst q1
      have q5 : p + l = T.length := q5
      have e1 : madeB T (Fd.triI []) (p + l + 0) = true := decide_eq_true (by omega)
      rw [e1, Bool.and_true]
      unfold okStep
      simp only [Bool.and_eq_true, decide_eq_true_eq, Bool.or_eq_true, Bool.not_eq_true', decide_eq_false_iff_not]
      exact ⟨by omega, by omega, by omega, by omega, .inl (by omega)⟩
    · rw [right_made q2, Bool.and_true]
      have f1 : 2 ≤ m := q1.lo
      have f2 : m ≤ 273 := q1.hi
      have f3 : p + l + m ≤ T.length := q1.fin
      have f4 := q1.b1
      have f5 := q1.ba
      have f6 : ∀ i, i < m → byteT T (p + l + i) = byteT T (p + l - b + i) := q1.same
      unfold okStep
      simp only [Bool.and_eq_true, decide_eq_true_eq, Bool.or_eq_true, Bool.not_eq_true', decide_eq_false_iff_not, Int.toNat_natCast]
      refine ⟨by omega, by omega, by omega, by omega, .inr ⟨by omega, by omega, ?_⟩⟩
      unfold standN
      simp only [Bool.and_eq_true, decide_eq_true_eq, Int.toNat_natCast]
      exact ⟨by omega, by omega, by omega, take_eq (by omega) (by omega) f6⟩
theorem bytes_fd {w : World} {a : Option Addr} {cap gb off : Nat} {bs : List Nat} (h : Bytes w a cap gb off bs) : Fd.Bytes w a cap gb off bs := ⟨h.at_, h.nil, h.cells, h.lt, h.cap, h.len⟩
/-- Parse, of a row of bytes: steps that make it from a place on, in new memory. -/
theorem parse_made (a : Option Addr) (cap gb off : Nat) (bs : List Nat) (F : Nat) (level : Int) (w : World) (hD : Fd.Dep w) (hB : Bytes w a cap gb off bs) (hn : bs.length < 65536) (hF : F ≤ bs.length) :
    Calls Tryz.prog 14 #[.slice a bs.length cap, .int .i64 (F : Int), .int .i64 level, .int .i64 16384, .int .i64 2, .int .i64 273] w fun e w' => ∃ la lc lg ts, e = .returned (.slice la (List.length ts) lc) ∧ Fd.RowQ w' la lc lg 0 ts ∧ (ts ≠ [] → w.heap.size ≤ lg) ∧ madeB bs ts F = true ∧ ts.length ≤ bs.length + 1 ∧ Keep noBlock w w' := by
  obtain ⟨lv, hlv⟩ : ∃ lv : Nat, Fd.bringN level 0 3 = (lv : Int) := ⟨(Fd.bringN level 0 3).toNat, by unfold Fd.bringN; omega⟩
  refine (Fd.parse_any a cap gb off bs (F : Int) level 16384 2 273 F lv 16384 2 273 w hD (bytes_fd hB) hn (by unfold Fd.bringN; omega) hlv (by decide) (by decide) (by decide)).mono ?_
  rintro e w1 ⟨⟨v, L, rfl, own, hnew, hP⟩, k1⟩
  obtain ⟨la, lc, lg, rfl, hQ, hg⟩ := Fd.ownsQ_row own (fun t ht => (hP.right.small hn t ht).2.2)
  refine ⟨la, lc, lg, Fd.triI L, ?_, hQ, fun hne => ?_, right_made hP.right, ?_, k1⟩
  · rw [Fd.triI_length]
  · rcases hg with e | e
    · exact hnew lg e
    · exact absurd (by rw [e]; rfl) hne
  · rw [Fd.triI_length]; exact hP.len

end Go.Proofs.YtnokemcogjoonaaGreatDoor

namespace Go.Proofs.YtnokemcogjoonaaGreatDoor.Pt
open Go.RowKit Go.Shelf
set_option linter.unusedVariables false

abbrev Prt := Int × Int × Bool
/-- The slice reads as parts. -/
structure RowP (w : World) (a : Option Addr) (cap gb off : Nat) (ps : List Prt) : Prop where
  at_ : a = some (⟨gb, off, none⟩ : Addr) ∨ ps = []
  cells : ∀ j, j < ps.length → w.cell? ⟨gb, off + j * 3, none⟩ = some (.int .i64 (ps[j]?.getD (0, 0, false)).1) ∧ w.cell? ⟨gb, off + j * 3 + 1, none⟩ = some (.int .i64 (ps[j]?.getD (0, 0, false)).2.1) ∧ w.cell? ⟨gb, off + j * 3 + 2, none⟩ = some (.bool (ps[j]?.getD (0, 0, false)).2.2)
theorem RowP.block {w : World} {a : Option Addr} {cap gb off : Nat} {ps : List Prt} (h : RowP w a cap gb off ps) (hb : ps ≠ []) : gb < w.heap.size :=
  World.block_lt_of_cell? w ⟨gb, off + 0 * 3, none⟩ (h.cells 0 (List.length_pos_iff.2 hb)).1
theorem RowP.keep {w w' : World} {a : Option Addr} {cap gb off : Nat} {ps : List Prt} (h : RowP w a cap gb off ps) (hk : Keep noBlock w w') : RowP w' a cap gb off ps :=
  ⟨h.at_, fun j hj => by
    have hne : ps ≠ [] := by rintro rfl; simp at hj
    have e := hk.block gb (h.block hne) (fun h => h)
    obtain ⟨q1, q2, q3⟩ := h.cells j hj
    exact ⟨(World.cell?_of_block e).trans q1, (World.cell?_of_block e).trans q2, (World.cell?_of_block e).trans q3⟩⟩
theorem RowP.here {w : World} {a : Option Addr} {cap gb off : Nat} {ps : List Prt} (h : RowP w a cap gb off ps) {i : Nat} (hi : i < ps.length) : a = some ⟨gb, off, none⟩ := by
  rcases h.at_ with h | h
  · exact h
  · rw [h] at hi; simp at hi
/-- A number brought into 0 to 1999. -/
theorem arnd2 (a : Int) : ∃ (r : Int) (s q : Nat), a.tmod 2000 = r ∧ r + 2000 = (s : Int) ∧ (s : Int) % 2000 = (q : Int) ∧ q < 2000 ∧ -2000 < r ∧ r < 2000 ∧ s < 4000 := by
  have h1 : -(2000 : Int) < a.tmod 2000 := by
    have h := Int.natAbs_tmod a 2000
    have h' := Nat.mod_lt a.natAbs (show 0 < (2000 : Int).natAbs by decide)
    rw [← h] at h'
    have : (2000 : Int).natAbs = 2000 := rfl
    omega
  have h2 : a.tmod 2000 < 2000 := Int.tmod_lt_of_pos _ (by omega)
  refine ⟨a.tmod 2000, (a.tmod 2000 + 2000).toNat, (a.tmod 2000 + 2000).toNat % 2000, rfl, by omega, by omega, by omega, by omega, by omega, by omega⟩
set_option maxHeartbeats 2000000 in
theorem set_any (lc lp pb : Int) (w : World) : Calls Tryz.prog 7 #[.int .i64 lc, .int .i64 lp, .int .i64 pb] w fun e w' => e = .returned (.bool (okSet lc lp pb)) ∧ w' = w := by
  by_cases c1 : 0 ≤ lc
  rotate_left
  · have c1d : decide (0 ≤ lc) = false := decide_eq_false c1
    have hO : okSet lc lp pb = false := by
      cases h : okSet lc lp pb with
      | false => rfl
      | true =>
        unfold okSet at h
        simp only [Bool.and_eq_true, decide_eq_true_eq] at h
        omega
    rw [hO]
    clear hO
    go_enter Tryz.func7, Tryz.ntmps7
    go_wp2_with fail
    go_ret
    exact ⟨rfl, rfl⟩
  have c1d : decide (0 ≤ lc) = true := decide_eq_true c1
  by_cases c2 : 0 ≤ lp
  rotate_left
  · have c2d : decide (0 ≤ lp) = false := decide_eq_false c2
    have hO : okSet lc lp pb = false := by
      cases h : okSet lc lp pb with
      | false => rfl
      | true =>
        unfold okSet at h
        simp only [Bool.and_eq_true, decide_eq_true_eq] at h
        omega
    rw [hO]
    clear hO
    go_enter Tryz.func7, Tryz.ntmps7
    go_wp2_with fail
    go_ret
    exact ⟨rfl, rfl⟩
  have c2d : decide (0 ≤ lp) = true := decide_eq_true c2
  by_cases c3 : 0 ≤ pb
  rotate_left
  · have c3d : decide (0 ≤ pb) = false := decide_eq_false c3
    have hO : okSet lc lp pb = false := by
      cases h : okSet lc lp pb with
      | false => rfl
      | true =>
        unfold okSet at h
        simp only [Bool.and_eq_true, decide_eq_true_eq] at h
        omega
    rw [hO]
    clear hO
    go_enter Tryz.func7, Tryz.ntmps7
    go_wp2_with fail
    go_ret
    exact ⟨rfl, rfl⟩
  have c3d : decide (0 ≤ pb) = true := decide_eq_true c3
  by_cases c4 : lc ≤ 4
  rotate_left
  · have c4d : decide (lc ≤ 4) = false := decide_eq_false c4
    have hO : okSet lc lp pb = false := by
      cases h : okSet lc lp pb with
      | false => rfl
      | true =>
        unfold okSet at h
        simp only [Bool.and_eq_true, decide_eq_true_eq] at h
        omega
    rw [hO]
    clear hO
    go_enter Tryz.func7, Tryz.ntmps7
    go_wp2_with fail
    go_ret
    exact ⟨rfl, rfl⟩
  have c4d : decide (lc ≤ 4) = true := decide_eq_true c4
  by_cases c5 : lp ≤ 4
  rotate_left
  · have c5d : decide (lp ≤ 4) = false := decide_eq_false c5
    have hO : okSet lc lp pb = false := by
      cases h : okSet lc lp pb with
      | false => rfl
      | true =>
        unfold okSet at h
        simp only [Bool.and_eq_true, decide_eq_true_eq] at h
        omega
    rw [hO]
    clear hO
    go_enter Tryz.func7, Tryz.ntmps7
    go_wp2_with fail
    go_ret
    exact ⟨rfl, rfl⟩
  have c5d : decide (lp ≤ 4) = true := decide_eq_true c5
  by_cases c6 : lc + lp ≤ 4
  rotate_left
  · have c6d : decide (lc + lp ≤ 4) = false := decide_eq_false c6
    have hO : okSet lc lp pb = false := by
      cases h : okSet lc lp pb with
      | false => rfl
      | true =>
        unfold okSet at h
        simp only [Bool.and_eq_true, decide_eq_true_eq] at h
        omega
    rw [hO]
    clear hO
    have hw : IntKind.i64.wrap (lc + lp) = lc + lp := by rw [IntKind.wrap_i64]; omega
    go_enter Tryz.func7, Tryz.ntmps7
    go_wp2_with fail
    go_ret
    exact ⟨rfl, rfl⟩
  have c6d : decide (lc + lp ≤ 4) = true := decide_eq_true c6
  by_cases c7 : pb ≤ 4
  rotate_left
  · have c7d : decide (pb ≤ 4) = false := decide_eq_false c7
    have hO : okSet lc lp pb = false := by
      cases h : okSet lc lp pb with
      | false => rfl
      | true =>
        unfold okSet at h
        simp only [Bool.and_eq_true, decide_eq_true_eq] at h
        omega
    rw [hO]
    clear hO
    have hw : IntKind.i64.wrap (lc + lp) = lc + lp := by rw [IntKind.wrap_i64]; omega
    go_enter Tryz.func7, Tryz.ntmps7
    go_wp2_with fail
    go_ret
    exact ⟨rfl, rfl⟩
  have c7d : decide (pb ≤ 4) = true := decide_eq_true c7
  have hO : okSet lc lp pb = true := by
    unfold okSet
    simp only [Bool.and_eq_true, decide_eq_true_eq]
    omega
  rw [hO]
  clear hO
  have hw : IntKind.i64.wrap (lc + lp) = lc + lp := by rw [IntKind.wrap_i64]; omega
  go_enter Tryz.func7, Tryz.ntmps7
  go_wp2_with fail
  go_ret
  exact ⟨rfl, rfl⟩

end Go.Proofs.YtnokemcogjoonaaGreatDoor.Pt

namespace Go.Proofs.YtnokemcogjoonaaGreatDoor.Pt
open Go.RowKit Go.Shelf
set_option linter.unusedVariables false

structure Bkw (w W : World) (sb db wb lb : Nat) (s : Se) (c : Nat → Nat) (rv : Value) (win : List Nat) : Prop where
  en : IsS W sb s c
  de : Go.Proofs.YtnokemcogjoonaaGreatDoor.IsS W db s c
  wi : IsW W wb lb 16384 rv win
  kp : Keep noBlock w W
  n1 : w.heap.size ≤ sb
  n2 : w.heap.size ≤ db
  n3 : w.heap.size ≤ wb
  n4 : ∀ k, rv.ownBlock = some k → w.heap.size ≤ k
  low : s.ph < 7
theorem Bkw.ne {w W : World} {sb db wb lb : Nat} {s : Se} {c : Nat → Nat} {rv : Value} {win : List Nat} (h : Bkw w W sb db wb lb s c rv win) : sb ≠ db ∧ sb ≠ wb ∧ rv.ownBlock ≠ some sb ∧ db ≠ wb ∧ rv.ownBlock ≠ some db := by
  obtain ⟨cs, ho, -⟩ := h.de.obj
  obtain ⟨cs2, ho2, -⟩ := h.en.obj
  obtain ⟨R, o, hr, -⟩ := h.wi
  exact ⟨h.en.ne ho (by decide), h.en.ne hr.obj (by decide), owns_ne hr.own ho2 (by decide), h.de.ne hr.obj (by decide), owns_ne hr.own ho (by decide)⟩
theorem Bkw.keep {w W W' : World} {sb db wb lb : Nat} {s : Se} {c : Nat → Nat} {rv : Value} {win : List Nat} (h : Bkw w W sb db wb lb s c rv win) (k : Keep noBlock W W') : Bkw w W' sb db wb lb s c rv win :=
  ⟨h.en.keep k (fun h => h), h.de.keep k (fun h => h), h.wi.keep k (fun h => h) (fun _ _ h => h), h.kp.trans' k, h.n1, h.n2, h.n3, h.n4, h.low⟩
/-- Behind a reset of both. -/
theorem Bkw.reset {w W W1 W2 : World} {sb db wb lb : Nat} {s : Se} {c : Nat → Nat} {rv : Value} {win : List Nat} (h : Bkw w W sb db wb lb s c rv win) (e1 : IsS W1 sb (newS s.lc s.lp s.pb) (fun _ => 1024)) (k1 : Keep (fun k => k = sb) W W1) (e2 : Go.Proofs.YtnokemcogjoonaaGreatDoor.IsS W2 db (newS s.lc s.lp s.pb) (fun _ => 1024)) (k2 : Keep (fun k => k = db) W1 W2) :
    Bkw w W2 sb db wb lb (newS s.lc s.lp s.pb) (fun _ => 1024) rv win := by
  obtain ⟨d1, d2, d3, d4, d5⟩ := h.ne
  have m1 := h.n1
  have m2 := h.n2
  refine ⟨e1.keep k2 d1, e2, (h.wi.keep k1 (fun e => d2 e.symm) (fun g hg e => d3 (e ▸ hg))).keep k2 (fun e => d4 e.symm) (fun g hg e => d5 (e ▸ hg)), (h.kp.trans k1 (fun i hi e => ?_)).trans k2 (fun i hi e => ?_), h.n1, h.n2, h.n3, h.n4, by show 0 < 7; omega⟩
  · have e : i = sb := e; omega
  · have e : i = db := e; omega
/-- What there is behind the encoder's chunk: the decoder is where it was. -/
structure Bkm (w W : World) (sb db wb lb : Nat) (s s2 : Se) (c c2 : Nat → Nat) (rv : Value) (win : List Nat) : Prop where
  en : IsS W sb s2 c2
  de : Go.Proofs.YtnokemcogjoonaaGreatDoor.IsS W db s c
  wi : IsW W wb lb 16384 rv win
  kp : Keep noBlock w W
  n1 : w.heap.size ≤ sb
  n2 : w.heap.size ≤ db
  n3 : w.heap.size ≤ wb
  n4 : ∀ k, rv.ownBlock = some k → w.heap.size ≤ k
  d1 : sb ≠ db
  d2 : sb ≠ wb
  d3 : rv.ownBlock ≠ some sb
theorem Bkw.mid {w W W1 : World} {sb db wb lb : Nat} {s s2 : Se} {c c2 : Nat → Nat} {rv : Value} {win : List Nat} (h : Bkw w W sb db wb lb s c rv win) (e1 : IsS W1 sb s2 c2) (k1 : Keep (fun k => k = sb) W W1) : Bkm w W1 sb db wb lb s s2 c c2 rv win := by
  obtain ⟨d1, d2, d3, d4, d5⟩ := h.ne
  have m1 := h.n1
  exact ⟨e1, h.de.keep k1 (fun e => d1 e.symm), h.wi.keep k1 (fun e => d2 e.symm) (fun g hg e => d3 (e ▸ hg)), h.kp.trans k1 (fun i hi e => by have e : i = sb := e; omega), h.n1, h.n2, h.n3, h.n4, d1, d2, d3⟩
theorem Bkm.keep {w W W' : World} {sb db wb lb : Nat} {s s2 : Se} {c c2 : Nat → Nat} {rv : Value} {win : List Nat} (h : Bkm w W sb db wb lb s s2 c c2 rv win) (k : Keep noBlock W W') : Bkm w W' sb db wb lb s s2 c c2 rv win :=
  ⟨h.en.keep k (fun h => h), h.de.keep k (fun h => h), h.wi.keep k (fun h => h) (fun _ _ h => h), h.kp.trans' k, h.n1, h.n2, h.n3, h.n4, h.d1, h.d2, h.d3⟩
theorem Bkm.far {w W : World} {sb db wb lb : Nat} {s s2 : Se} {c c2 : Nat → Nat} {rv : Value} {win : List Nat} (h : Bkm w W sb db wb lb s s2 c c2 rv win) (i : Nat) (hi : i < w.heap.size) : ¬ Go.Proofs.YtnokemcogjoonaaGreatDoor.WS db wb rv i := by
  rintro (e | e | e)
  · have := h.n2; omega
  · have := h.n3; omega
  · have := h.n4 i e; omega
theorem Bkm.end {w W W2 : World} {sb db wb lb : Nat} {s s2 : Se} {c c2 : Nat → Nat} {rv rv2 : Value} {win win2 : List Nat} (h : Bkm w W sb db wb lb s s2 c c2 rv win) (e1 : Go.Proofs.YtnokemcogjoonaaGreatDoor.IsS W2 db s2 c2) (e2 : IsW W2 wb lb 16384 rv2 win2) (hn : Near W rv rv2) (k : Keep (Go.Proofs.YtnokemcogjoonaaGreatDoor.WS db wb rv) W W2) (hl : s2.ph < 7) : Bkw w W2 sb db wb lb s2 c2 rv2 win2 := by
  refine ⟨h.en.keep k ?_, e1, e2, h.kp.trans k (fun i hi e => absurd e (h.far i hi)), h.n1, h.n2, h.n3, fun k hk => ?_, hl⟩
  · rintro (e | e | e)
    · exact h.d1 e
    · exact h.d2 e
    · exact h.d3 e
  · rcases hn with e | ⟨k', e, hk'⟩
    · rw [e] at hk; exact h.n4 k hk
    · rw [e] at hk
      have : k' = k := by simpa using hk
      have := h.kp.size
      omega
/-- A middle piece, as it is read. -/
theorem mid_src {w : World} {gb off cap c lo hi : Nat} {bs : List Nat} (h : Bytes w (some ⟨gb, off, none⟩) cap gb off bs) (h1 : lo ≤ hi) (h2 : hi ≤ bs.length) : SrcB w (.slice (some ⟨gb, off + lo, none⟩) (hi - lo) c) ((bs.take hi).drop lo) := by
  have hl : ((bs.take hi).drop lo).length = hi - lo := by rw [List.length_drop, List.length_take]; omega
  refine .inr ⟨⟨gb, off + lo, none⟩, c, by rw [hl], fun j u hu => ?_⟩
  have hj : j < ((bs.take hi).drop lo).length := by rw [← u8s_length]; exact (List.getElem?_eq_some_iff.1 hu).1
  rw [addO, Nat.add_assoc, h.cells (lo + j) (by omega)]
  rw [u8s_at _ j hj] at hu
  rw [← hu, List.getElem?_drop, List.getElem?_take, if_pos (by omega)]
theorem take_at {bs : List Nat} {e at_ : Nat} (h : at_ ≤ e) : (bs.take e).take at_ = bs.take at_ := by rw [List.take_take, Nat.min_eq_left h]
theorem take_length {bs : List Nat} {e : Nat} (h : e ≤ bs.length) : (bs.take e).length = e := by rw [List.length_take]; omega
/-- A copy of one's own. -/
theorem copy_own (w : World) (sv : Value) (bs : List Nat) (hl : ∀ j : Nat, bs[j]?.getD 0 < 256) (h48 : bs.length ≤ 65536) (hs : SrcB (w.alloc (.cells #[] 5)) sv bs) :
    ∃ ta tc tg W, (Builtin.append_ #[22, 22] 22 #[.slice (some ⟨w.heap.size, 0, none⟩) 0 0, sv]).run Tryz.prog (w.alloc (.cells #[] 5)) = .ok (.slice ta bs.length tc) W ∧ Bytes W ta tc tg 0 bs ∧ Keep noBlock w W ∧ (bs ≠ [] → w.heap.size ≤ tg) := by
  have hb6 : (w.alloc (.cells #[] 5)).heap[w.heap.size]? = some (.cells #[] 5 (0, 0)) := alloc_new w _
  have o6 : (w.alloc (.cells #[] 5)).ownsRow 0 5 1 (.slice (some ⟨w.heap.size, 0, none⟩) 0 0) ([] : List Nat).length (u8s []) := owns_mk (M := []) hb6 (Nat.le_refl _) (by unfold maxLen; omega) rfl rfl
  obtain ⟨v7, W7, r7, o7, k7, n7⟩ := run_append_all (w.alloc (.cells #[] 5)) 22 _ [] bs o6 (by simp; omega) _ hs
  rw [List.nil_append] at o7
  obtain ⟨ta, tc, tg, rfl, B7, hob⟩ := owns_bytes o7 hl (by omega)
  refine ⟨ta, tc, tg, W7, r7, B7, ((Keep.refl noBlock w).alloc _).trans k7 (fun i hi e => ?_), fun hne => ?_⟩
  · have e : some w.heap.size = some i := e
    have : w.heap.size = i := by simpa using e
    omega
  · have ha := B7.at_.resolve_right hne
    have hown : (Value.slice ta bs.length tc).ownBlock = some tg := by rw [ha]; rfl
    rcases n7 with e | ⟨k, e, hk⟩
    · rw [e] at hown
      have e2 : some w.heap.size = some tg := hown
      have : w.heap.size = tg := by simpa using e2
      omega
    · rw [hown] at e
      have : tg = k := by simpa using e
      have := World.size_alloc w (.cells #[] 5)
      omega

end Go.Proofs.YtnokemcogjoonaaGreatDoor.Pt
