/-
  What Pack and Unpack answer, whatever they are handed.
  A literals section as plain numbers and lists: its head, its rows, what it tells.
  shareOf, behind.
  Bits of numbers that are told by letters.
  A head that is told out of its box.
  cut.
  unpack.
  One byte many times (bytes.Repeat).
  behind; a copy of bytes.
  readHead.
-/
import Derived.Lib.MakeNoZero
import Derived.Laws.Externs
import Derived.Test.YtnjilcokkhodmaaGreatDoorZP6
import Derived.Test.YtnjilcokkhodmaaGreatDoorZP9
namespace Go.Proofs.YtnjilcokkhodmaaGreatDoor
open Go.RowKit Go.Shelf
set_option linter.unusedVariables false

def unpC (ws bs : List Nat) (n : Int) : Nat := if codeB ws then (if 0 ≤ n ∧ n ≤ 131072 then (if unpOk ws (codeM ws) bs n.toNat then 0 else 11) else 2) else 50
def unpV (ws bs : List Nat) (n : Int) : List Nat := if unpC ws bs n = 0 then (List.range n.toNat).map (symU ws (codeM ws) bs) else []
def Ans (c : Nat) (bs : List Nat) (w : World) (e : Ending) (w' : World) : Prop :=
 Keep noBlock w w' ∧ ∃ a n cap, e = .returned (.tuple #[.slice a n cap, .int .i64 (c : Int)]) ∧ n = bs.length ∧ w'.ownsRow 0 5 1 (.slice a n cap) n (u8s bs)
theorem ans_none {c : Nat} {w w' : World} (hk : Keep noBlock w w') : Ans c [] w (.returned (.tuple #[.slice none 0 0, .int .i64 (c : Int)])) w' := ⟨hk, none, 0, 0, rfl, rfl, World.ownsRow_nil _ _ _ _⟩
theorem ans_row {c : Nat} {bs : List Nat} {v : Value} {w w' : World} (hk : Keep noBlock w w') (h : w'.ownsRow 0 5 1 v bs.length (u8s bs)) : Ans c bs w (.returned (.tuple #[v, .int .i64 (c : Int)])) w' := by
 obtain ⟨a, cap, rfl⟩ := owns_form h
 exact ⟨hk, a, _, cap, rfl, rfl, h⟩

theorem codeM_is {ws : List Nat} (h : codeB ws = true) : IsCode ws (codeM ws) := by
 have := codeB_is h
 unfold codeM
 rw [if_pos h]
 exact this
theorem unpV_no {ws bs : List Nat} {n : Int} (h : unpC ws bs n ≠ 0) : unpV ws bs n = [] := if_neg h
theorem unpV_lt (ws bs : List Nat) (n : Int) : ∀ j : Nat, (unpV ws bs n)[j]?.getD 0 < 256 := by
 by_cases h : unpC ws bs n = 0
 ·have hc : codeB ws = true := by
   unfold unpC at h
   by_cases e : codeB ws = true
   ·exact e
   ·rw [if_neg e] at h; omega
  have hI := codeM_is hc
  unfold unpV
  rw [if_pos h]
  refine lt256 (fun b hb => ?_)
  obtain ⟨k, _, rfl⟩ := List.mem_map.1 hb
  have h1 := (hI.sym (strm bs (posU ws (codeM ws) bs k) (codeM ws)) (strm_lt _ _ _)).1
  have h2 := hI.len
  show symX ws (codeM ws) (strm bs (posU ws (codeM ws) bs k) (codeM ws)) < 256
  omega
 ·rw [unpV_no h]; intro j; simp

set_option maxRecDepth 100000 in
set_option maxHeartbeats 2000000 in
theorem unpack_all (a : Option Addr) (cap gb off : Nat) (ws : List Nat) (a2 : Option Addr) (cap2 gb2 off2 : Nat) (bs : List Nat) (n : Int) (w : World) (hB : Bytes w a cap gb off ws) (hB2 : Bytes w a2 cap2 gb2 off2 bs) (hl : bs.length ≤ 140737488351232) :
    Calls Tryz.prog 77 #[.slice a ws.length cap, .slice a2 bs.length cap2, .int .i64 n] w fun e w' => Ans (unpC ws bs n) (unpV ws bs n) w e w' := by
  cases hc : codeB ws with
  | false =>
    have e1 : unpC ws bs n = 50 := by unfold unpC; rw [hc]; rfl
    have e2 := unpV_no (ws := ws) (bs := bs) (n := n) (by omega)
    rw [e1, e2]
    have HM := (show Hid (Calls Tryz.prog 95 #[.slice a ws.length cap] w fun e w' => ∃ l, e = .returned (.tuple #[.int .i64 l, .bool false]) ∧ w' = w) from made_not hc hB)
    generalize ws.length = n1 at *
    generalize bs.length = n2 at *
    clear hB hB2 hl
    go_enter Tryz.func77, Tryz.ntmps77
    go_wp2_with (go_at_call 95; refine HM.out.mono ?_; rintro e w' ⟨l, rfl, rfl⟩)
    go_ret2
    exact ans_none (Keep.refl _ _)
  | true =>
    have hI := codeM_is hc
    by_cases hn : 0 ≤ n ∧ n ≤ 131072
    · obtain ⟨k, rfl⟩ := Int.eq_ofNat_of_zero_le hn.1
      refine (unpack_any a cap gb off ws (codeM ws) a2 cap2 gb2 off2 bs k w hB hB2 hI hl (by omega)).mono ?_
      rintro e w' ⟨hk, ⟨h1, v, rfl, h2⟩ | ⟨h1, rfl⟩⟩
      · have e1 : unpC ws bs (k : Int) = 0 := by unfold unpC; rw [if_pos hc, if_pos hn, Int.toNat_natCast, if_pos h1]
        have e2 : unpV ws bs (k : Int) = (List.range k).map (symU ws (codeM ws) bs) := if_pos e1
        rw [e1, e2]
        refine ans_row hk ?_
        rw [show ((List.range k).map (symU ws (codeM ws) bs)).length = k from by simp]
        exact h2
      · have e1 : unpC ws bs (k : Int) = 11 := by unfold unpC; rw [if_pos hc, if_pos hn, Int.toNat_natCast, h1]; rfl
        have e2 := unpV_no (ws := ws) (bs := bs) (n := (k : Int)) (by omega)
        rw [e1, e2]
        exact ans_none hk
    · have e1 : unpC ws bs n = 2 := by unfold unpC; rw [if_pos hc, if_neg hn]
      have e2 := unpV_no (ws := ws) (bs := bs) (n := n) (by omega)
      rw [e1, e2]
      have HM := (show Hid (Calls Tryz.prog 95 #[.slice a ws.length cap] w fun e w' => e = .returned (.tuple #[.int .i64 ((codeM ws : Nat) : Int), .bool true]) ∧ w' = w) from made_is hI hB)
      generalize ws.length = n1 at *
      generalize bs.length = n2 at *
      clear hB hB2 hl hI
      by_cases h0 : n < 0
      · go_enter Tryz.func77, Tryz.ntmps77
        go_wp2_with (go_at_call 95; refine HM.out.mono ?_; rintro e w' ⟨rfl, rfl⟩)
        go_ret2
        exact ans_none (Keep.refl _ _)
      · have h1 : 131072 < n := by omega
        go_enter Tryz.func77, Tryz.ntmps77
        go_wp2_with (go_at_call 95; refine HM.out.mono ?_; rintro e w' ⟨rfl, rfl⟩)
        go_ret2
        exact ans_none (Keep.refl _ _)

end Go.Proofs.YtnjilcokkhodmaaGreatDoor

namespace Go.Proofs.YtnjilcokkhodmaaGreatDoor
open Go.RowKit Go.Shelf
set_option linter.unusedVariables false

def hbN (k f : Nat) : Nat := if k < 2 then (if f = 1 then 2 else if f = 3 then 3 else 1) else (if f = 2 then 4 else if f = 3 then 5 else 3)
def frN (k f : Nat) : Nat := if k < 2 ∧ (f = 0 ∨ f = 2) then 3 else 4
def btN (k f : Nat) : Nat := if k < 2 then (if f = 1 then 12 else if f = 3 then 20 else 5) else (if f = 2 then 14 else if f = 3 then 18 else 10)
def rwN (k f : Nat) : Nat := if k < 2 then 0 else if f = 0 then 1 else 4
theorem hbN_le (k f : Nat) : 1 ≤ hbN k f ∧ hbN k f ≤ 5 := by
 unfold hbN; repeat' split
 all_goals omega
theorem frN_le (k f : Nat) : 3 ≤ frN k f ∧ frN k f ≤ 4 := by unfold frN; split <;> omega
theorem btN_le (k f : Nat) : 5 ≤ btN k f ∧ btN k f ≤ 20 := by
 unfold btN; repeat' split
 all_goals omega
theorem rwN_is (k f : Nat) : (k < 2 ∧ rwN k f = 0) ∨ (2 ≤ k ∧ f = 0 ∧ rwN k f = 1) ∨ (2 ≤ k ∧ f ≠ 0 ∧ rwN k f = 4) := by
 unfold rwN; repeat' split
 all_goals omega
def numN : List Nat → Nat
 | [] => 0
 | b :: r => b + 256 * numN r
theorem numN_snoc (l : List Nat) (b : Nat) : numN (l ++ [b]) = numN l + 256 ^ l.length * b := by
 induction l with
 | nil => simp [numN]
 | cons x r ih => simp only [List.cons_append, numN, ih, List.length_cons, Nat.pow_succ]; rw [Nat.mul_add, Nat.mul_comm (256 ^ r.length) 256, Nat.mul_assoc]; omega
theorem numN_lt {l : List Nat} (h : ∀ b ∈ l, b < 256) : numN l < 256 ^ l.length := by
  induction l with
  | nil => simp [numN]
  | cons x r ih =>
    have h1 := ih (fun b hb => h b (List.mem_cons_of_mem _ hb))
    have h2 := h x List.mem_cons_self
    simp only [numN, List.length_cons, Nat.pow_succ]
    omega
theorem numN_take {l : List Nat} {k : Nat} (hk : k < l.length) : numN (l.take (k + 1)) = numN (l.take k) + 256 ^ k * l[k]?.getD 0 := by
 rw [List.take_add_one, List.getElem?_eq_getElem hk]
 simp only [Option.toList_some, Option.getD_some]
 rw [numN_snoc, List.length_take, Nat.min_eq_left (by omega)]

def hKi (bs : List Nat) : Nat := bs[0]?.getD 0 % 4
def hFo (bs : List Nat) : Nat := bs[0]?.getD 0 / 4 % 4
def hBy (bs : List Nat) : Nat := hbN (hKi bs) (hFo bs)
def hNu (bs : List Nat) : Nat := numN (bs.take (hBy bs))
def hSz (bs : List Nat) : Nat := hNu bs / 2 ^ frN (hKi bs) (hFo bs) % 2 ^ btN (hKi bs) (hFo bs)
def hPk (bs : List Nat) : Nat := if hKi bs < 2 then 0 else hNu bs / 2 ^ (frN (hKi bs) (hFo bs) + btN (hKi bs) (hFo bs)) % 2 ^ btN (hKi bs) (hFo bs)
def hRw (bs : List Nat) : Nat := rwN (hKi bs) (hFo bs)
def hBe (bs : List Nat) : Nat := if hKi bs = 0 then hSz bs else if hKi bs = 1 then 1 else hPk bs
theorem hKi_lt (bs : List Nat) : hKi bs < 4 := Nat.mod_lt _ (by decide)
theorem pow_bt (k f : Nat) : 2 ^ btN k f ≤ 1048576 := Nat.le_trans (Nat.pow_le_pow_right (by decide) (btN_le k f).2) (by decide)
theorem hSz_lt (bs : List Nat) : hSz bs < 1048576 := Nat.lt_of_lt_of_le (Nat.mod_lt _ (Nat.two_pow_pos _)) (pow_bt _ _)
theorem hPk_lt (bs : List Nat) : hPk bs < 1048576 := by
 unfold hPk; split
 ·decide
 ·exact Nat.lt_of_lt_of_le (Nat.mod_lt _ (Nat.two_pow_pos _)) (pow_bt _ _)
theorem hBe_lt (bs : List Nat) : hBe bs < 1048576 := by
 unfold hBe; split
 ·exact hSz_lt bs
 ·split
  ·decide
  ·exact hPk_lt bs

def eachN (size n : Nat) : Nat := (size + n - 1) / n
def lenAt (h : List Nat) (i : Nat) : Nat := h[2 * i]?.getD 0 + 256 * h[2 * i + 1]?.getD 0
def restN (h b : List Nat) : Nat → List Nat
 | 0 => b
 | k + 1 => (restN h b k).drop (lenAt h k)
def fitN (h b : List Nat) : Nat → Bool
 | 0 => true
 | k + 1 => fitN h b k && decide (lenAt h k ≤ (restN h b k).length)
def rowN (h b : List Nat) (each k : Nat) : List Nat × Nat := ((restN h b k).take (lenAt h k), each)
def rowsN (h b : List Nat) (size n : Nat) : List (List Nat × Nat) := (List.range (n - 1)).map (rowN h b (eachN size n)) ++ [(restN h b (n - 1), size - eachN size n * (n - 1))]
def cutL (b : List Nat) (size n : Nat) : Option (List (List Nat × Nat)) :=
 if b.length < 2 * (n - 1) ∨ size < eachN size n * (n - 1) then none
 else if fitN b (b.drop (2 * (n - 1))) (n - 1) then some (rowsN b (b.drop (2 * (n - 1))) size n) else none
def unpR (ws : List Nat) (R : List (List Nat × Nat)) : Option (List Nat) :=
 if R.all (fun r => decide (unpC ws r.1 (r.2 : Int) = 0)) then some (R.flatMap (fun r => unpV ws r.1 (r.2 : Int))) else none
def unpL (ws b : List Nat) (size n : Nat) : Option (List Nat) := (cutL b size n).bind (unpR ws)
def tellL (c u : Nat) (V : List Nat) (k size n : Nat) (cs ws : List Nat) : Option (List Nat × List Nat) :=
 if k = 0 then some (cs, ws)
 else if k = 1 then some (List.replicate size (cs[0]?.getD 0), ws)
 else if k = 3 then (unpL ws cs size n).map (fun l => (l, ws))
 else if c = 0 then (unpL V (cs.drop u) size n).map (fun l => (l, V)) else none
def bodyN (bs : List Nat) : List Nat := (bs.take (hBy bs + hBe bs)).drop (hBy bs)
def litR (c u : Nat) (V bs ws : List Nat) (most : Int) : Nat × List Nat × List Nat × Nat :=
 if most < 0 ∨ 131072 < most then (2, [], [], 0)
 else if bs = [] ∨ bs.length < hBy bs then (10, [], [], 0)
 else if most < (hSz bs : Int) then (11, [], [], 0)
 else if bs.length < hBy bs + hBe bs then (10, [], [], 0)
 else match tellL c u V (hKi bs) (hSz bs) (hRw bs) (bodyN bs) ws with
  | none => (11, [], [], 0)
  | some (l, n) => (0, l, n, hBy bs + hBe bs)
theorem bodyN_length {bs : List Nat} (h : ¬ bs.length < hBy bs + hBe bs) : (bodyN bs).length = hBe bs := by
 unfold bodyN; rw [List.length_drop, List.length_take]; omega

def Frm (w : World) : Prop := ∀ i f, i < 2 → f < 4 → w.cell? ⟨1, i * 16 + f * 4, none⟩ = some (.int .i64 ((hbN (2 * i) f : Nat) : Int)) ∧ w.cell? ⟨1, i * 16 + f * 4 + 1, none⟩ = some (.int .i64 ((frN (2 * i) f : Nat) : Int)) ∧
 w.cell? ⟨1, i * 16 + f * 4 + 2, none⟩ = some (.int .i64 ((btN (2 * i) f : Nat) : Int)) ∧ w.cell? ⟨1, i * 16 + f * 4 + 3, none⟩ = some (.int .i64 ((rwN (2 * i) f : Nat) : Int))
theorem keep_cell0 {w w' : World} (hk : Keep noBlock w w') {b i : Nat} {v : Value} (h : w.cell? ⟨b, i, none⟩ = some v) : w'.cell? ⟨b, i, none⟩ = some v :=
 (World.cell?_of_block (hk.block b (World.block_lt_of_cell? w ⟨b, i, none⟩ h) (fun h => h))).trans h
theorem Frm.keep {w w' : World} (h : Frm w) (hk : Keep noBlock w w') : Frm w' := fun i f hi hf =>
 ⟨keep_cell0 hk (h i f hi hf).1, keep_cell0 hk (h i f hi hf).2.1, keep_cell0 hk (h i f hi hf).2.2.1, keep_cell0 hk (h i f hi hf).2.2.2⟩
theorem hbN_two {k f : Nat} (hk : k < 4) : hbN (2 * (k / 2)) f = hbN k f ∧ frN (2 * (k / 2)) f = frN k f ∧ btN (2 * (k / 2)) f = btN k f ∧ rwN (2 * (k / 2)) f = rwN k f := by
 obtain rfl | rfl | rfl | rfl : k = 0 ∨ k = 1 ∨ k = 2 ∨ k = 3 := by omega
 all_goals (refine ⟨?_, ?_, ?_, ?_⟩ <;> simp [hbN, frN, btN, rwN])

end Go.Proofs.YtnjilcokkhodmaaGreatDoor

namespace Go.Proofs.YtnjilcokkhodmaaGreatDoor
open Go.RowKit Go.Shelf
set_option linter.unusedVariables false

set_option maxRecDepth 100000 in
set_option maxHeartbeats 1000000 in
theorem shareOf_any (size n : Nat) (hs : size ≤ 1048576) (hn0 : 1 ≤ n) (hn : n ≤ 4) (w : World) :
  Calls Tryz.prog 94 #[.int .i64 (size : Int), .int .i64 (n : Int)] w fun e w' => e = .returned (.int .i64 ((eachN size n : Nat) : Int)) ∧ w' = w := by
 obtain ⟨s1, h1⟩ : ∃ s1, s1 = size + n := ⟨_, rfl⟩
 obtain ⟨s2, h2⟩ : ∃ s2, s2 = size + n - 1 := ⟨_, rfl⟩
 obtain ⟨q, hq⟩ : ∃ q, q = eachN size n := ⟨_, rfl⟩
 have e1 : (size : Int) + (n : Int) = (s1 : Int) := by omega
 have e2 : (s1 : Int) - 1 = (s2 : Int) := by omega
 have e3 : (s2 : Int).tdiv (n : Int) = (q : Int) := by rw [hq, h2]; rfl
 have b1 : (s1 : Int) ≤ 1048580 := by omega
 have b2 : (s2 : Int) ≤ 1048580 := by omega
 have b3 : (q : Int) ≤ 1048580 := by
  have : q ≤ s2 := by rw [hq, h2]; exact Nat.div_le_self _ _
  omega
 have n0 : ¬ n = 0 := by omega
 rw [← hq]
 clear h1 h2 hq hs hn0 hn
 go_enter Tryz.func94, Tryz.ntmps94
 go_wp2
 go_ret
 exact ⟨rfl, rfl⟩

end Go.Proofs.YtnjilcokkhodmaaGreatDoor

namespace Go.Proofs.YtnjilcokkhodmaaGreatDoor
open Go.RowKit Go.Shelf
set_option linter.unusedVariables false

theorem and3_u8 (x : Nat) (h : x < 256) : bits .and .u8 (x : Int) 3 = ((x % 4 : Nat) : Int) := by
 have := bits_mask .u8 8 (by decide) wraps_u8 2 (by decide) (x : Int) (by omega) (by omega)
 exact this.trans (by omega)
theorem wraps_u64 (n : Int) (h₀ : 0 ≤ n) (h₁ : n < 2 ^ 64) : IntKind.u64.wrap n = n := by
 simp only [IntKind.wrap, IntKind.bits, IntKind.signed]
 exact Int.emod_eq_of_lt h₀ h₁
theorem or_add64 (a b m : Nat) (ha : a < 2 ^ m) (hab : a + 2 ^ m * b < 18446744073709551616) : bits .or .u64 (a : Int) ((2 ^ m * b : Nat) : Int) = ((a + 2 ^ m * b : Nat) : Int) := by
 rw [(bits_nat .u64 64 (by decide) wraps_u64 a (2 ^ m * b) (by omega) (by omega)).2]
 have h := Nat.two_pow_add_eq_or_of_lt ha b
 rw [Nat.or_comm] at h
 show ((a ||| 2 ^ m * b : Nat) : Int) = _
 rw [← h, Nat.add_comm]

theorem and_mask64 (x m : Nat) (hx : x < 18446744073709551616) (hm : m ≤ 56) : bits .and .u64 (x : Int) ((2 ^ m - 1 : Nat) : Int) = ((x % 2 ^ m : Nat) : Int) := by
 have h1 : 2 ^ m ≤ 2 ^ 56 := Nat.pow_le_pow_right (by omega) hm
 rw [(bits_nat .u64 64 (by decide) wraps_u64 x (2 ^ m - 1) (by omega) (by omega)).1, Nat.and_two_pow_sub_one_eq_mod]
theorem wrap_pow (m : Nat) (hm : m ≤ 56) : IntKind.u64.wrap ((2 : Int) ^ m) = ((2 ^ m : Nat) : Int) := by
 have h1 : 2 ^ m ≤ 2 ^ 56 := Nat.pow_le_pow_right (by omega) hm
 have h2 : ∀ p : Nat, p ≤ 2 ^ 56 → IntKind.u64.wrap (p : Int) = (p : Int) := fun p hp => wraps_u64 _ (by omega) (by omega)
 rw [show ((2 : Int) ^ m) = ((2 ^ m : Nat) : Int) from by simp]
 exact h2 _ h1
theorem wrap_pred (p : Nat) (h1 : 1 ≤ p) (h2 : p < 18446744073709551616) : IntKind.u64.wrap ((p : Int) - 1) = ((p - 1 : Nat) : Int) := by
 rw [show ((p : Int) - 1) = ((p - 1 : Nat) : Int) from by omega]
 exact wraps_u64 _ (by omega) (by omega)
theorem shr_nat (x m : Nat) : (x : Int) / 2 ^ m = ((x / 2 ^ m : Nat) : Int) := by simp

end Go.Proofs.YtnjilcokkhodmaaGreatDoor

namespace Go.Proofs.YtnjilcokkhodmaaGreatDoor
open Go.RowKit Go.Shelf
set_option linter.unusedVariables false
theorem agg31 : ∀ w, (isAgg 91).run Tryz.prog w = .ok true w := by intro w; kernel_rfl
theorem loadVarH {w : World} {b : Nat} {cs : Array Value} (h : w.heap[b]? = some (.cells cs 91 (0, 0))) (h7 : cs.size = 7) : (loadVar 91 ⟨b, 0, none⟩).run Tryz.prog w = .ok (.agg cs) w := by
 have := run_loadCells_list (P := Tryz.prog) w ⟨b, 0, none⟩ cs.toList (fun j v hv => by
  rw [add0, cell_of h]
  simpa using hv)
 rw [Array.length_toList, h7] at this
 simp only [loadVar, Sem.run_bind, agg31, Result.andThen]
 simp [this]
theorem resH {tmps : Array Value} {w : World} {b : Nat} {cs : Array Value} {v : Value} (hp : tmps[2]?.getD undef = .pointer (some ⟨b, 0, none⟩)) (hv : tmps[3]?.getD undef = v) (h : w.heap[b]? = some (.cells cs 91 (0, 0))) (h7 : cs.size = 7) :
  (results Tryz.f45 tmps).run Tryz.prog w = .ok (.tuple #[.agg cs, v]) w := by
 simp [results, Tryz.results45, hp, hv, asAddr, loadVarH h h7]
def headV (k hb fr bt rw size pk : Nat) : Value := .agg #[.int .i64 (k : Int), .int .i64 (hb : Int), .int .i64 (fr : Int), .int .i64 (bt : Int), .int .i64 (rw : Int), .int .i64 (size : Int), .int .i64 (pk : Int)]
theorem set7 {w : World} {b : Nat} {u0 u1 u2 u3 u4 u5 u6 : Value} (h : w.heap[b]? = some (.cells #[u0, u1, u2, u3, u4, u5, u6] 91 (0, 0))) (v0 v1 v2 v3 v4 v5 v6 : Value) :
  (((((((w.setCell ⟨b, 0, none⟩ v0).setCell ⟨b, 1, none⟩ v1).setCell ⟨b, 2, none⟩ v2).setCell ⟨b, 3, none⟩ v3).setCell ⟨b, 4, none⟩ v4).setCell ⟨b, 5, none⟩ v5).setCell ⟨b, 6, none⟩ v6).heap[b]? = some (.cells #[v0, v1, v2, v3, v4, v5, v6] 91 (0, 0)) := by
 have h0 := set_obj h 0 v0
 have h1 := set_obj h0 1 v1
 have h2 := set_obj h1 2 v2
 have h3 := set_obj h2 3 v3
 have h4 := set_obj h3 4 v4
 have h5 := set_obj h4 5 v5
 have h6 := set_obj h5 6 v6
 simpa only [List.setIfInBounds_toArray, List.set_cons_zero, List.set_cons_succ] using h6
theorem keep7 {w0 w : World} {b : Nat} (h : Keep noBlock w0 w) (hb : w0.heap.size ≤ b) (v0 v1 v2 v3 v4 v5 v6 : Value) :
  Keep noBlock w0 (((((((w.setCell ⟨b, 0, none⟩ v0).setCell ⟨b, 1, none⟩ v1).setCell ⟨b, 2, none⟩ v2).setCell ⟨b, 3, none⟩ v3).setCell ⟨b, 4, none⟩ v4).setCell ⟨b, 5, none⟩ v5).setCell ⟨b, 6, none⟩ v6) := by
 have e : b < w0.heap.size → noBlock b := fun h => by omega
 exact ((((((h.setCell (p := ⟨b, 0, none⟩) e _).setCell (p := ⟨b, 1, none⟩) e _).setCell (p := ⟨b, 2, none⟩) e _).setCell (p := ⟨b, 3, none⟩) e _).setCell (p := ⟨b, 4, none⟩) e _).setCell (p := ⟨b, 5, none⟩) e _).setCell (p := ⟨b, 6, none⟩) e _
end Go.Proofs.YtnjilcokkhodmaaGreatDoor

namespace Go.Proofs.YtnjilcokkhodmaaGreatDoor
open Go.RowKit Go.Shelf
set_option linter.unusedVariables false

theorem info64 : (Tryz.prog.info? 165).map (fun i => (i.zero, i.size, i.bytes)) = some (some (.agg #[.slice none 0 0, .int .i64 0]), 2, 32) := by kernel_rfl
theorem run_make60 (n : Nat) (h : n ≤ 4096) (w : World) : (Instr.makeSlice 161 (.int .i64 (n : Int)) (.int .i64 (n : Int))).run Tryz.prog w = .ok (.slice (some ⟨w.heap.size, 0, none⟩) n n) (w.alloc (.cells (madeCells #[.slice none 0 0, .int .i64 0] (n * 2)) 165)) := by
 obtain ⟨i0, hi, hz0, hz1, hz2⟩ := info_parts info64
 have := run_make (P := Tryz.prog) w 161 165 i0 _ Tryz.underlying161 hi hz0 .i64 .i64 (n : Int) (n : Int) (by omega) (Int.le_refl _) (by rw [hz2]; omega) (by omega)
 simp only [Int.toNat_natCast, hz1] at this
 exact this
theorem run_three (a : Option Addr) (len cap k : Nat) (h1 : k ≤ len) (h2 : len ≤ cap) (w : World) :
  (sliceSem 22 (.slice a len cap) none (some (.int .i64 (k : Int))) (some (.int .i64 (k : Int)))).run Tryz.prog w = .ok (.slice a k k) w := by
 obtain ⟨i0, hi, hz0, hz1, hz2⟩ := info_parts info5
 have h3 : k ≤ cap := by omega
 have e : (if k = 0 then a else a.map (fun x => x.add 0)) = a := by
  split
  ·rfl
  ·cases a <;> simp [Addr.add]
 simp [sliceSem, Instr.slice, run_underlying Tryz.underlying22, Instr.sliceBounds, Instr.sliceBound, asIntOf, h3, sizeOf, typeInfo, hi, e]
theorem Bytes.three {w : World} {a : Option Addr} {cap gb off : Nat} {bs : List Nat} (h : Bytes w a cap gb off bs) (k : Nat) (hk : k ≤ bs.length) :
  (∀ W, (sliceSem 22 (.slice a bs.length cap) none (some (.int .i64 (k : Int))) (some (.int .i64 (k : Int)))).run Tryz.prog W = .ok (.slice a (bs.take k).length k) W) ∧ Bytes w a k gb off (bs.take k) := by
 have hc := h.cap
 have e : (bs.take k).length = k := by rw [List.length_take]; omega
 have hb := (h.take k hk).2
 refine ⟨fun W => by rw [run_three a bs.length cap k hk hc W, e], ⟨hb.at_, fun hn => ?_, hb.cells, hb.lt, by omega, hb.len⟩⟩
 have := h.nil hn
 omega

def RowsAt (w : World) (rb N gb : Nat) (R : List (List Nat × Nat)) : Prop := ∃ cs, w.heap[rb]? = some (.cells cs 165 (0, 0)) ∧ cs.size = N * 2 ∧
 ∀ i x, R[i]? = some x → ∃ a cap o, cs[i * 2]? = some (.slice a x.1.length cap) ∧ cs[i * 2 + 1]? = some (.int .i64 ((x.2 : Nat) : Int)) ∧ Bytes w a cap gb o x.1
theorem RowsAt.keep {w w' : World} {rb N gb : Nat} {R : List (List Nat × Nat)} (h : RowsAt w rb N gb R) {S : Nat → Prop} (hk : Keep S w w') (h1 : ¬ S rb) (h2 : ¬ S gb) : RowsAt w' rb N gb R := by
 obtain ⟨cs, ho, hsz, hr⟩ := h
 refine ⟨cs, hk.obj ho h1, hsz, fun i x hx => ?_⟩
 obtain ⟨a, cap, o, q1, q2, q3⟩ := hr i x hx
 exact ⟨a, cap, o, q1, q2, q3.keep hk (fun _ => h2)⟩
theorem RowsAt.push {w : World} {rb N gb : Nat} {R : List (List Nat × Nat)} (h : RowsAt w rb N gb R) (hne : gb ≠ rb) (hl : R.length < N) {a : Option Addr} {cap o : Nat} {bs : List Nat} (hB : Bytes w a cap gb o bs) (z : Nat) :
  RowsAt ((w.setCell ⟨rb, R.length * 2, none⟩ (.slice a bs.length cap)).setCell ⟨rb, R.length * 2 + 1, none⟩ (.int .i64 (z : Int))) rb N gb (R ++ [(bs, z)]) := by
 obtain ⟨cs, ho, hsz, hr⟩ := h
 have hk : Keep (fun k => k = rb) w ((w.setCell ⟨rb, R.length * 2, none⟩ (.slice a bs.length cap)).setCell ⟨rb, R.length * 2 + 1, none⟩ (.int .i64 (z : Int))) :=
  ((Keep.refl (fun k => k = rb) w).setCell (p := ⟨rb, R.length * 2, none⟩) (fun _ => rfl) _).setCell (p := ⟨rb, R.length * 2 + 1, none⟩) (fun _ => rfl) _
 refine ⟨_, set_obj (set_obj ho _ _) _ _, by simp [hsz], fun i x hx => ?_⟩
 by_cases hi : i < R.length
 ·rw [List.getElem?_append_left hi] at hx
  obtain ⟨a', cap', o', q1, q2, q3⟩ := hr i x hx
  refine ⟨a', cap', o', ?_, ?_, q3.keep hk (fun _ => hne)⟩
  ·rw [Array.getElem?_setIfInBounds_ne (by omega), Array.getElem?_setIfInBounds_ne (by omega)]; exact q1
  ·rw [Array.getElem?_setIfInBounds_ne (by omega), Array.getElem?_setIfInBounds_ne (by omega)]; exact q2
 ·have hil : i < (R ++ [(bs, z)]).length := (List.getElem?_eq_some_iff.1 hx).1
  rw [List.length_append, List.length_singleton] at hil
  obtain rfl : i = R.length := by omega
  rw [List.getElem?_append_right (Nat.le_refl _), Nat.sub_self] at hx
  cases hx
  refine ⟨a, cap, o, ?_, ?_, hB.keep hk (fun _ => hne)⟩
  ·rw [Array.getElem?_setIfInBounds_ne (by omega), Array.getElem?_setIfInBounds_self_of_lt (by rw [hsz]; omega)]
  ·rw [Array.getElem?_setIfInBounds_self_of_lt (by rw [Array.size_setIfInBounds, hsz]; omega)]
theorem Bytes.else_ {w : World} {a : Option Addr} {cap gb off : Nat} {bs : List Nat} (h : Bytes w a cap gb off bs) : ∃ g, g ≠ w.heap.size ∧ Bytes w a cap g off bs := by
 by_cases hb : bs = []
 ·subst hb
  exact ⟨w.heap.size + 1, by omega, .inr rfl, h.nil, fun j hj => by simp at hj, h.lt, h.cap, h.len⟩
 ·exact ⟨gb, Nat.ne_of_lt (h.block hb), h⟩
theorem RowsAt.room {w : World} {rb N gb : Nat} {R : List (List Nat × Nat)} (h : RowsAt w rb N gb R) (i : Nat) (hi : i < N) : ∃ v0 v1, w.cell? ⟨rb, i * 2, none⟩ = some v0 ∧ w.cell? ⟨rb, i * 2 + 1, none⟩ = some v1 ∧ w.frozen? ⟨rb, i * 2, none⟩ = false ∧ w.frozen? ⟨rb, i * 2 + 1, none⟩ = false ∧
  (∀ v, (w.setCell ⟨rb, i * 2, none⟩ v).cell? ⟨rb, i * 2 + 1, none⟩ = some v1) ∧ ∀ v, (w.setCell ⟨rb, i * 2, none⟩ v).frozen? ⟨rb, i * 2 + 1, none⟩ = false := by
 obtain ⟨cs, ho, hsz, -⟩ := h
 have h1 : cs[i * 2 + 1]? = some (cs[i * 2 + 1]'(by omega)) := Array.getElem?_eq_getElem (by omega)
 refine ⟨cs[i * 2]'(by omega), cs[i * 2 + 1]'(by omega), ?_, ?_, frozen_of ho _, frozen_of ho _, fun v => ?_, fun v => frozen_of (set_obj ho _ _) _⟩
 ·rw [cell_of ho]; exact Array.getElem?_eq_getElem (by omega)
 ·rw [cell_of ho]; exact h1
 ·rw [cell_of (set_obj ho _ _), Array.getElem?_setIfInBounds_ne (by omega)]; exact h1
theorem fitN_no {h b : List Nat} {i : Nat} (hi : fitN h b i = false) (n : Nat) (hn : i ≤ n) : fitN h b n = false := by
  induction n with
  | zero => obtain rfl : i = 0 := by omega
            exact hi
  | succ n ih =>
    by_cases e : i = n + 1
    · subst e; exact hi
    · unfold fitN; rw [ih (by omega)]; rfl
theorem or_len (x y : Nat) (hx : x < 256) (hy : y < 256) : bits .or .i64 (x : Int) ((y : Int) * 256) = ((x + 256 * y : Nat) : Int) := by
 rw [show ((y : Int) * 256) = ((256 * y : Nat) : Int) from by omega, (bits_nat .i64 63 (by decide) wraps_i64 x (256 * y) (by omega) (by omega)).2]
 have h := Nat.two_pow_add_eq_or_of_lt (i := 8) hx y
 rw [Nat.or_comm, show 256 * y = 2 ^ 8 * y from rfl, ← h, Nat.add_comm]
theorem madeRows (n : Nat) : (madeCells #[Value.slice none 0 0, Value.int .i64 0] (n * 2)).size = n * 2 := size_madeCells _ _

section
attribute [local go_sem] sliceSem_eq
set_option maxRecDepth 100000 in
set_option maxHeartbeats 1000000 in
theorem cut_bad (a : Option Addr) (cap gb off : Nat) (bs : List Nat) (size n : Nat) (w : World) (hB : Bytes w a cap gb off bs) (hs : size ≤ 1048576) (hn1 : 1 ≤ n) (hn4 : n ≤ 4) (hbad : bs.length < 2 * (n - 1) ∨ size < eachN size n * (n - 1)) :
  Calls Tryz.prog 76 #[.slice a bs.length cap, .int .i64 (size : Int), .int .i64 (n : Int)] w fun e w' => e = .returned (.tuple #[.slice none 0 0, .bool false]) ∧ w' = w := by
 have HS := hid (fun W => shareOf_any size n hs hn1 hn4 W)
 obtain ⟨each, heach⟩ : ∃ each, each = eachN size n := ⟨_, rfl⟩
 rw [← heach] at HS hbad
 obtain ⟨n1, hn'⟩ : ∃ n1, n1 = n - 1 := ⟨_, rfl⟩
 obtain ⟨told, ht⟩ : ∃ told, told = 2 * n1 := ⟨_, rfl⟩
 obtain ⟨T, hT⟩ : ∃ T, T = each * n1 := ⟨_, rfl⟩
 have heb : each ≤ 1048580 := by rw [heach]; exact Nat.le_trans (Nat.div_le_self _ _) (by omega)
 have hTb : T ≤ 1048580 * 3 := by rw [hT]; exact Nat.mul_le_mul heb (by omega)
 have e1 : (n : Int) - 1 = (n1 : Int) := by omega
 have e2 : 2 * (n1 : Int) = (told : Int) := by omega
 have e3 : (each : Int) * (n1 : Int) = (T : Int) := by rw [hT]; simp
 have b1 : (told : Int) ≤ 6 := by omega
 have b2 : (T : Int) ≤ 3145740 := by omega
 have hl48 := hB.len
 rw [← hn', ← ht, ← hT] at hbad
 generalize bs.length = L at *
 clear heach hn' ht hT hB heb hTb hs
 by_cases hA : L < told
 ·have g1 : decide (L < told) = true := by rw [decide_eq_true_eq]; omega
  clear hbad hA
  go_enter Tryz.func76, Tryz.ntmps76
  go_wp2_with (go_at_call 94; refine (HS.out _).mono ?_; rintro e w1 ⟨rfl, rfl⟩)
  all_goals (go_ret2; exact ⟨rfl, rfl⟩)
 ·have g1 : decide (L < told) = false := by rw [decide_eq_false_iff_not]; omega
  have g2 : decide (size < T) = true := by rw [decide_eq_true_eq]; omega
  clear hbad hA
  go_enter Tryz.func76, Tryz.ntmps76
  go_wp2_with (go_at_call 94; refine (HS.out _).mono ?_; rintro e w1 ⟨rfl, rfl⟩)
  all_goals (go_ret2; exact ⟨rfl, rfl⟩)

set_option maxRecDepth 100000 in
set_option maxHeartbeats 2000000 in
theorem cut_good (a : Option Addr) (cap gb off : Nat) (bs : List Nat) (size n : Nat) (w : World) (hB : Bytes w a cap gb off bs) (hs : size ≤ 1048576) (hn1 : 1 ≤ n) (hn4 : n ≤ 4) (hg1 : 2 * (n - 1) ≤ bs.length) (hg2 : eachN size n * (n - 1) ≤ size) :
  Calls Tryz.prog 76 #[.slice a bs.length cap, .int .i64 (size : Int), .int .i64 (n : Int)] w fun e w' => Keep noBlock w w' ∧ ((fitN bs (bs.drop (2 * (n - 1))) (n - 1) = false ∧ e = .returned (.tuple #[.slice none 0 0, .bool false])) ∨
   (fitN bs (bs.drop (2 * (n - 1))) (n - 1) = true ∧ ∃ rb gb, gb ≠ rb ∧ rb < w'.heap.size ∧ w.heap.size ≤ rb ∧ e = .returned (.tuple #[.slice (some ⟨rb, 0, none⟩) n n, .bool true]) ∧ RowsAt w' rb n gb (rowsN bs (bs.drop (2 * (n - 1))) size n))) := by
 obtain ⟨gb', hgb', hB'⟩ := hB.else_
 clear hB
 have hB := hB'
 clear hB'
 revert hgb' hB
 generalize gb' = gb
 intro hgb hB
 have HS := hid (fun W => shareOf_any size n hs hn1 hn4 W)
 obtain ⟨each, heach⟩ : ∃ each, each = eachN size n := ⟨_, rfl⟩
 rw [← heach] at HS hg2
 obtain ⟨n1, hn'⟩ : ∃ n1, n1 = n - 1 := ⟨_, rfl⟩
 obtain ⟨told, ht⟩ : ∃ told, told = 2 * n1 := ⟨_, rfl⟩
 obtain ⟨T, hT⟩ : ∃ T, T = each * n1 := ⟨_, rfl⟩
 obtain ⟨Z, hZ⟩ : ∃ Z, Z = size - T := ⟨_, rfl⟩
 have heb : each ≤ 1048580 := by rw [heach]; exact Nat.le_trans (Nat.div_le_self _ _) (by omega)
 have hTb : T ≤ 1048580 * 3 := by rw [hT]; exact Nat.mul_le_mul heb (by omega)
 have e1 : (n : Int) - 1 = (n1 : Int) := by omega
 have e2 : 2 * (n1 : Int) = (told : Int) := by omega
 have e3 : (each : Int) * (n1 : Int) = (T : Int) := by rw [hT]; simp
 have b1 : (told : Int) ≤ 6 := by omega
 have b2 : (T : Int) ≤ 3145740 := by omega
 have hl48 := hB.len
 rw [← hn', ← ht] at hg1 ⊢
 rw [← hn', ← hT] at hg2
 have e4 : (size : Int) - (T : Int) = (Z : Int) := by omega
 have g1 : decide (bs.length < told) = false := by rw [decide_eq_false_iff_not]; omega
 have g2 : decide (size < T) = false := by rw [decide_eq_false_iff_not]; omega
 have hmk := run_make60 n (by omega)
 have h3 := (hB.three told hg1).1
 obtain ⟨ad, offd, hd, hBd, -⟩ := hB.drop told hg1
 have hlt : (bs.take told).length = told := by rw [List.length_take]; omega
 rw [hlt] at h3
 have HD := hid (show Bytes w ad (cap - told) gb offd (bs.drop told) ∧ Bytes w a told gb off (bs.take told) from ⟨hBd, (hB.three told hg1).2⟩)
 have HSz := hid hs
 have HQ := hid (show each = eachN size n ∧ n1 = n - 1 ∧ told = 2 * n1 ∧ T = each * n1 ∧ Z = size - T ∧ Bytes w a cap gb off bs from ⟨heach, hn', ht, hT, hZ, hB⟩)
 obtain ⟨L, hL⟩ : ∃ L, L = bs.length := ⟨_, rfl⟩
 obtain ⟨Ld, hLd⟩ : ∃ Ld, Ld = (bs.drop told).length := ⟨_, rfl⟩
 rw [← hL] at hl48 hg1 g1 h3 hd ⊢
 rw [← hLd] at hd
 have HL := hid (show L = bs.length ∧ Ld = (bs.drop told).length from ⟨hL, hLd⟩)
 clear heach hn' ht hT hZ hB heb hTb hs hBd hlt hL hLd
 go_enter Tryz.func76, Tryz.ntmps76
 go_wp2_with (go_at_call 94; refine (HS.out _).mono ?_; rintro e w1 ⟨rfl, rfl⟩)
 obtain ⟨rb, hrb⟩ : ∃ rb, rb = w1.heap.size := ⟨_, rfl⟩
 have o1 := World.alloc_heap_new w1 (.cells (madeCells #[.slice none 0 0, .int .i64 0] (n * 2)) 165)
 have k1 := (Keep.refl noBlock w1).alloc (.cells (madeCells #[.slice none 0 0, .int .i64 0] (n * 2)) 165)
 rw [← hrb] at o1 ⊢
 obtain ⟨W1, hW1⟩ : ∃ W1, W1 = w1.alloc (.cells (madeCells #[.slice none 0 0, .int .i64 0] (n * 2)) 165) := ⟨_, rfl⟩
 rw [← hW1] at o1 k1 ⊢
 have hgr : gb ≠ rb := by rw [hrb]; exact hgb
 have H1 := hid (show rb = w1.heap.size ∧ Keep noBlock w1 W1 ∧ W1.heap[rb]? = some (.cells (madeCells #[.slice none 0 0, .int .i64 0] (n * 2)) 165 (0, 0)) from ⟨hrb, k1, o1⟩)
 clear hrb o1 k1 hW1 hmk
 go_region_held3 (fun _ => True) (trivial) ((fail))
 go_wp2_with fail
 have HB0 := hid (show Hid (Keep noBlock w1 W1.drew ∧ Bytes W1.drew ad (cap - told) gb offd (restN bs (bs.drop told) 0) ∧ RowsAt W1.drew rb n gb ((List.range 0).map (rowN bs (bs.drop told) each))) from ⟨H1.out.2.1.drew, HD.out.1.keep H1.out.2.1.drew (fun _ h => h), ⟨_, H1.out.2.2, madeRows n, fun i x hx => by simp at hx⟩⟩)
 generalize W1.drew = W2 at HB0 ⊢
 go_loopw [0, 43] (fun v0 v43 wr => ∃ j Lj cj : Nat, ∃ aj, v43 = .int .i64 (j : Int) ∧ j ≤ n1 ∧ v0 = .slice aj Lj cj ∧ Hid (fitN bs (bs.drop told) j = true ∧ Lj = (restN bs (bs.drop told) j).length ∧ Keep noBlock w1 wr ∧ (∃ oj, Bytes wr aj cj gb oj (restN bs (bs.drop told) j)) ∧ RowsAt wr rb n gb ((List.range j).map (rowN bs (bs.drop told) each)))) (fun _ v43 _ => n1 - (intOf v43).toNat)
 case atStart => exact ⟨0, Ld, cap - told, ad, rfl, Nat.zero_le _, rfl, rfl, HL.out.2, HB0.out.out.1, ⟨offd, HB0.out.out.2.1⟩, HB0.out.out.2.2⟩
 case round =>
  obtain ⟨j, Lj, cj, aj, rfl, hj, rfl, HR⟩ := hrel
  by_cases hlt : j < n1
  ·have hltI : (j : Int) < (n1 : Int) := by omega
   obtain ⟨hfit, hLj, hK, ⟨oj, hBj⟩, hRows⟩ := HR.out
   have hBt := HD.out.2.keep hK (fun _ h => h)
   have htl : (bs.take told).length = told := by rw [List.length_take]; have := HL.out.1; omega
   have ht2 : told = 2 * n1 := HQ.out.2.2.1
   have hane : a = some ⟨gb, off, none⟩ := hBt.at_.resolve_right (fun h => by rw [h] at htl; simp at htl; omega)
   obtain ⟨j2, hj2⟩ : ∃ j2, j2 = 2 * j := ⟨_, rfl⟩
   obtain ⟨j3, hj3⟩ : ∃ j3, j3 = 2 * j + 1 := ⟨_, rfl⟩
   have cx := hBt.cells j2 (by omega)
   have cy := hBt.cells j3 (by omega)
   obtain ⟨x, hx⟩ : ∃ x, x = (bs.take told)[j2]?.getD 0 := ⟨_, rfl⟩
   obtain ⟨y, hy⟩ : ∃ y, y = (bs.take told)[j3]?.getD 0 := ⟨_, rfl⟩
   rw [← hx] at cx
   rw [← hy] at cy
   have hx256 : x < 256 := by rw [hx]; exact hBt.lt _
   have hy256 : y < 256 := by rw [hy]; exact hBt.lt _
   obtain ⟨K, hKe⟩ : ∃ K, K = x + 256 * y := ⟨_, rfl⟩
   have hor : bits .or .i64 (x : Int) ((y : Int) * 256) = (K : Int) := by rw [hKe]; exact or_len x y hx256 hy256
   have hKl : K = lenAt bs j := by
    rw [hKe, hx, hy, List.getElem?_take, if_pos (by omega), List.getElem?_take, if_pos (by omega), hj2, hj3]; rfl
   have q1 : 2 * (j : Int) = (j2 : Int) := by omega
   have q2 : (j2 : Int) + 1 = (j3 : Int) := by omega
   have q3 : IntKind.i64.wrap (j2 : Int) = (j2 : Int) := by rw [IntKind.wrap_i64]; omega
   have q4 : IntKind.i64.wrap (j3 : Int) = (j3 : Int) := by rw [IntKind.wrap_i64]; omega
   have q5 : (j2 : Int) < (told : Int) := by omega
   have q6 : (j3 : Int) < (told : Int) := by omega
   have q7 : IntKind.i64.wrap ((y : Int) * 256) = (y : Int) * 256 := by rw [IntKind.wrap_i64]; omega
   have q8 : IntKind.i64.wrap (K : Int) = (K : Int) := by rw [IntKind.wrap_i64]; omega
   have q9 : (0 : Int) ≤ (j2 : Int) := by omega
   have q10 : (0 : Int) ≤ (j3 : Int) := by omega
   have q11 : (x : Int) < 256 := by omega
   have q12 : (y : Int) < 256 := by omega
   have q15 : IntKind.i64.wrap (x : Int) = (x : Int) := by rw [IntKind.wrap_i64]; omega
   have q16 : IntKind.i64.wrap (y : Int) = (y : Int) := by rw [IntKind.wrap_i64]; omega
   obtain ⟨j1, hj1⟩ : ∃ j1, j1 = j + 1 := ⟨_, rfl⟩
   have q13 : (j : Int) + 1 = (j1 : Int) := by omega
   have q14 : (j1 : Int) ≤ 5 := by omega
   have HX := hid (show K = lenAt bs j ∧ K < 65536 ∧ j1 = j + 1 from ⟨hKl, by omega, hj1⟩)
   subst hane
   clear hx hy hKe hKl hj2 hj3 hBt htl ht2 hj1 hx256 hy256
   go_wp2_with fail
   go_region_held3 (fun W => W.cell? ⟨gb, off + j2, none⟩ = some (.int .u8 (x : Int)) ∧ W.cell? ⟨gb, off + j3, none⟩ = some (.int .u8 (y : Int))) (go_keep) ((fail))
   have hKd : Keep noBlock wr wr.drew := (Keep.refl _ wr).drew
   have HG := hid (show (fitN bs (bs.drop told) j = true ∧ Lj = (restN bs (bs.drop told) j).length ∧ Keep noBlock w1 wr.drew ∧ (Bytes wr.drew aj cj gb oj (restN bs (bs.drop told) j)) ∧ RowsAt wr.drew rb n gb ((List.range j).map (rowN bs (bs.drop told) each))) from ⟨hfit, hLj, hK.drew, hBj.keep hKd (fun _ h => h), hRows.keep hKd (fun h => h) (fun h => h)⟩)
   rename_i hHeld
   clear hHeld hKd hfit hLj hK hBj hRows HR cx cy q1 q2 q3 q4 q5 q6 q7 q8 q9 q10 q11 q12 q15 q16 hor
   generalize wr.drew = W3 at HG ⊢
   by_cases hgt : Lj < K
   ·have g1 : (Lj : Int) < (K : Int) := by omega
    go_wp2_with fail
    go_ret2
    refine ⟨HG.out.2.2.1, .inl ⟨fitN_no (i := j + 1) ?_ _ (by omega), rfl⟩⟩
    unfold fitN
    rw [HG.out.1, ← HX.out.1, ← HG.out.2.1]
    simp
    exact hgt
   ·have g1 : ¬ (Lj : Int) < (K : Int) := by omega
    obtain ⟨hfit, hLj, hK, hBj, hRows⟩ := HG.out
    have h3j := (hBj.three K (by omega)).1
    obtain ⟨ae, oe, hde, hBe, -⟩ := hBj.drop K (by omega)
    obtain ⟨Le, hLe⟩ : ∃ Le, Le = ((restN bs (bs.drop told) j).drop K).length := ⟨_, rfl⟩
    have hKt : ((restN bs (bs.drop told) j).take K).length = K := by rw [List.length_take]; omega
    rw [hKt, ← hLj] at h3j
    rw [← hLe, ← hLj] at hde
    have hjl : j < n := by have := HQ.out; omega
    obtain ⟨v0, v1, r1, r2, r3, r4, r5, r6⟩ := hRows.room j hjl
    have hjn0 : (0 : Int) ≤ (j : Int) := by omega
    have hjn : (j : Int) < (n : Int) := by omega
    have HV := hid (show Le = ((restN bs (bs.drop told) j).drop K).length ∧ Bytes W3 ae (cj - K) gb oe ((restN bs (bs.drop told) j).drop K) ∧ Bytes W3 aj K gb oj ((restN bs (bs.drop told) j).take K) ∧ ((restN bs (bs.drop told) j).take K).length = K from ⟨hLe, hBe, (hBj.three K (by omega)).2, hKt⟩)
    clear hfit hLj hK hBj hRows hLe hBe hKt
    go_wp2_with fail
    obtain ⟨hfit, hLj, hK, hBj, hRows⟩ := HG.out
    obtain ⟨hLe, hBe, hBt, hKt⟩ := HV.out
    have hj1 := HX.out.2.2
    have hrl : ((List.range j).map (rowN bs (bs.drop told) each)).length = j := by simp
    have hkw : Keep noBlock w1 ((W3.setCell ⟨rb, j * 2, none⟩ (.slice aj K K)).setCell ⟨rb, j * 2 + 1, none⟩ (.int .i64 (each : Int))) := by
     have hrb := H1.out.1
     exact (hK.setCell (p := ⟨rb, j * 2, none⟩) (fun h => absurd (show rb < _ from h) (by omega)) _).setCell (p := ⟨rb, j * 2 + 1, none⟩) (fun h => absurd (show rb < _ from h) (by omega)) _
    have hkr : Keep (fun k => k = rb) W3 ((W3.setCell ⟨rb, j * 2, none⟩ (.slice aj K K)).setCell ⟨rb, j * 2 + 1, none⟩ (.int .i64 (each : Int))) :=
     ((Keep.refl (fun k => k = rb) W3).setCell (p := ⟨rb, j * 2, none⟩) (fun _ => rfl) _).setCell (p := ⟨rb, j * 2 + 1, none⟩) (fun _ => rfl) _
    have hpush := hRows.push hgr (by rw [hrl]; exact hjl) hBt each
    rw [hrl, hKt] at hpush
    have hrest : restN bs (bs.drop told) j1 = (restN bs (bs.drop told) j).drop K := by rw [hj1, HX.out.1]; rfl
    refine ⟨⟨j1, Le, cj - K, ae, rfl, by omega, rfl, ?_, ?_, hkw, ⟨oe, ?_⟩, ?_⟩, ?_⟩
    ·rw [hj1]; unfold fitN; rw [hfit, ← HX.out.1, ← hLj]; simp; omega
    ·rw [hrest]; exact hLe
    ·rw [hrest]; exact hBe.keep hkr (fun _ => hgr)
    ·rw [hj1, List.range_succ, List.map_append, List.map_singleton]
     have : rowN bs (bs.drop told) each j = ((restN bs (bs.drop told) j).take K, each) := by unfold rowN; rw [← HX.out.1]
     rw [this]
     exact hpush
    ·simp only [intOf, Int.toNat_natCast]
     omega
  ·have hltI : ¬ (j : Int) < (n1 : Int) := by omega
   have hjn : j = n1 := by omega
   have hZ1 : (Z : Int) ≤ 1048576 := by have := HQ.out.2.2.2.2.1; have := HSz.out; omega
   obtain ⟨hfit, hLj, hK, ⟨oj, hBj⟩, hRows⟩ := HR.out
   have hjl : j < n := by have := HQ.out; omega
   obtain ⟨v0, v1, r1, r2, r3, r4, r5, r6⟩ := hRows.room j hjl
   have HG := hid (show (fitN bs (bs.drop told) j = true ∧ Lj = (restN bs (bs.drop told) j).length ∧ Keep noBlock w1 wr ∧ (Bytes wr aj cj gb oj (restN bs (bs.drop told) j)) ∧ RowsAt wr rb n gb ((List.range j).map (rowN bs (bs.drop told) each))) from ⟨hfit, hLj, hK, hBj, hRows⟩)
   clear hfit hLj hK hBj hRows HR
   rw [hjn] at r1 r2 r3 r4 r5 r6
   have HJ := hid hjn
   clear hjn
   go_wp2_with fail
   go_ret2
   obtain ⟨hfit, hLj, hK, hBj, hRows⟩ := HG.out
   have hjn := HJ.out
   have hrb := H1.out.1
   have hrl : ((List.range j).map (rowN bs (bs.drop told) each)).length = j := by simp
   have hkw : Keep noBlock w1 ((wr.setCell ⟨rb, n1 * 2, none⟩ (.slice aj Lj cj)).setCell ⟨rb, n1 * 2 + 1, none⟩ (.int .i64 (Z : Int))) :=
    (hK.setCell (p := ⟨rb, n1 * 2, none⟩) (fun h => absurd (show rb < _ from h) (by omega)) _).setCell (p := ⟨rb, n1 * 2 + 1, none⟩) (fun h => absurd (show rb < _ from h) (by omega)) _
   have hpush := hRows.push hgr (by rw [hrl]; exact hjl) hBj Z
   rw [hrl, ← hLj, hjn] at hpush
   refine ⟨hkw, .inr ⟨by rw [← hjn]; exact hfit, rb, gb, hgr, obj_lt hpush.choose_spec.1, by omega, rfl, ?_⟩⟩
   have hq := HQ.out
   unfold rowsN
   rw [← hq.1, ← hq.2.1, ← hq.2.2.2.1, ← hq.2.2.2.2.1]
   exact hpush
end
end Go.Proofs.YtnjilcokkhodmaaGreatDoor

namespace Go.Proofs.YtnjilcokkhodmaaGreatDoor
open Go.RowKit Go.Shelf
set_option linter.unusedVariables false

def UAns (o : Option (List Nat)) (w : World) (e : Ending) (w' : World) : Prop :=
 Keep noBlock w w' ∧ match o with
  | none => e = .returned (.tuple #[.slice none 0 0, .bool false])
  | some l => ∃ v, e = .returned (.tuple #[v, .bool true]) ∧ w'.ownsRow 0 5 1 v l.length (u8s l) ∧ ∀ k, v.ownBlock = some k → w.heap.size ≤ k
theorem rowsN_length (h b : List Nat) (size n : Nat) (hn : 1 ≤ n) : (rowsN h b size n).length = n := by
 unfold rowsN; simp; omega
theorem restN_len (h b : List Nat) (k : Nat) : (restN h b k).length ≤ b.length := by
 induction k with
 | zero => exact Nat.le_refl _
 | succ k ih => unfold restN; rw [List.length_drop]; omega
theorem rowsN_small {h b : List Nat} {size n : Nat} (hn : 1 ≤ n) {i : Nat} {x : List Nat × Nat} (hx : (rowsN h b size n)[i]? = some x) : x.1.length ≤ b.length ∧ x.2 ≤ size + n := by
 have hx2 := List.mem_of_getElem? hx
 unfold rowsN at hx2
 rcases List.mem_append.1 hx2 with q | q
 ·obtain ⟨k, -, rfl⟩ := List.mem_map.1 q
  refine ⟨?_, ?_⟩
  ·show ((restN h b k).take _).length ≤ _
   rw [List.length_take]
   have := restN_len h b k
   omega
  ·show eachN size n ≤ _
   unfold eachN
   have := Nat.div_le_self (size + n - 1) n
   omega
 ·rw [List.mem_singleton] at q
  subst q
  refine ⟨restN_len h b _, ?_⟩
  show size - _ ≤ _
  omega

theorem cut_all (a : Option Addr) (cap gb off : Nat) (bs : List Nat) (size n : Nat) (w : World) (hB : Bytes w a cap gb off bs) (hs : size ≤ 131072) (hn1 : 1 ≤ n) (hn4 : n ≤ 4) (hbl : bs.length ≤ 1048576) :
    (cutL bs size n = none ∧ Calls Tryz.prog 76 #[.slice a bs.length cap, .int .i64 (size : Int), .int .i64 (n : Int)] w fun e w' => Keep noBlock w w' ∧ e = .returned (.tuple #[.slice none 0 0, .bool false])) ∨
    (∃ R, cutL bs size n = some R ∧ R.length = n ∧ (∀ (i : Nat) x, R[i]? = some x → x.1.length ≤ 1048576 ∧ x.2 ≤ 131076) ∧ Calls Tryz.prog 76 #[.slice a bs.length cap, .int .i64 (size : Int), .int .i64 (n : Int)] w fun e w' => Keep noBlock w w' ∧ ∃ rb gb, gb ≠ rb ∧ rb < w'.heap.size ∧ w.heap.size ≤ rb ∧ e = .returned (.tuple #[.slice (some ⟨rb, 0, none⟩) n n, .bool true]) ∧ RowsAt w' rb n gb R) := by
  by_cases hbad : bs.length < 2 * (n - 1) ∨ size < eachN size n * (n - 1)
  · left
    refine ⟨by unfold cutL; rw [if_pos hbad], (cut_bad a cap gb off bs size n w hB (by omega) hn1 hn4 hbad).mono ?_⟩
    rintro e w' ⟨rfl, rfl⟩
    exact ⟨Keep.refl _ _, rfl⟩
  · have hc := cut_good a cap gb off bs size n w hB (by omega) hn1 hn4 (by omega) (by omega)
    cases hf : fitN bs (bs.drop (2 * (n - 1))) (n - 1) with
    | false =>
      left
      refine ⟨by unfold cutL; rw [if_neg hbad, hf]; rfl, hc.mono ?_⟩
      rintro e w' ⟨hk, ⟨_, rfl⟩ | ⟨h, _⟩⟩
      · exact ⟨hk, rfl⟩
      · rw [hf] at h; cases h
    | true =>
      right
      refine ⟨rowsN bs (bs.drop (2 * (n - 1))) size n, by unfold cutL; rw [if_neg hbad, if_pos hf], rowsN_length _ _ _ _ hn1, fun i x hx => ?_, hc.mono ?_⟩
      · have := rowsN_small hn1 hx
        rw [List.length_drop] at this
        omega
      · rintro e w' ⟨hk, ⟨h, _⟩ | ⟨_, rb, gb, h1, h2, h3, h4, h5⟩⟩
        · rw [hf] at h; cases h
        · exact ⟨hk, rb, gb, h1, h2, h3, h4, h5⟩
def accR (ws : List Nat) (R : List (List Nat × Nat)) (j : Nat) : List Nat := (R.take j).flatMap (fun r => unpV ws r.1 (r.2 : Int))
theorem accR_succ {ws : List Nat} {R : List (List Nat × Nat)} {j : Nat} {x : List Nat × Nat} (h : R[j]? = some x) : accR ws R (j + 1) = accR ws R j ++ unpV ws x.1 (x.2 : Int) := by
 unfold accR; rw [List.take_add_one, h]; simp
theorem RowsAt.below {w : World} {rb N gb : Nat} {R : List (List Nat × Nat)} (h : RowsAt w rb N gb R) : ∃ g, g < w.heap.size ∧ RowsAt w rb N g R := by
 by_cases hg : gb < w.heap.size
 ·exact ⟨gb, hg, h⟩
 ·obtain ⟨cs, ho, hsz, hr⟩ := h
  refine ⟨rb, obj_lt ho, cs, ho, hsz, fun i x hx => ?_⟩
  obtain ⟨a, cap, o, q1, q2, q3⟩ := hr i x hx
  have he : x.1 = [] := Classical.byContradiction fun hne => hg (q3.block hne)
  exact ⟨a, cap, o, q1, q2, .inr he, q3.nil, fun j hj => by rw [he] at hj; simp at hj, q3.lt, q3.cap, q3.len⟩
theorem unpV_len (ws bs : List Nat) (n : Nat) : (unpV ws bs (n : Int)).length ≤ n := by
 unfold unpV; split
 ·simp
 ·simp
theorem accR_len {ws : List Nat} {R : List (List Nat × Nat)} {B : Nat} (hR : ∀ (i : Nat) x, R[i]? = some x → x.2 ≤ B) (j : Nat) : (accR ws R j).length ≤ j * B := by
  induction j with
  | zero => simp [accR]
  | succ j ih =>
    rw [Nat.succ_mul]
    cases h : R[j]? with
    | none =>
      have : accR ws R (j + 1) = accR ws R j := by unfold accR; rw [List.take_add_one, h]; simp
      rw [this]; omega
    | some x =>
      rw [accR_succ h, List.length_append]
      have := unpV_len ws x.1 x.2
      have := hR j x h
      omega

section
attribute [local go_sem] sliceSem_eq
set_option maxRecDepth 100000 in
set_option maxHeartbeats 1000000 in
theorem unpack_lit (k hb fr bt size n pk : Nat) (a : Option Addr) (cap gb off : Nat) (bs : List Nat) (a2 : Option Addr) (cap2 gb2 off2 : Nat) (ws : List Nat) (w : World) (hB : Bytes w a cap gb off bs) (hB2 : Bytes w a2 cap2 gb2 off2 ws) (hs : size ≤ 131072) (hn1 : 1 ≤ n) (hn4 : n ≤ 4) (hbl : bs.length ≤ 1048576) :
  Calls Tryz.prog 60 #[headV k hb fr bt n size pk, .slice a bs.length cap, .slice a2 ws.length cap2] w fun e w' => UAns (unpL ws bs size n) w e w' := by
 unfold headV
 have hk0 := fun vs => (Keep.refl noBlock w).alloc (.cells vs 91)
 rcases cut_all a cap gb off bs size n (w.alloc (.cells #[.int .i64 (k : Int), .int .i64 (hb : Int), .int .i64 (fr : Int), .int .i64 (bt : Int), .int .i64 (n : Int), .int .i64 (size : Int), .int .i64 (pk : Int)] 91)) (hB.keep (hk0 _) (fun _ h => h)) hs hn1 hn4 hbl with ⟨hc, hcall⟩ | ⟨R, hc, hRl, hRs, hcall⟩
 ·have hu : unpL ws bs size n = none := by unfold unpL; rw [hc]; rfl
  rw [hu]
  have HC := hid hcall
  have HK := hid hk0
  clear hcall hk0 hB hB2 hc hu
  generalize bs.length = L at *
  generalize ws.length = Lw at *
  go_enter Tryz.func60, Tryz.ntmps60
  go_wp2_with (go_at_call 76; refine HC.out.mono ?_; rintro e w1 ⟨hk1, rfl⟩)
  go_ret2
  exact ⟨(HK.out _).trans' hk1, rfl⟩
 ·have HC := hid hcall
  have HK := hid hk0
  have HU := hid (show ∀ (W : World), Keep noBlock w W → ∀ (a1 : Option Addr) (c1 g1 o1 : Nat) (x : List Nat × Nat), Bytes W a1 c1 g1 o1 x.1 → x.1.length ≤ 1048576 → Calls Tryz.prog 77 #[.slice a2 ws.length cap2, .slice a1 x.1.length c1, .int .i64 ((x.2 : Nat) : Int)] W fun e w' => Ans (unpC ws x.1 (x.2 : Int)) (unpV ws x.1 (x.2 : Int)) W e w' from
   fun W hW a1 c1 g1 o1 x hx hl => unpack_all a2 cap2 gb2 off2 ws a1 c1 g1 o1 x.1 (x.2 : Int) W (hB2.keep hW (fun _ h => h)) hx (by omega))
  have HR := hid (show cutL bs size n = some R ∧ R.length = n ∧ (∀ (i : Nat) x, R[i]? = some x → x.1.length ≤ 1048576 ∧ x.2 ≤ 131076) from ⟨hc, hRl, hRs⟩)
  have hmk : ∀ W : World, (Instr.makeSlice 22 (.int .i64 0) (.int .i64 (size : Int))).run Tryz.prog W = .ok (.slice (some ⟨W.heap.size, 0, none⟩) 0 size) (W.alloc (.cells (u8s (List.replicate size 0)).toArray 5)) := run_make_u8 0 size (Nat.zero_le _) (by omega)
  clear hcall hk0 hB hB2 hc hRl hRs
  generalize bs.length = L at *
  generalize ws.length = Lw at *
  have hnI : (n : Int) ≤ 4 := by omega
  have hc5 : (w.alloc (.cells #[.int .i64 (k : Int), .int .i64 (hb : Int), .int .i64 (fr : Int), .int .i64 (bt : Int), .int .i64 (n : Int), .int .i64 (size : Int), .int .i64 (pk : Int)] 91)).cell? ⟨w.heap.size, 5, none⟩ = some (.int .i64 (size : Int)) := cell_of (World.alloc_heap_new w _) 5
  have H5 := hid hc5
  clear hc5
  go_enter Tryz.func60, Tryz.ntmps60
  go_wp2_with (go_at_call 76; refine HC.out.mono ?_; rintro e w1 ⟨hk1, rb, gbr, hgr, hrl, hrw, rfl, hRows⟩; have c5 := keep_cell0 hk1 H5.out; have HW := hid (show Keep noBlock w w1 ∧ RowsAt w1 rb n gbr R ∧ rb < w1.heap.size from ⟨(HK.out _).trans' hk1, hRows, hrl⟩); clear hk1 hRows hrl hrw)
  obtain ⟨hKw, hRows0, hrbl⟩ := HW.out
  obtain ⟨g, hg, hRows⟩ := hRows0.below
  have ho0 : (w1.alloc (.cells (u8s (List.replicate size 0)).toArray 5)).ownsRow 0 5 1 (.slice (some ⟨w1.heap.size, 0, none⟩) 0 size) 0 (u8s []) := by
   have := owns_mk (M := []) (World.alloc_heap_new w1 (.cells (u8s (List.replicate size 0)).toArray 5)) (Nat.zero_le size) (by unfold maxLen; omega) (by simp [u8s]) (by simp [u8s])
   exact this
  have HI0 := hid (show Keep noBlock w1 (w1.alloc (.cells (u8s (List.replicate size 0)).toArray 5)) ∧ (w1.alloc (.cells (u8s (List.replicate size 0)).toArray 5)).ownsRow 0 5 1 (.slice (some ⟨w1.heap.size, 0, none⟩) 0 size) 0 (u8s []) from ⟨(Keep.refl _ w1).alloc _, ho0⟩)
  have HF := hid (show Keep noBlock w w1 ∧ RowsAt w1 rb n g R ∧ rb < w1.heap.size ∧ g < w1.heap.size from ⟨hKw, hRows, hrbl, hg⟩)
  clear ho0 hKw hRows0 hrbl hg hRows HW hmk c5 hgr
  obtain ⟨lb, hlb⟩ : ∃ lb, lb = w1.heap.size := ⟨_, rfl⟩
  rw [← hlb] at HI0 ⊢
  have HLB := hid hlb
  clear hlb
  generalize w1.alloc (.cells (u8s (List.replicate size 0)).toArray 5) = W2 at HI0 ⊢
  go_loopw [10, 32] (fun v10 v32 wr => ∃ j m c : Nat, ∃ ad, v32 = .int .i64 (j : Int) ∧ j ≤ n ∧ v10 = .slice ad m c ∧ Hid (Keep noBlock w1 wr ∧ m = (accR ws R j).length ∧ wr.ownsRow 0 5 1 (.slice ad m c) m (u8s (accR ws R j)) ∧ (∀ q, (Value.slice ad m c).ownBlock = some q → w1.heap.size ≤ q) ∧ ∀ i x, i < j → R[i]? = some x → unpC ws x.1 (x.2 : Int) = 0)) (fun _ v32 _ => n - (intOf v32).toNat)
  case atStart => exact ⟨0, 0, size, _, rfl, Nat.zero_le _, rfl, HI0.out.1, rfl, HI0.out.2, fun q hq => by rw [HLB.out] at hq; simp only [Value.ownBlock, Option.some.injEq] at hq; omega, fun i x hi => absurd hi (Nat.not_lt_zero _)⟩
  case round =>
   obtain ⟨j, m, c, ad, rfl, hj, rfl, HJ⟩ := hrel
   by_cases hlt : j < n
   ·have hltI : (j : Int) < (n : Int) := by omega
    obtain ⟨hKj, hm, hown, hnew, hok⟩ := HJ.out
    obtain ⟨x, hx⟩ : ∃ x, R[j]? = some x := ⟨_, List.getElem?_eq_getElem (by rw [HR.out.2.1]; exact hlt)⟩
    have hRj := HF.out.2.1.keep hKj (fun h => h) (fun h => h)
    obtain ⟨cs, hro, hcsz, hrr⟩ := hRj
    obtain ⟨a1, c1, o1, q1, q2, q3⟩ := hrr j x hx
    have d1 : wr.cell? ⟨rb, j * 2, none⟩ = some (.slice a1 x.1.length c1) := (cell_of hro _).trans q1
    have d2 : wr.cell? ⟨rb, j * 2 + 1, none⟩ = some (.int .i64 ((x.2 : Nat) : Int)) := (cell_of hro _).trans q2
    have hx1 := HR.out.2.2 j x hx
    have hKn : Keep noBlock wr (wr.alloc (.cells #[.slice a1 x.1.length c1, .int .i64 ((x.2 : Nat) : Int)] 165)) := (Keep.refl _ wr).alloc _
    have hcall := HU.out (wr.alloc (.cells #[.slice a1 x.1.length c1, .int .i64 ((x.2 : Nat) : Int)] 165)) ((HF.out.1.trans' hKj).trans' hKn) a1 c1 g o1 x (q3.keep hKn (fun _ h => h)) hx1.1
    obtain ⟨uc, huc⟩ : ∃ uc, uc = unpC ws x.1 (x.2 : Int) := ⟨_, rfl⟩
    obtain ⟨uv, huv⟩ : ∃ uv, uv = unpV ws x.1 (x.2 : Int) := ⟨_, rfl⟩
    rw [← huc, ← huv] at hcall
    obtain ⟨x1, hx1e⟩ : ∃ x1, x1 = x.1.length := ⟨_, rfl⟩
    obtain ⟨x2, hx2e⟩ : ∃ x2, x2 = x.2 := ⟨_, rfl⟩
    rw [← hx1e, ← hx2e] at hcall hKn
    rw [← hx1e] at d1
    rw [← hx2e] at d2
    have HCA := hid hcall
    have HX := hid (show R[j]? = some x ∧ uc = unpC ws x.1 (x.2 : Int) ∧ uv = unpV ws x.1 (x.2 : Int) ∧ x2 = x.2 ∧ x.2 ≤ 131076 from ⟨hx, huc, huv, hx2e, hx1.2⟩)
    have HKN := hid hKn
    have hx2I : (x2 : Int) ≤ 131076 := by rw [hx2e]; have := hx1.2; omega
    have hj0 : (0 : Int) ≤ (j : Int) := by omega
    obtain ⟨j1, hj1⟩ : ∃ j1, j1 = j + 1 := ⟨_, rfl⟩
    have q13 : (j : Int) + 1 = (j1 : Int) := by omega
    have q14 : (j1 : Int) ≤ 5 := by omega
    have HJ1 := hid hj1
    clear hKj hm hown hnew hok hx hro hcsz hrr q1 q2 q3 hx1 hKn hcall huc huv hx1e hx2e hj1
    go_wp2_with fail
    refine HCA.out.mono ?_
    rintro e w4 ⟨hk4, va, vn, vc, rfl, hvn, hvo⟩
    obtain ⟨hKj, hm, hown, hnew, hok⟩ := HJ.out
    have hk41 : Keep noBlock wr w4 := HKN.out.trans' hk4
    have hown4 := owns_kept hown hk41 (fun _ _ h => h)
    by_cases hu0 : uc = 0
    ·subst hu0
     have hlenU : uv.length ≤ 131076 := by rw [HX.out.2.2.1]; have := unpV_len ws x.1 x.2; have := HX.out.2.2.2.2; omega
     have hlenA : (accR ws R j).length ≤ 4 * 131076 := Nat.le_trans (accR_len (B := 131076) (fun i x hx => (HR.out.2.2 i x hx).2) j) (Nat.mul_le_mul_right _ (by omega))
     have hvlt : ∀ q : Nat, uv[q]?.getD 0 < 256 := by rw [HX.out.2.2.1]; exact unpV_lt ws x.1 (x.2 : Int)
     rw [hm] at hown4
     obtain ⟨va', vc', vg, hve, hvB, -⟩ := owns_bytes (M := uv) (by rw [← hvn]; exact hvo) hvlt (by omega)
     cases hve
     have hsrc := hvB.src
     obtain ⟨v', w5, hrun, ho5, hk5, hnr5⟩ := run_append_all w4 22 _ (accR ws R j) uv hown4 (by omega) _ hsrc
     obtain ⟨vm, hvm⟩ : ∃ vm, vm = (accR ws R j ++ uv).length := ⟨_, rfl⟩
     obtain ⟨ad5, c5, hv5⟩ := owns_form ho5
     subst hv5
     rw [← hvm] at hrun ho5 hnr5
     rw [← hm] at hrun hk5 hnr5
     rw [← hvn] at hrun
     have HE := hid (show Keep noBlock wr w4 ∧ w5.ownsRow 0 5 1 (.slice ad5 vm c5) vm (u8s (accR ws R j ++ uv)) ∧ Keep (fun k => (Value.slice ad m c).ownBlock = some k) w4 w5 ∧ ((Value.slice ad5 vm c5).ownBlock = (Value.slice ad m c).ownBlock ∨ ∃ k, (Value.slice ad5 vm c5).ownBlock = some k ∧ w4.heap.size ≤ k) ∧ vm = (accR ws R j ++ uv).length from ⟨hk41, ho5, hk5, hnr5, hvm⟩)
     clear ho5 hk5 hnr5 hvm hsrc hvB hown4 hvlt hlenU hlenA hvo hk41 hKj hm hown hnew hok hk4 hvn
     go_wp2_with (at_builtin; refine wpList_append_run _ rfl _ _ 22 rfl _ _ _ _ rfl rfl hrun ?_)
     obtain ⟨hKj, hm, hown, hnew, hok⟩ := HJ.out
     obtain ⟨g1, g2, g3, g4, g5⟩ := HE.out
     obtain ⟨r1, r2, r3, r4, r5⟩ := HX.out
     have hacc : accR ws R j1 = accR ws R j ++ uv := by rw [HJ1.out, r3]; exact accR_succ r1
     refine ⟨⟨j1, vm, c5, ad5, rfl, by rw [HJ1.out]; omega, rfl, ?_, ?_, ?_, ?_, ?_⟩, ?_⟩
     ·exact (hKj.trans' g1).trans g3 (fun i hi hq => by have := hnew i hq; omega)
     ·rw [hacc]; exact g5
     ·rw [hacc]; exact g2
     ·intro q hq
      rcases g4 with e | ⟨k, e, hk⟩
      ·rw [e] at hq; exact hnew q hq
      ·rw [e] at hq
       cases hq
       have := hKj.size
       have := g1.size
       omega
     ·intro i y hi hy
      rw [HJ1.out] at hi
      by_cases he : i = j
      ·subst he
       rw [r1] at hy
       cases hy
       exact r2.symm
      ·exact hok i y (by omega) hy
     ·have := HJ1.out
      simp only [intOf, Int.toNat_natCast]
      omega
    ·have hub : ((uc : Int) != 0) = true := by simp; omega
     clear hown4 hvo hvn hown hm hnew hok
     have hKf := (HF.out.1.trans' hKj).trans' hk41
     clear hKj hk41 hk4
     go_wp2_with fail
     go_ret2
     have hnone : unpL ws bs size n = none := by
      unfold unpL; rw [HR.out.1]
      show unpR ws R = none
      unfold unpR
      rw [if_neg]
      intro hall
      have := List.all_eq_true.1 hall x (List.mem_of_getElem? HX.out.1)
      rw [decide_eq_true_eq] at this
      exact hu0 (HX.out.2.1.trans this)
     rw [hnone]
     exact ⟨hKf, rfl⟩
   ·have hltI : ¬ (j : Int) < (n : Int) := by omega
    go_wp2_with fail
    go_ret2
    obtain ⟨hKj, hm, hown, hnew, hok⟩ := HJ.out
    obtain ⟨r1, r2, r3⟩ := HR.out
    have hacc : accR ws R j = R.flatMap (fun r => unpV ws r.1 (r.2 : Int)) := by unfold accR; rw [List.take_of_length_le (by omega)]
    have hsome : unpL ws bs size n = some (accR ws R j) := by
     unfold unpL; rw [r1]
     show unpR ws R = _
     unfold unpR
     rw [if_pos, hacc]
     rw [List.all_eq_true]
     intro y hy
     obtain ⟨i, hi, rfl⟩ := List.mem_iff_getElem.1 hy
     rw [decide_eq_true_eq]
     exact hok i _ (by omega) (List.getElem?_eq_getElem hi)
    rw [hsome]
    refine ⟨HF.out.1.trans' hKj, _, rfl, ?_, fun k hk => Nat.le_trans HF.out.1.size (hnew k hk)⟩
    rw [← hm]
    exact hown
end
end Go.Proofs.YtnjilcokkhodmaaGreatDoor

namespace Go.Proofs.YtnjilcokkhodmaaGreatDoor
open Go.RowKit Go.Shelf
set_option linter.unusedVariables false

set_option maxRecDepth 100000 in
set_option maxHeartbeats 1000000 in
theorem mul64_one (s : Nat) (hs : s ≤ 131072) (w : World) : Calls Tryz.prog 44 #[.int .u64 1, .int .u64 (s : Int)] w fun e w' => e = .returned (.tuple #[.int .u64 0, .int .u64 (s : Int)]) ∧ w' = w := by
 have h1 : (s : Int) / 4294967296 = 0 := by omega
 have h2 : bits .and .u64 (s : Int) 4294967295 = (s : Int) := by
  have := and_mask64 s 32 (by omega) (by omega)
  rw [show (2 ^ 32 - 1 : Nat) = 4294967295 from rfl, Nat.mod_eq_of_lt (by omega)] at this
  exact this
 have h3 : bits .and .u64 1 4294967295 = 1 := by decide
 have h4 : bits .and .u64 0 4294967295 = 0 := by decide
 have hsb : (s : Int) ≤ 131072 := by omega
 go_enter Tryz.func44, Tryz.ntmps44
 go_wp2
 go_ret2
 exact ⟨rfl, rfl⟩
set_option maxRecDepth 100000 in
set_option maxHeartbeats 1000000 in
theorem mul_one_any (s : Nat) (hs : s ≤ 131072) (w : World) : Calls Tryz.prog 29 #[.int .u64 1, .int .u64 (s : Int)] w fun e w' => e = .returned (.tuple #[.int .u64 0, .int .u64 (s : Int)]) ∧ w' = w := by
 have HM := hid (fun W => mul64_one s hs W)
 have hsb : (s : Int) ≤ 131072 := by omega
 go_enter Tryz.func29, Tryz.ntmps29
 go_wp2_with (go_at_call 44; refine (HM.out _).mono ?_; rintro e w1 ⟨rfl, rfl⟩)
 go_ret2
 exact ⟨rfl, rfl⟩

def Fil (W : World) (g N x q : Nat) : Prop := ∃ cur, W.heap[g]? = some (.cells cur 5 (0, 0)) ∧ cur.size = N ∧ cur.toList.take q = u8s (List.replicate q x)
theorem Fil.src {W : World} {g N x q : Nat} (h : Fil W g N x q) (hq : q ≤ N) (c cap : Nat) (hc : c ≤ q) : SrcB W (.slice (some ⟨g, 0, none⟩) c cap) (List.replicate c x) := by
 obtain ⟨cur, ho, hsz, ht⟩ := h
 refine .inr ⟨⟨g, 0, none⟩, cap, by rw [List.length_replicate], fun j u hu => ?_⟩
 have hj : j < c := by have := (List.getElem?_eq_some_iff.1 hu).1; rwa [u8s_length, List.length_replicate] at this
 rw [addO, cell_of ho, Nat.zero_add]
 have h1 : (cur.toList.take q)[j]? = cur[j]? := by rw [List.getElem?_take, if_pos (by omega), Array.getElem?_toList]
 rw [← h1, ht, ← hu]
 unfold u8s
 rw [List.getElem?_map, List.getElem?_map, List.getElem?_replicate, List.getElem?_replicate, if_pos hj, if_pos (by omega)]
theorem Fil.copy {W : World} {g N x q : Nat} (h : Fil W g N x q) (v : Value) (bs : List Nat) (hv : SrcB W v bs) (c dl dc t : Nat) (hbs : bs = List.replicate c x) (ht : t = min c dl) (hN : q + dl ≤ N) :
  ∃ W', (Builtin.copy_ #[22, 22] 3 #[.slice (some ⟨g, q, none⟩) dl dc, v]).run Tryz.prog W = .ok (.int .i64 (t : Int)) W' ∧ Fil W' g N x (q + t) ∧ Keep (fun k => k = g) W W' := by
 obtain ⟨cur, ho, hsz, htk⟩ := h
 have hbl : bs.length = c := by rw [hbs, List.length_replicate]
 refine ⟨_, run_copy_any W 3 g q dl dc (some ⟨g, q, none⟩) v bs cur t hv (by rw [hbl]; exact ht) (.inl rfl) ho (by omega), ⟨_, setRow_heap W g cur _ 5 (0, 0) ho, ?_, ?_⟩, keep_setRow (S := fun k => k = g) (Keep.refl _ _) g (fun _ => rfl) _⟩
 ·simp [u8s_length, hbs]; omega
 ·rw [List.toList_toArray, htk, hbs, ← u8s_app]
  have e : List.replicate q x ++ (List.replicate c x).take t = List.replicate (q + t) x := by
   rw [List.take_replicate, List.replicate_append_replicate, Nat.min_eq_left (by omega)]
  rw [e, List.take_left' (by rw [u8s_length, List.length_replicate])]
theorem Fil.bytes {W : World} {g N x s : Nat} (h : Fil W g N x s) (hs : s ≤ N) (hx : x < 256) (hN : s < 2 ^ 48) : Bytes W (some ⟨g, 0, none⟩) s g 0 (List.replicate s x) := by
 obtain ⟨cur, ho, hsz, ht⟩ := h
 refine ⟨.inl rfl, (fun e => by cases e), fun j hj => ?_, lt256 (fun b hb => by rw [List.eq_of_mem_replicate hb]; exact hx), by rw [List.length_replicate]; exact Nat.le_refl _, by rw [List.length_replicate]; exact hN⟩
 rw [List.length_replicate] at hj
 rw [cell_of ho, Nat.zero_add]
 have h1 : (cur.toList.take s)[j]? = cur[j]? := by rw [List.getElem?_take, if_pos hj, Array.getElem?_toList]
 rw [← h1, ht]
 unfold u8s
 rw [List.getElem?_map, List.getElem?_replicate, if_pos hj]
 simp

section
attribute [local go_sem] sliceSem_eq minSem_eq
set_option maxRecDepth 100000 in
set_option maxHeartbeats 1000000 in
theorem repeat_any (a : Option Addr) (cap gb off x s : Nat) (w : World) (hB : Bytes w a cap gb off [x]) (hs0 : 1 ≤ s) (hs : s ≤ 131072) :
  Calls Tryz.prog 14 #[.slice a 1 cap, .int .i64 (s : Int)] w fun e w' => Keep noBlock w w' ∧ ∃ a' cap' g, e = .returned (.slice a' s cap') ∧ Bytes w' a' cap' g 0 (List.replicate s x) ∧ w.heap.size ≤ g := by
 have HM := hid (fun W => mul_one_any s hs W)
 have hx256 : x < 256 := hB.lt 0
 obtain ⟨cs, hrunM, hle, hmax⟩ := Lib.run_makeNoZero (P := Tryz.prog) w #[3] 22 5 Tryz.underlying22 s (by omega)
 have hcall : (callFunc 30 #[.int .i64 (s : Int)]).run Tryz.prog w = .ok (.value (.slice (some ⟨w.heap.size, 0, none⟩) s cs.size)) ((w.alloc (.cells cs 5)).drewN 2) := by
  rw [run_callFunc_extern Tryz.func30 (by kernel_rfl) (by kernel_rfl) (by kernel_rfl) (e := Extern.BytealgMakeNoZero.makeNoZero #[3] #[22]) (by kernel_rfl), hrunM]
  rfl
 clear hrunM
 have h3 : ∀ W : World, (sliceSem 22 (.slice (some ⟨w.heap.size, 0, none⟩) s cs.size) none (some (.int .i64 (s : Int))) (some (.int .i64 (s : Int)))).run Tryz.prog W = .ok (.slice (some ⟨w.heap.size, 0, none⟩) s s) W := fun W => run_three _ s cs.size s (Nat.le_refl _) hle W
 have hk1 : Keep noBlock w ((w.alloc (.cells cs 5)).drewN 2) := ((Keep.refl _ w).alloc _).trans' (keep_drewN _ 2)
 have hf0 : Fil ((w.alloc (.cells cs 5)).drewN 2) w.heap.size cs.size x 0 := ⟨cs, World.alloc_heap_new w _, rfl, by simp [u8s]⟩
 obtain ⟨W2, hcopy, hf1, hk2⟩ := hf0.copy (.slice a 1 cap) [x] (hB.keep hk1 (fun _ h => h)).src 1 s s 1 rfl (by omega) (by omega)
 have hK : Keep noBlock w W2 := hk1.trans hk2 (fun i hi e => by omega)
 have hsb : (s : Int) ≤ 131072 := by omega
 have hs1 : ((s : Int) == 0) = false := by rw [beq_eq_false_iff_ne]; omega
 have hs2 : ¬ (s : Int) < 0 := by omega
 have hs3 : ¬ (9223372036854775807 : Int) < (s : Int) := by omega
 obtain ⟨g, hg⟩ : ∃ g, g = w.heap.size := ⟨_, rfl⟩
 rw [show ((1 : Nat) : Int) = (1 : Int) from rfl] at hcopy
 rw [Nat.zero_add] at hf1
 have HF := hid (show Keep noBlock w W2 ∧ Fil W2 w.heap.size cs.size x 1 ∧ s ≤ cs.size from ⟨hK, hf1, hle⟩)
 clear hB hk1 hf0 hk2 hK hle hmax hg hf1
 by_cases hbig : 8192 < s
 ·have hb1 : (8192 : Int) < (s : Int) := by omega
  go_enter Tryz.func14, Tryz.ntmps14
  go_wp2_with (go_at_call 29; refine (HM.out _).mono ?_; rintro e w1 ⟨rfl, rfl⟩)
  obtain ⟨g, hg⟩ : ∃ g, g = w1.heap.size := ⟨_, rfl⟩
  rw [← hg] at HF h3 ⊢
  have HG := hid hg
  clear hg hcopy hcall h3
  go_loopw [10] (fun v10 wr => ∃ q : Nat, v10 = .int .i64 (q : Int) ∧ 1 ≤ q ∧ q ≤ s ∧ Hid (Keep noBlock w1 wr ∧ Fil wr g cs.size x q)) (fun v10 _ => s - (intOf v10).toNat)
  case atStart => exact ⟨1, rfl, Nat.le_refl _, hs0, HF.out.1, HF.out.2.1⟩
  case round =>
   obtain ⟨q, rfl, hq1, hq, HQ⟩ := hrel
   by_cases hlt : q < s
   ·have hltI : (q : Int) < (s : Int) := by omega
    obtain ⟨ch, hch⟩ : ∃ ch, ch = min q 8192 := ⟨_, rfl⟩
    have hmin := minSem_run .i64 #[3, 3] 3 (q : Int) 8192 (ch : Int) (by omega)
    obtain ⟨r, hr⟩ : ∃ r, r = s - q := ⟨_, rfl⟩
    obtain ⟨t, ht⟩ : ∃ t, t = min ch r := ⟨_, rfl⟩
    obtain ⟨hKr, hFr⟩ := HQ.out
    have hsc := HF.out.2.2
    have hsrc := fun c cap hc => (hFr.src (by omega) c cap hc)
    have hcp := fun W' hF' hs' => Fil.copy (W := W') (g := g) (N := cs.size) (x := x) (q := q) hF' (.slice (some ⟨g, 0, none⟩) ch s) (List.replicate ch x) hs' ch r r t rfl ht (by omega)
    obtain ⟨W5, hrun5, hF5, hK5⟩ := hcp wr hFr (hsrc ch s (by omega))
    obtain ⟨W6, hrun6, hF6, hK6⟩ := hcp wr.drew hFr (hsrc ch s (by omega))
    have hlo : ∀ W : World, (sliceSem 22 (.slice (some ⟨g, 0, none⟩) s s) (some (.int .i64 (q : Int))) none none).run Tryz.prog W = .ok (.slice (some ⟨g, q, none⟩) r r) W := fun W => by
     rw [run_low5 (some ⟨g, 0, none⟩) s s q (by omega) W, if_neg (by omega), ← hr]
     simp [addO]
    have hhi : ∀ W : World, (sliceSem 22 (.slice (some ⟨g, 0, none⟩) s s) none (some (.int .i64 (ch : Int))) none).run Tryz.prog W = .ok (.slice (some ⟨g, 0, none⟩) ch s) W := fun W => run_high5 _ s s ch (by omega) W
    obtain ⟨q1, hq1e⟩ : ∃ q1, q1 = q + t := ⟨_, rfl⟩
    have e1 : (q : Int) + (t : Int) = (q1 : Int) := by omega
    have hq1b : (q1 : Int) ≤ 131072 := by omega
    have hq1w : IntKind.i64.wrap (q1 : Int) = (q1 : Int) := by rw [IntKind.wrap_i64]; omega
    have HE := hid (show q1 = q + t ∧ 1 ≤ t ∧ q1 ≤ s ∧ Fil W5 g cs.size x (q + t) ∧ Fil W6 g cs.size x (q + t) ∧ Keep (fun k => k = g) wr W5 ∧ Keep (fun k => k = g) wr W6 ∧ Keep noBlock w1 wr from ⟨hq1e, by omega, by omega, hF5, hF6, hK5, ⟨hK6.os, hK6.tape, hK6.output, hK6.size, hK6.block⟩, hKr⟩)
    clear hch hr ht hKr hFr hsc hsrc hcp hF5 hF6 hK5 hK6 hq1e
    go_wp2_with fail
    go_region_held3 (fun _ => True) (trivial) ((fail))
    go_wp2_with fail
    obtain ⟨u1, u2, u3, u4, u5, u6, u7, u8⟩ := HE.out
    refine ⟨⟨q1, rfl, by omega, u3, u8.trans u7 (fun i hi e => by have := HG.out; omega), by rw [u1]; exact u5⟩, ?_⟩
    simp only [intOf, Int.toNat_natCast]
    omega
   ·have hltI : ¬ (q : Int) < (s : Int) := by omega
    go_wp2_with fail
    go_ret
    obtain rfl : q = s := by omega
    obtain ⟨hKr, hFr⟩ := HQ.out
    exact ⟨hKr, some ⟨g, 0, none⟩, q, rfl, g, hFr.bytes HF.out.2.2 hx256 (by omega), by have := HG.out; omega⟩
 ·have hb1 : ¬ (8192 : Int) < (s : Int) := by omega
  go_enter Tryz.func14, Tryz.ntmps14
  go_wp2_with (go_at_call 29; refine (HM.out _).mono ?_; rintro e w1 ⟨rfl, rfl⟩)
  obtain ⟨g, hg⟩ : ∃ g, g = w1.heap.size := ⟨_, rfl⟩
  rw [← hg] at HF h3 ⊢
  have HG := hid hg
  clear hg hcopy hcall h3
  go_loopw [10] (fun v10 wr => ∃ q : Nat, v10 = .int .i64 (q : Int) ∧ 1 ≤ q ∧ q ≤ s ∧ Hid (Keep noBlock w1 wr ∧ Fil wr g cs.size x q)) (fun v10 _ => s - (intOf v10).toNat)
  case atStart => exact ⟨1, rfl, Nat.le_refl _, hs0, HF.out.1, HF.out.2.1⟩
  case round =>
   obtain ⟨q, rfl, hq1, hq, HQ⟩ := hrel
   by_cases hlt : q < s
   ·have hltI : (q : Int) < (s : Int) := by omega
    obtain ⟨ch, hch⟩ : ∃ ch, ch = min q s := ⟨_, rfl⟩
    have hmin := minSem_run .i64 #[3, 3] 3 (q : Int) (s : Int) (ch : Int) (by omega)
    obtain ⟨r, hr⟩ : ∃ r, r = s - q := ⟨_, rfl⟩
    obtain ⟨t, ht⟩ : ∃ t, t = min ch r := ⟨_, rfl⟩
    obtain ⟨hKr, hFr⟩ := HQ.out
    have hsc := HF.out.2.2
    have hsrc := fun c cap hc => (hFr.src (by omega) c cap hc)
    have hcp := fun W' hF' hs' => Fil.copy (W := W') (g := g) (N := cs.size) (x := x) (q := q) hF' (.slice (some ⟨g, 0, none⟩) ch s) (List.replicate ch x) hs' ch r r t rfl ht (by omega)
    obtain ⟨W5, hrun5, hF5, hK5⟩ := hcp wr hFr (hsrc ch s (by omega))
    obtain ⟨W6, hrun6, hF6, hK6⟩ := hcp wr.drew hFr (hsrc ch s (by omega))
    have hlo : ∀ W : World, (sliceSem 22 (.slice (some ⟨g, 0, none⟩) s s) (some (.int .i64 (q : Int))) none none).run Tryz.prog W = .ok (.slice (some ⟨g, q, none⟩) r r) W := fun W => by
     rw [run_low5 (some ⟨g, 0, none⟩) s s q (by omega) W, if_neg (by omega), ← hr]
     simp [addO]
    have hhi : ∀ W : World, (sliceSem 22 (.slice (some ⟨g, 0, none⟩) s s) none (some (.int .i64 (ch : Int))) none).run Tryz.prog W = .ok (.slice (some ⟨g, 0, none⟩) ch s) W := fun W => run_high5 _ s s ch (by omega) W
    obtain ⟨q1, hq1e⟩ : ∃ q1, q1 = q + t := ⟨_, rfl⟩
    have e1 : (q : Int) + (t : Int) = (q1 : Int) := by omega
    have hq1b : (q1 : Int) ≤ 131072 := by omega
    have hq1w : IntKind.i64.wrap (q1 : Int) = (q1 : Int) := by rw [IntKind.wrap_i64]; omega
    have HE := hid (show q1 = q + t ∧ 1 ≤ t ∧ q1 ≤ s ∧ Fil W5 g cs.size x (q + t) ∧ Fil W6 g cs.size x (q + t) ∧ Keep (fun k => k = g) wr W5 ∧ Keep (fun k => k = g) wr W6 ∧ Keep noBlock w1 wr from ⟨hq1e, by omega, by omega, hF5, hF6, hK5, ⟨hK6.os, hK6.tape, hK6.output, hK6.size, hK6.block⟩, hKr⟩)
    clear hch hr ht hKr hFr hsc hsrc hcp hF5 hF6 hK5 hK6 hq1e
    go_wp2_with fail
    go_region_held3 (fun _ => True) (trivial) ((fail))
    go_wp2_with fail
    obtain ⟨u1, u2, u3, u4, u5, u6, u7, u8⟩ := HE.out
    refine ⟨⟨q1, rfl, by omega, u3, u8.trans u7 (fun i hi e => by have := HG.out; omega), by rw [u1]; exact u5⟩, ?_⟩
    simp only [intOf, Int.toNat_natCast]
    omega
   ·have hltI : ¬ (q : Int) < (s : Int) := by omega
    go_wp2_with fail
    go_ret
    obtain rfl : q = s := by omega
    obtain ⟨hKr, hFr⟩ := HQ.out
    exact ⟨hKr, some ⟨g, 0, none⟩, q, rfl, g, hFr.bytes HF.out.2.2 hx256 (by omega), by have := HG.out; omega⟩
end
end Go.Proofs.YtnjilcokkhodmaaGreatDoor

namespace Go.Proofs.YtnjilcokkhodmaaGreatDoor
open Go.RowKit Go.Shelf
set_option linter.unusedVariables false

def behN (k size pk : Nat) : Nat := if k = 0 then size else if k = 1 then 1 else pk
set_option maxRecDepth 100000 in
set_option maxHeartbeats 1000000 in
theorem behind_any (k hb fr bt rw size pk : Nat) (w : World) :
  Calls Tryz.prog 46 #[headV k hb fr bt rw size pk] w fun e w' => e = .returned (.int .i64 ((behN k size pk : Nat) : Int)) ∧ Keep noBlock w w' := by
 unfold headV behN
 by_cases h0 : k = 0
 ·subst h0
  rw [if_pos rfl]
  go_enter Tryz.func46, Tryz.ntmps46
  go_wp2
  go_ret
  exact ⟨rfl, (Keep.refl _ w).alloc _⟩
 ·rw [if_neg h0]
  have g0 : ((k : Int) == 0) = false := by rw [beq_eq_false_iff_ne]; omega
  by_cases h1 : k = 1
  ·subst h1
   rw [if_pos rfl]
   go_enter Tryz.func46, Tryz.ntmps46
   go_wp2
   go_ret
   exact ⟨rfl, (Keep.refl _ w).alloc _⟩
  ·rw [if_neg h1]
   have g1 : ((k : Int) == 1) = false := by rw [beq_eq_false_iff_ne]; omega
   go_enter Tryz.func46, Tryz.ntmps46
   go_wp2
   go_ret
   exact ⟨rfl, (Keep.refl _ w).alloc _⟩

set_option maxRecDepth 100000 in
set_option maxHeartbeats 1000000 in
theorem cloneB_any (a : Option Addr) (cap gb off : Nat) (bs : List Nat) (w : World) (hB : Bytes w a cap gb off bs) (hlen : bs.length ≤ 140737488355327) :
    Calls Tryz.prog 59 #[.slice a bs.length cap] w fun e w' => Keep noBlock w w' ∧ ∃ a' n cap' g, e = .returned (.slice a' n cap') ∧ n = bs.length ∧ Bytes w' a' cap' g 0 bs ∧ w.heap.size ≤ g := by
  obtain ⟨i0, hi, hz0, hz1, hz2⟩ := info_parts info5
  have hmax : bs.length ≤ maxLen := by unfold maxLen; omega
  have heq := fun (w : World) (a : Option Addr) (n c n' c' : Nat) => Lib.run_eql_slice_nil (P := Tryz.prog) w 22 5 a n c n' c' Tryz.underlying22
  cases a with
  | none =>
    have h1 := hB.nil rfl
    have h2 := hB.cap
    have h3 : bs.length = 0 := by omega
    have h4 : bs = [] := List.length_eq_zero_iff.1 h3
    rw [h3, h1]
    clear hB hmax h2 h3
    subst h4
    go_enter Tryz.func59, Tryz.ntmps59
    go_wp2
    go_ret
    exact ⟨Keep.refl _ _, none, 0, 0, w.heap.size, rfl, rfl, ⟨.inr rfl, fun _ => rfl, fun j hj => by simp at hj, fun j => by simp, Nat.le_refl _, by decide⟩, Nat.le_refl _⟩
  | some ad =>
    have hown := World.ownsRow_made (e := 5) (size := 1) (base := w.heap.size) w #[] 0 (Nat.le_refl _) (Nat.zero_le _) rfl
    have hsr : SrcB (w.alloc (.cells #[] 5)) (.slice (some ad) bs.length cap) bs := hB.src.keep ((Keep.refl _ w).alloc _)
    have hc' : ∀ j u, (u8s bs)[j]? = some u → (w.alloc (.cells #[] 5)).cell? (ad.add j) = some u := by
      rcases hsr with ⟨h, _⟩ | ⟨a', c', h, hc⟩
      · cases h
      · cases h; exact hc
    have hlt := hB.lt
    clear hsr hB
    go_enter Tryz.func59, Tryz.ntmps59
    go_wp2_with (at_builtin; refine wpList_append_own _ rfl _ _ 22 rfl w.heap.size 5 i0 (.int .u8 0) 1 1 Tryz.underlying22 hi hz0 hz1 hz2 rfl (by decide) (.slice (some ⟨w.heap.size, 0, none⟩) 0 0) 0 [] rfl hown ad bs.length cap (u8s bs) rfl (by simp [u8s_length]) hc' (u8s_one bs) (by omega) (by omega) (by simp) ?_; intro v' w1 hown' hgrow hnil)
    go_ret
    rw [Nat.zero_add, List.nil_append] at hown'
    obtain ⟨a', cap', g, rfl, hB', hnew⟩ := owns_bytesN (M := bs) (owns_weak hown').1 hlt (by omega) (owns_weak hown').2
    refine ⟨((Keep.refl _ w).alloc _).grown hgrow (fun k e hk => ?_), a', _, cap', g, rfl, rfl, hB', hnew⟩
    have e' : w.heap.size = k := by simpa [Value.ownBlock] using e
    omega

end Go.Proofs.YtnjilcokkhodmaaGreatDoor

namespace Go.Proofs.YtnjilcokkhodmaaGreatDoor
open Go.RowKit Go.Shelf
set_option linter.unusedVariables false

section
attribute [local go_sem] sliceSem_eq
set_option maxRecDepth 100000 in
set_option maxHeartbeats 1000000 in
theorem readHead_any (a : Option Addr) (cap gb off : Nat) (bs : List Nat) (w : World) (hB : Bytes w a cap gb off bs) (hF : Frm w) (hne : bs ≠ []) :
  Calls Tryz.prog 45 #[.slice a bs.length cap] w fun e w' => Keep noBlock w w' ∧ ((bs.length < hBy bs ∧ e = .returned (.tuple #[headV 0 0 0 0 0 0 0, .bool false])) ∨ (hBy bs ≤ bs.length ∧ e = .returned (.tuple #[headV (hKi bs) (hBy bs) (frN (hKi bs) (hFo bs)) (btN (hKi bs) (hFo bs)) (hRw bs) (hSz bs) (hPk bs), .bool true]))) := by
 have hl : 0 < bs.length := List.length_pos_iff.2 hne
 have h0 := hB.cells 0 hl
 obtain ⟨x, hx⟩ : ∃ x, x = bs[0]?.getD 0 := ⟨_, rfl⟩
 have hx256 : x < 256 := by rw [hx]; exact hB.lt 0
 rw [← hx, Nat.add_zero] at h0
 obtain rfl : a = some ⟨gb, off, none⟩ := hB.at_.resolve_right hne
 obtain ⟨k, hk⟩ : ∃ k, k = x % 4 := ⟨_, rfl⟩
 obtain ⟨f, hf⟩ : ∃ f, f = x / 4 % 4 := ⟨_, rfl⟩
 obtain ⟨i, hi⟩ : ∃ i, i = k / 2 := ⟨_, rfl⟩
 have hF1 := hF i f (by omega) (by omega)
 obtain ⟨q1, q2, q3, q4⟩ := hbN_two (k := k) (f := f) (by omega)
 rw [← hi] at q1 q2 q3 q4
 rw [q1, q2, q3, q4] at hF1
 obtain ⟨HB, hHB⟩ : ∃ HB, HB = hbN k f := ⟨_, rfl⟩
 obtain ⟨HF, hHF⟩ : ∃ HF, HF = frN k f := ⟨_, rfl⟩
 obtain ⟨HT, hHT⟩ : ∃ HT, HT = btN k f := ⟨_, rfl⟩
 obtain ⟨HR, hHR⟩ : ∃ HR, HR = rwN k f := ⟨_, rfl⟩
 rw [← hHB, ← hHF, ← hHT, ← hHR] at hF1
 have e1 : bits .and .u8 (x : Int) 3 = (k : Int) := by rw [hk]; exact and3_u8 x hx256
 have e2 : bits .and .u8 ((x : Int) / 4) 3 = (f : Int) := by
  rw [show ((x : Int) / 4) = ((x / 4 : Nat) : Int) from by omega, hf]; exact and3_u8 (x / 4) (by omega)
 have e3 : (k : Int).tdiv 2 = (i : Int) := by rw [hi]; rfl
 obtain ⟨n, hn⟩ : ∃ n, n = bs.length := ⟨_, rfl⟩
 have g0 : ((n : Int) == 0) = false := by rw [beq_eq_false_iff_ne]; omega
 have hk0 := fun vs : Array Value => (Keep.refl noBlock w).alloc (.cells vs 91)
 have z0 := fun vs : Array Value => keep_cell0 (hk0 vs) h0
 rw [← hn] at hl ⊢
 have hk4 : (k : Int) ≤ 3 := by omega
 have hi1 : (i : Int) < 2 := by omega
 have hf4 : (f : Int) < 4 := by omega
 have hHB5 : 1 ≤ HB ∧ HB ≤ 5 := by rw [hHB]; exact hbN_le k f
 have wi : IntKind.i64.wrap (i : Int) = (i : Int) := by rw [IntKind.wrap_i64]; omega
 have wf : IntKind.u8.wrap (f : Int) = (f : Int) := by rw [IntKind.wrap_u8]; omega
 have hi0 : (0 : Int) ≤ (i : Int) := by omega
 have hf0 : (0 : Int) ≤ (f : Int) := by omega
 have HH := hid (show x = bs[0]?.getD 0 ∧ k = x % 4 ∧ f = x / 4 % 4 ∧ i = k / 2 ∧ HB = hbN k f ∧ HF = frN k f ∧ HT = btN k f ∧ HR = rwN k f ∧ n = bs.length ∧ Bytes w (some ⟨gb, off, none⟩) cap gb off bs ∧ Frm w from ⟨hx, hk, hf, hi, hHB, hHF, hHT, hHR, hn, hB, hF⟩)
 clear hk0 hx hk hf hi hHB hHF hHT hHR hn hB hF q1 q2 q3 q4 hne hx256
 obtain ⟨y1, y2, y3, y4⟩ := hF1
 go_enter Tryz.func45, Tryz.ntmps45
 go_wp2_with fail
 have o1 := World.alloc_heap_new w (.cells #[.int .i64 (k : Int), .int .i64 0, .int .i64 0, .int .i64 0, .int .i64 0, .int .i64 0, .int .i64 0] 91)
 have hk1 := (Keep.refl noBlock w).alloc (.cells #[.int .i64 (k : Int), .int .i64 0, .int .i64 0, .int .i64 0, .int .i64 0, .int .i64 0, .int .i64 0] 91)
 have hz := z0 #[.int .i64 (k : Int), .int .i64 0, .int .i64 0, .int .i64 0, .int .i64 0, .int .i64 0, .int .i64 0]
 obtain ⟨hb, hhb⟩ : ∃ hb, hb = w.heap.size := ⟨_, rfl⟩
 rw [← hhb] at o1 ⊢
 generalize w.alloc (.cells #[.int .i64 (k : Int), .int .i64 0, .int .i64 0, .int .i64 0, .int .i64 0, .int .i64 0, .int .i64 0] 91) = W1 at o1 hk1 hz ⊢
 have x1 := keep_cell0 hk1 y1
 have x2 := keep_cell0 hk1 y2
 have x3 := keep_cell0 hk1 y3
 have x4 := keep_cell0 hk1 y4
 have c0 : W1.cell? ⟨hb, 0, none⟩ = some (.int .i64 (k : Int)) := cell_of o1 0
 have c1 : W1.cell? ⟨hb, 1, none⟩ = some (.int .i64 0) := cell_of o1 1
 have c2 : W1.cell? ⟨hb, 2, none⟩ = some (.int .i64 0) := cell_of o1 2
 have c3 : W1.cell? ⟨hb, 3, none⟩ = some (.int .i64 0) := cell_of o1 3
 have c4 : W1.cell? ⟨hb, 4, none⟩ = some (.int .i64 0) := cell_of o1 4
 have f1 := frozen_of o1 1
 have f2 := frozen_of o1 2
 have f3 := frozen_of o1 3
 have f4 := frozen_of o1 4
 have hgh : gb ≠ hb := by have := World.block_lt_of_cell? w ⟨gb, off, none⟩ h0; rw [hhb]; exact Nat.ne_of_lt this
 have h0h : 1 ≠ hb := by have := World.block_lt_of_cell? w _ y1; rw [hhb]; exact Nat.ne_of_lt this
 obtain ⟨W2, hW2⟩ : ∃ W2, W2 = (((W1.setCell ⟨hb, 1, none⟩ (.int .i64 (HB : Int))).setCell ⟨hb, 2, none⟩ (.int .i64 (HF : Int))).setCell ⟨hb, 3, none⟩ (.int .i64 (HT : Int))).setCell ⟨hb, 4, none⟩ (.int .i64 (HR : Int)) := ⟨_, rfl⟩
 have k2 : Keep (fun j => j = hb) W1 W2 := by
  rw [hW2]
  exact ((((Keep.refl (fun j => j = hb) W1).setCell (p := ⟨hb, 1, none⟩) (fun _ => rfl) _).setCell (p := ⟨hb, 2, none⟩) (fun _ => rfl) _).setCell (p := ⟨hb, 3, none⟩) (fun _ => rfl) _).setCell (p := ⟨hb, 4, none⟩) (fun _ => rfl) _
 have o2 : W2.heap[hb]? = some (.cells #[.int .i64 (k : Int), .int .i64 (HB : Int), .int .i64 (HF : Int), .int .i64 (HT : Int), .int .i64 (HR : Int), .int .i64 0, .int .i64 0] 91 (0, 0)) := by
  rw [hW2, set_obj (set_obj (set_obj (set_obj o1 1 _) 2 _) 3 _) 4 _]
  rfl
 have kc : ∀ (b j : Nat) (v : Value), b ≠ hb → W1.cell? ⟨b, j, none⟩ = some v → W2.drew.cell? ⟨b, j, none⟩ = some v := fun b j v hne h =>
  (World.cell?_of_block (w := W1) (w' := W2.drew) (k2.drew.block b (World.block_lt_of_cell? W1 ⟨b, j, none⟩ h) hne)).trans h
 have d0 : W2.drew.cell? ⟨hb, 0, none⟩ = some (.int .i64 (k : Int)) := cell_of (w := W2.drew) o2 0
 have d1 := kc _ _ _ hgh hz
 have d2 := kc _ _ _ h0h x1
 have d3 := kc _ _ _ h0h x2
 have d4 := kc _ _ _ h0h x3
 have d5 := kc _ _ _ h0h x4
 have HW := hid (show Keep (fun j => j = hb) W1 W2 ∧ W2.heap[hb]? = some (.cells #[.int .i64 (k : Int), .int .i64 (HB : Int), .int .i64 (HF : Int), .int .i64 (HT : Int), .int .i64 (HR : Int), .int .i64 0, .int .i64 0] 91 (0, 0)) from ⟨k2, o2⟩)
 have HI := hid (show hb = w.heap.size ∧ Keep noBlock w W1 ∧ W1.heap[hb]? = some (.cells #[.int .i64 (k : Int), .int .i64 0, .int .i64 0, .int .i64 0, .int .i64 0, .int .i64 0, .int .i64 0] 91 (0, 0)) from ⟨hhb, hk1, o1⟩)
 rw [hW2] at d0 d1 d2 d3 d4 d5
 have HE := hid hW2
 clear y1 y2 y3 y4 z0 h0 hhb hk1 o1 kc k2 o2 hW2
 go_region_held3 (fun w' => w'.cell? ⟨hb, 0, none⟩ = some (.int .i64 (k : Int)) ∧ w'.cell? ⟨gb, off, none⟩ = some (.int .u8 (x : Int)) ∧ w'.cell? ⟨1, i * 16 + f * 4, none⟩ = some (.int .i64 (HB : Int)) ∧ w'.cell? ⟨1, i * 16 + f * 4 + 1, none⟩ = some (.int .i64 (HF : Int)) ∧ w'.cell? ⟨1, i * 16 + f * 4 + 2, none⟩ = some (.int .i64 (HT : Int)) ∧ w'.cell? ⟨1, i * 16 + f * 4 + 3, none⟩ = some (.int .i64 (HR : Int))) (first | go_keep | exact d0 | exact d1 | exact d2 | exact d3 | exact d4 | exact d5) ((fail))
 rw [← HE.out]
 clear d0 d1 d2 d3 d4 d5 c0 c1 c2 c3 c4 f1 f2 f3 f4 x1 x2 x3 x4 hz
 have hK3 : Keep noBlock w W2.drew := by
  have h1 := HI.out
  exact (h1.2.1.trans HW.out.1 (fun i hi e => by omega)).drew
 have o3 : W2.drew.heap[hb]? = some (.cells #[.int .i64 (k : Int), .int .i64 (HB : Int), .int .i64 (HF : Int), .int .i64 (HT : Int), .int .i64 (HR : Int), .int .i64 0, .int .i64 0] 91 (0, 0)) := HW.out.2
 rename_i hHeld
 clear hHeld HW HE
 generalize W2.drew = W3 at hK3 o3 ⊢
 have hhb : w.heap.size ≤ hb := by rw [HI.out.1]; exact Nat.le_refl _
 clear HI e1 e2 e3 wi wf hi1 hf4 hi0 hf0
 have c0 : W3.cell? ⟨hb, 0, none⟩ = some (.int .i64 (k : Int)) := cell_of o3 0
 have c1 : W3.cell? ⟨hb, 1, none⟩ = some (.int .i64 (HB : Int)) := cell_of o3 1
 have c2 : W3.cell? ⟨hb, 2, none⟩ = some (.int .i64 (HF : Int)) := cell_of o3 2
 have c3 : W3.cell? ⟨hb, 3, none⟩ = some (.int .i64 (HT : Int)) := cell_of o3 3
 have c4 : W3.cell? ⟨hb, 4, none⟩ = some (.int .i64 (HR : Int)) := cell_of o3 4
 have c5 : W3.cell? ⟨hb, 5, none⟩ = some (.int .i64 0) := cell_of o3 5
 have c6 : W3.cell? ⟨hb, 6, none⟩ = some (.int .i64 0) := cell_of o3 6
 have f0 := frozen_of o3 0
 have f1 := frozen_of o3 1
 have f2 := frozen_of o3 2
 have f3 := frozen_of o3 3
 have f4 := frozen_of o3 4
 have f5 := frozen_of o3 5
 have f6 := frozen_of o3 6
 by_cases hs : n < HB
 ·have hsI : (n : Int) < (HB : Int) := by omega
  go_wp2_with fail
  refine bodyPost_ret (resH rfl rfl (set7 o3 _ _ _ _ _ _ _) rfl) rfl ⟨keep7 hK3 hhb _ _ _ _ _ _ _, .inl ⟨?_, rfl⟩⟩
  obtain ⟨e1, e2, e3, e4, e5, e6, e7, e8, e9, -⟩ := HH.out
  unfold hBy hKi hFo
  rw [← e1, ← e2, ← e3, ← e5]
  exact hs
 ·have hsI : ¬ (n : Int) < (HB : Int) := by omega
  have hsI2 : (HB : Int) ≤ (n : Int) := by omega
  have hB3 : Bytes W3 (some ⟨gb, off, none⟩) cap gb off bs := HH.out.2.2.2.2.2.2.2.2.2.1.keep hK3 (fun _ h => h)
  obtain ⟨hsl, hBt⟩ := hB3.take HB (by have := HH.out.2.2.2.2.2.2.2.2.1; omega)
  have htl : (bs.take HB).length = HB := by rw [List.length_take]; have := HH.out.2.2.2.2.2.2.2.2.1; omega
  rw [← HH.out.2.2.2.2.2.2.2.2.1, htl] at hsl
  have HBt := hid (show Bytes W3 (some ⟨gb, off, none⟩) cap gb off (bs.take HB) ∧ (bs.take HB).length = HB from ⟨hBt, htl⟩)
  clear hB3 hBt htl
  go_wp2_with fail
  go_loop [4, 43] (fun v4 v43 => ∃ j N : Nat, v43 = .int .i64 (j : Int) ∧ j ≤ HB ∧ v4 = .int .u64 (N : Int) ∧ Hid (N = numN (bs.take j))) (fun _ v43 => HB - (intOf v43).toNat)
  case atStart => exact ⟨0, 0, rfl, Nat.zero_le _, rfl, by rw [List.take_zero]; rfl⟩
  case round =>
   obtain ⟨j, N, rfl, hj, rfl, HN⟩ := hrel
   by_cases hlt : j < HB
   ·have hltI : (j : Int) < (HB : Int) := by omega
    obtain ⟨y, hy⟩ : ∃ y, y = (bs.take HB)[j]?.getD 0 := ⟨_, rfl⟩
    have hcy := HBt.out.1.cells j (by rw [HBt.out.2]; exact hlt)
    rw [← hy] at hcy
    have hy256 : y < 256 := by rw [hy]; exact HBt.out.1.lt j
    have HY := hid hy
    have hy2 : (y : Int) < 256 := by omega
    obtain ⟨j8, hj8⟩ : ∃ j8, j8 = 8 * j := ⟨_, rfl⟩
    have e8 : 8 * (j : Int) = (j8 : Int) := by omega
    have b8 : (j8 : Int) ≤ 40 := by omega
    have H8 := hid hj8
    clear hy hj8
    have hor : bits .or .u64 (N : Int) (IntKind.u64.wrap ((y : Int) * 2 ^ j8)) = ((N + 256 ^ j * y : Nat) : Int) := by
     have hN : N < 256 ^ j := by
      rw [HN.out]
      have := numN_lt (l := bs.take j) (fun b hb => lt_mem HH.out.2.2.2.2.2.2.2.2.2.1.lt b (List.mem_of_mem_take hb))
      rwa [List.length_take, Nat.min_eq_left (by have := HH.out.2.2.2.2.2.2.2.2.1; omega)] at this
     have hpw : 256 ^ j = 2 ^ j8 := by rw [H8.out, Nat.pow_mul]
     have hj4 : 256 ^ j ≤ 4294967296 := Nat.le_trans (Nat.pow_le_pow_right (by decide) (show j ≤ 4 by omega)) (by decide)
     rw [hpw] at hN hj4 ⊢
     have hm : 2 ^ j8 * y ≤ 4294967296 * 255 := Nat.mul_le_mul hj4 (by omega)
     have ey : IntKind.u64.wrap ((y : Int) * 2 ^ j8) = ((2 ^ j8 * y : Nat) : Int) := by
      rw [show ((y : Int) * 2 ^ j8) = ((2 ^ j8 * y : Nat) : Int) from by rw [Nat.mul_comm]; simp]
      exact wraps_u64 _ (by omega) (by omega)
     rw [ey]
     exact or_add64 N y j8 hN (by omega)
    obtain ⟨N2, hN2⟩ : ∃ N2, N2 = N + 256 ^ j * y := ⟨_, rfl⟩
    rw [← hN2] at hor
    have HN2 := hid hN2
    clear hN2
    obtain ⟨j1, hj1⟩ : ∃ j1, j1 = j + 1 := ⟨_, rfl⟩
    have ej : (j : Int) + 1 = (j1 : Int) := by omega
    have HJ1 := hid hj1
    have hjb : (j1 : Int) ≤ 5 := by omega
    clear hj1
    go_wp2_with fail
    refine ⟨⟨j1, N2, rfl, by rw [HJ1.out]; omega, rfl, ?_⟩, ?_⟩
    ·rw [HJ1.out, HN2.out, HN.out, HY.out]
     have := numN_take (l := bs) (k := j) (by have := HH.out.2.2.2.2.2.2.2.2.1; omega)
     rw [List.getElem?_take, if_pos hlt]
     exact this.symm
    ·have := HJ1.out
     simp only [intOf, Int.toNat_natCast]
     omega
   ·have hltI : ¬ (j : Int) < (HB : Int) := by omega
    obtain rfl : j = HB := by omega
    obtain ⟨e1, e2, e3, e4, e5, e6, e7, e8, e9, -⟩ := HH.out
    have hHF : HF = frN (hKi bs) (hFo bs) := by unfold hKi hFo; rw [← e1, ← e2, ← e3]; exact e6
    have hHT : HT = btN (hKi bs) (hFo bs) := by unfold hKi hFo; rw [← e1, ← e2, ← e3]; exact e7
    have hHB : j = hBy bs := by unfold hBy hKi hFo; rw [← e1, ← e2, ← e3]; exact e5
    have hHR : HR = hRw bs := by unfold hRw hKi hFo; rw [← e1, ← e2, ← e3]; exact e8
    have hkk : k = hKi bs := by unfold hKi; rw [← e1]; exact e2
    have b1 := frN_le (hKi bs) (hFo bs)
    have b2 := btN_le (hKi bs) (hFo bs)
    have hNu : N = hNu bs := by rw [HN.out, hHB]; rfl
    have hNlt : N < 1099511627776 := by
     rw [HN.out]
     have := numN_lt (l := bs.take j) (fun b hb => lt_mem HH.out.2.2.2.2.2.2.2.2.2.1.lt b (List.mem_of_mem_take hb))
     rw [List.length_take, Nat.min_eq_left (by omega)] at this
     have h5 : 256 ^ j ≤ 256 ^ 5 := Nat.pow_le_pow_right (by decide) hHB5.2
     have : 256 ^ 5 = 1099511627776 := by decide
     omega
    obtain ⟨FT, hFT⟩ : ∃ FT, FT = HF + HT := ⟨_, rfl⟩
    have eFT : (HF : Int) + (HT : Int) = (FT : Int) := by omega
    obtain ⟨P2, hP2⟩ : ∃ P2, P2 = 2 ^ HT := ⟨_, rfl⟩
    have hPb : 1 ≤ P2 ∧ P2 ≤ 1048576 := by rw [hP2]; exact ⟨Nat.two_pow_pos _, by rw [hHT]; exact pow_bt _ _⟩
    have hmask : IntKind.u64.wrap (IntKind.u64.wrap ((2 : Int) ^ min HT 64) - 1) = ((2 ^ HT - 1 : Nat) : Int) := by
     rw [show min HT 64 = HT from by omega, wrap_pow HT (by omega), ← hP2]
     exact wrap_pred P2 hPb.1 (by omega)
    have w64 : ∀ q : Nat, q < 1048576 → wrap64 (q : Int) = (q : Int) := fun q hq => by unfold wrap64; omega
    obtain ⟨SZ, hSZ⟩ : ∃ SZ, SZ = hSz bs := ⟨_, rfl⟩
    have E5 := hid (show wrap64 (bits .and .u64 ((N : Int) / 2 ^ min HF 64) (IntKind.u64.wrap (IntKind.u64.wrap ((2 : Int) ^ min HT 64) - 1))) = (SZ : Int) from by
     rw [hmask, show min HF 64 = HF from by omega, shr_nat, and_mask64 _ _ (by have := Nat.div_le_self N (2 ^ HF); omega) (by omega)]
     rw [show N / 2 ^ HF % 2 ^ HT = SZ from by rw [hSZ, hNu, hHF, hHT]; rfl]
     exact w64 _ (by rw [hSZ]; exact hSz_lt bs))
    by_cases hk2 : k < 2
    ·have hR0 : HR = 0 := by rw [hHR]; unfold hRw rwN; rw [if_pos (by omega)]
     have hR2 : ¬ (0 : Int) < (HR : Int) := by omega
     have hPk0 : hPk bs = 0 := by unfold hPk; rw [if_pos (by omega)]
     have HG := hid (show j = hBy bs ∧ HF = frN (hKi bs) (hFo bs) ∧ HT = btN (hKi bs) (hFo bs) ∧ HR = hRw bs ∧ k = hKi bs ∧ SZ = hSz bs ∧ 0 = hPk bs ∧ n = bs.length from ⟨hHB, hHF, hHT, hHR, hkk, hSZ, hPk0.symm, e9⟩)
     subst hR0
     clear e1 e2 e3 e4 e5 e6 e7 e8 e9 hHF hHT hHB hHR hkk b1 b2 hNu hNlt hFT hP2 hPb hSZ hPk0 hk2 hmask w64 eFT
     rw [show ((0 : Nat) : Int) = (0 : Int) from rfl] at c4 o3 hR2
     go_wp2_with fail
     refine bodyPost_ret (resH rfl rfl (set7 (set_obj o3 5 _) _ _ _ _ _ _ _) rfl) rfl ⟨keep7 (hK3.setCell (p := ⟨hb, 5, none⟩) (fun h => absurd (show hb < _ from h) (by omega)) _) hhb _ _ _ _ _ _ _, .inr ⟨?_, ?_⟩⟩
     ·have := HG.out; omega
     ·obtain ⟨q1, q2, q3, q4, q5, q6, q7, -⟩ := HG.out
      rw [← q1, ← q2, ← q3, ← q4, ← q5, ← q6, ← q7, E5.out]
      rfl
    ·have hR0 : 0 < HR := by rw [hHR]; unfold hRw rwN; rw [if_neg (by omega)]; split <;> omega
     have hR2 : (0 : Int) < (HR : Int) := by omega
     obtain ⟨PK, hPK⟩ : ∃ PK, PK = hPk bs := ⟨_, rfl⟩
     have E6 := hid (show wrap64 (bits .and .u64 ((N : Int) / 2 ^ min FT 64) (IntKind.u64.wrap (IntKind.u64.wrap ((2 : Int) ^ min HT 64) - 1))) = (PK : Int) from by
      rw [hmask, show min FT 64 = FT from by omega, shr_nat, and_mask64 _ _ (by have := Nat.div_le_self N (2 ^ FT); omega) (by omega)]
      rw [show N / 2 ^ FT % 2 ^ HT = PK from by rw [hPK, hFT, hNu, hHF, hHT]; unfold hPk; rw [if_neg (by omega)]]
      exact w64 _ (by rw [hPK]; exact hPk_lt bs))
     have ftb : (FT : Int) ≤ 24 := by omega
     have m1 : min HF 64 = HF := by omega
     have m2 : min HT 64 = HT := by omega
     have m3 : min FT 64 = FT := by omega
     have F5 := E5.out
     have F6 := E6.out
     rw [m1, m2] at F5
     rw [m3, m2] at F6
     have G5 := hid F5
     have G6 := hid F6
     have HG := hid (show j = hBy bs ∧ HF = frN (hKi bs) (hFo bs) ∧ HT = btN (hKi bs) (hFo bs) ∧ HR = hRw bs ∧ k = hKi bs ∧ SZ = hSz bs ∧ PK = hPk bs ∧ n = bs.length from ⟨hHB, hHF, hHT, hHR, hkk, hSZ, hPK, e9⟩)
     clear e1 e2 e3 e4 e5 e6 e7 e8 e9 hHF hHT hHB hHR hkk b1 b2 hNu hNlt hFT hP2 hPb hSZ hR0 hk2 hPK hmask w64 m1 m2 m3 F5 F6
     go_wp2_with fail
     refine bodyPost_ret (resH rfl rfl (set7 (set_obj (set_obj o3 5 _) 6 _) _ _ _ _ _ _ _) rfl) rfl ⟨keep7 ((hK3.setCell (p := ⟨hb, 5, none⟩) (fun h => absurd (show hb < _ from h) (by omega)) _).setCell (p := ⟨hb, 6, none⟩) (fun h => absurd (show hb < _ from h) (by omega)) _) hhb _ _ _ _ _ _ _, .inr ⟨?_, ?_⟩⟩
     ·have := HG.out; omega
     ·obtain ⟨q1, q2, q3, q4, q5, q6, q7, -⟩ := HG.out
      rw [← q1, ← q2, ← q3, ← q4, ← q5, ← q6, ← q7, G5.out, G6.out]
      rfl

end
end Go.Proofs.YtnjilcokkhodmaaGreatDoor
