/-
  Weights that make a code, and the words of their bytes: no program is named here.
  share, sumOf, makeCode; the document's Bits.
  makeCode, and the document's Bits.
  words: the words of a code, one behind the other.
  slices.Backward over bytes.
  The array of words, and the bits that are packed.
  The array of cells in which words are found.
-/
import Derived.Laws.Rows
import Derived.Laws.Tables
import Derived.Deep.WholeRow
import Derived.Test.YtcoahkmiebeeeaaDoorReadP5
namespace Go.Proofs.YtcoahkmiebeeeaaDoor
open Go

theorem sumN_add (g h : Nat → Nat) (n : Nat) : sumN (fun i => g i + h i) n = sumN g n + sumN h n := by
  induction n with
  | zero => rfl
  | succ n ih => simp only [sumN]; omega
theorem sumN_pos (g : Nat → Nat) (n : Nat) (h : 0 < sumN g n) : ∃ i, i < n ∧ 0 < g i := by
  induction n with
  | zero => simp [sumN] at h
  | succ n ih =>
    simp only [sumN] at h
    by_cases h0 : 0 < g n
    · exact ⟨n, by omega, h0⟩
    · obtain ⟨i, h1, h2⟩ := ih (by omega)
      exact ⟨i, by omega, h2⟩

/-- The weight of byte i. -/
def wt (ws : List Nat) (i : Nat) : Nat := ws[i]?.getD 0
/-- How many numbers a weight takes. -/
def shN (x : Nat) : Nat := if x = 0 then 0 else 2 ^ (x - 1)
theorem shN_le (x : Nat) (h : x ≤ 11) : shN x ≤ 1024 := by
  unfold shN
  split
  · omega
  · exact Nat.pow_le_pow_right (n := 2) (j := 10) (by omega) (by omega)
theorem shN_pos (x : Nat) (h : x ≠ 0) : shN x = 2 ^ (x - 1) := if_neg h
theorem shN_succ (c : Nat) : shN (c + 1) = 2 ^ c := rfl
def sumW (ws : List Nat) (i : Nat) : Nat := sumN (fun j => shN (wt ws j)) i
def onesW (ws : List Nat) (i : Nat) : Nat := sumN (fun j => if wt ws j = 1 then 1 else 0) i
theorem sumW_succ (ws : List Nat) (i : Nat) : sumW ws (i + 1) = sumW ws i + shN (wt ws i) := rfl
theorem onesW_succ (ws : List Nat) (i : Nat) : onesW ws (i + 1) = onesW ws i + (if wt ws i = 1 then 1 else 0) := rfl
theorem onesW_le (ws : List Nat) (i : Nat) : onesW ws i ≤ i := by
  have := sumN_le (fun j => if wt ws j = 1 then 1 else 0) i 1 (fun j _ => by split <;> omega)
  unfold onesW; omega
theorem sumW_le (ws : List Nat) (i : Nat) (h : ∀ j, j < i → wt ws j ≤ 11) : sumW ws i ≤ i * 1024 := sumN_le _ _ _ (fun j hj => shN_le _ (h j hj))

/-- The weights make a code of 2^m. -/
structure IsCode (ws : List Nat) (m : Nat) : Prop where
  len2 : 2 ≤ ws.length
  len : ws.length ≤ 256
  last : wt ws (ws.length - 1) ≠ 0
  le : ∀ i, i < ws.length → wt ws i ≤ 11
  sum : sumW ws ws.length = 2 ^ m
  m11 : m ≤ 11
  ones : 2 ≤ onesW ws ws.length
/-- Do they make a code? -/
def codeB (ws : List Nat) : Bool := decide (2 ≤ ws.length ∧ ws.length ≤ 256 ∧ wt ws (ws.length - 1) ≠ 0 ∧ (∀ i, i < ws.length → wt ws i ≤ 11) ∧ sumW ws ws.length = 2 ^ (lenN (sumW ws ws.length) - 1) ∧ lenN (sumW ws ws.length) - 1 ≤ 11 ∧ 2 ≤ onesW ws ws.length)
/-- m of weights that make a code, else 0. -/
def codeM (ws : List Nat) : Nat := if codeB ws then lenN (sumW ws ws.length) - 1 else 0
theorem codeB_is {ws : List Nat} (h : codeB ws = true) : IsCode ws (lenN (sumW ws ws.length) - 1) := by
  obtain ⟨h1, h2, h3, h4, h5, h6, h7⟩ := of_decide_eq_true h
  exact ⟨h1, h2, h3, h4, h5, h6, h7⟩
theorem lenN_pow (m : Nat) : lenN (2 ^ m) = m + 1 := lenN_eq _ _ (Nat.le_refl _) (Nat.pow_lt_pow_right (by omega) (by omega))
theorem IsCode.codeB {ws : List Nat} {m : Nat} (h : IsCode ws m) : codeB ws = true ∧ lenN (sumW ws ws.length) - 1 = m := by
  have e : lenN (sumW ws ws.length) - 1 = m := by rw [h.sum, lenN_pow]; omega
  refine ⟨decide_eq_true ⟨h.len2, h.len, h.last, h.le, ?_, ?_, h.ones⟩, e⟩
  · rw [e]; exact h.sum
  · rw [e]; exact h.m11
theorem IsCode.codeM {ws : List Nat} {m : Nat} (h : IsCode ws m) : codeM ws = m := by
  unfold YtcoahkmiebeeeaaDoor.codeM; rw [if_pos h.codeB.1]; exact h.codeB.2
theorem ones_le_sum (ws : List Nat) (n : Nat) : onesW ws n ≤ sumW ws n := sumN_mono _ _ _ (fun i _ => by
  split
  · rename_i e; rw [e]; exact Nat.le_refl _
  · omega)
theorem IsCode.m1 {ws : List Nat} {m : Nat} (h : IsCode ws m) : 1 ≤ m := by
  have h1 := ones_le_sum ws ws.length
  have h2 := h.sum
  have h3 := h.ones
  rcases m with _ | m
  · simp at h2; omega
  · omega
theorem codeM_zero {ws : List Nat} : codeM ws = 0 ↔ codeB ws = false := by
  unfold codeM
  cases hb : codeB ws with
  | false => simp
  | true =>
    have := (codeB_is hb).m1
    simp
    omega
theorem IsCode.wt_le {ws : List Nat} {m : Nat} (h : IsCode ws m) (i : Nat) (hi : i < ws.length) : wt ws i ≤ m := by
  have hm := h.m1
  by_cases hw : wt ws i ≤ m
  · exact hw
  · exfalso
    obtain ⟨k, hk, hk1⟩ := sumN_pos _ _ (show 0 < onesW ws ws.length by have := h.ones; omega)
    have hk2 : wt ws k = 1 := by
      by_cases e : wt ws k = 1
      · exact e
      · rw [if_neg e] at hk1; omega
    have hne : i ≠ k := by rintro rfl; omega
    have := sumN_two (fun j => shN (wt ws j)) ws.length i k hi hk hne
    rw [hk2] at this
    have hs : sumN (fun j => shN (wt ws j)) ws.length = 2 ^ m := h.sum
    rw [hs, shN_pos _ (show wt ws i ≠ 0 by omega)] at this
    have h2 : 2 ^ m ≤ 2 ^ (wt ws i - 1) := Nat.pow_le_pow_right (by omega) (by omega)
    have : shN 1 = 1 := rfl
    omega

/-- The bytes below i whose weight is c + 1. -/
def symsW (ws : List Nat) (c : Nat) : Nat → List Nat
  | 0 => []
  | i + 1 => if wt ws i = c + 1 then symsW ws c i ++ [i] else symsW ws c i
/-- The bytes of weights up to c, in the order in which numbers are given out. -/
def ordC (ws : List Nat) : Nat → List Nat
  | 0 => []
  | c + 1 => ordC ws c ++ symsW ws c ws.length
/-- Those of weights up to c, and those of weight c + 1 that are below i. -/
def ordTo (ws : List Nat) (c i : Nat) : List Nat := ordC ws c ++ symsW ws c i
theorem ordTo_zero (ws : List Nat) (c : Nat) : ordTo ws c 0 = ordC ws c := List.append_nil _
theorem ordTo_all (ws : List Nat) (c : Nat) : ordTo ws c ws.length = ordC ws (c + 1) := rfl
theorem ordTo_here (ws : List Nat) (c i : Nat) (h : wt ws i = c + 1) : ordTo ws c (i + 1) = ordTo ws c i ++ [i] := by
  simp only [ordTo, symsW]; rw [if_pos h, List.append_assoc]
theorem ordTo_not (ws : List Nat) (c i : Nat) (h : wt ws i ≠ c + 1) : ordTo ws c (i + 1) = ordTo ws c i := by
  simp only [ordTo, symsW]; rw [if_neg h]
theorem symsW_grow (ws : List Nat) (c i n : Nat) (h : i ≤ n) : ∃ r, symsW ws c n = symsW ws c i ++ r := by
  induction n with
  | zero => obtain rfl : i = 0 := by omega
            exact ⟨[], rfl⟩
  | succ n ih =>
    by_cases e : i = n + 1
    · subst e; exact ⟨[], (List.append_nil _).symm⟩
    · obtain ⟨r, hr⟩ := ih (by omega)
      simp only [symsW]
      split
      · exact ⟨r ++ [n], by rw [hr, List.append_assoc]⟩
      · exact ⟨r, hr⟩
theorem ordC_grow (ws : List Nat) (c d : Nat) (h : c ≤ d) : ∃ r, ordC ws d = ordC ws c ++ r := by
  induction d with
  | zero => obtain rfl : c = 0 := by omega
            exact ⟨[], rfl⟩
  | succ d ih =>
    by_cases e : c = d + 1
    · subst e; exact ⟨[], (List.append_nil _).symm⟩
    · obtain ⟨r, hr⟩ := ih (by omega)
      exact ⟨r ++ symsW ws d ws.length, by rw [ordC, hr, List.append_assoc]⟩
theorem ordTo_grow (ws : List Nat) (c i m : Nat) (hi : i ≤ ws.length) (hc : c < m) : ∃ r, ordC ws m = ordTo ws c i ++ r := by
  obtain ⟨r1, h1⟩ := symsW_grow ws c i ws.length hi
  obtain ⟨r2, h2⟩ := ordC_grow ws (c + 1) m (by omega)
  exact ⟨r1 ++ r2, by rw [h2, ordC, h1, ordTo, List.append_assoc, List.append_assoc, List.append_assoc]⟩
theorem mem_symsW (ws : List Nat) (c n s : Nat) : s ∈ symsW ws c n ↔ s < n ∧ wt ws s = c + 1 := by
  induction n with
  | zero => simp [symsW]
  | succ n ih =>
    simp only [symsW]
    split
    · rename_i e
      rw [List.mem_append, ih, List.mem_singleton]
      constructor
      · rintro (⟨h1, h2⟩ | rfl)
        · exact ⟨by omega, h2⟩
        · exact ⟨by omega, e⟩
      · rintro ⟨h1, h2⟩
        by_cases h : s = n
        · exact .inr h
        · exact .inl ⟨by omega, h2⟩
    · rename_i e
      rw [ih]
      constructor
      · rintro ⟨h1, h2⟩; exact ⟨by omega, h2⟩
      · rintro ⟨h1, h2⟩
        refine ⟨?_, h2⟩
        by_cases h : s = n
        · subst h; exact absurd h2 e
        · omega
theorem mem_ordC (ws : List Nat) (c s : Nat) : s ∈ ordC ws c ↔ s < ws.length ∧ 1 ≤ wt ws s ∧ wt ws s ≤ c := by
  induction c with
  | zero => simp [ordC]; omega
  | succ c ih =>
    rw [ordC, List.mem_append, ih, mem_symsW]
    omega

/-- The numbers that bytes take, one behind the other: each number's byte. -/
def cellsL (ws : List Nat) : List Nat → List Nat
  | [] => []
  | s :: l => List.replicate (shN (wt ws s)) s ++ cellsL ws l
theorem cellsL_app (ws : List Nat) (a b : List Nat) : cellsL ws (a ++ b) = cellsL ws a ++ cellsL ws b := by
  induction a with
  | nil => rfl
  | cons s a ih => rw [List.cons_append, cellsL, cellsL, ih, List.append_assoc]
theorem cellsL_one (ws : List Nat) (s : Nat) : cellsL ws [s] = List.replicate (shN (wt ws s)) s := by simp [cellsL]
/-- How many numbers they take. -/
def nextL (ws : List Nat) (l : List Nat) : Nat := (cellsL ws l).length
theorem nextL_app (ws : List Nat) (a b : List Nat) : nextL ws (a ++ b) = nextL ws a + nextL ws b := by unfold nextL; rw [cellsL_app, List.length_append]
theorem nextL_one (ws : List Nat) (s : Nat) : nextL ws [s] = shN (wt ws s) := by unfold nextL; rw [cellsL_one, List.length_replicate]
theorem nextL_syms (ws : List Nat) (c i : Nat) : nextL ws (symsW ws c i) = sumN (fun j => if wt ws j = c + 1 then shN (wt ws j) else 0) i ∧ ∃ k, nextL ws (symsW ws c i) = k * 2 ^ c := by
  induction i with
  | zero => exact ⟨rfl, 0, by rw [Nat.zero_mul]; rfl⟩
  | succ i ih =>
    obtain ⟨h1, k, h2⟩ := ih
    simp only [symsW, sumN]
    split
    · rename_i e
      rw [nextL_app, nextL_one]
      refine ⟨by rw [h1], k + 1, ?_⟩
      rw [h2, e, shN_succ, Nat.add_mul, Nat.one_mul]
    · exact ⟨by rw [h1]; rfl, k, h2⟩
theorem nextL_ordC (ws : List Nat) (c : Nat) : nextL ws (ordC ws c) = sumN (fun j => if 1 ≤ wt ws j ∧ wt ws j ≤ c then shN (wt ws j) else 0) ws.length := by
  induction c with
  | zero =>
    show 0 = _
    rw [sumN_congr _ (fun _ => 0) _ (fun i _ => if_neg (by omega))]
    have := sumN_le (fun _ => 0) ws.length 0 (fun _ _ => Nat.le_refl _)
    omega
  | succ c ih =>
    rw [ordC, nextL_app, ih, (nextL_syms ws c ws.length).1, ← sumN_add]
    refine sumN_congr _ _ _ (fun i _ => ?_)
    by_cases h1 : 1 ≤ wt ws i ∧ wt ws i ≤ c
    · rw [if_pos h1, if_neg (by omega), if_pos (by omega)]; rfl
    · rw [if_neg h1]
      by_cases h2 : wt ws i = c + 1
      · rw [if_pos h2, if_pos (by omega), Nat.zero_add]
      · rw [if_neg h2, if_neg (by omega)]
theorem IsCode.all {ws : List Nat} {m : Nat} (h : IsCode ws m) : nextL ws (ordC ws m) = 2 ^ m := by
  rw [nextL_ordC, ← h.sum]
  refine sumN_congr _ _ _ (fun i hi => ?_)
  have := h.wt_le i hi
  by_cases h1 : 1 ≤ wt ws i
  · rw [if_pos ⟨h1, this⟩]
  · rw [if_neg (by omega), show wt ws i = 0 from by omega]; rfl
/-- The numbers up to a weight's first one are a multiple of what the weight takes. -/
theorem nextL_mul (ws : List Nat) (c d : Nat) (h : c ≤ d) : ∃ k, nextL ws (ordC ws d) = nextL ws (ordC ws c) + k * 2 ^ c := by
  induction d with
  | zero => obtain rfl : c = 0 := by omega
            exact ⟨0, by omega⟩
  | succ d ih =>
    by_cases e : c = d + 1
    · subst e; exact ⟨0, by omega⟩
    · obtain ⟨k, hk⟩ := ih (by omega)
      obtain ⟨j, hj⟩ := (nextL_syms ws d ws.length).2
      refine ⟨k + j * 2 ^ (d - c), ?_⟩
      rw [ordC, nextL_app, hk, hj, Nat.add_mul, Nat.mul_assoc, ← Nat.pow_add, show d - c + c = d from by omega]
      omega
/-- The first number of byte s. -/
def startW (ws : List Nat) (s : Nat) : Nat := nextL ws (ordTo ws (wt ws s - 1) s)
/-- The word of byte s, as a number; its bits are m + 1 - wt ws s. -/
def wordX (ws : List Nat) (s : Nat) : Nat := startW ws s / 2 ^ (wt ws s - 1)
theorem IsCode.start_mul {ws : List Nat} {m : Nat} (h : IsCode ws m) (c i : Nat) (hc : c ≤ m) : ∃ k, nextL ws (ordTo ws c i) = k * 2 ^ c := by
  obtain ⟨k, hk⟩ := nextL_mul ws c m hc
  obtain ⟨j, hj⟩ := (nextL_syms ws c i).2
  rw [h.all] at hk
  have e : 2 ^ m = 2 ^ (m - c) * 2 ^ c := by rw [← Nat.pow_add, show m - c + c = m from by omega]
  refine ⟨2 ^ (m - c) - k + j, ?_⟩
  rw [ordTo, nextL_app, hj, Nat.add_mul, Nat.sub_mul, ← e]
  omega
theorem IsCode.word {ws : List Nat} {m : Nat} (h : IsCode ws m) (s : Nat) (hs : s < ws.length) : startW ws s = wordX ws s * 2 ^ (wt ws s - 1) := by
  obtain ⟨k, hk⟩ := h.start_mul (wt ws s - 1) s (by have := h.wt_le s hs; omega)
  unfold wordX startW
  rw [hk, Nat.mul_div_cancel _ (Nat.two_pow_pos _)]
/-- A byte's numbers are below 2^m. -/
theorem IsCode.start_le {ws : List Nat} {m : Nat} (h : IsCode ws m) (s : Nat) (hs : s < ws.length) (h1 : 1 ≤ wt ws s) : startW ws s + 2 ^ (wt ws s - 1) ≤ 2 ^ m := by
  have hm := h.wt_le s hs
  obtain ⟨r, hr⟩ := ordTo_grow ws (wt ws s - 1) (s + 1) m (by omega) (by omega)
  have hall := h.all
  rw [hr, nextL_app, ordTo_here ws _ s (by omega), nextL_app, nextL_one, shN_pos _ (by omega)] at hall
  unfold startW
  omega
theorem IsCode.word_lt {ws : List Nat} {m : Nat} (h : IsCode ws m) (s : Nat) (hs : s < ws.length) (h1 : 1 ≤ wt ws s) : wordX ws s < 2 ^ (m + 1 - wt ws s) := by
  have h2 := h.start_le s hs h1
  have h3 := h.word s hs
  have h4 := h.wt_le s hs
  have e : 2 ^ m = 2 ^ (m + 1 - wt ws s) * 2 ^ (wt ws s - 1) := by rw [← Nat.pow_add, show m + 1 - wt ws s + (wt ws s - 1) = m from by omega]
  rw [h3, e] at h2
  have h5 : (wordX ws s + 1) * 2 ^ (wt ws s - 1) ≤ 2 ^ (m + 1 - wt ws s) * 2 ^ (wt ws s - 1) := by rw [Nat.add_mul, Nat.one_mul]; exact h2
  have := Nat.le_of_mul_le_mul_right h5 (Nat.two_pow_pos _)
  omega
/-- The byte whose numbers x is one of. -/
def symX (ws : List Nat) (m x : Nat) : Nat := (cellsL ws (ordC ws m))[x]?.getD 0
theorem sym_in (ws : List Nat) (c i x : Nat) (hi : i ≤ ws.length) (hx : x < nextL ws (ordTo ws c i))
    (h0 : x < nextL ws (ordC ws c) → ∃ s, (cellsL ws (ordC ws c))[x]? = some s ∧ s < ws.length ∧ 1 ≤ wt ws s ∧ startW ws s ≤ x ∧ x < startW ws s + 2 ^ (wt ws s - 1)) :
    ∃ s, (cellsL ws (ordTo ws c i))[x]? = some s ∧ s < ws.length ∧ 1 ≤ wt ws s ∧ startW ws s ≤ x ∧ x < startW ws s + 2 ^ (wt ws s - 1) := by
  induction i with
  | zero =>
    rw [ordTo_zero] at hx ⊢
    exact h0 hx
  | succ i ih =>
    by_cases e : wt ws i = c + 1
    · have he := ordTo_here ws c i e
      rw [he] at hx ⊢
      by_cases hlt : x < nextL ws (ordTo ws c i)
      · obtain ⟨s, h1, h2⟩ := ih (by omega) hlt
        exact ⟨s, by rw [cellsL_app, List.getElem?_append_left hlt]; exact h1, h2⟩
      · rw [nextL_app, nextL_one] at hx
        have hst : startW ws i = nextL ws (ordTo ws c i) := by unfold startW; rw [e, Nat.add_sub_cancel]
        rw [shN_pos _ (by omega)] at hx
        refine ⟨i, ?_, by omega, by omega, by omega, by omega⟩
        rw [cellsL_app, List.getElem?_append_right (by unfold nextL at hlt; omega), cellsL_one, List.getElem?_replicate, if_pos]
        rw [shN_pos _ (by omega)]
        unfold nextL at hlt hx
        omega
    · rw [ordTo_not ws c i e] at hx ⊢
      exact ih (by omega) hx
/-- Each number is a byte's. -/
theorem sym_to (ws : List Nat) (c i x : Nat) (hi : i ≤ ws.length) (hx : x < nextL ws (ordTo ws c i)) :
    ∃ s, (cellsL ws (ordTo ws c i))[x]? = some s ∧ s < ws.length ∧ 1 ≤ wt ws s ∧ startW ws s ≤ x ∧ x < startW ws s + 2 ^ (wt ws s - 1) := by
  induction c generalizing i x with
  | zero => exact sym_in ws 0 i x hi hx (fun h => by simp [ordC, nextL, cellsL] at h)
  | succ c ih =>
    refine sym_in ws (c + 1) i x hi hx (fun h => ?_)
    rw [← ordTo_all] at h ⊢
    exact ih ws.length x (Nat.le_refl _) h
theorem IsCode.sym {ws : List Nat} {m : Nat} (h : IsCode ws m) (x : Nat) (hx : x < 2 ^ m) :
    symX ws m x < ws.length ∧ 1 ≤ wt ws (symX ws m x) ∧ startW ws (symX ws m x) ≤ x ∧ x < startW ws (symX ws m x) + 2 ^ (wt ws (symX ws m x) - 1) := by
  have hm := h.m1
  obtain ⟨k, rfl⟩ : ∃ k, m = k + 1 := ⟨m - 1, by omega⟩
  obtain ⟨s, h1, h2⟩ := sym_to ws k ws.length x (Nat.le_refl _) (by rw [ordTo_all, h.all]; exact hx)
  rw [ordTo_all] at h1
  have e : symX ws (k + 1) x = s := by unfold symX; rw [h1]; rfl
  rw [e]
  exact h2
/-- The numbers of s are its. -/
theorem IsCode.block {ws : List Nat} {m : Nat} (h : IsCode ws m) (s x : Nat) (hs : s < ws.length) (h1 : 1 ≤ wt ws s) (hx1 : startW ws s ≤ x) (hx2 : x < startW ws s + 2 ^ (wt ws s - 1)) : symX ws m x = s := by
  have hm := h.wt_le s hs
  obtain ⟨r, hr⟩ := ordTo_grow ws (wt ws s - 1) (s + 1) m (by omega) (by omega)
  unfold symX
  rw [hr, ordTo_here ws _ s (by omega), cellsL_app, cellsL_app]
  unfold startW nextL at hx1 hx2
  rw [List.getElem?_append_left (by rw [List.length_append, cellsL_one, List.length_replicate, shN_pos _ (by omega)]; omega), List.getElem?_append_right hx1, cellsL_one, List.getElem?_replicate, if_pos (by rw [shN_pos _ (by omega)]; omega)]
  rfl
/-- A number begins with the word of s just where it is one of its numbers. -/
theorem IsCode.begins {ws : List Nat} {m : Nat} (h : IsCode ws m) (s x : Nat) (hs : s < ws.length) (h1 : 1 ≤ wt ws s) (hx : x < 2 ^ m) : x / 2 ^ (wt ws s - 1) = wordX ws s ↔ symX ws m x = s := by
  have hw := h.word s hs
  have hp := Nat.two_pow_pos (wt ws s - 1)
  constructor
  · intro e
    have e1 := Nat.div_add_mod x (2 ^ (wt ws s - 1))
    have e2 := Nat.mod_lt x hp
    rw [e, Nat.mul_comm, ← hw] at e1
    exact h.block s x hs h1 (by omega) (by omega)
  · intro e
    have := h.sym x hx
    rw [e] at this
    obtain ⟨-, -, a, b⟩ := this
    rw [hw] at a b
    refine Nat.div_eq_of_lt_le a ?_
    rw [Nat.add_mul, Nat.one_mul]; exact b

end Go.Proofs.YtcoahkmiebeeeaaDoor

namespace Go.Proofs.YtcoahkmiebeeeaaDoor
open Go.RowKit Go.Shelf

set_option maxRecDepth 100000 in
set_option maxHeartbeats 1000000 in
/-- math/bits.Len64 of a number below 2^24. -/
theorem len64_big (x : Nat) (hx : x < 16777216) (w : World) : Calls Tryd.prog 67 #[.int .u64 (x : Int)] w fun e w' => e = .returned (.int .i64 ((lenN x : Nat) : Int)) ∧ w' = w := by
  by_cases h : x < 65536
  · exact len64_any x h w
  · have g1 : ¬ (4294967296 : Int) ≤ (x : Int) := by omega
    have g2 : (65536 : Int) ≤ (x : Int) := by omega
    have hs : lenN x = 16 + lenN (x / 65536) := by
      have h1 := lenN_shift x (by omega)
      have h2 := lenN_shift (x / 256) (by omega)
      rw [Nat.div_div_eq_div_mul, show 256 * 256 = 65536 from rfl] at h2
      omega
    obtain ⟨y, hy⟩ : ∃ y, y = x / 65536 := ⟨_, rfl⟩
    have hd : (x : Int) / 2 ^ 16 = (y : Int) := by omega
    have hd' : (x : Int) / 65536 = (y : Int) := by omega
    rw [← hy] at hs
    have hy2 : y < 256 := by omega
    have hyI : (y : Int) < 256 := by omega
    have hyn : ¬ (256 : Int) ≤ (y : Int) := by omega
    generalize lenN x = lx at hs ⊢
    have HS := (show Hid _ from hs)
    have HY := (show Hid _ from hy)
    clear hs hy
    go_enter Tryd.func67, Tryd.ntmps67
    go_wp2
    go_ret
    refine ⟨congrArg (fun x => Ending.returned (Value.int .i64 x)) ?_, rfl⟩
    rw [HS.out]
    clear w g1 g2 hx HS HY hd hd' h x lx
    revert hyn hyI hy2
    revert y
    decide +kernel

set_option maxHeartbeats 400000 in
theorem len_big (x : Nat) (hx : x < 16777216) (w : World) : Calls Tryd.prog 47 #[.int .u64 (x : Int)] w fun e w' => e = .returned (.int .i64 ((lenN x : Nat) : Int)) ∧ w' = w := by
  go_enter Tryd.func47, Tryd.ntmps47
  go_wp2_with (go_at_call 67; refine (len64_big x hx _).mono ?_; rintro e w' ⟨rfl, rfl⟩)
  go_ret
  exact ⟨rfl, rfl⟩

set_option maxHeartbeats 400000 in
/-- share. -/
theorem shareW_any (x : Nat) (hx : x ≤ 11) (w : World) : Calls Tryd.prog 65 #[.int .u8 (x : Int)] w fun e w' => e = .returned (.int .i64 ((shN x : Nat) : Int)) ∧ w' = w := by
  by_cases h0 : x = 0
  · subst h0
    go_enter Tryd.func65, Tryd.ntmps65
    go_wp2
    go_ret
    exact ⟨rfl, rfl⟩
  · have hb : ((x : Int) == 0) = false := by rw [beq_eq_false_iff_ne]; omega
    obtain ⟨k, hk⟩ : ∃ k, x = k + 1 := ⟨x - 1, by omega⟩
    have hkI : (x : Int) - 1 = (k : Int) := by omega
    have hk10 : (k : Int) ≤ 10 := by omega
    have hxI : (x : Int) ≤ 11 := by omega
    have hsh : shN x = 2 ^ k := by rw [hk]; rfl
    have hp : 2 ^ k ≤ 1024 := Nat.pow_le_pow_right (n := 2) (j := 10) (by omega) (by omega)
    have hpI : wrap64 ((2 : Int) ^ k) = ((shN x : Nat) : Int) := by
      rw [hsh]
      have e : (2 : Int) ^ k = ((2 ^ k : Nat) : Int) := by simp
      rw [e]
      generalize 2 ^ k = y at hp
      unfold wrap64; omega
    generalize shN x = y at *
    have HP := (show Hid _ from hpI)
    clear hk hsh hp hpI
    go_enter Tryd.func65, Tryd.ntmps65
    go_wp2
    go_ret
    exact ⟨congrArg (fun x => Ending.returned (Value.int .i64 x)) HP.out, rfl⟩

/-- No weight is too great. -/
def okW (ws : List Nat) : Bool := decide (∀ i, i < ws.length → wt ws i ≤ 11)

set_option maxRecDepth 100000 in
set_option maxHeartbeats 1000000 in
/-- sumOf. -/
theorem sumOfW_any (a : Option Addr) (cap gb off : Nat) (ws : List Nat) (w : World) (hB : Bytes w a cap gb off ws) (hl : ws.length ≤ 256) :
    Calls Tryd.prog 46 #[.slice a ws.length cap] w fun e w' => (okW ws = true ∧ e = .returned (.tuple #[.int .i64 ((sumW ws ws.length : Nat) : Int), .bool true]) ∨ okW ws = false ∧ e = .returned (.tuple #[.int .i64 0, .bool false])) ∧ w' = w := by
  have HB := (show Hid (Bytes w a cap gb off ws) from hB)
  obtain ⟨n, hn⟩ : ∃ n, n = ws.length := ⟨_, rfl⟩
  rw [← hn] at hl ⊢
  have HN := (show Hid (n = ws.length) from hn)
  have hnI : (n : Int) ≤ 256 := by omega
  clear hB hn
  go_enter Tryd.func46, Tryd.ntmps46
  go_wp2
  go_loop [2, 8] (fun v2 v8 => ∃ i : Nat, v8 = .int .i64 (i : Int) ∧ v2 = .int .i64 ((sumW ws i : Nat) : Int) ∧ i ≤ n ∧ Hid (∀ j, j < i → wt ws j ≤ 11)) (fun _ v8 => n - (intOf v8).toNat)
  case atStart => exact ⟨0, rfl, rfl, Nat.zero_le _, fun j hj => by omega⟩
  case round =>
    obtain ⟨i, rfl, rfl, hi, HA⟩ := hrel
    have hsb := sumW_le ws i HA.out
    have hsI : ((sumW ws i : Nat) : Int) ≤ 262144 := by omega
    by_cases hlt : i < n
    · have hix : i < ws.length := by have := HN.out; omega
      obtain rfl : a = some ⟨gb, off, none⟩ := by
        rcases HB.out.at_ with e | e
        · exact e
        · rw [e] at hix; simp at hix
      have c0 := HB.out.cells i hix
      have hx256 := HB.out.lt i
      have HS := (show Hid (sumW ws (i + 1) = sumW ws i + shN (wt ws i)) from rfl)
      have hltI : (i : Int) < (n : Int) := by omega
      have HX := (show Hid (wt ws i = ws[i]?.getD 0) from rfl)
      rw [HX.out] at HS
      obtain ⟨x, hx⟩ : ∃ x, x = ws[i]?.getD 0 := ⟨_, rfl⟩
      rw [← hx] at c0 hx256 HS HX
      clear hsb hx
      by_cases h11 : x ≤ 11
      · have hxI : (x : Int) ≤ 11 := by omega
        have hs1 := shN_le x h11
        have HSH := (show Hid (∀ w : World, _) from fun w => shareW_any x h11 w)
        generalize shN x = y at *
        generalize sumW ws i = si at *
        have hyI : (y : Int) ≤ 1024 := by omega
        go_wp2_with (go_at_call 65; refine (HSH.out _).mono ?_; rintro e w' ⟨rfl, rfl⟩)
        go_round
        case rel => exact ⟨i + 1, by go_num, by rw [HS.out]; go_num, by omega, fun j hj => by
          by_cases e : j = i
          · subst e; rw [HX.out]; exact h11
          · exact HA.out j (by omega)⟩
        case measure => simp [intOf]; omega
      · have hxI : ¬ (x : Int) ≤ 11 := by omega
        have hx256I : (x : Int) < 256 := by omega
        generalize sumW ws i = si at *
        go_wp2_with fail
        go_ret2
        exact ⟨.inr ⟨decide_eq_false (fun h => h11 (by have := h i hix; rwa [HX.out] at this)), rfl⟩, rfl⟩
    · obtain rfl : i = n := by omega
      have hltI : ¬ (i : Int) < (i : Int) := by omega
      clear hsb
      go_wp2
      go_ret2
      exact ⟨.inl ⟨decide_eq_true (fun j hj => HA.out j (by have := HN.out; omega)), rfl⟩, rfl⟩

end Go.Proofs.YtcoahkmiebeeeaaDoor

namespace Go.Proofs.YtcoahkmiebeeeaaDoor
open Go.RowKit Go.Shelf

theorem Bytes.here {w : World} {a : Option Addr} {cap gb off : Nat} {bs : List Nat} (h : Bytes w a cap gb off bs) {i : Nat} (hi : i < bs.length) : a = some ⟨gb, off, none⟩ := by
  rcases h.at_ with e | e
  · exact e
  · rw [e] at hi; simp at hi

theorem codeB_short {ws : List Nat} (h : ws.length < 2) : codeB ws = false := decide_eq_false (fun q => by omega)
theorem codeB_long {ws : List Nat} (h : 256 < ws.length) : codeB ws = false := decide_eq_false (fun q => by omega)
theorem codeB_last {ws : List Nat} (h : wt ws (ws.length - 1) = 0) : codeB ws = false := decide_eq_false (fun q => q.2.2.1 h)
theorem codeB_ok {ws : List Nat} (h : okW ws = false) : codeB ws = false := decide_eq_false (fun q => (of_decide_eq_false h) q.2.2.2.1)

/-- What makeCode answers. -/
def Made (ws : List Nat) (w : World) (e : Ending) (w' : World) : Prop := ∃ l : Int, e = .returned (.tuple #[.int .i64 l, .bool (codeB ws)]) ∧ (codeB ws = true → l = ((codeM ws : Nat) : Int)) ∧ w' = w
theorem made_no {ws : List Nat} {w : World} (l : Int) (h : codeB ws = false) : Made ws w (.returned (.tuple #[.int .i64 l, .bool false])) w := ⟨l, by rw [h], fun e => (by rw [h] at e; cases e), rfl⟩

set_option maxRecDepth 100000 in
set_option maxHeartbeats 2000000 in
/-- makeCode. -/
theorem makeCode_any (a : Option Addr) (cap gb off : Nat) (ws : List Nat) (w : World) (hB : Bytes w a cap gb off ws) :
    Calls Tryd.prog 38 #[.slice a ws.length cap] w fun e w' => Made ws w e w' := by
  have HB := (show Hid (Bytes w a cap gb off ws) from hB)
  have h48 := hB.len
  obtain ⟨n, hn⟩ : ∃ n, n = ws.length := ⟨_, rfl⟩
  have HN := (show Hid (n = ws.length) from hn)
  have hnI : (n : Int) < 281474976710656 := by omega
  rw [← hn]
  by_cases h2 : n < 2
  · have h2I : (n : Int) < 2 := by omega
    have HC := (show Hid _ from codeB_short (ws := ws) (by omega))
    clear hB hn
    go_enter Tryd.func38, Tryd.ntmps38
    go_wp2
    go_ret2
    exact made_no 0 HC.out
  · have h2I : ¬ (n : Int) < 2 := by omega
    by_cases h256 : 256 < n
    · have h256I : (256 : Int) < (n : Int) := by omega
      have HC := (show Hid _ from codeB_long (ws := ws) (by omega))
      clear hB hn
      go_enter Tryd.func38, Tryd.ntmps38
      go_wp2
      go_ret2
      exact made_no 0 HC.out
    · have h256I : ¬ (256 : Int) < (n : Int) := by omega
      obtain ⟨k, hk⟩ : ∃ k, n = k + 1 := ⟨n - 1, by omega⟩
      have hk1 : (n : Int) - 1 = (k : Int) := by omega
      have hkn : (k : Int) < (n : Int) := by omega
      obtain rfl := hB.here (i := k) (by omega)
      have c0 := hB.cells k (by omega)
      have hx256 := hB.lt k
      obtain ⟨x, hx⟩ : ∃ x, x = ws[k]?.getD 0 := ⟨_, rfl⟩
      have hlast : wt ws (ws.length - 1) = x := by unfold wt; rw [hx]; congr 2; omega
      rw [← hx] at c0 hx256
      have HS := (show Hid (∀ u : Unit, Calls Tryd.prog 46 _ w _) from fun _ => sumOfW_any _ cap gb off ws w hB (by omega))
      rw [← hn] at HS
      by_cases hx0 : x = 0
      · have HC := (show Hid _ from codeB_last (ws := ws) (by rw [hlast]; exact hx0))
        subst hx0
        clear hB hn hk hlast hx
        go_enter Tryd.func38, Tryd.ntmps38
        go_wp2
        go_ret2
        exact made_no 0 HC.out
      · have hxb : ((x : Int) == 0) = false := by rw [beq_eq_false_iff_ne]; omega
        have hxI : (x : Int) < 256 := by omega
        have HL := (show Hid (wt ws (ws.length - 1) ≠ 0 ∧ n = k + 1) from ⟨by rw [hlast]; exact hx0, hk⟩)
        clear hB hn hk hlast hx hx0
        go_enter Tryd.func38, Tryd.ntmps38
        cases hok : okW ws with
        | false =>
          have HC := (show Hid _ from codeB_ok (ws := ws) hok)
          have HS2 := (show Hid (Calls Tryd.prog 46 #[.slice (some ⟨gb, off, none⟩) n cap] w fun e w' => e = .returned (.tuple #[.int .i64 0, .bool false]) ∧ w' = w) from (HS.out ()).mono (by
            rintro e w' ⟨h, rfl⟩
            rw [hok] at h
            rcases h with ⟨h, _⟩ | ⟨_, rfl⟩
            · cases h
            · exact ⟨rfl, rfl⟩))
          clear HS hok
          go_wp2_with (go_at_call 46; refine HS2.out.mono ?_; rintro e w' ⟨rfl, rfl⟩)
          go_ret2
          exact made_no 0 HC.out
        | true =>
          have HS2 := (show Hid (Calls Tryd.prog 46 #[.slice (some ⟨gb, off, none⟩) n cap] w fun e w' => e = .returned (.tuple #[.int .i64 ((sumW ws ws.length : Nat) : Int), .bool true]) ∧ w' = w) from (HS.out ()).mono (by
            rintro e w' ⟨h, rfl⟩
            rw [hok] at h
            rcases h with ⟨_, rfl⟩ | ⟨h, _⟩
            · rw [HN.out]; exact ⟨rfl, rfl⟩
            · cases h))
          have HOK := (show Hid (okW ws = true) from hok)
          have hsb := sumW_le ws ws.length (of_decide_eq_true hok)
          have hs0 : 0 < sumW ws ws.length := by
            have h1 := sumN_ge (fun j => shN (wt ws j)) ws.length (ws.length - 1) (by have := HN.out; omega)
            have h2 : 0 < shN (wt ws (ws.length - 1)) := by rw [shN_pos _ HL.out.1]; exact Nat.two_pow_pos _
            unfold sumW
            omega
          have hsS : sumW ws ws.length < 16777216 := by have := HN.out; omega
          have HCB := (show Hid (codeB ws = decide (sumW ws ws.length = 2 ^ (lenN (sumW ws ws.length) - 1) ∧ lenN (sumW ws ws.length) - 1 ≤ 11 ∧ 2 ≤ onesW ws ws.length)) from by
            have hnn := HN.out
            unfold codeB
            rw [Bool.eq_iff_iff, decide_eq_true_iff, decide_eq_true_iff]
            exact ⟨fun h => h.2.2.2.2, fun h => ⟨by omega, by omega, HL.out.1, of_decide_eq_true hok, h⟩⟩)
          have HCM := (show Hid (codeB ws = true → codeM ws = lenN (sumW ws ws.length) - 1) from fun h => by unfold codeM; rw [if_pos h])
          obtain ⟨q1, q2, q3⟩ := lenN_pos (sumW ws ws.length) (by omega)
          have hl18 : lenN (sumW ws ws.length) ≤ 24 := lenN_le _ _ (by omega)
          have HLN := (show Hid (∀ w : World, _) from fun w => len_big _ hsS w)
          generalize sumW ws ws.length = S at *
          obtain ⟨L1, hL1⟩ : ∃ L1, L1 = lenN S := ⟨_, rfl⟩
          rw [← hL1] at HLN HCB HCM hl18 q3
          obtain ⟨l, hl⟩ : ∃ l, l = L1 - 1 := ⟨_, rfl⟩
          have hl1 : (L1 : Int) - 1 = (l : Int) := by omega
          rw [← hl] at HCB HCM
          have hSI : (S : Int) < 16777216 := by omega
          have hlI : (L1 : Int) ≤ 24 := by omega
          clear HS hok hsb q1 q2 q3 hl hL1
          by_cases h11 : l ≤ 11
          · have h11I : ¬ (11 : Int) < (l : Int) := by omega
            have hp : 2 ^ l ≤ 2048 := Nat.pow_le_pow_right (n := 2) (j := 11) (by omega) h11
            have hpI : wrap64 ((2 : Int) ^ l) = ((2 ^ l : Nat) : Int) := by
              have e : (2 : Int) ^ l = ((2 ^ l : Nat) : Int) := by simp
              rw [e]
              generalize 2 ^ l = y at hp
              unfold wrap64; omega
            generalize 2 ^ l = P at *
            by_cases hSP : S = P
            · subst hSP
              have hne : ((S : Int) != (S : Int)) = false := by simp
              go_wp2_with (go_at_call 46; refine HS2.out.mono ?_; rintro e w' ⟨rfl, rfl⟩)
              refine (HLN.out _).mono ?_
              rintro e w' ⟨rfl, rfl⟩
              have H11 := (show Hid _ from h11)
              clear hSI hp hs0 hsS hk1 hkn hxb h2I h256I hlI h48 hl18 hx256 hxI h11 c0 hnI
              go_wp2_with fail
              go_loop [6, 46] (fun v6 v46 => ∃ i : Nat, v46 = .int .i64 (i : Int) ∧ v6 = .int .i64 ((onesW ws i : Nat) : Int) ∧ i ≤ n) (fun _ v46 => n - (intOf v46).toNat)
              case atStart => exact ⟨0, rfl, rfl, Nat.zero_le _⟩
              case round =>
                clear hne hpI
                have h256I : (n : Int) ≤ 256 := by omega
                obtain ⟨i, rfl, rfl, hi⟩ := hrel
                have hob := onesW_le ws i
                have hoI : ((onesW ws i : Nat) : Int) ≤ 256 := by omega
                by_cases hlt : i < n
                · have hix : i < ws.length := by have := HN.out; omega
                  have c1 := HB.out.cells i hix
                  have hx256 := HB.out.lt i
                  have HO := (show Hid (onesW ws (i + 1) = onesW ws i + (if ws[i]?.getD 0 = 1 then 1 else 0)) from rfl)
                  have hltI : (i : Int) < (n : Int) := by omega
                  clear hob
                  generalize ws[i]?.getD 0 = y at *
                  generalize onesW ws i = oi at *
                  have hyI : (y : Int) < 256 := by omega
                  by_cases hy1 : y = 1
                  · have hyb : ((y : Int) == 1) = true := by simp [hy1]
                    have HY := (show Hid _ from hy1)
                    clear hy1
                    go_wp2_with fail
                    go_round
                    case rel => exact ⟨i + 1, by go_num, by rw [HO.out, if_pos HY.out]; go_num, by omega⟩
                    case measure => simp [intOf]; omega
                  · have hyb : ((y : Int) == 1) = false := by rw [beq_eq_false_iff_ne]; omega
                    go_wp2_with fail
                    go_round
                    case rel => exact ⟨i + 1, by go_num, by rw [HO.out, if_neg hy1]; go_num, by omega⟩
                    case measure => simp [intOf]; omega
                · obtain rfl : i = n := by omega
                  have hltI : ¬ (i : Int) < (i : Int) := by omega
                  have HO := (show Hid (codeB ws = decide (2 ≤ onesW ws i)) from by
                    rw [HCB.out, HN.out, Bool.eq_iff_iff, decide_eq_true_iff, decide_eq_true_iff]
                    exact ⟨fun h => h.2.2, fun h => ⟨trivial, H11.out, h⟩⟩)
                  clear hob
                  generalize onesW ws i = oi at *
                  by_cases h2o : 2 ≤ oi
                  · have h2I : (2 : Int) ≤ (oi : Int) := by omega
                    go_wp2_with fail
                    go_ret2
                    have hcb : codeB ws = true := by rw [HO.out]; exact decide_eq_true h2o
                    exact ⟨l, by rw [hcb]; rfl, fun h => by rw [HCM.out h], rfl⟩
                  · have h2I : ¬ (2 : Int) ≤ (oi : Int) := by omega
                    go_wp2_with fail
                    go_ret2
                    exact made_no l (by rw [HO.out]; exact decide_eq_false h2o)
            · have hne : ((S : Int) != (P : Int)) = true := by simp; omega
              have HC := (show Hid (codeB ws = false) from by rw [HCB.out]; exact decide_eq_false (fun h => hSP h.1))
              go_wp2_with (first | (go_at_call 46; refine HS2.out.mono ?_; rintro e w' ⟨rfl, rfl⟩) | (go_at_call 47; refine (HLN.out _).mono ?_; rintro e w' ⟨rfl, rfl⟩))
              go_ret2
              exact made_no 0 HC.out
          · have h11I : (11 : Int) < (l : Int) := by omega
            have HC := (show Hid (codeB ws = false) from by rw [HCB.out]; exact decide_eq_false (fun h => h11 h.2.1))
            go_wp2_with (first | (go_at_call 46; refine HS2.out.mono ?_; rintro e w' ⟨rfl, rfl⟩) | (go_at_call 47; refine (HLN.out _).mono ?_; rintro e w' ⟨rfl, rfl⟩))
            go_ret2
            exact made_no 0 HC.out
theorem codeM_no {ws : List Nat} (h : codeB ws = false) : codeM ws = 0 := codeM_zero.2 h

end Go.Proofs.YtcoahkmiebeeeaaDoor

namespace Go.Proofs.YtcoahkmiebeeeaaDoor
open Go.RowKit Go.Shelf
set_option linter.unusedVariables false

attribute [local go_sem] Oper.semAt_some

set_option maxHeartbeats 1000000 in
/-- words(weights, longest): two boxes, and the closure over them. -/
theorem words_in (F : Fence) (n : Nat) (h22 : F.fn 70) (hro : F.round = none) (a : Option Addr) (len cap : Nat) (m : Int) (w : World) :
    CallsIn F n Tryd.prog 70 #[.slice a len cap, .int .i64 m] w fun e w' => e = .returned (.func (.func 79) #[] #[.pointer (some ⟨w.heap.size + 1, 0, none⟩), .pointer (some ⟨w.heap.size, 0, none⟩)]) ∧ w' = (w.alloc (.cells #[.slice a len cap] 22)).alloc (.cells #[.int .i64 m] 3) := by
  refine callsIn_of_wp Tryd.func70 rfl h22 ?_ hro
  simp only [Tryd.ntmps70, List.size_toArray, List.length_cons, List.length_nil, Nat.reduceAdd, Nat.reduceSub, Array.replicate_succ, Array.replicate_zero, List.push_toArray, List.append_toArray, List.nil_append, List.cons_append]
  gi_wp2
  go_ret
  exact ⟨rfl, rfl⟩

/-- The boxes of a range over words, and the weights. -/
structure WBox (Bs Bm : Nat) (a : Option Addr) (cap gb off : Nat) (ws : List Nat) (m : Nat) (W : World) : Prop where
  bs : W.heap[Bs]? = some (.cells #[.slice a ws.length cap] 22 (0, 0))
  bm : W.heap[Bm]? = some (.cells #[.int .i64 (m : Int)] 3 (0, 0))
  row : Bytes W a cap gb off ws
def wordV (ws : List Nat) (m s : Nat) : Array Value := #[.int .u8 (s : Int), .agg #[.int .u64 ((wordX ws s : Nat) : Int), .int .i64 ((m + 1 - wt ws s : Nat) : Int)]]
/-- What words hands over behind the bytes pre. -/
def wordR (ws : List Nat) (m : Nat) (pre : List Nat) (vs : Array Value) (pre' : List Nat) (_ : World) : Prop := ∃ s, s < ws.length ∧ 1 ≤ wt ws s ∧ wt ws s ≤ m ∧ pre = ordTo ws (wt ws s - 1) s ∧ pre' = pre ++ [s] ∧ vs = wordV ws m s

set_option maxRecDepth 100000 in
set_option maxHeartbeats 4000000 in
/-- The closure that words makes. -/
theorem words1_in (n : Nat) (hn : 1 ≤ n) (l Bs Bm : Nat) (a : Option Addr) (cap gb off : Nat) (ws : List Nat) (m : Nat) (hc : IsCode ws m) (J : List Nat → World → Prop) (Jx : World → Prop)
    (hB : ∀ p W, J p W → WBox Bs Bm a cap gb off ws m W) (hD : ∀ p X Y, J p X → Keep noBlock X Y → J p Y)
    (hY : ∀ p vs p' V, wordR ws m p vs p' V → J p V → YieldAt Fence.wide (n - 1) Tryd.prog l vs V fun e W' => (e = .returned (.bool true) ∧ J p' W') ∨ (e = .returned (.bool false) ∧ Jx W')) (W : World) (h0 : J [] W) :
    CallsIn Fence.wide n Tryd.prog 79 #[.func (.yield l) #[] #[], .pointer (some ⟨Bm, 0, none⟩), .pointer (some ⟨Bs, 0, none⟩)] W fun e W' => (∃ v, e = .returned v) ∧ (J (ordC ws m) W' ∨ Jx W') := by
  have hb0 := hB _ _ h0
  have c1 : W.cell? ⟨Bm, 0, none⟩ = some (.int .i64 (m : Int)) := cell_of hb0.bm 0
  have hlen := hc.len
  have hm11 := hc.m11
  have HC := (show Hid (IsCode ws m) from hc)
  have HB := (show Hid (∀ p W, J p W → WBox Bs Bm a cap gb off ws m W) from hB)
  have HY := (show Hid (∀ p vs p' V, wordR ws m p vs p' V → J p V → _) from hY)
  have HD := (show Hid (∀ p X Y, J p X → Keep noBlock X Y → J p Y) from hD)
  obtain ⟨N, hN⟩ : ∃ N, N = ws.length := ⟨_, rfl⟩
  have HN := (show Hid (N = ws.length) from hN)
  rw [← hN] at hlen
  have hNI : (N : Int) ≤ 256 := by omega
  have hmI : (m : Int) ≤ 11 := by omega
  clear hB hY hb0 hc hN hD
  refine callsIn_of_wp Tryd.func79 rfl trivial ?_ rfl
  simp only [Tryd.ntmps79, List.size_toArray, List.length_cons, List.length_nil, Nat.reduceAdd, Nat.reduceSub, Array.replicate_succ, Array.replicate_zero, List.push_toArray, List.append_toArray, List.nil_append, List.cons_append]
  gi_wp2
  clear c1
  gi_loopw [4, 9] (fun v4 v9 wr => ∃ (c x : Nat), v9 = .int .i64 (c : Int) ∧ v4 = .int .i64 (x : Int) ∧ c ≤ m ∧ Hid (x = nextL ws (ordC ws c)) ∧ J (ordC ws c) wr) (fun _ v9 _ => m - (intOf v9).toNat)
  case atStart => exact ⟨0, 0, rfl, rfl, Nat.zero_le _, rfl, h0⟩
  case round =>
    clear h0
    obtain ⟨c, x, rfl, rfl, hcm, HX, hJ⟩ := hrel
    by_cases hlt : c < m
    · have hltI : (c : Int) < (m : Int) := by omega
      have hbx := HB.out _ _ hJ
      have c2 : wr.cell? ⟨Bs, 0, none⟩ = some (.slice a ws.length cap) := cell_of hbx.bs 0
      rw [← HN.out] at c2
      clear hbx
      gi_wp2_with fail
      clear c2
      gi_loopw [4, 14] (fun v4 v14 wr => ∃ (i x : Nat), v14 = .int .i64 (i : Int) ∧ v4 = .int .i64 (x : Int) ∧ i ≤ N ∧ Hid (x = nextL ws (ordTo ws c i)) ∧ J (ordTo ws c i) wr) (fun _ v14 _ => N - (intOf v14).toNat)
      case atStart => exact ⟨0, x, rfl, rfl, Nat.zero_le _, by rw [ordTo_zero]; exact HX.out, by rw [ordTo_zero]; exact hJ⟩
      case round =>
        clear hJ HX
        obtain ⟨i, x, rfl, rfl, hi, HX, hJ⟩ := hrel
        by_cases hil : i < N
        · have hix : i < ws.length := by have := HN.out; omega
          have hbx := HB.out _ _ hJ
          obtain rfl := hbx.row.here hix
          have c3 := hbx.row.cells i hix
          have hy11 := HC.out.le i hix
          have hilI : (i : Int) < (N : Int) := by omega
          have HW := (show Hid (wt ws i = ws[i]?.getD 0) from rfl)
          obtain ⟨y, hy⟩ : ∃ y, y = ws[i]?.getD 0 := ⟨_, rfl⟩
          rw [← hy] at c3 HW
          rw [HW.out] at hy11
          have hyI : (y : Int) ≤ 11 := by omega
          have c1 : wr.cell? ⟨Bm, 0, none⟩ = some (.int .i64 (m : Int)) := cell_of hbx.bm 0
          clear hbx hy
          by_cases hyc : y = c + 1
          · have hwi : wt ws i = c + 1 := by rw [HW.out]; exact hyc
            have hst : startW ws i = x := by unfold startW; rw [hwi, Nat.add_sub_cancel]; exact HX.out.symm
            obtain ⟨X, hX⟩ : ∃ X, X = wordX ws i := ⟨_, rfl⟩
            have hXx : X = x / 2 ^ c := by rw [hX]; unfold wordX; rw [hst, hwi, Nat.add_sub_cancel]
            have hXI : (x : Int) / 2 ^ c = (X : Int) := by rw [hXx]; simp
            have hxl : x + 2 ^ c ≤ 2 ^ m := by have := HC.out.start_le i hix (by omega); rw [hst, hwi, Nat.add_sub_cancel] at this; exact this
            have hp11 : 2 ^ m ≤ 2048 := Nat.pow_le_pow_right (n := 2) (j := 11) (by omega) hm11
            have hXl : X ≤ x := by rw [hXx]; exact Nat.div_le_self _ _
            have hx2 : x ≤ 2048 := Nat.le_trans (Nat.le_trans (Nat.le_add_right _ _) hxl) hp11
            obtain ⟨L, hL⟩ : ∃ L, L = m + 1 - wt ws i := ⟨_, rfl⟩
            have hLI : (m : Int) - (c : Int) = (L : Int) := by clear hxl hp11 hXI hXx; omega
            have hy2 := HY.out _ _ _ wr.drew ⟨i, hix, by omega, by omega, by rw [hwi, Nat.add_sub_cancel], rfl, rfl⟩ (HD.out _ _ _ hJ (Keep.refl _ wr).drew)
            unfold wordV at hy2
            rw [← hX, ← hL] at hy2
            rw [← ordTo_here ws c i hwi] at hy2
            obtain ⟨sh, hsh⟩ : ∃ sh, sh = shN y := ⟨_, rfl⟩
            have HSH := (show Hid (∀ w : World, Calls Tryd.prog 65 #[.int .u8 (y : Int)] w fun e w' => e = .returned (.int .i64 (sh : Int)) ∧ w' = w) from fun w => by rw [hsh]; exact shareW_any y hy11 w)
            have hshl : sh ≤ 1024 := by rw [hsh]; exact shN_le y hy11
            have hn2 : x + sh = nextL ws (ordTo ws c (i + 1)) := by rw [ordTo_here ws c i hwi, nextL_app, nextL_one, HW.out, hsh, HX.out]
            have HN2 := (show Hid _ from hn2)
            have hmx : Tryd.prog.follows .mixedOrders = true := by kernel_rfl
            have hiI : (i : Int) < 256 := by clear hxl hp11 hXI hXx; omega
            have hx2I : (x : Int) ≤ 2048 := by clear hxl hp11 hXI hXx; omega
            have hX2I : (X : Int) ≤ 2048 := by clear hxl hp11 hXI hXx; omega
            have hshI : (sh : Int) ≤ 1024 := by clear hxl hp11 hXI hXx; omega
            have hyc2 : (c : Int) + 1 = (y : Int) := by clear hxl hp11 hXI hXx; omega
            have hne : ((y : Int) != (y : Int)) = false := by simp
            have hw1 : IntKind.u8.wrap (i : Int) = (i : Int) := by clear hxl hp11 hXI hXx; rw [IntKind.wrap_u8]; omega
            have hw2 : IntKind.u64.wrap (X : Int) = (X : Int) := by clear hxl hp11 hXI hXx; rw [IntKind.wrap_u64]; omega
            have hw3 : IntKind.i64.wrap (L : Int) = (L : Int) := by clear hxl hp11 hXI hXx; rw [IntKind.wrap_i64]; omega
            clear hxl hp11 hXx hst hX hL hsh hXl hwi hyc hJ hn2
            obtain ⟨fn, tmps, assign, body, hy, hR⟩ := hy2
            have HR := (show Hid (RoundIn Fence.wide (n - 1) Tryd.prog l fn tmps assign body wr.drew fun e W' => ∃ b : Bool, e = .returned (.bool b) ∧ Hid ((b = true ∧ J (ordTo ws c (i + 1)) W') ∨ (b = false ∧ Jx W'))) from hR.mono (by
              rintro e W' (⟨rfl, h⟩ | ⟨rfl, h⟩)
              · exact ⟨true, rfl, .inl ⟨rfl, h⟩⟩
              · exact ⟨false, rfl, .inr ⟨rfl, h⟩⟩))
            clear hR
            gi_wp2_with fail
            refine wpIn_calm ?_
            gi_region_with_o (refine HR.out.mono ?_; rintro e W3 ⟨b, rfl, HJ3⟩)
            all_goals
              simp only [calm]
              cases b with
              | true =>
                have hJ3 : J (ordTo ws c (i + 1)) W3 := by
                  rcases HJ3.out with ⟨_, h⟩ | ⟨h, _⟩
                  · exact h
                  · cases h
                gi_wp2_with (refine ⟨trivial, ?_⟩; gi_at_call 65; refine (callsIn_wide.2 (HSH.out _)).mono ?_; rintro e w' ⟨rfl, rfl⟩)
                go_roundw
                case rel => exact ⟨i + 1, x + sh, by go_num, by go_num, by omega, HN2.out, hJ3⟩
                case measure => simp [intOf]; omega
              | false =>
                have hJ3 : Jx W3 := by
                  rcases HJ3.out with ⟨h, _⟩ | ⟨_, h⟩
                  · cases h
                  · exact h
                gi_wp2
                refine bodyPost_ret (results_none rfl _ _ _) rfl ?_
                exact ⟨⟨_, rfl⟩, .inr hJ3⟩
          · have hne : ((y : Int) != (c : Int) + 1) = true := by simp; omega
            have HJ := (show Hid (J (ordTo ws c (i + 1)) wr ∧ x = nextL ws (ordTo ws c (i + 1))) from by rw [ordTo_not ws c i (by rw [HW.out]; exact hyc)]; exact ⟨hJ, HX.out⟩)
            clear hJ hyc
            gi_wp2_with fail
            go_roundw
            case rel => exact ⟨i + 1, x, by go_num, rfl, by omega, HJ.out.2, HJ.out.1⟩
            case measure => simp [intOf]; omega
        · obtain rfl : i = N := by omega
          have hilI : ¬ (i : Int) < (i : Int) := by omega
          have HJ := (show Hid (J (ordC ws (c + 1)) wr ∧ x = nextL ws (ordC ws (c + 1))) from by rw [← ordTo_all, ← HN.out]; exact ⟨hJ, HX.out⟩)
          clear hJ
          gi_wp2_with fail
          go_roundw
          case rel => exact ⟨c + 1, x, by go_num, rfl, by omega, HJ.out.2, HJ.out.1⟩
          case measure => simp [intOf]; omega
    · obtain rfl : c = m := by omega
      have hltI : ¬ (c : Int) < (c : Int) := by omega
      gi_wp2
      go_end0
      exact ⟨⟨_, rfl⟩, .inl hJ⟩

end Go.Proofs.YtcoahkmiebeeeaaDoor

namespace Go.Proofs.YtcoahkmiebeeeaaDoor
open Go.RowKit Go.Shelf
set_option linter.unusedVariables false

attribute [local go_sem] Oper.semAt_some


/-- The box of a range over Backward, and the bytes. -/
structure BBox (Bs : Nat) (a : Option Addr) (cap gb off : Nat) (bs : List Nat) (W : World) : Prop where
  box : W.heap[Bs]? = some (.cells #[.slice a bs.length cap] 22 (0, 0))
  row : Bytes W a cap gb off bs
def backV (bs : List Nat) (k : Nat) : Array Value := #[.int .i64 (k : Int), .int .u8 ((bs[k]?.getD 0 : Nat) : Int)]
/-- What Backward hands over where k bytes are still to come. -/
def backR (bs : List Nat) (k : Nat) (vs : Array Value) (k' : Nat) (_ : World) : Prop := k = k' + 1 ∧ k ≤ bs.length ∧ vs = backV bs k'


end Go.Proofs.YtcoahkmiebeeeaaDoor

namespace Go.Proofs.YtcoahkmiebeeeaaDoor
open Go.RowKit Go.Shelf
set_option linter.unusedVariables false

theorem results_cell2 {fn : Func} {a b : Tmp} {t u : TypeId} (h : fn.results = #[.cell a t, .cell b u]) (tmps : Array Value) (P : Program) (w : World) (p q : Addr) (v x : Value) (ha : tmps[a]?.getD undef = .pointer (some p)) (hb : tmps[b]?.getD undef = .pointer (some q)) (hv : (loadVar t p).run P w = .ok v w) (hx : (loadVar u q).run P w = .ok x w) :
    (results fn tmps).run P w = .ok (.tuple #[v, x]) w := by
  simp [results, h, ha, hb, asAddr, hv, hx]
theorem agg22 : ∀ w, (isAgg 22).run Tryd.prog w = .ok false w := by intro w; kernel_rfl
theorem loadVar22 {w : World} {p : Addr} {v : Value} (h : w.cell? p = some v) : (loadVar 22 p).run Tryd.prog w = .ok v w := by
  simp only [loadVar, Sem.run_bind, agg22, Result.andThen]
  simp [run_load, h]
theorem agg23 : ∀ w, (isAgg 23).run Tryd.prog w = .ok false w := by intro w; kernel_rfl
theorem loadVar23 {w : World} {p : Addr} {v : Value} (h : w.cell? p = some v) : (loadVar 23 p).run Tryd.prog w = .ok v w := by
  simp only [loadVar, Sem.run_bind, agg23, Result.andThen]
  simp [run_load, h]

def zeros44 : Array Value := (List.replicate 256 [Value.int .u64 0, Value.int .i64 0]).flatten.toArray

theorem flat2 (n : Nat) (a b : Value) : ((List.replicate n [a, b]).flatten).length = 2 * n ∧ ∀ i, i < n → ((List.replicate n [a, b]).flatten)[i * 2]? = some a ∧ ((List.replicate n [a, b]).flatten)[i * 2 + 1]? = some b := by
  induction n with
  | zero => exact ⟨rfl, fun i hi => by omega⟩
  | succ n ih =>
    rw [List.replicate_succ, List.flatten_cons]
    refine ⟨by rw [List.length_append, ih.1]; simp; omega, fun i hi => ?_⟩
    cases i with
    | zero => exact ⟨rfl, rfl⟩
    | succ i =>
      obtain ⟨a1, a2⟩ := ih.2 i (by omega)
      refine ⟨?_, ?_⟩
      · rw [List.getElem?_append_right (by simp; omega)]; simpa [Nat.succ_mul] using a1
      · rw [List.getElem?_append_right (by simp; omega)]
        have e : (i + 1) * 2 + 1 - [a, b].length = i * 2 + 1 := by simp; omega
        rw [e]; exact a2

/-- The words of those bytes that were met. -/
def ofX (ws pre : List Nat) (s : Nat) : Nat := if s ∈ pre then wordX ws s else 0
def ofN (ws : List Nat) (m : Nat) (pre : List Nat) (s : Nat) : Nat := if s ∈ pre then m + 1 - wt ws s else 0
theorem ofX_snoc (ws pre : List Nat) (s i : Nat) : (if i = s then wordX ws s else ofX ws pre i) = ofX ws (pre ++ [s]) i := by
  unfold ofX
  by_cases h : i = s
  · subst h; simp
  · simp [h]
theorem ofN_snoc (ws : List Nat) (m : Nat) (pre : List Nat) (s i : Nat) : (if i = s then m + 1 - wt ws s else ofN ws m pre i) = ofN ws m (pre ++ [s]) i := by
  unfold ofN
  by_cases h : i = s
  · subst h; simp
  · simp [h]
theorem wt_far (ws : List Nat) (i : Nat) (h : ws.length ≤ i) : wt ws i = 0 := by unfold wt; rw [List.getElem?_eq_none h]; rfl
theorem IsCode.mem {ws : List Nat} {m : Nat} (h : IsCode ws m) (s : Nat) : s ∈ ordC ws m ↔ wt ws s ≠ 0 := by
  rw [mem_ordC]
  constructor
  · rintro ⟨_, h2, _⟩; omega
  · intro h0
    have hs : s < ws.length := by
      by_cases e : s < ws.length
      · exact e
      · exact absurd (wt_far ws s (by omega)) h0
    exact ⟨hs, by omega, h.wt_le s hs⟩
theorem IsCode.ofX {ws : List Nat} {m : Nat} (h : IsCode ws m) (s : Nat) : ofX ws (ordC ws m) s = if wt ws s = 0 then 0 else wordX ws s := by
  unfold YtcoahkmiebeeeaaDoor.ofX
  by_cases e : wt ws s = 0
  · rw [if_pos e, if_neg (fun q => ((h.mem s).1 q) e)]
  · rw [if_neg e, if_pos ((h.mem s).2 e)]
theorem IsCode.ofN {ws : List Nat} {m : Nat} (h : IsCode ws m) (s : Nat) : ofN ws m (ordC ws m) s = if wt ws s = 0 then 0 else m + 1 - wt ws s := by
  unfold YtcoahkmiebeeeaaDoor.ofN
  by_cases e : wt ws s = 0
  · rw [if_pos e, if_neg (fun q => ((h.mem s).1 q) e)]
  · rw [if_neg e, if_pos ((h.mem s).2 e)]
theorem IsCode.wt_in {ws : List Nat} {m : Nat} (h : IsCode ws m) (s : Nat) (h0 : wt ws s ≠ 0) : s < ws.length ∧ wt ws s ≤ m := by
  have := (mem_ordC ws m s).1 ((h.mem s).2 h0)
  exact ⟨this.1, this.2.2⟩

/-- The bits that are put for bytes, the last byte's first. -/
def packL (ws : List Nat) (m : Nat) : List Nat → List (Fin 2)
  | [] => []
  | b :: l => packL ws m l ++ low (wordX ws b) (m + 1 - wt ws b)
theorem packL_drop (ws : List Nat) (m : Nat) (bs : List Nat) (k : Nat) (hk : k < bs.length) : packL ws m (bs.drop k) = packL ws m (bs.drop (k + 1)) ++ low (wordX ws (bs[k]?.getD 0)) (m + 1 - wt ws (bs[k]?.getD 0)) := by
  rw [List.drop_eq_getElem_cons hk, List.getElem?_eq_getElem hk]; rfl
theorem packL_len (ws : List Nat) (m : Nat) (bs : List Nat) : (packL ws m bs).length ≤ (m + 1) * bs.length := by
  induction bs with
  | nil => simp [packL]
  | cons b l ih =>
    rw [packL, List.length_append, low_length, List.length_cons, Nat.mul_succ]
    omega
/-- Each byte has a word. -/
def packOk (ws bs : List Nat) : Bool := decide (∀ b ∈ bs, wt ws b ≠ 0)

end Go.Proofs.YtcoahkmiebeeeaaDoor

namespace Go.Proofs.YtcoahkmiebeeeaaDoor
open Go.RowKit Go.Shelf
set_option linter.unusedVariables false

def ok2 : Nat → List Value → Bool
  | 0, [] => true
  | n + 1, a :: b :: r => isZ .u8 a && (isZ .u8 b && ok2 n r)
  | _, _ => false
theorem ok2_eq : ∀ (n : Nat) (l : List Value), ok2 n l = true → l = (List.replicate n [Value.int .u8 0, Value.int .u8 0]).flatten
  | 0, [], _ => rfl
  | 0, _ :: _, h => by simp [ok2] at h
  | n + 1, [], h => by simp [ok2] at h
  | n + 1, [_], h => by simp [ok2] at h
  | n + 1, a :: b :: r, h => by
    simp only [ok2, Bool.and_eq_true] at h
    rw [isZ_eq h.1, isZ_eq h.2.1, ok2_eq n r h.2.2, List.replicate_succ, List.flatten_cons]
    rfl
theorem chk105 : ok2 2048 Tryd.zeroCells120.toList = true := by kernel_rfl
theorem zero105 : Tryd.zeroCells120 = ((List.replicate 2048 [Value.int .u8 0, Value.int .u8 0]).flatten).toArray := by
  apply Array.ext'
  rw [List.toList_toArray]
  exact ok2_eq _ _ chk105

/-- Block b is the array of cells: symbols and lengths. -/
structure CelA (w : World) (b : Nat) (S N : Nat → Nat) : Prop where
  obj : ∃ cs, w.heap[b]? = some (.cells cs 120 (0, 0)) ∧ cs.size = 4096 ∧ ∀ i, i < 2048 → cs[i * 2]? = some (.int .u8 ((S i : Nat) : Int)) ∧ cs[i * 2 + 1]? = some (.int .u8 ((N i : Nat) : Int))
theorem CelA.cells {w : World} {b : Nat} {S N : Nat → Nat} (h : CelA w b S N) (i : Nat) (hi : i < 2048) :
    w.cell? ⟨b, i * 2, none⟩ = some (.int .u8 ((S i : Nat) : Int)) ∧ w.cell? ⟨b, i * 2 + 1, none⟩ = some (.int .u8 ((N i : Nat) : Int)) := by
  obtain ⟨cs, h1, _, h3⟩ := h.obj
  rw [cell_of h1, cell_of h1]
  exact h3 i hi
theorem CelA.frozen {w : World} {b : Nat} {S N : Nat → Nat} (h : CelA w b S N) (i : Nat) : w.frozen? ⟨b, i, none⟩ = false := by
  obtain ⟨cs, h1, _⟩ := h.obj
  exact frozen_of h1 i
theorem CelA.lt {w : World} {b : Nat} {S N : Nat → Nat} (h : CelA w b S N) : b < w.heap.size := by
  obtain ⟨cs, h1, _⟩ := h.obj
  exact obj_lt h1
theorem CelA.keep {w w' : World} {T : Nat → Prop} {b : Nat} {S N : Nat → Nat} (h : CelA w b S N) (hk : Keep T w w') (hS : ¬ T b) : CelA w' b S N := by
  obtain ⟨cs, h1, h2⟩ := h.obj
  exact ⟨cs, hk.obj h1 hS, h2⟩
theorem CelA.keepN {w w' : World} {B : Nat} {b : Nat} {S N : Nat → Nat} (h : CelA w b S N) (hk : KeepN B w w') : CelA w' b S N := by
  obtain ⟨cs, h1, h2⟩ := h.obj
  exact ⟨cs, hk.obj h1, h2⟩
theorem CelA.congr {w : World} {b : Nat} {S N S' N' : Nat → Nat} (h : CelA w b S N) (h1 : ∀ i, i < 2048 → S i = S' i) (h2 : ∀ i, i < 2048 → N i = N' i) : CelA w b S' N' := by
  obtain ⟨cs, a1, a2, a3⟩ := h.obj
  refine ⟨cs, a1, a2, fun i hi => ?_⟩
  rw [← h1 i hi, ← h2 i hi]
  exact a3 i hi
theorem CelA.set {w : World} {b : Nat} {S N : Nat → Nat} (h : CelA w b S N) (i x n : Nat) : CelA ((w.setCell ⟨b, i * 2, none⟩ (.int .u8 (x : Int))).setCell ⟨b, i * 2 + 1, none⟩ (.int .u8 (n : Int))) b (fun j => if j = i then x else S j) (fun j => if j = i then n else N j) := by
  obtain ⟨cs, h1, h2, h3⟩ := h.obj
  refine ⟨_, set_obj (set_obj h1 _ _) _ _, by rw [Array.size_setIfInBounds, Array.size_setIfInBounds, h2], fun j hj => ?_⟩
  rw [Array.getElem?_setIfInBounds, Array.getElem?_setIfInBounds, Array.getElem?_setIfInBounds, Array.getElem?_setIfInBounds, Array.size_setIfInBounds, if_neg (show ¬ i * 2 + 1 = j * 2 by omega), if_neg (show ¬ i * 2 = j * 2 + 1 by omega)]
  by_cases e : i = j
  · subst e
    simp only [if_true]
    rw [if_pos (by omega), if_pos (by omega)]
    exact ⟨rfl, rfl⟩
  · have e1 : ¬ i * 2 = j * 2 := by omega
    have e2 : ¬ i * 2 + 1 = j * 2 + 1 := by omega
    have e3 : ¬ j = i := fun h => e h.symm
    simp only [if_neg e1, if_neg e2, if_neg e3]
    exact h3 j hj
theorem celA_zeros (w : World) : CelA (w.alloc (.cells Tryd.zeroCells120 120)) w.heap.size (fun _ => 0) (fun _ => 0) := by
  obtain ⟨h1, h2⟩ := flat2 2048 (Value.int .u8 0) (Value.int .u8 0)
  rw [zero105]
  refine ⟨_, World.alloc_heap_new w _, by rw [List.size_toArray]; exact h1, fun i hi => ?_⟩
  simp only [List.getElem?_toArray]
  exact h2 i hi
theorem agg105 : ∀ w, (isAgg 120).run Tryd.prog w = .ok true w := by intro w; kernel_rfl
theorem size105 : ∀ w, (Go.sizeOf 120).run Tryd.prog w = .ok 4096 w := by intro w; kernel_rfl
theorem info105 : (Tryd.prog.info? 120).map (·.size) = some 4096 := by kernel_rfl
theorem cells_one {cs : Array Value} {S N : Nat → Nat} (h1 : cs.size = 4096) (h2 : ∀ i, i < 2048 → cs[i * 2]? = some (.int .u8 ((S i : Nat) : Int)) ∧ cs[i * 2 + 1]? = some (.int .u8 ((N i : Nat) : Int))) : cs.all (·.oneCell') = true := by
  rw [Array.all_eq_true]
  intro i hi
  obtain ⟨a1, a2⟩ := h2 (i / 2) (by omega)
  by_cases e : i % 2 = 0
  · rw [show i / 2 * 2 = i from by omega, Array.getElem?_eq_getElem hi] at a1
    rw [Option.some.inj a1]; rfl
  · rw [show i / 2 * 2 + 1 = i from by omega, Array.getElem?_eq_getElem hi] at a2
    rw [Option.some.inj a2]; rfl
/-- The whole array is read. -/
theorem load105 {w : World} {b : Nat} {cs : Array Value} (h : w.heap[b]? = some (.cells cs 120 (0, 0))) (h1 : cs.size = 4096) : (loadCellsFrom ⟨b, 0, none⟩ 0 4096 #[]).run Tryd.prog w = .ok cs w := by
  have := run_loadCells_list (P := Tryd.prog) w ⟨b, 0, none⟩ cs.toList (fun j v hv => by
    rw [add0, cell_of h]
    simpa using hv)
  rw [Array.length_toList, h1] at this
  simpa [loadCells] using this
/-- It is laid over an array. -/
theorem store105 {w : World} {b : Nat} {old cs : Array Value} (h : w.heap[b]? = some (.cells old 120 (0, 0))) (h0 : old.size = 4096) (h1 : cs.size = 4096) (h2 : cs.all (·.oneCell') = true) : (storeCells ⟨b, 0, none⟩ cs.toList 0).run Tryd.prog w = .ok () (w.setRow b cs) := by
  have := run_storeVar_row (P := Tryd.prog) w b 120 120 old cs h (by rw [h1]; exact info105) (by omega) h2
  obtain ⟨i, hi⟩ : ∃ i, Tryd.prog.info? 120 = some i := by
    cases hq : Tryd.prog.info? 120 with
    | none => have := info105; rw [hq] at this; cases this
    | some i => exact ⟨i, rfl⟩
  have hs : i.size = 4096 := by have := info105; rw [hi] at this; simpa using this
  simpa [storeVar, Go.sizeOf, typeInfo, hi, Value.cells, hs, h1] using this

/-- The cells of the numbers l, one behind the other. -/
def tS (l : List Nat) (x : Nat) : Nat := l[x]?.getD 0
def tN (ws : List Nat) (m : Nat) (l : List Nat) (x : Nat) : Nat := if x < l.length then m + 1 - wt ws (l[x]?.getD 0) else 0
theorem tS_snoc (l : List Nat) (s x : Nat) : (if x = l.length then s else tS l x) = tS (l ++ [s]) x := by
  unfold tS
  by_cases h : x = l.length
  · subst h; simp
  · rw [if_neg h]
    by_cases h2 : x < l.length
    · rw [List.getElem?_append_left h2]
    · rw [List.getElem?_eq_none (by omega), List.getElem?_eq_none (by simp; omega)]
theorem tN_snoc (ws : List Nat) (m : Nat) (l : List Nat) (s x : Nat) : (if x = l.length then m + 1 - wt ws s else tN ws m l x) = tN ws m (l ++ [s]) x := by
  unfold tN
  by_cases h : x = l.length
  · subst h; simp
  · rw [if_neg h]
    by_cases h2 : x < l.length
    · rw [if_pos h2, if_pos (by simp; omega), List.getElem?_append_left h2]
    · rw [if_neg h2, if_neg (by simp; omega)]
theorem rep_snoc (j s : Nat) (l : List Nat) : l ++ List.replicate (j + 1) s = (l ++ List.replicate j s) ++ [s] := by
  rw [List.replicate_succ', List.append_assoc]

end Go.Proofs.YtcoahkmiebeeeaaDoor
