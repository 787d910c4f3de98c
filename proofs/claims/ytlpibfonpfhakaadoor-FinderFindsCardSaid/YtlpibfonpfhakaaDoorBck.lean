/-
  What steps make of bytes, as plain lists.
-/
import Derived.Test.YtlpibfonpfhakaaDoorNums
namespace Go.Proofs.YtlpibfonpfhakaaDoor
set_option linter.unusedVariables false
/-- n bytes, each the one that stands back bytes ahead of the end as it is by then. -/
def outL (M : List Nat) (back n : Nat) : List Nat := (List.range n).map (fun j => M[M.length - back + j % back]?.getD 0)
theorem outL_length (M : List Nat) (back n : Nat) : (outL M back n).length = n := by simp [outL]
theorem outL_at (M : List Nat) (back n j : Nat) (hj : j < n) : (outL M back n)[j]?.getD 0 = M[M.length - back + j % back]?.getD 0 := by simp [outL, hj]
theorem outL_succ (M : List Nat) (back n : Nat) : outL M back (n + 1) = outL M back n ++ [M[M.length - back + n % back]?.getD 0] := by simp [outL, List.range_succ]
theorem outL_take (M : List Nat) (back n t : Nat) (h : t ≤ n) : (outL M back n).take t = outL M back t := by
  unfold outL
  rw [← List.map_take, List.take_range, Nat.min_eq_left h]
theorem getD_ext {A B : List Nat} (hl : A.length = B.length) (h : ∀ j, j < A.length → A[j]?.getD 0 = B[j]?.getD 0) : A = B := by
  refine List.ext_getElem hl fun j h1 h2 => ?_
  have := h j h1
  rwa [List.getElem?_eq_getElem h1, List.getElem?_eq_getElem h2] at this
theorem outL_first (M : List Nat) (back t : Nat) (h1 : 1 ≤ back) (h2 : back ≤ M.length) (ht : t ≤ back) : (M.drop (M.length - back)).take t = outL M back t := by
  refine getD_ext (by rw [outL_length, List.length_take, List.length_drop]; omega) fun j hj => ?_
  have hj' : j < t := by rw [List.length_take] at hj; omega
  rw [outL_at M back t j hj', List.getElem?_take, if_pos hj', List.getElem?_drop, Nat.mod_eq_of_lt (by omega)]
theorem outL_more (M : List Nat) (back d c : Nat) (hd : back ∣ d) (hc : c ≤ d) : outL M back (d + c) = outL M back d ++ (outL M back d).take c := by
  rw [outL_take M back d c hc]
  refine getD_ext (by rw [List.length_append, outL_length, outL_length, outL_length]) fun j hj => ?_
  rw [outL_length] at hj
  rw [outL_at M back _ j hj, List.getElem?_append, outL_length]
  by_cases h : j < d
  · rw [if_pos h, outL_at M back d j h]
  · rw [if_neg h, outL_at M back c (j - d) (by omega)]
    obtain ⟨q, rfl⟩ := hd
    have : j % back = (j - back * q) % back := by
      conv => lhs; rw [show j = (j - back * q) + back * q by omega]
      rw [Nat.add_mul_mod_self_left]
    rw [this]
/-- The byte that comes next stands back bytes ahead of the end. -/
theorem outL_next (M : List Nat) (back n : Nat) (h1 : 1 ≤ back) (h2 : back ≤ M.length) : (M ++ outL M back n)[M.length + n - back]?.getD 0 = M[M.length - back + n % back]?.getD 0 := by
  rw [List.getElem?_append]
  by_cases h : n < back
  · rw [if_pos (by omega), Nat.mod_eq_of_lt h]; congr 2; omega
  · rw [if_neg (by omega), outL_at M back n _ (by omega), show M.length + n - back - M.length = n - back by omega]
    rw [Nat.mod_eq_sub_mod (show back ≤ n by omega)]
theorem outL_zero (M : List Nat) (back : Nat) : outL M back 0 = [] := rfl
/-- What is copied of a row that grows out of itself. -/
theorem outL_grow (M : List Nat) (back k t : Nat) (h1 : 1 ≤ back) (h2 : back ≤ M.length) (hd : back ∣ k) (ht : t ≤ back + k) : outL M back (k + t) = outL M back k ++ ((M ++ outL M back k).drop (M.length - back)).take t := by
  have hl : ((M ++ outL M back k).drop (M.length - back)).length = back + k := by rw [List.length_drop, List.length_append, outL_length]; omega
  refine getD_ext (by rw [outL_length, List.length_append, outL_length, List.length_take, hl]; omega) fun j hj => ?_
  rw [outL_length] at hj
  rw [outL_at M back _ j hj, List.getElem?_append, outL_length]
  by_cases h : j < k
  · rw [if_pos h, outL_at M back k j h]
  · rw [if_neg h, List.getElem?_take, if_pos (by omega), List.getElem?_drop, List.getElem?_append]
    have hm : j % back = (j - k) % back := by
      obtain ⟨q, rfl⟩ := hd
      conv => lhs; rw [show j = (j - back * q) + back * q by omega]
      rw [Nat.add_mul_mod_self_left]
    by_cases h3 : j - k < back
    · rw [if_pos (by omega), hm, Nat.mod_eq_of_lt h3]
    · rw [if_neg (by omega), outL_at M back k _ (by omega), hm, show M.length - back + (j - k) - M.length = j - k - back by omega, Nat.mod_eq_sub_mod (show back ≤ j - k by omega)]

abbrev Tri := Int × Int × Int
/-- May a step be, where so many bytes are left and so many are there? -/
def okT (rest whole : Int) (t : Tri) : Prop := 0 ≤ t.1 ∧ 0 ≤ t.2.1 ∧ 0 ≤ t.2.2 ∧ t.1 ≤ rest ∧ t.2.1 ≤ 16777216 - (whole + t.1) ∧ (0 < t.2.1 → t.2.2 ≠ 0 ∧ t.2.2 ≤ whole + t.1)
def okTD (rest whole : Int) (t : Tri) : Decidable (okT rest whole t) := by unfold okT; exact inferInstance
/-- May all be? -/
def okB (rest whole : Int) : List Tri → Bool
  | [] => decide (whole ≤ 16777216)
  | t :: r => @decide (okT rest whole t) (okTD rest whole t) && okB (rest - t.1) (whole + t.1 + t.2.1) r
theorem okB_no {rest whole : Int} {t : Tri} {r : List Tri} (h : ¬ okT rest whole t) : okB rest whole (t :: r) = false := by simp [okB, h]
theorem okB_go {rest whole : Int} {t : Tri} {r : List Tri} (h : okT rest whole t) : okB rest whole (t :: r) = okB (rest - t.1) (whole + t.1 + t.2.1) r := by simp [okB, h]
/-- How many bytes there are then. -/
def sizeB (whole : Int) : List Tri → Int
  | [] => whole
  | t :: r => sizeB (whole + t.1 + t.2.1) r
theorem sizeB_le {rest whole : Int} {ts : List Tri} (h : okB rest whole ts = true) (h0 : 0 ≤ whole) : 0 ≤ sizeB whole ts ∧ sizeB whole ts ≤ 16777216 := by
  induction ts generalizing rest whole with
  | nil => simp [okB] at h; exact ⟨h0, h⟩
  | cons t r ih =>
    by_cases e : okT rest whole t
    · rw [okB_go e] at h
      exact ih h (by have := e.1; have := e.2.1; omega)
    · rw [okB_no e] at h; cases h
/-- What steps make. -/
def outB (out rest : List Nat) : List Tri → List Nat
  | [] => out
  | t :: r => outB ((out ++ rest.take t.1.toNat) ++ outL (out ++ rest.take t.1.toNat) t.2.2.toNat t.2.1.toNat) (rest.drop t.1.toNat) r
theorem drop_cons {ts : List Tri} {i : Nat} (h : i < ts.length) : ts.drop i = ts[i]?.getD (0, 0, 0) :: ts.drop (i + 1) := by
  rw [List.drop_eq_getElem_cons h, List.getElem?_eq_getElem h]; rfl
theorem lt_out {M : List Nat} (h : ∀ j : Nat, M[j]?.getD 0 < 256) (back n : Nat) : ∀ j : Nat, (outL M back n)[j]?.getD 0 < 256 := by
  intro j
  by_cases e : j < n
  · rw [outL_at M back n j e]; exact h _
  · rw [List.getElem?_eq_none (by rw [outL_length]; omega)]; decide
end Go.Proofs.YtlpibfonpfhakaaDoor
