/-
  The last bytes of many, in a ring; bytes that are copied out of themselves.
-/
import Derived.Test.YtinhlkioeadfdaaDoorByt
namespace Go.Proofs.YtinhlkioeadfdaaDoor
set_option linter.unusedVariables false

/-- The last s of L. -/
def lastN (s : Nat) (L : List Nat) : List Nat := L.drop (L.length - s)
theorem lastN_length (s : Nat) (L : List Nat) : (lastN s L).length = min s L.length := by unfold lastN; rw [List.length_drop]; omega
theorem lastN_all (s : Nat) (L : List Nat) (h : L.length ≤ s) : lastN s L = L := by unfold lastN; rw [show L.length - s = 0 by omega]; rfl
theorem lastN_left (s : Nat) (L b : List Nat) : lastN s (lastN s L ++ b) = lastN s (L ++ b) := by
  unfold lastN
  simp only [List.length_append, List.length_drop, List.drop_append, List.drop_drop]
  congr 1
  · congr 1; omega
  · congr 1; omega
theorem lastN_tail (s : Nat) (A B : List Nat) (h : s ≤ B.length) : lastN s (A ++ B) = lastN s B := by
  unfold lastN
  rw [List.length_append, List.drop_append, List.drop_eq_nil_of_le (show A.length ≤ A.length + B.length - s by omega), List.nil_append]
  congr 1; omega
theorem lastN_right (s : Nat) (L b : List Nat) : lastN s (L ++ lastN s b) = lastN s (L ++ b) := by
  by_cases h : b.length ≤ s
  · rw [lastN_all s b h]
  · have hl := lastN_length s b
    rw [lastN_tail s L b (by omega), lastN_tail s L _ (by omega), lastN_all s _ (by omega)]
theorem lastN_full (s k : Nat) (M X : List Nat) (hM : M.length = s) (hX : X.length = k) : lastN s (M ++ X) = (M ++ X).drop k := by
  unfold lastN; rw [List.length_append]; congr 1; omega
theorem lastN_at (s : Nat) (L : List Nat) (back : Nat) (h1 : 1 ≤ back) (h2 : back ≤ (lastN s L).length) (i : Nat) : (lastN s L)[(lastN s L).length - back + i]?.getD 0 = L[L.length - back + i]?.getD 0 := by
  have hl := lastN_length s L
  unfold lastN at *
  rw [List.getElem?_drop]
  congr 2
  omega

/-- A ring, from its oldest on. -/
def unr (R : List Nat) (o : Nat) : List Nat := R.drop o ++ R.take o
theorem unr_length (R : List Nat) (o : Nat) : (unr R o).length = R.length := by unfold unr; rw [List.length_append, List.length_drop, List.length_take]; omega
theorem unr_zero (R : List Nat) : unr R 0 = R := by simp [unr]
theorem unr_all (R : List Nat) : unr R R.length = R := by simp [unr]
/-- X laid over R from o on. -/
def over (R : List Nat) (o : Nat) (X : List Nat) : List Nat := R.take o ++ X ++ R.drop (o + X.length)
theorem over_length (R : List Nat) (o : Nat) (X : List Nat) (h : o + X.length ≤ R.length) : (over R o X).length = R.length := by unfold over; simp only [List.length_append, List.length_take, List.length_drop]; omega
theorem unr_over (R : List Nat) (o : Nat) (X : List Nat) (h : o + X.length ≤ R.length) : unr (over R o X) (o + X.length) = lastN R.length (unr R o ++ X) := by
  rw [lastN_full R.length X.length _ _ (unr_length R o) rfl]
  have hl : (R.take o ++ X).length = o + X.length := by rw [List.length_append, List.length_take]; omega
  have e1 : (over R o X).drop (o + X.length) = R.drop (o + X.length) := by unfold over; exact List.drop_left' hl
  have e2 : (over R o X).take (o + X.length) = R.take o ++ X := by unfold over; exact List.take_left' hl
  show (over R o X).drop (o + X.length) ++ (over R o X).take (o + X.length) = _
  rw [e1, e2]
  unfold unr
  rw [List.append_assoc, List.drop_append_of_le_length (by rw [List.length_drop]; omega), List.drop_drop]

/-- Where the byte stands that is back bytes ahead of the end. -/
def place (n o back : Nat) : Nat := if back ≤ o then o - back else o + n - back
theorem place_lt (n o back : Nat) (ho : o ≤ n) (h1 : 1 ≤ back) (h2 : back ≤ n) : place n o back < n := by unfold place; split <;> omega
theorem place_at (R : List Nat) (o back : Nat) (ho : o ≤ R.length) (h1 : 1 ≤ back) (h2 : back ≤ R.length) : R[place R.length o back]? = (unr R o)[R.length - back]? := by
  unfold place unr
  rw [List.getElem?_append]
  simp only [List.length_drop]
  by_cases h : back ≤ o
  · rw [if_pos h, if_neg (by omega), List.getElem?_take, if_pos (by omega)]
    congr 1; omega
  · rw [if_neg h, if_pos (by omega), List.getElem?_drop]
    congr 1; omega
theorem place_take (R : List Nat) (o back t : Nat) (ho : o ≤ R.length) (h1 : 1 ≤ back) (h2 : back ≤ R.length) (ht : t ≤ back) : (R.drop (place R.length o back) ++ R).take t = ((unr R o).drop (R.length - back)).take t := by
  unfold place unr
  by_cases h : back ≤ o
  · have e : (R.drop o ++ R.take o).drop (R.length - back) = (R.take o).drop (o - back) := by
      rw [List.drop_append, List.drop_eq_nil_of_le (by rw [List.length_drop]; omega), List.nil_append, List.length_drop]
      congr 1; omega
    rw [if_pos h, e, List.take_append_of_le_length (by rw [List.length_drop]; omega), List.drop_take, List.take_take]
    congr 1; omega
  · rw [if_neg h, List.drop_append_of_le_length (by rw [List.length_drop]; omega), List.drop_drop, List.take_append, List.take_append]
    rw [show o + (R.length - back) = o + R.length - back by omega]
    congr 1
    rw [List.take_take, List.length_drop]
    congr 1; omega

/-- n bytes, each the one that stands back bytes ahead of the end as it is by then. -/
def outL (M : List Nat) (back n : Nat) : List Nat := (List.range n).map (fun j => M[M.length - back + j % back]?.getD 0)
theorem outL_length (M : List Nat) (back n : Nat) : (outL M back n).length = n := by simp [outL]
theorem outL_at (M : List Nat) (back n j : Nat) (hj : j < n) : (outL M back n)[j]?.getD 0 = M[M.length - back + j % back]?.getD 0 := by simp [outL, hj]
theorem outL_succ (M : List Nat) (back n : Nat) : outL M back (n + 1) = outL M back n ++ [M[M.length - back + n % back]?.getD 0] := by simp [outL, List.range_succ]
theorem outL_take (M : List Nat) (back n t : Nat) (h : t ≤ n) : (outL M back n).take t = outL M back t := by
  unfold outL
  rw [← List.map_take, List.take_range, Nat.min_eq_left h]
theorem getD_ext {A B : List Nat} (hl : A.length = B.length) (h : ∀ j, j < A.length → A[j]?.getD 0 = B[j]?.getD 0) : A = B := by
  refine List.ext_getElem hl fun j h1 h2 => ?_
  have := h j h1
  rwa [List.getElem?_eq_getElem h1, List.getElem?_eq_getElem h2] at this
theorem outL_first (M : List Nat) (back t : Nat) (h1 : 1 ≤ back) (h2 : back ≤ M.length) (ht : t ≤ back) : (M.drop (M.length - back)).take t = outL M back t := by
  refine getD_ext (by rw [outL_length, List.length_take, List.length_drop]; omega) fun j hj => ?_
  have hj' : j < t := by rw [List.length_take] at hj; omega
  rw [outL_at M back t j hj', List.getElem?_take, if_pos hj', List.getElem?_drop, Nat.mod_eq_of_lt (by omega)]
theorem outL_more (M : List Nat) (back d c : Nat) (hd : back ∣ d) (hc : c ≤ d) : outL M back (d + c) = outL M back d ++ (outL M back d).take c := by
  rw [outL_take M back d c hc]
  refine getD_ext (by rw [List.length_append, outL_length, outL_length, outL_length]) fun j hj => ?_
  rw [outL_length] at hj
  rw [outL_at M back _ j hj, List.getElem?_append, outL_length]
  by_cases h : j < d
  · rw [if_pos h, outL_at M back d j h]
  · rw [if_neg h, outL_at M back c (j - d) (by omega)]
    obtain ⟨q, rfl⟩ := hd
    have : j % back = (j - back * q) % back := by
      conv => lhs; rw [show j = (j - back * q) + back * q by omega]
      rw [Nat.add_mul_mod_self_left]
    rw [this]
/-- The byte that comes next stands back bytes ahead of the end. -/
theorem outL_next (M : List Nat) (back n : Nat) (h1 : 1 ≤ back) (h2 : back ≤ M.length) : (M ++ outL M back n)[M.length + n - back]?.getD 0 = M[M.length - back + n % back]?.getD 0 := by
  rw [List.getElem?_append]
  by_cases h : n < back
  · rw [if_pos (by omega), Nat.mod_eq_of_lt h]; congr 2; omega
  · rw [if_neg (by omega), outL_at M back n _ (by omega), show M.length + n - back - M.length = n - back by omega]
    rw [Nat.mod_eq_sub_mod (show back ≤ n by omega)]
theorem outL_last (s : Nat) (L : List Nat) (back n : Nat) (h1 : 1 ≤ back) (h2 : back ≤ (lastN s L).length) : outL (lastN s L) back n = outL L back n := by
  unfold outL
  refine List.map_congr_left fun j _ => ?_
  exact lastN_at s L back h1 h2 _

theorem lt_out {M : List Nat} (h : ∀ j : Nat, M[j]?.getD 0 < 256) (back n : Nat) : ∀ j : Nat, (outL M back n)[j]?.getD 0 < 256 := by
  intro j
  by_cases hj : j < n
  · rw [outL_at M back n j hj]; exact h _
  · rw [List.getElem?_eq_none (by rw [outL_length]; omega)]; decide
theorem lt_over {R X : List Nat} (hR : ∀ j : Nat, R[j]?.getD 0 < 256) (hX : ∀ j : Nat, X[j]?.getD 0 < 256) (o : Nat) : ∀ j : Nat, (over R o X)[j]?.getD 0 < 256 :=
  lt_app (lt_app (lt_take hR o) hX) (lt_drop hR _)

end Go.Proofs.YtinhlkioeadfdaaDoor
