/-
  The words of a code, as numbers. No program is named here.
-/
import Derived.Test.YtapcohpagipkpaaRounds
namespace Go.Proofs.Ytapcohpagipkpaa

/-- The symbols whose words have so many bits. -/
def symsOf (xs : List Nat) (l : Nat) : List Nat := (List.range xs.length).filter (fun s => numOf xs s == l)
/-- How many symbols ahead have words of as many bits. -/
def rank (xs : List Nat) (s : Nat) : Nat := ((List.range s).filter (fun t => numOf xs t == numOf xs s)).length
/-- A symbol's word. -/
def wordN (xs : List Nat) (s : Nat) : Nat := if numOf xs s = 0 then 0 else nextF (many xs) (numOf xs s) + rank xs s

theorem count_range (xs : List Nat) (l i : Nat) (hi : i ≤ xs.length) : ((List.range i).filter (fun s => numOf xs s == l)).length = (xs.take i).count l := by
  induction i with
  | zero => simp
  | succ i ih =>
    rw [List.range_succ, List.filter_append, List.length_append, ih (by omega), take_count xs i l (by omega)]
    by_cases e : numOf xs i = l
    · have e' : l = xs[i]?.getD 0 := e.symm
      rw [if_pos e']
      simp [e]
    · have e' : ¬ l = xs[i]?.getD 0 := fun h => e h.symm
      rw [if_neg e']
      simp [e]
theorem symsOf_length (xs : List Nat) (l : Nat) : (symsOf xs l).length = xs.count l := by
  have := count_range xs l xs.length (Nat.le_refl _)
  rwa [List.take_length] at this
theorem rank_eq (xs : List Nat) (s : Nat) (hs : s ≤ xs.length) : rank xs s = (xs.take s).count (numOf xs s) := count_range xs _ s hs
theorem symsOf_mem (xs : List Nat) (l s : Nat) : s ∈ symsOf xs l ↔ s < xs.length ∧ numOf xs s = l := by simp [symsOf]
theorem symsOf_nodup (xs : List Nat) (l : Nat) : (symsOf xs l).Pairwise (· < ·) := List.Pairwise.sublist List.filter_sublist List.pairwise_lt_range
theorem range_split (n s : Nat) (h : s < n) : List.range n = List.range s ++ s :: List.range' (s + 1) (n - s - 1) := by
  rw [List.range_eq_range', List.range_eq_range']
  have e : n = s + (1 + (n - s - 1)) := by omega
  conv => lhs; rw [e]
  rw [← List.range'_append_1 (s := 0), Nat.zero_add, Nat.add_comm 1 (n - s - 1), List.range'_succ]
theorem symsOf_rank (xs : List Nat) (s : Nat) (hs : s < xs.length) : (symsOf xs (numOf xs s))[rank xs s]? = some s := by
  unfold symsOf rank
  rw [range_split xs.length s hs, List.filter_append, List.getElem?_append_right (Nat.le_refl _), Nat.sub_self]
  simp
theorem rank_lt (xs : List Nat) (s : Nat) (hs : s < xs.length) : rank xs s < (symsOf xs (numOf xs s)).length := (List.getElem?_eq_some_iff.1 (symsOf_rank xs s hs)).1
theorem rank_of (xs : List Nat) (l j : Nat) (h : j < (symsOf xs l).length) : numOf xs (symsOf xs l)[j] = l ∧ (symsOf xs l)[j] < xs.length ∧ rank xs (symsOf xs l)[j] = j := by
  have hm := (symsOf_mem xs l _).1 (List.getElem_mem h)
  refine ⟨hm.2, hm.1, ?_⟩
  have h1 := symsOf_rank xs _ hm.1
  rw [hm.2] at h1
  obtain ⟨h2, h3⟩ := List.getElem?_eq_some_iff.1 h1
  have hp := List.pairwise_iff_getElem.1 (symsOf_nodup xs l)
  rcases Nat.lt_trichotomy (rank xs (symsOf xs l)[j]) j with h4 | h4 | h4
  · have := hp _ _ h2 h h4; omega
  · exact h4
  · have := hp _ _ h h2 h4; omega

/-- All symbols that have words, in the order of their words. -/
def allSyms (xs : List Nat) : List Nat := (List.range 16).flatMap (fun l => if l = 0 then [] else symsOf xs l)
theorem allSyms_order (xs : List Nat) (h15 : ∀ x ∈ xs, x ≤ 15) (P : List Nat) (hP : IsOrder (numOf xs) xs.length P) : P = allSyms xs := by
  refine sorted_same hP.sorted ?_ (fun x => (hP.mem x).trans ?_)
  · unfold allSyms
    rw [List.pairwise_flatMap]
    refine ⟨fun l _ => ?_, ?_⟩
    · split
      · exact List.Pairwise.nil
      · refine List.Pairwise.imp_of_mem ?_ (symsOf_nodup xs l)
        intro a b ha hb hab
        rw [symsOf_mem] at ha hb
        exact .inr ⟨ha.2.trans hb.2.symm, hab⟩
    · refine List.Pairwise.imp ?_ List.pairwise_lt_range
      intro l m hlm x hx y hy
      split at hx
      · cases hx
      · split at hy
        · cases hy
        · rw [symsOf_mem] at hx hy
          exact .inl (by omega)
  · unfold allSyms
    rw [List.mem_flatMap]
    constructor
    · rintro ⟨h1, h2⟩
      have hx := h15 (numOf xs x) (by unfold numOf; rw [List.getElem?_eq_getElem h1]; exact List.getElem_mem h1)
      exact ⟨numOf xs x, List.mem_range.2 (by omega), by rw [if_neg h2, symsOf_mem]; exact ⟨h1, rfl⟩⟩
    · rintro ⟨l, hl, hx⟩
      split at hx
      · cases hx
      · rw [symsOf_mem] at hx
        exact ⟨hx.1, by omega⟩
/-- How many symbols have shorter words. -/
def offF (xs : List Nat) : Nat → Nat
  | 0 => 0
  | l + 1 => offF xs l + many xs l
theorem part_length (xs : List Nat) (l : Nat) : (if l = 0 then [] else symsOf xs l).length = many xs l := by
  unfold many
  split
  · rfl
  · exact symsOf_length xs l
theorem offF_length (xs : List Nat) (l : Nat) : ((List.range l).flatMap (fun l => if l = 0 then [] else symsOf xs l)).length = offF xs l := by
  induction l with
  | zero => rfl
  | succ l ih => rw [List.range_succ, List.flatMap_append, List.length_append, ih]; simp [offF, part_length]
theorem allSyms_at (xs : List Nat) (l j : Nat) (hl : l < 16) (hj : j < many xs l) : (allSyms xs)[offF xs l + j]? = (symsOf xs l)[j]? := by
  unfold allSyms
  rw [range_split 16 l hl, List.flatMap_append, List.flatMap_cons, List.getElem?_append_right (by rw [offF_length]; omega), offF_length, Nat.add_sub_cancel_left, List.getElem?_append_left (by rw [part_length]; exact hj)]
  have : l ≠ 0 := by rintro rfl; simp [many] at hj
  rw [if_neg this]
theorem offF_all (xs : List Nat) : (allSyms xs).length = offF xs 16 := offF_length xs 16
theorem offF_mono (xs : List Nat) (l m : Nat) (h : l ≤ m) : offF xs l ≤ offF xs m := by
  induction m with
  | zero => obtain rfl : l = 0 := by omega
            exact Nat.le_refl _
  | succ m ih =>
    by_cases e : l = m + 1
    · rw [e]; exact Nat.le_refl _
    · have := ih (by omega); simp only [offF]; omega

end Go.Proofs.Ytapcohpagipkpaa
