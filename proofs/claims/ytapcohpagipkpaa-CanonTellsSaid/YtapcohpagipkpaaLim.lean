/-
  What packing and merging takes, as numbers. No program is named here.
-/
import Derived.Test.YtapcohpagipkpaaLonger
namespace Go.Proofs.Ytapcohpagipkpaa

/-- How many of the items are pairs. -/
def nodes (L : List (Nat × Bool)) : Nat := L.countP (fun p => !p.2)
theorem leaves_nodes (L : List (Nat × Bool)) : L.length = leaves L + nodes L := by
  induction L with
  | nil => rfl
  | cons p L ih =>
    obtain ⟨x, b⟩ := p
    unfold leaves nodes at ih ⊢
    cases b <;> simp [ih] <;> omega
theorem leaves_append (L M : List (Nat × Bool)) : leaves (L ++ M) = leaves L + leaves M := List.countP_append ..
theorem nodes_append (L M : List (Nat × Bool)) : nodes (L ++ M) = nodes L + nodes M := List.countP_append ..
theorem leaves_merge (L M : List (Nat × Bool)) : leaves (L.merge M leI) = leaves L + leaves M := by
  rw [← leaves_append]; exact (List.merge_perm_append leI).countP_eq _
theorem nodes_merge (L M : List (Nat × Bool)) : nodes (L.merge M leI) = nodes L + nodes M := by
  rw [← nodes_append]; exact (List.merge_perm_append leI).countP_eq _
theorem pairsL_nodes (L : List (Nat × Bool)) : leaves (pairsL L) = 0 ∧ nodes (pairsL L) = L.length / 2 := by
  have h : leaves (pairsL L) = 0 := by
    unfold leaves
    rw [List.countP_eq_zero]
    intro p hp
    simp only [pairsL, List.mem_map] at hp
    obtain ⟨i, _, rfl⟩ := hp
    simp
  refine ⟨h, ?_⟩
  have := leaves_nodes (pairsL L)
  rw [pairsL_length, h] at this
  omega
theorem all_leaves (lv : List (Nat × Bool)) (h : ∀ p ∈ lv, p.2 = true) : leaves lv = lv.length ∧ nodes lv = 0 := by
  have h0 : nodes lv = 0 := by
    unfold nodes
    rw [List.countP_eq_zero]
    intro p hp
    simp [h p hp]
  have := leaves_nodes lv
  exact ⟨by omega, h0⟩
/-- What lies below a level. -/
def belowL (lv : List (Nat × Bool)) : Nat → List (Nat × Bool)
  | 0 => []
  | k + 1 => levelL lv k
theorem levelL_eq (lv : List (Nat × Bool)) (k : Nat) : levelL lv k = lv.merge (pairsL (belowL lv k)) leI := by cases k <;> rfl
theorem levelL_leaves (lv : List (Nat × Bool)) (h : ∀ p ∈ lv, p.2 = true) (k : Nat) : leaves (levelL lv k) = lv.length ∧ nodes (levelL lv k) = (belowL lv k).length / 2 := by
  obtain ⟨a1, a2⟩ := all_leaves lv h
  obtain ⟨p1, p2⟩ := pairsL_nodes (belowL lv k)
  rw [levelL_eq, leaves_merge, nodes_merge]
  omega
theorem levelL_len (lv : List (Nat × Bool)) (k : Nat) : (levelL lv k).length = lv.length + (belowL lv k).length / 2 := by
  rw [levelL_eq, List.length_merge, pairsL_length]
theorem level_lack (lv : List (Nat × Bool)) (most k : Nat) (h : lv.length ≤ 2 ^ most) (hk : k < most) : 2 * lv.length ≤ (levelL lv k).length + 2 ^ (most - k) := by
  induction k with
  | zero => rw [levelL_len]; simp [belowL]; omega
  | succ k ih =>
    have := ih (by omega)
    rw [levelL_len]
    simp only [belowL]
    have e : 2 ^ (most - k) = 2 * 2 ^ (most - (k + 1)) := by
      rw [show most - k = (most - (k + 1)) + 1 from by omega, Nat.pow_succ, Nat.mul_comm]
    omega
theorem take_nodes (L : List (Nat × Bool)) (n : Nat) : nodes (L.take n) ≤ nodes L := List.Sublist.countP_le (List.take_sublist n L)
theorem take_leaves (L : List (Nat × Bool)) (n : Nat) : leaves (L.take n) ≤ leaves L := List.Sublist.countP_le (List.take_sublist n L)
/-- There are always so many items as are taken. -/
theorem itF_fits (lv : List (Nat × Bool)) (most : Nat) (hal : ∀ p ∈ lv, p.2 = true) (hm : 1 ≤ most) (hn : lv.length ≤ 2 ^ most) (j : Nat) (hj : j < most) : itF lv most j ≤ (levelL lv (most - 1 - j)).length := by
  induction j with
  | zero =>
    have := level_lack lv most (most - 1) hn (by omega)
    rw [show most - (most - 1) = 1 from by omega] at this
    simp only [itF, Nat.sub_zero]
    omega
  | succ j ih =>
    have h1 := ih (by omega)
    have h2 := leaves_nodes ((levelL lv (most - 1 - j)).take (itF lv most j))
    rw [List.length_take, Nat.min_eq_left h1] at h2
    have h3 := take_nodes (levelL lv (most - 1 - j)) (itF lv most j)
    rw [(levelL_leaves lv hal (most - 1 - j)).2] at h3
    have e : belowL lv (most - 1 - j) = levelL lv (most - 1 - (j + 1)) := by
      rw [show most - 1 - j = (most - 1 - (j + 1)) + 1 from by omega]; rfl
    rw [e] at h3
    simp only [itF]
    omega
theorem takenF_le (lv : List (Nat × Bool)) (most k : Nat) (hal : ∀ p ∈ lv, p.2 = true) : takenF lv most k ≤ lv.length := by
  unfold takenF
  have := take_leaves (levelL lv k) (itF lv most (most - 1 - k))
  rw [(levelL_leaves lv hal k).1] at this
  exact this

/-- How often a symbol has come when the first k levels, and j places of the next, are over. -/
def incTo (P : List Nat) (T : Nat → Nat) (k j s : Nat) : Nat := ((List.range k).filter (fun i => decide (s ∈ P.take (T i)))).length + (if s ∈ P.take j then 1 else 0)
theorem incTo_le (P : List Nat) (T : Nat → Nat) (k j s : Nat) : incTo P T k j s ≤ k + 1 := by
  unfold incTo
  have : ((List.range k).filter (fun i => decide (s ∈ P.take (T i)))).length ≤ (List.range k).length := List.length_filter_le _ _
  simp at this
  split <;> omega
theorem incTo_next (P : List Nat) (T : Nat → Nat) (k s : Nat) : incTo P T (k + 1) 0 s = incTo P T k (T k) s := by
  unfold incTo
  rw [List.range_succ, List.filter_append, List.length_append]
  by_cases h : s ∈ P.take (T k) <;> simp [h]
theorem incTo_step (P : List Nat) (T : Nat → Nat) (k j s : Nat) (hd : P.Nodup) (hj : j < P.length) : incTo P T k (j + 1) s = if s = P[j] then incTo P T k j s + 1 else incTo P T k j s := by
  have hmem : s ∈ P.take (j + 1) ↔ s ∈ P.take j ∨ s = P[j] := by
    rw [List.take_add_one, List.getElem?_eq_getElem hj, Option.toList_some, List.mem_append, List.mem_singleton]
  unfold incTo
  by_cases e : s = P[j]
  · have hn : ¬ s ∈ P.take j := by
      intro hm
      obtain ⟨i, hi, he⟩ := List.mem_iff_getElem.1 hm
      rw [List.getElem_take] at he
      rw [List.length_take] at hi
      exact List.pairwise_iff_getElem.1 hd i j (by omega) hj (by omega) (he.trans e)
    rw [if_pos e, if_neg hn, if_pos (hmem.2 (.inr e))]
  · rw [if_neg e]
    congr 1
    by_cases h : s ∈ P.take j
    · rw [if_pos h, if_pos (hmem.2 (.inl h))]
    · rw [if_neg h, if_neg (fun x => (hmem.1 x).elim h e)]
theorem incTo_zero (P : List Nat) (T : Nat → Nat) (s : Nat) : incTo P T 0 0 s = 0 := by simp [incTo]
theorem IsOrder.nodup {K : Nat → Nat} {n : Nat} {P : List Nat} (h : IsOrder K n P) : P.Nodup := h.sorted.imp (fun hl => by rintro rfl; exact hl.irrefl)

/-- The leaves of counts, in their order. -/
def lvOf (xs P : List Nat) : List (Nat × Bool) := P.map (fun p => (numOf xs p, true))
/-- The lengths that Limit gives. -/
def limitL (xs P : List Nat) (most : Nat) : List Nat := (List.range xs.length).map (incTo P (takenF (lvOf xs P) most) most 0)

end Go.Proofs.Ytapcohpagipkpaa
