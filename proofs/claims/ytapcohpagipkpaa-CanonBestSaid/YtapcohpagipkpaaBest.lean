/-
  Packing and merging gives lengths that make a code, of the least sum. No program is named here.
-/
import Derived.Test.YtapcohpagipkpaaLim
namespace Go.Proofs.Ytapcohpagipkpaa

/-- The sum of weights. -/
def wsum (L : List (Nat × Bool)) : Nat := (L.map Prod.fst).sum
theorem wsum_cons (x : Nat × Bool) (L : List (Nat × Bool)) : wsum (x :: L) = x.1 + wsum L := by simp [wsum]
theorem wsum_nil : wsum [] = 0 := rfl
theorem leaves_cons (x : Nat × Bool) (L : List (Nat × Bool)) : leaves (x :: L) = leaves L + (if x.2 then 1 else 0) := by simp [leaves, List.countP_cons]
theorem nodes_cons (x : Nat × Bool) (L : List (Nat × Bool)) : nodes (x :: L) = nodes L + (if x.2 then 0 else 1) := by
  simp only [nodes, List.countP_cons]
  cases x.2 <;> simp
theorem take_all_leaves (A : List (Nat × Bool)) (hA : ∀ p ∈ A, p.2 = true) (n : Nat) : A.take (leaves (A.take n)) = A.take n ∧ nodes (A.take n) = 0 := by
  have h := all_leaves (A.take n) (fun p hp => hA p (List.mem_of_mem_take hp))
  refine ⟨?_, h.2⟩
  rw [h.1, List.length_take]
  rcases Nat.le_total n A.length with e | e
  · rw [Nat.min_eq_left e]
  · rw [Nat.min_eq_right e, List.take_of_length_le e, List.take_of_length_le (Nat.le_refl _)]
theorem take_all_nodes (B : List (Nat × Bool)) (hB : ∀ p ∈ B, p.2 = false) (n : Nat) : B.take (nodes (B.take n)) = B.take n ∧ leaves (B.take n) = 0 := by
  have h0 : leaves (B.take n) = 0 := by
    unfold leaves
    rw [List.countP_eq_zero]
    intro p hp
    simp [hB p (List.mem_of_mem_take hp)]
  refine ⟨?_, h0⟩
  have h := leaves_nodes (B.take n)
  rw [h0, Nat.zero_add] at h
  rw [← h, List.length_take]
  rcases Nat.le_total n B.length with e | e
  · rw [Nat.min_eq_left e]
  · rw [Nat.min_eq_right e, List.take_of_length_le e, List.take_of_length_le (Nat.le_refl _)]

/-- The first n of two merged rows: the first leaves, and the first pairs. -/
theorem merge_take (A B : List (Nat × Bool)) (n : Nat) (hA : ∀ p ∈ A, p.2 = true) (hB : ∀ p ∈ B, p.2 = false) :
    wsum ((A.merge B leI).take n) = wsum (A.take (leaves ((A.merge B leI).take n))) + wsum (B.take (nodes ((A.merge B leI).take n))) ∧
    ∀ x ∈ A.take (leaves ((A.merge B leI).take n)), x ∈ (A.merge B leI).take n := by
  induction n generalizing A B with
  | zero => simp [wsum, leaves, nodes]
  | succ n ihn =>
    cases A with
    | nil =>
      rw [List.nil_merge, (take_all_nodes B hB (n + 1)).1]
      simp [wsum]
    | cons x A =>
      cases B with
      | nil =>
        rw [List.merge_right, (take_all_leaves (x :: A) hA (n + 1)).1]
        simp [wsum]
      | cons y B =>
        rw [List.cons_merge_cons]
        have hx := hA x (List.mem_cons_self ..)
        have hy := hB y (List.mem_cons_self ..)
        split
        · have ih := ihn A (y :: B) (fun p hp => hA p (List.mem_cons_of_mem _ hp)) hB
          rw [List.take_succ_cons, leaves_cons, nodes_cons, wsum_cons, hx]
          simp only [if_true, Nat.add_zero, List.take_succ_cons, wsum_cons]
          refine ⟨by rw [ih.1]; omega, fun z hz => ?_⟩
          rcases List.mem_cons.1 hz with rfl | hz
          · exact List.mem_cons_self ..
          · exact List.mem_cons_of_mem _ (ih.2 z hz)
        · have ih := ihn (x :: A) B hA (fun p hp => hB p (List.mem_cons_of_mem _ hp))
          rw [List.take_succ_cons, leaves_cons, nodes_cons, wsum_cons, hy]
          simp only [Bool.false_eq_true, if_false, Nat.add_zero, List.take_succ_cons, wsum_cons]
          exact ⟨by rw [ih.1]; omega, fun z hz => List.mem_cons_of_mem _ (ih.2 z hz)⟩

/-- Where a pair was taken and a leaf was not, the leaf is heavier. -/
theorem merge_later (A B : List (Nat × Bool)) (n : Nat) (hA : ∀ p ∈ A, p.2 = true) (hB : ∀ p ∈ B, p.2 = false) (hs : A.Pairwise (fun p q => p.1 ≤ q.1)) (ha : leaves ((A.merge B leI).take n) < A.length) (hb : 0 < nodes ((A.merge B leI).take n)) :
    (B[nodes ((A.merge B leI).take n) - 1]?.getD (0, false)).1 < (A[leaves ((A.merge B leI).take n)]?.getD (0, false)).1 := by
  induction n generalizing A B with
  | zero => simp [nodes] at hb
  | succ n ihn =>
    cases A with
    | nil => simp at ha
    | cons x A =>
      cases B with
      | nil =>
        rw [List.merge_right] at hb
        rw [(take_all_leaves (x :: A) hA (n + 1)).2] at hb
        omega
      | cons y B =>
        rw [List.cons_merge_cons] at ha hb ⊢
        have hx := hA x (List.mem_cons_self ..)
        have hy := hB y (List.mem_cons_self ..)
        by_cases h : leI x y = true
        · rw [if_pos h] at ha hb ⊢
          rw [List.take_succ_cons, leaves_cons, hx] at ha
          rw [List.take_succ_cons, nodes_cons, hx] at hb
          rw [List.take_succ_cons, leaves_cons, nodes_cons, hx]
          simp only [if_true, Nat.add_zero, List.getElem?_cons_succ] at ha hb ⊢
          exact ihn A (y :: B) (fun p hp => hA p (List.mem_cons_of_mem _ hp)) hB (List.pairwise_cons.1 hs).2 (by simpa using ha) hb
        · rw [if_neg h] at ha hb ⊢
          rw [List.take_succ_cons, leaves_cons, hy] at ha
          rw [List.take_succ_cons, nodes_cons, hy] at hb
          rw [List.take_succ_cons, leaves_cons, nodes_cons, hy]
          simp only [Bool.false_eq_true, if_false, Nat.add_zero] at ha hb ⊢
          have ih := ihn (x :: A) B hA (fun p hp => hB p (List.mem_cons_of_mem _ hp)) hs ha
          generalize hm : nodes (List.take n ((x :: A).merge B leI)) = m at ih ⊢
          generalize leaves (List.take n ((x :: A).merge B leI)) = k at ih ha ⊢
          cases m with
          | zero =>
            have hxy : y.1 < x.1 := by simpa [leI] using h
            have hk : x.1 ≤ ((x :: A)[k]?.getD (0, false)).1 := by
              rw [List.getElem?_eq_getElem ha]
              cases k with
              | zero => exact Nat.le_refl _
              | succ k => exact (List.pairwise_cons.1 hs).1 _ (List.getElem_mem _)
            simpa using Nat.lt_of_lt_of_le hxy hk
          | succ m =>
            have := ih (by omega)
            simpa using this

def Rising (L : List (Nat × Bool)) : Prop := L.Pairwise (fun p q => p.1 ≤ q.1)
theorem Rising.at {L : List (Nat × Bool)} (h : Rising L) {i j : Nat} (hij : i ≤ j) (hj : j < L.length) : (L[i]?.getD (0, false)).1 ≤ (L[j]?.getD (0, false)).1 := by
  rw [List.getElem?_eq_getElem hj, List.getElem?_eq_getElem (show i < L.length by omega)]
  rcases Nat.lt_or_eq_of_le hij with e | e
  · exact List.pairwise_iff_getElem.1 h i j (by omega) hj e
  · subst e; exact Nat.le_refl _
theorem pairsL_rising {L : List (Nat × Bool)} (h : Rising L) : Rising (pairsL L) := by
  unfold Rising
  rw [List.pairwise_iff_getElem]
  intro i j hi hj hij
  rw [pairsL_length] at hi hj
  simp only [pairsL, List.getElem_map, List.getElem_range]
  have h1 := h.at (i := 2 * i) (j := 2 * j) (by omega) (by omega)
  have h2 := h.at (i := 2 * i + 1) (j := 2 * j + 1) (by omega) (by omega)
  omega
theorem merge_rising {A B : List (Nat × Bool)} (hA : Rising A) (hB : Rising B) : Rising (A.merge B leI) := by
  have := List.pairwise_merge (le := leI) (fun a b c h1 h2 => by simp [leI] at *; omega) (fun a b => by simp [leI]; omega) A B (hA.imp (fun h => by simpa [leI] using h)) (hB.imp (fun h => by simpa [leI] using h))
  exact this.imp (fun h => by simpa [leI] using h)
theorem level_rising {lv : List (Nat × Bool)} (h : Rising lv) (k : Nat) : Rising (levelL lv k) := by
  induction k with
  | zero => exact merge_rising h (pairsL_rising List.Pairwise.nil)
  | succ k ih => exact merge_rising h (pairsL_rising ih)
theorem pairs_false (L : List (Nat × Bool)) : ∀ p ∈ pairsL L, p.2 = false := by
  intro p hp
  simp only [pairsL, List.mem_map] at hp
  obtain ⟨i, _, rfl⟩ := hp
  rfl
/-- A leaf among the first m is no heavier than the last of them. -/
theorem leaf_le {lv : List (Nat × Bool)} (hal : ∀ p ∈ lv, p.2 = true) (hr : Rising lv) (k m j : Nat) (hm : m ≤ (levelL lv k).length) (hj : j < leaves ((levelL lv k).take m)) : (lv[j]?.getD (0, false)).1 ≤ ((levelL lv k)[m - 1]?.getD (0, false)).1 := by
  have hR := level_rising hr k
  have hlen : leaves ((levelL lv k).take m) ≤ lv.length := Nat.le_trans (take_leaves _ _) (by rw [(levelL_leaves lv hal k).1]; exact Nat.le_refl _)
  have hmem : lv[j]'(by omega) ∈ (levelL lv k).take m := by
    have h2 := (merge_take lv (pairsL (belowL lv k)) m hal (pairs_false _)).2 (lv[j]'(by omega))
    rw [← levelL_eq] at h2
    exact h2 (List.mem_take_iff_getElem.2 ⟨j, by omega, rfl⟩)
  obtain ⟨i, hi, e⟩ := List.mem_take_iff_getElem.1 hmem
  rw [List.getElem?_eq_getElem (show j < lv.length by omega), ← e]
  have := hR.at (i := i) (j := m - 1) (by omega) (by omega)
  rw [List.getElem?_eq_getElem (show i < (levelL lv k).length by omega)] at this
  exact this
theorem pair_at (L : List (Nat × Bool)) (b : Nat) (hb : 2 * b + 1 < L.length) : ((pairsL L)[b]?.getD (0, false)).1 = (L[2 * b]?.getD (0, false)).1 + (L[2 * b + 1]?.getD (0, false)).1 := by
  unfold pairsL
  rw [List.getElem?_map, List.getElem?_range (by omega)]
  rfl
/-- What pairs weigh. -/
theorem pairs_wsum (L : List (Nat × Bool)) (b : Nat) (hb : 2 * b ≤ L.length) : wsum ((pairsL L).take b) = wsum (L.take (2 * b)) := by
  induction b with
  | zero => simp [wsum]
  | succ b ih =>
    have h := pair_at L b (by omega)
    have h1 : b < (pairsL L).length := by rw [pairsL_length]; omega
    rw [show 2 * (b + 1) = 2 * b + 1 + 1 by omega, List.take_add_one, List.take_add_one (i := 2 * b + 1), List.take_add_one (i := 2 * b)]
    unfold wsum at ih ⊢
    simp only [List.map_append, List.sum_append]
    rw [ih (by omega)]
    rw [List.getElem?_eq_getElem h1] at h ⊢
    rw [List.getElem?_eq_getElem (show 2 * b < L.length by omega), List.getElem?_eq_getElem (show 2 * b + 1 < L.length by omega)] at h ⊢
    simp at h ⊢
    omega

theorem levelL_lt2 (lv : List (Nat × Bool)) (k : Nat) (h : 0 < lv.length) : (levelL lv k).length < 2 * lv.length := by
  induction k with
  | zero => rw [levelL_len]; simp [belowL]; omega
  | succ k ih => rw [levelL_len]; simp only [belowL]; omega
/-- How many items are taken on level k. -/
def nF (lv : List (Nat × Bool)) (most k : Nat) : Nat := itF lv most (most - 1 - k)
theorem nF_fits {lv : List (Nat × Bool)} {most : Nat} (hal : ∀ p ∈ lv, p.2 = true) (hm : 1 ≤ most) (hn : lv.length ≤ 2 ^ most) (k : Nat) (hk : k < most) : nF lv most k ≤ (levelL lv k).length := by
  have := itF_fits lv most hal hm hn (most - 1 - k) (by omega)
  rw [show most - 1 - (most - 1 - k) = k by omega] at this
  exact this
theorem nF_split {lv : List (Nat × Bool)} {most : Nat} (hal : ∀ p ∈ lv, p.2 = true) (hm : 1 ≤ most) (hn : lv.length ≤ 2 ^ most) (k : Nat) (hk : k < most) : nF lv most k = takenF lv most k + nodes ((levelL lv k).take (nF lv most k)) := by
  have h1 := leaves_nodes ((levelL lv k).take (nF lv most k))
  have h3 := nF_fits hal hm hn k hk
  rw [List.length_take, Nat.min_eq_left h3] at h1
  exact h1
theorem nF_below {lv : List (Nat × Bool)} {most : Nat} (hal : ∀ p ∈ lv, p.2 = true) (hm : 1 ≤ most) (hn : lv.length ≤ 2 ^ most) (k : Nat) (hk : k + 1 < most) : nF lv most k = 2 * nodes ((levelL lv (k + 1)).take (nF lv most (k + 1))) := by
  have h1 := nF_split hal hm hn (k + 1) hk
  have e : most - 1 - k = (most - 1 - (k + 1)) + 1 := by omega
  have h3 : nF lv most k = 2 * (nF lv most (k + 1) - takenF lv most (k + 1)) := by
    unfold nF takenF
    rw [e]
    simp only [itF]
    rw [show most - 1 - (most - 1 - (k + 1)) = k + 1 by omega]
  omega
theorem nodes_le {lv : List (Nat × Bool)} (hal : ∀ p ∈ lv, p.2 = true) (k n : Nat) : 2 * nodes ((levelL lv (k + 1)).take n) ≤ (levelL lv k).length := by
  have h1 := take_nodes (levelL lv (k + 1)) n
  have h3 := (levelL_leaves lv hal (k + 1)).2
  simp only [belowL] at h3
  omega
/-- The taken items of a level weigh what all leaves taken so far weigh. -/
theorem level_sum {lv : List (Nat × Bool)} {most : Nat} (hal : ∀ p ∈ lv, p.2 = true) (hm : 1 ≤ most) (hn : lv.length ≤ 2 ^ most) (k : Nat) (hk : k < most) : wsum ((levelL lv k).take (nF lv most k)) = ((List.range (k + 1)).map (fun i => wsum (lv.take (takenF lv most i)))).sum ∧
    2 ^ k * nF lv most k = ((List.range (k + 1)).map (fun i => 2 ^ i * takenF lv most i)).sum := by
  induction k with
  | zero =>
    have h1 := (merge_take lv (pairsL []) (nF lv most 0) hal (pairs_false _)).1
    have h3 := nF_split hal hm hn 0 hk
    have h4 : nodes ((levelL lv 0).take (nF lv most 0)) = 0 := by
      have := take_nodes (levelL lv 0) (nF lv most 0)
      have h5 := (levelL_leaves lv hal 0).2
      simp only [belowL, List.length_nil] at h5
      omega
    rw [h4, Nat.add_zero] at h3
    refine ⟨?_, by simpa using h3⟩
    have e : levelL lv 0 = lv.merge (pairsL []) leI := rfl
    rw [← e] at h1
    rw [h1, h4]
    simp [wsum, takenF, nF]
  | succ k ih =>
    obtain ⟨i1, i2⟩ := ih (by omega)
    have h1 := (merge_take lv (pairsL (levelL lv k)) (nF lv most (k + 1)) hal (pairs_false _)).1
    have e : levelL lv (k + 1) = lv.merge (pairsL (levelL lv k)) leI := rfl
    rw [← e] at h1
    have h3 := nF_split hal hm hn (k + 1) hk
    have h4 := nF_below hal hm hn k hk
    have h5 := nodes_le hal k (nF lv most (k + 1))
    rw [List.range_succ, List.map_append, List.sum_append, List.map_append, List.sum_append, ← i1, ← i2]
    constructor
    · rw [h1, pairs_wsum _ _ h5, ← h4]
      show wsum (lv.take (takenF lv most (k + 1))) + _ = _
      simp [Nat.add_comm]
    · generalize nodes ((levelL lv (k + 1)).take (nF lv most (k + 1))) = b at h3 h4
      rw [h3, h4, Nat.pow_succ]
      simp only [List.map_cons, List.map_nil, List.sum_cons, List.sum_nil, Nat.add_zero]
      rw [Nat.mul_add, Nat.mul_assoc, Nat.mul_assoc, Nat.add_comm, Nat.pow_succ, Nat.mul_assoc]
/-- What is taken never falls from level to level. -/
theorem taken_mono {lv : List (Nat × Bool)} {most : Nat} (hal : ∀ p ∈ lv, p.2 = true) (hr : Rising lv) (hm : 1 ≤ most) (hn : lv.length ≤ 2 ^ most) (k : Nat) (hk : k + 1 < most) : takenF lv most k ≤ takenF lv most (k + 1) := by
  rcases Nat.lt_or_ge (takenF lv most (k + 1)) (takenF lv most k) with hlt | h
  · exfalso
    have h4 := nF_below hal hm hn k hk
    have h5 := nodes_le hal k (nF lv most (k + 1))
    have h6 : takenF lv most k ≤ lv.length := takenF_le lv most k hal
    have hpos : 0 < nodes ((levelL lv (k + 1)).take (nF lv most (k + 1))) := by
      rcases Nat.eq_zero_or_pos (nodes ((levelL lv (k + 1)).take (nF lv most (k + 1)))) with e | e
      · rw [e] at h4
        have : takenF lv most k = 0 := by
          show leaves ((levelL lv k).take (nF lv most k)) = 0
          rw [h4]; rfl
        omega
      · exact e
    have e : levelL lv (k + 1) = lv.merge (pairsL (levelL lv k)) leI := rfl
    have h7 := merge_later lv (pairsL (levelL lv k)) (nF lv most (k + 1)) hal (pairs_false _) hr
    rw [← e] at h7
    have h8 := h7 (Nat.lt_of_lt_of_le hlt h6) hpos
    have h9 := leaf_le hal hr k (nF lv most k) (takenF lv most (k + 1)) (nF_fits hal hm hn k (by omega)) hlt
    change _ < (lv[takenF lv most (k + 1)]?.getD (0, false)).1 at h8
    generalize nodes ((levelL lv (k + 1)).take (nF lv most (k + 1))) = b at h4 h5 hpos h8
    have hp := pair_at (levelL lv k) (b - 1) (by omega)
    rw [show 2 * (b - 1) + 1 = 2 * b - 1 by omega] at hp
    rw [h4] at h9
    omega
  · exact h
/-- On the uppermost level every leaf is taken. -/
theorem top_all {lv : List (Nat × Bool)} (hal : ∀ p ∈ lv, p.2 = true) (hr : Rising lv) (h2 : 2 ≤ lv.length) (k : Nat) (hk : 2 * lv.length - 2 ≤ (levelL lv k).length) : leaves ((levelL lv k).take (2 * lv.length - 2)) = lv.length := by
  induction k with
  | zero =>
    have hl : (levelL lv 0).length = lv.length := by rw [levelL_len]; simp [belowL]
    rw [List.take_of_length_le (by omega), (levelL_leaves lv hal 0).1]
  | succ k ih =>
    have h1 := leaves_nodes ((levelL lv (k + 1)).take (2 * lv.length - 2))
    rw [List.length_take, Nat.min_eq_left hk] at h1
    have h3 := take_leaves (levelL lv (k + 1)) (2 * lv.length - 2)
    rw [(levelL_leaves lv hal (k + 1)).1] at h3
    have h4 := take_nodes (levelL lv (k + 1)) (2 * lv.length - 2)
    rw [(levelL_leaves lv hal (k + 1)).2] at h4
    simp only [belowL] at h4
    have h5 := levelL_lt2 lv k (by omega)
    rcases Nat.lt_or_ge (leaves ((levelL lv (k + 1)).take (2 * lv.length - 2))) lv.length with hlt | hge
    · exfalso
      have e : levelL lv (k + 1) = lv.merge (pairsL (levelL lv k)) leI := rfl
      have h7 := merge_later lv (pairsL (levelL lv k)) (2 * lv.length - 2) hal (pairs_false _) hr
      rw [← e] at h7
      have h8 := h7 hlt (by omega)
      have h9 := ih (by omega)
      have h10 := leaf_le hal hr k (2 * lv.length - 2) (leaves ((levelL lv (k + 1)).take (2 * lv.length - 2))) (by omega) (by omega)
      generalize nodes ((levelL lv (k + 1)).take (2 * lv.length - 2)) = b at h1 h4 h8
      generalize leaves ((levelL lv (k + 1)).take (2 * lv.length - 2)) = t at h1 h3 hlt h8 h10
      have hp := pair_at (levelL lv k) (b - 1) (by omega)
      rw [show 2 * (b - 1) + 1 = 2 * lv.length - 2 - 1 by omega] at hp
      omega
    · omega
theorem taken_top {lv : List (Nat × Bool)} {most : Nat} (hal : ∀ p ∈ lv, p.2 = true) (hr : Rising lv) (h2 : 2 ≤ lv.length) (hm : 1 ≤ most) (hn : lv.length ≤ 2 ^ most) : takenF lv most (most - 1) = lv.length := by
  have h := nF_fits hal hm hn (most - 1) (by omega)
  have e : nF lv most (most - 1) = 2 * lv.length - 2 := by
    unfold nF
    rw [Nat.sub_self]
    rfl
  rw [e] at h
  have := top_all hal hr h2 (most - 1) h
  unfold takenF
  rw [Nat.sub_self]
  exact this

end Go.Proofs.Ytapcohpagipkpaa
