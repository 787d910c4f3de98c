/-
  The lengths that packing and merging gives: they make a code, and their sum is what the uppermost level weighs. No program is named here.
-/
import Derived.Test.YtapcohpagipkpaaBest
import Derived.Test.YtapcohpagipkpaaTally
import Derived.Test.YtapcohpagipkpaaWakes
namespace Go.Proofs.Ytapcohpagipkpaa

/-- A sum over a list. -/
def sumL {α : Type} (l : List α) (f : α → Nat) : Nat := (l.map f).sum
theorem sumL_nil {α : Type} (f : α → Nat) : sumL [] f = 0 := rfl
theorem sumL_cons {α : Type} (a : α) (l : List α) (f : α → Nat) : sumL (a :: l) f = f a + sumL l f := by simp [sumL]
theorem sumL_snoc {α : Type} (a : α) (l : List α) (f : α → Nat) : sumL (l ++ [a]) f = sumL l f + f a := by simp [sumL]
theorem sumL_congr {α : Type} {l : List α} {f g : α → Nat} (h : ∀ x ∈ l, f x = g x) : sumL l f = sumL l g := by
  unfold sumL; rw [List.map_congr_left h]
theorem sumL_add {α : Type} (l : List α) (f g : α → Nat) : sumL l (fun x => f x + g x) = sumL l f + sumL l g := by
  induction l with
  | nil => rfl
  | cons a l ih => rw [sumL_cons, sumL_cons, sumL_cons, ih]; omega
theorem sumL_mul {α : Type} (l : List α) (f : α → Nat) (c : Nat) : sumL l (fun x => c * f x) = c * sumL l f := by
  induction l with
  | nil => rfl
  | cons a l ih => rw [sumL_cons, sumL_cons, ih, Nat.mul_add]
theorem sumL_zero {α : Type} (l : List α) : sumL l (fun _ => 0) = 0 := by
  induction l with
  | nil => rfl
  | cons a l ih => rw [sumL_cons, ih]
theorem sumL_const {α : Type} (l : List α) (c : Nat) : sumL l (fun _ => c) = l.length * c := by
  induction l with
  | nil => simp [sumL]
  | cons a l ih => rw [sumL_cons, ih, List.length_cons, Nat.add_mul]; omega
theorem sumL_swap {α β : Type} (l : List α) (m : List β) (f : α → β → Nat) : sumL l (fun a => sumL m (f a)) = sumL m (fun b => sumL l (fun a => f a b)) := by
  induction l with
  | nil => exact (sumL_zero m).symm
  | cons a l ih => rw [sumL_cons, ih, ← sumL_add]; exact sumL_congr (fun b _ => (sumL_cons a l (fun a => f a b)).symm)
theorem sumL_one (N q : Nat) (g : Nat → Nat) : sumL (List.range N) (fun s => if s = q then g s else 0) = if q < N then g q else 0 := by
  induction N with
  | zero => rfl
  | succ N ih =>
    rw [List.range_succ, sumL_snoc, ih]
    by_cases h : N = q
    · subst h; simp
    · rw [if_neg h]
      by_cases h2 : q < N
      · rw [if_pos h2, if_pos (by omega)]; rfl
      · rw [if_neg h2, if_neg (by omega)]
/-- A sum over the numbers of a row. -/
theorem sumL_mem (N : Nat) (Q : List Nat) (hd : Q.Nodup) (hN : ∀ q ∈ Q, q < N) (g : Nat → Nat) : sumL (List.range N) (fun s => if s ∈ Q then g s else 0) = sumL Q g := by
  induction Q with
  | nil => simp [sumL_zero, sumL_nil]
  | cons q Q ih =>
    obtain ⟨h1, h2⟩ := List.nodup_cons.1 hd
    have e : sumL (List.range N) (fun s => if s ∈ q :: Q then g s else 0) = sumL (List.range N) (fun s => (if s = q then g s else 0) + (if s ∈ Q then g s else 0)) := sumL_congr (fun s _ => by
      by_cases hs : s = q
      · subst hs; simp [h1]
      · simp [hs])
    rw [e, sumL_add, sumL_one, if_pos (hN q (List.mem_cons_self ..)), ih h2 (fun x hx => hN x (List.mem_cons_of_mem _ hx)), sumL_cons]
theorem filter_sum {α : Type} (l : List α) (p : α → Bool) : (l.filter p).length = sumL l (fun x => if p x then 1 else 0) := by
  induction l with
  | nil => rfl
  | cons a l ih =>
    rw [sumL_cons, ← ih, List.filter_cons]
    cases p a <;> simp <;> omega

/-- Parts, summed word by word. -/
theorem parts_sum (ls : List Nat) (m : Nat) : partsTo (many ls) m = sumL ls (fun x => if x = 0 ∨ m ≤ x then 0 else 2 ^ (15 - x)) := by
  induction m with
  | zero => simp [partsTo, sumL_zero]
  | succ m ih =>
    rw [partsTo, ih]
    clear ih
    induction ls with
    | nil => simp [many, sumL_nil]
    | cons x ls ih =>
      rw [sumL_cons, sumL_cons, ← ih]
      have hm : many (x :: ls) m = many ls m + (if m ≠ 0 ∧ x = m then 1 else 0) := by
        unfold many
        by_cases h0 : m = 0
        · simp [h0]
        · rw [if_neg h0, if_neg h0, List.count_cons]
          by_cases hx : x = m
          · simp [hx, h0]
          · simp [hx]
      rw [hm, Nat.add_mul]
      generalize sumL ls (fun x => if x = 0 ∨ m ≤ x then 0 else 2 ^ (15 - x)) = A at ih ⊢
      generalize many ls m = M
      by_cases hx : x = m
      · subst hx
        rw [if_pos (show x = 0 ∨ x ≤ x from .inr (Nat.le_refl _))]
        by_cases h0 : x = 0
        · rw [if_neg (show ¬ (x ≠ 0 ∧ x = x) from fun h => h.1 h0), if_pos (.inl h0)]; omega
        · rw [if_pos ⟨h0, rfl⟩, if_neg (by omega)]; generalize 2 ^ (15 - x) = q; generalize M * q = z; omega
      · rw [if_neg (show ¬ (m ≠ 0 ∧ x = m) from fun h => hx h.2)]
        by_cases h0 : x = 0 ∨ m ≤ x
        · rw [if_pos h0, if_pos (by omega)]; omega
        · rw [if_neg h0, if_neg (by omega)]; generalize 2 ^ (15 - x) = q; omega
theorem parts_all (ls : List Nat) (h : ∀ x ∈ ls, x ≤ 15) : partsTo (many ls) 16 = sumL ls (fun x => if x = 0 then 0 else 2 ^ (15 - x)) := by
  rw [parts_sum]
  exact sumL_congr (fun x hx => by have := h x hx; simp [show ¬ 16 ≤ x by omega])

theorem sumTo_sumL (xs ls : List Nat) (i : Nat) : sumTo xs ls i = sumL (List.range i) (fun s => numOf xs s * numOf ls s) := by
  induction i with
  | zero => rfl
  | succ i ih => rw [List.range_succ, sumL_snoc, ← ih]; rfl

/-- Where a thing holds from some level on, how many levels it holds on tells the levels' powers. -/
theorem pow_levels (q : Nat → Bool) (m : Nat) (hq : ∀ i, i + 1 < m → q i = true → q (i + 1) = true) :
    2 ^ (m - ((List.range m).filter q).length) + sumL (List.range m) (fun i => if q i then 2 ^ i else 0) = 2 ^ m := by
  induction m with
  | zero => simp [sumL_nil]
  | succ m ih =>
    have ih := ih (fun i hi => hq i (by omega))
    have hle : ((List.range m).filter q).length ≤ m := Nat.le_trans (List.length_filter_le _ _) (by simp)
    rw [List.range_succ, sumL_snoc, List.filter_append, List.length_append]
    cases hm : q m with
    | true =>
      simp only [List.filter_cons, hm, if_true, List.filter_nil, List.length_cons, List.length_nil]
      rw [show m + 1 - (((List.range m).filter q).length + (0 + 1)) = m - ((List.range m).filter q).length by omega, ← Nat.add_assoc, ih, Nat.pow_succ]
      omega
    | false =>
      have hno : ∀ i, i < m → q i = false := by
        intro i hi
        cases hc : q i with
        | false => rfl
        | true =>
          have : ∀ d, i + d ≤ m → q (i + d) = true := by
            intro d
            induction d with
            | zero => intro _; exact hc
            | succ d ihd => intro hd; exact hq (i + d) (by omega) (ihd (by omega))
          have := this (m - i) (by omega)
          rw [show i + (m - i) = m by omega, hm] at this
          cases this
      have h0 : (List.range m).filter q = [] := by
        rw [List.filter_eq_nil_iff]
        intro i hi
        rw [hno i (List.mem_range.1 hi)]
        simp
      have h1 : sumL (List.range m) (fun i => if q i then 2 ^ i else 0) = 0 := by
        refine Eq.trans (sumL_congr (g := fun _ => 0) (fun i hi => ?_)) (sumL_zero (List.range m))
        rw [hno i (List.mem_range.1 hi)]; rfl
      rw [h0, h1]
      simp [hm]

/-- How many levels a symbol is on. -/
def lenS (P : List Nat) (T : Nat → Nat) (m s : Nat) : Nat := ((List.range m).filter (fun i => decide (s ∈ P.take (T i)))).length
theorem incTo_lenS (P : List Nat) (T : Nat → Nat) (m s : Nat) : incTo P T m 0 s = lenS P T m s := by simp [incTo, lenS]

theorem lenS_le {P : List Nat} {T : Nat → Nat} {m : Nat} (s : Nat) : lenS P T m s ≤ m := by
  unfold lenS
  exact Nat.le_trans (List.length_filter_le _ _) (by simp)
theorem lenS_zero {P : List Nat} {T : Nat → Nat} {m : Nat} (htop : 1 ≤ m ∧ T (m - 1) = P.length) (s : Nat) : lenS P T m s = 0 ↔ s ∉ P := by
  unfold lenS
  rw [List.length_eq_zero_iff, List.filter_eq_nil_iff]
  constructor
  · intro h hs
    have := h (m - 1) (List.mem_range.2 (by omega))
    rw [htop.2, List.take_length] at this
    simp [hs] at this
  · intro h i _ hc
    exact h (List.mem_of_mem_take (of_decide_eq_true hc))
/-- Counts times lengths, level by level. -/
theorem len_sum {P : List Nat} {T : Nat → Nat} {m N : Nat} (hd : P.Nodup) (hN : ∀ p ∈ P, p < N) (g : Nat → Nat) : sumL (List.range N) (fun s => g s * lenS P T m s) = sumL (List.range m) (fun i => sumL (P.take (T i)) g) := by
  have e : ∀ s, g s * lenS P T m s = sumL (List.range m) (fun i => if s ∈ P.take (T i) then g s else 0) := fun s => by
    unfold lenS
    rw [filter_sum, ← sumL_mul]
    exact sumL_congr (fun i _ => by
      by_cases h : s ∈ P.take (T i)
      · simp [h]
      · simp [h])
  rw [sumL_congr (fun s _ => e s), sumL_swap]
  exact sumL_congr (fun i _ => sumL_mem N (P.take (T i)) (hd.sublist (List.take_sublist _ _)) (fun q hq => hN q (List.mem_of_mem_take hq)) g)
/-- The words' parts. -/
theorem len_parts {P : List Nat} {T : Nat → Nat} {m N : Nat} (hd : P.Nodup) (hN : ∀ p ∈ P, p < N) (hT : ∀ i, T i ≤ P.length) (hmono : ∀ i, i + 1 < m → T i ≤ T (i + 1)) : sumL (List.range N) (fun s => if s ∈ P then 2 ^ (m - lenS P T m s) else 0) + sumL (List.range m) (fun i => 2 ^ i * T i) = P.length * 2 ^ m := by
  have e : ∀ s, (if s ∈ P then 2 ^ m else 0) = (if s ∈ P then 2 ^ (m - lenS P T m s) else 0) + sumL (List.range m) (fun i => if s ∈ P.take (T i) then 2 ^ i else 0) := fun s => by
    by_cases h : s ∈ P
    · rw [if_pos h, if_pos h]
      have := pow_levels (fun i => decide (s ∈ P.take (T i))) m (fun i hi hq => by
        rw [decide_eq_true_iff] at hq ⊢
        exact (List.take_subset_take_left P (hmono i hi)) hq)
      rw [← this]
      simp [lenS]
    · rw [if_neg h, if_neg h, Nat.zero_add]
      exact (Eq.trans (sumL_congr (g := fun _ => 0) (fun i _ => by rw [if_neg (fun hc => h (List.mem_of_mem_take hc))])) (sumL_zero (List.range m))).symm
  have e2 : sumL (List.range N) (fun s => sumL (List.range m) (fun i => if s ∈ P.take (T i) then 2 ^ i else 0)) = sumL (List.range m) (fun i => 2 ^ i * T i) := by
    rw [sumL_swap]
    refine sumL_congr (fun i _ => ?_)
    rw [sumL_mem N (P.take (T i)) (hd.sublist (List.take_sublist _ _)) (fun q hq => hN q (List.mem_of_mem_take hq)) (fun _ => 2 ^ i), sumL_const, List.length_take, Nat.min_eq_left (hT i), Nat.mul_comm]
  rw [← e2, ← sumL_add, ← sumL_congr (fun s _ => e s), sumL_mem N P hd hN (fun _ => 2 ^ m), sumL_const]
theorem lv_all (xs P : List Nat) : ∀ p ∈ lvOf xs P, p.2 = true := by
  intro p hp
  simp only [lvOf, List.mem_map] at hp
  obtain ⟨i, _, rfl⟩ := hp
  rfl
theorem lv_len (xs P : List Nat) : (lvOf xs P).length = P.length := by simp [lvOf]
theorem lv_rising {xs P : List Nat} (hP : IsOrder (numOf xs) xs.length P) : Rising (lvOf xs P) := by
  unfold Rising lvOf
  rw [List.pairwise_map]
  exact hP.sorted.imp (fun h => by unfold Lx at h; show _ ≤ _; simp only; omega)
theorem lv_wsum (xs P : List Nat) (t : Nat) : wsum ((lvOf xs P).take t) = sumL (P.take t) (numOf xs) := by
  unfold wsum lvOf sumL
  rw [← List.map_take, List.map_map]
  rfl
theorem limitL_len (xs P : List Nat) (most : Nat) : (limitL xs P most).length = xs.length := by simp [limitL]
theorem limitL_at (xs P : List Nat) (most s : Nat) (hs : s < xs.length) : numOf (limitL xs P most) s = lenS P (takenF (lvOf xs P) most) most s := by
  unfold numOf limitL
  rw [List.getElem?_map, List.getElem?_range hs]
  exact incTo_lenS _ _ _ _
theorem best_top {xs P : List Nat} {most : Nat} (hm : 1 ≤ most) (hn : P.length ≤ 2 ^ most) : sumL (List.range most) (fun i => wsum ((lvOf xs P).take (takenF (lvOf xs P) most i))) = wsum ((levelL (lvOf xs P) (most - 1)).take (2 * P.length - 2)) ∧
    sumL (List.range most) (fun i => 2 ^ i * takenF (lvOf xs P) most i) = 2 ^ (most - 1) * (2 * P.length - 2) := by
  have h := level_sum (lv := lvOf xs P) (most := most) (lv_all xs P) hm (by rw [lv_len]; exact hn) (most - 1) (by omega)
  have e : nF (lvOf xs P) most (most - 1) = 2 * P.length - 2 := by
    unfold nF
    rw [Nat.sub_self]
    show 2 * (lvOf xs P).length - 2 = _
    rw [lv_len]
  rw [e, show most - 1 + 1 = most by omega] at h
  exact ⟨h.1.symm, h.2.symm⟩
theorem best_zero {xs P : List Nat} {most : Nat} (hP : IsOrder (numOf xs) xs.length P) (h2 : 2 ≤ P.length) (hm : 1 ≤ most) (hn : P.length ≤ 2 ^ most) (s : Nat) (hs : s < xs.length) : numOf (limitL xs P most) s = 0 ↔ numOf xs s = 0 := by
  have htop : 1 ≤ most ∧ takenF (lvOf xs P) most (most - 1) = P.length := ⟨hm, by rw [taken_top (lv_all xs P) (lv_rising hP) (by rw [lv_len]; exact h2) hm (by rw [lv_len]; exact hn), lv_len]⟩
  rw [limitL_at xs P most s hs, lenS_zero htop, hP.mem]
  constructor
  · intro h
    rcases Nat.eq_zero_or_pos (numOf xs s) with e | e
    · exact e
    · exact absurd ⟨hs, by omega⟩ h
  · intro h hc
    exact hc.2 h
theorem best_le {xs P : List Nat} {most : Nat} (s : Nat) : numOf (limitL xs P most) s ≤ most := by
  by_cases hs : s < xs.length
  · rw [limitL_at xs P most s hs]; exact lenS_le s
  · unfold numOf; rw [List.getElem?_eq_none (by rw [limitL_len]; omega)]; exact Nat.zero_le _
/-- The sum is what the uppermost level's first items weigh. -/
theorem best_sum {xs P : List Nat} {most : Nat} (hP : IsOrder (numOf xs) xs.length P) (hm : 1 ≤ most) (hn : P.length ≤ 2 ^ most) : sumTo xs (limitL xs P most) xs.length = wsum ((levelL (lvOf xs P) (most - 1)).take (2 * P.length - 2)) := by
  rw [sumTo_sumL, ← (best_top hm hn).1]
  rw [sumL_congr (fun s hs => by rw [limitL_at xs P most s (List.mem_range.1 hs)]), len_sum hP.nodup (fun p hp => ((hP.mem p).1 hp).1)]
  exact sumL_congr (fun i _ => (lv_wsum xs P _).symm)
/-- The lengths make a code. -/
theorem best_code {xs P : List Nat} {most : Nat} (hP : IsOrder (numOf xs) xs.length P) (h2 : 2 ≤ P.length) (hm : 1 ≤ most) (hm2 : most ≤ 15) (hn : P.length ≤ 2 ^ most) (hl : xs.length ≤ 1024) : isCode (limitL xs P most) = true := by
  have hal : ∀ x ∈ limitL xs P most, x ≤ 15 := by
    intro x hx
    obtain ⟨i, hi, rfl⟩ := List.mem_iff_getElem.1 hx
    have := best_le (xs := xs) (P := P) (most := most) i
    unfold numOf at this
    rw [List.getElem?_eq_getElem hi] at this
    simp at this
    omega
  unfold isCode
  rw [decide_eq_true_iff]
  refine ⟨by rw [limitL_len]; exact hl, hal, ?_⟩
  rw [parts_all _ hal]
  have hlv : (lvOf xs P).length ≤ 2 ^ most := by rw [lv_len]; exact hn
  have e1 : sumL (limitL xs P most) (fun x => if x = 0 then 0 else 2 ^ (15 - x)) = 2 ^ (15 - most) * sumL (List.range xs.length) (fun s => if s ∈ P then 2 ^ (most - lenS P (takenF (lvOf xs P) most) most s) else 0) := by
    rw [← sumL_mul]
    unfold sumL limitL
    rw [List.map_map]
    congr 1
    refine List.map_congr_left (fun s hs => ?_)
    have hs' := List.mem_range.1 hs
    simp only [Function.comp, incTo_lenS]
    have hz := lenS_zero (P := P) (T := takenF (lvOf xs P) most) (m := most) ⟨hm, by rw [taken_top (lv_all xs P) (lv_rising hP) (by rw [lv_len]; exact h2) hm hlv, lv_len]⟩ s
    have hle := lenS_le (P := P) (T := takenF (lvOf xs P) most) (m := most) s
    generalize lenS P (takenF (lvOf xs P) most) most s = l at hz hle
    by_cases h : s ∈ P
    · have : l ≠ 0 := fun e => (hz.1 e) h
      rw [if_neg this, if_pos h, ← Nat.pow_add]
      congr 1
      omega
    · rw [if_pos (hz.2 h), if_neg h, Nat.mul_zero]
  have e2 := len_parts (P := P) (T := takenF (lvOf xs P) most) (m := most) (N := xs.length) hP.nodup (fun p hp => ((hP.mem p).1 hp).1) (fun i => by have := takenF_le (lvOf xs P) most i (lv_all xs P); rw [lv_len] at this; exact this) (fun i hi => taken_mono (lv_all xs P) (lv_rising hP) hm hlv i hi)
  rw [(best_top hm hn).2] at e2
  rw [e1]
  generalize sumL (List.range xs.length) (fun s => if s ∈ P then 2 ^ (most - lenS P (takenF (lvOf xs P) most) most s) else 0) = X at e2
  obtain ⟨j, rfl⟩ : ∃ j, most = j + 1 := ⟨most - 1, by omega⟩
  rw [show j + 1 - 1 = j by omega, Nat.pow_succ] at e2
  obtain ⟨n, hn'⟩ : ∃ n, P.length = n + 1 := ⟨P.length - 1, by omega⟩
  rw [hn', show 2 * (n + 1) - 2 = 2 * n by omega] at e2
  have e3 : X = 2 ^ j * 2 := by
    have : 2 ^ j * (2 * n) = n * (2 ^ j * 2) := by rw [← Nat.mul_assoc, Nat.mul_comm (2 ^ j * 2) n]
    rw [this, Nat.add_mul] at e2
    omega
  rw [e3, ← Nat.pow_succ, ← Nat.pow_add, show 15 - (j + 1) + (j + 1) = 15 by omega]
end Go.Proofs.Ytapcohpagipkpaa
