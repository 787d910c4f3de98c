/-
  Which symbol each state has, as plain numbers; each symbol has as many states as its count says.
-/
import Derived.Test.YtoffnhbopjaocaaOrb
import Derived.Test.YtoffnhbopjaocaaDsc
namespace Go.Proofs.Ytoffnhbopjaocaa

/-- In turn k the state x is taken. -/
def Turn (S H k x : Nat) : Prop := ∃ j, j < S ∧ x = orb S j ∧ orb S j < H ∧ cntP (below S H) j = k
/-- Steps behind turn k. -/
def Mid (S H k x : Nat) : Prop := ∃ i, 1 ≤ i ∧ i ≤ S ∧ x = orb S i ∧ cntP (below S H) i = k + 1
theorem turn_zero (S H : Nat) (hS : 0 < S) (hH : 0 < H) : Turn S H 0 0 := ⟨0, hS, (orb_zero S).symm, by rw [orb_zero]; exact hH, rfl⟩
theorem Turn.place {S H k x : Nat} (h : Turn S H k x) : place S H k = x := by
  obtain ⟨j, h1, rfl, h2, h3⟩ := h
  exact place_eq S H k j h1 h2 h3
theorem Turn.lt {S H k x : Nat} (h : Turn S H k x) : x < H := by obtain ⟨j, _, rfl, h2, _⟩ := h; exact h2
theorem Turn.next {S H k x : Nat} (h : Turn S H k x) : Mid S H k ((x + stepN S) % S) := by
  obtain ⟨j, h1, rfl, h2, h3⟩ := h
  refine ⟨j + 1, by omega, by omega, (orb_succ S j).symm, ?_⟩
  simp [cntP, below, h2, h3]
theorem Mid.lt {S v H k x : Nat} (ho : Odd S v) (h : Mid S H k x) : x < S := by obtain ⟨i, _, _, rfl, _⟩ := h; exact orb_lt ho i
theorem Mid.next {S H k x : Nat} (hH : 0 < H) (h : Mid S H k x) (hx : H ≤ x) : Mid S H k ((x + stepN S) % S) := by
  obtain ⟨i, h1, h2, rfl, h3⟩ := h
  have : i ≠ S := by rintro rfl; rw [orb_all] at hx; omega
  refine ⟨i + 1, by omega, by omega, (orb_succ S i).symm, ?_⟩
  have h4 : ¬ orb S i < H := by omega
  simp [cntP, below, h4, h3]
theorem Mid.end_ {S v H k x : Nat} (ho : Odd S v) (hH : H ≤ S) (h : Mid S H k x) (hx : x < H) : k + 1 = H ∨ Turn S H (k + 1) x := by
  obtain ⟨i, h1, h2, rfl, h3⟩ := h
  by_cases e : i = S
  · subst e; rw [below_all ho H hH] at h3; omega
  · exact .inr ⟨i, by omega, rfl, hx, h3⟩
/-- How many steps are left at most. -/
def meas (S v x : Nat) : Nat := if x = 0 then 0 else S - x * v % S
theorem Mid.meas {S v H k x : Nat} (ho : Odd S v) (hH : 0 < H) (h : Mid S H k x) (hx : H ≤ x) : meas S v ((x + stepN S) % S) < meas S v x := by
  obtain ⟨i, h1, h2, rfl, h3⟩ := h
  have hp := ho.pos
  have hi : i ≠ S := by rintro rfl; rw [orb_all] at hx; omega
  rw [← orb_succ]
  unfold Go.Proofs.Ytoffnhbopjaocaa.meas
  rw [if_neg (show ¬ orb S i = 0 by omega), orb_inv ho i, Nat.mod_eq_of_lt (show i < S by omega)]
  split
  · omega
  · rename_i h0
    have : i + 1 ≠ S := fun e => h0 (by rw [e]; exact orb_all S)
    rw [orb_inv ho (i + 1), Nat.mod_eq_of_lt (show i + 1 < S by omega)]
    omega

/-- A place is given a symbol. -/
def upd (f : Nat → Option Nat) (i s : Nat) : Nat → Option Nat := fun k => if k = i then some s else f k
/-- Is a symbol a rare one? -/
def isRare (xs : List Int) (s : Nat) : Bool := decide (xs[s]?.getD 0 = -1)
/-- How many of the first n symbols are rare. -/
def nr (xs : List Int) (n : Nat) : Nat := cntP (isRare xs) n
/-- The rare ones of the first n symbols have their states. -/
def rareF (xs : List Int) (S : Nat) : Nat → Nat → Option Nat
  | 0 => fun _ => none
  | n + 1 => if xs[n]?.getD 0 = -1 then upd (rareF xs S n) (S - nr xs (n + 1)) n else rareF xs S n
/-- The others of the first n symbols, each as often as it has states. -/
def rowL (xs : List Int) : Nat → List Nat
  | 0 => []
  | n + 1 => rowL xs n ++ List.replicate (xs[n]?.getD 0).toNat n
def rowAt (xs : List Int) (k : Nat) : Nat := (rowL xs xs.length)[k]?.getD 0
/-- The first k of them have their states. -/
def putF (xs : List Int) (S H : Nat) : Nat → Nat → Option Nat
  | 0 => rareF xs S xs.length
  | k + 1 => upd (putF xs S H k) (place S H k) (rowAt xs k)
/-- All have. -/
def symO (xs : List Int) (S : Nat) : Nat → Option Nat := putF xs S (S - nr xs xs.length) (S - nr xs xs.length)
def symF (xs : List Int) (S i : Nat) : Nat := (symO xs S i).getD 0

theorem nr_succ (xs : List Int) (n : Nat) : nr xs (n + 1) = nr xs n + (if xs[n]?.getD 0 = -1 then 1 else 0) := by
  unfold nr
  simp only [cntP, isRare]
  congr 1
  by_cases h : xs[n]?.getD 0 = -1 <;> simp [h]
theorem rowL_len (xs : List Int) (h : ∀ i : Nat, i < xs.length → -1 ≤ xs[i]?.getD 0) (n : Nat) (hn : n ≤ xs.length) : (rowL xs n).length + nr xs n = tot (xs.take n) := by
  induction n with
  | zero => simp [rowL, nr, cntP, tot]
  | succ n ih =>
    have h1 := h n (by omega)
    have h2 := ih (by omega)
    rw [nr_succ, List.take_succ_eq_append_getElem (by omega), tot_snoc]
    simp only [rowL]
    rw [List.length_append, List.length_replicate]
    rw [List.getElem?_eq_getElem (by omega), Option.getD_some] at h1 ⊢
    unfold shareN
    split <;> omega
theorem rowL_grow (xs : List Int) (m n : Nat) (h : m ≤ n) : ∃ T, rowL xs n = rowL xs m ++ T := by
  induction n with
  | zero => obtain rfl : m = 0 := by omega
            exact ⟨[], by simp⟩
  | succ n ih =>
    by_cases e : m = n + 1
    · subst e; exact ⟨[], by simp⟩
    · obtain ⟨T, hT⟩ := ih (by omega)
      exact ⟨T ++ List.replicate (xs[n]?.getD 0).toNat n, by simp only [rowL]; rw [hT, List.append_assoc]⟩
/-- The row's k-th of symbol s. -/
theorem rowAt_eq (xs : List Int) (s k : Nat) (hs : s < xs.length) (hk : k < (xs[s]?.getD 0).toNat) : rowAt xs ((rowL xs s).length + k) = s := by
  obtain ⟨T, hT⟩ := rowL_grow xs (s + 1) xs.length (by omega)
  unfold rowAt
  rw [hT]
  simp only [rowL]
  rw [List.append_assoc, List.getElem?_append_right (by omega), Nat.add_sub_cancel_left, List.getElem?_append_left (by simpa using hk)]
  rw [List.getElem?_replicate, if_pos hk]; rfl
theorem rowL_count (xs : List Int) (s n : Nat) : (rowL xs n).count s = if s < n then (xs[s]?.getD 0).toNat else 0 := by
  induction n with
  | zero => simp [rowL]
  | succ n ih =>
    simp only [rowL]
    rw [List.count_append, ih, List.count_replicate]
    by_cases e : n = s
    · subst e; simp
    · have e2 : (n == s) = false := by simpa using e
      have e3 : (s < n + 1) ↔ (s < n) := by omega
      simp [e2, e3]
theorem count_cntP (L : List Nat) (s : Nat) : cntP (fun k => decide (L[k]?.getD 0 = s)) L.length = L.count s := by
  have key : ∀ n, n ≤ L.length → cntP (fun k => decide (L[k]?.getD 0 = s)) n = (L.take n).count s := by
    intro n
    induction n with
    | zero => intro _; simp [cntP]
    | succ n ih =>
      intro hn
      simp only [cntP]
      have hv : L[n]?.getD 0 = L[n] := by rw [List.getElem?_eq_getElem (by omega)]; rfl
      rw [ih (by omega), List.take_succ_eq_append_getElem (by omega), List.count_append]
      by_cases e : L[n] = s
      · simp [e, hv]
      · simp [e, hv]
  have := key L.length (Nat.le_refl _)
  rwa [List.take_of_length_le (Nat.le_refl _)] at this

/-- How many of S states have the symbol s; how many have none. -/
def cntS (f : Nat → Option Nat) (S s : Nat) : Nat := cntP (fun i => decide (f i = some s)) S
def cntN (f : Nat → Option Nat) (S : Nat) : Nat := cntP (fun i => decide (f i = none)) S
theorem cntS_upd (f : Nat → Option Nat) (S i s t : Nat) (hi : i < S) (hf : f i = none) : cntS (upd f i s) S t = cntS f S t + if t = s then 1 else 0 := by
  unfold cntS
  by_cases e : t = s
  · subst e
    rw [if_pos rfl]
    exact cntP_add _ _ S i hi (by simp [hf]) (by simp [upd]) (fun k _ hk => by simp [upd, hk])
  · rw [if_neg e, Nat.add_zero]
    refine cntP_congr _ _ S (fun k _ => ?_)
    by_cases ek : k = i
    · subst ek; simp [upd, hf, Ne.symm e]
    · simp [upd, ek]
theorem cntN_upd (f : Nat → Option Nat) (S i s : Nat) (hi : i < S) (hf : f i = none) : cntN (upd f i s) S + 1 = cntN f S := by
  unfold cntN
  exact (cntP_add _ _ S i hi (by simp [upd]) (by simp [hf]) (fun k _ hk => by simp [upd, hk])).symm

/-- The rare ones stand at the end. -/
theorem rareF_facts (xs : List Int) (S n : Nat) (h : nr xs n ≤ S) :
    (∀ i, i < S - nr xs n → rareF xs S n i = none) ∧ (∀ i s, rareF xs S n i = some s → s < n ∧ xs[s]?.getD 0 = -1) ∧
    (∀ s, cntS (rareF xs S n) S s = if s < n ∧ xs[s]?.getD 0 = -1 then 1 else 0) ∧ cntN (rareF xs S n) S + nr xs n = S := by
  induction n with
  | zero =>
    refine ⟨fun _ _ => rfl, fun i s h => by simp [rareF] at h, fun s => ?_, ?_⟩
    · rw [if_neg (by omega)]; exact cntP_none _ _ (fun i _ => by simp [rareF])
    · have : cntN (rareF xs S 0) S = S := by
        have h1 : ∀ n, cntP (fun i => decide (rareF xs S 0 i = none)) n = n := by
          intro n
          induction n with
          | zero => rfl
          | succ n ih => simp only [cntP]; rw [ih]; simp [rareF]
        exact h1 S
      rw [this]; rfl
  | succ n ih =>
    have hs := nr_succ xs n
    by_cases hr : xs[n]?.getD 0 = -1
    · rw [if_pos hr] at hs
      obtain ⟨a1, a2, a3, a4⟩ := ih (by omega)
      have e : rareF xs S (n + 1) = upd (rareF xs S n) (S - nr xs (n + 1)) n := by simp only [rareF]; rw [if_pos hr]
      rw [e]
      have hn0 := a1 (S - nr xs (n + 1)) (by omega)
      refine ⟨fun i hi => ?_, fun i s h => ?_, fun s => ?_, ?_⟩
      · simp only [upd]; rw [if_neg (by omega)]; exact a1 i (by omega)
      · simp only [upd] at h
        split at h
        · cases h; exact ⟨by omega, hr⟩
        · have := a2 i s h; exact ⟨by omega, this.2⟩
      · rw [cntS_upd _ S _ n s (by omega) hn0, a3 s]
        by_cases e : s = n
        · subst e; rw [if_neg (by omega), if_pos rfl, if_pos ⟨by omega, hr⟩]
        · rw [if_neg e, Nat.add_zero]
          by_cases h2 : s < n ∧ xs[s]?.getD 0 = -1
          · rw [if_pos h2, if_pos ⟨by omega, h2.2⟩]
          · rw [if_neg h2, if_neg (fun h => h2 ⟨by omega, h.2⟩)]
      · have := cntN_upd (rareF xs S n) S (S - nr xs (n + 1)) n (by omega) hn0
        omega
    · rw [if_neg hr] at hs
      obtain ⟨a1, a2, a3, a4⟩ := ih (by omega)
      have e : rareF xs S (n + 1) = rareF xs S n := by simp only [rareF]; rw [if_neg hr]
      rw [e, hs]
      refine ⟨a1, fun i s h => ⟨by have := a2 i s h; omega, (a2 i s h).2⟩, fun s => ?_, a4⟩
      rw [a3 s]
      by_cases h2 : s < n ∧ xs[s]?.getD 0 = -1
      · rw [if_pos h2, if_pos ⟨by omega, h2.2⟩]
      · rw [if_neg h2, if_neg]
        rintro ⟨h3, h4⟩
        by_cases e : s = n
        · subst e; exact hr h4
        · exact h2 ⟨by omega, h4⟩

theorem putF_facts (xs : List Int) (S v : Nat) (ho : Odd S v) (H : Nat) (hH : H + nr xs xs.length = S) (hrow : (rowL xs xs.length).length = H) (k : Nat) (hk : k ≤ H) :
    (∀ i, i < H → (∀ j, j < k → place S H j ≠ i) → putF xs S H k i = none) ∧ (∀ i s, putF xs S H k i = some s → s < xs.length ∧ xs[s]?.getD 0 ≠ 0) ∧
    (∀ s, cntS (putF xs S H k) S s = (if s < xs.length ∧ xs[s]?.getD 0 = -1 then 1 else 0) + cntP (fun j => decide (rowAt xs j = s)) k) ∧ cntN (putF xs S H k) S + nr xs xs.length + k = S := by
  induction k with
  | zero =>
    obtain ⟨a1, a2, a3, a4⟩ := rareF_facts xs S xs.length (by omega)
    refine ⟨fun i hi _ => a1 i (by omega), fun i s h => ⟨(a2 i s h).1, by rw [(a2 i s h).2]; decide⟩, fun s => ?_, by simp only [putF]; omega⟩
    simp only [putF, cntP]
    rw [a3 s]; rfl
  | succ k ih =>
    obtain ⟨a1, a2, a3, a4⟩ := ih (by omega)
    have hpl := place_lt ho H (by omega) k (by omega)
    have hn0 : putF xs S H k (place S H k) = none := a1 _ hpl (fun j hj e => by
      have := place_inj ho H (by omega) j k (by omega) (by omega) e
      omega)
    simp only [putF]
    refine ⟨fun i hi h => ?_, fun i s h => ?_, fun s => ?_, ?_⟩
    · have hne := h k (by omega)
      simp only [upd]
      rw [if_neg (fun e => hne e.symm)]
      exact a1 i hi (fun j hj => h j (by omega))
    · simp only [upd] at h
      split at h
      · have hmem : rowAt xs k ∈ rowL xs xs.length := by
          unfold rowAt
          rw [List.getElem?_eq_getElem (by omega), Option.getD_some]
          exact List.getElem_mem _
        have hc := rowL_count xs (rowAt xs k) xs.length
        have hpos := List.count_pos_iff.2 hmem
        have e : rowAt xs k = s := by simpa using h
        rw [e] at hc hpos
        split at hc
        · exact ⟨by assumption, fun e0 => by rw [e0] at hc; simp at hc; omega⟩
        · omega
      · exact a2 i s h
    · rw [cntS_upd _ S _ _ s (by omega) hn0, a3 s]
      simp only [cntP]
      by_cases e : rowAt xs k = s
      · rw [if_pos (show s = rowAt xs k from e.symm), if_pos (show decide (rowAt xs k = s) = true from decide_eq_true e)]; omega
      · rw [if_neg (show ¬ s = rowAt xs k from fun h => e h.symm), if_neg (show ¬ decide (rowAt xs k = s) = true from by simpa using e)]; omega
    · have := cntN_upd (putF xs S H k) S (place S H k) (rowAt xs k) (by omega) hn0
      omega

/-- A table's counts, as plain numbers. -/
structure Tab (xs : List Int) (S : Nat) : Prop where
  low : ∀ i : Nat, i < xs.length → -1 ≤ xs[i]?.getD 0
  tot : tot xs = S
  len : xs.length ≤ 256
  ne : xs ≠ []
  log : ∃ l, S = 2 ^ l ∧ 5 ≤ l ∧ l ≤ 12
theorem okT_tab {xs : List Int} {l : Nat} (h : okT xs (l : Int) = true) : Tab xs (2 ^ l) := by
  obtain ⟨h1, h2, h3, h4, h5, h6⟩ := okT_good h
  exact ⟨(of_decide_eq_true h).2.2.2.2.2.1, h2, h4, h3, l, rfl, h5, h6⟩
theorem Tab.row {xs : List Int} {S : Nat} (h : Tab xs S) : (rowL xs xs.length).length + nr xs xs.length = S := by
  have := rowL_len xs h.low xs.length (Nat.le_refl _)
  rw [List.take_of_length_le (Nat.le_refl _), h.tot] at this
  exact this
/-- Each state has a symbol that is there, and each symbol as many states as its count says. -/
theorem Tab.sym {xs : List Int} {S : Nat} (h : Tab xs S) : (∀ i, i < S → ∃ s, symO xs S i = some s ∧ s < xs.length ∧ xs[s]?.getD 0 ≠ 0) ∧ ∀ s, s < xs.length → (cntS (symO xs S) S s : Int) = shareN (xs[s]?.getD 0) := by
  obtain ⟨l, rfl, h5, h12⟩ := h.log
  obtain ⟨v, ho⟩ := odd_pow l h5 h12
  have hr := h.row
  obtain ⟨a1, a2, a3, a4⟩ := putF_facts xs (2 ^ l) v ho (2 ^ l - nr xs xs.length) (by omega) (by omega) _ (Nat.le_refl _)
  refine ⟨fun i hi => ?_, fun s hs => ?_⟩
  · have h0 : cntN (symO xs (2 ^ l)) (2 ^ l) = 0 := by unfold symO; omega
    cases e : symO xs (2 ^ l) i with
    | none =>
      have := cntP_lt (fun i => decide (symO xs (2 ^ l) i = none)) i (2 ^ l) hi (by simp [e])
      unfold cntN at h0
      omega
    | some s => exact ⟨s, rfl, a2 i s e⟩
  · have hc := a3 s
    have e1 : cntP (fun j => decide (rowAt xs j = s)) (2 ^ l - nr xs xs.length) = (xs[s]?.getD 0).toNat := by
      have := count_cntP (rowL xs xs.length) s
      rw [rowL_count, if_pos hs] at this
      rw [← this, show (rowL xs xs.length).length = 2 ^ l - nr xs xs.length from by omega]
      rfl
    rw [e1] at hc
    have hlow := h.low s hs
    unfold symO
    unfold shareN
    by_cases e : xs[s]?.getD 0 = -1
    · rw [if_pos ⟨hs, e⟩] at hc; rw [if_pos e, hc, e]; rfl
    · rw [if_neg (fun h => e h.2)] at hc; rw [if_neg e, hc]; omega

end Go.Proofs.Ytoffnhbopjaocaa
