/-
  A description of counts, as bits.
  Which symbol each state has, as plain numbers; each symbol has as many states as its count says.
  A table's cells as plain numbers; from each symbol every state is come to.
  Great arrays as they are made, and rows of cells.
  A range over places(states, below): the states in the order in which symbols take them.
  The statement 'for k, state := range places(..)': its body is asked for the places alone, in their order.
-/
import Derived.Test.YtgaepmmpedaaiaaGreatDoorBackQ1
import Derived.Test.YtgaepmmpedaaiaaGreatDoorBackQ2
namespace Go.Proofs.YtgaepmmpedaaiaaGreatDoor

/-- A value v from 0 to R + 1. -/
def valBits (R v : Nat) : List (Fin 2) := if v < valT R then low v (valM R - 1) else if v < 2 ^ (valM R - 1) then low v (valM R) else low (v + valT R) (valM R)
/-- How many more have 0. -/
def zbits (n : Nat) : List (Fin 2) := (List.replicate (n / 3) (low 3 2)).flatten ++ low (n % 3) 2
theorem zbits_more (n : Nat) : zbits (n + 3) = low 3 2 ++ zbits n := by
  unfold zbits
  rw [show (n + 3) / 3 = n / 3 + 1 from by omega, show (n + 3) % 3 = n % 3 from by omega, List.replicate_succ, List.flatten_cons, List.append_assoc]
theorem zbits_few (n : Nat) (h : n < 3) : zbits n = low n 2 := by
  unfold zbits
  rw [show n / 3 = 0 from by omega, show n % 3 = n from by omega]
  rfl
/-- How many zeros a row begins with. -/
def zl : List Int → Nat
  | [] => 0
  | c :: cs => if c = 0 then zl cs + 1 else 0
theorem zl_le (cs : List Int) : zl cs ≤ cs.length := by
  induction cs with
  | nil => simp [zl]
  | cons c cs ih => simp only [zl]; split <;> simp <;> omega
theorem zl_zero (cs : List Int) : ∀ i, i < zl cs → cs[i]?.getD 0 = 0 := by
  induction cs with
  | nil => intro i hi; simp [zl] at hi
  | cons c cs ih =>
    intro i hi
    simp only [zl] at hi
    split at hi
    · rename_i hc
      cases i with
      | zero => simpa using hc
      | succ i => simpa using ih i (by omega)
    · omega
theorem zl_end (cs : List Int) (h : zl cs < cs.length) : cs[zl cs]?.getD 0 ≠ 0 := by
  induction cs with
  | nil => simp at h
  | cons c cs ih =>
    simp only [zl] at h ⊢
    by_cases hc : c = 0
    · rw [if_pos hc] at h ⊢
      simpa using ih (by simpa using h)
    · rw [if_neg hc]; simpa using hc
theorem zl_uniq (cs : List Int) (n : Nat) (h1 : ∀ i, i < n → cs[i]?.getD 0 = 0) (hn : n < cs.length) (h2 : cs[n]?.getD 0 ≠ 0) : zl cs = n := by
  have hz := zl_zero cs
  rcases Nat.lt_trichotomy (zl cs) n with h | h | h
  · exact absurd (h1 _ h) (zl_end cs (by omega))
  · exact h
  · exact absurd (hz n h) h2
theorem zl_drop (cs : List Int) (k : Nat) (h : k ≤ zl cs) : zl (cs.drop k) = zl cs - k := by
  induction k generalizing cs with
  | zero => simp
  | succ k ih =>
    cases cs with
    | nil => simp [zl] at h
    | cons c cs =>
      simp only [zl] at h ⊢
      by_cases hc : c = 0
      · rw [if_pos hc] at h ⊢
        rw [List.drop_succ_cons, ih cs (by omega)]; omega
      · rw [if_neg hc] at h; omega

/-- How many states counts take. -/
def tot : List Int → Nat
  | [] => 0
  | c :: cs => (shareN c).toNat + tot cs
/-- The bits of counts, of which R states are left. -/
def dsc : Nat → Nat → List Int → List (Fin 2)
  | 0, _, _ => []
  | _ + 1, _, [] => []
  | f + 1, R, c :: cs => valBits R (c + 1).toNat ++ (if c = 0 then zbits (zl cs) ++ dsc f R (cs.drop (zl cs)) else dsc f (R - (shareN c).toNat) cs)

/-- Counts that may be left. -/
structure Good (cs : List Int) : Prop where
  low : ∀ c ∈ cs, -1 ≤ c
  last : cs ≠ [] → cs[cs.length - 1]?.getD 0 ≠ 0
  le : tot cs ≤ 4096
theorem shareN_pos (c : Int) (h : -1 ≤ c) : 0 ≤ shareN c := by unfold shareN; split <;> omega
theorem shareN_zero (c : Int) : shareN c = 0 ↔ c = 0 := by unfold shareN; split <;> omega
theorem Good.tail {c : Int} {cs : List Int} (h : Good (c :: cs)) : Good cs := by
  refine ⟨fun x hx => h.low x (List.mem_cons_of_mem _ hx), fun hne => ?_, by have := h.le; simp only [tot] at this; omega⟩
  have := h.last (by simp)
  cases cs with
  | nil => exact absurd rfl hne
  | cons d ds => simpa using this
theorem Good.drop {cs : List Int} (h : Good cs) (k : Nat) : Good (cs.drop k) := by
  induction k generalizing cs with
  | zero => simpa using h
  | succ k ih =>
    cases cs with
    | nil => simpa using h
    | cons c cs => exact ih h.tail
theorem Good.pos {cs : List Int} (h : Good cs) (hne : cs ≠ []) : 0 < tot cs := by
  induction cs with
  | nil => exact absurd rfl hne
  | cons c cs ih =>
    simp only [tot]
    by_cases hn : cs = []
    · subst hn
      have h1 := h.last (by simp)
      have h2 := h.low c (by simp)
      have h3 := shareN_pos c h2
      have h4 := shareN_zero c
      have : c ≠ 0 := by simpa using h1
      simp only [tot]
      have : shareN c ≠ 0 := fun e => this (h4.1 e)
      omega
    · have := ih h.tail hn; omega
theorem tot_zeros (cs : List Int) (k : Nat) (h : k ≤ zl cs) : tot (cs.drop k) = tot cs := by
  induction k generalizing cs with
  | zero => simp
  | succ k ih =>
    cases cs with
    | nil => simp
    | cons c cs =>
      simp only [zl] at h
      by_cases hc : c = 0
      · rw [if_pos hc] at h
        rw [List.drop_succ_cons, ih cs (by omega)]
        simp only [tot]
        rw [hc]; simp [shareN]
      · rw [if_neg hc] at h; omega
theorem Good.zl {cs : List Int} (h : Good cs) (hne : cs ≠ []) : zl cs < cs.length := by
  rcases Nat.lt_or_ge (Go.Proofs.YtgaepmmpedaaiaaGreatDoor.zl cs) cs.length with h1 | h1
  · exact h1
  · exact absurd (zl_zero cs (cs.length - 1) (by have := List.length_pos_iff.2 hne; omega)) (h.last hne)
theorem tot_mem (cs : List Int) (i : Nat) (h : ∀ c ∈ cs, -1 ≤ c) : shareN (cs[i]?.getD 0) ≤ tot cs := by
  induction cs generalizing i with
  | nil => simp [tot, shareN]
  | cons c cs ih =>
    simp only [tot]
    have h1 := shareN_pos c (h c (by simp))
    cases i with
    | zero => simp; omega
    | succ i => have := ih i (fun x hx => h x (by simp [hx])); simp; omega
theorem Good.at_ {cs : List Int} (h : Good cs) (i : Nat) : -1 ≤ cs[i]?.getD 0 ∧ cs[i]?.getD 0 ≤ 4096 := by
  by_cases hi : i < cs.length
  · have h1 := h.low _ (List.getElem_mem hi)
    have h2 := tot_mem cs i h.low
    have h3 := h.le
    rw [List.getElem?_eq_getElem hi] at h2 ⊢
    simp only [Option.getD_some] at h2 ⊢
    unfold shareN at h2
    split at h2 <;> omega
  · rw [List.getElem?_eq_none (by omega)]; simp

theorem valBits_le (R v : Nat) (h : R ≤ 4096) : (valBits R v).length ≤ 13 := by
  have := valM_le R h
  unfold valBits
  split
  · rw [low_length]; omega
  · split <;> rw [low_length] <;> omega
theorem zbits_length (n : Nat) : (zbits n).length = 2 * (n / 3) + 2 := by
  unfold zbits
  rw [List.length_append, low_length, List.length_flatten, List.map_replicate, List.sum_replicate_nat, low_length]
  omega
/-- A description's bits. -/
theorem dsc_le (f R : Nat) (cs : List Int) (h : R ≤ 4096) : (dsc f R cs).length ≤ 15 * cs.length := by
  induction f generalizing R cs with
  | zero => simp [dsc]
  | succ f ih =>
    cases cs with
    | nil => simp [dsc]
    | cons c cs =>
      have h1 := valBits_le R (c + 1).toNat h
      simp only [dsc]
      rw [List.length_append]
      by_cases hc : c = 0
      · rw [if_pos hc, List.length_append, zbits_length]
        have h2 := ih R (cs.drop (zl cs)) h
        have h3 := zl_le cs
        rw [List.length_drop] at h2
        simp only [List.length_cons]
        omega
      · rw [if_neg hc]
        have h2 := ih (R - (shareN c).toNat) cs (by omega)
        simp only [List.length_cons]
        omega

theorem tot_snoc (cs : List Int) (c : Int) : tot (cs ++ [c]) = tot cs + (shareN c).toNat := by
  induction cs with
  | nil => simp [tot]
  | cons d ds ih => simp only [List.cons_append, tot]; omega
theorem sumS_tot (xs : List Int) (h : ∀ i : Nat, i < xs.length → -1 ≤ xs[i]?.getD 0) (n : Nat) (hn : n ≤ xs.length) : sumS xs n = ((tot (xs.take n) : Nat) : Int) := by
  induction n with
  | zero => simp [sumS, tot]
  | succ n ih =>
    have h1 := shareN_pos _ (h n (by omega))
    rw [List.take_succ_eq_append_getElem (by omega), tot_snoc]
    simp only [sumS]
    rw [ih (by omega)]
    rw [List.getElem?_eq_getElem (by omega)] at h1 ⊢
    simp only [Option.getD_some] at h1 ⊢
    omega
/-- Counts that make a table. -/
theorem okT_good {xs : List Int} {l : Nat} (h : okT xs (l : Int) = true) : Good xs ∧ tot xs = 2 ^ l ∧ xs ≠ [] ∧ xs.length ≤ 256 ∧ 5 ≤ l ∧ l ≤ 12 := by
  obtain ⟨h1, h2, h3, h4, h5, h6, h7⟩ := of_decide_eq_true h
  have hs := sumS_tot xs h6 xs.length (Nat.le_refl _)
  rw [List.take_of_length_le (Nat.le_refl _)] at hs
  have ht : tot xs = 2 ^ l := by
    have e : ((2 ^ l : Nat) : Int) = (2 : Int) ^ l := by simp
    rw [hs, Int.toNat_natCast, ← e] at h7
    omega
  have hp : (2 : Nat) ^ l ≤ 2 ^ 12 := Nat.pow_le_pow_right (by omega) (by omega)
  refine ⟨⟨fun c hc => ?_, fun _ => h5, by omega⟩, ht, fun e => h3 (by rw [e]; rfl), h4, by omega, by omega⟩
  obtain ⟨i, hi, e⟩ := List.getElem_of_mem hc
  have := h6 i hi
  rwa [List.getElem?_eq_getElem hi, Option.getD_some, e] at this

end Go.Proofs.YtgaepmmpedaaiaaGreatDoor

namespace Go.Proofs.YtgaepmmpedaaiaaGreatDoor

/-- In turn k the state x is taken. -/
def Turn (S H k x : Nat) : Prop := ∃ j, j < S ∧ x = orb S j ∧ orb S j < H ∧ cntP (below S H) j = k
/-- Steps behind turn k. -/
def Mid (S H k x : Nat) : Prop := ∃ i, 1 ≤ i ∧ i ≤ S ∧ x = orb S i ∧ cntP (below S H) i = k + 1
theorem turn_zero (S H : Nat) (hS : 0 < S) (hH : 0 < H) : Turn S H 0 0 := ⟨0, hS, (orb_zero S).symm, by rw [orb_zero]; exact hH, rfl⟩
theorem Turn.place {S H k x : Nat} (h : Turn S H k x) : place S H k = x := by
  obtain ⟨j, h1, rfl, h2, h3⟩ := h
  exact place_eq S H k j h1 h2 h3
theorem Turn.lt {S H k x : Nat} (h : Turn S H k x) : x < H := by obtain ⟨j, _, rfl, h2, _⟩ := h; exact h2
theorem Turn.next {S H k x : Nat} (h : Turn S H k x) : Mid S H k ((x + stepN S) % S) := by
  obtain ⟨j, h1, rfl, h2, h3⟩ := h
  refine ⟨j + 1, by omega, by omega, (orb_succ S j).symm, ?_⟩
  simp [cntP, below, h2, h3]
theorem Mid.lt {S v H k x : Nat} (ho : Odd S v) (h : Mid S H k x) : x < S := by obtain ⟨i, _, _, rfl, _⟩ := h; exact orb_lt ho i
theorem Mid.next {S H k x : Nat} (hH : 0 < H) (h : Mid S H k x) (hx : H ≤ x) : Mid S H k ((x + stepN S) % S) := by
  obtain ⟨i, h1, h2, rfl, h3⟩ := h
  have : i ≠ S := by rintro rfl; rw [orb_all] at hx; omega
  refine ⟨i + 1, by omega, by omega, (orb_succ S i).symm, ?_⟩
  have h4 : ¬ orb S i < H := by omega
  simp [cntP, below, h4, h3]
theorem Mid.end_ {S v H k x : Nat} (ho : Odd S v) (hH : H ≤ S) (h : Mid S H k x) (hx : x < H) : k + 1 = H ∨ Turn S H (k + 1) x := by
  obtain ⟨i, h1, h2, rfl, h3⟩ := h
  by_cases e : i = S
  · subst e; rw [below_all ho H hH] at h3; omega
  · exact .inr ⟨i, by omega, rfl, hx, h3⟩
/-- How many steps are left at most. -/
def meas (S v x : Nat) : Nat := if x = 0 then 0 else S - x * v % S
theorem Mid.meas {S v H k x : Nat} (ho : Odd S v) (hH : 0 < H) (h : Mid S H k x) (hx : H ≤ x) : meas S v ((x + stepN S) % S) < meas S v x := by
  obtain ⟨i, h1, h2, rfl, h3⟩ := h
  have hp := ho.pos
  have hi : i ≠ S := by rintro rfl; rw [orb_all] at hx; omega
  rw [← orb_succ]
  unfold Go.Proofs.YtgaepmmpedaaiaaGreatDoor.meas
  rw [if_neg (show ¬ orb S i = 0 by omega), orb_inv ho i, Nat.mod_eq_of_lt (show i < S by omega)]
  split
  · omega
  · rename_i h0
    have : i + 1 ≠ S := fun e => h0 (by rw [e]; exact orb_all S)
    rw [orb_inv ho (i + 1), Nat.mod_eq_of_lt (show i + 1 < S by omega)]
    omega

/-- A place is given a symbol. -/
def upd (f : Nat → Option Nat) (i s : Nat) : Nat → Option Nat := fun k => if k = i then some s else f k
/-- Is a symbol a rare one? -/
def isRare (xs : List Int) (s : Nat) : Bool := decide (xs[s]?.getD 0 = -1)
/-- How many of the first n symbols are rare. -/
def nr (xs : List Int) (n : Nat) : Nat := cntP (isRare xs) n
/-- The rare ones of the first n symbols have their states. -/
def rareF (xs : List Int) (S : Nat) : Nat → Nat → Option Nat
  | 0 => fun _ => none
  | n + 1 => if xs[n]?.getD 0 = -1 then upd (rareF xs S n) (S - nr xs (n + 1)) n else rareF xs S n
/-- The others of the first n symbols, each as often as it has states. -/
def rowL (xs : List Int) : Nat → List Nat
  | 0 => []
  | n + 1 => rowL xs n ++ List.replicate (xs[n]?.getD 0).toNat n
def rowAt (xs : List Int) (k : Nat) : Nat := (rowL xs xs.length)[k]?.getD 0
/-- The first k of them have their states. -/
def putF (xs : List Int) (S H : Nat) : Nat → Nat → Option Nat
  | 0 => rareF xs S xs.length
  | k + 1 => upd (putF xs S H k) (place S H k) (rowAt xs k)
/-- All have. -/
def symO (xs : List Int) (S : Nat) : Nat → Option Nat := putF xs S (S - nr xs xs.length) (S - nr xs xs.length)
def symF (xs : List Int) (S i : Nat) : Nat := (symO xs S i).getD 0

theorem nr_succ (xs : List Int) (n : Nat) : nr xs (n + 1) = nr xs n + (if xs[n]?.getD 0 = -1 then 1 else 0) := by
  unfold nr
  simp only [cntP, isRare]
  congr 1
  by_cases h : xs[n]?.getD 0 = -1 <;> simp [h]
theorem rowL_len (xs : List Int) (h : ∀ i : Nat, i < xs.length → -1 ≤ xs[i]?.getD 0) (n : Nat) (hn : n ≤ xs.length) : (rowL xs n).length + nr xs n = tot (xs.take n) := by
  induction n with
  | zero => simp [rowL, nr, cntP, tot]
  | succ n ih =>
    have h1 := h n (by omega)
    have h2 := ih (by omega)
    rw [nr_succ, List.take_succ_eq_append_getElem (by omega), tot_snoc]
    simp only [rowL]
    rw [List.length_append, List.length_replicate]
    rw [List.getElem?_eq_getElem (by omega), Option.getD_some] at h1 ⊢
    unfold shareN
    split <;> omega
theorem rowL_grow (xs : List Int) (m n : Nat) (h : m ≤ n) : ∃ T, rowL xs n = rowL xs m ++ T := by
  induction n with
  | zero => obtain rfl : m = 0 := by omega
            exact ⟨[], by simp⟩
  | succ n ih =>
    by_cases e : m = n + 1
    · subst e; exact ⟨[], by simp⟩
    · obtain ⟨T, hT⟩ := ih (by omega)
      exact ⟨T ++ List.replicate (xs[n]?.getD 0).toNat n, by simp only [rowL]; rw [hT, List.append_assoc]⟩
/-- The row's k-th of symbol s. -/
theorem rowAt_eq (xs : List Int) (s k : Nat) (hs : s < xs.length) (hk : k < (xs[s]?.getD 0).toNat) : rowAt xs ((rowL xs s).length + k) = s := by
  obtain ⟨T, hT⟩ := rowL_grow xs (s + 1) xs.length (by omega)
  unfold rowAt
  rw [hT]
  simp only [rowL]
  rw [List.append_assoc, List.getElem?_append_right (by omega), Nat.add_sub_cancel_left, List.getElem?_append_left (by simpa using hk)]
  rw [List.getElem?_replicate, if_pos hk]; rfl
theorem rowL_count (xs : List Int) (s n : Nat) : (rowL xs n).count s = if s < n then (xs[s]?.getD 0).toNat else 0 := by
  induction n with
  | zero => simp [rowL]
  | succ n ih =>
    simp only [rowL]
    rw [List.count_append, ih, List.count_replicate]
    by_cases e : n = s
    · subst e; simp
    · have e2 : (n == s) = false := by simpa using e
      have e3 : (s < n + 1) ↔ (s < n) := by omega
      simp [e2, e3]
theorem count_cntP (L : List Nat) (s : Nat) : cntP (fun k => decide (L[k]?.getD 0 = s)) L.length = L.count s := by
  have key : ∀ n, n ≤ L.length → cntP (fun k => decide (L[k]?.getD 0 = s)) n = (L.take n).count s := by
    intro n
    induction n with
    | zero => intro _; simp [cntP]
    | succ n ih =>
      intro hn
      simp only [cntP]
      have hv : L[n]?.getD 0 = L[n] := by rw [List.getElem?_eq_getElem (by omega)]; rfl
      rw [ih (by omega), List.take_succ_eq_append_getElem (by omega), List.count_append]
      by_cases e : L[n] = s
      · simp [e, hv]
      · simp [e, hv]
  have := key L.length (Nat.le_refl _)
  rwa [List.take_of_length_le (Nat.le_refl _)] at this

/-- How many of S states have the symbol s; how many have none. -/
def cntS (f : Nat → Option Nat) (S s : Nat) : Nat := cntP (fun i => decide (f i = some s)) S
def cntN (f : Nat → Option Nat) (S : Nat) : Nat := cntP (fun i => decide (f i = none)) S
theorem cntS_upd (f : Nat → Option Nat) (S i s t : Nat) (hi : i < S) (hf : f i = none) : cntS (upd f i s) S t = cntS f S t + if t = s then 1 else 0 := by
  unfold cntS
  by_cases e : t = s
  · subst e
    rw [if_pos rfl]
    exact cntP_add _ _ S i hi (by simp [hf]) (by simp [upd]) (fun k _ hk => by simp [upd, hk])
  · rw [if_neg e, Nat.add_zero]
    refine cntP_congr _ _ S (fun k _ => ?_)
    by_cases ek : k = i
    · subst ek; simp [upd, hf, Ne.symm e]
    · simp [upd, ek]
theorem cntN_upd (f : Nat → Option Nat) (S i s : Nat) (hi : i < S) (hf : f i = none) : cntN (upd f i s) S + 1 = cntN f S := by
  unfold cntN
  exact (cntP_add _ _ S i hi (by simp [upd]) (by simp [hf]) (fun k _ hk => by simp [upd, hk])).symm

/-- The rare ones stand at the end. -/
theorem rareF_facts (xs : List Int) (S n : Nat) (h : nr xs n ≤ S) :
    (∀ i, i < S - nr xs n → rareF xs S n i = none) ∧ (∀ i s, rareF xs S n i = some s → s < n ∧ xs[s]?.getD 0 = -1) ∧
    (∀ s, cntS (rareF xs S n) S s = if s < n ∧ xs[s]?.getD 0 = -1 then 1 else 0) ∧ cntN (rareF xs S n) S + nr xs n = S := by
  induction n with
  | zero =>
    refine ⟨fun _ _ => rfl, fun i s h => by simp [rareF] at h, fun s => ?_, ?_⟩
    · rw [if_neg (by omega)]; exact cntP_none _ _ (fun i _ => by simp [rareF])
    · have : cntN (rareF xs S 0) S = S := by
        have h1 : ∀ n, cntP (fun i => decide (rareF xs S 0 i = none)) n = n := by
          intro n
          induction n with
          | zero => rfl
          | succ n ih => simp only [cntP]; rw [ih]; simp [rareF]
        exact h1 S
      rw [this]; rfl
  | succ n ih =>
    have hs := nr_succ xs n
    by_cases hr : xs[n]?.getD 0 = -1
    · rw [if_pos hr] at hs
      obtain ⟨a1, a2, a3, a4⟩ := ih (by omega)
      have e : rareF xs S (n + 1) = upd (rareF xs S n) (S - nr xs (n + 1)) n := by simp only [rareF]; rw [if_pos hr]
      rw [e]
      have hn0 := a1 (S - nr xs (n + 1)) (by omega)
      refine ⟨fun i hi => ?_, fun i s h => ?_, fun s => ?_, ?_⟩
      · simp only [upd]; rw [if_neg (by omega)]; exact a1 i (by omega)
      · simp only [upd] at h
        split at h
        · cases h; exact ⟨by omega, hr⟩
        · have := a2 i s h; exact ⟨by omega, this.2⟩
      · rw [cntS_upd _ S _ n s (by omega) hn0, a3 s]
        by_cases e : s = n
        · subst e; rw [if_neg (by omega), if_pos rfl, if_pos ⟨by omega, hr⟩]
        · rw [if_neg e, Nat.add_zero]
          by_cases h2 : s < n ∧ xs[s]?.getD 0 = -1
          · rw [if_pos h2, if_pos ⟨by omega, h2.2⟩]
          · rw [if_neg h2, if_neg (fun h => h2 ⟨by omega, h.2⟩)]
      · have := cntN_upd (rareF xs S n) S (S - nr xs (n + 1)) n (by omega) hn0
        omega
    · rw [if_neg hr] at hs
      obtain ⟨a1, a2, a3, a4⟩ := ih (by omega)
      have e : rareF xs S (n + 1) = rareF xs S n := by simp only [rareF]; rw [if_neg hr]
      rw [e, hs]
      refine ⟨a1, fun i s h => ⟨by have := a2 i s h; omega, (a2 i s h).2⟩, fun s => ?_, a4⟩
      rw [a3 s]
      by_cases h2 : s < n ∧ xs[s]?.getD 0 = -1
      · rw [if_pos h2, if_pos ⟨by omega, h2.2⟩]
      · rw [if_neg h2, if_neg]
        rintro ⟨h3, h4⟩
        by_cases e : s = n
        · subst e; exact hr h4
        · exact h2 ⟨by omega, h4⟩

theorem putF_facts (xs : List Int) (S v : Nat) (ho : Odd S v) (H : Nat) (hH : H + nr xs xs.length = S) (hrow : (rowL xs xs.length).length = H) (k : Nat) (hk : k ≤ H) :
    (∀ i, i < H → (∀ j, j < k → place S H j ≠ i) → putF xs S H k i = none) ∧ (∀ i s, putF xs S H k i = some s → s < xs.length ∧ xs[s]?.getD 0 ≠ 0) ∧
    (∀ s, cntS (putF xs S H k) S s = (if s < xs.length ∧ xs[s]?.getD 0 = -1 then 1 else 0) + cntP (fun j => decide (rowAt xs j = s)) k) ∧ cntN (putF xs S H k) S + nr xs xs.length + k = S := by
  induction k with
  | zero =>
    obtain ⟨a1, a2, a3, a4⟩ := rareF_facts xs S xs.length (by omega)
    refine ⟨fun i hi _ => a1 i (by omega), fun i s h => ⟨(a2 i s h).1, by rw [(a2 i s h).2]; decide⟩, fun s => ?_, by simp only [putF]; omega⟩
    simp only [putF, cntP]
    rw [a3 s]; rfl
  | succ k ih =>
    obtain ⟨a1, a2, a3, a4⟩ := ih (by omega)
    have hpl := place_lt ho H (by omega) k (by omega)
    have hn0 : putF xs S H k (place S H k) = none := a1 _ hpl (fun j hj e => by
      have := place_inj ho H (by omega) j k (by omega) (by omega) e
      omega)
    simp only [putF]
    refine ⟨fun i hi h => ?_, fun i s h => ?_, fun s => ?_, ?_⟩
    · have hne := h k (by omega)
      simp only [upd]
      rw [if_neg (fun e => hne e.symm)]
      exact a1 i hi (fun j hj => h j (by omega))
    · simp only [upd] at h
      split at h
      · have hmem : rowAt xs k ∈ rowL xs xs.length := by
          unfold rowAt
          rw [List.getElem?_eq_getElem (by omega), Option.getD_some]
          exact List.getElem_mem _
        have hc := rowL_count xs (rowAt xs k) xs.length
        have hpos := List.count_pos_iff.2 hmem
        have e : rowAt xs k = s := by simpa using h
        rw [e] at hc hpos
        split at hc
        · exact ⟨by assumption, fun e0 => by rw [e0] at hc; simp at hc; omega⟩
        · omega
      · exact a2 i s h
    · rw [cntS_upd _ S _ _ s (by omega) hn0, a3 s]
      simp only [cntP]
      by_cases e : rowAt xs k = s
      · rw [if_pos (show s = rowAt xs k from e.symm), if_pos (show decide (rowAt xs k = s) = true from decide_eq_true e)]; omega
      · rw [if_neg (show ¬ s = rowAt xs k from fun h => e h.symm), if_neg (show ¬ decide (rowAt xs k = s) = true from by simpa using e)]; omega
    · have := cntN_upd (putF xs S H k) S (place S H k) (rowAt xs k) (by omega) hn0
      omega

/-- A table's counts, as plain numbers. -/
structure Tab (xs : List Int) (S : Nat) : Prop where
  low : ∀ i : Nat, i < xs.length → -1 ≤ xs[i]?.getD 0
  tot : tot xs = S
  len : xs.length ≤ 256
  ne : xs ≠ []
  log : ∃ l, S = 2 ^ l ∧ 5 ≤ l ∧ l ≤ 12
theorem okT_tab {xs : List Int} {l : Nat} (h : okT xs (l : Int) = true) : Tab xs (2 ^ l) := by
  obtain ⟨h1, h2, h3, h4, h5, h6⟩ := okT_good h
  exact ⟨(of_decide_eq_true h).2.2.2.2.2.1, h2, h4, h3, l, rfl, h5, h6⟩
theorem Tab.row {xs : List Int} {S : Nat} (h : Tab xs S) : (rowL xs xs.length).length + nr xs xs.length = S := by
  have := rowL_len xs h.low xs.length (Nat.le_refl _)
  rw [List.take_of_length_le (Nat.le_refl _), h.tot] at this
  exact this
/-- Each state has a symbol that is there, and each symbol as many states as its count says. -/
theorem Tab.sym {xs : List Int} {S : Nat} (h : Tab xs S) : (∀ i, i < S → ∃ s, symO xs S i = some s ∧ s < xs.length ∧ xs[s]?.getD 0 ≠ 0) ∧ ∀ s, s < xs.length → (cntS (symO xs S) S s : Int) = shareN (xs[s]?.getD 0) := by
  obtain ⟨l, rfl, h5, h12⟩ := h.log
  obtain ⟨v, ho⟩ := odd_pow l h5 h12
  have hr := h.row
  obtain ⟨a1, a2, a3, a4⟩ := putF_facts xs (2 ^ l) v ho (2 ^ l - nr xs xs.length) (by omega) (by omega) _ (Nat.le_refl _)
  refine ⟨fun i hi => ?_, fun s hs => ?_⟩
  · have h0 : cntN (symO xs (2 ^ l)) (2 ^ l) = 0 := by unfold symO; omega
    cases e : symO xs (2 ^ l) i with
    | none =>
      have := cntP_lt (fun i => decide (symO xs (2 ^ l) i = none)) i (2 ^ l) hi (by simp [e])
      unfold cntN at h0
      omega
    | some s => exact ⟨s, rfl, a2 i s e⟩
  · have hc := a3 s
    have e1 : cntP (fun j => decide (rowAt xs j = s)) (2 ^ l - nr xs xs.length) = (xs[s]?.getD 0).toNat := by
      have := count_cntP (rowL xs xs.length) s
      rw [rowL_count, if_pos hs] at this
      rw [← this, show (rowL xs xs.length).length = 2 ^ l - nr xs xs.length from by omega]
      rfl
    rw [e1] at hc
    have hlow := h.low s hs
    unfold symO
    unfold shareN
    by_cases e : xs[s]?.getD 0 = -1
    · rw [if_pos ⟨hs, e⟩] at hc; rw [if_pos e, hc, e]; rfl
    · rw [if_neg (fun h => e h.2)] at hc; rw [if_neg e, hc]; omega

end Go.Proofs.YtgaepmmpedaaiaaGreatDoor

namespace Go.Proofs.YtgaepmmpedaaiaaGreatDoor

/-- How many states of the same symbol are below. -/
def blF (xs : List Int) (S i : Nat) : Nat := cntP (fun j => decide (symF xs S j = symF xs S i)) i
def xF (xs : List Int) (S i : Nat) : Nat := (shareN (xs[symF xs S i]?.getD 0)).toNat + blF xs S i
def bitF (l x : Nat) : Nat := l + 1 - lenN x
def baseF (l x : Nat) : Nat := x * 2 ^ bitF l x - 2 ^ l

theorem Tab.symF {xs : List Int} {S : Nat} (h : Tab xs S) (i : Nat) (hi : i < S) : symO xs S i = some (symF xs S i) ∧ symF xs S i < xs.length ∧ xs[symF xs S i]?.getD 0 ≠ 0 := by
  obtain ⟨s, h1, h2, h3⟩ := h.sym.1 i hi
  have e : Go.Proofs.YtgaepmmpedaaiaaGreatDoor.symF xs S i = s := by unfold Go.Proofs.YtgaepmmpedaaiaaGreatDoor.symF; rw [h1]; rfl
  rw [e]; exact ⟨h1, h2, h3⟩
theorem Tab.cnt {xs : List Int} {S : Nat} (h : Tab xs S) (s : Nat) (hs : s < xs.length) : (cntP (fun j => decide (Go.Proofs.YtgaepmmpedaaiaaGreatDoor.symF xs S j = s)) S : Int) = shareN (xs[s]?.getD 0) := by
  rw [← h.sym.2 s hs]
  congr 1
  refine cntP_congr _ _ S (fun i hi => ?_)
  rw [(h.symF i hi).1]
  simp
theorem shareN_one (c : Int) (h1 : -1 ≤ c) (h2 : c ≠ 0) : 1 ≤ shareN c := by unfold shareN; split <;> omega
theorem Tab.share {xs : List Int} {S : Nat} (h : Tab xs S) (s : Nat) (hs : s < xs.length) (h0 : xs[s]?.getD 0 ≠ 0) : ∃ c : Nat, shareN (xs[s]?.getD 0) = (c : Int) ∧ 1 ≤ c ∧ c ≤ S := by
  have h1 := shareN_one _ (h.low s hs) h0
  have h2 := h.cnt s hs
  have h3 := cntP_le (fun j => decide (Go.Proofs.YtgaepmmpedaaiaaGreatDoor.symF xs S j = s)) S
  exact ⟨(shareN (xs[s]?.getD 0)).toNat, by omega, by omega, by omega⟩
theorem Tab.x {xs : List Int} {S : Nat} (h : Tab xs S) (i : Nat) (hi : i < S) : ∃ c : Nat, shareN (xs[Go.Proofs.YtgaepmmpedaaiaaGreatDoor.symF xs S i]?.getD 0) = (c : Int) ∧ 1 ≤ c ∧ c ≤ S ∧ blF xs S i < c ∧ xF xs S i = c + blF xs S i := by
  obtain ⟨h1, h2, h3⟩ := h.symF i hi
  obtain ⟨c, e, c1, c2⟩ := h.share _ h2 h3
  have h4 := h.cnt _ h2
  have h5 := cntP_lt (fun j => decide (Go.Proofs.YtgaepmmpedaaiaaGreatDoor.symF xs S j = Go.Proofs.YtgaepmmpedaaiaaGreatDoor.symF xs S i)) i S hi (by simp)
  refine ⟨c, e, c1, c2, ?_, by unfold xF; rw [e]; omega⟩
  unfold blF
  omega
theorem lenN_div (y b : Nat) (h : y / 2 ^ b ≠ 0) : lenN (y / 2 ^ b) + b = lenN y := by
  induction b with
  | zero => simp
  | succ b ih =>
    have e : y / 2 ^ (b + 1) = y / 2 ^ b / 2 := by rw [Nat.pow_succ, Nat.div_div_eq_div_mul]
    have h0 : y / 2 ^ b ≠ 0 := by rw [e] at h; omega
    have h1 := ih h0
    have h2 := lenN_half (y / 2 ^ b) h0
    rw [e]; omega
/-- Bits and Base fit. -/
theorem cell_fits (l x : Nat) (h0 : x ≠ 0) (h1 : x < 2 ^ (l + 1)) : bitF l x ≤ l ∧ 2 ^ l ≤ x * 2 ^ bitF l x ∧ x * 2 ^ bitF l x < 2 ^ (l + 1) ∧ 1 ≤ lenN x ∧ lenN x ≤ l + 1 := by
  obtain ⟨a, b, c⟩ := lenN_pos x h0
  have d := lenN_le x (l + 1) h1
  have e : bitF l x + lenN x = l + 1 := by unfold bitF; omega
  have e1 : 2 ^ (bitF l x) * 2 ^ (lenN x) = 2 ^ (l + 1) := by rw [← Nat.pow_add, e]
  have e2 : 2 ^ (bitF l x) * 2 ^ (lenN x - 1) = 2 ^ l := by rw [← Nat.pow_add]; congr 1; omega
  refine ⟨by omega, ?_, ?_, c, d⟩
  · rw [← e2, Nat.mul_comm]; exact Nat.mul_le_mul_right _ a
  · rw [← e1, Nat.mul_comm]; exact Nat.mul_lt_mul_of_pos_left b (Nat.pow_pos (by omega))
theorem halves (c : Nat) (hc : 1 ≤ c) (y : Nat) : c ≤ y → ∃ b, c ≤ y / 2 ^ b ∧ y / 2 ^ b < 2 * c := by
  induction y using Nat.strongRecOn with
  | _ y ih =>
    intro h
    by_cases h2 : y < 2 * c
    · exact ⟨0, by simpa using h, by simpa using h2⟩
    · obtain ⟨b, h3, h4⟩ := ih (y / 2) (by omega) (by omega)
      refine ⟨b + 1, ?_, ?_⟩ <;> rw [Nat.pow_succ, Nat.mul_comm, ← Nat.div_div_eq_div_mul] <;> assumption
/-- From each symbol every state is come to. -/
theorem Tab.comes {xs : List Int} {l : Nat} (h : Tab xs (2 ^ l)) (s : Nat) (hs : s < xs.length) (h0 : xs[s]?.getD 0 ≠ 0) (n : Nat) (hn : n < 2 ^ l) :
    ∃ i, i < 2 ^ l ∧ Go.Proofs.YtgaepmmpedaaiaaGreatDoor.symF xs (2 ^ l) i = s ∧ baseF l (xF xs (2 ^ l) i) ≤ n ∧ n < baseF l (xF xs (2 ^ l) i) + 2 ^ bitF l (xF xs (2 ^ l) i) := by
  obtain ⟨c, ec, c1, c2⟩ := h.share s hs h0
  have hcnt := h.cnt s hs
  rw [ec] at hcnt
  obtain ⟨b, b1, b2⟩ := halves c c1 (n + 2 ^ l) (by omega)
  obtain ⟨i, i1, i2, i3⟩ := cntP_find (fun j => decide (Go.Proofs.YtgaepmmpedaaiaaGreatDoor.symF xs (2 ^ l) j = s)) (2 ^ l) ((n + 2 ^ l) / 2 ^ b - c) (by omega)
  have i2' : Go.Proofs.YtgaepmmpedaaiaaGreatDoor.symF xs (2 ^ l) i = s := by simpa using i2
  have ex : xF xs (2 ^ l) i = (n + 2 ^ l) / 2 ^ b := by
    unfold xF blF
    rw [i2', ec, i3]
    omega
  have hp : 2 ^ (l + 1) = 2 * 2 ^ l := by rw [Nat.pow_succ]; omega
  have hly : lenN (n + 2 ^ l) = l + 1 := lenN_eq _ l (by omega) (by omega)
  have hlx := lenN_div (n + 2 ^ l) b (by omega)
  have hx1 := lenN_pos ((n + 2 ^ l) / 2 ^ b) (by omega)
  have eb : bitF l (xF xs (2 ^ l) i) = b := by rw [ex]; unfold bitF; omega
  refine ⟨i, i1, i2', ?_, ?_⟩
  · unfold baseF; rw [eb, ex]
    have := Nat.div_mul_le_self (n + 2 ^ l) (2 ^ b)
    omega
  · unfold baseF; rw [eb, ex]
    have hd := Nat.div_add_mod (n + 2 ^ l) (2 ^ b)
    have hm := Nat.mod_lt (n + 2 ^ l) (Nat.pow_pos (n := b) (show 0 < 2 by omega))
    rw [Nat.mul_comm] at hd
    omega
/-- All of a table's cells. -/
theorem Tab.cell {xs : List Int} {l : Nat} (h : Tab xs (2 ^ l)) (i : Nat) (hi : i < 2 ^ l) : xF xs (2 ^ l) i ≠ 0 ∧ xF xs (2 ^ l) i < 2 ^ (l + 1) ∧ bitF l (xF xs (2 ^ l) i) ≤ l ∧ baseF l (xF xs (2 ^ l) i) < 2 ^ l ∧ baseF l (xF xs (2 ^ l) i) + 2 ^ bitF l (xF xs (2 ^ l) i) ≤ 2 ^ l ∧ 1 ≤ lenN (xF xs (2 ^ l) i) ∧ lenN (xF xs (2 ^ l) i) ≤ l + 1 ∧ 2 ^ l ≤ xF xs (2 ^ l) i * 2 ^ bitF l (xF xs (2 ^ l) i) := by
  obtain ⟨c, e, c1, c2, c3, c4⟩ := h.x i hi
  have hp : 2 ^ (l + 1) = 2 * 2 ^ l := by rw [Nat.pow_succ]; omega
  have h1 : xF xs (2 ^ l) i ≠ 0 := by omega
  have h2 : xF xs (2 ^ l) i < 2 ^ (l + 1) := by omega
  obtain ⟨d1, d2, d3, d4, d5⟩ := cell_fits l _ h1 h2
  refine ⟨h1, h2, d1, by unfold baseF; omega, ?_, d4, d5, d2⟩
  have ep : 2 ^ (l + 1) = 2 ^ (l + 1 - bitF l (xF xs (2 ^ l) i)) * 2 ^ bitF l (xF xs (2 ^ l) i) := by rw [← Nat.pow_add]; congr 1; omega
  have h3 : xF xs (2 ^ l) i < 2 ^ (l + 1 - bitF l (xF xs (2 ^ l) i)) := by
    have := (lenN_pos _ h1).2.1
    have e2 : l + 1 - bitF l (xF xs (2 ^ l) i) = lenN (xF xs (2 ^ l) i) := by unfold bitF; omega
    rw [e2]; exact this
  have h4 : (xF xs (2 ^ l) i + 1) * 2 ^ bitF l (xF xs (2 ^ l) i) ≤ 2 ^ (l + 1) := by rw [ep]; exact Nat.mul_le_mul_right _ h3
  rw [Nat.succ_mul] at h4
  unfold baseF
  omega

end Go.Proofs.YtgaepmmpedaaiaaGreatDoor

namespace Go.Proofs.YtgaepmmpedaaiaaGreatDoor
open Go.RowKit Go.Shelf

def zeros71 : Array Value := (List.replicate 4096 [Value.int .u8 0, Value.int .u8 0, Value.int .u16 0]).flatten.toArray
def zeros103 : Array Value := (List.replicate 4096 (Value.int .u8 0)).toArray
def zeros107 : Array Value := (List.replicate 256 (Value.int .i64 0)).toArray
def zeros112 : Array Value := (List.replicate 256 (Value.int .i16 0)).toArray
theorem zero107 : Tryz.zeroCells204 = zeros107 := by kernel_rfl
theorem zero112 : Tryz.zeroCells208 = zeros112 := by kernel_rfl

def isZ (k : IntKind) : Value → Bool
  | .int k' n => decide (k' = k) && n == 0
  | _ => false
theorem isZ_eq {k : IntKind} {v : Value} (h : isZ k v = true) : v = .int k 0 := by
  cases v with
  | int k' n =>
    simp only [isZ, Bool.and_eq_true, decide_eq_true_eq, beq_iff_eq] at h
    rw [h.1, h.2]
  | _ => simp [isZ] at h
def ok1 : Nat → List Value → Bool
  | 0, [] => true
  | n + 1, a :: r => isZ .u8 a && ok1 n r
  | _, _ => false
def ok3 : Nat → List Value → Bool
  | 0, [] => true
  | n + 1, a :: b :: c :: r => isZ .u8 a && (isZ .u8 b && (isZ .u16 c && ok3 n r))
  | _, _ => false
theorem ok1_eq : ∀ (n : Nat) (l : List Value), ok1 n l = true → l = List.replicate n (.int .u8 0)
  | 0, [], _ => rfl
  | 0, _ :: _, h => by simp [ok1] at h
  | n + 1, [], h => by simp [ok1] at h
  | n + 1, a :: r, h => by
    simp only [ok1, Bool.and_eq_true] at h
    rw [isZ_eq h.1, ok1_eq n r h.2, List.replicate_succ]
theorem ok3_eq : ∀ (n : Nat) (l : List Value), ok3 n l = true → l = (List.replicate n [Value.int .u8 0, Value.int .u8 0, Value.int .u16 0]).flatten
  | 0, [], _ => rfl
  | 0, _ :: _, h => by simp [ok3] at h
  | n + 1, [], h => by simp [ok3] at h
  | n + 1, [_], h => by simp [ok3] at h
  | n + 1, [_, _], h => by simp [ok3] at h
  | n + 1, a :: b :: c :: r, h => by
    simp only [ok3, Bool.and_eq_true] at h
    rw [isZ_eq h.1, isZ_eq h.2.1, isZ_eq h.2.2.1, ok3_eq n r h.2.2.2, List.replicate_succ, List.flatten_cons]
    rfl
theorem chk103 : ok1 4096 Tryz.zeroCells200.toList = true := by kernel_rfl
theorem chk71 : ok3 4096 Tryz.zeroCells177.toList = true := by kernel_rfl
theorem zero103 : Tryz.zeroCells200 = zeros103 := by
  apply Array.ext'
  unfold zeros103
  rw [List.toList_toArray]
  exact ok1_eq _ _ chk103
theorem zero71 : Tryz.zeroCells177 = zeros71 := by
  apply Array.ext'
  unfold zeros71
  rw [List.toList_toArray]
  exact ok3_eq _ _ chk71

end Go.Proofs.YtgaepmmpedaaiaaGreatDoor

namespace Go.Proofs.YtgaepmmpedaaiaaGreatDoor
open Go.RowKit Go.Shelf

attribute [local go_sem] Oper.semAt_some

set_option maxHeartbeats 1000000 in
/-- places(S, H): two boxes, and the closure over them. -/
theorem places_in (F : Fence) (n : Nat) (h61 : F.fn 115) (hro : F.round = none) (s h : Int) (w : World) :
    CallsIn F n Tryz.prog 115 #[.int .i64 s, .int .i64 h] w fun e w' => e = .returned (.func (.func 127) #[] #[.pointer (some ⟨w.heap.size, 0, none⟩), .pointer (some ⟨w.heap.size + 1, 0, none⟩)]) ∧ w' = (w.alloc (.cells #[.int .i64 s] 3)).alloc (.cells #[.int .i64 h] 3) := by
  refine callsIn_of_wp Tryz.func115 rfl h61 ?_ hro
  simp only [Tryz.ntmps115, List.size_toArray, List.length_cons, List.length_nil, Nat.reduceAdd, Nat.reduceSub, Array.replicate_succ, Array.replicate_zero, List.push_toArray, List.append_toArray, List.nil_append, List.cons_append]
  gi_wp2
  go_ret
  exact ⟨rfl, rfl⟩

/-- The boxes of a range over places. -/
def PBox (Bs Bh S H : Nat) (W : World) : Prop := W.heap[Bs]? = some (.cells #[.int .i64 (S : Int)] 3 (0, 0)) ∧ W.heap[Bh]? = some (.cells #[.int .i64 (H : Int)] 3 (0, 0))
def placeV (S H k : Nat) : Array Value := #[.int .i64 (k : Int), .int .i64 ((place S H k : Nat) : Int)]

set_option maxRecDepth 100000 in
set_option maxHeartbeats 4000000 in
/-- The closure that places makes. -/
theorem places1_in (F : Fence) (n : Nat) (h71 : F.fn 127) (hro : F.round = none) (hn : 1 ≤ n) (l Bs Bh S H v : Nat) (ho : Odd S v) (hS : S ≤ 4096) (hH : H ≤ S) (J : Nat → World → Prop) (Jx : World → Prop)
    (hB : ∀ k W, J k W → PBox Bs Bh S H W)
    (hY : ∀ k W, k < H → J k W → YieldAt F (n - 1) Tryz.prog l (placeV S H k) W fun e W' => (e = .returned (.bool true) ∧ J (k + 1) W') ∨ (e = .returned (.bool false) ∧ Jx W')) (W : World) (h0 : J 0 W) :
    CallsIn F n Tryz.prog 127 #[.func (.yield l) #[] #[], .pointer (some ⟨Bs, 0, none⟩), .pointer (some ⟨Bh, 0, none⟩)] W fun e W' => (∃ v, e = .returned v) ∧ (J H W' ∨ Jx W') := by
  obtain ⟨b1, b2⟩ := hB 0 W h0
  have c1 : W.cell? ⟨Bs, 0, none⟩ = some (.int .i64 (S : Int)) := cell_of b1 0
  have c2 : W.cell? ⟨Bh, 0, none⟩ = some (.int .i64 (H : Int)) := cell_of b2 0
  obtain ⟨P, hP⟩ : ∃ P, P = stepN S := ⟨_, rfl⟩
  have hPI : (S : Int) / 2 + (S : Int) / 8 + 3 = (P : Int) := by rw [hP]; unfold stepN; omega
  have hPb : (P : Int) ≤ 4096 := by rw [hP]; unfold stepN; omega
  have HP := (show Hid (P = stepN S) from hP)
  have HY := (show Hid (∀ k W, k < H → J k W → _) from hY)
  have HB := (show Hid (∀ k W, J k W → PBox Bs Bh S H W) from hB)
  have hSI : (S : Int) ≤ 4096 := by omega
  have hHI : (H : Int) ≤ (S : Int) := by omega
  have hSp : 0 < (S : Int) := by have := ho.pos; omega
  have HO := (show Hid (Odd S v) from ho)
  clear hY hB b1 b2 hP ho
  refine callsIn_of_wp Tryz.func127 rfl h71 ?_ hro
  simp only [Tryz.ntmps127, List.size_toArray, List.length_cons, List.length_nil, Nat.reduceAdd, Nat.reduceSub, Array.replicate_succ, Array.replicate_zero, List.push_toArray, List.append_toArray, List.nil_append, List.cons_append]
  gi_wp2
  clear c1 c2
  gi_loopw [5, 14] (fun vs vi wr => ∃ (k x : Nat), vi = .int .i64 (k : Int) ∧ vs = .int .i64 (x : Int) ∧ k ≤ H ∧ Hid (k < H → Turn S H k x) ∧ J k wr) (fun _ vi _ => H - (intOf vi).toNat)
  case atStart => exact ⟨0, 0, rfl, rfl, Nat.zero_le _, fun h => turn_zero S H (by omega) h, h0⟩
  case round =>
    clear h0 hPI
    obtain ⟨k, x, rfl, rfl, hk, HT, hJ⟩ := hrel
    by_cases hlt : k < H
    · have hT := HT.out hlt
      obtain ⟨fn, tmps, assign, body, hy, hR⟩ := HY.out k wr hlt hJ
      unfold placeV at hy
      rw [hT.place] at hy
      have hxS : x < H := hT.lt
      have hltI : (k : Int) < (H : Int) := by omega
      clear hJ
      gi_wp2
      refine hR.mono ?_
      rintro e W3 (⟨rfl, hJ3⟩ | ⟨rfl, hJx3⟩)
      · obtain ⟨b1, b2⟩ := HB.out _ _ hJ3
        have c1 : W3.cell? ⟨Bs, 0, none⟩ = some (.int .i64 (S : Int)) := cell_of b1 0
        have c2 : W3.cell? ⟨Bh, 0, none⟩ = some (.int .i64 (H : Int)) := cell_of b2 0
        obtain ⟨y, hy2⟩ : ∃ y, y = (x + P) % S := ⟨_, rfl⟩
        have hyI : ((x : Int) + (P : Int)) % (S : Int) = (y : Int) := by rw [hy2]; simp
        have HYI := (show Hid (((x : Int) + (P : Int)) % (S : Int) = (y : Int)) from hyI)
        have HM := (show Hid (Mid S H k y) from by rw [hy2, HP.out]; exact hT.next)
        have hSne : (S : Int) ≠ 0 := by omega
        have hSnb : ((S : Int) == 0) = false := by simpa using hSne
        have HJ3 := (show Hid (J (k + 1) W3) from hJ3)
        clear hT hy2 hJ3 b1 b2 hR hy hyI
        gi_wp2_with fail
        gi_loop [5] (fun vs => ∃ z : Nat, vs = .int .i64 (z : Int) ∧ Hid (Mid S H k z)) (fun vs => meas S v (intOf vs).toNat)
        case atStart => exact ⟨y, by rw [HYI.out], HM⟩
        case round =>
          clear HM
          obtain ⟨z, rfl, HM⟩ := hrel
          have hzS : (z : Int) < (S : Int) := by have := HM.out.lt HO.out; omega
          by_cases hz : H ≤ z
          · have hzI : (H : Int) ≤ (z : Int) := by omega
            obtain ⟨y2, hy2⟩ : ∃ y, y = (z + P) % S := ⟨_, rfl⟩
            have hyI : ((z : Int) + (P : Int)) % (S : Int) = (y2 : Int) := by rw [hy2]; simp
            have HYI := (show Hid (((z : Int) + (P : Int)) % (S : Int) = (y2 : Int)) from hyI)
            have HM2 := (show Hid (Mid S H k y2 ∧ meas S v y2 < meas S v z) from by rw [hy2, HP.out]; exact ⟨HM.out.next (by omega) hz, HM.out.meas HO.out (by omega) hz⟩)
            clear hy2 hyI
            gi_wp2_with fail
            go_round
            case rel => exact ⟨y2, by rw [HYI.out], HM2.out.1⟩
            case measure => have h := HYI.out; simp only [intOf]; simp; rw [h]; simpa using HM2.out.2
          · have hzI : ¬ (H : Int) ≤ (z : Int) := by omega
            gi_wp2_with fail
            go_roundw
            case rel => exact ⟨k + 1, z, by go_num, rfl, by omega, fun h => (HM.out.end_ HO.out hH (by omega)).resolve_left (by omega), HJ3.out⟩
            case measure => simp [intOf]; omega
      · gi_wp2
        refine bodyPost_ret (results_none rfl _ _ _) rfl ?_
        exact ⟨⟨_, rfl⟩, .inr hJx3⟩
    · obtain rfl : k = H := by omega
      gi_wp2
      go_end0
      exact ⟨⟨_, rfl⟩, .inl hJ⟩

end Go.Proofs.YtgaepmmpedaaiaaGreatDoor

namespace Go.Proofs.YtgaepmmpedaaiaaGreatDoor
open Go.RowKit Go.Shelf

/-- How a round may end: it goes on to the next one, or it leaves the loop. -/
def goesOn (B : Nat) (J : World → Prop) (X : Code → World → Prop) (W : World) : Exit → Act → World → Prop
  | .normal, _, V => KeepsFrom B W V ∧ J V
  | .ret, _, V => KeepsFrom B W V ∧ X .ret V
  | .exit i, _, V => KeepsFrom B W V ∧ X (.exit i) V
  | _, _, _ => False

theorem range_places {n : Nat} {g : Operand} {ps : Array Tmp} {assign body : Code} {Q : Exit → Act → World → Prop} {a : Act} {w : World} (hn : 3 ≤ n) (Bs Bh S H v : Nat) (ho : Odd S v) (hS : S ≤ 4096) (hH : H ≤ S)
    (hg : a.eval g = .func (.func 127) #[] #[.pointer (some ⟨Bs, 0, none⟩), .pointer (some ⟨Bh, 0, none⟩)]) (hps : ps.size = 2)
    (I : Nat → World → Prop) (X : Code → World → Prop) (A : Nat → Act → World → Prop) (hI : OwnFrom w.heap.size I) (hX : OwnFrom w.heap.size X) (hA : ∀ k a', OwnFrom w.heap.size (fun (_ : Unit) V => A k a' V)) (h0 : I 0 w) (hIB : ∀ k V, I k V → PBox Bs Bh S H V)
    (hassign : ∀ k V (K : Act → World → Prop), k < H → I k V → (∀ a' V', KeepsFrom w.heap.size V V' → I k V' → A k a' V' → K a' V') →
      assign.wpIn (Fence.wide.inRound (w.heap.size + 1)) (n - 1 - 1) Tryz.prog (Exit.then K (fun _ _ _ => False)) { tmps := (ps.zip (placeV S H k)).foldl (fun t (p, v) => t.setIfInBounds p v) a.tmps, defers := [] } V)
    (hbody : ∀ k a' V, k < H → I k V → A k a' V → body.wpIn (Fence.wide.inRound (w.heap.size + 1)) (n - 1 - 1) Tryz.prog (goesOn w.heap.size (I (k + 1)) X V) a' V)
    (hdone : ∀ V, I H V → V.heap[w.heap.size]? = some (.deferred (some [])) → Q .normal { a with defers := { target := .collected w.heap.size, args := #[] } :: a.defers } V)
    (hstop : ∀ j V, X j V → V.heap[w.heap.size]? = some (.deferred (some [])) → j.wpIn Fence.wide n Tryz.prog Q { a with defers := { target := .collected w.heap.size, args := #[] } :: a.defers } V) :
    (Code.rangeFunc g ps assign body).wpIn Fence.wide n Tryz.prog Q a w := by
  refine wpIn_rangeFunc fun fn hfn => ?_
  -- the loop's record
  obtain ⟨mk, hmk⟩ : ∃ mk : LoopState → Option Code → Obj, mk = fun st pe => .loop { state := st, pending := pe, fn, tmps := a.tmps, params := ps, assign, body, defers := w.heap.size } := ⟨_, rfl⟩
  have mkc : ∀ st pe, (mk st pe).isCells = false := fun st pe => by rw [hmk]; rfl
  obtain ⟨V1, hV1⟩ : ∃ V1, V1 = (w.alloc (.deferred (some []))).alloc (mk .ready none) := ⟨_, rfl⟩
  have hsz : (w.alloc (.deferred (some []))).heap.size = w.heap.size + 1 := World.size_alloc _ _
  have hrec : V1.heap[w.heap.size + 1]? = some (mk .ready none) := by rw [hV1, ← hsz]; exact World.alloc_heap_new _ _
  have hdef : V1.heap[w.heap.size]? = some (.deferred (some [])) := by rw [hV1]; exact alloc_far (World.alloc_heap_new w _) _
  have hI1 : I 0 V1 := by rw [hV1]; exact hI.alloc _ (hI.alloc _ h0)
  refine ⟨w.heap.size + 1, [{ target := .collected w.heap.size, args := #[] }], V1, { target := .fn (.func 127) #[.pointer (some ⟨Bs, 0, none⟩), .pointer (some ⟨Bh, 0, none⟩)], args := #[.func (.yield (w.heap.size + 1)) #[] #[]] }, V1, 127,
    #[.func (.yield (w.heap.size + 1)) #[] #[], .pointer (some ⟨Bs, 0, none⟩), .pointer (some ⟨Bh, 0, none⟩)], V1, ?_, ?_, fun _ _ => trivial, ?_, fun _ => by omega, ?_⟩
  · rw [hV1, hmk]; exact run_enterLoop_outer _ _ _ _ _
  · simp only [resolve, hg]
    simp [go_sem]
  · simp [invoke, go_sem]
  · refine (places1_in Fence.wide (n - 1) trivial rfl (by omega) (w.heap.size + 1) Bs Bh S H v ho hS hH
      (fun k V => I k V ∧ V.heap[w.heap.size + 1]? = some (mk .ready none) ∧ V.heap[w.heap.size]? = some (.deferred (some [])))
      (fun V => ∃ j, X j V ∧ V.heap[w.heap.size + 1]? = some (mk .done (some j)) ∧ V.heap[w.heap.size]? = some (.deferred (some [])))
      (fun k V h => hIB k V h.1) ?_ V1 ⟨hI1, hrec, hdef⟩).mono ?_
    · rintro k V hk ⟨hi, hl, hd⟩
      have hy := run_yield (P := Tryz.prog) (args := placeV S H k) (by rw [hmk] at hl; exact hl) (by simp [hps, placeV])
      refine ⟨fn, _, assign, body, hy, roundIn_of_wpIn hfn (hassign k V _ hk hi fun a' V2 hkf hi2 hax => ?_)⟩
      have hl2 := hkf.same _ _ (Nat.le_succ _) hl (mkc _ _)
      have hd2 := hkf.same _ _ (Nat.le_refl _) hd rfl
      have hlt : w.heap.size + 1 < V2.heap.size := obj_lt hl2
      have hbr := run_beginRound (P := Tryz.prog) (by rw [hmk] at hl2; exact hl2) rfl
      refine ⟨_, hbr, ?_⟩
      obtain ⟨V3, hV3⟩ : ∃ V3, V3 = V2.putObj (w.heap.size + 1) (mk .busy none) := ⟨_, rfl⟩
      have hl3 : V3.heap[w.heap.size + 1]? = some (mk .busy none) := by rw [hV3]; exact World.putObj_heap_same hlt
      have hd3 : V3.heap[w.heap.size]? = some (.deferred (some [])) := by rw [hV3]; exact (World.putObj_heap_other (by omega)).trans hd2
      have hi3 : I k V3 := by rw [hV3]; exact hI.putObj _ hi2 (Nat.le_succ _) hl2 (mkc _ _)
      have hx3 : A k a' V3 := by rw [hV3]; exact (hA k a').putObj (s := ()) _ hax (Nat.le_succ _) hl2 (mkc _ _)
      have hb := hbody k a' V3 hk hi3 hx3
      rw [hV3, hmk] at hb
      refine wpIn_mono hb ?_
      -- however the round ends, the record is turned
      have fin : ∀ (j : Option Code) (V4 : World), KeepsFrom w.heap.size V3 V4 → (Instr.endRound (w.heap.size + 1) j).run Tryz.prog V4 = .ok (.bool j.isNone) (V4.putObj (w.heap.size + 1) (mk (if j.isNone then .ready else .done) j)) ∧
          V4.heap[w.heap.size + 1]? = some (mk .busy none) ∧ (V4.putObj (w.heap.size + 1) (mk (if j.isNone then .ready else .done) j)).heap[w.heap.size + 1]? = some (mk (if j.isNone then .ready else .done) j) ∧
          (V4.putObj (w.heap.size + 1) (mk (if j.isNone then .ready else .done) j)).heap[w.heap.size]? = some (.deferred (some [])) := by
        intro j V4 h4
        have hl4 := h4.same _ _ (Nat.le_succ _) hl3 (mkc _ _)
        have hr := run_endRound (P := Tryz.prog) j (by rw [hmk] at hl4; exact hl4)
        refine ⟨?_, hl4, World.putObj_heap_same (obj_lt hl4), (World.putObj_heap_other (by omega)).trans (h4.same _ _ (Nat.le_refl _) hd3 rfl)⟩
        rw [hmk]; exact hr
      intro e a4 V4 hp
      have hp' : goesOn w.heap.size (I (k + 1)) X V3 e a4 V4 := by rw [hV3, hmk]; exact hp
      clear hp hb
      cases e with
      | normal =>
        obtain ⟨r1, r2, r3, r4⟩ := fin none V4 hp'.1
        exact ⟨_, _, r1, .inl ⟨rfl, hI.putObj _ hp'.2 (Nat.le_succ _) r2 (mkc _ _), r3, r4⟩⟩
      | ret =>
        obtain ⟨r1, r2, r3, r4⟩ := fin (some .ret) V4 hp'.1
        exact ⟨_, _, r1, .inr ⟨rfl, .ret, hX.putObj _ hp'.2 (Nat.le_succ _) r2 (mkc _ _), r3, r4⟩⟩
      | exit i =>
        obtain ⟨r1, r2, r3, r4⟩ := fin (some (.exit i)) V4 hp'.1
        exact ⟨_, _, r1, .inr ⟨rfl, .exit i, hX.putObj _ hp'.2 (Nat.le_succ _) r2 (mkc _ _), r3, r4⟩⟩
      | goto t => exact hp'.elim
      | panic ch => exact hp'.elim
      | outgrown => exact hp'.elim
    · rintro e V ⟨⟨v, rfl⟩, (⟨hi, hl, hd⟩ | ⟨j, hj, hl, hd⟩)⟩
      · have hr := run_endLoop (P := Tryz.prog) (by rw [hmk] at hl; exact hl) (by simp)
        exact ⟨none, _, hr, hdone _ (hI.putObj _ hi (Nat.le_succ _) hl (mkc _ _)) ((World.putObj_heap_other (by omega)).trans hd)⟩
      · have hr := run_endLoop (P := Tryz.prog) (by rw [hmk] at hl; exact hl) (by simp)
        exact ⟨some j, _, hr, hstop j _ (hX.putObj _ hj (Nat.le_succ _) hl (mkc _ _)) ((World.putObj_heap_other (by omega)).trans hd)⟩

end Go.Proofs.YtgaepmmpedaaiaaGreatDoor
