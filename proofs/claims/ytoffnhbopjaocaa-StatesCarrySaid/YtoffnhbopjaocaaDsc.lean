/-
  A description of counts, as bits.
-/
import Derived.Test.YtoffnhbopjaocaaCnt
namespace Go.Proofs.Ytoffnhbopjaocaa

/-- A value v from 0 to R + 1. -/
def valBits (R v : Nat) : List (Fin 2) := if v < valT R then low v (valM R - 1) else if v < 2 ^ (valM R - 1) then low v (valM R) else low (v + valT R) (valM R)
/-- How many more have 0. -/
def zbits (n : Nat) : List (Fin 2) := (List.replicate (n / 3) (low 3 2)).flatten ++ low (n % 3) 2
theorem zbits_more (n : Nat) : zbits (n + 3) = low 3 2 ++ zbits n := by
  unfold zbits
  rw [show (n + 3) / 3 = n / 3 + 1 from by omega, show (n + 3) % 3 = n % 3 from by omega, List.replicate_succ, List.flatten_cons, List.append_assoc]
theorem zbits_few (n : Nat) (h : n < 3) : zbits n = low n 2 := by
  unfold zbits
  rw [show n / 3 = 0 from by omega, show n % 3 = n from by omega]
  rfl
/-- How many zeros a row begins with. -/
def zl : List Int → Nat
  | [] => 0
  | c :: cs => if c = 0 then zl cs + 1 else 0
theorem zl_le (cs : List Int) : zl cs ≤ cs.length := by
  induction cs with
  | nil => simp [zl]
  | cons c cs ih => simp only [zl]; split <;> simp <;> omega
theorem zl_zero (cs : List Int) : ∀ i, i < zl cs → cs[i]?.getD 0 = 0 := by
  induction cs with
  | nil => intro i hi; simp [zl] at hi
  | cons c cs ih =>
    intro i hi
    simp only [zl] at hi
    split at hi
    · rename_i hc
      cases i with
      | zero => simpa using hc
      | succ i => simpa using ih i (by omega)
    · omega
theorem zl_end (cs : List Int) (h : zl cs < cs.length) : cs[zl cs]?.getD 0 ≠ 0 := by
  induction cs with
  | nil => simp at h
  | cons c cs ih =>
    simp only [zl] at h ⊢
    by_cases hc : c = 0
    · rw [if_pos hc] at h ⊢
      simpa using ih (by simpa using h)
    · rw [if_neg hc]; simpa using hc
theorem zl_uniq (cs : List Int) (n : Nat) (h1 : ∀ i, i < n → cs[i]?.getD 0 = 0) (hn : n < cs.length) (h2 : cs[n]?.getD 0 ≠ 0) : zl cs = n := by
  have hz := zl_zero cs
  rcases Nat.lt_trichotomy (zl cs) n with h | h | h
  · exact absurd (h1 _ h) (zl_end cs (by omega))
  · exact h
  · exact absurd (hz n h) h2
theorem zl_drop (cs : List Int) (k : Nat) (h : k ≤ zl cs) : zl (cs.drop k) = zl cs - k := by
  induction k generalizing cs with
  | zero => simp
  | succ k ih =>
    cases cs with
    | nil => simp [zl] at h
    | cons c cs =>
      simp only [zl] at h ⊢
      by_cases hc : c = 0
      · rw [if_pos hc] at h ⊢
        rw [List.drop_succ_cons, ih cs (by omega)]; omega
      · rw [if_neg hc] at h; omega

/-- How many states counts take. -/
def tot : List Int → Nat
  | [] => 0
  | c :: cs => (shareN c).toNat + tot cs
/-- The bits of counts, of which R states are left. -/
def dsc : Nat → Nat → List Int → List (Fin 2)
  | 0, _, _ => []
  | _ + 1, _, [] => []
  | f + 1, R, c :: cs => valBits R (c + 1).toNat ++ (if c = 0 then zbits (zl cs) ++ dsc f R (cs.drop (zl cs)) else dsc f (R - (shareN c).toNat) cs)

/-- Counts that may be left. -/
structure Good (cs : List Int) : Prop where
  low : ∀ c ∈ cs, -1 ≤ c
  last : cs ≠ [] → cs[cs.length - 1]?.getD 0 ≠ 0
  le : tot cs ≤ 4096
theorem shareN_pos (c : Int) (h : -1 ≤ c) : 0 ≤ shareN c := by unfold shareN; split <;> omega
theorem shareN_zero (c : Int) : shareN c = 0 ↔ c = 0 := by unfold shareN; split <;> omega
theorem Good.tail {c : Int} {cs : List Int} (h : Good (c :: cs)) : Good cs := by
  refine ⟨fun x hx => h.low x (List.mem_cons_of_mem _ hx), fun hne => ?_, by have := h.le; simp only [tot] at this; omega⟩
  have := h.last (by simp)
  cases cs with
  | nil => exact absurd rfl hne
  | cons d ds => simpa using this
theorem Good.drop {cs : List Int} (h : Good cs) (k : Nat) : Good (cs.drop k) := by
  induction k generalizing cs with
  | zero => simpa using h
  | succ k ih =>
    cases cs with
    | nil => simpa using h
    | cons c cs => exact ih h.tail
theorem Good.pos {cs : List Int} (h : Good cs) (hne : cs ≠ []) : 0 < tot cs := by
  induction cs with
  | nil => exact absurd rfl hne
  | cons c cs ih =>
    simp only [tot]
    by_cases hn : cs = []
    · subst hn
      have h1 := h.last (by simp)
      have h2 := h.low c (by simp)
      have h3 := shareN_pos c h2
      have h4 := shareN_zero c
      have : c ≠ 0 := by simpa using h1
      simp only [tot]
      have : shareN c ≠ 0 := fun e => this (h4.1 e)
      omega
    · have := ih h.tail hn; omega
theorem tot_zeros (cs : List Int) (k : Nat) (h : k ≤ zl cs) : tot (cs.drop k) = tot cs := by
  induction k generalizing cs with
  | zero => simp
  | succ k ih =>
    cases cs with
    | nil => simp
    | cons c cs =>
      simp only [zl] at h
      by_cases hc : c = 0
      · rw [if_pos hc] at h
        rw [List.drop_succ_cons, ih cs (by omega)]
        simp only [tot]
        rw [hc]; simp [shareN]
      · rw [if_neg hc] at h; omega
theorem Good.zl {cs : List Int} (h : Good cs) (hne : cs ≠ []) : zl cs < cs.length := by
  rcases Nat.lt_or_ge (Go.Proofs.Ytoffnhbopjaocaa.zl cs) cs.length with h1 | h1
  · exact h1
  · exact absurd (zl_zero cs (cs.length - 1) (by have := List.length_pos_iff.2 hne; omega)) (h.last hne)
theorem tot_mem (cs : List Int) (i : Nat) (h : ∀ c ∈ cs, -1 ≤ c) : shareN (cs[i]?.getD 0) ≤ tot cs := by
  induction cs generalizing i with
  | nil => simp [tot, shareN]
  | cons c cs ih =>
    simp only [tot]
    have h1 := shareN_pos c (h c (by simp))
    cases i with
    | zero => simp; omega
    | succ i => have := ih i (fun x hx => h x (by simp [hx])); simp; omega
theorem Good.at_ {cs : List Int} (h : Good cs) (i : Nat) : -1 ≤ cs[i]?.getD 0 ∧ cs[i]?.getD 0 ≤ 4096 := by
  by_cases hi : i < cs.length
  · have h1 := h.low _ (List.getElem_mem hi)
    have h2 := tot_mem cs i h.low
    have h3 := h.le
    rw [List.getElem?_eq_getElem hi] at h2 ⊢
    simp only [Option.getD_some] at h2 ⊢
    unfold shareN at h2
    split at h2 <;> omega
  · rw [List.getElem?_eq_none (by omega)]; simp

theorem valBits_le (R v : Nat) (h : R ≤ 4096) : (valBits R v).length ≤ 13 := by
  have := valM_le R h
  unfold valBits
  split
  · rw [low_length]; omega
  · split <;> rw [low_length] <;> omega
theorem zbits_length (n : Nat) : (zbits n).length = 2 * (n / 3) + 2 := by
  unfold zbits
  rw [List.length_append, low_length, List.length_flatten, List.map_replicate, List.sum_replicate_nat, low_length]
  omega
/-- A description's bits. -/
theorem dsc_le (f R : Nat) (cs : List Int) (h : R ≤ 4096) : (dsc f R cs).length ≤ 15 * cs.length := by
  induction f generalizing R cs with
  | zero => simp [dsc]
  | succ f ih =>
    cases cs with
    | nil => simp [dsc]
    | cons c cs =>
      have h1 := valBits_le R (c + 1).toNat h
      simp only [dsc]
      rw [List.length_append]
      by_cases hc : c = 0
      · rw [if_pos hc, List.length_append, zbits_length]
        have h2 := ih R (cs.drop (zl cs)) h
        have h3 := zl_le cs
        rw [List.length_drop] at h2
        simp only [List.length_cons]
        omega
      · rw [if_neg hc]
        have h2 := ih (R - (shareN c).toNat) cs (by omega)
        simp only [List.length_cons]
        omega

theorem tot_snoc (cs : List Int) (c : Int) : tot (cs ++ [c]) = tot cs + (shareN c).toNat := by
  induction cs with
  | nil => simp [tot]
  | cons d ds ih => simp only [List.cons_append, tot]; omega
theorem sumS_tot (xs : List Int) (h : ∀ i : Nat, i < xs.length → -1 ≤ xs[i]?.getD 0) (n : Nat) (hn : n ≤ xs.length) : sumS xs n = ((tot (xs.take n) : Nat) : Int) := by
  induction n with
  | zero => simp [sumS, tot]
  | succ n ih =>
    have h1 := shareN_pos _ (h n (by omega))
    rw [List.take_succ_eq_append_getElem (by omega), tot_snoc]
    simp only [sumS]
    rw [ih (by omega)]
    rw [List.getElem?_eq_getElem (by omega)] at h1 ⊢
    simp only [Option.getD_some] at h1 ⊢
    omega
/-- Counts that make a table. -/
theorem okT_good {xs : List Int} {l : Nat} (h : okT xs (l : Int) = true) : Good xs ∧ tot xs = 2 ^ l ∧ xs ≠ [] ∧ xs.length ≤ 256 ∧ 5 ≤ l ∧ l ≤ 12 := by
  obtain ⟨h1, h2, h3, h4, h5, h6, h7⟩ := of_decide_eq_true h
  have hs := sumS_tot xs h6 xs.length (Nat.le_refl _)
  rw [List.take_of_length_le (Nat.le_refl _)] at hs
  have ht : tot xs = 2 ^ l := by
    have e : ((2 ^ l : Nat) : Int) = (2 : Int) ^ l := by simp
    rw [hs, Int.toNat_natCast, ← e] at h7
    omega
  have hp : (2 : Nat) ^ l ≤ 2 ^ 12 := Nat.pow_le_pow_right (by omega) (by omega)
  refine ⟨⟨fun c hc => ?_, fun _ => h5, by omega⟩, ht, fun e => h3 (by rw [e]; rfl), h4, by omega, by omega⟩
  obtain ⟨i, hi, e⟩ := List.getElem_of_mem hc
  have := h6 i hi
  rwa [List.getElem?_eq_getElem hi, Option.getD_some, e] at this

end Go.Proofs.Ytoffnhbopjaocaa
