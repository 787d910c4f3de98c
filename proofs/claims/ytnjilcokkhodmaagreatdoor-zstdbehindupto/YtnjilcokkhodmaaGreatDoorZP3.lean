/-
 The states' places as plain numbers: an odd step leads through all of 2^log states, once each.
-/
namespace Go.Proofs.YtnjilcokkhodmaaGreatDoor

def cntP (p : Nat → Bool) : Nat → Nat
 | 0 => 0
 | n + 1 => cntP p n + (if p n then 1 else 0)
theorem cntP_le (p : Nat → Bool) (n : Nat) : cntP p n ≤ n := by
 induction n with
 | zero => simp [cntP]
 | succ n ih => simp only [cntP]; split <;> omega
theorem cntP_mono (p : Nat → Bool) (m n : Nat) (h : m ≤ n) : cntP p m ≤ cntP p n := by
  induction n with
  | zero => obtain rfl : m = 0 := by omega
            exact Nat.le_refl _
  | succ n ih =>
    by_cases e : m = n + 1
    · subst e; exact Nat.le_refl _
    · have := ih (by omega); simp only [cntP]; omega
theorem cntP_lt (p : Nat → Bool) (m n : Nat) (h : m < n) (hp : p m = true) : cntP p m < cntP p n := by
 have h1 : cntP p (m + 1) = cntP p m + 1 := by simp [cntP, hp]
 have := cntP_mono p (m + 1) n (by omega)
 omega
theorem cntP_find (p : Nat → Bool) (n j : Nat) (h : j < cntP p n) : ∃ i, i < n ∧ p i = true ∧ cntP p i = j := by
  induction n with
  | zero => simp [cntP] at h
  | succ n ih =>
    by_cases h1 : j < cntP p n
    · obtain ⟨i, hi, h2⟩ := ih h1
      exact ⟨i, by omega, h2⟩
    · simp only [cntP] at h
      split at h
      · exact ⟨n, by omega, by assumption, by omega⟩
      · omega
theorem cntP_congr (p q : Nat → Bool) (n : Nat) (h : ∀ i, i < n → p i = q i) : cntP p n = cntP q n := by
 induction n with
 | zero => rfl
 | succ n ih => simp only [cntP]; rw [ih (fun i hi => h i (by omega)), h n (by omega)]
theorem cntP_none (p : Nat → Bool) (n : Nat) (h : ∀ i, i < n → p i = false) : cntP p n = 0 := by
 induction n with
 | zero => rfl
 | succ n ih => simp only [cntP]; rw [ih (fun i hi => h i (by omega)), h n (by omega)]; rfl
theorem cntP_add (p q : Nat → Bool) (n i : Nat) (hi : i < n) (hp : p i = false) (hq : q i = true) (h : ∀ k, k < n → k ≠ i → p k = q k) : cntP q n = cntP p n + 1 := by
  induction n with
  | zero => omega
  | succ n ih =>
    simp only [cntP]
    by_cases e : i = n
    · subst e
      rw [cntP_congr q p i (fun k hk => (h k (by omega) (by omega)).symm), hp, hq]; simp
    · rw [ih (by omega) (fun k hk => h k (by omega)), h n (by omega) (fun h => e h.symm)]; omega
def findC (p : Nat → Bool) (k : Nat) : Nat → Nat
 | 0 => 0
 | n + 1 => if p n && cntP p n == k then n else findC p k n
theorem findC_eq (p : Nat → Bool) (k n j : Nat) (hj : j < n) (hp : p j = true) (hk : cntP p j = k) : findC p k n = j := by
  induction n with
  | zero => omega
  | succ n ih =>
    simp only [findC]
    by_cases e : j = n
    · subst e; simp [hp, hk]
    · have h1 := cntP_lt p j n (by omega) hp
      rw [if_neg (by simp; intro _; omega)]
      exact ih (by omega)

def stepN (S : Nat) : Nat := S / 2 + S / 8 + 3
def orb (S j : Nat) : Nat := j * stepN S % S
/-- A number of states, and the step's inverse. -/
structure Odd (S v : Nat) : Prop where
 inv : stepN S * v % S = 1
 pos : 1 < S
theorem odd_pow (l : Nat) (h1 : 5 ≤ l) (h2 : l ≤ 12) : ∃ v, Odd (2 ^ l) v := by
 have h3 : l = 5 ∨ l = 6 ∨ l = 7 ∨ l = 8 ∨ l = 9 ∨ l = 10 ∨ l = 11 ∨ l = 12 := by omega
 rcases h3 with rfl | rfl | rfl | rfl | rfl | rfl | rfl | rfl
 ·exact ⟨7, by decide, by decide⟩
 ·exact ⟨3, by decide, by decide⟩
 ·exact ⟨91, by decide, by decide⟩
 ·exact ⟨11, by decide, by decide⟩
 ·exact ⟨363, by decide, by decide⟩
 ·exact ⟨43, by decide, by decide⟩
 ·exact ⟨1451, by decide, by decide⟩
 ·exact ⟨171, by decide, by decide⟩
theorem orb_inv {S v : Nat} (h : Odd S v) (j : Nat) : orb S j * v % S = j % S := by
 unfold orb
 rw [Nat.mod_mul_mod, Nat.mul_assoc, Nat.mul_mod, h.inv, Nat.mul_one, Nat.mod_mod]
theorem orb_inj {S v : Nat} (h : Odd S v) (i j : Nat) (hi : i < S) (hj : j < S) (e : orb S i = orb S j) : i = j := by
 have h1 := orb_inv h i
 have h2 := orb_inv h j
 rw [e, h2, Nat.mod_eq_of_lt hi, Nat.mod_eq_of_lt hj] at h1
 exact h1.symm
theorem orb_to {S v : Nat} (h : Odd S v) (x : Nat) (hx : x < S) : orb S (x * v % S) = x := by
 unfold orb
 rw [Nat.mod_mul_mod, Nat.mul_assoc, Nat.mul_mod, Nat.mul_comm v, h.inv, Nat.mul_one, Nat.mod_mod, Nat.mod_eq_of_lt hx]
theorem orb_lt {S v : Nat} (h : Odd S v) (j : Nat) : orb S j < S := Nat.mod_lt _ (by have := h.pos; omega)
theorem orb_succ (S j : Nat) : orb S (j + 1) = (orb S j + stepN S) % S := by
 unfold orb
 rw [Nat.succ_mul, Nat.mod_add_mod]
theorem orb_zero (S : Nat) : orb S 0 = 0 := by unfold orb; simp
theorem orb_all (S : Nat) : orb S S = 0 := by unfold orb; simp

def below (S H : Nat) (j : Nat) : Bool := decide (orb S j < H)
theorem below_all {S v : Nat} (h : Odd S v) (H : Nat) (hH : H ≤ S) : cntP (below S H) S = H := by
  induction H with
  | zero => exact cntP_none _ _ (fun i _ => by simp [below])
  | succ H ih =>
    have e := ih (by omega)
    have hp := h.pos
    have := cntP_add (below S H) (below S (H + 1)) S (H * v % S) (Nat.mod_lt _ (by omega)) (by simp [below, orb_to h H (by omega)]) (by simp [below, orb_to h H (by omega)])
      (fun k hk hne => by
        have h1 : orb S k ≠ H := fun e1 => hne (orb_inj h k _ hk (Nat.mod_lt _ (by omega)) (by rw [orb_to h H (by omega)]; exact e1))
        simp only [below]
        rw [Bool.eq_iff_iff, decide_eq_true_iff, decide_eq_true_iff]; omega)
    omega
def place (S H k : Nat) : Nat := orb S (findC (below S H) k S)
theorem place_eq (S H k j : Nat) (hj : j < S) (hp : orb S j < H) (hk : cntP (below S H) j = k) : place S H k = orb S j := by
 unfold place
 rw [findC_eq (below S H) k S j hj (by simp [below, hp]) hk]
theorem place_find {S v : Nat} (h : Odd S v) (H : Nat) (hH : H ≤ S) (k : Nat) (hk : k < H) : ∃ j, j < S ∧ orb S j < H ∧ cntP (below S H) j = k ∧ place S H k = orb S j := by
 obtain ⟨j, h1, h2, h3⟩ := cntP_find (below S H) S k (by rw [below_all h H hH]; exact hk)
 have h2' : orb S j < H := by simpa [below] using h2
 exact ⟨j, h1, h2', h3, place_eq S H k j h1 h2' h3⟩
theorem place_lt {S v : Nat} (h : Odd S v) (H : Nat) (hH : H ≤ S) (k : Nat) (hk : k < H) : place S H k < H := by
 obtain ⟨j, _, h2, _, h4⟩ := place_find h H hH k hk
 rw [h4]; exact h2
theorem place_inj {S v : Nat} (h : Odd S v) (H : Nat) (hH : H ≤ S) (i k : Nat) (hi : i < H) (hk : k < H) (e : place S H i = place S H k) : i = k := by
 obtain ⟨j, a1, _, a3, a4⟩ := place_find h H hH i hi
 obtain ⟨j', b1, _, b3, b4⟩ := place_find h H hH k hk
 have : j = j' := orb_inj h j j' a1 b1 (by rw [← a4, ← b4, e])
 subst this
 rw [← a3, ← b3]

end Go.Proofs.YtnjilcokkhodmaaGreatDoor
