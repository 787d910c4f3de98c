/-
  Canonical words: a row of bits begins with just one. No program is named here.
-/
import Derived.Test.YtapcohpagipkpaaCode
namespace Go.Proofs.Ytapcohpagipkpaa

/-- The number of the first l of some bits, the highest first. -/
def valF (b : Nat → Nat) : Nat → Nat
  | 0 => 0
  | l + 1 => 2 * valF b l + b l
theorem valF_lt (b : Nat → Nat) (hb : ∀ i, b i < 2) (l : Nat) : valF b l < 2 ^ l := by
  induction l with
  | zero => simp [valF]
  | succ l ih => have := hb l; simp only [valF, Nat.pow_succ]; omega
theorem valF_congr (b c : Nat → Nat) (l : Nat) (h : ∀ i, i < l → b i = c i) : valF b l = valF c l := by
  induction l with
  | zero => rfl
  | succ l ih => simp only [valF]; rw [ih (fun i hi => h i (by omega)), h l (by omega)]

theorem many_zero (xs : List Nat) : many xs 0 = 0 := rfl
theorem next_parts (c : Nat → Nat) (l : Nat) (hl : l ≤ 15) : nextF c l * 2 ^ (15 - l) = partsTo c l := by
  induction l with
  | zero => simp [nextF, partsTo]
  | succ l ih =>
    have h1 := ih (by omega)
    have e : 2 ^ (15 - l) = 2 * 2 ^ (15 - (l + 1)) := by rw [show 15 - l = (15 - (l + 1)) + 1 from by omega, Nat.pow_succ, Nat.mul_comm]
    simp only [nextF, partsTo]
    rw [← h1, e]
    rw [Nat.mul_assoc 2, Nat.mul_left_comm, Nat.add_mul]
theorem partsTo_mono (c : Nat → Nat) (l k : Nat) (h : l ≤ k) : partsTo c l ≤ partsTo c k := by
  induction k with
  | zero => obtain rfl : l = 0 := by omega
            exact Nat.le_refl _
  | succ k ih =>
    by_cases e : l = k + 1
    · rw [e]; exact Nat.le_refl _
    · have := ih (by omega); simp only [partsTo]; omega
/-- The words of one length end within its numbers. -/
theorem next_le (c : Nat → Nat) (hc : partsTo c 16 = 32768) (l : Nat) (hl : l ≤ 15) : nextF c l + c l ≤ 2 ^ l := by
  have h1 := next_parts c l hl
  have h2 := partsTo_mono c (l + 1) 16 (by omega)
  simp only [partsTo] at h2
  have h3 : (nextF c l + c l) * 2 ^ (15 - l) ≤ 2 ^ l * 2 ^ (15 - l) := by
    rw [Nat.add_mul, h1, ← Nat.pow_add, show l + (15 - l) = 15 from by omega]
    have : partsTo c l + c l * 2 ^ (15 - l) ≤ partsTo c 16 := by
      have := partsTo_mono c (l + 1) 16 (by omega)
      simpa only [partsTo] using this
    omega
  exact Nat.le_of_mul_le_mul_right h3 (Nat.two_pow_pos _)
theorem next_last (c : Nat → Nat) (hc : partsTo c 16 = 32768) : nextF c 15 + c 15 = 32768 := by
  have h1 := next_parts c 15 (Nat.le_refl _)
  simp only [partsTo] at hc h1
  simp at h1 hc
  omega
/-- Where no shorter word begins the bits, they are not below the first word. -/
theorem val_ge (c b : Nat → Nat) (k : Nat) (h : ∀ l, l < k → 0 < c l → nextF c l + c l ≤ valF b l) (l : Nat) (hl : l ≤ k) : nextF c l ≤ valF b l := by
  induction l with
  | zero => simp [nextF]
  | succ l ih =>
    have h1 := ih (by omega)
    simp only [nextF, valF]
    by_cases hc : 0 < c l
    · have := h l (by omega) hc; omega
    · omega
/-- Some word begins them. -/
theorem some_word (c b : Nat → Nat) (hb : ∀ i, b i < 2) (hc : partsTo c 16 = 32768) (h : ∀ l, l < 16 → 0 < c l → nextF c l + c l ≤ valF b l) : False := by
  have h1 := val_ge c b 15 (fun l hl => h l (by omega)) 15 (Nat.le_refl _)
  have h2 := next_last c hc
  have h3 := valF_lt b hb 15
  by_cases h0 : 0 < c 15
  · have := h 15 (by omega) h0; omega
  · omega

/-- l bits are a word, and no fewer are. -/
structure IsWord (c b : Nat → Nat) (l : Nat) : Prop where
  lo : 1 ≤ l
  hi : l ≤ 15
  ge : nextF c l ≤ valF b l
  lt : valF b l < nextF c l + c l
  first : ∀ k, k < l → 0 < c k → nextF c k + c k ≤ valF b k
theorem IsWord.one {c b : Nat → Nat} {l m : Nat} (h : IsWord c b l) (k : IsWord c b m) : l = m := by
  rcases Nat.lt_trichotomy l m with e | e | e
  · have := k.first l e (by have := h.lt; have := h.ge; omega)
    have := h.lt; omega
  · exact e
  · have := h.first m e (by have := k.lt; have := k.ge; omega)
    have := k.lt; omega
theorem IsWord.congr {c b b' : Nat → Nat} {l : Nat} (h : IsWord c b l) (e : ∀ i, i < l → b i = b' i) : IsWord c b' l := by
  have hv : ∀ k, k ≤ l → valF b k = valF b' k := fun k hk => valF_congr b b' k (fun i hi => e i (by omega))
  exact ⟨h.lo, h.hi, by rw [← hv l (Nat.le_refl _)]; exact h.ge, by rw [← hv l (Nat.le_refl _)]; exact h.lt, fun k hk h0 => by rw [← hv k (by omega)]; exact h.first k hk h0⟩

end Go.Proofs.Ytapcohpagipkpaa
