/-
  How much shorter words get with one state more, as plain numbers; sums over symbols.
-/
import Derived.Test.YtoffnhbopjaocaaNum
namespace Go.Proofs.Ytoffnhbopjaocaa
open Go.RowKit Go.Shelf

/-- The logarithm of (c + 1) / c, in parts. -/
def savedN (c : Nat) : Nat := ((15 * (2 * c + 1) * (2 * c + 1) - 4) * 2 ^ 32) / ((2 * c + 1) * (15 * (2 * c + 1) * (2 * c + 1) - 9))
def savedChk : Nat → Bool
  | 0 => true
  | n + 1 => (decide (1 ≤ savedN (n + 1)) && (decide (savedN (n + 1) < 2147483648) && decide (savedN (n + 2) ≤ savedN (n + 1)))) && savedChk n
theorem savedChk_all : savedChk 4096 = true := by decide +kernel
theorem savedChk_at (n c : Nat) (h : savedChk n = true) (h1 : 1 ≤ c) (h2 : c ≤ n) : 1 ≤ savedN c ∧ savedN c < 2147483648 ∧ savedN (c + 1) ≤ savedN c := by
  induction n with
  | zero => omega
  | succ n ih =>
    simp only [savedChk, Bool.and_eq_true, decide_eq_true_eq] at h
    by_cases e : c = n + 1
    · subst e; exact ⟨h.1.1, h.1.2.1, h.1.2.2⟩
    · exact ih h.2 (by omega)
theorem saved_facts (c : Nat) (h1 : 1 ≤ c) (h2 : c ≤ 4096) : 1 ≤ savedN c ∧ savedN c < 2147483648 ∧ savedN (c + 1) ≤ savedN c := savedChk_at 4096 c savedChk_all h1 h2
theorem saved_lt (c : Nat) (h2 : c ≤ 4096) : savedN c < 8589934592 := by
  by_cases h : c = 0
  · subst h; decide
  · have := (saved_facts c (by omega) h2).2.1; omega

set_option maxHeartbeats 1000000 in
theorem saved_any (c : Nat) (hc : c ≤ 4096) (w : World) : Calls Try.prog 75 #[.int .i16 (c : Int)] w fun e w' => e = .returned (.int .u64 ((savedN c : Nat) : Int)) ∧ w' = w := by
  obtain ⟨d, hd⟩ : ∃ d, d = 2 * c + 1 := ⟨_, rfl⟩
  obtain ⟨e1, he1⟩ : ∃ e1, e1 = 15 * d := ⟨_, rfl⟩
  obtain ⟨g, hg⟩ : ∃ g, g = e1 * d := ⟨_, rfl⟩
  have hgb : g ≤ 122895 * 8193 := by rw [hg]; exact Nat.mul_le_mul (by omega) (by omega)
  have hgl : 15 ≤ g := by rw [hg]; exact Nat.le_trans (by omega) (Nat.mul_le_mul (show 15 ≤ e1 by omega) (show 1 ≤ d by omega))
  obtain ⟨h4, hh4⟩ : ∃ h4, h4 = g - 4 := ⟨_, rfl⟩
  obtain ⟨j, hj⟩ : ∃ j, j = h4 * 2 ^ 32 := ⟨_, rfl⟩
  obtain ⟨k, hk⟩ : ∃ k, k = g - 9 := ⟨_, rfl⟩
  obtain ⟨m, hm⟩ : ∃ m, m = d * k := ⟨_, rfl⟩
  have hmb : m ≤ 8193 * (122895 * 8193) := by rw [hm]; exact Nat.mul_le_mul (by omega) (by omega)
  have hm1 : 1 ≤ m := by rw [hm]; exact Nat.le_trans (by omega) (Nat.mul_le_mul (show 1 ≤ d by omega) (show 6 ≤ k by omega))
  have hs : savedN c = j / m := by unfold savedN; rw [hj, hm, hh4, hk, hg, he1, hd]
  obtain ⟨s, hs2⟩ : ∃ s, s = j / m := ⟨_, rfl⟩
  have i1 : 2 * (c : Int) + 1 = (d : Int) := by omega
  have i2 : 15 * (d : Int) = (e1 : Int) := by omega
  have i3 : (e1 : Int) * (d : Int) = (g : Int) := by rw [hg]; simp
  have i4 : (g : Int) - 4 = (h4 : Int) := by omega
  have i5 : (h4 : Int) * 2 ^ 32 = (j : Int) := by rw [hj]; simp
  have i5' : (h4 : Int) * 4294967296 = (j : Int) := by omega
  have i6 : (g : Int) - 9 = (k : Int) := by omega
  have i7 : (d : Int) * (k : Int) = (m : Int) := by rw [hm]; simp
  have i8 : (j : Int) / (m : Int) = (s : Int) := by rw [hs2]; simp
  have b1 : (d : Int) ≤ 8193 := by omega
  have b2 : (e1 : Int) ≤ 122895 := by omega
  have b3 : (g : Int) ≤ 1006878735 := by omega
  have b4 : (h4 : Int) ≤ 1006878735 := by omega
  have b5 : (j : Int) ≤ 4611686018427387904 := by omega
  have b6 : (k : Int) ≤ 1006878735 := by omega
  have b7 : (m : Int) ≤ 8249357476000 := by omega
  have b8 : (1 : Int) ≤ (m : Int) := by omega
  have b9 : ((m : Int) == 0) = false := by rw [beq_eq_false_iff_ne]; omega
  have b10 : (4 : Int) ≤ (g : Int) := by omega
  have b11 : (9 : Int) ≤ (g : Int) := by omega
  have hcI : (c : Int) ≤ 4096 := by omega
  have hsj : s ≤ j := by rw [hs2]; exact Nat.div_le_self _ _
  have b12 : (s : Int) ≤ 4611686018427387904 := by omega
  rw [hs, ← hs2]
  clear hd he1 hg hgb hgl hh4 hj hk hm hmb hm1 hs hs2 hsj
  go_enter Try.func75, Try.ntmps75
  go_wp2
  go_ret
  exact ⟨rfl, rfl⟩

/-- A sum over symbols. -/
def sumN (g : Nat → Nat) : Nat → Nat
  | 0 => 0
  | n + 1 => sumN g n + g n
theorem sumN_congr (g h : Nat → Nat) (n : Nat) (e : ∀ i, i < n → g i = h i) : sumN g n = sumN h n := by
  induction n with
  | zero => rfl
  | succ n ih => simp only [sumN]; rw [ih (fun i hi => e i (by omega)), e n (by omega)]
theorem sumN_set (g h : Nat → Nat) (n i : Nat) (hi : i < n) (e : ∀ k, k < n → k ≠ i → g k = h k) : sumN g n + h i = sumN h n + g i := by
  induction n with
  | zero => omega
  | succ n ih =>
    simp only [sumN]
    by_cases ei : i = n
    · subst ei
      rw [sumN_congr g h i (fun k hk => e k (by omega) (by omega))]; omega
    · have h1 := ih (by omega) (fun k hk hne => e k (by omega) hne)
      have h2 := e n (by omega) (fun h => ei h.symm)
      omega
theorem sumN_ge (g : Nat → Nat) (n i : Nat) (hi : i < n) : g i ≤ sumN g n := by
  induction n with
  | zero => omega
  | succ n ih =>
    simp only [sumN]
    by_cases e : i = n
    · subst e; omega
    · have := ih (by omega); omega
theorem sumN_two (g : Nat → Nat) (n i j : Nat) (hi : i < n) (hj : j < n) (hne : i ≠ j) : g i + g j ≤ sumN g n := by
  induction n with
  | zero => omega
  | succ n ih =>
    simp only [sumN]
    by_cases e : i = n
    · have := sumN_ge g n j (by omega); subst e; omega
    · by_cases e2 : j = n
      · have := sumN_ge g n i (by omega); subst e2; omega
      · have := ih (by omega) (by omega); omega
theorem sumN_le (g : Nat → Nat) (n B : Nat) (h : ∀ i, i < n → g i ≤ B) : sumN g n ≤ n * B := by
  induction n with
  | zero => simp [sumN]
  | succ n ih =>
    simp only [sumN]
    have h1 := ih (fun i hi => h i (by omega))
    have h2 := h n (by omega)
    rw [Nat.succ_mul]; omega
theorem sumN_mono (g h : Nat → Nat) (n : Nat) (e : ∀ i, i < n → g i ≤ h i) : sumN g n ≤ sumN h n := by
  induction n with
  | zero => simp [sumN]
  | succ n ih => simp only [sumN]; have := ih (fun i hi => e i (by omega)); have := e n (by omega); omega

/-- All that is saved by c states. -/
def SP : Nat → Nat
  | 0 => 0
  | c + 1 => SP c + savedN c
theorem SP_le (c : Nat) (h : c ≤ 4097) : SP c ≤ c * 8589934592 := by
  induction c with
  | zero => simp [SP]
  | succ c ih => have := ih (by omega); have := saved_lt c (by omega); simp only [SP]; omega
def potF (f c : Nat → Nat) (n : Nat) : Nat := sumN (fun i => f i * SP (c i)) n
/-- Above every sum. -/
def potMax : Nat := 256 * (4294967296 * (4097 * 8589934592))
theorem pot_le (f c : Nat → Nat) (n : Nat) (hn : n ≤ 256) (hf : ∀ i, f i < 4294967296) (hc : ∀ i, i < n → c i ≤ 4096) : potF f c n ≤ potMax := by
  have h1 := sumN_le (fun i => f i * SP (c i)) n (4294967296 * (4097 * 8589934592)) (fun i hi => by
    have h2 := SP_le (c i) (by have := hc i hi; omega)
    have h3 : SP (c i) ≤ 4097 * 8589934592 := Nat.le_trans h2 (Nat.mul_le_mul_right _ (by have := hc i hi; omega))
    exact Nat.mul_le_mul (by have := hf i; omega) h3)
  exact Nat.le_trans h1 (Nat.mul_le_mul_right _ hn)
/-- One state moved to where it saves more. -/
theorem pot_move (f c : Nat → Nat) (n i j : Nat) (hi : i < n) (hj : j < n) (hne : i ≠ j) (hcj : 2 ≤ c j) (hg : f j * savedN (c j - 1) < f i * savedN (c i)) :
    potF f c n < potF f (fun k => if k = j then c j - 1 else if k = i then c i + 1 else c k) n := by
  have h1 := sumN_set (fun k => f k * SP (c k)) (fun k => f k * SP (if k = i then c i + 1 else c k)) n i hi (fun k _ hk => by simp [hk])
  have h2 := sumN_set (fun k => f k * SP (if k = i then c i + 1 else c k)) (fun k => f k * SP (if k = j then c j - 1 else if k = i then c i + 1 else c k)) n j hj (fun k _ hk => by simp [hk])
  simp only [if_true] at h1 h2
  rw [if_neg (fun h => hne h.symm)] at h2
  have e1 : f i * SP (c i + 1) = f i * SP (c i) + f i * savedN (c i) := by simp only [SP]; rw [Nat.mul_add]
  have e2 : f j * SP (c j) = f j * SP (c j - 1) + f j * savedN (c j - 1) := by
    obtain ⟨d, hd⟩ : ∃ d, c j = d + 1 := ⟨c j - 1, by omega⟩
    rw [hd, Nat.add_sub_cancel]; simp only [SP]; rw [Nat.mul_add]
  show sumN (fun k => f k * SP (c k)) n < sumN (fun k => f k * SP (if k = j then c j - 1 else if k = i then c i + 1 else c k)) n
  omega

end Go.Proofs.Ytoffnhbopjaocaa
