/-
  A table's cells as plain numbers; from each symbol every state is come to.
-/
import Derived.Test.YtoffnhbopjaocaaSym
namespace Go.Proofs.Ytoffnhbopjaocaa

/-- How many states of the same symbol are below. -/
def blF (xs : List Int) (S i : Nat) : Nat := cntP (fun j => decide (symF xs S j = symF xs S i)) i
def xF (xs : List Int) (S i : Nat) : Nat := (shareN (xs[symF xs S i]?.getD 0)).toNat + blF xs S i
def bitF (l x : Nat) : Nat := l + 1 - lenN x
def baseF (l x : Nat) : Nat := x * 2 ^ bitF l x - 2 ^ l

theorem Tab.symF {xs : List Int} {S : Nat} (h : Tab xs S) (i : Nat) (hi : i < S) : symO xs S i = some (symF xs S i) ∧ symF xs S i < xs.length ∧ xs[symF xs S i]?.getD 0 ≠ 0 := by
  obtain ⟨s, h1, h2, h3⟩ := h.sym.1 i hi
  have e : Go.Proofs.Ytoffnhbopjaocaa.symF xs S i = s := by unfold Go.Proofs.Ytoffnhbopjaocaa.symF; rw [h1]; rfl
  rw [e]; exact ⟨h1, h2, h3⟩
theorem Tab.cnt {xs : List Int} {S : Nat} (h : Tab xs S) (s : Nat) (hs : s < xs.length) : (cntP (fun j => decide (Go.Proofs.Ytoffnhbopjaocaa.symF xs S j = s)) S : Int) = shareN (xs[s]?.getD 0) := by
  rw [← h.sym.2 s hs]
  congr 1
  refine cntP_congr _ _ S (fun i hi => ?_)
  rw [(h.symF i hi).1]
  simp
theorem shareN_one (c : Int) (h1 : -1 ≤ c) (h2 : c ≠ 0) : 1 ≤ shareN c := by unfold shareN; split <;> omega
theorem Tab.share {xs : List Int} {S : Nat} (h : Tab xs S) (s : Nat) (hs : s < xs.length) (h0 : xs[s]?.getD 0 ≠ 0) : ∃ c : Nat, shareN (xs[s]?.getD 0) = (c : Int) ∧ 1 ≤ c ∧ c ≤ S := by
  have h1 := shareN_one _ (h.low s hs) h0
  have h2 := h.cnt s hs
  have h3 := cntP_le (fun j => decide (Go.Proofs.Ytoffnhbopjaocaa.symF xs S j = s)) S
  exact ⟨(shareN (xs[s]?.getD 0)).toNat, by omega, by omega, by omega⟩
theorem Tab.x {xs : List Int} {S : Nat} (h : Tab xs S) (i : Nat) (hi : i < S) : ∃ c : Nat, shareN (xs[Go.Proofs.Ytoffnhbopjaocaa.symF xs S i]?.getD 0) = (c : Int) ∧ 1 ≤ c ∧ c ≤ S ∧ blF xs S i < c ∧ xF xs S i = c + blF xs S i := by
  obtain ⟨h1, h2, h3⟩ := h.symF i hi
  obtain ⟨c, e, c1, c2⟩ := h.share _ h2 h3
  have h4 := h.cnt _ h2
  have h5 := cntP_lt (fun j => decide (Go.Proofs.Ytoffnhbopjaocaa.symF xs S j = Go.Proofs.Ytoffnhbopjaocaa.symF xs S i)) i S hi (by simp)
  refine ⟨c, e, c1, c2, ?_, by unfold xF; rw [e]; omega⟩
  unfold blF
  omega
theorem lenN_div (y b : Nat) (h : y / 2 ^ b ≠ 0) : lenN (y / 2 ^ b) + b = lenN y := by
  induction b with
  | zero => simp
  | succ b ih =>
    have e : y / 2 ^ (b + 1) = y / 2 ^ b / 2 := by rw [Nat.pow_succ, Nat.div_div_eq_div_mul]
    have h0 : y / 2 ^ b ≠ 0 := by rw [e] at h; omega
    have h1 := ih h0
    have h2 := lenN_half (y / 2 ^ b) h0
    rw [e]; omega
/-- Bits and Base fit. -/
theorem cell_fits (l x : Nat) (h0 : x ≠ 0) (h1 : x < 2 ^ (l + 1)) : bitF l x ≤ l ∧ 2 ^ l ≤ x * 2 ^ bitF l x ∧ x * 2 ^ bitF l x < 2 ^ (l + 1) ∧ 1 ≤ lenN x ∧ lenN x ≤ l + 1 := by
  obtain ⟨a, b, c⟩ := lenN_pos x h0
  have d := lenN_le x (l + 1) h1
  have e : bitF l x + lenN x = l + 1 := by unfold bitF; omega
  have e1 : 2 ^ (bitF l x) * 2 ^ (lenN x) = 2 ^ (l + 1) := by rw [← Nat.pow_add, e]
  have e2 : 2 ^ (bitF l x) * 2 ^ (lenN x - 1) = 2 ^ l := by rw [← Nat.pow_add]; congr 1; omega
  refine ⟨by omega, ?_, ?_, c, d⟩
  · rw [← e2, Nat.mul_comm]; exact Nat.mul_le_mul_right _ a
  · rw [← e1, Nat.mul_comm]; exact Nat.mul_lt_mul_of_pos_left b (Nat.pow_pos (by omega))
theorem halves (c : Nat) (hc : 1 ≤ c) (y : Nat) : c ≤ y → ∃ b, c ≤ y / 2 ^ b ∧ y / 2 ^ b < 2 * c := by
  induction y using Nat.strongRecOn with
  | _ y ih =>
    intro h
    by_cases h2 : y < 2 * c
    · exact ⟨0, by simpa using h, by simpa using h2⟩
    · obtain ⟨b, h3, h4⟩ := ih (y / 2) (by omega) (by omega)
      refine ⟨b + 1, ?_, ?_⟩ <;> rw [Nat.pow_succ, Nat.mul_comm, ← Nat.div_div_eq_div_mul] <;> assumption
/-- From each symbol every state is come to. -/
theorem Tab.comes {xs : List Int} {l : Nat} (h : Tab xs (2 ^ l)) (s : Nat) (hs : s < xs.length) (h0 : xs[s]?.getD 0 ≠ 0) (n : Nat) (hn : n < 2 ^ l) :
    ∃ i, i < 2 ^ l ∧ Go.Proofs.Ytoffnhbopjaocaa.symF xs (2 ^ l) i = s ∧ baseF l (xF xs (2 ^ l) i) ≤ n ∧ n < baseF l (xF xs (2 ^ l) i) + 2 ^ bitF l (xF xs (2 ^ l) i) := by
  obtain ⟨c, ec, c1, c2⟩ := h.share s hs h0
  have hcnt := h.cnt s hs
  rw [ec] at hcnt
  obtain ⟨b, b1, b2⟩ := halves c c1 (n + 2 ^ l) (by omega)
  obtain ⟨i, i1, i2, i3⟩ := cntP_find (fun j => decide (Go.Proofs.Ytoffnhbopjaocaa.symF xs (2 ^ l) j = s)) (2 ^ l) ((n + 2 ^ l) / 2 ^ b - c) (by omega)
  have i2' : Go.Proofs.Ytoffnhbopjaocaa.symF xs (2 ^ l) i = s := by simpa using i2
  have ex : xF xs (2 ^ l) i = (n + 2 ^ l) / 2 ^ b := by
    unfold xF blF
    rw [i2', ec, i3]
    omega
  have hp : 2 ^ (l + 1) = 2 * 2 ^ l := by rw [Nat.pow_succ]; omega
  have hly : lenN (n + 2 ^ l) = l + 1 := lenN_eq _ l (by omega) (by omega)
  have hlx := lenN_div (n + 2 ^ l) b (by omega)
  have hx1 := lenN_pos ((n + 2 ^ l) / 2 ^ b) (by omega)
  have eb : bitF l (xF xs (2 ^ l) i) = b := by rw [ex]; unfold bitF; omega
  refine ⟨i, i1, i2', ?_, ?_⟩
  · unfold baseF; rw [eb, ex]
    have := Nat.div_mul_le_self (n + 2 ^ l) (2 ^ b)
    omega
  · unfold baseF; rw [eb, ex]
    have hd := Nat.div_add_mod (n + 2 ^ l) (2 ^ b)
    have hm := Nat.mod_lt (n + 2 ^ l) (Nat.pow_pos (n := b) (show 0 < 2 by omega))
    rw [Nat.mul_comm] at hd
    omega
/-- All of a table's cells. -/
theorem Tab.cell {xs : List Int} {l : Nat} (h : Tab xs (2 ^ l)) (i : Nat) (hi : i < 2 ^ l) : xF xs (2 ^ l) i ≠ 0 ∧ xF xs (2 ^ l) i < 2 ^ (l + 1) ∧ bitF l (xF xs (2 ^ l) i) ≤ l ∧ baseF l (xF xs (2 ^ l) i) < 2 ^ l ∧ baseF l (xF xs (2 ^ l) i) + 2 ^ bitF l (xF xs (2 ^ l) i) ≤ 2 ^ l ∧ 1 ≤ lenN (xF xs (2 ^ l) i) ∧ lenN (xF xs (2 ^ l) i) ≤ l + 1 ∧ 2 ^ l ≤ xF xs (2 ^ l) i * 2 ^ bitF l (xF xs (2 ^ l) i) := by
  obtain ⟨c, e, c1, c2, c3, c4⟩ := h.x i hi
  have hp : 2 ^ (l + 1) = 2 * 2 ^ l := by rw [Nat.pow_succ]; omega
  have h1 : xF xs (2 ^ l) i ≠ 0 := by omega
  have h2 : xF xs (2 ^ l) i < 2 ^ (l + 1) := by omega
  obtain ⟨d1, d2, d3, d4, d5⟩ := cell_fits l _ h1 h2
  refine ⟨h1, h2, d1, by unfold baseF; omega, ?_, d4, d5, d2⟩
  have ep : 2 ^ (l + 1) = 2 ^ (l + 1 - bitF l (xF xs (2 ^ l) i)) * 2 ^ bitF l (xF xs (2 ^ l) i) := by rw [← Nat.pow_add]; congr 1; omega
  have h3 : xF xs (2 ^ l) i < 2 ^ (l + 1 - bitF l (xF xs (2 ^ l) i)) := by
    have := (lenN_pos _ h1).2.1
    have e2 : l + 1 - bitF l (xF xs (2 ^ l) i) = lenN (xF xs (2 ^ l) i) := by unfold bitF; omega
    rw [e2]; exact this
  have h4 : (xF xs (2 ^ l) i + 1) * 2 ^ bitF l (xF xs (2 ^ l) i) ≤ 2 ^ (l + 1) := by rw [ep]; exact Nat.mul_le_mul_right _ h3
  rw [Nat.succ_mul] at h4
  unfold baseF
  omega

end Go.Proofs.Ytoffnhbopjaocaa
