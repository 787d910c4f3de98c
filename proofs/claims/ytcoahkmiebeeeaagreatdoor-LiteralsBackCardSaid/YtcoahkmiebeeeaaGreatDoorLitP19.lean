/-
  Heads of literals sections that are put, and read again.
  formFor and putHead.
  Literals that are packed in rows, and unpacked again.
  Pack's bytes lie in new memory.
-/
import Derived.Test.YtcoahkmiebeeeaaGreatDoorLitP8
import Derived.Test.YtcoahkmiebeeeaaGreatDoorLitP14
namespace Go.Proofs.YtcoahkmiebeeeaaGreatDoor
open Go.RowKit Go.Shelf
set_option linter.unusedVariables false

def leN : Nat → Nat → List Nat
  | 0, _ => []
  | n + 1, x => x % 256 :: leN n (x / 256)
theorem leN_length (n x : Nat) : (leN n x).length = n := by
  induction n generalizing x with
  | zero => rfl
  | succ n ih => simp [leN, ih]
theorem leN_at (n x k : Nat) (h : k < n) : (leN n x)[k]? = some (x / 256 ^ k % 256) := by
  induction n generalizing x k with
  | zero => omega
  | succ n ih =>
    cases k with
    | zero => simp [leN]
    | succ k =>
      simp only [leN, List.getElem?_cons_succ]
      rw [ih _ _ (by omega), Nat.div_div_eq_div_mul, Nat.pow_succ, Nat.mul_comm]
theorem leN_lt (n x : Nat) : ∀ b ∈ leN n x, b < 256 := by
  induction n generalizing x with
  | zero => simp [leN]
  | succ n ih =>
    intro b hb
    rcases List.mem_cons.1 hb with h | h
    · rw [h]; exact Nat.mod_lt _ (by decide)
    · exact ih _ b h
theorem numN_leN (n x : Nat) (h : x < 256 ^ n) : numN (leN n x) = x := by
  induction n generalizing x with
  | zero => simp [leN, numN]; simp at h; omega
  | succ n ih =>
    simp only [leN, numN]
    rw [ih (x / 256) (by rw [Nat.pow_succ] at h; exact (Nat.div_lt_iff_lt_mul (by decide)).2 h)]
    omega
def whN (k size : Nat) : Nat := if k < 2 then (if size < 32 then 0 else if size < 4096 then 1 else 3) else (if size < 1024 then 0 else if size < 16384 then 2 else 3)
def putN (k size bh : Nat) : Nat := k + 4 * whN k size + 2 ^ frN k (whN k size) * size + (if k < 2 then 0 else 2 ^ (frN k (whN k size) + btN k (whN k size)) * bh)
def hdL (k size bh : Nat) : List Nat := leN (hbN k (whN k size)) (putN k size bh)
theorem hdL_length (k size bh : Nat) : (hdL k size bh).length = hbN k (whN k size) := leN_length _ _
theorem whN_lt (k size : Nat) : whN k size < 4 := by
  unfold whN; repeat' split
  all_goals omega
/-- What a head that was put tells. -/
structure Head (bs : List Nat) (k size bh hb : Nat) : Prop where
  ki : hKi bs = k
  by_ : hBy bs = hb
  sz : hSz bs = size
  pk : hPk bs = if k < 2 then 0 else bh
  rw_ : hRw bs = rwN k (whN k size)
theorem head_of {bs : List Nat} {k f size bh x : Nat} (hn : hbN k f ≤ bs.length) (h0 : bs[0]?.getD 0 = x % 256) (hx : numN (bs.take (hbN k f)) = x) (hk : x % 4 = k) (hf : x / 4 % 4 = f) (hs : x / 2 ^ frN k f % 2 ^ btN k f = size) (hp : k < 2 ∨ x / 2 ^ (frN k f + btN k f) % 2 ^ btN k f = bh) :
    hKi bs = k ∧ hBy bs = hbN k f ∧ hSz bs = size ∧ (hPk bs = if k < 2 then 0 else bh) ∧ hRw bs = rwN k f := by
  have e1 : hKi bs = k := by unfold hKi; rw [h0]; omega
  have e2 : hFo bs = f := by unfold hFo; rw [h0]; omega
  have e3 : hBy bs = hbN k f := by unfold hBy; rw [e1, e2]
  have e4 : hNu bs = x := by unfold hNu; rw [e3]; exact hx
  refine ⟨e1, e3, by unfold hSz; rw [e4, e1, e2]; exact hs, ?_, by unfold hRw; rw [e1, e2]⟩
  unfold hPk
  rw [e1, e2, e4]
  by_cases h : k < 2
  · rw [if_pos h, if_pos h]
  · rw [if_neg h, if_neg h]
    exact hp.resolve_left h
theorem le_front (n x : Nat) (rest : List Nat) (hn : 1 ≤ n) : (leN n x ++ rest)[0]?.getD 0 = x % 256 := by
  rw [List.getElem?_append_left (by rw [leN_length]; omega), leN_at n x 0 (by omega)]
  simp
theorem le_take (n x : Nat) (rest : List Nat) (h : x < 256 ^ n) : numN ((leN n x ++ rest).take n) = x := by
  rw [List.take_left' (leN_length n x)]
  exact numN_leN n x h
theorem head_back (k size bh : Nat) (rest : List Nat) (hk : k < 4) (hs : size ≤ 131072) (hb : 2 ≤ k → bh < 2 ^ btN k (whN k size)) :
    Head (hdL k size bh ++ rest) k size bh (hbN k (whN k size)) := by
  have hlen : hbN k (whN k size) ≤ (hdL k size bh ++ rest).length := by rw [List.length_append, hdL_length]; omega
  unfold hdL at hlen ⊢
  obtain ⟨x, hx⟩ : ∃ x, x = putN k size bh := ⟨_, rfl⟩
  rw [← hx] at hlen ⊢
  unfold putN at hx
  by_cases h2 : k < 2
  · rw [if_pos h2] at hx
    by_cases s1 : size < 32
    · have ew : whN k size = 0 := by unfold whN; rw [if_pos h2, if_pos s1]
      rw [ew] at hx hlen ⊢
      have e1 : hbN k 0 = 1 := by unfold hbN; rw [if_pos h2]; rfl
      have e2 : frN k 0 = 3 := by unfold frN; rw [if_pos ⟨h2, .inl rfl⟩]
      rw [e2] at hx
      rw [e1] at hlen ⊢
      have hx2 : x = k + 8 * size := by omega
      -- the form is 0 or 2
      obtain ⟨f, hf, hf2⟩ : ∃ f, f = x / 4 % 4 ∧ (f = 0 ∨ f = 2) := ⟨_, rfl, by omega⟩
      have g1 : hbN k f = 1 := by unfold hbN; rw [if_pos h2, if_neg (by omega), if_neg (by omega)]
      have g2 : frN k f = 3 := by unfold frN; rw [if_pos ⟨h2, hf2⟩]
      have g3 : btN k f = 5 := by unfold btN; rw [if_pos h2, if_neg (by omega), if_neg (by omega)]
      have g4 : rwN k f = rwN k 0 := by unfold rwN; rw [if_pos h2, if_pos h2]
      obtain ⟨q1, q2, q3, q4, q5⟩ := head_of (bs := leN 1 x ++ rest) (k := k) (f := f) (size := size) (bh := bh) (x := x) (by rw [g1]; exact hlen) (le_front 1 x rest (by omega)) (by rw [g1]; exact le_take 1 x rest (by omega)) (by omega) hf.symm (by rw [g2, g3]; omega) (.inl h2)
      exact ⟨q1, by rw [q2, g1], q3, q4, by rw [q5, g4, ew]⟩
    · by_cases s2 : size < 4096
      · have ew : whN k size = 1 := by unfold whN; rw [if_pos h2, if_neg s1, if_pos s2]
        rw [ew] at hx hlen ⊢
        have e1 : hbN k 1 = 2 := by unfold hbN; rw [if_pos h2]; rfl
        have e2 : frN k 1 = 4 := by unfold frN; rw [if_neg (by omega)]
        have e3 : btN k 1 = 12 := by unfold btN; rw [if_pos h2]; rfl
        rw [e2] at hx
        obtain ⟨q1, q2, q3, q4, q5⟩ := head_of (bs := leN (hbN k 1) x ++ rest) (k := k) (f := 1) (size := size) (bh := bh) (x := x) hlen (le_front _ x rest (by omega)) (le_take _ x rest (by rw [e1]; omega)) (by omega) (by omega) (by rw [e2, e3]; omega) (.inl h2)
        exact ⟨q1, q2, q3, q4, by rw [q5, ew]⟩
      · have ew : whN k size = 3 := by unfold whN; rw [if_pos h2, if_neg s1, if_neg s2]
        rw [ew] at hx hlen ⊢
        have e1 : hbN k 3 = 3 := by unfold hbN; rw [if_pos h2]; rfl
        have e2 : frN k 3 = 4 := by unfold frN; rw [if_neg (by omega)]
        have e3 : btN k 3 = 20 := by unfold btN; rw [if_pos h2]; rfl
        rw [e2] at hx
        obtain ⟨q1, q2, q3, q4, q5⟩ := head_of (bs := leN (hbN k 3) x ++ rest) (k := k) (f := 3) (size := size) (bh := bh) (x := x) hlen (le_front _ x rest (by omega)) (le_take _ x rest (by rw [e1]; omega)) (by omega) (by omega) (by rw [e2, e3]; omega) (.inl h2)
        exact ⟨q1, q2, q3, q4, by rw [q5, ew]⟩
  · rw [if_neg h2] at hx
    have hb' := hb (by omega)
    by_cases s1 : size < 1024
    · have ew : whN k size = 0 := by unfold whN; rw [if_neg h2, if_pos s1]
      rw [ew] at hx hlen hb' ⊢
      have e1 : hbN k 0 = 3 := by unfold hbN; rw [if_neg h2]; rfl
      have e2 : frN k 0 = 4 := by unfold frN; rw [if_neg (by omega)]
      have e3 : btN k 0 = 10 := by unfold btN; rw [if_neg h2]; rfl
      rw [e2, e3] at hx
      rw [e3] at hb'
      obtain ⟨q1, q2, q3, q4, q5⟩ := head_of (bs := leN (hbN k 0) x ++ rest) (k := k) (f := 0) (size := size) (bh := bh) (x := x) hlen (le_front _ x rest (by omega)) (le_take _ x rest (by rw [e1]; omega)) (by omega) (by omega) (by rw [e2, e3]; omega) (.inr (by rw [e2, e3]; omega))
      exact ⟨q1, q2, q3, q4, by rw [q5, ew]⟩
    · by_cases s2 : size < 16384
      · have ew : whN k size = 2 := by unfold whN; rw [if_neg h2, if_neg s1, if_pos s2]
        rw [ew] at hx hlen hb' ⊢
        have e1 : hbN k 2 = 4 := by unfold hbN; rw [if_neg h2]; rfl
        have e2 : frN k 2 = 4 := by unfold frN; rw [if_neg (by omega)]
        have e3 : btN k 2 = 14 := by unfold btN; rw [if_neg h2]; rfl
        rw [e2, e3] at hx
        rw [e3] at hb'
        obtain ⟨q1, q2, q3, q4, q5⟩ := head_of (bs := leN (hbN k 2) x ++ rest) (k := k) (f := 2) (size := size) (bh := bh) (x := x) hlen (le_front _ x rest (by omega)) (le_take _ x rest (by rw [e1]; omega)) (by omega) (by omega) (by rw [e2, e3]; omega) (.inr (by rw [e2, e3]; omega))
        exact ⟨q1, q2, q3, q4, by rw [q5, ew]⟩
      · have ew : whN k size = 3 := by unfold whN; rw [if_neg h2, if_neg s1, if_neg s2]
        rw [ew] at hx hlen hb' ⊢
        have e1 : hbN k 3 = 5 := by unfold hbN; rw [if_neg h2]; rfl
        have e2 : frN k 3 = 4 := by unfold frN; rw [if_neg (by omega)]
        have e3 : btN k 3 = 18 := by unfold btN; rw [if_neg h2]; rfl
        rw [e2, e3] at hx
        rw [e3] at hb'
        obtain ⟨q1, q2, q3, q4, q5⟩ := head_of (bs := leN (hbN k 3) x ++ rest) (k := k) (f := 3) (size := size) (bh := bh) (x := x) hlen (le_front _ x rest (by omega)) (le_take _ x rest (by rw [e1]; omega)) (by omega) (by omega) (by rw [e2, e3]; omega) (.inr (by rw [e2, e3]; omega))
        exact ⟨q1, q2, q3, q4, by rw [q5, ew]⟩
end Go.Proofs.YtcoahkmiebeeeaaGreatDoor

namespace Go.Proofs.YtcoahkmiebeeeaaGreatDoor
open Go.RowKit Go.Shelf
set_option linter.unusedVariables false

def formV (k f : Nat) : Value := .agg #[.int .i64 ((hbN k f : Nat) : Int), .int .i64 ((frN k f : Nat) : Int), .int .i64 ((btN k f : Nat) : Int), .int .i64 ((rwN k f : Nat) : Int)]
theorem idx00 (w : World) : (Instr.index 51 (.agg #[.int .i64 1, .int .i64 3, .int .i64 5, .int .i64 0, .int .i64 2, .int .i64 4, .int .i64 12, .int .i64 0, .int .i64 1, .int .i64 3, .int .i64 5, .int .i64 0, .int .i64 3, .int .i64 4, .int .i64 20, .int .i64 0]) (.int .i64 0)).run Tryz.prog w = .ok (.agg #[.int .i64 1, .int .i64 3, .int .i64 5, .int .i64 0]) w := by kernel_rfl
theorem idx01 (w : World) : (Instr.index 51 (.agg #[.int .i64 1, .int .i64 3, .int .i64 5, .int .i64 0, .int .i64 2, .int .i64 4, .int .i64 12, .int .i64 0, .int .i64 1, .int .i64 3, .int .i64 5, .int .i64 0, .int .i64 3, .int .i64 4, .int .i64 20, .int .i64 0]) (.int .i64 1)).run Tryz.prog w = .ok (.agg #[.int .i64 2, .int .i64 4, .int .i64 12, .int .i64 0]) w := by kernel_rfl
theorem idx02 (w : World) : (Instr.index 51 (.agg #[.int .i64 1, .int .i64 3, .int .i64 5, .int .i64 0, .int .i64 2, .int .i64 4, .int .i64 12, .int .i64 0, .int .i64 1, .int .i64 3, .int .i64 5, .int .i64 0, .int .i64 3, .int .i64 4, .int .i64 20, .int .i64 0]) (.int .i64 2)).run Tryz.prog w = .ok (.agg #[.int .i64 1, .int .i64 3, .int .i64 5, .int .i64 0]) w := by kernel_rfl
theorem idx03 (w : World) : (Instr.index 51 (.agg #[.int .i64 1, .int .i64 3, .int .i64 5, .int .i64 0, .int .i64 2, .int .i64 4, .int .i64 12, .int .i64 0, .int .i64 1, .int .i64 3, .int .i64 5, .int .i64 0, .int .i64 3, .int .i64 4, .int .i64 20, .int .i64 0]) (.int .i64 3)).run Tryz.prog w = .ok (.agg #[.int .i64 3, .int .i64 4, .int .i64 20, .int .i64 0]) w := by kernel_rfl
theorem idx10 (w : World) : (Instr.index 51 (.agg #[.int .i64 3, .int .i64 4, .int .i64 10, .int .i64 1, .int .i64 3, .int .i64 4, .int .i64 10, .int .i64 4, .int .i64 4, .int .i64 4, .int .i64 14, .int .i64 4, .int .i64 5, .int .i64 4, .int .i64 18, .int .i64 4]) (.int .i64 0)).run Tryz.prog w = .ok (.agg #[.int .i64 3, .int .i64 4, .int .i64 10, .int .i64 1]) w := by kernel_rfl
theorem idx11 (w : World) : (Instr.index 51 (.agg #[.int .i64 3, .int .i64 4, .int .i64 10, .int .i64 1, .int .i64 3, .int .i64 4, .int .i64 10, .int .i64 4, .int .i64 4, .int .i64 4, .int .i64 14, .int .i64 4, .int .i64 5, .int .i64 4, .int .i64 18, .int .i64 4]) (.int .i64 1)).run Tryz.prog w = .ok (.agg #[.int .i64 3, .int .i64 4, .int .i64 10, .int .i64 4]) w := by kernel_rfl
theorem idx12 (w : World) : (Instr.index 51 (.agg #[.int .i64 3, .int .i64 4, .int .i64 10, .int .i64 1, .int .i64 3, .int .i64 4, .int .i64 10, .int .i64 4, .int .i64 4, .int .i64 4, .int .i64 14, .int .i64 4, .int .i64 5, .int .i64 4, .int .i64 18, .int .i64 4]) (.int .i64 2)).run Tryz.prog w = .ok (.agg #[.int .i64 4, .int .i64 4, .int .i64 14, .int .i64 4]) w := by kernel_rfl
theorem idx13 (w : World) : (Instr.index 51 (.agg #[.int .i64 3, .int .i64 4, .int .i64 10, .int .i64 1, .int .i64 3, .int .i64 4, .int .i64 10, .int .i64 4, .int .i64 4, .int .i64 4, .int .i64 14, .int .i64 4, .int .i64 5, .int .i64 4, .int .i64 18, .int .i64 4]) (.int .i64 3)).run Tryz.prog w = .ok (.agg #[.int .i64 5, .int .i64 4, .int .i64 18, .int .i64 4]) w := by kernel_rfl
theorem frm0 {w : World} (h : Frm w) : w.cell? ⟨0, 0, none⟩ = some (.int .i64 1) ∧ w.cell? ⟨0, 1, none⟩ = some (.int .i64 3) ∧ w.cell? ⟨0, 2, none⟩ = some (.int .i64 5) ∧ w.cell? ⟨0, 3, none⟩ = some (.int .i64 0) ∧ w.cell? ⟨0, 4, none⟩ = some (.int .i64 2) ∧ w.cell? ⟨0, 5, none⟩ = some (.int .i64 4) ∧ w.cell? ⟨0, 6, none⟩ = some (.int .i64 12) ∧ w.cell? ⟨0, 7, none⟩ = some (.int .i64 0) ∧ w.cell? ⟨0, 8, none⟩ = some (.int .i64 1) ∧ w.cell? ⟨0, 9, none⟩ = some (.int .i64 3) ∧ w.cell? ⟨0, 10, none⟩ = some (.int .i64 5) ∧ w.cell? ⟨0, 11, none⟩ = some (.int .i64 0) ∧ w.cell? ⟨0, 12, none⟩ = some (.int .i64 3) ∧ w.cell? ⟨0, 13, none⟩ = some (.int .i64 4) ∧ w.cell? ⟨0, 14, none⟩ = some (.int .i64 20) ∧ w.cell? ⟨0, 15, none⟩ = some (.int .i64 0) := by
  obtain ⟨a0, a1, a2, a3⟩ := h 0 0 (by decide) (by decide)
  obtain ⟨b0, b1, b2, b3⟩ := h 0 1 (by decide) (by decide)
  obtain ⟨c0, c1, c2, c3⟩ := h 0 2 (by decide) (by decide)
  obtain ⟨d0, d1, d2, d3⟩ := h 0 3 (by decide) (by decide)
  exact ⟨a0, a1, a2, a3, b0, b1, b2, b3, c0, c1, c2, c3, d0, d1, d2, d3⟩
theorem frm1 {w : World} (h : Frm w) : w.cell? ⟨0, 16, none⟩ = some (.int .i64 3) ∧ w.cell? ⟨0, 17, none⟩ = some (.int .i64 4) ∧ w.cell? ⟨0, 18, none⟩ = some (.int .i64 10) ∧ w.cell? ⟨0, 19, none⟩ = some (.int .i64 1) ∧ w.cell? ⟨0, 20, none⟩ = some (.int .i64 3) ∧ w.cell? ⟨0, 21, none⟩ = some (.int .i64 4) ∧ w.cell? ⟨0, 22, none⟩ = some (.int .i64 10) ∧ w.cell? ⟨0, 23, none⟩ = some (.int .i64 4) ∧ w.cell? ⟨0, 24, none⟩ = some (.int .i64 4) ∧ w.cell? ⟨0, 25, none⟩ = some (.int .i64 4) ∧ w.cell? ⟨0, 26, none⟩ = some (.int .i64 14) ∧ w.cell? ⟨0, 27, none⟩ = some (.int .i64 4) ∧ w.cell? ⟨0, 28, none⟩ = some (.int .i64 5) ∧ w.cell? ⟨0, 29, none⟩ = some (.int .i64 4) ∧ w.cell? ⟨0, 30, none⟩ = some (.int .i64 18) ∧ w.cell? ⟨0, 31, none⟩ = some (.int .i64 4) := by
  obtain ⟨a0, a1, a2, a3⟩ := h 1 0 (by decide) (by decide)
  obtain ⟨b0, b1, b2, b3⟩ := h 1 1 (by decide) (by decide)
  obtain ⟨c0, c1, c2, c3⟩ := h 1 2 (by decide) (by decide)
  obtain ⟨d0, d1, d2, d3⟩ := h 1 3 (by decide) (by decide)
  exact ⟨a0, a1, a2, a3, b0, b1, b2, b3, c0, c1, c2, c3, d0, d1, d2, d3⟩
theorem set4 {w : World} {b : Nat} {u0 u1 u2 u3 : Value} (h : w.heap[b]? = some (.cells #[u0, u1, u2, u3] 36 (0, 0))) (v0 v1 v2 v3 : Value) :
    ((((w.setCell ⟨b, 0, none⟩ v0).setCell ⟨b, 1, none⟩ v1).setCell ⟨b, 2, none⟩ v2).setCell ⟨b, 3, none⟩ v3).heap[b]? = some (.cells #[v0, v1, v2, v3] 36 (0, 0)) := by
  have h0 := set_obj h 0 v0
  have h1 := set_obj h0 1 v1
  have h2 := set_obj h1 2 v2
  have h3 := set_obj h2 3 v3
  simpa only [List.setIfInBounds_toArray, List.set_cons_zero, List.set_cons_succ] using h3
theorem keep4 {w0 w : World} {b : Nat} (h : Keep noBlock w0 w) (hb : w0.heap.size ≤ b) (v0 v1 v2 v3 : Value) :
    Keep noBlock w0 ((((w.setCell ⟨b, 0, none⟩ v0).setCell ⟨b, 1, none⟩ v1).setCell ⟨b, 2, none⟩ v2).setCell ⟨b, 3, none⟩ v3) := by
  have e : b < w0.heap.size → noBlock b := fun h => by omega
  exact (((h.setCell (p := ⟨b, 0, none⟩) e _).setCell (p := ⟨b, 1, none⟩) e _).setCell (p := ⟨b, 2, none⟩) e _).setCell (p := ⟨b, 3, none⟩) e _
theorem agg36 : ∀ w, (isAgg 36).run Tryz.prog w = .ok true w := by intro w; kernel_rfl
theorem loadVarF {w : World} {b : Nat} {cs : Array Value} (h : w.heap[b]? = some (.cells cs 36 (0, 0))) (h5 : cs.size = 4) : (loadVar 36 ⟨b, 0, none⟩).run Tryz.prog w = .ok (.agg cs) w := by
  have := run_loadCells_list (P := Tryz.prog) w ⟨b, 0, none⟩ cs.toList (fun j v hv => by
    rw [add0, cell_of h]
    simpa using hv)
  rw [Array.length_toList, h5] at this
  simp only [loadVar, Sem.run_bind, agg36, Result.andThen]
  simp [this]
theorem res4 {tmps : Array Value} {w : World} {b : Nat} {cs : Array Value} {v : Value} (hv : tmps[4]?.getD undef = v) (hp : tmps[5]?.getD undef = .pointer (some ⟨b, 0, none⟩)) (h : w.heap[b]? = some (.cells cs 36 (0, 0))) (h5 : cs.size = 4) :
    (results Tryz.f26 tmps).run Tryz.prog w = .ok (.tuple #[v, .agg cs]) w := by
  simp [results, Tryz.results26, hp, hv, asAddr, loadVarF h h5]

set_option maxRecDepth 100000 in
set_option maxHeartbeats 8000000 in
theorem formFor_low (k size : Nat) (h2 : k < 2) (w : World) (hF : Frm w) (hk : k < 4) (hs : size ≤ 131072) :
    Calls Tryz.prog 26 #[.int .i64 (k : Int), .int .i64 (size : Int)] w fun e w' => Keep noBlock w w' ∧ e = .returned (.tuple #[.int .i64 ((whN k size : Nat) : Int), formV k (whN k size)]) := by
  have hF1 := hF.keep ((Keep.refl noBlock w).alloc (.cells #[.int .i64 0, .int .i64 0, .int .i64 0, .int .i64 0] 36))
  obtain ⟨a0, a1, a2, a3, b0, b1, b2, b3, c0, c1, c2, c3, d0, d1, d2, d3⟩ := frm0 hF1
  have e2 : (k : Int).tdiv 2 = 0 := by rcases (show k = 0 ∨ k = 1 by omega) with rfl | rfl <;> rfl
  have e3 : (k : Int) / 2 = 0 := by omega
  have e4 : k / 2 = 0 := by omega
  have hs0 : (0 : Int) ≤ (size : Int) := by omega
  have hsI : (size : Int) ≤ 131072 := by omega
  clear hF1
  go_enter Tryz.func26, Tryz.ntmps26
  go_wp2_with fail
  clear a0 a1 a2 a3 b0 b1 b2 b3 c0 c1 c2 c3 d0 d1 d2 d3 e2 e3 e4
  have o1 := World.alloc_heap_new w (.cells #[.int .i64 0, .int .i64 0, .int .i64 0, .int .i64 0] 36)
  have k1 := (Keep.refl noBlock w).alloc (.cells #[.int .i64 0, .int .i64 0, .int .i64 0, .int .i64 0] 36)
  obtain ⟨xb, hxb⟩ : ∃ xb, xb = w.heap.size := ⟨_, rfl⟩
  rw [← hxb] at o1 ⊢
  generalize w.alloc (.cells #[.int .i64 0, .int .i64 0, .int .i64 0, .int .i64 0] 36) = W1 at o1 k1 ⊢
  have HX := hid (show w.heap.size ≤ xb from by omega)
  have H1 := hid (show Keep noBlock w W1 ∧ ∃ u0 u1 u2 u3, W1.heap[xb]? = some (.cells #[u0, u1, u2, u3] 36 (0, 0)) from ⟨k1, _, _, _, _, o1⟩)
  clear o1 k1 hxb
  go_loopw [4, 10] (fun v4 v10 wr => ∃ j : Nat, v10 = .int .i64 (j : Int) ∧ j ≤ 3 ∧ Hid (Keep noBlock w wr ∧ (∃ u0 u1 u2 u3, wr.heap[xb]? = some (.cells #[u0, u1, u2, u3] 36 (0, 0))) ∧ (1 ≤ j → 32 ≤ size) ∧ (2 ≤ j → 4096 ≤ size))) (fun _ v10 _ => 4 - (intOf v10).toNat)
  case atStart => exact ⟨0, rfl, by omega, H1.out.1, H1.out.2, by omega⟩
  case round =>
    obtain ⟨j, rfl, hj, HJ⟩ := hrel
    obtain ⟨hK, ⟨u0, u1, u2, u3, ho⟩, hthr⟩ := HJ.out
    have c0 : wr.cell? ⟨xb, 0, none⟩ = some u0 := cell_of ho 0
    have c1 : wr.cell? ⟨xb, 1, none⟩ = some u1 := cell_of ho 1
    have c2 : wr.cell? ⟨xb, 2, none⟩ = some u2 := cell_of ho 2
    have c3 : wr.cell? ⟨xb, 3, none⟩ = some u3 := cell_of ho 3
    have f0 := frozen_of ho 0
    have f1 := frozen_of ho 1
    have f2 := frozen_of ho 2
    have f3 := frozen_of ho 3
    rcases (show j = 0 ∨ j = 1 ∨ j = 2 ∨ j = 3 by omega) with rfl | rfl | rfl | rfl
    · rw [show ((0 : Nat) : Int) = (0 : Int) from rfl]
      have xj := idx00
      obtain ⟨W2, hW2⟩ : ∃ W2, W2 = (((wr.setCell ⟨xb, 0, none⟩ (.int .i64 1)).setCell ⟨xb, 1, none⟩ (.int .i64 3)).setCell ⟨xb, 2, none⟩ (.int .i64 5)).setCell ⟨xb, 3, none⟩ (.int .i64 0) := ⟨_, rfl⟩
      have o2 := set4 ho (.int .i64 1) (.int .i64 3) (.int .i64 5) (.int .i64 0)
      have k2 := keep4 hK HX.out (.int .i64 1) (.int .i64 3) (.int .i64 5) (.int .i64 0)
      have d2 : ((((wr.setCell ⟨xb, 0, none⟩ (.int .i64 1)).setCell ⟨xb, 1, none⟩ (.int .i64 3)).setCell ⟨xb, 2, none⟩ (.int .i64 5)).setCell ⟨xb, 3, none⟩ (.int .i64 0)).cell? ⟨xb, 2, none⟩ = some (.int .i64 5) := cell_of o2 2
      have HW := hid (And.intro k2 o2)
      have HTH := hid hthr
      clear k2 o2 hK ho hthr hW2
      by_cases hsz : size < 32
      · have hq : ((size : Int) / 32 == 0) = true := by simp; omega
        go_wp2_with fail
        obtain ⟨k2, o2⟩ := HW.out
        clear d2 HW c0 c1 c2 c3 f0 f1 f2 f3
        generalize (((wr.setCell ⟨xb, 0, none⟩ (.int .i64 1)).setCell ⟨xb, 1, none⟩ (.int .i64 3)).setCell ⟨xb, 2, none⟩ (.int .i64 5)).setCell ⟨xb, 3, none⟩ (.int .i64 0) = W2 at k2 o2 ⊢
        have c0 : W2.cell? ⟨xb, 0, none⟩ = some (.int .i64 1) := cell_of o2 0
        have f0 := frozen_of o2 0
        have c1 : W2.cell? ⟨xb, 1, none⟩ = some (.int .i64 3) := cell_of o2 1
        have f1 := frozen_of o2 1
        have c2 : W2.cell? ⟨xb, 2, none⟩ = some (.int .i64 5) := cell_of o2 2
        have f2 := frozen_of o2 2
        have c3 : W2.cell? ⟨xb, 3, none⟩ = some (.int .i64 0) := cell_of o2 3
        have f3 := frozen_of o2 3
        have o3 := set4 o2 (.int .i64 1) (.int .i64 3) (.int .i64 5) (.int .i64 0)
        have m0 : ((((W2.setCell ⟨xb, 0, none⟩ (.int .i64 1)).setCell ⟨xb, 1, none⟩ (.int .i64 3)).setCell ⟨xb, 2, none⟩ (.int .i64 5)).setCell ⟨xb, 3, none⟩ (.int .i64 0)).drew.cell? ⟨xb, 0, none⟩ = some (.int .i64 1) := cell_of o3 0
        have m1 : ((((W2.setCell ⟨xb, 0, none⟩ (.int .i64 1)).setCell ⟨xb, 1, none⟩ (.int .i64 3)).setCell ⟨xb, 2, none⟩ (.int .i64 5)).setCell ⟨xb, 3, none⟩ (.int .i64 0)).drew.cell? ⟨xb, 1, none⟩ = some (.int .i64 3) := cell_of o3 1
        have m2 : ((((W2.setCell ⟨xb, 0, none⟩ (.int .i64 1)).setCell ⟨xb, 1, none⟩ (.int .i64 3)).setCell ⟨xb, 2, none⟩ (.int .i64 5)).setCell ⟨xb, 3, none⟩ (.int .i64 0)).drew.cell? ⟨xb, 2, none⟩ = some (.int .i64 5) := cell_of o3 2
        have m3 : ((((W2.setCell ⟨xb, 0, none⟩ (.int .i64 1)).setCell ⟨xb, 1, none⟩ (.int .i64 3)).setCell ⟨xb, 2, none⟩ (.int .i64 5)).setCell ⟨xb, 3, none⟩ (.int .i64 0)).drew.cell? ⟨xb, 3, none⟩ = some (.int .i64 0) := cell_of o3 3
        have HW3 := hid (And.intro (keep4 k2 HX.out (.int .i64 1) (.int .i64 3) (.int .i64 5) (.int .i64 0)) o3)
        clear k2 o2 o3
        go_region_held3 (fun W => W.cell? ⟨xb, 0, none⟩ = some (.int .i64 1) ∧ W.cell? ⟨xb, 1, none⟩ = some (.int .i64 3) ∧ W.cell? ⟨xb, 2, none⟩ = some (.int .i64 5) ∧ W.cell? ⟨xb, 3, none⟩ = some (.int .i64 0)) (first | go_keep | exact m0 | exact m1 | exact m2 | exact m3) ((fail))
        clear m0 m1 m2 m3
        go_wp2_with fail
        refine bodyPost_ret (res4 rfl rfl (show ((((W2.setCell ⟨xb, 0, none⟩ (.int .i64 1)).setCell ⟨xb, 1, none⟩ (.int .i64 3)).setCell ⟨xb, 2, none⟩ (.int .i64 5)).setCell ⟨xb, 3, none⟩ (.int .i64 0)).drew.heap[xb]? = _ from HW3.out.2) rfl) rfl ⟨HW3.out.1.drew, ?_⟩
        have ew : whN k size = 0 := by have := HTH.out; unfold whN; rw [if_pos h2]; rw [if_pos (by omega)]
        rw [ew]
        unfold formV
        rw [show hbN k 0 = 1 from by unfold hbN; rw [if_pos h2]; rfl, show frN k 0 = 3 from by unfold frN; rw [if_pos ⟨h2, by decide⟩], show btN k 0 = 5 from by unfold btN; rw [if_pos h2]; rfl, show rwN k 0 = 0 from by unfold rwN; rw [if_pos h2]]
        rfl
      · have hq : ((size : Int) / 32 == 0) = false := by rw [beq_eq_false_iff_ne]; omega
        go_wp2_with fail
        refine ⟨⟨1, rfl, by omega, HW.out.1, ⟨_, _, _, _, HW.out.2⟩, by have := HTH.out; omega⟩, by decide⟩
    · rw [show ((1 : Nat) : Int) = (1 : Int) from rfl]
      have xj := idx01
      obtain ⟨W2, hW2⟩ : ∃ W2, W2 = (((wr.setCell ⟨xb, 0, none⟩ (.int .i64 2)).setCell ⟨xb, 1, none⟩ (.int .i64 4)).setCell ⟨xb, 2, none⟩ (.int .i64 12)).setCell ⟨xb, 3, none⟩ (.int .i64 0) := ⟨_, rfl⟩
      have o2 := set4 ho (.int .i64 2) (.int .i64 4) (.int .i64 12) (.int .i64 0)
      have k2 := keep4 hK HX.out (.int .i64 2) (.int .i64 4) (.int .i64 12) (.int .i64 0)
      have d2 : ((((wr.setCell ⟨xb, 0, none⟩ (.int .i64 2)).setCell ⟨xb, 1, none⟩ (.int .i64 4)).setCell ⟨xb, 2, none⟩ (.int .i64 12)).setCell ⟨xb, 3, none⟩ (.int .i64 0)).cell? ⟨xb, 2, none⟩ = some (.int .i64 12) := cell_of o2 2
      have HW := hid (And.intro k2 o2)
      have HTH := hid hthr
      clear k2 o2 hK ho hthr hW2
      by_cases hsz : size < 4096
      · have hq : ((size : Int) / 4096 == 0) = true := by simp; omega
        go_wp2_with fail
        obtain ⟨k2, o2⟩ := HW.out
        clear d2 HW c0 c1 c2 c3 f0 f1 f2 f3
        generalize (((wr.setCell ⟨xb, 0, none⟩ (.int .i64 2)).setCell ⟨xb, 1, none⟩ (.int .i64 4)).setCell ⟨xb, 2, none⟩ (.int .i64 12)).setCell ⟨xb, 3, none⟩ (.int .i64 0) = W2 at k2 o2 ⊢
        have c0 : W2.cell? ⟨xb, 0, none⟩ = some (.int .i64 2) := cell_of o2 0
        have f0 := frozen_of o2 0
        have c1 : W2.cell? ⟨xb, 1, none⟩ = some (.int .i64 4) := cell_of o2 1
        have f1 := frozen_of o2 1
        have c2 : W2.cell? ⟨xb, 2, none⟩ = some (.int .i64 12) := cell_of o2 2
        have f2 := frozen_of o2 2
        have c3 : W2.cell? ⟨xb, 3, none⟩ = some (.int .i64 0) := cell_of o2 3
        have f3 := frozen_of o2 3
        have o3 := set4 o2 (.int .i64 2) (.int .i64 4) (.int .i64 12) (.int .i64 0)
        have m0 : ((((W2.setCell ⟨xb, 0, none⟩ (.int .i64 2)).setCell ⟨xb, 1, none⟩ (.int .i64 4)).setCell ⟨xb, 2, none⟩ (.int .i64 12)).setCell ⟨xb, 3, none⟩ (.int .i64 0)).drew.cell? ⟨xb, 0, none⟩ = some (.int .i64 2) := cell_of o3 0
        have m1 : ((((W2.setCell ⟨xb, 0, none⟩ (.int .i64 2)).setCell ⟨xb, 1, none⟩ (.int .i64 4)).setCell ⟨xb, 2, none⟩ (.int .i64 12)).setCell ⟨xb, 3, none⟩ (.int .i64 0)).drew.cell? ⟨xb, 1, none⟩ = some (.int .i64 4) := cell_of o3 1
        have m2 : ((((W2.setCell ⟨xb, 0, none⟩ (.int .i64 2)).setCell ⟨xb, 1, none⟩ (.int .i64 4)).setCell ⟨xb, 2, none⟩ (.int .i64 12)).setCell ⟨xb, 3, none⟩ (.int .i64 0)).drew.cell? ⟨xb, 2, none⟩ = some (.int .i64 12) := cell_of o3 2
        have m3 : ((((W2.setCell ⟨xb, 0, none⟩ (.int .i64 2)).setCell ⟨xb, 1, none⟩ (.int .i64 4)).setCell ⟨xb, 2, none⟩ (.int .i64 12)).setCell ⟨xb, 3, none⟩ (.int .i64 0)).drew.cell? ⟨xb, 3, none⟩ = some (.int .i64 0) := cell_of o3 3
        have HW3 := hid (And.intro (keep4 k2 HX.out (.int .i64 2) (.int .i64 4) (.int .i64 12) (.int .i64 0)) o3)
        clear k2 o2 o3
        go_region_held3 (fun W => W.cell? ⟨xb, 0, none⟩ = some (.int .i64 2) ∧ W.cell? ⟨xb, 1, none⟩ = some (.int .i64 4) ∧ W.cell? ⟨xb, 2, none⟩ = some (.int .i64 12) ∧ W.cell? ⟨xb, 3, none⟩ = some (.int .i64 0)) (first | go_keep | exact m0 | exact m1 | exact m2 | exact m3) ((fail))
        clear m0 m1 m2 m3
        go_wp2_with fail
        refine bodyPost_ret (res4 rfl rfl (show ((((W2.setCell ⟨xb, 0, none⟩ (.int .i64 2)).setCell ⟨xb, 1, none⟩ (.int .i64 4)).setCell ⟨xb, 2, none⟩ (.int .i64 12)).setCell ⟨xb, 3, none⟩ (.int .i64 0)).drew.heap[xb]? = _ from HW3.out.2) rfl) rfl ⟨HW3.out.1.drew, ?_⟩
        have ew : whN k size = 1 := by have := HTH.out; unfold whN; rw [if_pos h2]; rw [if_neg (by omega), if_pos (by omega)]
        rw [ew]
        unfold formV
        rw [show hbN k 1 = 2 from by unfold hbN; rw [if_pos h2]; rfl, show frN k 1 = 4 from by unfold frN; rw [if_neg (by omega)], show btN k 1 = 12 from by unfold btN; rw [if_pos h2]; rfl, show rwN k 1 = 0 from by unfold rwN; rw [if_pos h2]]
        rfl
      · have hq : ((size : Int) / 4096 == 0) = false := by rw [beq_eq_false_iff_ne]; omega
        go_wp2_with fail
        refine ⟨⟨2, rfl, by omega, HW.out.1, ⟨_, _, _, _, HW.out.2⟩, by have := HTH.out; omega⟩, by decide⟩
    · rw [show ((2 : Nat) : Int) = (2 : Int) from rfl]
      have xj := idx02
      obtain ⟨W2, hW2⟩ : ∃ W2, W2 = (((wr.setCell ⟨xb, 0, none⟩ (.int .i64 1)).setCell ⟨xb, 1, none⟩ (.int .i64 3)).setCell ⟨xb, 2, none⟩ (.int .i64 5)).setCell ⟨xb, 3, none⟩ (.int .i64 0) := ⟨_, rfl⟩
      have o2 := set4 ho (.int .i64 1) (.int .i64 3) (.int .i64 5) (.int .i64 0)
      have k2 := keep4 hK HX.out (.int .i64 1) (.int .i64 3) (.int .i64 5) (.int .i64 0)
      have d2 : ((((wr.setCell ⟨xb, 0, none⟩ (.int .i64 1)).setCell ⟨xb, 1, none⟩ (.int .i64 3)).setCell ⟨xb, 2, none⟩ (.int .i64 5)).setCell ⟨xb, 3, none⟩ (.int .i64 0)).cell? ⟨xb, 2, none⟩ = some (.int .i64 5) := cell_of o2 2
      have HW := hid (And.intro k2 o2)
      have HTH := hid hthr
      clear k2 o2 hK ho hthr hW2
      have hsz : ¬ size < 32 := by have := HTH.out; omega
      have hq : ((size : Int) / 32 == 0) = false := by rw [beq_eq_false_iff_ne]; omega
      go_wp2_with fail
      refine ⟨⟨3, rfl, by omega, HW.out.1, ⟨_, _, _, _, HW.out.2⟩, by have := HTH.out; omega⟩, by decide⟩
    · rw [show ((3 : Nat) : Int) = (3 : Int) from rfl]
      have xj := idx03
      obtain ⟨W2, hW2⟩ : ∃ W2, W2 = (((wr.setCell ⟨xb, 0, none⟩ (.int .i64 3)).setCell ⟨xb, 1, none⟩ (.int .i64 4)).setCell ⟨xb, 2, none⟩ (.int .i64 20)).setCell ⟨xb, 3, none⟩ (.int .i64 0) := ⟨_, rfl⟩
      have o2 := set4 ho (.int .i64 3) (.int .i64 4) (.int .i64 20) (.int .i64 0)
      have k2 := keep4 hK HX.out (.int .i64 3) (.int .i64 4) (.int .i64 20) (.int .i64 0)
      have d2 : ((((wr.setCell ⟨xb, 0, none⟩ (.int .i64 3)).setCell ⟨xb, 1, none⟩ (.int .i64 4)).setCell ⟨xb, 2, none⟩ (.int .i64 20)).setCell ⟨xb, 3, none⟩ (.int .i64 0)).cell? ⟨xb, 2, none⟩ = some (.int .i64 20) := cell_of o2 2
      have HW := hid (And.intro k2 o2)
      have HTH := hid hthr
      clear k2 o2 hK ho hthr hW2
      have hsz : size < 1048576 := by omega
      have hq : ((size : Int) / 1048576 == 0) = true := by simp; omega
      go_wp2_with fail
      obtain ⟨k2, o2⟩ := HW.out
      clear d2 HW c0 c1 c2 c3 f0 f1 f2 f3
      generalize (((wr.setCell ⟨xb, 0, none⟩ (.int .i64 3)).setCell ⟨xb, 1, none⟩ (.int .i64 4)).setCell ⟨xb, 2, none⟩ (.int .i64 20)).setCell ⟨xb, 3, none⟩ (.int .i64 0) = W2 at k2 o2 ⊢
      have c0 : W2.cell? ⟨xb, 0, none⟩ = some (.int .i64 3) := cell_of o2 0
      have f0 := frozen_of o2 0
      have c1 : W2.cell? ⟨xb, 1, none⟩ = some (.int .i64 4) := cell_of o2 1
      have f1 := frozen_of o2 1
      have c2 : W2.cell? ⟨xb, 2, none⟩ = some (.int .i64 20) := cell_of o2 2
      have f2 := frozen_of o2 2
      have c3 : W2.cell? ⟨xb, 3, none⟩ = some (.int .i64 0) := cell_of o2 3
      have f3 := frozen_of o2 3
      have o3 := set4 o2 (.int .i64 3) (.int .i64 4) (.int .i64 20) (.int .i64 0)
      have m0 : ((((W2.setCell ⟨xb, 0, none⟩ (.int .i64 3)).setCell ⟨xb, 1, none⟩ (.int .i64 4)).setCell ⟨xb, 2, none⟩ (.int .i64 20)).setCell ⟨xb, 3, none⟩ (.int .i64 0)).drew.cell? ⟨xb, 0, none⟩ = some (.int .i64 3) := cell_of o3 0
      have m1 : ((((W2.setCell ⟨xb, 0, none⟩ (.int .i64 3)).setCell ⟨xb, 1, none⟩ (.int .i64 4)).setCell ⟨xb, 2, none⟩ (.int .i64 20)).setCell ⟨xb, 3, none⟩ (.int .i64 0)).drew.cell? ⟨xb, 1, none⟩ = some (.int .i64 4) := cell_of o3 1
      have m2 : ((((W2.setCell ⟨xb, 0, none⟩ (.int .i64 3)).setCell ⟨xb, 1, none⟩ (.int .i64 4)).setCell ⟨xb, 2, none⟩ (.int .i64 20)).setCell ⟨xb, 3, none⟩ (.int .i64 0)).drew.cell? ⟨xb, 2, none⟩ = some (.int .i64 20) := cell_of o3 2
      have m3 : ((((W2.setCell ⟨xb, 0, none⟩ (.int .i64 3)).setCell ⟨xb, 1, none⟩ (.int .i64 4)).setCell ⟨xb, 2, none⟩ (.int .i64 20)).setCell ⟨xb, 3, none⟩ (.int .i64 0)).drew.cell? ⟨xb, 3, none⟩ = some (.int .i64 0) := cell_of o3 3
      have HW3 := hid (And.intro (keep4 k2 HX.out (.int .i64 3) (.int .i64 4) (.int .i64 20) (.int .i64 0)) o3)
      clear k2 o2 o3
      go_region_held3 (fun W => W.cell? ⟨xb, 0, none⟩ = some (.int .i64 3) ∧ W.cell? ⟨xb, 1, none⟩ = some (.int .i64 4) ∧ W.cell? ⟨xb, 2, none⟩ = some (.int .i64 20) ∧ W.cell? ⟨xb, 3, none⟩ = some (.int .i64 0)) (first | go_keep | exact m0 | exact m1 | exact m2 | exact m3) ((fail))
      clear m0 m1 m2 m3
      go_wp2_with fail
      refine bodyPost_ret (res4 rfl rfl (show ((((W2.setCell ⟨xb, 0, none⟩ (.int .i64 3)).setCell ⟨xb, 1, none⟩ (.int .i64 4)).setCell ⟨xb, 2, none⟩ (.int .i64 20)).setCell ⟨xb, 3, none⟩ (.int .i64 0)).drew.heap[xb]? = _ from HW3.out.2) rfl) rfl ⟨HW3.out.1.drew, ?_⟩
      have ew : whN k size = 3 := by have := HTH.out; unfold whN; rw [if_pos h2]; rw [if_neg (by omega), if_neg (by omega)]
      rw [ew]
      unfold formV
      rw [show hbN k 3 = 3 from by unfold hbN; rw [if_pos h2]; rfl, show frN k 3 = 4 from by unfold frN; rw [if_neg (by omega)], show btN k 3 = 20 from by unfold btN; rw [if_pos h2]; rfl, show rwN k 3 = 0 from by unfold rwN; rw [if_pos h2]]
      rfl

set_option maxRecDepth 100000 in
set_option maxHeartbeats 8000000 in
theorem formFor_high (k size : Nat) (h2 : ¬ k < 2) (w : World) (hF : Frm w) (hk : k < 4) (hs : size ≤ 131072) :
    Calls Tryz.prog 26 #[.int .i64 (k : Int), .int .i64 (size : Int)] w fun e w' => Keep noBlock w w' ∧ e = .returned (.tuple #[.int .i64 ((whN k size : Nat) : Int), formV k (whN k size)]) := by
  have hF1 := hF.keep ((Keep.refl noBlock w).alloc (.cells #[.int .i64 0, .int .i64 0, .int .i64 0, .int .i64 0] 36))
  obtain ⟨a0, a1, a2, a3, b0, b1, b2, b3, c0, c1, c2, c3, d0, d1, d2, d3⟩ := frm1 hF1
  have e2 : (k : Int).tdiv 2 = 1 := by rcases (show k = 2 ∨ k = 3 by omega) with rfl | rfl <;> rfl
  have e3 : (k : Int) / 2 = 1 := by omega
  have e4 : k / 2 = 1 := by omega
  have hs0 : (0 : Int) ≤ (size : Int) := by omega
  have hsI : (size : Int) ≤ 131072 := by omega
  clear hF1
  go_enter Tryz.func26, Tryz.ntmps26
  go_wp2_with fail
  clear a0 a1 a2 a3 b0 b1 b2 b3 c0 c1 c2 c3 d0 d1 d2 d3 e2 e3 e4
  have o1 := World.alloc_heap_new w (.cells #[.int .i64 0, .int .i64 0, .int .i64 0, .int .i64 0] 36)
  have k1 := (Keep.refl noBlock w).alloc (.cells #[.int .i64 0, .int .i64 0, .int .i64 0, .int .i64 0] 36)
  obtain ⟨xb, hxb⟩ : ∃ xb, xb = w.heap.size := ⟨_, rfl⟩
  rw [← hxb] at o1 ⊢
  generalize w.alloc (.cells #[.int .i64 0, .int .i64 0, .int .i64 0, .int .i64 0] 36) = W1 at o1 k1 ⊢
  have HX := hid (show w.heap.size ≤ xb from by omega)
  have H1 := hid (show Keep noBlock w W1 ∧ ∃ u0 u1 u2 u3, W1.heap[xb]? = some (.cells #[u0, u1, u2, u3] 36 (0, 0)) from ⟨k1, _, _, _, _, o1⟩)
  clear o1 k1 hxb
  go_loopw [4, 10] (fun v4 v10 wr => ∃ j : Nat, v10 = .int .i64 (j : Int) ∧ j ≤ 3 ∧ Hid (Keep noBlock w wr ∧ (∃ u0 u1 u2 u3, wr.heap[xb]? = some (.cells #[u0, u1, u2, u3] 36 (0, 0))) ∧ (1 ≤ j → 1024 ≤ size) ∧ (3 ≤ j → 16384 ≤ size))) (fun _ v10 _ => 4 - (intOf v10).toNat)
  case atStart => exact ⟨0, rfl, by omega, H1.out.1, H1.out.2, by omega⟩
  case round =>
    obtain ⟨j, rfl, hj, HJ⟩ := hrel
    obtain ⟨hK, ⟨u0, u1, u2, u3, ho⟩, hthr⟩ := HJ.out
    have c0 : wr.cell? ⟨xb, 0, none⟩ = some u0 := cell_of ho 0
    have c1 : wr.cell? ⟨xb, 1, none⟩ = some u1 := cell_of ho 1
    have c2 : wr.cell? ⟨xb, 2, none⟩ = some u2 := cell_of ho 2
    have c3 : wr.cell? ⟨xb, 3, none⟩ = some u3 := cell_of ho 3
    have f0 := frozen_of ho 0
    have f1 := frozen_of ho 1
    have f2 := frozen_of ho 2
    have f3 := frozen_of ho 3
    rcases (show j = 0 ∨ j = 1 ∨ j = 2 ∨ j = 3 by omega) with rfl | rfl | rfl | rfl
    · rw [show ((0 : Nat) : Int) = (0 : Int) from rfl]
      have xj := idx10
      obtain ⟨W2, hW2⟩ : ∃ W2, W2 = (((wr.setCell ⟨xb, 0, none⟩ (.int .i64 3)).setCell ⟨xb, 1, none⟩ (.int .i64 4)).setCell ⟨xb, 2, none⟩ (.int .i64 10)).setCell ⟨xb, 3, none⟩ (.int .i64 1) := ⟨_, rfl⟩
      have o2 := set4 ho (.int .i64 3) (.int .i64 4) (.int .i64 10) (.int .i64 1)
      have k2 := keep4 hK HX.out (.int .i64 3) (.int .i64 4) (.int .i64 10) (.int .i64 1)
      have d2 : ((((wr.setCell ⟨xb, 0, none⟩ (.int .i64 3)).setCell ⟨xb, 1, none⟩ (.int .i64 4)).setCell ⟨xb, 2, none⟩ (.int .i64 10)).setCell ⟨xb, 3, none⟩ (.int .i64 1)).cell? ⟨xb, 2, none⟩ = some (.int .i64 10) := cell_of o2 2
      have HW := hid (And.intro k2 o2)
      have HTH := hid hthr
      clear k2 o2 hK ho hthr hW2
      by_cases hsz : size < 1024
      · have hq : ((size : Int) / 1024 == 0) = true := by simp; omega
        go_wp2_with fail
        obtain ⟨k2, o2⟩ := HW.out
        clear d2 HW c0 c1 c2 c3 f0 f1 f2 f3
        generalize (((wr.setCell ⟨xb, 0, none⟩ (.int .i64 3)).setCell ⟨xb, 1, none⟩ (.int .i64 4)).setCell ⟨xb, 2, none⟩ (.int .i64 10)).setCell ⟨xb, 3, none⟩ (.int .i64 1) = W2 at k2 o2 ⊢
        have c0 : W2.cell? ⟨xb, 0, none⟩ = some (.int .i64 3) := cell_of o2 0
        have f0 := frozen_of o2 0
        have c1 : W2.cell? ⟨xb, 1, none⟩ = some (.int .i64 4) := cell_of o2 1
        have f1 := frozen_of o2 1
        have c2 : W2.cell? ⟨xb, 2, none⟩ = some (.int .i64 10) := cell_of o2 2
        have f2 := frozen_of o2 2
        have c3 : W2.cell? ⟨xb, 3, none⟩ = some (.int .i64 1) := cell_of o2 3
        have f3 := frozen_of o2 3
        have o3 := set4 o2 (.int .i64 3) (.int .i64 4) (.int .i64 10) (.int .i64 1)
        have m0 : ((((W2.setCell ⟨xb, 0, none⟩ (.int .i64 3)).setCell ⟨xb, 1, none⟩ (.int .i64 4)).setCell ⟨xb, 2, none⟩ (.int .i64 10)).setCell ⟨xb, 3, none⟩ (.int .i64 1)).drew.cell? ⟨xb, 0, none⟩ = some (.int .i64 3) := cell_of o3 0
        have m1 : ((((W2.setCell ⟨xb, 0, none⟩ (.int .i64 3)).setCell ⟨xb, 1, none⟩ (.int .i64 4)).setCell ⟨xb, 2, none⟩ (.int .i64 10)).setCell ⟨xb, 3, none⟩ (.int .i64 1)).drew.cell? ⟨xb, 1, none⟩ = some (.int .i64 4) := cell_of o3 1
        have m2 : ((((W2.setCell ⟨xb, 0, none⟩ (.int .i64 3)).setCell ⟨xb, 1, none⟩ (.int .i64 4)).setCell ⟨xb, 2, none⟩ (.int .i64 10)).setCell ⟨xb, 3, none⟩ (.int .i64 1)).drew.cell? ⟨xb, 2, none⟩ = some (.int .i64 10) := cell_of o3 2
        have m3 : ((((W2.setCell ⟨xb, 0, none⟩ (.int .i64 3)).setCell ⟨xb, 1, none⟩ (.int .i64 4)).setCell ⟨xb, 2, none⟩ (.int .i64 10)).setCell ⟨xb, 3, none⟩ (.int .i64 1)).drew.cell? ⟨xb, 3, none⟩ = some (.int .i64 1) := cell_of o3 3
        have HW3 := hid (And.intro (keep4 k2 HX.out (.int .i64 3) (.int .i64 4) (.int .i64 10) (.int .i64 1)) o3)
        clear k2 o2 o3
        go_region_held3 (fun W => W.cell? ⟨xb, 0, none⟩ = some (.int .i64 3) ∧ W.cell? ⟨xb, 1, none⟩ = some (.int .i64 4) ∧ W.cell? ⟨xb, 2, none⟩ = some (.int .i64 10) ∧ W.cell? ⟨xb, 3, none⟩ = some (.int .i64 1)) (first | go_keep | exact m0 | exact m1 | exact m2 | exact m3) ((fail))
        clear m0 m1 m2 m3
        go_wp2_with fail
        refine bodyPost_ret (res4 rfl rfl (show ((((W2.setCell ⟨xb, 0, none⟩ (.int .i64 3)).setCell ⟨xb, 1, none⟩ (.int .i64 4)).setCell ⟨xb, 2, none⟩ (.int .i64 10)).setCell ⟨xb, 3, none⟩ (.int .i64 1)).drew.heap[xb]? = _ from HW3.out.2) rfl) rfl ⟨HW3.out.1.drew, ?_⟩
        have ew : whN k size = 0 := by have := HTH.out; unfold whN; rw [if_neg h2]; rw [if_pos (by omega)]
        rw [ew]
        unfold formV
        rw [show hbN k 0 = 3 from by unfold hbN; rw [if_neg h2]; rfl, show frN k 0 = 4 from by unfold frN; rw [if_neg (by omega)], show btN k 0 = 10 from by unfold btN; rw [if_neg h2]; rfl, show rwN k 0 = 1 from by unfold rwN; rw [if_neg h2]; rfl]
        rfl
      · have hq : ((size : Int) / 1024 == 0) = false := by rw [beq_eq_false_iff_ne]; omega
        go_wp2_with fail
        refine ⟨⟨1, rfl, by omega, HW.out.1, ⟨_, _, _, _, HW.out.2⟩, by have := HTH.out; omega⟩, by decide⟩
    · rw [show ((1 : Nat) : Int) = (1 : Int) from rfl]
      have xj := idx11
      obtain ⟨W2, hW2⟩ : ∃ W2, W2 = (((wr.setCell ⟨xb, 0, none⟩ (.int .i64 3)).setCell ⟨xb, 1, none⟩ (.int .i64 4)).setCell ⟨xb, 2, none⟩ (.int .i64 10)).setCell ⟨xb, 3, none⟩ (.int .i64 4) := ⟨_, rfl⟩
      have o2 := set4 ho (.int .i64 3) (.int .i64 4) (.int .i64 10) (.int .i64 4)
      have k2 := keep4 hK HX.out (.int .i64 3) (.int .i64 4) (.int .i64 10) (.int .i64 4)
      have d2 : ((((wr.setCell ⟨xb, 0, none⟩ (.int .i64 3)).setCell ⟨xb, 1, none⟩ (.int .i64 4)).setCell ⟨xb, 2, none⟩ (.int .i64 10)).setCell ⟨xb, 3, none⟩ (.int .i64 4)).cell? ⟨xb, 2, none⟩ = some (.int .i64 10) := cell_of o2 2
      have HW := hid (And.intro k2 o2)
      have HTH := hid hthr
      clear k2 o2 hK ho hthr hW2
      have hsz : ¬ size < 1024 := by have := HTH.out; omega
      have hq : ((size : Int) / 1024 == 0) = false := by rw [beq_eq_false_iff_ne]; omega
      go_wp2_with fail
      refine ⟨⟨2, rfl, by omega, HW.out.1, ⟨_, _, _, _, HW.out.2⟩, by have := HTH.out; omega⟩, by decide⟩
    · rw [show ((2 : Nat) : Int) = (2 : Int) from rfl]
      have xj := idx12
      obtain ⟨W2, hW2⟩ : ∃ W2, W2 = (((wr.setCell ⟨xb, 0, none⟩ (.int .i64 4)).setCell ⟨xb, 1, none⟩ (.int .i64 4)).setCell ⟨xb, 2, none⟩ (.int .i64 14)).setCell ⟨xb, 3, none⟩ (.int .i64 4) := ⟨_, rfl⟩
      have o2 := set4 ho (.int .i64 4) (.int .i64 4) (.int .i64 14) (.int .i64 4)
      have k2 := keep4 hK HX.out (.int .i64 4) (.int .i64 4) (.int .i64 14) (.int .i64 4)
      have d2 : ((((wr.setCell ⟨xb, 0, none⟩ (.int .i64 4)).setCell ⟨xb, 1, none⟩ (.int .i64 4)).setCell ⟨xb, 2, none⟩ (.int .i64 14)).setCell ⟨xb, 3, none⟩ (.int .i64 4)).cell? ⟨xb, 2, none⟩ = some (.int .i64 14) := cell_of o2 2
      have HW := hid (And.intro k2 o2)
      have HTH := hid hthr
      clear k2 o2 hK ho hthr hW2
      by_cases hsz : size < 16384
      · have hq : ((size : Int) / 16384 == 0) = true := by simp; omega
        go_wp2_with fail
        obtain ⟨k2, o2⟩ := HW.out
        clear d2 HW c0 c1 c2 c3 f0 f1 f2 f3
        generalize (((wr.setCell ⟨xb, 0, none⟩ (.int .i64 4)).setCell ⟨xb, 1, none⟩ (.int .i64 4)).setCell ⟨xb, 2, none⟩ (.int .i64 14)).setCell ⟨xb, 3, none⟩ (.int .i64 4) = W2 at k2 o2 ⊢
        have c0 : W2.cell? ⟨xb, 0, none⟩ = some (.int .i64 4) := cell_of o2 0
        have f0 := frozen_of o2 0
        have c1 : W2.cell? ⟨xb, 1, none⟩ = some (.int .i64 4) := cell_of o2 1
        have f1 := frozen_of o2 1
        have c2 : W2.cell? ⟨xb, 2, none⟩ = some (.int .i64 14) := cell_of o2 2
        have f2 := frozen_of o2 2
        have c3 : W2.cell? ⟨xb, 3, none⟩ = some (.int .i64 4) := cell_of o2 3
        have f3 := frozen_of o2 3
        have o3 := set4 o2 (.int .i64 4) (.int .i64 4) (.int .i64 14) (.int .i64 4)
        have m0 : ((((W2.setCell ⟨xb, 0, none⟩ (.int .i64 4)).setCell ⟨xb, 1, none⟩ (.int .i64 4)).setCell ⟨xb, 2, none⟩ (.int .i64 14)).setCell ⟨xb, 3, none⟩ (.int .i64 4)).drew.cell? ⟨xb, 0, none⟩ = some (.int .i64 4) := cell_of o3 0
        have m1 : ((((W2.setCell ⟨xb, 0, none⟩ (.int .i64 4)).setCell ⟨xb, 1, none⟩ (.int .i64 4)).setCell ⟨xb, 2, none⟩ (.int .i64 14)).setCell ⟨xb, 3, none⟩ (.int .i64 4)).drew.cell? ⟨xb, 1, none⟩ = some (.int .i64 4) := cell_of o3 1
        have m2 : ((((W2.setCell ⟨xb, 0, none⟩ (.int .i64 4)).setCell ⟨xb, 1, none⟩ (.int .i64 4)).setCell ⟨xb, 2, none⟩ (.int .i64 14)).setCell ⟨xb, 3, none⟩ (.int .i64 4)).drew.cell? ⟨xb, 2, none⟩ = some (.int .i64 14) := cell_of o3 2
        have m3 : ((((W2.setCell ⟨xb, 0, none⟩ (.int .i64 4)).setCell ⟨xb, 1, none⟩ (.int .i64 4)).setCell ⟨xb, 2, none⟩ (.int .i64 14)).setCell ⟨xb, 3, none⟩ (.int .i64 4)).drew.cell? ⟨xb, 3, none⟩ = some (.int .i64 4) := cell_of o3 3
        have HW3 := hid (And.intro (keep4 k2 HX.out (.int .i64 4) (.int .i64 4) (.int .i64 14) (.int .i64 4)) o3)
        clear k2 o2 o3
        go_region_held3 (fun W => W.cell? ⟨xb, 0, none⟩ = some (.int .i64 4) ∧ W.cell? ⟨xb, 1, none⟩ = some (.int .i64 4) ∧ W.cell? ⟨xb, 2, none⟩ = some (.int .i64 14) ∧ W.cell? ⟨xb, 3, none⟩ = some (.int .i64 4)) (first | go_keep | exact m0 | exact m1 | exact m2 | exact m3) ((fail))
        clear m0 m1 m2 m3
        go_wp2_with fail
        refine bodyPost_ret (res4 rfl rfl (show ((((W2.setCell ⟨xb, 0, none⟩ (.int .i64 4)).setCell ⟨xb, 1, none⟩ (.int .i64 4)).setCell ⟨xb, 2, none⟩ (.int .i64 14)).setCell ⟨xb, 3, none⟩ (.int .i64 4)).drew.heap[xb]? = _ from HW3.out.2) rfl) rfl ⟨HW3.out.1.drew, ?_⟩
        have ew : whN k size = 2 := by have := HTH.out; unfold whN; rw [if_neg h2]; rw [if_neg (by omega), if_pos (by omega)]
        rw [ew]
        unfold formV
        rw [show hbN k 2 = 4 from by unfold hbN; rw [if_neg h2]; rfl, show frN k 2 = 4 from by unfold frN; rw [if_neg (by omega)], show btN k 2 = 14 from by unfold btN; rw [if_neg h2]; rfl, show rwN k 2 = 4 from by unfold rwN; rw [if_neg h2]; rfl]
        rfl
      · have hq : ((size : Int) / 16384 == 0) = false := by rw [beq_eq_false_iff_ne]; omega
        go_wp2_with fail
        refine ⟨⟨3, rfl, by omega, HW.out.1, ⟨_, _, _, _, HW.out.2⟩, by have := HTH.out; omega⟩, by decide⟩
    · rw [show ((3 : Nat) : Int) = (3 : Int) from rfl]
      have xj := idx13
      obtain ⟨W2, hW2⟩ : ∃ W2, W2 = (((wr.setCell ⟨xb, 0, none⟩ (.int .i64 5)).setCell ⟨xb, 1, none⟩ (.int .i64 4)).setCell ⟨xb, 2, none⟩ (.int .i64 18)).setCell ⟨xb, 3, none⟩ (.int .i64 4) := ⟨_, rfl⟩
      have o2 := set4 ho (.int .i64 5) (.int .i64 4) (.int .i64 18) (.int .i64 4)
      have k2 := keep4 hK HX.out (.int .i64 5) (.int .i64 4) (.int .i64 18) (.int .i64 4)
      have d2 : ((((wr.setCell ⟨xb, 0, none⟩ (.int .i64 5)).setCell ⟨xb, 1, none⟩ (.int .i64 4)).setCell ⟨xb, 2, none⟩ (.int .i64 18)).setCell ⟨xb, 3, none⟩ (.int .i64 4)).cell? ⟨xb, 2, none⟩ = some (.int .i64 18) := cell_of o2 2
      have HW := hid (And.intro k2 o2)
      have HTH := hid hthr
      clear k2 o2 hK ho hthr hW2
      have hsz : size < 262144 := by omega
      have hq : ((size : Int) / 262144 == 0) = true := by simp; omega
      go_wp2_with fail
      obtain ⟨k2, o2⟩ := HW.out
      clear d2 HW c0 c1 c2 c3 f0 f1 f2 f3
      generalize (((wr.setCell ⟨xb, 0, none⟩ (.int .i64 5)).setCell ⟨xb, 1, none⟩ (.int .i64 4)).setCell ⟨xb, 2, none⟩ (.int .i64 18)).setCell ⟨xb, 3, none⟩ (.int .i64 4) = W2 at k2 o2 ⊢
      have c0 : W2.cell? ⟨xb, 0, none⟩ = some (.int .i64 5) := cell_of o2 0
      have f0 := frozen_of o2 0
      have c1 : W2.cell? ⟨xb, 1, none⟩ = some (.int .i64 4) := cell_of o2 1
      have f1 := frozen_of o2 1
      have c2 : W2.cell? ⟨xb, 2, none⟩ = some (.int .i64 18) := cell_of o2 2
      have f2 := frozen_of o2 2
      have c3 : W2.cell? ⟨xb, 3, none⟩ = some (.int .i64 4) := cell_of o2 3
      have f3 := frozen_of o2 3
      have o3 := set4 o2 (.int .i64 5) (.int .i64 4) (.int .i64 18) (.int .i64 4)
      have m0 : ((((W2.setCell ⟨xb, 0, none⟩ (.int .i64 5)).setCell ⟨xb, 1, none⟩ (.int .i64 4)).setCell ⟨xb, 2, none⟩ (.int .i64 18)).setCell ⟨xb, 3, none⟩ (.int .i64 4)).drew.cell? ⟨xb, 0, none⟩ = some (.int .i64 5) := cell_of o3 0
      have m1 : ((((W2.setCell ⟨xb, 0, none⟩ (.int .i64 5)).setCell ⟨xb, 1, none⟩ (.int .i64 4)).setCell ⟨xb, 2, none⟩ (.int .i64 18)).setCell ⟨xb, 3, none⟩ (.int .i64 4)).drew.cell? ⟨xb, 1, none⟩ = some (.int .i64 4) := cell_of o3 1
      have m2 : ((((W2.setCell ⟨xb, 0, none⟩ (.int .i64 5)).setCell ⟨xb, 1, none⟩ (.int .i64 4)).setCell ⟨xb, 2, none⟩ (.int .i64 18)).setCell ⟨xb, 3, none⟩ (.int .i64 4)).drew.cell? ⟨xb, 2, none⟩ = some (.int .i64 18) := cell_of o3 2
      have m3 : ((((W2.setCell ⟨xb, 0, none⟩ (.int .i64 5)).setCell ⟨xb, 1, none⟩ (.int .i64 4)).setCell ⟨xb, 2, none⟩ (.int .i64 18)).setCell ⟨xb, 3, none⟩ (.int .i64 4)).drew.cell? ⟨xb, 3, none⟩ = some (.int .i64 4) := cell_of o3 3
      have HW3 := hid (And.intro (keep4 k2 HX.out (.int .i64 5) (.int .i64 4) (.int .i64 18) (.int .i64 4)) o3)
      clear k2 o2 o3
      go_region_held3 (fun W => W.cell? ⟨xb, 0, none⟩ = some (.int .i64 5) ∧ W.cell? ⟨xb, 1, none⟩ = some (.int .i64 4) ∧ W.cell? ⟨xb, 2, none⟩ = some (.int .i64 18) ∧ W.cell? ⟨xb, 3, none⟩ = some (.int .i64 4)) (first | go_keep | exact m0 | exact m1 | exact m2 | exact m3) ((fail))
      clear m0 m1 m2 m3
      go_wp2_with fail
      refine bodyPost_ret (res4 rfl rfl (show ((((W2.setCell ⟨xb, 0, none⟩ (.int .i64 5)).setCell ⟨xb, 1, none⟩ (.int .i64 4)).setCell ⟨xb, 2, none⟩ (.int .i64 18)).setCell ⟨xb, 3, none⟩ (.int .i64 4)).drew.heap[xb]? = _ from HW3.out.2) rfl) rfl ⟨HW3.out.1.drew, ?_⟩
      have ew : whN k size = 3 := by have := HTH.out; unfold whN; rw [if_neg h2]; rw [if_neg (by omega), if_neg (by omega)]
      rw [ew]
      unfold formV
      rw [show hbN k 3 = 5 from by unfold hbN; rw [if_neg h2]; rfl, show frN k 3 = 4 from by unfold frN; rw [if_neg (by omega)], show btN k 3 = 18 from by unfold btN; rw [if_neg h2]; rfl, show rwN k 3 = 4 from by unfold rwN; rw [if_neg h2]; rfl]
      rfl

theorem formFor_any (k size : Nat) (w : World) (hF : Frm w) (hk : k < 4) (hs : size ≤ 131072) :
    Calls Tryz.prog 26 #[.int .i64 (k : Int), .int .i64 (size : Int)] w fun e w' => Keep noBlock w w' ∧ e = .returned (.tuple #[.int .i64 ((whN k size : Nat) : Int), formV k (whN k size)]) := by
  by_cases h2 : k < 2
  · exact formFor_low k size h2 w hF hk hs
  · exact formFor_high k size h2 w hF hk hs
end Go.Proofs.YtcoahkmiebeeeaaGreatDoor

namespace Go.Proofs.YtcoahkmiebeeeaaGreatDoor
open Go.RowKit Go.Shelf
set_option linter.unusedVariables false

def pieceN (l : List Nat) (each k : Nat) : List Nat := (l.drop (each * k)).take each
def tailN (ws l : List Nat) (each k : Nat) : List Nat := packV ws (pieceN l each k)
def twoN (n : Nat) : List Nat := [n % 256, n / 256 % 256]
def okN (ws l : List Nat) (each : Nat) : Nat → Bool
  | 0 => true
  | j + 1 => okN ws l each j && decide (packC ws (pieceN l each j) = 0)
def lensN (ws l : List Nat) (each n : Nat) : Nat → List Nat
  | 0 => []
  | j + 1 => lensN ws l each n j ++ (if j + 1 < n then twoN (tailN ws l each j).length else [])
def tailsN (ws l : List Nat) (each : Nat) : Nat → List Nat
  | 0 => []
  | j + 1 => tailsN ws l each j ++ tailN ws l each j
def bodyP (ws l : List Nat) (n : Nat) : List Nat := lensN ws l (eachN l.length n) n n ++ tailsN ws l (eachN l.length n) n
def packP (ws l : List Nat) (n : Nat) : Option (List Nat) := if okN ws l (eachN l.length n) n then some (bodyP ws l n) else none

theorem packC_code {ws bs : List Nat} (h : packC ws bs = 0) : codeB ws = true ∧ packOk ws bs = true ∧ bs.length ≤ 131072 := by
  unfold packC at h
  split at h
  · rename_i hc
    split at h
    · omega
    · split at h
      · rename_i hl hp; exact ⟨hc, hp, by omega⟩
      · omega
  · omega
theorem unp_of_pack {ws bs : List Nat} (h : packC ws bs = 0) : unpC ws (packV ws bs) (bs.length : Int) = 0 ∧ unpV ws (packV ws bs) (bs.length : Int) = bs := by
  obtain ⟨hc, hp, hl⟩ := packC_code h
  have hI := codeM_is hc
  have hV : packV ws bs = pack (packL ws (codeM ws) bs ++ [1]) := by unfold packV; rw [if_pos h]
  have hu : unpC ws (packV ws bs) (bs.length : Int) = 0 := by
    unfold unpC
    rw [if_pos hc, if_pos ⟨by omega, by omega⟩, Int.toNat_natCast, hV, unp_pack hI bs hp]
    rfl
  refine ⟨hu, ?_⟩
  unfold unpV
  rw [if_pos hu, Int.toNat_natCast, hV]
  exact pack_text hI bs hp
theorem packV_len (ws bs : List Nat) : 8 * (packV ws bs).length ≤ 12 * bs.length + 8 := by
  unfold packV
  split
  · rename_i h
    obtain ⟨hc, -, -⟩ := packC_code h
    have hm := (codeM_is hc).m11
    have h1 := packL_len ws (codeM ws) bs
    have h2 : (codeM ws + 1) * bs.length ≤ 12 * bs.length := Nat.mul_le_mul_right _ (by omega)
    rw [pack_length, List.length_append, List.length_singleton]
    omega
  · simp
theorem pieceN_len (l : List Nat) (each k : Nat) : (pieceN l each k).length = min each (l.length - each * k) := by unfold pieceN; rw [List.length_take, List.length_drop]
theorem okN_all {ws l : List Nat} {each n : Nat} (h : okN ws l each n = true) (j : Nat) (hj : j < n) : packC ws (pieceN l each j) = 0 := by
  induction n with
  | zero => omega
  | succ n ih =>
    unfold okN at h
    rw [Bool.and_eq_true, decide_eq_true_eq] at h
    by_cases e : j = n
    · subst e; exact h.2
    · exact ih h.1 (by omega)
theorem unpL_one' (ws bs : List Nat) (size : Nat) : unpL ws bs size 1 = if unpC ws bs (size : Int) = 0 then some (unpV ws bs (size : Int)) else none := by
  unfold unpL cutL
  rw [if_neg (by simp)]
  simp only [Nat.sub_self, Nat.mul_zero, fitN, if_true, Option.bind_some, unpR, rowsN, List.range_zero, List.map_nil, List.nil_append, restN, Nat.sub_zero, List.drop_zero, List.all_cons, List.all_nil, Bool.and_true, decide_eq_true_eq, List.flatMap_cons, List.flatMap_nil, List.append_nil]
theorem back_one {ws l b : List Nat} (h : packP ws l 1 = some b) : unpL ws b l.length 1 = some l := by
  unfold packP at h
  split at h
  · rename_i hok
    cases h
    have he : eachN l.length 1 = l.length := by unfold eachN; simp
    have hp : pieceN l l.length 0 = l := by unfold pieceN; simp
    have hb : bodyP ws l 1 = packV ws l := by
      unfold bodyP
      rw [he]
      simp [lensN, tailsN, tailN, hp]
    have h0 := okN_all hok 0 (by omega)
    rw [he, hp] at h0
    obtain ⟨h1, h2⟩ := unp_of_pack h0
    rw [hb, unpL_one', if_pos h1, h2]
  · cases h
theorem pieces_four (l : List Nat) (e : Nat) (h : l.length ≤ e * 4) : pieceN l e 0 ++ (pieceN l e 1 ++ (pieceN l e 2 ++ pieceN l e 3)) = l := by
  unfold pieceN
  have h3 : (l.drop (e * 3)).take e = l.drop (e * 3) := List.take_of_length_le (by rw [List.length_drop]; omega)
  rw [h3]
  have s2 : (l.drop (e * 2)).take e ++ l.drop (e * 3) = l.drop (e * 2) := by
    have := List.take_append_drop e (l.drop (e * 2))
    rwa [List.drop_drop, show e * 2 + e = e * 3 from by omega] at this
  have s1 : (l.drop (e * 1)).take e ++ l.drop (e * 2) = l.drop (e * 1) := by
    have := List.take_append_drop e (l.drop (e * 1))
    rwa [List.drop_drop, show e * 1 + e = e * 2 from by omega] at this
  have s0 : (l.drop (e * 0)).take e ++ l.drop (e * 1) = l := by
    simp
  rw [s2, s1, s0]
theorem back_four {ws l b : List Nat} (hl : 16 ≤ l.length) (hl2 : l.length ≤ 131072) (h : packP ws l 4 = some b) : unpL ws b l.length 4 = some l := by
  unfold packP at h
  split at h
  · rename_i hok
    cases h
    obtain ⟨e, he⟩ : ∃ e, e = eachN l.length 4 := ⟨_, rfl⟩
    have he4 : e = (l.length + 3) / 4 := he
    unfold bodyP
    rw [← he] at hok ⊢
    have p0 := okN_all hok 0 (by omega)
    have p1 := okN_all hok 1 (by omega)
    have p2 := okN_all hok 2 (by omega)
    have p3 := okN_all hok 3 (by omega)
    obtain ⟨a0, b0⟩ := unp_of_pack p0
    obtain ⟨a1, b1⟩ := unp_of_pack p1
    obtain ⟨a2, b2⟩ := unp_of_pack p2
    obtain ⟨a3, b3⟩ := unp_of_pack p3
    have l0 : (pieceN l e 0).length = e := by rw [pieceN_len]; omega
    have l1 : (pieceN l e 1).length = e := by rw [pieceN_len]; omega
    have l2 : (pieceN l e 2).length = e := by rw [pieceN_len]; omega
    have l3 : (pieceN l e 3).length = l.length - e * 3 := by rw [pieceN_len]; omega
    rw [l0] at a0 b0
    rw [l1] at a1 b1
    rw [l2] at a2 b2
    rw [l3] at a3 b3
    have t0 := packV_len ws (pieceN l e 0)
    have t1 := packV_len ws (pieceN l e 1)
    have t2 := packV_len ws (pieceN l e 2)
    rw [l0] at t0
    rw [l1] at t1
    rw [l2] at t2
    have hcat := pieces_four l e (by omega)
    have eB : lensN ws l e 4 4 ++ tailsN ws l e 4 = twoN (tailN ws l e 0).length ++ (twoN (tailN ws l e 1).length ++ (twoN (tailN ws l e 2).length ++ (tailN ws l e 0 ++ (tailN ws l e 1 ++ (tailN ws l e 2 ++ tailN ws l e 3))))) := by
      simp [lensN, tailsN]
    rw [eB]
    have u0 : tailN ws l e 0 = packV ws (pieceN l e 0) := rfl
    have u1 : tailN ws l e 1 = packV ws (pieceN l e 1) := rfl
    have u2 : tailN ws l e 2 = packV ws (pieceN l e 2) := rfl
    have u3 : tailN ws l e 3 = packV ws (pieceN l e 3) := rfl
    rw [← u0] at a0 b0 t0
    rw [← u1] at a1 b1 t1
    rw [← u2] at a2 b2 t2
    rw [← u3] at a3 b3
    generalize tailN ws l e 0 = T0 at *
    generalize tailN ws l e 1 = T1 at *
    generalize tailN ws l e 2 = T2 at *
    generalize tailN ws l e 3 = T3 at *
    obtain ⟨B, hB⟩ : ∃ B, B = twoN T0.length ++ (twoN T1.length ++ (twoN T2.length ++ (T0 ++ (T1 ++ (T2 ++ T3))))) := ⟨_, rfl⟩
    rw [← hB]
    have d6 : B.drop 6 = T0 ++ (T1 ++ (T2 ++ T3)) := by rw [hB]; simp [twoN]
    have x0 : lenAt B 0 = T0.length := by rw [hB]; unfold lenAt; simp [twoN]; omega
    have x1 : lenAt B 1 = T1.length := by rw [hB]; unfold lenAt; simp [twoN]; omega
    have x2 : lenAt B 2 = T2.length := by rw [hB]; unfold lenAt; simp [twoN]; omega
    have hlB : 6 ≤ B.length := by rw [hB]; simp [twoN]
    have r0 : restN B (B.drop 6) 0 = T0 ++ (T1 ++ (T2 ++ T3)) := d6
    have r1 : restN B (B.drop 6) 1 = T1 ++ (T2 ++ T3) := by show (restN B (B.drop 6) 0).drop (lenAt B 0) = _; rw [r0, x0, List.drop_left]
    have r2 : restN B (B.drop 6) 2 = T2 ++ T3 := by show (restN B (B.drop 6) 1).drop (lenAt B 1) = _; rw [r1, x1, List.drop_left]
    have r3 : restN B (B.drop 6) 3 = T3 := by show (restN B (B.drop 6) 2).drop (lenAt B 2) = _; rw [r2, x2, List.drop_left]
    have hfit : fitN B (B.drop 6) 3 = true := by
      unfold fitN fitN fitN fitN
      rw [r0, r1, r2, x0, x1, x2]
      simp
    have hrows : rowsN B (B.drop 6) l.length 4 = [(T0, e), (T1, e), (T2, e), (T3, l.length - e * 3)] := by
      unfold rowsN
      rw [← he]
      simp only [show List.range (4 - 1) = [0, 1, 2] from rfl, List.map_cons, List.map_nil, rowN, r0, r1, r2, r3, x0, x1, x2, List.take_left, List.cons_append, List.nil_append]
    unfold unpL cutL
    rw [if_neg (by rw [← he]; omega), if_pos hfit]
    show unpR ws (rowsN B (B.drop 6) l.length 4) = some l
    rw [hrows]
    unfold unpR
    rw [if_pos (by simp only [List.all_cons, List.all_nil, Bool.and_true, Bool.and_eq_true, decide_eq_true_eq]; exact ⟨a0, a1, a2, a3⟩)]
    simp only [List.flatMap_cons, List.flatMap_nil, List.append_nil]
    rw [b0, b1, b2, b3, hcat]
  · cases h
end Go.Proofs.YtcoahkmiebeeeaaGreatDoor

namespace Go.Proofs.YtcoahkmiebeeeaaGreatDoor
open Go.RowKit Go.Shelf
set_option linter.unusedVariables false
attribute [local go_sem] Oper.semAt_some

def PackPostN (ws : List Nat) (m : Nat) (bs : List Nat) (w : World) (e : Ending) (w' : World) : Prop :=
  Keep noBlock w w' ∧ ((packOk ws bs = true ∧ ∃ v, e = .returned (.tuple #[v, .int .i64 0]) ∧ w'.ownsRow 0 5 1 v (pack (packL ws m bs ++ [1])).length (u8s (pack (packL ws m bs ++ [1]))) ∧ ∀ k, v.ownBlock = some k → w.heap.size ≤ k) ∨ (packOk ws bs = false ∧ e = .returned (.tuple #[.slice none 0 0, .int .i64 2])))

set_option maxRecDepth 100000 in
set_option maxHeartbeats 4000000 in
theorem pack_anyN (a : Option Addr) (cap gb off : Nat) (ws : List Nat) (m : Nat) (a2 : Option Addr) (cap2 gb2 off2 : Nat) (bs : List Nat) (w : World) (hB : Bytes w a cap gb off ws) (hB2 : Bytes w a2 cap2 gb2 off2 bs) (hc : IsCode ws m) (hl : bs.length ≤ 131072) :
    Calls Tryz.prog 28 #[.slice a ws.length cap, .slice a2 bs.length cap2] w fun e w' => PackPostN ws m bs w e w' := by
  have HM := (show Hid (∀ W, Keep noBlock w W → Calls Tryz.prog 40 #[.slice a ws.length cap] W fun e w' => e = .returned (.tuple #[.int .i64 (m : Int), .bool true]) ∧ w' = W) from fun W hk => by
    refine (makeCode_any a cap gb off ws W (hB.keep hk (fun _ h => h))).mono ?_
    rintro e w' ⟨l, rfl, h, rfl⟩
    rw [hc.codeB.1] at h ⊢
    rw [h rfl, hc.codeM]
    exact ⟨rfl, rfl⟩)
  have HH := (show Hid (Bytes w a cap gb off ws ∧ Bytes w a2 cap2 gb2 off2 bs ∧ IsCode ws m) from ⟨hB, hB2, hc⟩)
  obtain ⟨n, hn⟩ : ∃ n, n = bs.length := ⟨_, rfl⟩
  have HN := (show Hid (n = bs.length) from hn)
  obtain ⟨k, hk⟩ : ∃ k, k = ws.length := ⟨_, rfl⟩
  have HK := (show Hid (k = ws.length) from hk)
  rw [← hn] at hl ⊢
  rw [← hk] at HM ⊢
  have hlI : ¬ (131072 : Int) < (n : Int) := by omega
  have hlI2 : (n : Int) ≤ 131072 := by omega
  have hm11 := hc.m11
  clear hB hB2 hc hn hk
  refine (callsIn_wide (n := 6)).1 ?_
  refine callsIn_of_wp_marks Tryz.func28 rfl trivial ?_ rfl
  simp only [Tryz.ntmps28, List.size_toArray, List.length_cons, List.length_nil, Nat.reduceAdd, Nat.reduceSub, Array.replicate_succ, Array.replicate_zero, List.push_toArray, List.append_toArray, List.nil_append, List.cons_append]
  gi_wp2_with (first | (refine ⟨trivial, ?_⟩; gi_at_call 40; refine (callsIn_wide.2 (HM.out _ (((Keep.refl _ w).alloc _).alloc _))).mono ?_; rintro e w' ⟨rfl, rfl⟩) | (refine ⟨trivial, ?_⟩; gi_at_call 41; refine (words_in Fence.wide _ trivial rfl _ _ _ _ _).mono ?_; rintro e w' ⟨rfl, rfl⟩))
  rw [show decide ((131072 : Int) < (n : Int)) = false from decide_eq_false (by omega)]
  obtain ⟨b, hb⟩ : ∃ b, b = w.heap.size := ⟨_, rfl⟩
  have hI0 : PkI w b a cap k m (ofX ws []) (ofN ws m []) (((((w.alloc (.cells #[.slice none 0 0] 22)).alloc (.cells #[.int .i64 0] 23)).alloc (.cells Tryz.zeroCells86 86)).alloc (.cells #[.slice a k cap] 22)).alloc (.cells #[.int .i64 (m : Int)] 3)) := by
    have o1 := World.alloc_heap_new w (.cells #[.slice none 0 0] 22)
    have o2 := World.alloc_heap_new (w.alloc (.cells #[.slice none 0 0] 22)) (.cells #[.int .i64 0] 23)
    have o3 := ofA_zeros ((w.alloc (.cells #[.slice none 0 0] 22)).alloc (.cells #[.int .i64 0] 23))
    have o4 := World.alloc_heap_new (((w.alloc (.cells #[.slice none 0 0] 22)).alloc (.cells #[.int .i64 0] 23)).alloc (.cells Tryz.zeroCells86 86)) (.cells #[.slice a k cap] 22)
    have o5 := World.alloc_heap_new ((((w.alloc (.cells #[.slice none 0 0] 22)).alloc (.cells #[.int .i64 0] 23)).alloc (.cells Tryz.zeroCells86 86)).alloc (.cells #[.slice a k cap] 22)) (.cells #[.int .i64 (m : Int)] 3)
    simp only [World.size_alloc] at o1 o2 o3 o4 o5
    rw [← hb] at o1 o2 o3 o4 o5
    exact ⟨alloc_far (alloc_far (alloc_far (alloc_far o1 _) _) _) _, alloc_far (alloc_far (alloc_far o2 _) _) _, ((o3.congr (fun i _ => rfl) (fun i _ => rfl)).keep (((Keep.refl noBlock _).alloc _).alloc _) (fun h => h)), alloc_far o4 _, o5, (((((Keep.refl _ w).alloc _).alloc _).alloc _).alloc _).alloc _⟩
  have hsz : (((((w.alloc (.cells #[.slice none 0 0] 22)).alloc (.cells #[.int .i64 0] 23)).alloc (.cells Tryz.zeroCells86 86)).alloc (.cells #[.slice a k cap] 22)).alloc (.cells #[.int .i64 (m : Int)] 3)).heap.size = b + 5 := by simp only [World.size_alloc]; rw [hb]
  generalize (((((w.alloc (.cells #[.slice none 0 0] 22)).alloc (.cells #[.int .i64 0] 23)).alloc (.cells Tryz.zeroCells86 86)).alloc (.cells #[.slice a k cap] 22)).alloc (.cells #[.int .i64 (m : Int)] 3)) = W0 at hI0 hsz ⊢
  rw [← hb]
  have HBW := (show Hid (b = w.heap.size) from hb)
  clear hb
  refine range_iter (gf := 59) (by omega) rfl (enters_of Tryz.func59 (by kernel_rfl) rfl) (wordR ws m) (fun p => p = ordC ws m) [] (fun p V => PkI w b a cap k m (ofX ws p) (ofN ws m p) V ∧ b + 5 ≤ V.heap.size)
    (fun l J Jx W _ hJI hD hY h0 => ?iter) (fun i vs i' V h => ?ps) (fun _ _ => False)
    (fun p vs p' a' V => ∃ s rb, s < ws.length ∧ p' = p ++ [s] ∧ b + 5 ≤ rb ∧ V.heap[rb]? = some (.cells #[.int .u64 ((wordX ws s : Nat) : Int), .int .i64 ((m + 1 - wt ws s : Nat) : Int)] 85 (0, 0)) ∧
      a' = { tmps := #[.slice a k cap, .slice a2 n cap2, undef, undef, .pointer (some ⟨b, 0, none⟩), .pointer (some ⟨b + 1, 0, none⟩), .int .i64 (m : Int), .bool true, .pointer (some ⟨b + 1 + 1, 0, none⟩), .int .u8 (s : Int), .pointer (some ⟨rb, 0, none⟩), undef, undef, undef, undef,
        .tuple #[.int .i64 (m : Int), .bool true], .slice a k cap, .tuple #[.int .i64 (m : Int), .bool true], .int .i64 (m : Int), .bool true, .bool true, .bool false, .slice a2 n cap2, .int .i64 (n : Int), .bool false, .slice a k cap, .int .i64 (m : Int),
        .func (.func 59) #[] #[.pointer (some ⟨b + 1 + 1 + 1 + 1, 0, none⟩), .pointer (some ⟨b + 1 + 1 + 1, 0, none⟩)], .int .u8 (s : Int), .agg #[.int .u64 ((wordX ws s : Nat) : Int), .int .i64 ((m + 1 - wt ws s : Nat) : Int)],
        undef, undef, undef, undef, undef, undef, undef, undef, undef, undef, undef, undef, undef, undef, undef, undef, undef, undef, undef, undef, undef, undef, undef], defers := [] })
    (fun p U V h hk => ⟨h.1.keepN hk (by have := HBW.out; omega), Nat.le_trans h.2 hk.size⟩) (fun _ _ _ h _ => h.elim) (fun p vs p' a' U V h hk => ?keepA) ⟨hI0, by omega⟩ ?assign ?body ?done (fun _ _ h _ => h.elim)
  case iter =>
    refine (words1_in 5 (by omega) l (b + 1 + 1 + 1) (b + 1 + 1 + 1 + 1) a cap gb off ws m HH.out.2.2 J Jx (fun p V hp => ?_) hD hY W h0).mono ?_
    · have := (hJI p V hp).1
      rw [HK.out] at this
      exact wbox_of HH.out.1 this
    · rintro e W' ⟨h1, h2⟩
      exact ⟨h1, h2.imp (fun h => ⟨_, rfl, h⟩) (fun h => h)⟩
  case ps =>
    obtain ⟨s, _, _, _, _, _, rfl⟩ := h
    rfl
  case keepA =>
    obtain ⟨s, rb, h1, h2, h3, h4, h5⟩ := h
    exact ⟨s, rb, h1, h2, h3, hk.obj h4, h5⟩
  case assign =>
    rintro p vs p' V K ⟨s, h1, h2, h3, h4, h5, rfl⟩ hi hK
    unfold wordV
    gi_wp2
    exact hK _ _ ⟨by simp, fun k' o _ ho _ => alloc_far ho _⟩ ⟨hi.1.keeps ((Keep.refl _ V).alloc _), by rw [World.size_alloc]; omega⟩ ⟨s, V.heap.size, h1, h5, hi.2, World.alloc_heap_new V _, rfl⟩
  case body =>
    rintro p vs p' a' V ⟨hi, hsz2⟩ ⟨s, rb, h1, rfl, hrb, hob, rfl⟩
    have hs256 : s < 256 := by have := HH.out.2.2.len; omega
    have hset := hi.of.set s (wordX ws s) (m + 1 - wt ws s)
    obtain ⟨c1, c2⟩ := hi.of.cells s hs256
    have f1 := hi.of.frozen (s * 2)
    have f2 := hi.of.frozen (s * 2 + 1)
    have r0 := cell_of hob 0
    have r1 := cell_of hob 1
    simp at r0 r1
    have hsI : (s : Int) < 256 := by omega
    have hkk : ∀ x y : Value, Keep (fun j => j = b + 1 + 1) V ((V.setCell ⟨b + 1 + 1, s * 2, none⟩ x).setCell ⟨b + 1 + 1, s * 2 + 1, none⟩ y) := fun x y =>
      ((Keep.refl (fun j => j = b + 1 + 1) V).setCell (p := ⟨b + 1 + 1, s * 2, none⟩) (fun _ => rfl) _).setCell (p := ⟨b + 1 + 1, s * 2 + 1, none⟩) (fun _ => rfl) _
    have HNEW := (show Hid (PkI w b a cap k m (ofX ws (p ++ [s])) (ofN ws m (p ++ [s])) ((V.setCell ⟨b + 1 + 1, s * 2, none⟩ (.int .u64 ((wordX ws s : Nat) : Int))).setCell ⟨b + 1 + 1, s * 2 + 1, none⟩ (.int .i64 ((m + 1 - wt ws s : Nat) : Int)))) from by
      refine ⟨(hkk _ _).obj hi.r4 (by omega), (hkk _ _).obj hi.r5 (by omega), hset.congr (fun i _ => ofX_snoc ws p s i) (fun i _ => ofN_snoc ws m p s i), (hkk _ _).obj hi.bs (by omega), (hkk _ _).obj hi.bm (by omega), hi.keep.trans (hkk _ _) (fun i hi e => by have := HBW.out; omega)⟩)
    have HKF := (show Hid (∀ x y : Value, KeepsFrom W0.heap.size V ((V.setCell ⟨b + 1 + 1, s * 2, none⟩ x).setCell ⟨b + 1 + 1, s * 2 + 1, none⟩ y)) from fun x y => ((KeepsOthers.setCell _ _ _).from _).trans ((KeepsOthers.setCell _ _ _).from _))
    generalize wordX ws s = xs at *
    generalize m + 1 - wt ws s = ns at *
    clear hob hi hset hkk
    gi_wp2
    exact ⟨HKF.out _ _, HNEW.out, by simp only [World.size_setCell]; exact hsz2⟩
  case done =>
    rintro p V rfl ⟨hi, hsz2⟩ hD
    have hof := hi.of.congr (fun i _ => HH.out.2.2.ofX i) (fun i _ => HH.out.2.2.ofN i)
    have HI := (show Hid (V.heap[b]? = some (.cells #[.slice none 0 0] 22 (0, 0)) ∧ V.heap[b + 1]? = some (.cells #[.int .i64 0] 23 (0, 0)) ∧ OfA V (b + 1 + 1) (fun s => if wt ws s = 0 then 0 else wordX ws s) (fun s => if wt ws s = 0 then 0 else m + 1 - wt ws s) ∧ Keep noBlock w V ∧ V.heap[W0.heap.size]? = some (.deferred (some []))) from ⟨hi.r4, hi.r5, hof, hi.keep, hD⟩)
    clear hi hof hD
    gi_wp2_with (refine ⟨trivial, ?_⟩; gi_at_call 42; refine (backward_in Fence.wide _ trivial rfl _ _ _ _).mono ?_; rintro e w' ⟨rfl, rfl⟩)
    obtain ⟨q1, q2, q3, q4, q5⟩ := HI.out
    obtain ⟨vb, hvb⟩ : ∃ vb, vb = V.heap.size := ⟨_, rfl⟩
    have hJ0 : PkJ w ws m bs a2 cap2 n b (b + 5) vb n (((V.alloc (.cells #[.slice none 0 0, .int .u8 0, .int .i64 0] 92)).alloc (.cells #[.pointer (some ⟨V.heap.size, 0, none⟩)] 90)).alloc (.cells #[.slice a2 n cap2] 22)) := by
      have o2 := World.alloc_heap_new (V.alloc (.cells #[.slice none 0 0, .int .u8 0, .int .i64 0] 92)) (.cells #[.pointer (some ⟨V.heap.size, 0, none⟩)] 90)
      have o3 := World.alloc_heap_new ((V.alloc (.cells #[.slice none 0 0, .int .u8 0, .int .i64 0] 92)).alloc (.cells #[.pointer (some ⟨V.heap.size, 0, none⟩)] 90)) (.cells #[.slice a2 n cap2] 22)
      have hmt := (Tl.mineT_new w V q4).keeps (((Keep.refl noBlock _).alloc (.cells #[.pointer (some ⟨V.heap.size, 0, none⟩)] 90)).alloc (.cells #[.slice a2 n cap2] 22))
      have hkk : Keep noBlock V (((V.alloc (.cells #[.slice none 0 0, .int .u8 0, .int .i64 0] 92)).alloc (.cells #[.pointer (some ⟨V.heap.size, 0, none⟩)] 90)).alloc (.cells #[.slice a2 n cap2] 22)) := (((Keep.refl noBlock V).alloc _).alloc _).alloc _
      simp only [World.size_alloc] at o2 o3
      rw [← hvb] at o2 o3 hmt hkk ⊢
      have hd : bs.drop n = [] := List.drop_eq_nil_of_le (by rw [HN.out]; exact Nat.le_refl _)
      exact ⟨hkk.obj q1 (fun h => h), hkk.obj q2 (fun h => h), q3.keep hkk (fun h => h), hkk.obj (by rw [← hsz]; exact q5) (fun h => h), alloc_far o2 _, o3, by rw [hd]; exact hmt, by rw [hd]; intro x hx; cases hx⟩
    have hsz3 : (((V.alloc (.cells #[.slice none 0 0, .int .u8 0, .int .i64 0] 92)).alloc (.cells #[.pointer (some ⟨V.heap.size, 0, none⟩)] 90)).alloc (.cells #[.slice a2 n cap2] 22)).heap.size = vb + 3 := by simp only [World.size_alloc]; rw [hvb]
    generalize (((V.alloc (.cells #[.slice none 0 0, .int .u8 0, .int .i64 0] 92)).alloc (.cells #[.pointer (some ⟨V.heap.size, 0, none⟩)] 90)).alloc (.cells #[.slice a2 n cap2] 22)) = W1 at hJ0 hsz3 ⊢
    have hD5 : b + 5 < vb := by rw [hvb]; rw [← hsz]; exact obj_lt q5
    rw [← hvb]
    have HV := (show Hid (b + 5 < vb ∧ b = w.heap.size ∧ W1.heap.size = vb + 3) from ⟨hD5, HBW.out, hsz3⟩)
    clear q1 q2 q3 q4 q5 HI hvb hD5 hsz2 hI0
    refine range_iter (gf := 61) (by omega) rfl (enters_of Tryz.func61 (by kernel_rfl) rfl) (backR bs) (fun p => p = 0) n (fun p U => PkJ w ws m bs a2 cap2 n b (b + 5) vb p U ∧ vb + 3 ≤ U.heap.size)
      (fun l J Jx W _ hJI hD hY h0 => ?iter2) (fun i vs i' V h => ?ps2) (fun c U => c = .ret ∧ PkX w ws bs b (b + 5) U)
      (fun p vs p' a' U => ∃ x, p = p' + 1 ∧ p ≤ n ∧ x = bs[p']?.getD 0 ∧
        a' = { tmps := #[.slice a k cap, .slice a2 n cap2, undef, undef, .pointer (some ⟨b, 0, none⟩), .pointer (some ⟨b + 1, 0, none⟩), .int .i64 (m : Int), .bool true, .pointer (some ⟨b + 1 + 1, 0, none⟩), undef, undef, .pointer (some ⟨vb + 1, 0, none⟩), undef, .int .u8 (x : Int), undef,
          .tuple #[.int .i64 (m : Int), .bool true], .slice a k cap, .tuple #[.int .i64 (m : Int), .bool true], .int .i64 (m : Int), .bool true, .bool true, .bool false, .slice a2 n cap2, .int .i64 (n : Int), .bool false, .slice a k cap, .int .i64 (m : Int),
          .func (.func 59) #[] #[.pointer (some ⟨b + 1 + 1 + 1 + 1, 0, none⟩), .pointer (some ⟨b + 1 + 1 + 1, 0, none⟩)], undef, undef, undef, undef, undef,
          .agg #[.slice none 0 0, .int .u8 0, .int .i64 0], .pointer (some ⟨vb, 0, none⟩), .slice a2 n cap2, .func (.func 61) #[] #[.pointer (some ⟨vb + 1 + 1, 0, none⟩)], .int .i64 (p' : Int), .int .u8 (x : Int),
          undef, undef, undef, undef, undef, undef, undef, undef, undef, undef, undef, undef, undef, undef], defers := [] })
      (fun p U U' h hk => ⟨h.1.keepN hk (by have := HV.out; have := hsz3; omega) (by have := HV.out; omega), Nat.le_trans h.2 hk.size⟩)
      (fun c U U' h hk => ⟨h.1, hk.obj h.2.r4, hk.obj h.2.r5, hk.block _ _ h.2.mark (.inl (by have := HV.out; omega)), h.2.keep.transN hk (by have := HV.out; omega), h.2.bad⟩)
      (fun p vs p' a' U U' h hk => h) ⟨hJ0, by omega⟩ ?assign2 ?body2 ?done2 ?stop2
    case iter2 =>
      refine (backward1_in 5 (by omega) l (vb + 1 + 1) a2 cap2 gb2 off2 bs J Jx (fun p U hp => ?_) hY W (by rw [← HN.out]; exact h0)).mono ?_
      · have := (hJI p U hp).1
        exact ⟨by rw [← HN.out]; exact this.bx, HH.out.2.1.keep this.wr.keep (fun _ h => h)⟩
      · rintro e W' ⟨h1, h2⟩
        exact ⟨h1, h2.imp (fun h => ⟨_, rfl, h⟩) (fun h => h)⟩
    case ps2 =>
      obtain ⟨_, _, rfl⟩ := h
      rfl
    case assign2 =>
      rintro p vs p' U K ⟨h1, h2, rfl⟩ hi hK
      unfold backV
      gi_wp2
      exact hK _ _ (KeepsFrom.refl _ _) hi ⟨_, h1, by rw [HN.out]; exact h2, rfl, rfl⟩
    case body2 =>
      rintro p vs p' a' U ⟨hi, hsz2⟩ ⟨x, rfl, hp, hx, rfl⟩
      have hpx : p' < bs.length := by have := HN.out; omega
      have hx256 : x < 256 := by rw [hx]; exact HH.out.2.1.lt p'
      have hxI : (x : Int) < 256 := by omega
      have hmem : x ∈ bs := by rw [hx, List.getElem?_eq_getElem hpx]; exact List.getElem_mem hpx
      obtain ⟨c1, c2⟩ := hi.of.cells x hx256
      have hb1 := obj_lt hi.r5
      by_cases h0 : wt ws x = 0
      · rw [if_pos h0] at c1 c2
        have d1 : U.cell? ⟨b + 1 + 1, x * 2, none⟩ = some (.int .u64 0) := c1
        have d2 : U.cell? ⟨b + 1 + 1, x * 2 + 1, none⟩ = some (.int .i64 0) := c2
        clear c1 c2
        have HBAD := (show Hid (packOk ws bs = false) from decide_eq_false (fun q => q x hmem h0))
        have hkU : Keep noBlock U (U.alloc (.cells #[.int .u64 0, .int .i64 0] 85)) := (Keep.refl _ U).alloc _
        have o4 := hkU.obj hi.r4 (fun h => h)
        have o5 := hkU.obj hi.r5 (fun h => h)
        have om := hkU.obj hi.mark (fun h => h)
        have c4 := cell_of o4 0
        have f4 := frozen_of o4 0
        have c5 := cell_of o5 0
        have f5 := frozen_of o5 0
        simp only [List.getElem?_toArray, List.getElem?_cons_zero] at c4 c5
        have HF := (show Hid (PkX w ws bs b (b + 5) (((U.alloc (.cells #[.int .u64 0, .int .i64 0] 85)).setCell ⟨b, 0, none⟩ (.slice none 0 0)).setCell ⟨b + 1, 0, none⟩ (.int .i64 2)) ∧ KeepsFrom W1.heap.size U (((U.alloc (.cells #[.int .u64 0, .int .i64 0] 85)).setCell ⟨b, 0, none⟩ (.slice none 0 0)).setCell ⟨b + 1, 0, none⟩ (.int .i64 2))) from by
          have hbw := HBW.out
          refine ⟨⟨set_far ((set_obj o4 0 _).trans (by simp)) (by omega) _ _, (set_obj (set_far o5 (by omega) _ _) 0 _).trans (by simp), set_far (set_far om (by omega) _ _) (by omega) _ _, ?_, decide_eq_false (fun q => q x hmem h0)⟩, ?_⟩
          · exact Keep.setCell (p := ⟨b + 1, 0, none⟩) (Keep.setCell (p := ⟨b, 0, none⟩) (hi.wr.keep.trans' hkU) (fun h => by dsimp only at h; omega) _) (fun h => by dsimp only at h; omega) _
          · exact (KeepsFrom.trans (⟨by simp, fun k' o _ ho _ => alloc_far ho _⟩ : KeepsFrom _ U (U.alloc _)) (((KeepsOthers.setCell _ _ _).from _).trans ((KeepsOthers.setCell _ _ _).from _))))
        clear hi o4 o5 om hkU hx hmem h0
        gi_wp2
        exact ⟨HF.out.2, rfl, HF.out.1⟩
      · rw [if_neg h0] at c1 c2
        obtain ⟨hxl, hxm⟩ := HH.out.2.2.wt_in x h0
        have hwl := HH.out.2.2.word_lt x hxl (by omega)
        have hp11 : 2 ^ (m + 1 - wt ws x) ≤ 2 ^ 12 := Nat.pow_le_pow_right (by omega) (by omega)
        have hX64 : wordX ws x < 4096 := Nat.lt_of_lt_of_le hwl hp11
        have hN12 : m + 1 - wt ws x ≤ 12 ∧ 1 ≤ m + 1 - wt ws x := by clear hwl hp11; omega
        have hpd := packL_drop ws m bs p' hpx
        rw [← hx] at hpd
        have hpl := packL_len ws m (bs.drop (p' + 1))
        have hll : (packL ws m (bs.drop (p' + 1))).length < 1000000000000 := by
          have e1 : (bs.drop (p' + 1)).length ≤ 131072 := by rw [List.length_drop]; have := HN.out; omega
          have e2 : (m + 1) * (bs.drop (p' + 1)).length ≤ 12 * 131072 := Nat.mul_le_mul (by omega) e1
          omega
        have hok2 : ∀ y ∈ bs.drop p', wt ws y ≠ 0 := by
          intro y hy
          rw [List.drop_eq_getElem_cons hpx] at hy
          rcases List.mem_cons.1 hy with e | e
          · rw [e]; have : x = bs[p'] := by rw [hx, List.getElem?_eq_getElem hpx]; rfl
            rw [← this]; exact h0
          · exact hi.ok y e
        have HO := (show Hid (packL ws m (bs.drop p') = packL ws m (bs.drop (p' + 1)) ++ low (wordX ws x) (m + 1 - wt ws x) ∧ ∀ y ∈ bs.drop p', wt ws y ≠ 0) from ⟨hpd, hok2⟩)
        have HI := (show Hid (PkJ w ws m bs a2 cap2 n b (b + 5) vb (p' + 1) U) from hi)
        have HL := (show Hid ((packL ws m (bs.drop (p' + 1))).length < 1000000000000) from hll)
        clear hpd hok2 hwl hp11 hpl hll hx hmem h0
        generalize wordX ws x = X at *
        generalize m + 1 - wt ws x = N at *
        have hkU : Keep noBlock U (U.alloc (.cells #[.int .u64 (X : Int), .int .i64 (N : Int)] 85)) := (Keep.refl _ U).alloc _
        have ob := hkU.obj hi.box (fun h => h)
        have c6 := cell_of ob 0
        simp only [List.getElem?_toArray, List.getElem?_cons_zero] at c6
        have hNb : ((N : Int) == 0) = false := by rw [beq_eq_false_iff_ne]; omega
        have HP := (show Hid (Calls Tryz.prog 43 _ (U.alloc (.cells #[.int .u64 (X : Int), .int .i64 (N : Int)] 85)) _) from (hi.wr.keeps hkU).putO X N (by omega) (by omega) HL.out)
        have hXI : (X : Int) < 4096 := by omega
        have hNI : (N : Int) ≤ 12 := by omega
        have HKU := (show Hid _ from hkU)
        clear hi ob hkU
        gi_wp2_with (refine ⟨trivial, ?_⟩; gi_at_call 43; refine (CallsIn.inRound _ (callsIn_wide.2 HP.out)).mono ?_; rintro e U2 ⟨rfl, hM2, hO2⟩)
        have hi := HI.out
        have hk := HKU.out
        obtain ⟨cs0, hw0⟩ := hi.wr.obj
        have hv := HV.out
        have hb0 := obj_lt hi.r4
        obtain ⟨ofc, of1, of2⟩ := hi.of.obj
        refine ⟨(KeepsFrom.trans (⟨by simp, fun k' o _ ho _ => alloc_far ho _⟩ : KeepsFrom _ U (U.alloc _)) (hO2.from (hk.obj hw0 (fun h => h)) _)), ⟨hO2.cells (hk.obj hi.r4 (fun h => h)) (by omega) (by decide), hO2.cells (hk.obj hi.r5 (fun h => h)) (by omega) (by decide), ⟨ofc, hO2.cells (hk.obj of1 (fun h => h)) (by omega) (by decide), of2⟩, hO2.mark (hk.obj hi.mark (fun h => h)) (by omega) rfl, hO2.cells (hk.obj hi.box (fun h => h)) (by omega) (by decide), hO2.cells (hk.obj hi.bx (fun h => h)) (by omega) (by decide), by rw [HO.out.1]; exact hM2, HO.out.2⟩, ?_⟩
        have := hO2.size
        rw [World.size_alloc] at this
        omega
    case done2 =>
      rintro p U rfl ⟨hi, hsz2⟩ hD
      have hok : packOk ws bs = true := decide_eq_true (fun x hx => hi.ok x (by rw [List.drop_zero]; exact hx))
      have hwr := hi.wr
      rw [List.drop_zero] at hwr
      have hpl := packL_len ws m bs
      have hll : (packL ws m bs).length < 1000000000000 := by
        have e2 : (m + 1) * bs.length ≤ 12 * 131072 := Nat.mul_le_mul (by omega) (by have := HN.out; omega)
        omega
      have HP := (show Hid (Calls Tryz.prog 44 _ U _) from hwr.closeO hll)
      have c6 := cell_of hi.box 0
      simp only [List.getElem?_toArray, List.getElem?_cons_zero] at c6
      have HI := (show Hid (PkJ w ws m bs a2 cap2 n b (b + 5) vb 0 U ∧ U.heap[W1.heap.size]? = some (.deferred (some [])) ∧ packOk ws bs = true) from ⟨hi, hD, hok⟩)
      clear hwr hpl hll hD hok hi
      gi_wp2_with (refine ⟨trivial, ?_⟩; gi_at_call 44; refine (callsIn_wide.2 HP.out).mono ?_; rintro e U2 ⟨v, rfl, hown, hK2, hO2, hnew⟩; have o4 := hO2.cells HI.out.1.r4 (by have := HV.out; omega) (by decide); have o5 := hO2.cells HI.out.1.r5 (by have := HV.out; omega) (by decide); have c4 := cell_of o4 0; have f4 := frozen_of o4 0; have c5 := cell_of o5 0; have f5 := frozen_of o5 0; simp only [List.getElem?_toArray, List.getElem?_cons_zero] at c4 c5; obtain ⟨sa, scap, hvf⟩ := owns_form hown; subst hvf)
      obtain ⟨hi, hD, hok⟩ := HI.out
      have hv := HV.out
      have hbw := HBW.out
      have hm1 := hO2.mark hi.mark (by omega) rfl
      have hm2 := hO2.mark hD (by omega) rfl
      rw [hsz3] at hm2
      have e4 := set_far ((set_obj o4 0 (.slice sa (pack (packL ws m bs ++ [1])).length scap)).trans (by simp) : _ = some (.cells #[.slice sa (pack (packL ws m bs ++ [1])).length scap] 22 (0, 0))) (show b ≠ b + 1 by omega) 0 (.int .i64 0)
      have e5 := (set_obj (set_far o5 (show b + 1 ≠ b by omega) 0 (.slice sa (pack (packL ws m bs ++ [1])).length scap)) 0 (.int .i64 0)).trans (by simp : _ = some (.cells #[.int .i64 0] 23 (0, 0)))
      have em1 := set_far (set_far hm1 (show b + 5 ≠ b by omega) 0 (.slice sa (pack (packL ws m bs ++ [1])).length scap)) (show b + 5 ≠ b + 1 by omega) 0 (.int .i64 0)
      have em2 := set_far (set_far hm2 (show vb + 3 ≠ b by omega) 0 (.slice sa (pack (packL ws m bs ++ [1])).length scap)) (show vb + 3 ≠ b + 1 by omega) 0 (.int .i64 0)
      have hks : Keep (fun j => j = b ∨ j = b + 1) U2 ((U2.setCell ⟨b, 0, none⟩ (.slice sa (pack (packL ws m bs ++ [1])).length scap)).setCell ⟨b + 1, 0, none⟩ (.int .i64 0)) :=
        ((Keep.refl (fun j => j = b ∨ j = b + 1) U2).setCell (p := ⟨b, 0, none⟩) (fun _ => .inl rfl) _).setCell (p := ⟨b + 1, 0, none⟩) (fun _ => .inr rfl) _
      have hne : ∀ g, (Value.slice sa (pack (packL ws m bs ++ [1])).length scap).ownBlock = some g → g ≠ b ∧ g ≠ b + 1 := fun g hg => ⟨fun e => owns_ne hown o4 (by decide) (by rw [← e]; exact hg), fun e => owns_ne hown o5 (by decide) (by rw [← e]; exact hg)⟩
      have hown2 := owns_kept hown hks (fun g hg => by have := hne g hg; omega)
      clear hO2 c4 c5 f4 f5 HP
      generalize (U2.setCell ⟨b, 0, none⟩ (.slice sa (pack (packL ws m bs ++ [1])).length scap)).setCell ⟨b + 1, 0, none⟩ (.int .i64 0) = U3 at *
      refine ⟨by simp, .inl ⟨_, _, rfl, run_takeDeferred em2, ?_⟩⟩
      refine ⟨by simp, .inl ⟨_, _, rfl, run_takeDeferred ((World.putObj_heap_other (by omega)).trans em1), ?_⟩⟩
      have hkp : Keep (fun j => j = vb + 3 ∨ j = b + 5) U3 ((U3.putObj (vb + 3) (.deferred none)).putObj (b + 5) (.deferred none)) := ((Keep.refl (fun j => j = vb + 3 ∨ j = b + 5) U3).putObj _ _ (fun _ => .inl rfl)).putObj _ _ (fun _ => .inr rfl)
      refine ⟨_, results_cell2 rfl _ _ _ ⟨b, 0, none⟩ ⟨b + 1, 0, none⟩ (.slice sa (pack (packL ws m bs ++ [1])).length scap) (.int .i64 0) rfl rfl (loadVar22 (cell_of (hkp.obj e4 (by omega)) 0)) (loadVar23 (cell_of (hkp.obj e5 (by omega)) 0)), ?_, .inl ⟨hok, _, rfl, owns_kept hown2 hkp (fun g hg => ?_), hnew⟩⟩
      · exact (hK2.trans hks (fun i hi e => by omega)).trans hkp (fun i hi e => by omega)
      · rintro (e | e)
        · subst e
          rcases hown2.2 with ⟨h, _⟩ | ⟨g2, _, _, h, _, hg2, _⟩
          · rw [h] at hg; cases hg
          · rw [h] at hg
            obtain rfl : g2 = vb + 3 := by simpa [Value.ownBlock] using hg
            rw [em2] at hg2; cases hg2
        · subst e
          rcases hown2.2 with ⟨h, _⟩ | ⟨g2, _, _, h, _, hg2, _⟩
          · rw [h] at hg; cases hg
          · rw [h] at hg
            obtain rfl : g2 = b + 5 := by simpa [Value.ownBlock] using hg
            rw [em1] at hg2; cases hg2
    case stop2 =>
      rintro j U ⟨rfl, hx⟩ hD
      rw [hsz3] at hD ⊢
      gi_wp2
      have hv := HV.out
      refine ⟨by simp, .inl ⟨_, _, rfl, run_takeDeferred hD, ?_⟩⟩
      refine ⟨by simp, .inl ⟨_, _, rfl, run_takeDeferred ((World.putObj_heap_other (by omega)).trans hx.mark), ?_⟩⟩
      have hkp : Keep (fun j => j = vb + 3 ∨ j = b + 5) U ((U.putObj (vb + 3) (.deferred none)).putObj (b + 5) (.deferred none)) := ((Keep.refl (fun j => j = vb + 3 ∨ j = b + 5) U).putObj _ _ (fun _ => .inl rfl)).putObj _ _ (fun _ => .inr rfl)
      refine ⟨_, results_cell2 rfl _ _ _ ⟨b, 0, none⟩ ⟨b + 1, 0, none⟩ (.slice none 0 0) (.int .i64 2) rfl rfl (loadVar22 (cell_of (hkp.obj hx.r4 (by omega)) 0)) (loadVar23 (cell_of (hkp.obj hx.r5 (by omega)) 0)), hx.keep.trans hkp (fun i hi e => by omega), .inr ⟨hx.bad, rfl⟩⟩

def AnsN (c : Nat) (bs : List Nat) (w : World) (e : Ending) (w' : World) : Prop :=
  Keep noBlock w w' ∧ ∃ a n cap, e = .returned (.tuple #[.slice a n cap, .int .i64 (c : Int)]) ∧ n = bs.length ∧ w'.ownsRow 0 5 1 (.slice a n cap) n (u8s bs) ∧ ∀ k, (Value.slice a n cap).ownBlock = some k → w.heap.size ≤ k
theorem ansN_none {c : Nat} {w w' : World} (hk : Keep noBlock w w') : AnsN c [] w (.returned (.tuple #[.slice none 0 0, .int .i64 (c : Int)])) w' := ⟨hk, none, 0, 0, rfl, rfl, World.ownsRow_nil _ _ _ _, fun k h => by simp [Value.ownBlock] at h⟩
theorem ansN_row {c : Nat} {bs : List Nat} {v : Value} {w w' : World} (hk : Keep noBlock w w') (h : w'.ownsRow 0 5 1 v bs.length (u8s bs)) (hn : ∀ k, v.ownBlock = some k → w.heap.size ≤ k) : AnsN c bs w (.returned (.tuple #[v, .int .i64 (c : Int)])) w' := by
  obtain ⟨a, cap, rfl⟩ := owns_form h
  exact ⟨hk, a, _, cap, rfl, rfl, h, hn⟩
set_option maxRecDepth 100000 in
set_option maxHeartbeats 2000000 in
theorem packNew_all (a : Option Addr) (cap gb off : Nat) (ws : List Nat) (a2 : Option Addr) (cap2 gb2 off2 : Nat) (bs : List Nat) (w : World) (hB : Bytes w a cap gb off ws) (hB2 : Bytes w a2 cap2 gb2 off2 bs) :
    Calls Tryz.prog 28 #[.slice a ws.length cap, .slice a2 bs.length cap2] w fun e w' => AnsN (packC ws bs) (packV ws bs) w e w' := by
  cases hc : codeB ws with
  | false =>
    have e1 : packC ws bs = 50 := by unfold packC; rw [hc]; rfl
    have e2 := packV_no (ws := ws) (bs := bs) (by omega)
    rw [e1, e2]
    have HM := (show Hid (∀ W, Keep noBlock w W → Calls Tryz.prog 40 #[.slice a ws.length cap] W fun e w' => ∃ l, e = .returned (.tuple #[.int .i64 l, .bool false]) ∧ w' = W) from fun W hk => made_not hc (hB.keep hk (fun _ h => h)))
    generalize ws.length = n1 at *
    generalize bs.length = n2 at *
    clear hB hB2
    refine (callsIn_wide (n := 4)).1 ?_
    refine callsIn_of_wp_marks Tryz.func28 rfl trivial ?_ rfl
    simp only [Tryz.ntmps28, List.size_toArray, List.length_cons, List.length_nil, Nat.reduceAdd, Nat.reduceSub, Array.replicate_succ, Array.replicate_zero, List.push_toArray, List.append_toArray, List.nil_append, List.cons_append]
    gi_wp2_with (refine ⟨trivial, ?_⟩; gi_at_call 40; refine (callsIn_wide.2 (HM.out _ (((Keep.refl _ w).alloc _).alloc _))).mono ?_; rintro e w' ⟨l, rfl, rfl⟩)
    exact ⟨_, results_cell2 rfl _ _ _ ⟨w.heap.size, 0, none⟩ ⟨w.heap.size + 1, 0, none⟩ (.slice none 0 0) (.int .i64 50) rfl rfl (loadVar22 (pk_cells w 50).1) (loadVar23 (pk_cells w 50).2), ansN_none (((Keep.refl _ w).alloc _).alloc _)⟩
  | true =>
    have hI := codeM_is hc
    by_cases hl : 131072 < bs.length
    · have e1 : packC ws bs = 2 := by unfold packC; rw [if_pos hc, if_pos hl]
      have e2 := packV_no (ws := ws) (bs := bs) (by omega)
      rw [e1, e2]
      have HM := (show Hid (∀ W, Keep noBlock w W → Calls Tryz.prog 40 #[.slice a ws.length cap] W fun e w' => e = .returned (.tuple #[.int .i64 ((codeM ws : Nat) : Int), .bool true]) ∧ w' = W) from fun W hk => made_is hI (hB.keep hk (fun _ h => h)))
      have h48 := hB2.len
      have hlI : (131072 : Int) < ((bs.length : Nat) : Int) := by omega
      generalize ws.length = n1 at *
      generalize bs.length = n2 at *
      clear hB hB2 hI hl h48
      refine (callsIn_wide (n := 4)).1 ?_
      refine callsIn_of_wp_marks Tryz.func28 rfl trivial ?_ rfl
      simp only [Tryz.ntmps28, List.size_toArray, List.length_cons, List.length_nil, Nat.reduceAdd, Nat.reduceSub, Array.replicate_succ, Array.replicate_zero, List.push_toArray, List.append_toArray, List.nil_append, List.cons_append]
      gi_wp2_with (refine ⟨trivial, ?_⟩; gi_at_call 40; refine (callsIn_wide.2 (HM.out _ (((Keep.refl _ w).alloc _).alloc _))).mono ?_; rintro e w' ⟨rfl, rfl⟩)
      exact ⟨_, results_cell2 rfl _ _ _ ⟨w.heap.size, 0, none⟩ ⟨w.heap.size + 1, 0, none⟩ (.slice none 0 0) (.int .i64 2) rfl rfl (loadVar22 (pk_cells w 2).1) (loadVar23 (pk_cells w 2).2), ansN_none (((Keep.refl _ w).alloc _).alloc _)⟩
    · refine (pack_anyN a cap gb off ws (codeM ws) a2 cap2 gb2 off2 bs w hB hB2 hI (by omega)).mono ?_
      rintro e w' ⟨hk, ⟨h1, v, rfl, h2, h3⟩ | ⟨h1, rfl⟩⟩
      · have e1 : packC ws bs = 0 := by unfold packC; rw [if_pos hc, if_neg hl, if_pos h1]
        have e2 : packV ws bs = pack (packL ws (codeM ws) bs ++ [1]) := if_pos e1
        rw [e1, e2]
        exact ansN_row hk h2 h3
      · have e1 : packC ws bs = 2 := by unfold packC; rw [if_pos hc, if_neg hl, h1]; rfl
        have e2 := packV_no (ws := ws) (bs := bs) (by omega)
        rw [e1, e2]
        exact ansN_none hk

end Go.Proofs.YtcoahkmiebeeeaaGreatDoor
