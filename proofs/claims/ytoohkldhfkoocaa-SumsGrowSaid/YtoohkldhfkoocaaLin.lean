/-
  The CRCs are linear, and a byte that is changed changes them: plain numbers.
-/
import Derived.Test.YtoohkldhfkoocaaSum
namespace Go.Proofs.Ytoohkldhfkoocaa
open Go.RowKit Go.Shelf
set_option linter.unusedVariables false

theorem byteIn_xor (poly A B u v : Nat) : byteIn poly A u ^^^ byteIn poly B v = byteIn poly (A ^^^ B) (u ^^^ v) := by
  unfold byteIn
  rw [← steps_xor]
  congr 1
  ac_rfl
/-- Three rows, taken together, as far as n. -/
def xor3 (a b c : List Nat) (n : Nat) : List Nat := (List.range n).map (fun i => a[i]?.getD 0 ^^^ b[i]?.getD 0 ^^^ c[i]?.getD 0)
theorem xor3_length (a b c : List Nat) (n : Nat) : (xor3 a b c n).length = n := by simp [xor3]
theorem bytesIn_xor3 (poly x y z : Nat) (a b c : List Nat) (n : Nat) (ha : n ≤ a.length) (hb : n ≤ b.length) (hc : n ≤ c.length) :
    bytesIn poly x (a.take n) ^^^ bytesIn poly y (b.take n) ^^^ bytesIn poly z (c.take n) = bytesIn poly (x ^^^ y ^^^ z) (xor3 a b c n) := by
  induction n with
  | zero => simp [xor3, bytesIn]
  | succ n ih =>
    have e : xor3 a b c (n + 1) = xor3 a b c n ++ [a[n]?.getD 0 ^^^ b[n]?.getD 0 ^^^ c[n]?.getD 0] := by simp [xor3, List.range_succ]
    rw [bytesIn_take poly x a n (by omega), bytesIn_take poly y b n (by omega), bytesIn_take poly z c n (by omega), e, bytesIn_append, ← ih (by omega) (by omega) (by omega), byteIn_xor, byteIn_xor]
    rfl
theorem xmask (A B C M : Nat) : (A ^^^ M) ^^^ (B ^^^ M) ^^^ (C ^^^ M) = (A ^^^ B ^^^ C) ^^^ M := by
  have : (A ^^^ M) ^^^ (B ^^^ M) ^^^ (C ^^^ M) = (A ^^^ B ^^^ C) ^^^ (M ^^^ M ^^^ M) := by ac_rfl
  rw [this, Nat.xor_self, Nat.zero_xor]
theorem mmm (M : Nat) : M ^^^ M ^^^ M = M := by rw [Nat.xor_self, Nat.zero_xor]
theorem crc32_lin (a b c : List Nat) (n : Nat) (ha : n ≤ a.length) (hb : n ≤ b.length) (hc : n ≤ c.length) : crc32 (a.take n) ^^^ crc32 (b.take n) ^^^ crc32 (c.take n) = crc32 (xor3 a b c n) := by
  unfold crc32
  rw [xmask, bytesIn_xor3 P32 M32 M32 M32 a b c n ha hb hc, mmm]
theorem crc64_lin (a b c : List Nat) (n : Nat) (ha : n ≤ a.length) (hb : n ≤ b.length) (hc : n ≤ c.length) : crc64 (a.take n) ^^^ crc64 (b.take n) ^^^ crc64 (c.take n) = crc64 (xor3 a b c n) := by
  unfold crc64
  rw [xmask, bytesIn_xor3 P64 M64 M64 M64 a b c n ha hb hc, mmm]

theorem xor_eq_zero {a b : Nat} (h : a ^^^ b = 0) : a = b := by
  have h2 : a ^^^ b ^^^ b = 0 ^^^ b := by rw [h]
  rwa [Nat.xor_assoc, Nat.xor_self, Nat.xor_zero, Nat.zero_xor] at h2
theorem step_zero {poly x n : Nat} (hp : 2 ^ n ≤ poly) (hx : x < 2 ^ (n + 1)) (h : step poly x = 0) : x = 0 := by
  unfold step at h
  rw [Nat.pow_succ] at hx
  split at h
  · have := xor_eq_zero h
    omega
  · omega
theorem steps_zero {poly x n : Nat} (hp : 2 ^ n ≤ poly) (hp2 : poly < 2 ^ (n + 1)) (hx : x < 2 ^ (n + 1)) (k : Nat) (h : steps poly k x = 0) : x = 0 := by
  induction k with
  | zero => exact h
  | succ k ih => exact ih (step_zero hp (steps_lt hp2 hx k) h)
theorem byteIn_ne {poly A B v n : Nat} (hp : 2 ^ n ≤ poly) (hp2 : poly < 2 ^ (n + 1)) (hA : A < 2 ^ (n + 1)) (hB : B < 2 ^ (n + 1)) (h : A ≠ B) : byteIn poly A v ≠ byteIn poly B v := by
  intro e
  have h1 : byteIn poly A v ^^^ byteIn poly B v = 0 := by rw [e, Nat.xor_self]
  rw [byteIn_xor, Nat.xor_self] at h1
  unfold byteIn at h1
  rw [Nat.xor_zero] at h1
  exact h (xor_eq_zero (steps_zero hp hp2 (Nat.xor_lt_two_pow hA hB) 8 h1))
theorem byteIn_ne2 {poly A u v n : Nat} (hp : 2 ^ n ≤ poly) (hp2 : poly < 2 ^ (n + 1)) (hu : u < 2 ^ (n + 1)) (hv : v < 2 ^ (n + 1)) (h : u ≠ v) : byteIn poly A u ≠ byteIn poly A v := by
  intro e
  have h1 : byteIn poly A u ^^^ byteIn poly A v = 0 := by rw [e, Nat.xor_self]
  rw [byteIn_xor, Nat.xor_self] at h1
  unfold byteIn at h1
  rw [Nat.zero_xor] at h1
  exact h (xor_eq_zero (steps_zero hp hp2 (Nat.xor_lt_two_pow hu hv) 8 h1))
theorem bytesIn_ne {poly n : Nat} (hp : 2 ^ n ≤ poly) (hp2 : poly < 2 ^ (n + 1)) (bs : List Nat) (hb : ∀ b ∈ bs, b < 2 ^ (n + 1)) (A B : Nat) (hA : A < 2 ^ (n + 1)) (hB : B < 2 ^ (n + 1)) (h : A ≠ B) : bytesIn poly A bs ≠ bytesIn poly B bs := by
  induction bs generalizing A B with
  | nil => exact h
  | cons v bs ih =>
    have hv := hb v (by simp)
    exact ih (fun b hb2 => hb b (by simp [hb2])) _ _ (byteIn_lt hp2 hA hv) (byteIn_lt hp2 hB hv) (byteIn_ne hp hp2 hA hB h)
theorem bytesIn_set {poly n : Nat} (hp : 2 ^ n ≤ poly) (hp2 : poly < 2 ^ (n + 1)) (bs : List Nat) (hb : ∀ b ∈ bs, b < 2 ^ (n + 1)) (A : Nat) (hA : A < 2 ^ (n + 1)) (i u : Nat) (hi : i < bs.length) (hu : u < 2 ^ (n + 1)) (h : bs[i] ≠ u) : bytesIn poly A bs ≠ bytesIn poly A (bs.set i u) := by
  induction bs generalizing A i with
  | nil => simp at hi
  | cons v bs ih =>
    have hv := hb v (by simp)
    have hb2 : ∀ b ∈ bs, b < 2 ^ (n + 1) := fun b hb2 => hb b (by simp [hb2])
    cases i with
    | zero => exact bytesIn_ne hp hp2 bs hb2 _ _ (byteIn_lt hp2 hA hv) (byteIn_lt hp2 hA hu) (byteIn_ne2 hp hp2 hv hu (by simpa using h))
    | succ i => exact ih hb2 _ (byteIn_lt hp2 hA hv) i (by simpa using hi) (by simpa using h)
theorem mem_lt {bs : List Nat} (h : ∀ j : Nat, bs[j]?.getD 0 < 256) : ∀ b ∈ bs, b < 256 := by
  intro b hb
  obtain ⟨j, hj, rfl⟩ := List.mem_iff_getElem.1 hb
  have := h j
  rwa [List.getElem?_eq_getElem hj] at this
theorem xorBy_ne (v u : Nat) (hu : u ≠ 0) : v ≠ v ^^^ u := by
  intro e
  have h : v ^^^ v = v ^^^ (v ^^^ u) := by rw [← e]
  rw [Nat.xor_self, ← Nat.xor_assoc, Nat.xor_self, Nat.zero_xor] at h
  exact hu h.symm
theorem xor_right_ne {A B M : Nat} (h : A ≠ B) : A ^^^ M ≠ B ^^^ M := by
  intro e
  have h2 : A ^^^ M ^^^ M = B ^^^ M ^^^ M := by rw [e]
  rw [Nat.xor_assoc, Nat.xor_self, Nat.xor_zero, Nat.xor_assoc, Nat.xor_self, Nat.xor_zero] at h2
  exact h h2
theorem crc32_set (bs : List Nat) (h : ∀ j : Nat, bs[j]?.getD 0 < 256) (i u : Nat) (hi : i < bs.length) (hu : u < 256) (hu0 : u ≠ 0) : crc32 bs ≠ crc32 (bs.set i (bs[i]?.getD 0 ^^^ u)) := by
  unfold crc32
  apply xor_right_ne
  have hm := mem_lt h
  have hv := h i
  rw [List.getElem?_eq_getElem hi] at hv ⊢
  exact bytesIn_set (n := 31) (by decide) (by decide) bs (fun b hb => Nat.lt_trans (hm b hb) (by decide)) M32 (by decide) i _ hi (Nat.lt_trans (Nat.xor_lt_two_pow (n := 8) hv hu) (by decide)) (xorBy_ne _ u hu0)
theorem crc64_set (bs : List Nat) (h : ∀ j : Nat, bs[j]?.getD 0 < 256) (i u : Nat) (hi : i < bs.length) (hu : u < 256) (hu0 : u ≠ 0) : crc64 bs ≠ crc64 (bs.set i (bs[i]?.getD 0 ^^^ u)) := by
  unfold crc64
  apply xor_right_ne
  have hm := mem_lt h
  have hv := h i
  rw [List.getElem?_eq_getElem hi] at hv ⊢
  exact bytesIn_set (n := 63) (by decide) (by decide) bs (fun b hb => Nat.lt_trans (hm b hb) (by decide)) M64 (by decide) i _ hi (Nat.lt_trans (Nat.xor_lt_two_pow (n := 8) hv hu) (by decide)) (xorBy_ne _ u hu0)

end Go.Proofs.Ytoohkldhfkoocaa
