/-
  Range coding as plain numbers: chances, a decoder's and an encoder's steps.
-/
namespace Go.Proofs.YtinhlkioeadfdaaDoor

/-- A chance as it is used. -/
def fairN (p : Nat) : Nat := min (max p 31) 2017
theorem fairN_bd (p : Nat) : 31 ≤ fairN p ∧ fairN p ≤ 2017 := by unfold fairN; omega
/-- What a chance is behind a bit. -/
def learnN (c : Nat) (one : Bool) : Nat := if one then c - c / 32 else c + (2048 - c) / 32
theorem learnN_bd {c : Nat} (one : Bool) (h1 : 31 ≤ c) (h2 : c ≤ 2017) : 31 ≤ learnN c one ∧ learnN c one ≤ 2017 := by
  unfold learnN; split <;> omega
/-- How much of a range is the bit 0's. -/
def boundN (s c : Nat) : Nat := s / 2048 * c
theorem boundN_lt {s c : Nat} (h1 : 31 ≤ c) (h2 : c ≤ 2017) (hs : 16777216 ≤ s) : 253952 ≤ boundN s c ∧ boundN s c + 253952 ≤ s := by
  have a1 : s / 2048 * 31 ≤ s / 2048 * c := Nat.mul_le_mul_left _ h1
  have a2 : s / 2048 * c ≤ s / 2048 * 2017 := Nat.mul_le_mul_left _ h2
  unfold boundN
  omega
theorem boundN_le {s c : Nat} (h2 : c ≤ 2017) : boundN s c ≤ s := by
  have a2 : s / 2048 * c ≤ s / 2048 * 2017 := Nat.mul_le_mul_left _ h2
  unfold boundN
  omega
theorem boundN_32 {s c : Nat} (h2 : c ≤ 2017) (hs : s < 4294967296) : boundN s c < 4294967296 := by
  have := boundN_le (s := s) h2; omega

/-- A decoder: its range, its code, what is not taken yet, whether bytes were wanting. -/
structure Dec where
  span : Nat
  code : Nat
  rest : List Nat
  want : Bool
/-- The next byte moves into the code. -/
def takeD (d : Dec) : Dec := match d.rest with
  | [] => ⟨d.span, d.code * 256 % 4294967296, [], true⟩
  | x :: r => ⟨d.span, (d.code * 256 + x) % 4294967296, r, d.want⟩
/-- Brought into order. -/
def ordD (d : Dec) : Dec := if d.span < 16777216 then takeD { d with span := d.span * 256 } else d
/-- A bit by a chance: of an ordered decoder. -/
def oneD (d : Dec) (c : Nat) : Bool := !decide (d.code < boundN d.span c)
def narD (d : Dec) (c : Nat) : Dec := if oneD d c then { d with span := d.span - boundN d.span c, code := d.code - boundN d.span c } else { d with span := boundN d.span c }
/-- A bit, each as likely. -/
def topD (d : Dec) : Bool := decide (d.span / 2 ≤ d.code)
def halfD (d : Dec) : Dec := if topD d then { d with span := d.span / 2, code := d.code - d.span / 2 } else { d with span := d.span / 2 }
/-- k bits more, of which x are read. -/
def dirD : Nat → Dec → Nat → Dec × Nat
  | 0, d, x => (d, x)
  | k + 1, d, x => dirD k (halfD (ordD d)) (x * 2 + if topD (ordD d) then 1 else 0)
/-- How many bits are meant. -/
def bitsN (n : Int) : Nat := (min (max n 0) 32).toNat
theorem bitsN_le (n : Int) : bitsN n ≤ 32 := by unfold bitsN; omega
theorem bitsN_int (n : Int) : ((bitsN n : Nat) : Int) = min (max n 0) 32 := by unfold bitsN; omega

structure DecOk (d : Dec) : Prop where
  span : d.span < 4294967296
  code : d.code < 4294967296
theorem takeD_ok {d : Dec} (h : DecOk d) : DecOk (takeD d) := by
  unfold takeD
  split
  · exact ⟨h.span, Nat.mod_lt _ (by omega)⟩
  · exact ⟨h.span, Nat.mod_lt _ (by omega)⟩
theorem ordD_ok {d : Dec} (h : DecOk d) : DecOk (ordD d) := by
  unfold ordD
  split
  · exact takeD_ok ⟨by show d.span * 256 < _; omega, h.code⟩
  · exact h
theorem narD_ok {d : Dec} (h : DecOk d) {c : Nat} (hc : c ≤ 2017) : DecOk (narD d c) := by
  have h1 := boundN_le (s := d.span) hc
  have := h.span
  have := h.code
  unfold narD
  split
  · exact ⟨by show d.span - _ < _; omega, by show d.code - _ < _; omega⟩
  · exact ⟨by show boundN _ _ < _; omega, h.code⟩
theorem halfD_ok {d : Dec} (h : DecOk d) : DecOk (halfD d) := by
  have := h.span
  have := h.code
  unfold halfD
  split
  · exact ⟨by show d.span / 2 < _; omega, by show d.code - _ < _; omega⟩
  · exact ⟨by show d.span / 2 < _; omega, h.code⟩
theorem dirD_ok (k : Nat) : ∀ {d : Dec} (x : Nat), DecOk d → DecOk (dirD k d x).1 := by
  induction k with
  | zero => exact fun _ h => h
  | succ k ih => exact fun x h => ih _ (halfD_ok (ordD_ok h))
theorem dirD_lt (k : Nat) : ∀ (d : Dec) (x m : Nat), x < 2 ^ m → (dirD k d x).2 < 2 ^ (m + k) := by
  induction k with
  | zero => exact fun _ _ _ h => h
  | succ k ih =>
    intro d x m h
    have := ih (halfD (ordD d)) (x * 2 + if topD (ordD d) then 1 else 0) (m + 1) (by rw [Nat.pow_succ]; split <;> omega)
    rw [show m + (k + 1) = m + 1 + k from by omega]
    exact this

/-- An encoder: low, its range, the byte that waits, how many wait, what went out. -/
structure Enc where
  low : Nat
  span : Nat
  first : Nat
  wait : Nat
  out : List Nat
/-- What goes out of a byte that waits and those behind it. -/
def flushL (first wait carry : Nat) : List Nat := match wait with
  | 0 => []
  | n + 1 => (first + carry) % 256 :: List.replicate n ((255 + carry) % 256)
def shiftE (e : Enc) : Enc := if e.low / 16777216 = 255 then ⟨e.low % 16777216 * 256, e.span, e.first, e.wait + 1, e.out⟩
  else ⟨e.low % 16777216 * 256, e.span, e.low / 16777216 % 256, 1, e.out ++ flushL e.first e.wait (e.low / 4294967296 % 256)⟩
/-- The range great enough. -/
def normE (e : Enc) : Enc := if e.span < 16777216 then shiftE { e with span := e.span * 256 } else e
/-- Part of the range: o from its beginning on, so wide. -/
def cutE (e : Enc) (o s : Nat) : Enc := normE { e with low := e.low + o, span := s }
def bitE (e : Enc) (c : Nat) (one : Bool) : Enc := if one then cutE e (boundN e.span c) (e.span - boundN e.span c) else cutE e 0 (boundN e.span c)
def halfE (e : Enc) (one : Bool) : Enc := cutE e (if one then e.span / 2 else 0) (e.span / 2)
def dirE (x : Nat) : Nat → Enc → Enc
  | 0, e => e
  | k + 1, e => dirE x k (halfE e (x / 2 ^ k % 2 == 1))
def closeE (e : Enc) : Enc := shiftE (shiftE (shiftE (shiftE (shiftE e))))
def newE : Enc := ⟨0, 4294967295, 0, 1, []⟩

structure EncOk (e : Enc) : Prop where
  s1 : 16777216 ≤ e.span
  s2 : e.span < 4294967296
  low : e.low + e.span ≤ 8589934592
  first : e.first < 256
  wait : 1 ≤ e.wait
  out : ∀ j : Nat, e.out[j]?.getD 0 < 256
theorem getD_app {a b : List Nat} (h1 : ∀ j : Nat, a[j]?.getD 0 < 256) (h2 : ∀ j : Nat, b[j]?.getD 0 < 256) (j : Nat) : (a ++ b)[j]?.getD 0 < 256 := by
  rw [List.getElem?_append]
  split
  · exact h1 j
  · exact h2 _
theorem flushL_lt (first wait carry : Nat) (j : Nat) : (flushL first wait carry)[j]?.getD 0 < 256 := by
  unfold flushL
  cases wait with
  | zero => simp
  | succ n =>
    cases j with
    | zero => simp; omega
    | succ j =>
      simp only [List.getElem?_cons_succ, List.getElem?_replicate]
      split
      · simp; omega
      · simp
theorem flushL_len (first wait carry : Nat) : (flushL first wait carry).length = wait := by
  unfold flushL
  cases wait <;> simp
/-- What a shift wants. -/
structure ShOk (e : Enc) : Prop where
  first : e.first < 256
  wait : 1 ≤ e.wait
  low : e.low < 8589934592
  out : ∀ j : Nat, e.out[j]?.getD 0 < 256
theorem shiftE_sh {e : Enc} (h : ShOk e) : ShOk (shiftE e) := by
  unfold shiftE
  split
  · exact ⟨h.first, by show 1 ≤ e.wait + 1; omega, by show e.low % 16777216 * 256 < _; omega, h.out⟩
  · exact ⟨by show e.low / 16777216 % 256 < _; omega, Nat.le_refl _, by show e.low % 16777216 * 256 < _; omega, getD_app h.out (flushL_lt _ _ _)⟩
theorem EncOk.sh {e : Enc} (h : EncOk e) : ShOk e := ⟨h.first, h.wait, by have := h.low; have := h.s1; omega, h.out⟩
theorem shiftE_span (e : Enc) : (shiftE e).span = e.span := by unfold shiftE; split <;> rfl
theorem shiftE_low (e : Enc) : (shiftE e).low = e.low % 16777216 * 256 := by unfold shiftE; split <;> rfl
/-- How many bytes went out or wait. -/
def manyE (e : Enc) : Nat := e.out.length + e.wait
theorem shiftE_many (e : Enc) : manyE (shiftE e) = manyE e + 1 := by
  unfold shiftE manyE
  split
  · show e.out.length + (e.wait + 1) = _; omega
  · show (e.out ++ flushL e.first e.wait (e.low / 4294967296 % 256)).length + 1 = _
    rw [List.length_append, flushL_len]
theorem cutE_ok {e : Enc} (h : EncOk e) {o s : Nat} (hs : 65536 ≤ s) (ho : o + s ≤ e.span) : EncOk (cutE e o s) := by
  have h1 := h.low
  have h2 := h.s2
  unfold cutE normE
  show EncOk (if s < 16777216 then _ else _)
  split
  · rename_i hlt
    have hsh := shiftE_sh (e := ⟨e.low + o, s * 256, e.first, e.wait, e.out⟩) ⟨h.first, h.wait, by show e.low + o < _; omega, h.out⟩
    refine ⟨?_, ?_, ?_, hsh.first, hsh.wait, hsh.out⟩
    · rw [shiftE_span]; show _ ≤ s * 256; omega
    · rw [shiftE_span]; show s * 256 < _; omega
    · rw [shiftE_span, shiftE_low]; show (e.low + o) % 16777216 * 256 + s * 256 ≤ _; omega
  · rename_i hlt
    exact ⟨by show _ ≤ s; omega, by show s < _; omega, by show e.low + o + s ≤ _; omega, h.first, h.wait, h.out⟩
theorem cutE_many (e : Enc) (o s : Nat) : manyE (cutE e o s) ≤ manyE e + 1 ∧ manyE e ≤ manyE (cutE e o s) := by
  unfold cutE normE
  show manyE (if s < 16777216 then _ else _) ≤ _ ∧ _ ≤ manyE (if s < 16777216 then _ else _)
  split
  · rw [shiftE_many]
    exact ⟨Nat.le_refl _, Nat.le_succ _⟩
  · exact ⟨Nat.le_succ _, Nat.le_refl _⟩
theorem bitE_ok {e : Enc} (h : EncOk e) {c : Nat} (h1 : 31 ≤ c) (h2 : c ≤ 2017) (one : Bool) : EncOk (bitE e c one) := by
  have := boundN_lt h1 h2 h.s1
  unfold bitE
  split
  · exact cutE_ok h (by omega) (by omega)
  · exact cutE_ok h (by omega) (by omega)
theorem halfE_ok {e : Enc} (h : EncOk e) (one : Bool) : EncOk (halfE e one) := by
  have := h.s1
  unfold halfE
  exact cutE_ok h (by omega) (by split <;> omega)
theorem bitE_many (e : Enc) (c : Nat) (one : Bool) : manyE (bitE e c one) ≤ manyE e + 1 := by
  unfold bitE
  split <;> exact (cutE_many e _ _).1
theorem halfE_many (e : Enc) (one : Bool) : manyE (halfE e one) ≤ manyE e + 1 := (cutE_many e _ _).1
theorem dirE_ok (x k : Nat) : ∀ {e : Enc}, EncOk e → EncOk (dirE x k e) := by
  induction k with
  | zero => exact fun h => h
  | succ k ih => exact fun h => ih (halfE_ok h _)
theorem dirE_many (x k : Nat) : ∀ (e : Enc), manyE (dirE x k e) ≤ manyE e + k := by
  induction k with
  | zero => exact fun _ => Nat.le_refl _
  | succ k ih =>
    intro e
    have h1 := ih (halfE e (x / 2 ^ k % 2 == 1))
    have h2 := halfE_many e (x / 2 ^ k % 2 == 1)
    show manyE (dirE x k _) ≤ _
    omega
theorem newE_ok : EncOk newE := ⟨by decide, by decide, by decide, by decide, by decide, fun j => by simp [newE]⟩
theorem closeE_sh {e : Enc} (h : EncOk e) : ShOk (closeE e) := shiftE_sh (shiftE_sh (shiftE_sh (shiftE_sh (shiftE_sh h.sh))))
theorem closeE_many (e : Enc) : manyE (closeE e) = manyE e + 5 := by unfold closeE; simp only [shiftE_many]

end Go.Proofs.YtinhlkioeadfdaaDoor
