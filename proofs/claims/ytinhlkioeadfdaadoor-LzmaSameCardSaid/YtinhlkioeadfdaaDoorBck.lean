/-
  What an encoder put into bytes is what a decoder reads out of them: as plain numbers.
-/
import Derived.Test.YtinhlkioeadfdaaDoorMth
namespace Go.Proofs.YtinhlkioeadfdaaDoor

/-- Bytes as a number, the greatest first. -/
def val (l : List Nat) : Nat := l.foldl (fun a x => a * 256 + x) 0
theorem val_from (l : List Nat) : ∀ a, l.foldl (fun a x => a * 256 + x) a = a * 256 ^ l.length + val l := by
  induction l with
  | nil => intro a; simp [val]
  | cons x r ih =>
    intro a
    show r.foldl _ (a * 256 + x) = _
    have e : val (x :: r) = x * 256 ^ r.length + val r := by
      show r.foldl _ (0 * 256 + x) = _
      rw [ih]; simp
    rw [ih, e, List.length_cons, Nat.pow_succ, Nat.add_mul, Nat.mul_assoc, Nat.mul_comm 256, Nat.add_assoc]
theorem val_cons (x : Nat) (r : List Nat) : val (x :: r) = x * 256 ^ r.length + val r := by
  show r.foldl _ (0 * 256 + x) = _
  rw [val_from]; simp
theorem val_app (a b : List Nat) : val (a ++ b) = val a * 256 ^ b.length + val b := by
  unfold val
  rw [List.foldl_append, val_from]
  rfl
theorem val_one (x : Nat) : val [x] = x := by simp [val]
theorem val_take (b : List Nat) (j : Nat) (h : j < b.length) : val (b.take (j + 1)) = val (b.take j) * 256 + b[j]?.getD 0 := by
  rw [List.take_succ_eq_append_getElem h, val_app, val_one, List.getElem?_eq_getElem h]
  simp
theorem val_rep (n x : Nat) : val (List.replicate n x) * 255 + x = x * 256 ^ n := by
  induction n with
  | zero => simp [val]
  | succ n ih =>
    rw [List.replicate_succ, val_cons, List.length_replicate, Nat.pow_succ, ← Nat.mul_assoc, Nat.add_mul, Nat.add_assoc, ih]
    exact (Nat.mul_succ (x * 256 ^ n) 255).symm
theorem val_flush (f n c : Nat) (hc : c ≤ 1) (hf : f + c < 256) : val (flushL f (n + 1) c) = val (f :: List.replicate n 255) + c := by
  unfold flushL
  show val ((f + c) % 256 :: List.replicate n ((255 + c) % 256)) = _
  rw [val_cons, val_cons, List.length_replicate, List.length_replicate, Nat.mod_eq_of_lt hf]
  have h2 := val_rep n 255
  rcases (show c = 0 ∨ c = 1 by omega) with rfl | rfl
  · simp
  · have h1 := val_rep n 0
    rw [show (255 + 1) % 256 = 0 from rfl, Nat.add_mul]
    omega

/-- All that went out or waits, and low, as one number. -/
def numE (e : Enc) : Nat := val (e.out ++ e.first :: List.replicate (e.wait - 1) 255)
def totE (e : Enc) : Nat := numE e * 4294967296 + e.low
/-- No carry can come to what is full. -/
structure CarR (e : Enc) (r : Nat) : Prop where
  first : e.first < 256
  wait : 1 ≤ e.wait
  pos : 0 < r
  low : e.low + r ≤ 8589934592
  full : e.first = 255 → e.low + r ≤ 4294967296
theorem CarR.less {e : Enc} {r r' : Nat} (h : CarR e r) (h0 : 0 < r') (h1 : r' ≤ r) : CarR e r' :=
  ⟨h.first, h.wait, h0, by have := h.low; omega, fun q => by have := h.full q; omega⟩
theorem shiftE_tot {e : Enc} {r : Nat} (h : CarR e r) : totE (shiftE e) = 256 * totE e := by
  have h1 := h.low
  have h2 := h.pos
  have h3 := h.full
  have h4 := h.first
  obtain ⟨n, hn⟩ : ∃ n, e.wait = n + 1 := ⟨e.wait - 1, by have := h.wait; omega⟩
  unfold totE numE shiftE
  split
  · rename_i hl
    show val (e.out ++ e.first :: List.replicate (e.wait + 1 - 1) 255) * 4294967296 + e.low % 16777216 * 256 = _
    rw [hn, show n + 1 + 1 - 1 = n + 1 from rfl, show n + 1 - 1 = n from rfl, List.replicate_succ', ← List.cons_append, ← List.append_assoc, val_app, val_one, List.length_singleton]
    omega
  · rename_i hl
    show val (e.out ++ flushL e.first e.wait (e.low / 4294967296 % 256) ++ (e.low / 16777216 % 256) :: List.replicate (1 - 1) 255) * 4294967296 + e.low % 16777216 * 256 = _
    rw [hn, show n + 1 - 1 = n from rfl, show (1 - 1 : Nat) = 0 from rfl, List.replicate_zero, val_app, val_one, List.length_singleton, val_app, val_app, flushL_len, List.length_cons, List.length_replicate]
    rw [val_flush e.first n (e.low / 4294967296 % 256) (by omega) (by
      by_cases q : e.first = 255
      · have := h3 q; omega
      · omega)]
    generalize val (e.first :: List.replicate n 255) = V
    generalize val e.out * 256 ^ (n + 1) = U
    omega
theorem shiftE_car {e : Enc} {r : Nat} (h : CarR e r) (hr : r < 16777216) : CarR (shiftE e) (r * 256) := by
  have h1 := h.low
  have h2 := h.pos
  have h3 := h.full
  have h4 := h.first
  unfold shiftE
  split
  · exact ⟨h.first, by show 1 ≤ e.wait + 1; omega, by omega, by show e.low % 16777216 * 256 + _ ≤ _; omega, fun q => by
      have := h3 q
      show e.low % 16777216 * 256 + _ ≤ _
      omega⟩
  · refine ⟨by show e.low / 16777216 % 256 < _; omega, Nat.le_refl _, by omega, by show e.low % 16777216 * 256 + _ ≤ _; omega, fun q => ?_⟩
    have q' : e.low / 16777216 % 256 = 255 := q
    show e.low % 16777216 * 256 + _ ≤ _
    omega

/-- An encoder at work. -/
structure Good (e : Enc) : Prop where
  ok : EncOk e
  full : e.first = 255 → e.low + e.span ≤ 4294967296
  top : totE e + e.span ≤ 4294967296 * 256 ^ (manyE e - 1)
theorem Good.car {e : Enc} (h : Good e) : CarR e e.span := ⟨h.ok.first, h.ok.wait, by have := h.ok.s1; omega, h.ok.low, h.full⟩
theorem many_pos {e : Enc} (h : 1 ≤ e.wait) : 1 ≤ manyE e := by unfold manyE; omega
theorem newE_good : Good newE := ⟨newE_ok, (fun q => by cases q), by decide⟩
/-- What becomes of both numbers where part of the range is taken. -/
theorem cutE_tot {e : Enc} (h : Good e) {o s : Nat} (hs : 65536 ≤ s) (ho : o + s ≤ e.span) :
    (16777216 ≤ s ∧ totE (cutE e o s) = totE e + o ∧ (cutE e o s).span = s ∧ manyE (cutE e o s) = manyE e) ∨ (s < 16777216 ∧ totE (cutE e o s) = (totE e + o) * 256 ∧ (cutE e o s).span = s * 256 ∧ manyE (cutE e o s) = manyE e + 1) := by
  have h1 := h.ok.low
  unfold cutE normE
  by_cases hl : s < 16777216
  · right
    rw [if_pos (show ({ e with low := e.low + o, span := s } : Enc).span < 16777216 from hl)]
    have hc : CarR (⟨e.low + o, s * 256, e.first, e.wait, e.out⟩ : Enc) s := ⟨h.ok.first, h.ok.wait, by omega, by show e.low + o + s ≤ _; omega, fun q => by have := h.full q; show e.low + o + s ≤ _; omega⟩
    refine ⟨hl, ?_, shiftE_span _, shiftE_many _⟩
    show totE (shiftE ⟨e.low + o, s * 256, e.first, e.wait, e.out⟩) = _
    rw [shiftE_tot hc]
    show 256 * (numE e * 4294967296 + (e.low + o)) = (numE e * 4294967296 + e.low + o) * 256
    omega
  · left
    rw [if_neg (show ¬ ({ e with low := e.low + o, span := s } : Enc).span < 16777216 from hl)]
    refine ⟨by omega, ?_, rfl, rfl⟩
    show numE e * 4294967296 + (e.low + o) = numE e * 4294967296 + e.low + o
    omega
theorem cutE_good {e : Enc} (h : Good e) {o s : Nat} (hs : 65536 ≤ s) (ho : o + s ≤ e.span) : Good (cutE e o s) := by
  refine ⟨cutE_ok h.ok hs ho, ?_, ?_⟩
  · unfold cutE normE
    by_cases hl : s < 16777216
    · rw [if_pos (show ({ e with low := e.low + o, span := s } : Enc).span < 16777216 from hl)]
      have h1 := h.ok.low
      have hc : CarR (⟨e.low + o, s * 256, e.first, e.wait, e.out⟩ : Enc) s := ⟨h.ok.first, h.ok.wait, by omega, by show e.low + o + s ≤ _; omega, fun q => by have := h.full q; show e.low + o + s ≤ _; omega⟩
      have := (shiftE_car hc hl).full
      rw [shiftE_span]
      exact this
    · rw [if_neg (show ¬ ({ e with low := e.low + o, span := s } : Enc).span < 16777216 from hl)]
      intro q
      have := h.full q
      show e.low + o + s ≤ _
      omega
  · have ht := h.top
    have hm := many_pos h.ok.wait
    rcases cutE_tot h hs ho with ⟨_, a, b, c⟩ | ⟨_, a, b, c⟩
    · rw [a, b, c]; omega
    · rw [a, b, c, show manyE e + 1 - 1 = manyE e - 1 + 1 from by omega, Nat.pow_succ]
      omega
theorem bitE_good {e : Enc} (h : Good e) {c : Nat} (h1 : 31 ≤ c) (h2 : c ≤ 2017) (one : Bool) : Good (bitE e c one) := by
  have := boundN_lt h1 h2 h.ok.s1
  unfold bitE
  split
  · exact cutE_good h (by omega) (by omega)
  · exact cutE_good h (by omega) (by omega)
theorem halfE_good {e : Enc} (h : Good e) (one : Bool) : Good (halfE e one) := by
  have := h.ok.s1
  unfold halfE
  exact cutE_good h (by omega) (by split <;> omega)
theorem dirE_good (x k : Nat) : ∀ {e : Enc}, Good e → Good (dirE x k e) := by
  induction k with
  | zero => exact fun h => h
  | succ k ih => exact fun h => ih (halfE_good h _)
/-- What Close tells. -/
theorem closeE_val {e : Enc} (h : Good e) : val (closeE e).out = totE e ∧ (closeE e).out.length = manyE e + 4 := by
  have c0 := h.car.less (r' := 1) (by omega) (by have := h.ok.s1; omega)
  have t1 := shiftE_tot c0
  have c1 := (shiftE_car c0 (by omega)).less (r' := 1) (by omega) (by omega)
  have t2 := shiftE_tot c1
  have c2 := (shiftE_car c1 (by omega)).less (r' := 1) (by omega) (by omega)
  have t3 := shiftE_tot c2
  have c3 := (shiftE_car c2 (by omega)).less (r' := 1) (by omega) (by omega)
  have t4 := shiftE_tot c3
  have c4 := (shiftE_car c3 (by omega)).less (r' := 1) (by omega) (by omega)
  have t5 := shiftE_tot c4
  have hl : (shiftE (shiftE (shiftE (shiftE e)))).low = 0 := by
    rw [shiftE_low, shiftE_low, shiftE_low, shiftE_low]
    omega
  have hm := closeE_many e
  unfold closeE at hm ⊢
  generalize hE : shiftE (shiftE (shiftE (shiftE e))) = E at *
  have hs : shiftE E = ⟨0, E.span, 0, 1, E.out ++ flushL E.first E.wait 0⟩ := by
    unfold shiftE
    rw [hl]
    rfl
  rw [hs] at t5 hm ⊢
  have hT : totE (⟨0, E.span, 0, 1, E.out ++ flushL E.first E.wait 0⟩ : Enc) = val (E.out ++ flushL E.first E.wait 0) * 256 * 4294967296 := by
    unfold totE numE
    show val (E.out ++ flushL E.first E.wait 0 ++ 0 :: List.replicate (1 - 1) 255) * 4294967296 + 0 = _
    rw [show (1 - 1 : Nat) = 0 from rfl, List.replicate_zero, val_app (E.out ++ flushL E.first E.wait 0), val_one, List.length_singleton]
    omega
  rw [hT] at t5
  refine ⟨?_, ?_⟩
  · show val (E.out ++ flushL E.first E.wait 0) = _
    omega
  · unfold manyE at hm
    show (E.out ++ flushL E.first E.wait 0).length = _
    have hm' : (E.out ++ flushL E.first E.wait 0).length + 1 = manyE e + 5 := hm
    omega
theorem val_first {x : Nat} {r : List Nat} {m : Nat} (hr : r.length = m) (h : val (x :: r) < 256 ^ m) : x = 0 := by
  rw [val_cons, hr] at h
  cases x with
  | zero => rfl
  | succ x => rw [Nat.succ_mul] at h; omega
theorem closeE_first {e : Enc} (h : Good e) : 5 ≤ (closeE e).out.length ∧ (closeE e).out[0]?.getD 0 = 0 := by
  obtain ⟨h1, h2⟩ := closeE_val h
  have hm := many_pos h.ok.wait
  refine ⟨by omega, ?_⟩
  have ht := h.top
  have hs := h.ok.s1
  cases hb : (closeE e).out with
  | nil => rfl
  | cons x r =>
    rw [hb] at h1 h2
    have : x = 0 := val_first (r := r) (m := manyE e + 3) (by have h3 : r.length + 1 = manyE e + 4 := h2; omega) (by
      rw [h1, show manyE e + 3 = manyE e - 1 + 4 from by omega, Nat.pow_add, show (256 ^ 4 : Nat) = 4294967296 from rfl, Nat.mul_comm]
      omega)
    simpa using this

/-- The bytes b begin as the encoder's numbers tell. -/
structure Has (b : List Nat) (e : Enc) : Prop where
  lo : totE e ≤ val (b.take (manyE e + 4))
  hi : val (b.take (manyE e + 4)) < totE e + e.span
  len : manyE e + 4 ≤ b.length
theorem closeE_has {e : Enc} (h : Good e) : Has (closeE e).out e := by
  obtain ⟨h1, h2⟩ := closeE_val h
  have hs := h.ok.s1
  have e1 : (closeE e).out.take (manyE e + 4) = (closeE e).out := List.take_of_length_le (by omega)
  exact ⟨by rw [e1, h1]; exact Nat.le_refl _, by rw [e1, h1]; omega, by omega⟩
/-- Of bytes that begin as part of the range tells. -/
theorem cut_back {b : List Nat} (hb : ∀ j : Nat, b[j]?.getD 0 < 256) {e : Enc} (h : Good e) {o s : Nat} (hs : 65536 ≤ s) (ho : o + s ≤ e.span) (hh : Has b (cutE e o s)) :
    totE e + o ≤ val (b.take (manyE e + 4)) ∧ val (b.take (manyE e + 4)) < totE e + o + s ∧ manyE e + 4 ≤ b.length := by
  have l1 := hh.lo
  have l2 := hh.hi
  have l3 := hh.len
  rcases cutE_tot h hs ho with ⟨_, a1, a2, a3⟩ | ⟨_, a1, a2, a3⟩
  · rw [a1, a3] at l1; rw [a1, a2, a3] at l2; rw [a3] at l3
    exact ⟨l1, l2, l3⟩
  · rw [a3] at l3
    have ht := val_take b (manyE e + 4) (by omega)
    have hx := hb (manyE e + 4)
    rw [a1, a3, show manyE e + 1 + 4 = manyE e + 4 + 1 from by omega, ht] at l1
    rw [a1, a2, a3, show manyE e + 1 + 4 = manyE e + 4 + 1 from by omega, ht] at l2
    exact ⟨by omega, by omega, by omega⟩
theorem cut_has {b : List Nat} (hb : ∀ j : Nat, b[j]?.getD 0 < 256) {e : Enc} (h : Good e) {o s : Nat} (hs : 65536 ≤ s) (ho : o + s ≤ e.span) (hh : Has b (cutE e o s)) : Has b e := by
  obtain ⟨a1, a2, a3⟩ := cut_back hb h hs ho hh
  exact ⟨by omega, by omega, a3⟩
theorem bit_has {b : List Nat} (hb : ∀ j : Nat, b[j]?.getD 0 < 256) {e : Enc} (h : Good e) {c : Nat} (h1 : 31 ≤ c) (h2 : c ≤ 2017) (one : Bool) (hh : Has b (bitE e c one)) : Has b e := by
  have := boundN_lt h1 h2 h.ok.s1
  unfold bitE at hh
  split at hh
  · exact cut_has hb h (by omega) (by omega) hh
  · exact cut_has hb h (by omega) (by omega) hh
theorem half_has {b : List Nat} (hb : ∀ j : Nat, b[j]?.getD 0 < 256) {e : Enc} (h : Good e) (one : Bool) (hh : Has b (halfE e one)) : Has b e := by
  have := h.ok.s1
  exact cut_has (o := if one then e.span / 2 else 0) (s := e.span / 2) hb h (by omega) (by split <;> omega) hh
theorem dir_has {b : List Nat} (hb : ∀ j : Nat, b[j]?.getD 0 < 256) (x k : Nat) : ∀ {e : Enc}, Good e → Has b (dirE x k e) → Has b e := by
  induction k with
  | zero => exact fun _ h => h
  | succ k ih => exact fun h hh => half_has hb h _ (ih (halfE_good h _) hh)

/-- The decoder, in order, that stands where the encoder stood. -/
def syncD (b : List Nat) (e : Enc) : Dec := ⟨e.span, val (b.take (manyE e + 4)) - totE e, b.drop (manyE e + 4), false⟩
theorem sync_cut {b : List Nat} (hb : ∀ j : Nat, b[j]?.getD 0 < 256) {e : Enc} (h : Good e) {o s : Nat} (hs : 65536 ≤ s) (ho : o + s ≤ e.span) (hh : Has b (cutE e o s)) :
    ordD ⟨s, val (b.take (manyE e + 4)) - totE e - o, b.drop (manyE e + 4), false⟩ = syncD b (cutE e o s) := by
  obtain ⟨l1, l2, l3⟩ := cut_back hb h hs ho hh
  have l4 := hh.len
  have hs2 := h.ok.s2
  unfold ordD syncD
  rcases cutE_tot h hs ho with ⟨q, a1, a2, a3⟩ | ⟨q, a1, a2, a3⟩
  · rw [a1, a2, a3, if_neg (by show ¬ s < _; omega)]
    rw [show val (b.take (manyE e + 4)) - totE e - o = val (b.take (manyE e + 4)) - (totE e + o) from by omega]
  · rw [a3] at l4
    have ht := val_take b (manyE e + 4) (by omega)
    have hx := hb (manyE e + 4)
    have hd : b.drop (manyE e + 4) = (b[manyE e + 4]?.getD 0) :: b.drop (manyE e + 4 + 1) := by
      rw [List.drop_eq_getElem_cons (by omega), List.getElem?_eq_getElem (by omega)]
      rfl
    rw [a1, a2, a3, show manyE e + 1 + 4 = manyE e + 4 + 1 from by omega, ht, if_pos (by show s < _; omega)]
    unfold takeD
    simp only [hd]
    rw [Nat.mod_eq_of_lt (by omega)]
    rw [show (val (b.take (manyE e + 4)) - totE e - o) * 256 + b[manyE e + 4]?.getD 0 = val (b.take (manyE e + 4)) * 256 + b[manyE e + 4]?.getD 0 - (totE e + o) * 256 from by omega]
/-- A bit that went in comes out. -/
theorem bit_sync {b : List Nat} (hb : ∀ j : Nat, b[j]?.getD 0 < 256) {e : Enc} (h : Good e) {c : Nat} (h1 : 31 ≤ c) (h2 : c ≤ 2017) (one : Bool) (hh : Has b (bitE e c one)) {d : Dec} (hd : ordD d = syncD b e) :
    oneD (ordD d) c = one ∧ ordD (narD (ordD d) c) = syncD b (bitE e c one) := by
  have hbd := boundN_lt h1 h2 h.ok.s1
  rw [hd]
  cases one with
  | true =>
    have hh' : Has b (cutE e (boundN e.span c) (e.span - boundN e.span c)) := hh
    obtain ⟨l1, l2, l3⟩ := cut_back hb h (by omega) (by omega) hh'
    have e1 : oneD (syncD b e) c = true := by
      unfold oneD syncD
      simp only [Bool.not_eq_true', decide_eq_false_iff_not]
      omega
    refine ⟨e1, ?_⟩
    unfold narD
    rw [if_pos e1]
    have := sync_cut (o := boundN e.span c) (s := e.span - boundN e.span c) hb h (by omega) (by omega) hh'
    exact this
  | false =>
    have hh' : Has b (cutE e 0 (boundN e.span c)) := hh
    obtain ⟨l1, l2, l3⟩ := cut_back hb h (by omega) (by omega) hh'
    have e1 : oneD (syncD b e) c = false := by
      unfold oneD syncD
      simp only [Bool.not_eq_false', decide_eq_true_eq]
      omega
    refine ⟨e1, ?_⟩
    unfold narD
    rw [if_neg (by rw [e1]; decide)]
    have := sync_cut (o := 0) (s := boundN e.span c) hb h (by omega) (by omega) hh'
    rw [Nat.sub_zero] at this
    exact this
theorem half_sync {b : List Nat} (hb : ∀ j : Nat, b[j]?.getD 0 < 256) {e : Enc} (h : Good e) (one : Bool) (hh : Has b (halfE e one)) {d : Dec} (hd : ordD d = syncD b e) :
    topD (ordD d) = one ∧ ordD (halfD (ordD d)) = syncD b (halfE e one) := by
  have hs1 := h.ok.s1
  rw [hd]
  cases one with
  | true =>
    have hh' : Has b (cutE e (e.span / 2) (e.span / 2)) := hh
    obtain ⟨l1, l2, l3⟩ := cut_back hb h (by omega) (by omega) hh'
    have e1 : topD (syncD b e) = true := by
      unfold topD syncD
      simp only [decide_eq_true_eq]
      omega
    refine ⟨e1, ?_⟩
    unfold halfD
    rw [if_pos e1]
    have := sync_cut (o := e.span / 2) (s := e.span / 2) hb h (by omega) (by omega) hh'
    exact this
  | false =>
    have hh' : Has b (cutE e 0 (e.span / 2)) := hh
    obtain ⟨l1, l2, l3⟩ := cut_back hb h (by omega) (by omega) hh'
    have e1 : topD (syncD b e) = false := by
      unfold topD syncD
      simp only [decide_eq_false_iff_not]
      omega
    refine ⟨e1, ?_⟩
    unfold halfD
    rw [if_neg (by rw [e1]; decide)]
    have := sync_cut (o := 0) (s := e.span / 2) hb h (by omega) (by omega) hh'
    rw [Nat.sub_zero] at this
    exact this
theorem dir_sync {b : List Nat} (hb : ∀ j : Nat, b[j]?.getD 0 < 256) (x k : Nat) : ∀ {e : Enc} (d : Dec) (y : Nat), Good e → Has b (dirE x k e) → ordD d = syncD b e →
    ordD (dirD k d y).1 = syncD b (dirE x k e) ∧ (dirD k d y).2 = y * 2 ^ k + x % 2 ^ k := by
  induction k with
  | zero => exact fun d y _ _ hd => ⟨hd, by simp [dirD, Nat.mod_one]⟩
  | succ k ih =>
    intro e d y h hh hd
    have hh1 : Has b (halfE e (x / 2 ^ k % 2 == 1)) := dir_has hb x k (halfE_good h _) hh
    obtain ⟨s1, s2⟩ := half_sync hb h _ hh1 hd
    obtain ⟨t1, t2⟩ := ih (halfD (ordD d)) (y * 2 + if topD (ordD d) then 1 else 0) (halfE_good h _) hh s2
    refine ⟨t1, ?_⟩
    show (dirD k (halfD (ordD d)) (y * 2 + if topD (ordD d) then 1 else 0)).2 = _
    rw [t2, s1, Nat.mod_pow_succ, Nat.pow_succ]
    have : (if (x / 2 ^ k % 2 == 1) = true then 1 else 0) = x / 2 ^ k % 2 := by
      rcases Nat.mod_two_eq_zero_or_one (x / 2 ^ k) with q | q <;> rw [q] <;> rfl
    rw [this, Nat.add_mul, Nat.mul_assoc, Nat.mul_comm 2 (2 ^ k), Nat.mul_comm (x / 2 ^ k % 2)]
    omega
/-- Where all was read. -/
theorem sync_end {e : Enc} (h : Good e) : syncD (closeE e).out e = ⟨e.span, 0, [], false⟩ := by
  obtain ⟨h1, h2⟩ := closeE_val h
  unfold syncD
  rw [List.take_of_length_le (by omega), h1, Nat.sub_self, List.drop_of_length_le (by omega)]
/-- Where a decoder begins. -/
def newD (b : List Nat) : Dec := ⟨4294967295, val ((b.drop 1).take 4), b.drop 5, false⟩
theorem sync_new {b : List Nat} (h5 : 5 ≤ b.length) (h0 : b[0]?.getD 0 = 0) : ordD (newD b) = syncD b newE := by
  have ht : totE newE = 0 := by decide
  unfold ordD syncD
  rw [if_neg (by show ¬ 4294967295 < 16777216; omega), ht]
  show newD b = ⟨4294967295, val (b.take 5) - 0, b.drop 5, false⟩
  cases b with
  | nil => simp at h5
  | cons x r =>
    have : x = 0 := by simpa using h0
    subst this
    unfold newD
    rw [List.drop_succ_cons, List.drop_zero, Nat.sub_zero, List.take_succ_cons, val_cons, Nat.zero_mul, Nat.zero_add]

end Go.Proofs.YtinhlkioeadfdaaDoor
