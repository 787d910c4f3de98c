/-
  Steps as plain lists: what they tell, and how many there are.
-/
import Derived.Test.YtlpibfonpfhakaaDoorWiden
namespace Go.Proofs.YtlpibfonpfhakaaDoor
set_option linter.unusedVariables false

abbrev Trip := Nat × Nat × Nat
/-- Steps with matches tell the text from a place on up to another. -/
def Cov (c : Cf) (from_ told : Nat) : List Trip → Prop
  | [] => from_ = told
  | (l, m, b) :: r => OkM c (from_ + l) m b ∧ Cov c (from_ + l + m) told r
theorem Cov.snoc {c : Cf} {told l m b : Nat} : ∀ {L : List Trip} {from_ : Nat}, Cov c from_ told L → OkM c (told + l) m b → Cov c from_ (told + l + m) (L ++ [(l, m, b)])
  | [], from_, h, hM => by
    have e : from_ = told := h
    subst e
    exact ⟨hM, rfl⟩
  | (l', m', b') :: r, from_, h, hM => ⟨h.1, Cov.snoc h.2 hM⟩
theorem Cov.nil {c : Cf} {from_ : Nat} (h2 : 2 ≤ c.least) : ∀ {L : List Trip} {told : Nat}, Cov c from_ told L → told ≤ from_ → L = []
  | [], _, _, _ => rfl
  | (l, m, b) :: r, told, h, hle => by
    have h1 := h.1.lo
    have : ∀ {L : List Trip} {f : Nat}, Cov c f told L → f ≤ told := by
      intro L
      induction L with
      | nil => intro f hf; exact Nat.le_of_eq hf
      | cons t r ih =>
        intro f hf
        obtain ⟨l', m', b'⟩ := t
        have := ih hf.2
        omega
    have := this h.2
    omega
/-- The steps of a text, the last one maybe without a match. -/
def RightL (c : Cf) (p : Nat) : List Trip → Prop
  | [] => p = c.bs.length
  | (l, m, b) :: r => (m = 0 ∧ r = [] ∧ b = 0 ∧ l ≠ 0 ∧ p + l = c.bs.length) ∨ (OkM c (p + l) m b ∧ RightL c (p + l + m) r)
theorem Cov.right {c : Cf} {told : Nat} : ∀ {L : List Trip} {from_ : Nat}, Cov c from_ told L → told = c.bs.length → RightL c from_ L
  | [], from_, h, e => by have e2 : from_ = told := h; exact e2.trans e
  | (l, m, b) :: r, from_, h, e => .inr ⟨h.1, Cov.right h.2 e⟩
theorem Cov.rightLast {c : Cf} {told : Nat} : ∀ {L : List Trip} {from_ : Nat}, Cov c from_ told L → told < c.bs.length → RightL c from_ (L ++ [(c.bs.length - told, 0, 0)])
  | [], from_, h, e => by
    have e2 : from_ = told := h
    subst e2
    exact .inl ⟨rfl, rfl, rfl, by omega, by omega⟩
  | (l, m, b) :: r, from_, h, e => .inr ⟨h.1, Cov.rightLast h.2 e⟩
/-- All bytes from a place on are the same. -/
def Uni (c : Cf) (from_ : Nat) : Prop := ∀ i, from_ ≤ i → i + 1 < c.bs.length → byteN c.bs i = byteN c.bs (i + 1)
theorem Uni.full {c : Cf} {from_ p : Nat} (h : Uni c from_) (hp : from_ < p) (hl : p + c.least ≤ c.bs.length) : Full c p :=
  ⟨by omega, hl, fun i hi => by
    have := h (p - 1 + i) (by omega) (by unfold limN at hi; omega)
    rwa [show p - 1 + i + 1 = p + i from by omega] at this⟩
/-- How far a search has come, and what it has told. -/
structure InvS (c : Cf) (from_ p told vain : Nat) (L : List Trip) : Prop where
  f : from_ ≤ told
  t : told ≤ p
  pn : p ≤ c.bs.length
  v : vain ≤ p
  cov : Cov c from_ told L
  len : L.length ≤ told
  uni : Uni c from_ → (p = told ∨ (L = [] ∧ p = from_ + 1) ∨ c.bs.length < p + c.least) ∧ (L = [] ∨ (told = c.bs.length ∧ L.length ≤ 2 + (c.bs.length - from_) / c.most) ∨ (L.length - 1) * c.most ≤ told - from_)
theorem InvS.start (c : Cf) (from_ : Nat) (h : from_ ≤ c.bs.length) : InvS c from_ from_ from_ 0 [] :=
  ⟨Nat.le_refl _, Nat.le_refl _, h, Nat.zero_le _, rfl, Nat.zero_le _, fun _ => ⟨.inl rfl, .inl rfl⟩⟩
theorem InvS.next {c : Cf} {from_ p told vain : Nat} {L : List Trip} (h : InvS c from_ p told vain L) (h2 : 2 ≤ c.least) (hl : c.least ≤ c.most) (hp : p < c.bs.length) (hF : Full c p → False) : InvS c from_ (p + 1) told (vain + 1) L := by
  refine ⟨h.f, by have := h.t; omega, by omega, by have := h.v; omega, h.cov, h.len, fun hu => ⟨?_, (h.uni hu).2⟩⟩
  by_cases e : c.bs.length < p + c.least
  · exact .inr (.inr (by omega))
  · have hpf : p = from_ := by
      rcases Nat.lt_or_ge from_ p with q | q
      · exact (hF (hu.full q (by omega))).elim
      · have := h.f; have := h.t; omega
    have : L = [] := h.cov.nil h2 (by have := h.t; omega)
    exact .inr (.inl ⟨this, by omega⟩)
theorem div_le {k m n : Nat} (hm : 0 < m) (h : k * m ≤ n) : k ≤ n / m := (Nat.le_div_iff_mul_le hm).2 h
theorem InvS.match_ {c : Cf} {from_ p told vain a m b d a' m' vain' : Nat} {L : List Trip} (h : InvS c from_ p told vain L) (h2 : 2 ≤ c.least) (hl : c.least ≤ c.most) (hp : p < c.bs.length) (hM : OkM c a m b) (hpa : p ≤ a)
    (hF : Full c p → a = p ∧ m = limN c p) (hd : d = max told (a + m - c.most)) (hW : Wid c a m b d a' m') (hv : vain' ≤ vain) :
    told ≤ a' ∧ a' + m' = a + m ∧ InvS c from_ (a' + m') (a' + m') vain' (L ++ [(a' - told, m', b)]) := by
  have e1 := h.t
  have e2 := h.f
  have e3 := hM.hi
  have e4 := hM.lo
  have w1 := hW.low (by omega)
  have w2 := hW.same (by omega)
  have w3 := hW.ok.lo
  have w4 := hW.ok.fin
  have w5 := hW.le
  have hta : told ≤ a' := by omega
  refine ⟨hta, w2, ⟨by omega, Nat.le_refl _, w4, by have := h.v; omega, ?_, by have := h.len; rw [List.length_append, List.length_singleton]; omega, fun hu => ⟨.inl rfl, ?_⟩⟩⟩
  · have := h.cov.snoc (l := a' - told) (m := m') (b := b) (by rw [show told + (a' - told) = a' from by omega]; exact hW.ok)
    rwa [show told + (a' - told) + m' = a' + m' from by omega] at this
  · rw [List.length_append, List.length_singleton]
    by_cases hL : L = []
    · subst hL
      exact .inr (.inr (by simp))
    · obtain ⟨u1, u2⟩ := h.uni hu
      have hpt : p = told := by
        rcases u1 with q | q | q
        · exact q
        · exact absurd q.1 hL
        · have := hM.fin; omega
      have hgt : from_ < p := by
        rcases Nat.lt_or_ge from_ p with q | q
        · exact q
        · exact absurd (h.cov.nil h2 (by omega)) hL
      have hmf := hM.fin
      obtain ⟨f1, f2⟩ := hF (hu.full hgt (by omega))
      have hpos : 0 < L.length := List.length_pos_iff.2 hL
      have hc : (L.length - 1) * c.most ≤ told - from_ := by
        rcases u2 with q | q | q
        · exact absurd q hL
        · omega
        · exact q
      have hmul : L.length * c.most = (L.length - 1) * c.most + c.most := by
        obtain ⟨k, hk⟩ : ∃ k, L.length = k + 1 := ⟨L.length - 1, by omega⟩
        rw [hk, Nat.add_sub_cancel, Nat.add_mul, Nat.one_mul]
      by_cases hm : m = c.most
      · exact .inr (.inr (by rw [Nat.add_sub_cancel, hmul]; omega))
      · refine .inr (.inl ⟨by unfold limN at f2; omega, ?_⟩)
        have := div_le (m := c.most) (n := c.bs.length - from_) (by omega) (Nat.le_trans hc (by omega))
        omega
/-- What is told at the end. -/
structure Told (c : Cf) (from_ : Nat) (L : List Trip) : Prop where
  right : RightL c from_ L
  few : Uni c from_ → L.length ≤ 2 + (c.bs.length - from_) / c.most
theorem InvS.few {c : Cf} {from_ p told vain : Nat} {L : List Trip} (h : InvS c from_ p told vain L) (hm : 0 < c.most) (hu : Uni c from_) : L.length ≤ 1 + (c.bs.length - from_) / c.most ∨ (told = c.bs.length ∧ L.length ≤ 2 + (c.bs.length - from_) / c.most) := by
  rcases (h.uni hu).2 with q | q | q
  · subst q; left; simp
  · exact .inr q
  · left
    have := div_le (m := c.most) (n := c.bs.length - from_) hm (Nat.le_trans q (by have := h.t; have := h.pn; omega))
    omega
theorem InvS.done {c : Cf} {from_ p told vain : Nat} {L : List Trip} (h : InvS c from_ p told vain L) (hm : 0 < c.most) (e : told = c.bs.length) : Told c from_ L :=
  ⟨h.cov.right e, fun hu => by rcases h.few hm hu with q | q <;> omega⟩
theorem InvS.rest {c : Cf} {from_ p told vain : Nat} {L : List Trip} (h : InvS c from_ p told vain L) (hm : 0 < c.most) (e : told < c.bs.length) : Told c from_ (L ++ [(c.bs.length - told, 0, 0)]) :=
  ⟨h.cov.rightLast e, fun hu => by
    rw [List.length_append, List.length_singleton]
    rcases h.few hm hu with q | q <;> omega⟩
end Go.Proofs.YtlpibfonpfhakaaDoor
