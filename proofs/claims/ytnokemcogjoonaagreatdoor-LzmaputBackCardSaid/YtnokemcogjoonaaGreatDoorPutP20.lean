/-
  Steps as plain lists: what they tell, and how many there are.
  A region that draws its order and ends with a store into what it has read: loads may be taken first all the same, since the store waits for all of them.
  steps: the steps behind the first bytes.
-/
import Derived.OrdersHeld
import Derived.RegionTactic
import Derived.Deep.DeepCutAuto
import Derived.Test.YtnokemcogjoonaaGreatDoorPutP3
import Derived.Test.YtnokemcogjoonaaGreatDoorPutP12
import Derived.Test.YtnokemcogjoonaaGreatDoorPutP18
import Derived.Test.YtnokemcogjoonaaGreatDoorPutP19
namespace Go.Proofs.YtnokemcogjoonaaGreatDoor.Fd
set_option linter.unusedVariables false

abbrev Trip := Nat × Nat × Nat
/-- Steps with matches tell the text from a place on up to another. -/
def Cov (c : Cf) (from_ told : Nat) : List Trip → Prop
  | [] => from_ = told
  | (l, m, b) :: r => OkM c (from_ + l) m b ∧ Cov c (from_ + l + m) told r
theorem Cov.snoc {c : Cf} {told l m b : Nat} : ∀ {L : List Trip} {from_ : Nat}, Cov c from_ told L → OkM c (told + l) m b → Cov c from_ (told + l + m) (L ++ [(l, m, b)])
  | [], from_, h, hM => by
    have e : from_ = told := h
    subst e
    exact ⟨hM, rfl⟩
  | (l', m', b') :: r, from_, h, hM => ⟨h.1, Cov.snoc h.2 hM⟩
theorem Cov.nil {c : Cf} {from_ : Nat} (h2 : 2 ≤ c.least) : ∀ {L : List Trip} {told : Nat}, Cov c from_ told L → told ≤ from_ → L = []
  | [], _, _, _ => rfl
  | (l, m, b) :: r, told, h, hle => by
    have h1 := h.1.lo
    have : ∀ {L : List Trip} {f : Nat}, Cov c f told L → f ≤ told := by
      intro L
      induction L with
      | nil => intro f hf; exact Nat.le_of_eq hf
      | cons t r ih =>
        intro f hf
        obtain ⟨l', m', b'⟩ := t
        have := ih hf.2
        omega
    have := this h.2
    omega
/-- The steps of a text, the last one maybe without a match. -/
def RightL (c : Cf) (p : Nat) : List Trip → Prop
  | [] => p = c.bs.length
  | (l, m, b) :: r => (m = 0 ∧ r = [] ∧ b = 0 ∧ l ≠ 0 ∧ p + l = c.bs.length) ∨ (OkM c (p + l) m b ∧ RightL c (p + l + m) r)
theorem Cov.right {c : Cf} {told : Nat} : ∀ {L : List Trip} {from_ : Nat}, Cov c from_ told L → told = c.bs.length → RightL c from_ L
  | [], from_, h, e => by have e2 : from_ = told := h; exact e2.trans e
  | (l, m, b) :: r, from_, h, e => .inr ⟨h.1, Cov.right h.2 e⟩
theorem Cov.rightLast {c : Cf} {told : Nat} : ∀ {L : List Trip} {from_ : Nat}, Cov c from_ told L → told < c.bs.length → RightL c from_ (L ++ [(c.bs.length - told, 0, 0)])
  | [], from_, h, e => by
    have e2 : from_ = told := h
    subst e2
    exact .inl ⟨rfl, rfl, rfl, by omega, by omega⟩
  | (l, m, b) :: r, from_, h, e => .inr ⟨h.1, Cov.rightLast h.2 e⟩
/-- All bytes from a place on are the same. -/
def Uni (c : Cf) (from_ : Nat) : Prop := ∀ i, from_ ≤ i → i + 1 < c.bs.length → byteN c.bs i = byteN c.bs (i + 1)
theorem Uni.full {c : Cf} {from_ p : Nat} (h : Uni c from_) (hp : from_ < p) (hl : p + c.least ≤ c.bs.length) : Full c p :=
  ⟨by omega, hl, fun i hi => by
    have := h (p - 1 + i) (by omega) (by unfold limN at hi; omega)
    rwa [show p - 1 + i + 1 = p + i from by omega] at this⟩
/-- How far a search has come, and what it has told. -/
structure InvS (c : Cf) (from_ p told vain : Nat) (L : List Trip) : Prop where
  f : from_ ≤ told
  t : told ≤ p
  pn : p ≤ c.bs.length
  v : vain ≤ p
  cov : Cov c from_ told L
  len : L.length ≤ told
  uni : Uni c from_ → (p = told ∨ (L = [] ∧ p = from_ + 1) ∨ c.bs.length < p + c.least) ∧ (L = [] ∨ (told = c.bs.length ∧ L.length ≤ 2 + (c.bs.length - from_) / c.most) ∨ (L.length - 1) * c.most ≤ told - from_)
theorem InvS.start (c : Cf) (from_ : Nat) (h : from_ ≤ c.bs.length) : InvS c from_ from_ from_ 0 [] :=
  ⟨Nat.le_refl _, Nat.le_refl _, h, Nat.zero_le _, rfl, Nat.zero_le _, fun _ => ⟨.inl rfl, .inl rfl⟩⟩
theorem InvS.next {c : Cf} {from_ p told vain : Nat} {L : List Trip} (h : InvS c from_ p told vain L) (h2 : 2 ≤ c.least) (hl : c.least ≤ c.most) (hp : p < c.bs.length) (hF : Full c p → False) : InvS c from_ (p + 1) told (vain + 1) L := by
  refine ⟨h.f, by have := h.t; omega, by omega, by have := h.v; omega, h.cov, h.len, fun hu => ⟨?_, (h.uni hu).2⟩⟩
  by_cases e : c.bs.length < p + c.least
  · exact .inr (.inr (by omega))
  · have hpf : p = from_ := by
      rcases Nat.lt_or_ge from_ p with q | q
      · exact (hF (hu.full q (by omega))).elim
      · have := h.f; have := h.t; omega
    have : L = [] := h.cov.nil h2 (by have := h.t; omega)
    exact .inr (.inl ⟨this, by omega⟩)
theorem div_le {k m n : Nat} (hm : 0 < m) (h : k * m ≤ n) : k ≤ n / m := (Nat.le_div_iff_mul_le hm).2 h
theorem InvS.match_ {c : Cf} {from_ p told vain a m b d a' m' vain' : Nat} {L : List Trip} (h : InvS c from_ p told vain L) (h2 : 2 ≤ c.least) (hl : c.least ≤ c.most) (hp : p < c.bs.length) (hM : OkM c a m b) (hpa : p ≤ a)
    (hF : Full c p → a = p ∧ m = limN c p) (hd : d = max told (a + m - c.most)) (hW : Wid c a m b d a' m') (hv : vain' ≤ vain) :
    told ≤ a' ∧ a' + m' = a + m ∧ InvS c from_ (a' + m') (a' + m') vain' (L ++ [(a' - told, m', b)]) := by
  have e1 := h.t
  have e2 := h.f
  have e3 := hM.hi
  have e4 := hM.lo
  have w1 := hW.low (by omega)
  have w2 := hW.same (by omega)
  have w3 := hW.ok.lo
  have w4 := hW.ok.fin
  have w5 := hW.le
  have hta : told ≤ a' := by omega
  refine ⟨hta, w2, ⟨by omega, Nat.le_refl _, w4, by have := h.v; omega, ?_, by have := h.len; rw [List.length_append, List.length_singleton]; omega, fun hu => ⟨.inl rfl, ?_⟩⟩⟩
  · have := h.cov.snoc (l := a' - told) (m := m') (b := b) (by rw [show told + (a' - told) = a' from by omega]; exact hW.ok)
    rwa [show told + (a' - told) + m' = a' + m' from by omega] at this
  · rw [List.length_append, List.length_singleton]
    by_cases hL : L = []
    · subst hL
      exact .inr (.inr (by simp))
    · obtain ⟨u1, u2⟩ := h.uni hu
      have hpt : p = told := by
        rcases u1 with q | q | q
        · exact q
        · exact absurd q.1 hL
        · have := hM.fin; omega
      have hgt : from_ < p := by
        rcases Nat.lt_or_ge from_ p with q | q
        · exact q
        · exact absurd (h.cov.nil h2 (by omega)) hL
      have hmf := hM.fin
      obtain ⟨f1, f2⟩ := hF (hu.full hgt (by omega))
      have hpos : 0 < L.length := List.length_pos_iff.2 hL
      have hc : (L.length - 1) * c.most ≤ told - from_ := by
        rcases u2 with q | q | q
        · exact absurd q hL
        · omega
        · exact q
      have hmul : L.length * c.most = (L.length - 1) * c.most + c.most := by
        obtain ⟨k, hk⟩ : ∃ k, L.length = k + 1 := ⟨L.length - 1, by omega⟩
        rw [hk, Nat.add_sub_cancel, Nat.add_mul, Nat.one_mul]
      by_cases hm : m = c.most
      · exact .inr (.inr (by rw [Nat.add_sub_cancel, hmul]; omega))
      · refine .inr (.inl ⟨by unfold limN at f2; omega, ?_⟩)
        have := div_le (m := c.most) (n := c.bs.length - from_) (by omega) (Nat.le_trans hc (by omega))
        omega
/-- What is told at the end. -/
structure Told (c : Cf) (from_ : Nat) (L : List Trip) : Prop where
  right : RightL c from_ L
  few : Uni c from_ → L.length ≤ 2 + (c.bs.length - from_) / c.most
theorem InvS.few {c : Cf} {from_ p told vain : Nat} {L : List Trip} (h : InvS c from_ p told vain L) (hm : 0 < c.most) (hu : Uni c from_) : L.length ≤ 1 + (c.bs.length - from_) / c.most ∨ (told = c.bs.length ∧ L.length ≤ 2 + (c.bs.length - from_) / c.most) := by
  rcases (h.uni hu).2 with q | q | q
  · subst q; left; simp
  · exact .inr q
  · left
    have := div_le (m := c.most) (n := c.bs.length - from_) hm (Nat.le_trans q (by have := h.t; have := h.pn; omega))
    omega
theorem InvS.done {c : Cf} {from_ p told vain : Nat} {L : List Trip} (h : InvS c from_ p told vain L) (hm : 0 < c.most) (e : told = c.bs.length) : Told c from_ L :=
  ⟨h.cov.right e, fun hu => by rcases h.few hm hu with q | q <;> omega⟩
theorem InvS.rest {c : Cf} {from_ p told vain : Nat} {L : List Trip} (h : InvS c from_ p told vain L) (hm : 0 < c.most) (e : told < c.bs.length) : Told c from_ (L ++ [(c.bs.length - told, 0, 0)]) :=
  ⟨h.cov.rightLast e, fun hu => by
    rw [List.length_append, List.length_singleton]
    rcases h.few hm hu with q | q <;> omega⟩
end Go.Proofs.YtnokemcogjoonaaGreatDoor.Fd

namespace Go.Proofs.YtnokemcogjoonaaGreatDoor.Fd
open Go.RowKit Go.Shelf

section
variable {P : Program} {ops : Array Oper} {Q : Exit → Go.Act → World → Prop} {md : Region.Mode} {S : World → Prop} {z : Nat}

/-- Whatever comes up next, and so on; behind each operation but z the world meets S. -/
def wpLast (P : Program) (md : Region.Mode) (ops : Array Oper) (Q : Exit → Go.Act → World → Prop) (S : World → Prop) (z : Nat) : Nat → Array Bool → Go.Act → World → Prop
  | 0, listed, a, w => Region.ready md ops listed = [] ∧ Q .normal a w
  | n + 1, listed, a, w => (Region.ready md ops listed = [] → Q .normal a w) ∧
      ∀ j ∈ Region.ready md ops listed, wpOp P ops Q j (fun a' w' => wpLast P md ops Q S z n (listed.setIfInBounds j true) a' w' ∧ (j ≠ z → S w')) a w
theorem any_of_last (n : Nat) : ∀ (listed : Array Bool) (a : Go.Act) (w : World), wpLast P md ops Q S z n listed a w → wpAny P md ops Q n listed a w := by
  induction n with
  | zero => exact fun _ _ _ h => h
  | succ n ih => exact fun _ _ _ h => ⟨h.1, fun j hj => wpOp_mono (fun a' w' q => ih _ a' w' q.1) (h.2 j hj)⟩
/-- Does operation z wait for operation i? -/
def waits (md : Region.Mode) (ops : Array Oper) (z i : Nat) : Bool := match ops[z]? with
  | some o => o.after.any (fun e => Region.binds md e && e.on == i)
  | none => true
theorem waits_not {i : Nat} {listed : Array Bool} (h : waits md ops z i = true) (hi : i ∈ Region.ready md ops listed) : z ∉ Region.ready md ops listed := by
  intro hz
  obtain ⟨_, o, ho, hall⟩ := mem_ready.1 hz
  have hun := (mem_ready.1 hi).1
  unfold waits at h
  rw [ho] at h
  obtain ⟨k, hk, e⟩ := Array.any_eq_true.1 h
  rw [Bool.and_eq_true, beq_iff_eq] at e
  have := hall _ (Array.getElem_mem hk) e.1
  rw [e.2] at this
  rcases Nat.lt_or_ge i listed.size with q | q
  · simp [q] at hun this
    rw [hun] at this
    cases this
  · simp [Array.getElem?_eq_none q] at this
theorem last_first {i : Nat} {oi : Oper} {v : Value} (hi : ops[i]? = some oi) (hsel : ∀ (j : Nat) (o : Oper) cs b, ops[j]? = some o → o.op ≠ .select cs b)
    (hQ : ∀ c a w, Q (.panic c) (a.put oi.dst v) w → Q (.panic c) a w) (hz : waits md ops z i = true) (n : Nat) :
    ∀ (listed : Array Bool) (a : Go.Act) (w : World), (∀ j oj, ops[j]? = some oj → j ≠ i → listed.getD j true = false → (∀ e ∈ oj.after, Region.binds md e = true → e.on ≠ i) → oi.apart ops oj = true) →
      i ∈ Region.ready md ops listed → YieldsIf P ops S oi v a → S w → wpLast P md ops Q S z n (listed.setIfInBounds i true) (a.put oi.dst v) w → wpLast P md ops Q S z (n + 1) listed a w := by
  induction n with
  | zero =>
    intro listed a w _ hr hy hS H
    refine ⟨fun e => absurd hr (by rw [e]; simp), fun j hj => ?_⟩
    rcases Nat.decEq j i with q | q
    · have q2 := ready_mono hj q
      rw [H.1] at q2
      cases q2
    · subst q
      exact hy.wpOp hi hS ⟨H, fun _ => hS⟩
  | succ n ih =>
    intro listed a w hfree hr hy hS H
    refine ⟨fun e => absurd hr (by rw [e]; simp), fun j hj => ?_⟩
    rcases Nat.decEq j i with q | q
    · obtain ⟨hun, oj, hoj, hall⟩ := mem_ready.1 hj
      have hni : ∀ e ∈ oj.after, Region.binds md e = true → e.on ≠ i := fun e he hb q1 => by
        have q2 := hall e he hb
        have q3 := (mem_ready.1 hr).1
        rw [q1] at q2
        rcases Nat.lt_or_ge i listed.size with q4 | q4
        · simp [q4] at q2 q3
          rw [q3] at q2
          cases q2
        · simp [Array.getElem?_eq_none q4] at q2
      have hjz : j ≠ z := fun e => waits_not hz hr (e ▸ hj)
      have hput := wpOp_putIf hoj (hfree j oj hoj q hun hni) (fun cs b => hsel i oi cs b hi) (fun cs b => hsel j oj cs b hoj) hQ hy (H.2 j (ready_mono hj q))
      refine wpOp_mono (fun a' w' r => ?_) hput
      have hS' := r.2.2 hjz
      refine ⟨ih (listed.setIfInBounds j true) a' w' (fun k ok hk hki hku hno => hfree k ok hk hki ?_ hno) (ready_mono hr (Ne.symm q)) r.1 hS' ?_, fun _ => hS'⟩
      · rcases Nat.decEq j k with q5 | q5
        · rwa [getD_set_ne true q5] at hku
        · subst q5; exact hun
      · rw [Array.setIfInBounds_comm _ _ q]
        exact r.2.1
    · subst q
      exact hy.wpOp hi hS ⟨H, fun _ => hS⟩
/-- Take number i first. -/
theorem last_take {i : Nat} {oi : Oper} {v : Value} {n : Nat} {listed : Array Bool} {a : Go.Act} {w : World} (hi : ops[i]? = some oi) (hs : Region.noSelect ops = true) (hf : Region.free md ops listed i = true) (hr : (Region.ready md ops listed).contains i = true)
    (hz : waits md ops z i = true) (hQ : ∀ c a w, Q (.panic c) (a.put oi.dst v) w → Q (.panic c) a w) (hy : YieldsIf P ops S oi v a) (hS : S w) (h : wpLast P md ops Q S z n (listed.setIfInBounds i true) (a.put oi.dst v) w) : wpLast P md ops Q S z (n + 1) listed a w :=
  last_first hi (Region.noSelect_spec hs) hQ hz n listed a w (Region.free_spec hi hf) (by simpa using hr) hy hS h
/-- Only number j can come up. -/
theorem last_one {j : Nat} {o : Oper} {n : Nat} {listed : Array Bool} {a : Go.Act} {w : World} (hr : Region.ready md ops listed = [j]) (ho : ops[j]? = some o)
    (h : ∀ K' : Go.Act → World → Prop, Shut (∀ a' w', (j ≠ z → S w') → wpLast P md ops Q S z n (listed.setIfInBounds j true) a' w' → K' a' w') → if Region.wanted o (yielded ops a.tmps) = true then Oper.wp P o a w K' Q else K' (a.put o.dst undef) w) : wpLast P md ops Q S z (n + 1) listed a w := by
  refine ⟨fun e => (by rw [hr] at e; cases e), fun i hi => ?_⟩
  rw [hr] at hi
  obtain rfl : i = j := by simpa using hi
  exact wpOp_step ho (fun K' hK => h K' (fun a' w' q1 q2 => hK a' w' ⟨q2, q1⟩))
theorem last_done {listed : Array Bool} {a : Go.Act} {w : World} (hr : Region.ready md ops listed = []) (h : Q .normal a w) : ∀ n, wpLast P md ops Q S z n listed a w
  | 0 => ⟨hr, h⟩
  | _ + 1 => ⟨fun _ => h, by rw [hr]; intro j hj; cases hj⟩
theorem region_last {id : Nat} {a : Go.Act} {w : World} (S : World → Prop) (z : Nat) (hm : P.follows .mixedOrders = true) (hS : S w.drew) (h : S w.drew → wpLast P .any ops Q S z ops.size (Array.replicate ops.size false) a w.drew) : (Code.region id ops true).wp P Q a w :=
  wp_region_any hm (any_of_last _ _ _ _ (h hS))
end
end Go.Proofs.YtnokemcogjoonaaGreatDoor.Fd

namespace Go.Proofs.YtnokemcogjoonaaGreatDoor.Fd
open Go.RowKit Go.Shelf
set_option linter.unusedVariables false

theorem IsS.set {w : World} {c : Cf} {p told vain p1 p2 : Nat} (h : IsS w c p told vain p1 p2) {i : Nat} {v : Value} {p' told' vain' : Nat} (hi : (srch c p told vain p1 p2).setIfInBounds i v = srch c p' told' vain' p1 p2) :
    IsS (w.setCell ⟨c.sb, i, none⟩ v) c p' told' vain' p1 p2 ∧ Keep (mine c) w (w.setCell ⟨c.sb, i, none⟩ v) := by
  have k : Keep (fun k => k = c.sb) w (w.setCell ⟨c.sb, i, none⟩ v) := (Keep.refl (fun k => k = c.sb) w).setCell (p := ⟨c.sb, i, none⟩) (fun _ => rfl) _
  obtain ⟨hs, os, T⟩ := h.tabs
  exact ⟨⟨h.ok, (set_obj h.obj i _).trans (by rw [hi]), ⟨hs, os, T.keep k (fun e => h.ok.sh e.symm) (fun e => h.ok.so e.symm)⟩, h.map.keep k (fun e => h.ok.sm e.symm), h.text.keep k (fun _ e => h.ok.sg e.symm)⟩, k.mono (fun _ _ e => .inl e)⟩
/-- A search at work, and the steps that it has told. -/
structure StK (w W : World) (c : Cf) (told vain p : Nat) (v : Value) (L : List Trip) : Prop where
  s : IsS W c p told vain p p
  k : Keep (mine c) w W
  lt : ∀ k, mine c k → k < w.heap.size
  glt : c.gb < w.heap.size
  own : ownsQ W v L
  new : ∀ g, v.ownBlock = some g → w.heap.size ≤ g
theorem StK.free {w W : World} {c : Cf} {told vain p : Nat} {v : Value} {L : List Trip} (h : StK w W c told vain p v L) : ∀ g, v.ownBlock = some g → ¬ mine c g := fun g hg e => by
  have := h.new g hg; have := h.lt g e; omega
theorem StK.step {w W W' : World} {c : Cf} {told vain p told' vain' p' : Nat} {v : Value} {L : List Trip} (h : StK w W c told vain p v L) (s' : IsS W' c p' told' vain' p' p') (hk : Keep (mine c) W W') : StK w W' c told' vain' p' v L :=
  ⟨s', h.k.trans' hk, h.lt, h.glt, ownsQ_kept h.own hk h.free, h.new⟩
theorem StK.still {w W W' : World} {c : Cf} {told vain p : Nat} {v : Value} {L : List Trip} (h : StK w W c told vain p v L) (hk : Keep noBlock W W') : StK w W' c told vain p v L :=
  h.step (h.s.still hk) (hk.mono (fun _ _ h => h.elim))
theorem StK.apart {w W W' : World} {c : Cf} {told vain p g : Nat} {v : Value} {L : List Trip} (h : StK w W c told vain p v L) (hg : w.heap.size ≤ g) (hv : v.ownBlock ≠ some g) (hk : Keep (fun k => k = g) W W') : StK w W' c told vain p v L :=
  ⟨h.s.apart h.lt h.glt hg hk, h.k.trans hk (fun i hi e => by omega), h.lt, h.glt, ownsQ_kept h.own hk (fun g' e e2 => hv (by rw [e, e2])), h.new⟩
theorem StK.app {w W W' : World} {c : Cf} {told vain p : Nat} {v v' : Value} {L L' : List Trip} (h : StK w W c told vain p v L) (own' : ownsQ W' v' L') (hk : Keep (fun k => v.ownBlock = some k) W W') (hn : v'.ownBlock = v.ownBlock ∨ ∃ k, v'.ownBlock = some k ∧ W.heap.size ≤ k) : StK w W' c told vain p v' L' := by
  have f : ∀ k, mine c k → ¬ v.ownBlock = some k := fun k hk e => h.free k e hk
  refine ⟨h.s.keep hk (f _ (.inl rfl)) (f _ (.inr (.inl rfl))) (f _ (.inr (.inr (.inl rfl)))) (f _ (.inr (.inr (.inr rfl)))) (fun e => by have := h.new _ e; have := h.glt; omega), h.k.trans hk (fun i hi e => by have := h.new i e; omega), h.lt, h.glt, own', fun g hg => ?_⟩
  rcases hn with e | ⟨k, e, hk2⟩
  · exact h.new g (by rw [← e]; exact hg)
  · rw [e] at hg
    have : k = g := by simpa using hg
    have := h.k.size
    omega
theorem ownsQ_ne {w : World} {v : Value} {L : List Trip} {g t : Nat} {cs : Array Value} (h : ownsQ w v L) (ho : w.heap[g]? = some (.cells cs t (0, 0))) (ht : t ≠ 46) : v.ownBlock ≠ some g := by
  intro hv
  rcases h.2 with ⟨rfl, _⟩ | ⟨g', cap, cur, rfl, _, hg, _⟩
  · cases hv
  · obtain rfl : g' = g := by simpa [Value.ownBlock] using hv
    rw [ho] at hg; simp at hg; exact ht hg.2

section
attribute [local go_sem] maxSem_eq
set_option maxRecDepth 100000 in
set_option maxHeartbeats 4000000 in
theorem steps_any (c : Cf) (from_ : Nat) (w : World) (h : IsS w c 0 0 0 0 0) (hf : from_ ≤ c.bs.length) :
    Calls Tryz.prog 25 #[.pointer (some ⟨c.sb, 0, none⟩), .int .i64 (from_ : Int)] w fun e w' => (∃ (v : Value) (L : List Trip), e = .returned v ∧ ownsQ w' v L ∧ (∀ g, v.ownBlock = some g → w.heap.size ≤ g) ∧ Told c from_ L ∧ L.length ≤ c.bs.length + 1) ∧ Keep (mine c) w w' := by
  have hn := h.ok.n
  have hl2 := h.ok.l2
  have hl3 := h.ok.l3
  have hm2 := h.ok.m2
  have HSK := skip_any c 0 0 0 from_ w h (Nat.zero_le _) hf
  rw [show max 0 from_ = from_ from by omega] at HSK
  have HS := (show Hid (StK w w c 0 0 0 (.slice none 0 0) []) from ⟨h, Keep.refl _ _, (mine_lt h).1, (mine_lt h).2, ownsQ_nil w, fun g e => by cases e⟩)
  clear h
  go_enter Tryz.func25, Tryz.ntmps25
  go_wp2_with fail
  refine HSK.mono ?_
  rintro e W1 ⟨rfl, s1, k1⟩
  have H1 := (show Hid (StK w W1 c 0 0 from_ (.slice none 0 0) []) from HS.out.step s1 k1)
  clear HSK HS s1 k1
  have c6 : W1.cell? ⟨c.sb, 6, none⟩ = some (.int .i64 0) := cell_of H1.out.s.obj 6
  have f6 := frozen_of H1.out.s.obj 6
  obtain ⟨s2, k2⟩ := H1.out.s.set (i := 6) (v := .int .i64 (from_ : Int)) (p' := from_) (told' := from_) (vain' := 0) rfl
  have H2 := (show Hid (StK w (W1.setCell ⟨c.sb, 6, none⟩ (.int .i64 (from_ : Int))) c from_ 0 from_ (.slice none 0 0) []) from H1.out.step s2 k2)
  clear s2 k2 H1
  go_wp2_with fail
  generalize W1.setCell ⟨c.sb, 6, none⟩ (.int .i64 (from_ : Int)) = W2 at *
  go_loopw [5] (fun v5 wr => ∃ (L : List Trip) (told vain p : Nat), Hid (StK w wr c told vain p v5 L ∧ InvS c from_ p told vain L)) (fun _ wr => c.bs.length - numAt wr ⟨c.sb, 5, none⟩)
  case atStart => exact ⟨[], from_, 0, from_, H2.out, InvS.start c from_ hf⟩
  case round =>
    clear H2 c6 f6
    obtain ⟨L, told, vain, p, HR⟩ := hrel
    have c0 : wr.cell? ⟨c.sb, 0, none⟩ = some (.slice (some ⟨c.gb, c.off, none⟩) c.bs.length c.cap) := cell_of HR.out.1.s.obj 0
    have c5 : wr.cell? ⟨c.sb, 5, none⟩ = some (.int .i64 (p : Int)) := cell_of HR.out.1.s.obj 5
    have c6 : wr.cell? ⟨c.sb, 6, none⟩ = some (.int .i64 (told : Int)) := cell_of HR.out.1.s.obj 6
    have HC5 := (show Hid (numAt wr ⟨c.sb, 5, none⟩ = p) from numAt_of c5)
    by_cases hlt : p < c.bs.length
    · have hltI : (p : Int) < (c.bs.length : Int) := by omega
      have hvb : vain < 65536 := by have := HR.out.2.v; omega
      go_wp2_with fail
      go_quiet (fail)
      have HR3 := (show Hid (StK w (wr.drewN nq) c told vain p u5 L) from HR.out.1.still (keep_drewN _ _))
      have HIV := (show Hid (InvS c from_ p told vain L) from HR.out.2)
      clear HR c0 c5 c6
      generalize wr.drewN nq = W3 at *
      go_wp2_with fail
      refine (next_any c p told vain W3 HR3.out.s (by omega) (by omega)).mono ?_
      rintro e W4 ⟨⟨a, m, b, p1, rfl, hab, hfu, s4⟩, k4⟩
      have HR4 := (show Hid (StK w W4 c told vain p1 u5 L) from HR3.out.step s4 k4)
      clear HR3 s4 k4
      obtain ⟨gm, hgm⟩ : ∃ gm, gm = W4.heap.size := ⟨_, rfl⟩
      have HR5 := (show Hid (StK w (W4.alloc (.cells (trio a m b) 145)) c told vain p1 u5 L ∧ (W4.alloc (.cells (trio a m b) 145)).heap[gm]? = some (.cells (trio a m b) 145 (0, 0)) ∧ w.heap.size ≤ gm) from ⟨HR4.out.still ((Keep.refl _ _).alloc _), by rw [hgm]; exact alloc_new W4 _, by rw [hgm]; exact HR4.out.k.size⟩)
      clear HR4
      by_cases hm0 : m = 0
      · have hmb : ((m : Int) == 0) = true := by simp [hm0]
        have hp1 : p1 = p := by
          rcases hab with e | e
          · exact e.2.2.2
          · have := e.1.lo; omega
        subst hp1
        have HIN := (show Hid (InvS c from_ (p1 + 1) told (vain + 1) L) from HIV.out.next hl2 hl3 hlt (fun hF => by have h1 := (hfu hF).2; have h2 := hF.fits; unfold limN at h1; omega))
        obtain ⟨vn, hvn⟩ : ∃ vn, vn = vain + 1 := ⟨_, rfl⟩
        obtain ⟨pn, hpn⟩ : ∃ pn, pn = p1 + 1 := ⟨_, rfl⟩
        have hadd1 : (vain : Int) + 1 = (vn : Int) := by omega
        have hadd2 : (p1 : Int) + 1 = (pn : Int) := by omega
        have U7 : (W4.alloc (.cells (trio a m b) 145)).cell? ⟨c.sb, 7, none⟩ = some (.int .i64 (vain : Int)) := cell_of HR5.out.1.s.obj 7
        have U5 : (W4.alloc (.cells (trio a m b) 145)).cell? ⟨c.sb, 5, none⟩ = some (.int .i64 (p1 : Int)) := cell_of HR5.out.1.s.obj 5
        have F7 := frozen_of HR5.out.1.s.obj 7
        obtain ⟨s6, k6⟩ := HR5.out.1.s.set (i := 7) (v := .int .i64 (vn : Int)) (p' := p1) (told' := told) (vain' := vn) rfl
        have HR6 := (show Hid (StK w ((W4.alloc (.cells (trio a m b) 145)).setCell ⟨c.sb, 7, none⟩ (.int .i64 (vn : Int))) c told vn p1 u5 L) from HR5.out.1.step s6 k6)
        have HSK := skip_any c p1 told vn pn _ HR6.out.s (by omega) (by omega)
        rw [show max p1 pn = pn from by omega] at HSK
        rw [← hvn, ← hpn] at HIN
        have HPN := (show Hid (pn = p1 + 1) from hpn)
        clear HR5 s6 k6 hab hfu hm0 hvn hpn HIV hgm
        go_wp2_with fail
        refine HSK.mono ?_
        rintro e W7 ⟨rfl, s7, k7⟩
        have HR7 := (show Hid (StK w W7 c told vn pn u5 L ∧ InvS c from_ pn told vn L) from ⟨HR6.out.step s7 k7, HIN.out⟩)
        clear HSK s7 k7 HR6 HIN U7 U5 F7
        go_wp2_with fail
        go_roundw
        case rel => exact ⟨L, told, vn, pn, HR7.out⟩
        case measure => rw [numAt_of (cell_of HR7.out.1.s.obj 5), HC5.out]; have := HPN.out; omega
      · have hmb : ((m : Int) == 0) = false := by rw [beq_eq_false_iff_ne]; omega
        have hM : OkM c a m b ∧ p ≤ a ∧ p ≤ p1 ∧ p1 < a + m := by
          rcases hab with e | e
          · omega
          · exact e
        have hMf := hM.1.fin
        have hMh := hM.1.hi
        obtain ⟨W5, hW5⟩ : ∃ W5, W5 = W4.alloc (.cells (trio a m b) 145) := ⟨_, rfl⟩
        rw [← hW5] at HR5
        have g0 : W5.cell? ⟨gm, 0, none⟩ = some (.int .i64 (a : Int)) := cell_of HR5.out.2.1 0
        have g1 : W5.cell? ⟨gm, 1, none⟩ = some (.int .i64 (m : Int)) := cell_of HR5.out.2.1 1
        have g2 : W5.cell? ⟨gm, 2, none⟩ = some (.int .i64 (b : Int)) := cell_of HR5.out.2.1 2
        have d6 : W5.cell? ⟨c.sb, 6, none⟩ = some (.int .i64 (told : Int)) := cell_of HR5.out.1.s.obj 6
        have d4 : W5.cell? ⟨c.sb, 4, none⟩ = some (.int .i64 (c.most : Int)) := cell_of HR5.out.1.s.obj 4
        obtain ⟨am, ham⟩ : ∃ am, am = a + m := ⟨_, rfl⟩
        have hadd : (a : Int) + (m : Int) = (am : Int) := by omega
        have haw : IntKind.i64.wrap (am : Int) = (am : Int) := by rw [IntKind.wrap_i64]; omega
        obtain ⟨dd, hdd⟩ : ∃ dd : Int, dd = (am : Int) - (c.most : Int) := ⟨_, rfl⟩
        have hsub : (am : Int) - (c.most : Int) = dd := hdd.symm
        have hdw : IntKind.i64.wrap dd = dd := by rw [IntKind.wrap_i64]; omega
        obtain ⟨d, hd⟩ : ∃ d, d = max told (a + m - c.most) := ⟨_, rfl⟩
        have hmax := maxSem_run #[3, 3] 3 (told : Int) dd (d : Int) (by omega)
        have HWD := (show Hid (∀ W, Keep noBlock W5 W → Calls Tryz.prog 43 #[.pointer (some ⟨c.sb, 0, none⟩), .agg (trio a m b), .int .i64 (d : Int)] W fun e w' => (∃ a' m' : Nat, e = .returned (.agg (trio a' m' b)) ∧ Wid c a m b d a' m') ∧ Keep noBlock W w') from
          fun W kW => widen_ok c p1 told vain a m b d W (HR5.out.1.s.still kW) hM.1)
        have HMT := (show Hid (∀ a' m' vain', Wid c a m b d a' m' → vain' ≤ vain → told ≤ a' ∧ a' + m' = a + m ∧ InvS c from_ (a' + m') (a' + m') vain' (L ++ [(a' - told, m', b)])) from
          fun a' m' vain' hW hv => HIV.out.match_ hl2 hl3 hlt hM.1 hM.2.1 hfu hd hW hv)
        have hgsb : gm ≠ c.sb := fun e => by have := HR5.out.1.lt _ (.inl rfl); have := HR5.out.2.2; omega
        have hgsb' := hgsb.symm
        have HPM := (show Hid (p1 < a + m ∧ p ≤ p1 ∧ a + m ≤ c.bs.length ∧ told < 65536 ∧ L.length < 65536 ∧ p < a + m) from ⟨hM.2.2.2, hM.2.2.1, hMf, by have := HIV.out.t; omega, by have h1 := HIV.out.len; have h2 := HIV.out.t; omega, by omega⟩)
        clear hab hfu hm0 HIV hM hMf hMh ham hdd hd
        go_wp2_with fail
        rw [← hW5, ← hgm]
        clear hW5 hgm
        go_cut [] (fun wc => ∃ a' m' : Nat, Hid (StK w wc c told vain p1 u5 L ∧ wc.heap[gm]? = some (.cells (trio a' m' b) 145 (0, 0)) ∧ Wid c a m b d a' m'))
        case first =>
          refine region_last (fun W' => W'.cell? ⟨gm, 0, none⟩ = some (.int .i64 (a : Int)) ∧ W'.cell? ⟨gm, 1, none⟩ = some (.int .i64 (m : Int)) ∧ W'.cell? ⟨gm, 2, none⟩ = some (.int .i64 (b : Int)) ∧ W'.cell? ⟨c.sb, 6, none⟩ = some (.int .i64 (told : Int)) ∧ W'.cell? ⟨c.sb, 4, none⟩ = some (.int .i64 (c.most : Int))) 18 (by kernel_rfl) ⟨g0, g1, g2, d6, d4⟩ (fun hS => ?_)
          refine last_take (i := 0) (v := ?_) rfl (by kernel_rfl) (by kernel_rfl) (by kernel_rfl) (by kernel_rfl) (fun _ _ _ h => h) (Or.inl ⟨by rfl, ?_⟩) (by assumption) ?_
          rotate_left 1
          · intro w hSw; (try dsimp only at hSw); (try obtain ⟨hSw1, hSw2, hSw3, hSw4, hSw5⟩ := hSw); (go_simp <;> with_reducible rfl)
          simp only [Go.Act.put, List.getElem_toArray, List.getElem_cons_zero, List.setIfInBounds_toArray, List.set_cons_zero, List.set_cons_succ]
          refine last_take (i := 1) (v := ?_) rfl (by kernel_rfl) (by kernel_rfl) (by kernel_rfl) (by kernel_rfl) (fun _ _ _ h => h) (Or.inl ⟨by rfl, ?_⟩) (by assumption) ?_
          rotate_left 1
          · intro w hSw; (try dsimp only at hSw); (try obtain ⟨hSw1, hSw2, hSw3, hSw4, hSw5⟩ := hSw); (go_simp <;> with_reducible rfl)
          simp only [Go.Act.put, List.getElem_toArray, List.getElem_cons_zero, List.getElem_cons_succ, List.setIfInBounds_toArray, List.set_cons_zero, List.set_cons_succ]
          refine last_take (i := 2) (v := ?_) rfl (by kernel_rfl) (by kernel_rfl) (by kernel_rfl) (by kernel_rfl) (fun _ _ _ h => h) (Or.inl ⟨by rfl, ?_⟩) (by assumption) ?_
          rotate_left 1
          · intro w hSw; (try dsimp only at hSw); (try obtain ⟨hSw1, hSw2, hSw3, hSw4, hSw5⟩ := hSw); (go_simp <;> with_reducible rfl)
          simp only [Go.Act.put, List.getElem_toArray, List.getElem_cons_zero, List.getElem_cons_succ, List.setIfInBounds_toArray, List.set_cons_zero, List.set_cons_succ]
          refine last_take (i := 3) (v := ?_) rfl (by kernel_rfl) (by kernel_rfl) (by kernel_rfl) (by kernel_rfl) (fun _ _ _ h => h) (Or.inl ⟨by rfl, ?_⟩) (by assumption) ?_
          rotate_left 1
          · intro w hSw; (try dsimp only at hSw); (try obtain ⟨hSw1, hSw2, hSw3, hSw4, hSw5⟩ := hSw); (go_simp <;> with_reducible rfl)
          simp only [Go.Act.put, List.getElem_toArray, List.getElem_cons_zero, List.getElem_cons_succ, List.setIfInBounds_toArray, List.set_cons_zero, List.set_cons_succ]
          refine last_take (i := 4) (v := ?_) rfl (by kernel_rfl) (by kernel_rfl) (by kernel_rfl) (by kernel_rfl) (fun _ _ _ h => h) (Or.inl ⟨by rfl, ?_⟩) (by assumption) ?_
          rotate_left 1
          · intro w hSw; (try dsimp only at hSw); (try obtain ⟨hSw1, hSw2, hSw3, hSw4, hSw5⟩ := hSw); (go_simp <;> with_reducible rfl)
          simp only [Go.Act.put, List.getElem_toArray, List.getElem_cons_zero, List.getElem_cons_succ, List.setIfInBounds_toArray, List.set_cons_zero, List.set_cons_succ]
          refine last_take (i := 5) (v := ?_) rfl (by kernel_rfl) (by kernel_rfl) (by kernel_rfl) (by kernel_rfl) (fun _ _ _ h => h) (Or.inl ⟨by rfl, ?_⟩) (by assumption) ?_
          rotate_left 1
          · intro w hSw; (try dsimp only at hSw); (try obtain ⟨hSw1, hSw2, hSw3, hSw4, hSw5⟩ := hSw); (go_simp <;> with_reducible rfl)
          simp only [Go.Act.put, List.getElem_toArray, List.getElem_cons_zero, List.getElem_cons_succ, List.setIfInBounds_toArray, List.set_cons_zero, List.set_cons_succ]
          refine last_take (i := 6) (v := ?_) rfl (by kernel_rfl) (by kernel_rfl) (by kernel_rfl) (by kernel_rfl) (fun _ _ _ h => h) (Or.inl ⟨by rfl, ?_⟩) (by assumption) ?_
          rotate_left 1
          · intro w hSw; (try dsimp only at hSw); (try obtain ⟨hSw1, hSw2, hSw3, hSw4, hSw5⟩ := hSw); (go_simp <;> with_reducible rfl)
          simp only [Go.Act.put, List.getElem_toArray, List.getElem_cons_zero, List.getElem_cons_succ, List.setIfInBounds_toArray, List.set_cons_zero, List.set_cons_succ]
          refine last_take (i := 7) (v := ?_) rfl (by kernel_rfl) (by kernel_rfl) (by kernel_rfl) (by kernel_rfl) (fun _ _ _ h => h) (Or.inl ⟨by rfl, ?_⟩) (by assumption) ?_
          rotate_left 1
          · intro w hSw; (try dsimp only at hSw); (try obtain ⟨hSw1, hSw2, hSw3, hSw4, hSw5⟩ := hSw); (go_simp <;> with_reducible rfl)
          simp only [Go.Act.put, List.getElem_toArray, List.getElem_cons_zero, List.getElem_cons_succ, List.setIfInBounds_toArray, List.set_cons_zero, List.set_cons_succ]
          refine last_take (i := 8) (v := ?_) rfl (by kernel_rfl) (by kernel_rfl) (by kernel_rfl) (by kernel_rfl) (fun _ _ _ h => h) (Or.inl ⟨by rfl, ?_⟩) (by assumption) ?_
          rotate_left 1
          · intro w hSw; (try dsimp only at hSw); (try obtain ⟨hSw1, hSw2, hSw3, hSw4, hSw5⟩ := hSw); (go_simp <;> with_reducible rfl)
          simp only [Go.Act.put, List.getElem_toArray, List.getElem_cons_zero, List.getElem_cons_succ, List.setIfInBounds_toArray, List.set_cons_zero, List.set_cons_succ]
          refine last_take (i := 9) (v := ?_) rfl (by kernel_rfl) (by kernel_rfl) (by kernel_rfl) (by kernel_rfl) (fun _ _ _ h => h) (Or.inl ⟨by rfl, ?_⟩) (by assumption) ?_
          rotate_left 1
          · intro w hSw; (try dsimp only at hSw); (try obtain ⟨hSw1, hSw2, hSw3, hSw4, hSw5⟩ := hSw); (go_simp <;> with_reducible rfl)
          simp only [Go.Act.put, List.getElem_toArray, List.getElem_cons_zero, List.getElem_cons_succ, List.setIfInBounds_toArray, List.set_cons_zero, List.set_cons_succ]
          refine last_take (i := 10) (v := ?_) rfl (by kernel_rfl) (by kernel_rfl) (by kernel_rfl) (by kernel_rfl) (fun _ _ _ h => h) (Or.inl ⟨by rfl, ?_⟩) (by assumption) ?_
          rotate_left 1
          · intro w hSw; (try dsimp only at hSw); (try obtain ⟨hSw1, hSw2, hSw3, hSw4, hSw5⟩ := hSw); (go_simp <;> with_reducible rfl)
          simp only [Go.Act.put, List.getElem_toArray, List.getElem_cons_zero, List.getElem_cons_succ, List.setIfInBounds_toArray, List.set_cons_zero, List.set_cons_succ]
          refine last_take (i := 11) (v := ?_) rfl (by kernel_rfl) (by kernel_rfl) (by kernel_rfl) (by kernel_rfl) (fun _ _ _ h => h) (Or.inl ⟨by rfl, ?_⟩) (by assumption) ?_
          rotate_left 1
          · intro w hSw; (try dsimp only at hSw); (try obtain ⟨hSw1, hSw2, hSw3, hSw4, hSw5⟩ := hSw); (go_simp <;> with_reducible rfl)
          simp only [Go.Act.put, List.getElem_toArray, List.getElem_cons_zero, List.getElem_cons_succ, List.setIfInBounds_toArray, List.set_cons_zero, List.set_cons_succ]
          refine last_take (i := 12) (v := ?_) rfl (by kernel_rfl) (by kernel_rfl) (by kernel_rfl) (by kernel_rfl) (fun _ _ _ h => h) (Or.inl ⟨by rfl, ?_⟩) (by assumption) ?_
          rotate_left 1
          · intro w hSw; (try dsimp only at hSw); (try obtain ⟨hSw1, hSw2, hSw3, hSw4, hSw5⟩ := hSw); (go_simp <;> with_reducible rfl)
          simp only [Go.Act.put, List.getElem_toArray, List.getElem_cons_zero, List.getElem_cons_succ, List.setIfInBounds_toArray, List.set_cons_zero, List.set_cons_succ]
          refine last_take (i := 13) (v := ?_) rfl (by kernel_rfl) (by kernel_rfl) (by kernel_rfl) (by kernel_rfl) (fun _ _ _ h => h) (Or.inl ⟨by rfl, ?_⟩) (by assumption) ?_
          rotate_left 1
          · intro w hSw; (try dsimp only at hSw); (try obtain ⟨hSw1, hSw2, hSw3, hSw4, hSw5⟩ := hSw); (go_simp <;> with_reducible rfl)
          simp only [Go.Act.put, List.getElem_toArray, List.getElem_cons_zero, List.getElem_cons_succ, List.setIfInBounds_toArray, List.set_cons_zero, List.set_cons_succ]
          refine last_take (i := 14) (v := ?_) rfl (by kernel_rfl) (by kernel_rfl) (by kernel_rfl) (by kernel_rfl) (fun _ _ _ h => h) (Or.inl ⟨by rfl, ?_⟩) (by assumption) ?_
          rotate_left 1
          · intro w hSw; (try dsimp only at hSw); (try obtain ⟨hSw1, hSw2, hSw3, hSw4, hSw5⟩ := hSw); (go_simp <;> with_reducible rfl)
          simp only [Go.Act.put, List.getElem_toArray, List.getElem_cons_zero, List.getElem_cons_succ, List.setIfInBounds_toArray, List.set_cons_zero, List.set_cons_succ]
          refine last_take (i := 15) (v := ?_) rfl (by kernel_rfl) (by kernel_rfl) (by kernel_rfl) (by kernel_rfl) (fun _ _ _ h => h) (Or.inl ⟨by rfl, ?_⟩) (by assumption) ?_
          rotate_left 1
          · intro w hSw; (try dsimp only at hSw); (try obtain ⟨hSw1, hSw2, hSw3, hSw4, hSw5⟩ := hSw); (go_simp <;> with_reducible rfl)
          simp only [Go.Act.put, List.getElem_toArray, List.getElem_cons_zero, List.getElem_cons_succ, List.setIfInBounds_toArray, List.set_cons_zero, List.set_cons_succ]
          refine last_take (i := 16) (v := ?_) rfl (by kernel_rfl) (by kernel_rfl) (by kernel_rfl) (by kernel_rfl) (fun _ _ _ h => h) (Or.inl ⟨by rfl, ?_⟩) (by assumption) ?_
          rotate_left 1
          · intro w hSw; (try dsimp only at hSw); (try obtain ⟨hSw1, hSw2, hSw3, hSw4, hSw5⟩ := hSw); (go_simp <;> with_reducible rfl)
          simp only [Go.Act.put, List.getElem_toArray, List.getElem_cons_zero, List.getElem_cons_succ, List.setIfInBounds_toArray, List.set_cons_zero, List.set_cons_succ]
          refine last_one (j := 17) (by kernel_rfl) rfl (fun K hK => ?_)
          rw [if_pos (by rfl)]
          simp only [List.getElem_toArray, List.getElem_cons_zero, List.getElem_cons_succ]
          go_simp
          refine (HWD.out _ ((Keep.refl _ _).drew)).mono ?_
          rintro e W6 ⟨⟨a', m', rfl, hw⟩, k6⟩
          have kk6 : Keep noBlock W5 W6 := Keep.trans' (Keep.refl noBlock W5).drew k6
          have e6 : W6.cell? ⟨c.sb, 6, none⟩ = some (.int .i64 (told : Int)) := cell_of (kk6.obj HR5.out.1.s.obj (fun h => h)) 6
          have e4 : W6.cell? ⟨c.sb, 4, none⟩ = some (.int .i64 (c.most : Int)) := cell_of (kk6.obj HR5.out.1.s.obj (fun h => h)) 4
          have x6 := kk6.obj HR5.out.2.1 (fun h => h)
          have y0 : W6.cell? ⟨gm, 0, none⟩ = some (.int .i64 (a : Int)) := cell_of x6 0
          have y1 : W6.cell? ⟨gm, 1, none⟩ = some (.int .i64 (m : Int)) := cell_of x6 1
          have y2 : W6.cell? ⟨gm, 2, none⟩ = some (.int .i64 (b : Int)) := cell_of x6 2
          have f0 := frozen_of x6 0
          have f1 := frozen_of x6 1
          have f2 := frozen_of x6 2
          refine hK.out _ _ (fun _ => ⟨y0, y1, y2, e6, e4⟩) ?_
          try simp only [Go.Act.put, List.getElem_toArray, List.getElem_cons_zero, List.getElem_cons_succ, List.setIfInBounds_toArray, List.set_cons_zero, List.set_cons_succ]
          clear hK K
          refine last_one (j := 18) (by kernel_rfl) rfl (fun K hK => ?_)
          rw [if_pos (by rfl)]
          simp only [List.getElem_toArray, List.getElem_cons_zero, List.getElem_cons_succ]
          go_simp
          refine hK.out _ _ (fun e => absurd rfl e) ?_
          clear hK K
          refine last_done (by kernel_rfl) ?_ _
          go_wp2_with fail
          go_meet
          case rel => exact ⟨a', m', (HR5.out.1.still kk6).apart HR5.out.2.2 (ownsQ_ne (HR5.out.1.still kk6).own x6 (by decide)) (keep_put _ gm _ _ _), put3 x6 _ _ _, hw⟩
        case rest =>
          obtain ⟨a', m', HC⟩ := hcut
          clear HWD hmax hsub hdw hadd haw g0 g1 g2 d6 d4 HR5
          have hw := HC.out.2.2
          have hMT := HMT.out a' m' (vain - 16 * m') hw (by omega)
          have hq1 := hMT.1
          have hq2 := hMT.2.1
          have hbnd := HPM.out
          have hmf := hw.ok.fin
          have hmh := hw.ok.hi
          have j0 : wc.cell? ⟨gm, 0, none⟩ = some (.int .i64 (a' : Int)) := cell_of HC.out.2.1 0
          have j1 : wc.cell? ⟨gm, 1, none⟩ = some (.int .i64 (m' : Int)) := cell_of HC.out.2.1 1
          have j2 : wc.cell? ⟨gm, 2, none⟩ = some (.int .i64 (b : Int)) := cell_of HC.out.2.1 2
          have d6 : wc.cell? ⟨c.sb, 6, none⟩ = some (.int .i64 (told : Int)) := cell_of HC.out.1.s.obj 6
          obtain ⟨ls, hls⟩ : ∃ ls, ls = a' - told := ⟨_, rfl⟩
          have hsub1 : (a' : Int) - (told : Int) = (ls : Int) := by omega
          have hlw : IntKind.i64.wrap (ls : Int) = (ls : Int) := by rw [IntKind.wrap_i64]; omega
          obtain ⟨v8, W8, hr8, own8, k8, n8⟩ := seq_append wc u5 L HC.out.1.own (by omega) ls m' b
          have hr8' : (Builtin.append_ #[38, 38] 38 #[u5, .slice (some ⟨wc.heap.size, 0, none⟩) 1 1]).run Tryz.prog (wc.alloc (.cells #[.int .i64 (ls : Int), .int .i64 (m' : Int), .int .i64 (b : Int)] 46)).drew = .ok v8 W8 := hr8
          have HR8 := (show Hid (StK w W8 c told vain p1 v8 (L ++ [(ls, m', b)])) from HC.out.1.app own8 k8 n8)
          have x8 := k8.obj HC.out.2.1 (ownsQ_ne HC.out.1.own HC.out.2.1 (by decide))
          obtain ⟨vn, hvn⟩ : ∃ vn, vn = vain - 16 * m' := ⟨_, rfl⟩
          obtain ⟨tn, htn⟩ : ∃ tn, tn = a' + m' := ⟨_, rfl⟩
          have l0 : W8.cell? ⟨gm, 0, none⟩ = some (.int .i64 (a' : Int)) := cell_of x8 0
          have l1 : W8.cell? ⟨gm, 1, none⟩ = some (.int .i64 (m' : Int)) := cell_of x8 1
          have l2 : W8.cell? ⟨gm, 2, none⟩ = some (.int .i64 (b : Int)) := cell_of x8 2
          have l6 : W8.cell? ⟨c.sb, 6, none⟩ = some (.int .i64 (told : Int)) := cell_of HR8.out.s.obj 6
          have kal : Keep noBlock wc (wc.alloc (.cells #[.int .i64 (ls : Int), .int .i64 (m' : Int), .int .i64 (b : Int)] 46)).drew := ((Keep.refl _ wc).alloc _).drew
          have xal := kal.obj HC.out.2.1 (fun h => h)
          have k0 : (wc.alloc (.cells #[.int .i64 (ls : Int), .int .i64 (m' : Int), .int .i64 (b : Int)] 46)).drew.cell? ⟨gm, 0, none⟩ = some (.int .i64 (a' : Int)) := cell_of xal 0
          have k1 : (wc.alloc (.cells #[.int .i64 (ls : Int), .int .i64 (m' : Int), .int .i64 (b : Int)] 46)).drew.cell? ⟨gm, 1, none⟩ = some (.int .i64 (m' : Int)) := cell_of xal 1
          have k2 : (wc.alloc (.cells #[.int .i64 (ls : Int), .int .i64 (m' : Int), .int .i64 (b : Int)] 46)).drew.cell? ⟨gm, 2, none⟩ = some (.int .i64 (b : Int)) := cell_of xal 2
          have k6 : (wc.alloc (.cells #[.int .i64 (ls : Int), .int .i64 (m' : Int), .int .i64 (b : Int)] 46)).drew.cell? ⟨c.sb, 6, none⟩ = some (.int .i64 (told : Int)) := cell_of (HC.out.1.still kal).s.obj 6
          have HIN := (show Hid (InvS c from_ tn tn vn (L ++ [(ls, m', b)])) from by rw [htn, hvn, hls]; exact hMT.2.2)
          have HX8 := (show Hid (W8.heap[gm]? = some (.cells (trio a' m' b) 145 (0, 0)) ∧ tn = a' + m' ∧ a' + m' ≤ c.bs.length ∧ p1 < tn ∧ p < tn) from ⟨x8, htn, hmf, by omega, by omega⟩)
          have HVN := (show Hid (vn = vain - 16 * m' ∧ m' ≤ 65536 ∧ vain < 65536 ∧ gm ≠ c.sb) from ⟨hvn, by omega, hvb, hgsb⟩)
          clear kal xal hw hMT hmf hmh hls own8 k8 n8 x8 HC hr8 hvn htn hq1 hq2 hbnd HPM HMT
          go_wp2_with fail
          go_region_held3 (fun W' => W'.cell? ⟨gm, 0, none⟩ = some (.int .i64 (a' : Int)) ∧ W'.cell? ⟨gm, 1, none⟩ = some (.int .i64 (m' : Int)) ∧ W'.cell? ⟨gm, 2, none⟩ = some (.int .i64 (b : Int)) ∧ W'.cell? ⟨c.sb, 6, none⟩ = some (.int .i64 (told : Int))) (first | exact ⟨j0, j1, j2, d6⟩ | exact ⟨l0, l1, l2, l6⟩ | exact ⟨k0, k1, k2, k6⟩ | go_keep) ((first
            | (refine step_append_run _ (by rfl) _ _ 38 (by rfl) u5 (.slice (some ⟨wc.heap.size, 0, none⟩) 1 1) v8 W8 (by rfl) (by rfl) hr8' ?_)))
          clear hr8' k0 k1 k2 k6 j0 j1 j2 d6 l0 l1 l2 l6 hsub1 hlw
          have hbv := HVN.out
          obtain ⟨mm, hmm⟩ : ∃ mm, mm = 16 * m' := ⟨_, rfl⟩
          have hmul : (16 : Int) * (m' : Int) = (mm : Int) := by omega
          have hmw : IntKind.i64.wrap (mm : Int) = (mm : Int) := by rw [IntKind.wrap_i64]; omega
          obtain ⟨dv, hdv⟩ : ∃ dv : Int, dv = (vain : Int) - (mm : Int) := ⟨_, rfl⟩
          have hsubv : (vain : Int) - (mm : Int) = dv := hdv.symm
          have hdw : IntKind.i64.wrap dv = dv := by rw [IntKind.wrap_i64]; omega
          have hmax := maxSem_run #[3, 3] 3 0 dv (vn : Int) (by omega)
          have c7 : W8.cell? ⟨c.sb, 7, none⟩ = some (.int .i64 (vain : Int)) := cell_of HR8.out.s.obj 7
          have F7 := frozen_of HR8.out.s.obj 7
          have l1 : W8.cell? ⟨gm, 1, none⟩ = some (.int .i64 (m' : Int)) := cell_of HX8.out.1 1
          obtain ⟨s9, k9⟩ := HR8.out.s.set (i := 7) (v := .int .i64 (vn : Int)) (p' := p1) (told' := told) (vain' := vn) rfl
          have HR9 := (show Hid (StK w (W8.setCell ⟨c.sb, 7, none⟩ (.int .i64 (vn : Int))).drew c told vn p1 v8 (L ++ [(ls, m', b)]) ∧ (W8.setCell ⟨c.sb, 7, none⟩ (.int .i64 (vn : Int))).drew.heap[gm]? = some (.cells (trio a' m' b) 145 (0, 0))) from
            ⟨(HR8.out.step s9 k9).still (Keep.refl _ _).drew, set_far HX8.out.1 hbv.2.2.2 _ _⟩)
          clear hmm hdv s9 k9 hbv HVN HR8
          go_wp2_with fail
          go_region
          generalize (W8.setCell ⟨c.sb, 7, none⟩ (.int .i64 (vn : Int))).drew = W9 at *
          clear c7 F7 l1 hmul hmw hsubv hdw hmax
          have hx8 := HX8.out
          have j0 : W9.cell? ⟨gm, 0, none⟩ = some (.int .i64 (a' : Int)) := cell_of HR9.out.2 0
          have j1 : W9.cell? ⟨gm, 1, none⟩ = some (.int .i64 (m' : Int)) := cell_of HR9.out.2 1
          have c6 : W9.cell? ⟨c.sb, 6, none⟩ = some (.int .i64 (told : Int)) := cell_of HR9.out.1.s.obj 6
          have F6 := frozen_of HR9.out.1.s.obj 6
          have hadd3 : (a' : Int) + (m' : Int) = (tn : Int) := by omega
          have htb : tn < 65536 := by omega
          obtain ⟨s10, k10⟩ := HR9.out.1.s.set (i := 6) (v := .int .i64 (tn : Int)) (p' := p1) (told' := tn) (vain' := vn) rfl
          have HR10 := (show Hid (StK w (W9.setCell ⟨c.sb, 6, none⟩ (.int .i64 (tn : Int))) c tn vn p1 v8 (L ++ [(ls, m', b)])) from HR9.out.1.step s10 k10)
          have HSK := skip_any c p1 tn vn tn _ HR10.out.s (by omega) (by omega)
          rw [show max p1 tn = tn from by omega] at HSK
          have HPT := (show Hid (p < tn ∧ tn ≤ c.bs.length) from ⟨by omega, by omega⟩)
          clear s10 k10 hx8 HX8 HR9
          go_wp2_with fail
          refine HSK.mono ?_
          rintro e W11 ⟨rfl, s11, k11⟩
          have HR11 := (show Hid (StK w W11 c tn vn tn v8 (L ++ [(ls, m', b)]) ∧ InvS c from_ tn tn vn (L ++ [(ls, m', b)])) from ⟨HR10.out.step s11 k11, HIN.out⟩)
          clear HSK s11 k11 HR10 HIN j0 j1 c6 F6
          go_wp2_with fail
          go_roundw
          case rel => exact ⟨L ++ [(ls, m', b)], tn, vn, tn, HR11.out⟩
          case measure => rw [numAt_of (cell_of HR11.out.1.s.obj 5), HC5.out]; have := HPT.out; omega
    · have hpn : ¬ (p : Int) < (c.bs.length : Int) := by omega
      go_wp2_with fail
      go_quiet (fail)
      have HR3 := (show Hid (StK w (wr.drewN nq) c told vain p u5 L) from HR.out.1.still (keep_drewN _ _))
      have HIV := (show Hid (InvS c from_ p told vain L ∧ p = c.bs.length) from ⟨HR.out.2, by have := HR.out.2.pn; omega⟩)
      clear HR c0 c5 c6 HC5
      generalize wr.drewN nq = W3 at *
      have c0 : W3.cell? ⟨c.sb, 0, none⟩ = some (.slice (some ⟨c.gb, c.off, none⟩) c.bs.length c.cap) := cell_of HR3.out.s.obj 0
      have c6 : W3.cell? ⟨c.sb, 6, none⟩ = some (.int .i64 (told : Int)) := cell_of HR3.out.s.obj 6
      by_cases ht : told < c.bs.length
      · have htI : (told : Int) < (c.bs.length : Int) := by omega
        go_wp2_with fail
        go_quiet (fail)
        have HR4 := (show Hid (StK w (W3.drewN nq) c told vain p u5 L) from HR3.out.still (keep_drewN _ _))
        clear HR3 c0 c6
        generalize W3.drewN nq = W4 at *
        have c0 : W4.cell? ⟨c.sb, 0, none⟩ = some (.slice (some ⟨c.gb, c.off, none⟩) c.bs.length c.cap) := cell_of HR4.out.s.obj 0
        have c6 : W4.cell? ⟨c.sb, 6, none⟩ = some (.int .i64 (told : Int)) := cell_of HR4.out.s.obj 6
        obtain ⟨ls, hls⟩ : ∃ ls, ls = c.bs.length - told := ⟨_, rfl⟩
        have hsub1 : (c.bs.length : Int) - (told : Int) = (ls : Int) := by omega
        have hlw : IntKind.i64.wrap (ls : Int) = (ls : Int) := by rw [IntKind.wrap_i64]; omega
        have hLl : L.length ≤ c.bs.length := by have := HIV.out.1.len; omega
        obtain ⟨v8, W8, hr8, own8, k8, n8⟩ := seq_append W4 u5 L HR4.out.own (by omega) ls 0 0
        have hr8' : (Builtin.append_ #[38, 38] 38 #[u5, .slice (some ⟨W4.heap.size, 0, none⟩) 1 1]).run Tryz.prog (W4.alloc (.cells #[.int .i64 (ls : Int), .int .i64 0, .int .i64 0] 46)).drew = .ok v8 W8 := hr8
        have HR8 := (show Hid (StK w W8 c told vain p v8 (L ++ [(ls, 0, 0)]) ∧ Told c from_ (L ++ [(ls, 0, 0)]) ∧ (L ++ [(ls, 0, 0)]).length ≤ c.bs.length + 1) from ⟨HR4.out.app own8 k8 n8, by rw [hls]; exact HIV.out.1.rest (by omega) ht, by rw [List.length_append, List.length_singleton]; omega⟩)
        have l0 : W8.cell? ⟨c.sb, 0, none⟩ = some (.slice (some ⟨c.gb, c.off, none⟩) c.bs.length c.cap) := cell_of HR8.out.1.s.obj 0
        have l6 : W8.cell? ⟨c.sb, 6, none⟩ = some (.int .i64 (told : Int)) := cell_of HR8.out.1.s.obj 6
        have kal : Keep noBlock W4 (W4.alloc (.cells #[.int .i64 (ls : Int), .int .i64 0, .int .i64 0] 46)).drew := ((Keep.refl _ W4).alloc _).drew
        have k0 : (W4.alloc (.cells #[.int .i64 (ls : Int), .int .i64 0, .int .i64 0] 46)).drew.cell? ⟨c.sb, 0, none⟩ = some (.slice (some ⟨c.gb, c.off, none⟩) c.bs.length c.cap) := cell_of (HR4.out.still kal).s.obj 0
        have k6 : (W4.alloc (.cells #[.int .i64 (ls : Int), .int .i64 0, .int .i64 0] 46)).drew.cell? ⟨c.sb, 6, none⟩ = some (.int .i64 (told : Int)) := cell_of (HR4.out.still kal).s.obj 6
        clear kal own8 k8 n8 hr8 hls HR4 HIV hLl
        go_wp2_with fail
        go_region_held3 (fun W' => W'.cell? ⟨c.sb, 0, none⟩ = some (.slice (some ⟨c.gb, c.off, none⟩) c.bs.length c.cap) ∧ W'.cell? ⟨c.sb, 6, none⟩ = some (.int .i64 (told : Int))) (first | exact ⟨c0, c6⟩ | exact ⟨l0, l6⟩ | exact ⟨k0, k6⟩ | go_keep) ((first
          | (refine step_append_run _ (by rfl) _ _ 38 (by rfl) u5 (.slice (some ⟨W4.heap.size, 0, none⟩) 1 1) v8 W8 (by rfl) (by rfl) hr8' ?_)))
        go_wp2_with fail
        go_ret
        exact ⟨⟨v8, _, rfl, HR8.out.1.own, HR8.out.1.new, HR8.out.2.1, HR8.out.2.2⟩, HR8.out.1.k⟩
      · have htI : ¬ (told : Int) < (c.bs.length : Int) := by omega
        have HT := (show Hid (Told c from_ L ∧ L.length ≤ c.bs.length + 1) from ⟨HIV.out.1.done (by omega) (by have h1 := HIV.out.1.t; have h2 := HIV.out.1.pn; omega), by have h1 := HIV.out.1.len; have h2 := HIV.out.1.t; have h3 := HIV.out.1.pn; omega⟩)
        have hd : decide (told < c.bs.length) = false := decide_eq_false ht
        go_wp2_with fail
        go_quiet (fail)
        have HR4 := (show Hid (StK w (W3.drewN nq) c told vain p u5 L) from HR3.out.still (keep_drewN _ _))
        clear HR3 c0 c6
        generalize W3.drewN nq = W4 at *
        go_wp2_with fail
        go_ret
        exact ⟨⟨u5, L, rfl, HR4.out.own, HR4.out.new, HT.out.1, HT.out.2⟩, HR4.out.k⟩
end
end Go.Proofs.YtnokemcogjoonaaGreatDoor.Fd
