/-
  RangesBack: what is read stands where it was written.
-/
import Derived.Test.YtfhgbggcpoingaaAct
namespace Go.Proofs.Ytfhgbggcpoingaa
open Go.RowKit Go.Shelf
set_option linter.unusedVariables false

def oneF (n : Nat) : Bool := n % 2 == 1
theorem oneF_bit (n : Nat) (h : n < 4294967296) : ∃ t : Nat, bits .and .u32 (n : Int) 1 = (t : Int) ∧ t < 2 ∧ oneF n = ((t : Int) != 0) ∧ t = n % 2 := by
  refine ⟨n % 2, ?_, by omega, ?_, rfl⟩
  · have := u32_and_nat n 1 h (by omega)
    rw [nat_mask1] at this
    exact this
  · unfold oneF
    rcases Nat.mod_two_eq_zero_or_one n with q | q <;> rw [q] <;> rfl
theorem oneF_int (n : Nat) : bitI (oneF n) = ((n % 2 : Nat) : Int) := by
  unfold bitI oneF
  rcases Nat.mod_two_eq_zero_or_one n with q | q <;> rw [q] <;> rfl

/-- Behind k acts: a decoder of what the encoder of all of them told, its chances, and the encoder's chances. -/
def BackG (w wr : World) (db rb g2 g : Nat) (L0 : List Nat) (ts : List ActD) (k : Nat) : Prop :=
  ∃ D, DecG w wr db rb g2 (D, (runE oneF (newE, L0) (ts.take k)).2) ∧ ordD D = syncD (closeE (runE oneF (newE, L0) ts).1).out (runE oneF (newE, L0) (ts.take k)).1 ∧ Chs wr g (runE oneF (newE, L0) ts).2 ∧ g ≠ db ∧ g ≠ g2
theorem BackG.to {w wr W : World} {db rb g2 g k : Nat} {L0 : List Nat} {ts : List ActD} (h : BackG w wr db rb g2 g L0 ts k) (hk : Keep noBlock wr W) : BackG w W db rb g2 g L0 ts k := by
  obtain ⟨D, h1, h2, h3, h4, h5⟩ := h
  exact ⟨D, h1.to hk, h2, h3.keep hk (fun h => h), h4, h5⟩
theorem BackG.keep {w wr : World} {db rb g2 g k : Nat} {L0 : List Nat} {ts : List ActD} (h : BackG w wr db rb g2 g L0 ts k) : Keep noBlock w wr := h.choose_spec.1.keep
theorem back_has (L0 : List Nat) (ts : List ActD) (k : Nat) : Good (runE oneF (newE, L0) (ts.take k)).1 ∧ Has (closeE (runE oneF (newE, L0) ts).1).out (runE oneF (newE, L0) (ts.take k)).1 ∧ (∀ j : Nat, (closeE (runE oneF (newE, L0) ts).1).out[j]?.getD 0 < 256) := by
  have hgk := runE_good oneF (ts.take k) (s := (newE, L0)) newE_good
  have hgf := runE_good oneF ts (s := (newE, L0)) newE_good
  have hb := (closeE_sh hgf.ok).out
  refine ⟨hgk, ?_, hb⟩
  refine runE_has hb oneF (ts.drop k) hgk ?_
  rw [runE_drop]
  exact closeE_has hgf
theorem BackG.next {w wr : World} {db rb g2 g k : Nat} {L0 : List Nat} {ts : List ActD} (hk : k < ts.length) {D : Dec} (hd : ordD D = syncD (closeE (runE oneF (newE, L0) ts).1).out (runE oneF (newE, L0) (ts.take k)).1) :
    ordD (chD (D, (runE oneF (newE, L0) (ts.take k)).2) (ts[k]?.getD actD0)).1 = syncD (closeE (runE oneF (newE, L0) ts).1).out (runE oneF (newE, L0) (ts.take (k + 1))).1 ∧ (chD (D, (runE oneF (newE, L0) (ts.take k)).2) (ts[k]?.getD actD0)).2 = (runE oneF (newE, L0) (ts.take (k + 1))).2 ∧
      (0 < (ts[k]?.getD actD0).many → (dirD (bitsN (ts[k]?.getD actD0).many) D 0).2 = (ts[k]?.getD actD0).n % 2 ^ bitsN (ts[k]?.getD actD0).many) ∧ (¬ 0 < (ts[k]?.getD actD0).many → oneD (ordD D) (chc (runE oneF (newE, L0) (ts.take k)).2 (ts[k]?.getD actD0)) = oneF (ts[k]?.getD actD0).n) := by
  obtain ⟨h1, h2, h3⟩ := back_has L0 ts (k + 1)
  have h4 := (back_has L0 ts k).1
  rw [runE_take oneF _ _ _ hk] at h2 ⊢
  generalize runE oneF (newE, L0) (ts.take k) = s at *
  obtain ⟨e, L⟩ := s
  exact act_sync h3 h4 _ h2 hd
theorem BackG.direct {w wr : World} {db rb g2 g k : Nat} {L0 : List Nat} {ts : List ActD} (h : BackG w wr db rb g2 g L0 ts k) (hk : k < ts.length) (ha : 0 < (ts[k]?.getD actD0).many) :
    Calls Try.prog 12 #[.pointer (some ⟨db, 0, none⟩), .int .i64 (ts[k]?.getD actD0).many] wr fun e w' => e = .returned (.int .u32 (((ts[k]?.getD actD0).n % 2 ^ bitsN (ts[k]?.getD actD0).many : Nat) : Int)) ∧ BackG w w' db rb g2 g L0 ts (k + 1) ∧ Keep (fun k => k = db ∨ k = g2) wr w' := by
  obtain ⟨D, h1, h2, h3, h4, h5⟩ := h
  obtain ⟨n1, n2, n3, n4⟩ := BackG.next (w := w) (wr := wr) (db := db) (rb := rb) (g2 := g2) (g := g) hk h2
  refine (h1.direct _ ha).mono ?_
  rintro e w1 ⟨rfl, a1, a2⟩
  have e1 : (chD (D, (runE oneF (newE, L0) (ts.take k)).2) (ts[k]?.getD actD0)) = ((chD (D, (runE oneF (newE, L0) (ts.take k)).2) (ts[k]?.getD actD0)).1, (runE oneF (newE, L0) (ts.take (k + 1))).2) := by rw [← n2]
  refine ⟨by rw [← n3 ha], ⟨_, by rw [← e1]; exact a1, n1, h3.keep a2 ?_, h4, h5⟩, a2⟩
  rintro (q | q)
  · exact h4 q
  · exact h5 q
theorem BackG.bit {w wr : World} {db rb g2 g k m : Nat} {L0 : List Nat} {ts : List ActD} (h : BackG w wr db rb g2 g L0 ts k) (hk : k < ts.length) (ha : ¬ 0 < (ts[k]?.getD actD0).many) (hm : m = L0.length) (hm1 : 0 < m) (hm2 : m ≤ 300) :
    Calls Try.prog 14 #[.pointer (some ⟨db, 0, none⟩), .pointer (some ⟨g2, arndN m (ts[k]?.getD actD0).at_, none⟩)] wr fun e w' => e = .returned (.int .i64 (((ts[k]?.getD actD0).n % 2 : Nat) : Int)) ∧ BackG w w' db rb g2 g L0 ts (k + 1) ∧ Keep (fun k => k = db ∨ k = g2) wr w' := by
  obtain ⟨D, h1, h2, h3, h4, h5⟩ := h
  obtain ⟨n1, n2, n3, n4⟩ := BackG.next (w := w) (wr := wr) (db := db) (rb := rb) (g2 := g2) (g := g) hk h2
  have hl := runE_len oneF (ts.take k) (newE, L0)
  have hl' : (runE oneF (newE, L0) (ts.take k)).2.length = m := by rw [hl, hm]
  have hb := h1.bit (ts[k]?.getD actD0) ha (by show 0 < (runE oneF (newE, L0) (ts.take k)).2.length; omega) (by show (runE oneF (newE, L0) (ts.take k)).2.length ≤ 300; omega)
  dsimp only at hb
  rw [hl', n4 ha, oneF_int] at hb
  refine hb.mono ?_
  rintro e w1 ⟨rfl, a1, a2⟩
  have e1 : (chD (D, (runE oneF (newE, L0) (ts.take k)).2) (ts[k]?.getD actD0)) = ((chD (D, (runE oneF (newE, L0) (ts.take k)).2) (ts[k]?.getD actD0)).1, (runE oneF (newE, L0) (ts.take (k + 1))).2) := by rw [← n2]
  refine ⟨rfl, ⟨_, by rw [← e1]; exact a1, n1, h3.keep a2 ?_, h4, h5⟩, a2⟩
  rintro (q | q)
  · exact h4 q
  · exact h5 q
theorem BackG.lt {w wr : World} {db rb g2 g k : Nat} {L0 : List Nat} {ts : List ActD} (h : BackG w wr db rb g2 g L0 ts k) : db < wr.heap.size ∧ g2 < wr.heap.size := by
  obtain ⟨D, h1, h2, h3, h4, h5⟩ := h
  obtain ⟨_, _, _, ho, _⟩ := h1.dec.obj
  obtain ⟨_, ho2, _⟩ := h1.chs.obj
  exact ⟨obj_lt ho, obj_lt ho2⟩
theorem keep_drewN (w : World) (n : Nat) : Keep noBlock w (w.drewN n) := ⟨rfl, rfl, rfl, Nat.le_refl _, fun _ _ _ => rfl⟩
theorem Chs.cell {w : World} {g : Nat} {L : List Nat} (h : Chs w g L) (j : Nat) (hj : j < L.length) : w.cell? ⟨g, j, none⟩ = some (.int .u16 ((L[j]?.getD 0 : Nat) : Int)) := by
  obtain ⟨cs, h1, h2⟩ := h.obj
  exact (cell_of h1 j).trans (h2 j hj)
theorem keep_cell {S : Nat → Prop} {w w' : World} (hk : Keep S w w') {b i : Nat} {u : Value} (h : w.cell? ⟨b, i, none⟩ = some u) (hS : ¬ S b) : w'.cell? ⟨b, i, none⟩ = some u :=
  (World.cell?_of_block (hk.block b (World.block_lt_of_cell? _ _ h) hS)).trans h
theorem want_eq (n q : Nat) (hn : n < 4294967296) (hq : q ≤ 32) : bits .and .u64 (n : Int) (IntKind.u64.wrap (IntKind.u64.wrap (2 ^ q) - 1)) % 4294967296 = ((n % 2 ^ q : Nat) : Int) := by
  have h1 : 2 ^ q ≤ 2 ^ 32 := Nat.pow_le_pow_right (by omega) hq
  have h0 : 0 < 2 ^ q := Nat.pow_pos (by omega)
  have e1 : IntKind.u64.wrap ((2 : Int) ^ q) = ((2 ^ q : Nat) : Int) := by
    have e : ((2 : Int) ^ q) = ((2 ^ q : Nat) : Int) := by simp
    rw [e, IntKind.wrap_u64]
    generalize 2 ^ q = P at *
    omega
  have e2 : IntKind.u64.wrap (((2 ^ q : Nat) : Int) - 1) = ((2 ^ q - 1 : Nat) : Int) := by
    rw [IntKind.wrap_u64]
    generalize 2 ^ q = P at *
    omega
  have h2 : 2 ^ q - 1 < 18446744073709551616 := by omega
  have h3 : n % 2 ^ q ≤ n := Nat.mod_le _ _
  rw [e1, e2, u64_and_nat _ _ (by omega) h2, Nat.and_two_pow_sub_one_eq_mod]
  generalize n % 2 ^ q = T at *
  omega
/-- The end. -/
theorem BackG.done {w wr : World} {db rb g2 g : Nat} {L0 : List Nat} {ts : List ActD} (h : BackG w wr db rb g2 g L0 ts ts.length) :
    Calls Try.prog 16 #[.pointer (some ⟨db, 0, none⟩)] wr fun e w' => e = .returned (.tuple #[.int .i64 0, .int .i64 0]) ∧ Chs w' g (runE oneF (newE, L0) ts).2 ∧ Chs w' g2 (runE oneF (newE, L0) ts).2 ∧ Keep noBlock w w' := by
  obtain ⟨D, h1, h2, h3, h4, h5⟩ := h
  rw [List.take_length] at h1 h2
  have hgf := runE_good oneF ts (s := (newE, L0)) newE_good
  rw [sync_end hgf] at h2
  have he := end_any db rb D wr h1.dec
  have e1 : endE (ordD D) = 0 := by rw [h2]; rfl
  have e2 : endL (ordD D) = 0 := by rw [h2]; rfl
  rw [e1, e2] at he
  refine he.mono ?_
  rintro e w1 ⟨rfl, a1, a2⟩
  exact ⟨rfl, h3.keep a2 h4, h1.chs.keep a2 h1.gb, h1.keep.trans a2 (fun i hi q => by have := h1.hb; omega)⟩
/-- The beginning: behind Close and NewDecoder and chances. -/
theorem back_new {w wr : World} {db rb g2 g : Nat} {L0 : List Nat} {ts : List ActD} (hD : IsD wr db rb (newD (closeE (runE oneF (newE, L0) ts).1).out)) (hc : Chs wr g2 L0) (hg : Chs wr g (runE oneF (newE, L0) ts).2) (h1 : w.heap.size ≤ db) (h2 : w.heap.size ≤ g2) (h3 : rb ≠ g2) (h4 : g ≠ g2) (hk : Keep noBlock w wr) :
    BackG w wr db rb g2 g L0 ts 0 := by
  have hgf := runE_good oneF ts (s := (newE, L0)) newE_good
  have hf := closeE_first hgf
  obtain ⟨_, _, _, ho, _⟩ := hD.obj
  exact ⟨_, ⟨hD, hc, h1, h2, h3, hk⟩, sync_new hf.1 hf.2, hg, hg.ne ho (by decide), h4⟩

end Go.Proofs.Ytfhgbggcpoingaa
