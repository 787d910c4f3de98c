/-
  Acts: what an encoder and a decoder make of them, as plain numbers, and as calls.
-/
import Derived.Test.YtfhgbggcpoingaaEdr
import Derived.Test.YtfhgbggcpoingaaDen
import Derived.Test.YtfhgbggcpoingaaChs
import Derived.Test.YtfhgbggcpoingaaWak
namespace Go.Proofs.Ytfhgbggcpoingaa
open Go.RowKit Go.Shelf
set_option linter.unusedVariables false

/-- '((a % m) + m) % m'. -/
def arndN (m : Nat) (a : Int) : Nat := ((a.tmod m + m).tmod m).toNat
theorem arnd_parts (m : Nat) (a : Int) (hm : 0 < m) (h : m ≤ 300) : ∃ (r : Int) (s : Nat), a.tmod m = r ∧ r + (m : Int) = (s : Int) ∧ (s : Int) % (m : Int) = (arndN m a : Int) ∧ arndN m a < m ∧ -300 ≤ r ∧ r ≤ 300 ∧ s ≤ 600 := by
  have h1 : -(m : Int) < a.tmod m := by
    have h := Int.natAbs_tmod a m
    have h' := Nat.mod_lt a.natAbs (show 0 < (m : Int).natAbs by simpa using hm)
    rw [← h] at h'
    simp only [Int.natAbs_natCast] at h'
    omega
  have h2 : a.tmod m < m := Int.tmod_lt_of_pos _ (by omega)
  have h3 : 0 ≤ a.tmod m + m := by omega
  have h4 : (a.tmod m + m).tmod m < m := Int.tmod_lt_of_pos _ (by omega)
  have h5 : 0 ≤ (a.tmod m + m).tmod m := Int.tmod_nonneg _ h3
  have h6 : (a.tmod m + m).tmod m = (a.tmod m + m) % m := Int.tmod_eq_emod_of_nonneg h3
  refine ⟨a.tmod m, (a.tmod m + m).toNat, rfl, by omega, ?_, by unfold arndN; omega, by omega, by omega, by omega⟩
  unfold arndN
  rw [Int.toNat_of_nonneg h3, Int.toNat_of_nonneg h5, h6]

/-- The chance that is meant. -/
def chc (L : List Nat) (a : ActD) : Nat := fairN (L[arndN L.length a.at_]?.getD 0)
def chE (f : Nat → Bool) (s : Enc × List Nat) (a : ActD) : Enc × List Nat :=
  if 0 < a.many then (dirE a.n (bitsN a.many) s.1, s.2) else (bitE s.1 (chc s.2 a) (f a.n), s.2.set (arndN s.2.length a.at_) (learnN (chc s.2 a) (f a.n)))
def runE (f : Nat → Bool) (s : Enc × List Nat) (acts : List ActD) : Enc × List Nat := acts.foldl (chE f) s
theorem chc_bd (L : List Nat) (a : ActD) : 31 ≤ chc L a ∧ chc L a ≤ 2017 := fairN_bd _
theorem chE_good {f : Nat → Bool} {s : Enc × List Nat} (h : Good s.1) (a : ActD) : Good (chE f s a).1 := by
  unfold chE
  split
  · exact dirE_good _ _ h
  · exact bitE_good h (chc_bd _ _).1 (chc_bd _ _).2 _
theorem chE_len (f : Nat → Bool) (s : Enc × List Nat) (a : ActD) : (chE f s a).2.length = s.2.length := by
  unfold chE
  split
  · rfl
  · exact List.length_set
theorem chE_many (f : Nat → Bool) (s : Enc × List Nat) (a : ActD) : manyE (chE f s a).1 ≤ manyE s.1 + 32 := by
  unfold chE
  split
  · have := dirE_many a.n (bitsN a.many) s.1
    have := bitsN_le a.many
    show manyE (dirE _ _ _) ≤ _
    omega
  · have := bitE_many s.1 (chc s.2 a) (f a.n)
    show manyE (bitE _ _ _) ≤ _
    omega
theorem runE_good (f : Nat → Bool) (acts : List ActD) : ∀ {s : Enc × List Nat}, Good s.1 → Good (runE f s acts).1 := by
  induction acts with
  | nil => exact fun h => h
  | cons a r ih => exact fun h => ih (chE_good h a)
theorem runE_len (f : Nat → Bool) (acts : List ActD) : ∀ (s : Enc × List Nat), (runE f s acts).2.length = s.2.length := by
  induction acts with
  | nil => exact fun _ => rfl
  | cons a r ih => exact fun s => (ih (chE f s a)).trans (chE_len f s a)
theorem runE_many (f : Nat → Bool) (acts : List ActD) : ∀ (s : Enc × List Nat), manyE (runE f s acts).1 ≤ manyE s.1 + 32 * acts.length := by
  induction acts with
  | nil => exact fun _ => Nat.le_refl _
  | cons a r ih =>
    intro s
    have h1 := ih (chE f s a)
    have h2 := chE_many f s a
    show manyE (runE f (chE f s a) r).1 ≤ _
    rw [List.length_cons]
    omega
theorem runE_take (f : Nat → Bool) (s : Enc × List Nat) (acts : List ActD) (k : Nat) (h : k < acts.length) : runE f s (acts.take (k + 1)) = chE f (runE f s (acts.take k)) (acts[k]?.getD actD0) := by
  unfold runE
  rw [List.take_succ_eq_append_getElem h, List.foldl_append, List.getElem?_eq_getElem h]
  rfl
theorem runE_drop (f : Nat → Bool) (s : Enc × List Nat) (acts : List ActD) (k : Nat) : runE f (runE f s (acts.take k)) (acts.drop k) = runE f s acts := by
  unfold runE
  rw [← List.foldl_append, List.take_append_drop]
theorem chE_has {b : List Nat} (hb : ∀ j : Nat, b[j]?.getD 0 < 256) {f : Nat → Bool} {s : Enc × List Nat} (h : Good s.1) (a : ActD) (hh : Has b (chE f s a).1) : Has b s.1 := by
  unfold chE at hh
  split at hh
  · exact dir_has hb _ _ h hh
  · exact bit_has hb h (chc_bd _ _).1 (chc_bd _ _).2 _ hh
theorem runE_has {b : List Nat} (hb : ∀ j : Nat, b[j]?.getD 0 < 256) (f : Nat → Bool) (acts : List ActD) : ∀ {s : Enc × List Nat}, Good s.1 → Has b (runE f s acts).1 → Has b s.1 := by
  induction acts with
  | nil => exact fun _ h => h
  | cons a r ih => exact fun h hh => chE_has hb h a (ih (chE_good h a) hh)

def chD (s : Dec × List Nat) (a : ActD) : Dec × List Nat :=
  if 0 < a.many then ((dirD (bitsN a.many) s.1 0).1, s.2) else (narD (ordD s.1) (chc s.2 a), s.2.set (arndN s.2.length a.at_) (learnN (chc s.2 a) (oneD (ordD s.1) (chc s.2 a))))
def runD (s : Dec × List Nat) (acts : List ActD) : Dec × List Nat := acts.foldl chD s
theorem chD_len (s : Dec × List Nat) (a : ActD) : (chD s a).2.length = s.2.length := by
  unfold chD
  split
  · rfl
  · exact List.length_set
theorem runD_len (acts : List ActD) : ∀ (s : Dec × List Nat), (runD s acts).2.length = s.2.length := by
  induction acts with
  | nil => exact fun _ => rfl
  | cons a r ih => exact fun s => (ih (chD s a)).trans (chD_len s a)
theorem runD_take (s : Dec × List Nat) (acts : List ActD) (k : Nat) (h : k < acts.length) : runD s (acts.take (k + 1)) = chD (runD s (acts.take k)) (acts[k]?.getD actD0) := by
  unfold runD
  rw [List.take_succ_eq_append_getElem h, List.foldl_append, List.getElem?_eq_getElem h]
  rfl
/-- What went in by an act comes out by it. -/
theorem act_sync {b : List Nat} (hb : ∀ j : Nat, b[j]?.getD 0 < 256) {f : Nat → Bool} {e : Enc} {L : List Nat} {d : Dec} (h : Good e) (a : ActD) (hh : Has b (chE f (e, L) a).1) (hd : ordD d = syncD b e) :
    ordD (chD (d, L) a).1 = syncD b (chE f (e, L) a).1 ∧ (chD (d, L) a).2 = (chE f (e, L) a).2 ∧ (0 < a.many → (dirD (bitsN a.many) d 0).2 = a.n % 2 ^ bitsN a.many) ∧ (¬ 0 < a.many → oneD (ordD d) (chc L a) = f a.n) := by
  unfold chE chD at *
  by_cases hm : 0 < a.many
  · rw [if_pos hm] at hh ⊢
    rw [if_pos hm]
    obtain ⟨s1, s2⟩ := dir_sync hb a.n (bitsN a.many) d 0 h hh hd
    exact ⟨s1, rfl, fun _ => by rw [s2]; omega, fun q => absurd hm q⟩
  · rw [if_neg hm] at hh ⊢
    rw [if_neg hm]
    obtain ⟨s1, s2⟩ := bit_sync hb h (chc_bd L a).1 (chc_bd L a).2 (f a.n) hh hd
    exact ⟨s2, by rw [s1], fun q => absurd q hm, fun _ => s1⟩

/-- An encoder and its chances, in new memory. -/
structure EncG (w wr : World) (b g : Nat) (s : Enc × List Nat) (v : Value) : Prop where
  enc : IsE wr b s.1 true v
  good : Good s.1
  chs : Chs wr g s.2
  hb : w.heap.size ≤ b
  hg : w.heap.size ≤ g
  hv : ∀ k, v.ownBlock = some k → w.heap.size ≤ k
  keep : Keep noBlock w wr
theorem Chs.ne {w : World} {g : Nat} {L : List Nat} (h : Chs w g L) {b : Nat} {cs : Array Value} {t : TypeId} (ho : w.heap[b]? = some (.cells cs t (0, 0))) (ht : 40 ≠ t) : g ≠ b := by
  obtain ⟨ds, h1, _⟩ := h.obj
  exact ne_of_type h1 ho ht
theorem EncG.gv {w wr : World} {b g : Nat} {s : Enc × List Nat} {v : Value} (h : EncG w wr b g s v) : v.ownBlock ≠ some g := by
  obtain ⟨cs, h1, _⟩ := h.chs.obj
  exact owns_ne h.enc.own h1 (by decide)
theorem EncG.to {w wr W : World} {b g : Nat} {s : Enc × List Nat} {v : Value} (h : EncG w wr b g s v) (hk : Keep noBlock wr W) : EncG w W b g s v :=
  ⟨h.enc.keep hk (fun h => h) (fun _ _ h => h), h.good, h.chs.keep hk (fun h => h), h.hb, h.hg, h.hv, h.keep.trans' hk⟩
/-- Bits that are as likely. -/
theorem EncG.direct {w wr : World} {b g : Nat} {s : Enc × List Nat} {v : Value} (h : EncG w wr b g s v) (f : Nat → Bool) (a : ActD) (ha : 0 < a.many) (hn : a.n < 4294967296) (hm : manyE s.1 + 32 ≤ 1000000) :
    Calls Try.prog 20 #[.pointer (some ⟨b, 0, none⟩), .int .u32 (a.n : Int), .int .i64 a.many] wr fun r w' => r = .returned (.tuple #[]) ∧ ∃ v', EncG w w' b g (chE f s a) v' := by
  refine (directE_any b a.n a.many s.1 v wr h.enc h.good.ok hn hm).mono ?_
  rintro r w1 ⟨rfl, v1, a1, a2, a3⟩
  have e : chE f s a = (dirE a.n (bitsN a.many) s.1, s.2) := if_pos ha
  have hne := h.chs.ne h.enc.obj (by decide)
  rw [e]
  refine ⟨rfl, v1, a1, dirE_good _ _ h.good, h.chs.keep a3 ?_, h.hb, h.hg, near_new h.keep.size h.hv a2, keep_new h.keep h.hb h.hv a3⟩
  rintro (q | q)
  · exact hne q
  · exact h.gv q
/-- A bit by a chance. -/
theorem EncG.bit {w wr : World} {b g : Nat} {s : Enc × List Nat} {v : Value} (h : EncG w wr b g s v) (f : Nat → Bool) (a : ActD) (ha : ¬ 0 < a.many) (hL : 0 < s.2.length) (hL2 : s.2.length ≤ 300) (bit : Int) (hbit : f a.n = (bit != 0)) (hm : manyE s.1 + 32 ≤ 1000000) :
    Calls Try.prog 22 #[.pointer (some ⟨b, 0, none⟩), .pointer (some ⟨g, arndN s.2.length a.at_, none⟩), .int .i64 bit] wr fun r w' => r = .returned (.tuple #[]) ∧ ∃ v', EncG w w' b g (chE f s a) v' := by
  obtain ⟨cs, h1, h2⟩ := h.chs.obj
  obtain ⟨_, _, _, _, _, hlt, _⟩ := arnd_parts s.2.length a.at_ hL hL2
  refine (bitE_any b g (arndN s.2.length a.at_) (s.2[arndN s.2.length a.at_]?.getD 0) bit (f a.n) cs s.1 v wr h.enc h.good.ok (by omega) h1 (h2 _ hlt) (h.chs.lt _) hbit).mono ?_
  rintro r w1 ⟨rfl, v1, a1, a2, a3, a4⟩
  have e : chE f s a = (bitE s.1 (chc s.2 a) (f a.n), s.2.set (arndN s.2.length a.at_) (learnN (chc s.2 a) (f a.n))) := if_neg ha
  rw [e]
  have hb := learnN_bd (f a.n) (chc_bd s.2 a).1 (chc_bd s.2 a).2
  refine ⟨rfl, v1, a1, bitE_good h.good (chc_bd _ _).1 (chc_bd _ _).2 _, Chs.set a3 h2 h.chs.lt (by show learnN _ _ < _; have := hb.2; unfold chc at this; omega), h.hb, h.hg, near_new h.keep.size h.hv a2, ?_⟩
  refine h.keep.trans a4 (fun i hi q => ?_)
  have := h.hb
  have := h.hg
  rcases q with (q | q) | q
  · omega
  · have := h.hv i q; omega
  · omega

/-- A decoder and its chances, in new memory; the bytes lie in block r. -/
structure DecG (w wr : World) (b r g : Nat) (s : Dec × List Nat) : Prop where
  dec : IsD wr b r s.1
  chs : Chs wr g s.2
  hb : w.heap.size ≤ b
  hg : w.heap.size ≤ g
  hr : r ≠ g
  keep : Keep noBlock w wr
theorem DecG.to {w wr W : World} {b r g : Nat} {s : Dec × List Nat} (h : DecG w wr b r g s) (hk : Keep noBlock wr W) : DecG w W b r g s :=
  ⟨h.dec.keep hk (fun h => h) (fun h => h), h.chs.keep hk (fun h => h), h.hb, h.hg, h.hr, h.keep.trans' hk⟩
theorem DecG.gb {w wr : World} {b r g : Nat} {s : Dec × List Nat} (h : DecG w wr b r g s) : g ≠ b := by
  obtain ⟨_, _, _, ho, _⟩ := h.dec.obj
  exact h.chs.ne ho (by decide)
theorem DecG.direct {w wr : World} {b r g : Nat} {s : Dec × List Nat} (h : DecG w wr b r g s) (a : ActD) (ha : 0 < a.many) :
    Calls Try.prog 12 #[.pointer (some ⟨b, 0, none⟩), .int .i64 a.many] wr fun e w' => e = .returned (.int .u32 (((dirD (bitsN a.many) s.1 0).2 : Nat) : Int)) ∧ DecG w w' b r g (chD s a) ∧ Keep (fun k => k = b ∨ k = g) wr w' := by
  refine (direct_any b r a.many s.1 wr h.dec).mono ?_
  rintro e w1 ⟨rfl, a1, a2⟩
  have e : chD s a = ((dirD (bitsN a.many) s.1 0).1, s.2) := if_pos ha
  rw [e]
  exact ⟨rfl, ⟨a1, h.chs.keep a2 h.gb, h.hb, h.hg, h.hr, h.keep.trans a2 (fun i hi q => by have := h.hb; omega)⟩, a2.mono (fun _ _ e => .inl e)⟩
theorem DecG.bit {w wr : World} {b r g : Nat} {s : Dec × List Nat} (h : DecG w wr b r g s) (a : ActD) (ha : ¬ 0 < a.many) (hL : 0 < s.2.length) (hL2 : s.2.length ≤ 300) :
    Calls Try.prog 14 #[.pointer (some ⟨b, 0, none⟩), .pointer (some ⟨g, arndN s.2.length a.at_, none⟩)] wr fun e w' => e = .returned (.int .i64 (bitI (oneD (ordD s.1) (chc s.2 a)))) ∧ DecG w w' b r g (chD s a) ∧ Keep (fun k => k = b ∨ k = g) wr w' := by
  obtain ⟨cs, h1, h2⟩ := h.chs.obj
  obtain ⟨_, _, _, _, _, hlt, _⟩ := arnd_parts s.2.length a.at_ hL hL2
  refine (bitD_any b r g (arndN s.2.length a.at_) (s.2[arndN s.2.length a.at_]?.getD 0) cs s.1 wr h.dec h1 (h2 _ hlt) (h.chs.lt _) h.hr).mono ?_
  rintro e w1 ⟨rfl, a1, a2, a3⟩
  have e : chD s a = (narD (ordD s.1) (chc s.2 a), s.2.set (arndN s.2.length a.at_) (learnN (chc s.2 a) (oneD (ordD s.1) (chc s.2 a)))) := if_neg ha
  rw [e]
  have hb := learnN_bd (oneD (ordD s.1) (chc s.2 a)) (chc_bd s.2 a).1 (chc_bd s.2 a).2
  refine ⟨rfl, ⟨a1, Chs.set a2 h2 h.chs.lt (by have := hb.2; unfold chc at this; omega), h.hb, h.hg, h.hr, h.keep.trans a3 (fun i hi q => ?_)⟩, a3⟩
  have := h.hb
  have := h.hg
  rcases q with q | q <;> omega

end Go.Proofs.Ytfhgbggcpoingaa
