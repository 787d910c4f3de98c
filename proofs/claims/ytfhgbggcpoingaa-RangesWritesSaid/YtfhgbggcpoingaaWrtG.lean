/-
  RangesWrites: the program's encoder and the document's, side by side.
-/
import Derived.Test.YtfhgbggcpoingaaVen
import Derived.Test.YtfhgbggcpoingaaBckG
namespace Go.Proofs.Ytfhgbggcpoingaa
open Go.RowKit Go.Shelf
set_option linter.unusedVariables false

/-- A bit that is not 0 of two. -/
def anyF (n : Nat) : Bool := n % 4 != 0
theorem anyF_bit (n : Nat) (h : n < 4294967296) : ∃ t : Nat, bits .and .u32 (n : Int) 3 = (t : Int) ∧ t < 4 ∧ anyF n = ((t : Int) != 0) := by
  refine ⟨n % 4, ?_, by omega, ?_⟩
  · have := u32_and_nat n 3 h (by omega)
    rw [nat_mask2] at this
    exact this
  · unfold anyF
    rw [Bool.eq_iff_iff]
    simp
    omega
theorem own_lt {w : World} {base n : Nat} {v : Value} {xs : List Value} (h : w.ownsRow base 5 1 v n xs) (k : Nat) (hk : v.ownBlock = some k) : k < w.heap.size := by
  rcases h.2 with ⟨rfl, _⟩ | ⟨g, cap, cur, rfl, _, hg, _⟩
  · cases hk
  · have : g = k := by simpa [Value.ownBlock] using hk
    rw [← this]; exact obj_lt hg

/-- Both encoders, each with its chances. -/
structure Two (w wr : World) (b g b2 g2 : Nat) (s s2 : Enc × List Nat) (v v2 : Value) : Prop where
  enc : IsE wr b s.1 true v
  ref : IsV wr b2 s2.1 false v2
  good : Good s.1
  good2 : Good s2.1
  chs : Chs wr g s.2
  chs2 : Chs wr g2 s2.2
  n1 : g ≠ g2
  n2 : ∀ k, v.ownBlock = some k → v2.ownBlock ≠ some k
  hb : w.heap.size ≤ b
  hg : w.heap.size ≤ g
  hv : ∀ k, v.ownBlock = some k → w.heap.size ≤ k
  hb2 : w.heap.size ≤ b2
  hg2 : w.heap.size ≤ g2
  hv2 : ∀ k, v2.ownBlock = some k → w.heap.size ≤ k
  keep : Keep noBlock w wr
theorem Two.to {w wr W : World} {b g b2 g2 : Nat} {s s2 : Enc × List Nat} {v v2 : Value} (h : Two w wr b g b2 g2 s s2 v v2) (hk : Keep noBlock wr W) : Two w W b g b2 g2 s s2 v v2 :=
  ⟨h.enc.keep hk (fun h => h) (fun _ _ h => h), h.ref.keep hk (fun h => h) (fun _ _ h => h), h.good, h.good2, h.chs.keep hk (fun h => h), h.chs2.keep hk (fun h => h), h.n1, h.n2, h.hb, h.hg, h.hv, h.hb2, h.hg2, h.hv2, h.keep.trans' hk⟩
/-- What the one may turn, and what the other. -/
def EncT (b g : Nat) (v : Value) (k : Nat) : Prop := EncS b v k ∨ k = g
theorem Two.apart {w wr : World} {b g b2 g2 : Nat} {s s2 : Enc × List Nat} {v v2 : Value} (h : Two w wr b g b2 g2 s s2 v v2) :
    (¬ EncT b g v b2 ∧ ¬ EncT b g v g2 ∧ ∀ k, v2.ownBlock = some k → ¬ EncT b g v k) ∧ (¬ EncT b2 g2 v2 b ∧ ¬ EncT b2 g2 v2 g ∧ ∀ k, v.ownBlock = some k → ¬ EncT b2 g2 v2 k) ∧ (∀ k, EncT b g v k → k < wr.heap.size) ∧ (∀ k, EncT b2 g2 v2 k → k < wr.heap.size) ∧ g ≠ b ∧ v.ownBlock ≠ some g ∧ g2 ≠ b2 ∧ v2.ownBlock ≠ some g2 := by
  obtain ⟨_, c1, _⟩ := h.chs.obj
  obtain ⟨_, c2, _⟩ := h.chs2.obj
  have o1 := h.enc.obj
  have o2 := h.ref.obj
  refine ⟨⟨?_, ?_, ?_⟩, ⟨?_, ?_, ?_⟩, ?_, ?_, ne_of_type c1 o1 (by decide), owns_ne h.enc.own c1 (by decide), ne_of_type c2 o2 (by decide), owns_ne h.ref.own c2 (by decide)⟩
  · rintro ((q | q) | q)
    · exact ne_of_type o2 o1 (by decide) q
    · exact owns_ne h.enc.own o2 (by decide) q
    · exact ne_of_type o2 c1 (by decide) q
  · rintro ((q | q) | q)
    · exact ne_of_type c2 o1 (by decide) q
    · exact owns_ne h.enc.own c2 (by decide) q
    · exact h.n1 q.symm
  · rintro k hk ((q | q) | q)
    · exact owns_ne h.ref.own o1 (by decide) (by rw [hk, q])
    · exact h.n2 k q hk
    · exact owns_ne h.ref.own c1 (by decide) (by rw [hk, q])
  · rintro ((q | q) | q)
    · exact ne_of_type o1 o2 (by decide) q
    · exact owns_ne h.ref.own o1 (by decide) q
    · exact ne_of_type o1 c2 (by decide) q
  · rintro ((q | q) | q)
    · exact ne_of_type c1 o2 (by decide) q
    · exact owns_ne h.ref.own c1 (by decide) q
    · exact h.n1 q
  · rintro k hk ((q | q) | q)
    · exact owns_ne h.enc.own o2 (by decide) (by rw [hk, q])
    · exact h.n2 k hk q
    · exact owns_ne h.enc.own c2 (by decide) (by rw [hk, q])
  · rintro k ((q | q) | q)
    · rw [q]; exact obj_lt o1
    · exact own_lt h.enc.own k q
    · rw [q]; exact obj_lt c1
  · rintro k ((q | q) | q)
    · rw [q]; exact obj_lt o2
    · exact own_lt h.ref.own k q
    · rw [q]; exact obj_lt c2
theorem near_apart {w : World} {v v' u : Value} (hn : Near w v v') (h : ∀ k, v.ownBlock = some k → u.ownBlock ≠ some k) (hu : ∀ k, u.ownBlock = some k → k < w.heap.size) : ∀ k, v'.ownBlock = some k → u.ownBlock ≠ some k := fun k hk hq => by
  rcases hn with q | ⟨j, q, hj⟩
  · exact h k (by rw [← q]; exact hk) hq
  · rw [q] at hk
    have : j = k := by simpa using hk
    have := hu k hq
    omega
theorem Two.direct {w wr : World} {b g b2 g2 : Nat} {s s2 : Enc × List Nat} {v v2 : Value} (h : Two w wr b g b2 g2 s s2 v v2) (f : Nat → Bool) (a : ActD) (ha : 0 < a.many) (hn : a.n < 4294967296) (hm : manyE s.1 + 32 ≤ 1000000) :
    Calls Try.prog 20 #[.pointer (some ⟨b, 0, none⟩), .int .u32 (a.n : Int), .int .i64 a.many] wr fun r w' => r = .returned (.tuple #[]) ∧ ∃ v', Two w w' b g b2 g2 (chE f s a) s2 v' v2 ∧ Keep (EncT b g v) wr w' := by
  obtain ⟨⟨m1, m2, m3⟩, -, m4, m5, m6, m7, -⟩ := h.apart
  refine (directE_any b a.n a.many s.1 v wr h.enc h.good.ok hn hm).mono ?_
  rintro r w1 ⟨rfl, v1, a1, a2, a3⟩
  have e : chE f s a = (dirE a.n (bitsN a.many) s.1, s.2) := if_pos ha
  have kt : Keep (EncT b g v) wr w1 := a3.mono (fun _ _ q => .inl q)
  rw [e]
  refine ⟨rfl, v1, ⟨a1, h.ref.keep kt m1 m3, dirE_good _ _ h.good, h.good2, h.chs.keep a3 ?_, h.chs2.keep kt m2, h.n1, near_apart a2 h.n2 (fun k q => own_lt h.ref.own k q), h.hb, h.hg, near_new h.keep.size h.hv a2, h.hb2, h.hg2, h.hv2, keep_new h.keep h.hb h.hv a3⟩, kt⟩
  rintro (q | q)
  · exact m6 q
  · exact m7 q
theorem Two.direct2 {w wr : World} {b g b2 g2 : Nat} {s s2 : Enc × List Nat} {v v2 : Value} (h : Two w wr b g b2 g2 s s2 v v2) (f : Nat → Bool) (a : ActD) (ha : 0 < a.many) (hn : a.n < 4294967296) (hm : manyE s2.1 + 32 ≤ 1000000) :
    Calls Try.prog 21 #[.pointer (some ⟨b2, 0, none⟩), .int .u32 (a.n : Int), .int .i64 a.many] wr fun r w' => r = .returned (.tuple #[]) ∧ ∃ v2', Two w w' b g b2 g2 s (chE f s2 a) v v2' := by
  obtain ⟨-, ⟨m1, m2, m3⟩, m4, m5, -, -, m6, m7⟩ := h.apart
  refine (directV_any b2 a.n a.many s2.1 v2 wr h.ref h.good2.ok hn hm).mono ?_
  rintro r w1 ⟨rfl, v1, a1, a2, a3⟩
  have e : chE f s2 a = (dirE a.n (bitsN a.many) s2.1, s2.2) := if_pos ha
  have kt : Keep (EncT b2 g2 v2) wr w1 := a3.mono (fun _ _ q => .inl q)
  have hap := near_apart a2 (u := v) (fun k q q2 => h.n2 k q2 q) (fun k q => own_lt h.enc.own k q)
  rw [e]
  refine ⟨rfl, v1, ⟨h.enc.keep kt m1 m3, a1, h.good, dirE_good _ _ h.good2, h.chs.keep kt m2, h.chs2.keep a3 ?_, h.n1, fun k q q2 => hap k q2 q, h.hb, h.hg, h.hv, h.hb2, h.hg2, near_new h.keep.size h.hv2 a2, keep_new h.keep h.hb2 h.hv2 a3⟩⟩
  rintro (q | q)
  · exact m6 q
  · exact m7 q
theorem Two.bit {w wr : World} {b g b2 g2 m : Nat} {s s2 : Enc × List Nat} {v v2 : Value} (h : Two w wr b g b2 g2 s s2 v v2) (f : Nat → Bool) (a : ActD) (ha : ¬ 0 < a.many) (hsl : s.2.length = m) (hL : 0 < m) (hL2 : m ≤ 300) (bit : Int) (hbit : f a.n = (bit != 0)) (hm : manyE s.1 + 32 ≤ 1000000) :
    Calls Try.prog 22 #[.pointer (some ⟨b, 0, none⟩), .pointer (some ⟨g, arndN m a.at_, none⟩), .int .i64 bit] wr fun r w' => r = .returned (.tuple #[]) ∧ ∃ v', Two w w' b g b2 g2 (chE f s a) s2 v' v2 ∧ Keep (EncT b g v) wr w' := by
  subst hsl
  obtain ⟨⟨m1, m2, m3⟩, -, m4, m5, m6, m7, -⟩ := h.apart
  obtain ⟨cs, h1, h2⟩ := h.chs.obj
  obtain ⟨_, _, _, _, _, hlt, _⟩ := arnd_parts s.2.length a.at_ hL hL2
  refine (bitE_any b g (arndN s.2.length a.at_) (s.2[arndN s.2.length a.at_]?.getD 0) bit (f a.n) cs s.1 v wr h.enc h.good.ok (by omega) h1 (h2 _ hlt) (h.chs.lt _) hbit).mono ?_
  rintro r w1 ⟨rfl, v1, a1, a2, a3, a4⟩
  have e : chE f s a = (bitE s.1 (chc s.2 a) (f a.n), s.2.set (arndN s.2.length a.at_) (learnN (chc s.2 a) (f a.n))) := if_neg ha
  have kt : Keep (EncT b g v) wr w1 := a4
  have hb := learnN_bd (f a.n) (chc_bd s.2 a).1 (chc_bd s.2 a).2
  rw [e]
  refine ⟨rfl, v1, ⟨a1, h.ref.keep kt m1 m3, bitE_good h.good (chc_bd _ _).1 (chc_bd _ _).2 _, h.good2, Chs.set a3 h2 h.chs.lt (by have := hb.2; unfold chc at this; omega), h.chs2.keep kt m2, h.n1, near_apart a2 h.n2 (fun k q => own_lt h.ref.own k q), h.hb, h.hg, near_new h.keep.size h.hv a2, h.hb2, h.hg2, h.hv2, h.keep.trans a4 (fun i hi q => ?_)⟩, kt⟩
  have := h.hb
  have := h.hg
  rcases q with (q | q) | q
  · omega
  · have := h.hv i q; omega
  · omega
theorem Two.bit2 {w wr : World} {b g b2 g2 m : Nat} {s s2 : Enc × List Nat} {v v2 : Value} (h : Two w wr b g b2 g2 s s2 v v2) (f : Nat → Bool) (a : ActD) (ha : ¬ 0 < a.many) (hsl : s2.2.length = m) (hL : 0 < m) (hL2 : m ≤ 300) (bit : Int) (hbit : f a.n = (bit != 0)) (hm : manyE s2.1 + 32 ≤ 1000000) :
    Calls Try.prog 23 #[.pointer (some ⟨b2, 0, none⟩), .pointer (some ⟨g2, arndN m a.at_, none⟩), .int .i64 bit] wr fun r w' => r = .returned (.tuple #[]) ∧ ∃ v2', Two w w' b g b2 g2 s (chE f s2 a) v v2' ∧ Keep (EncT b2 g2 v2) wr w' := by
  subst hsl
  obtain ⟨-, ⟨m1, m2, m3⟩, m4, m5, -, -, m6, m7⟩ := h.apart
  obtain ⟨cs, h1, h2⟩ := h.chs2.obj
  obtain ⟨_, _, _, _, _, hlt, _⟩ := arnd_parts s2.2.length a.at_ hL hL2
  refine (bitV_any b2 g2 (arndN s2.2.length a.at_) (s2.2[arndN s2.2.length a.at_]?.getD 0) bit (f a.n) cs s2.1 v2 wr h.ref h.good2.ok (by omega) h1 (h2 _ hlt) (h.chs2.lt _) hbit).mono ?_
  rintro r w1 ⟨rfl, v1, a1, a2, a3, a4⟩
  have e : chE f s2 a = (bitE s2.1 (chc s2.2 a) (f a.n), s2.2.set (arndN s2.2.length a.at_) (learnN (chc s2.2 a) (f a.n))) := if_neg ha
  have kt : Keep (EncT b2 g2 v2) wr w1 := a4
  have hb := learnN_bd (f a.n) (chc_bd s2.2 a).1 (chc_bd s2.2 a).2
  have hap := near_apart a2 (u := v) (fun k q q2 => h.n2 k q2 q) (fun k q => own_lt h.enc.own k q)
  rw [e]
  refine ⟨rfl, v1, ⟨h.enc.keep kt m1 m3, a1, h.good, bitE_good h.good2 (chc_bd _ _).1 (chc_bd _ _).2 _, h.chs.keep kt m2, Chs.set a3 h2 h.chs2.lt (by have := hb.2; unfold chc at this; omega), h.n1, fun k q q2 => hap k q2 q, h.hb, h.hg, h.hv, h.hb2, h.hg2, near_new h.keep.size h.hv2 a2, h.keep.trans a4 (fun i hi q => ?_)⟩, kt⟩
  have := h.hb2
  have := h.hg2
  rcases q with (q | q) | q
  · omega
  · have := h.hv2 i q; omega
  · omega
/-- The end: both tell the same bytes, and the program's tells them again. -/
def Clos (w w2 : World) (b : Nat) (E : Enc) (u v2 : Value) : Prop := (∃ v, IsE w2 b E false v) ∧ Src w2 u E.out ∧ Src w2 v2 E.out ∧ Keep noBlock w w2 ∧ w2.ownsRow 0 5 1 v2 E.out.length (u8s E.out)
theorem Two.close {w wr : World} {b g b2 g2 : Nat} {s : Enc × List Nat} {v v2 : Value} (h : Two w wr b g b2 g2 s s v v2) (hm : manyE s.1 ≤ 999990) :
    Calls Try.prog 24 #[.pointer (some ⟨b, 0, none⟩)] wr fun r w1 => ∃ u, r = .returned u ∧ (∃ n c ua, u = .slice ua n c) ∧
      Hid (Calls Try.prog 25 #[.pointer (some ⟨b2, 0, none⟩)] w1 fun r w2 => ∃ v2', r = .returned v2' ∧ (∃ n c ua, v2' = .slice ua n c) ∧ Clos w w2 b (closeE s.1) u v2') := by
  obtain ⟨⟨m1, m2, m3⟩, ⟨m8, m9, m10⟩, m4, m5, m6, m7, -⟩ := h.apart
  refine (close_any b s.1 v wr h.enc hm).mono ?_
  rintro r w1 ⟨u, v1, rfl, ho, a1, a2, a3⟩
  have kt : Keep (EncT b g v) wr w1 := a3.mono (fun _ _ q => .inl q)
  have hr1 := h.ref.keep kt m1 m3
  obtain ⟨ua, uc, hu⟩ := owns_form ho
  refine ⟨u, rfl, ⟨_, _, _, hu⟩, (show Calls _ _ _ _ _ from ?_)⟩
  refine (closeV_any b2 s.1 v2 w1 hr1 h.good2.ok.wait hm).mono ?_
  rintro r w2 ⟨v3, rfl, b1, b2', b3⟩
  obtain ⟨va, vn, vc, hv3⟩ := b1.form
  have hne : b ≠ b2 := ne_of_type a1.obj hr1.obj (by decide)
  have hub : ∀ k, u.ownBlock = some k → wr.heap.size ≤ k := fun k hk => owns_ge ho k hk
  have hv1 := near_apart a2 h.n2 (fun k q => own_lt h.ref.own k q)
  refine ⟨v3, rfl, ⟨_, _, _, hv3⟩, ⟨v1, a1.keep b3 ?_ ?_⟩, ?_, Src.of_owns b1.own, ?_, b1.own⟩
  · rintro (q | q)
    · exact hne q
    · exact owns_ne hr1.own a1.obj (by decide) q
  · rintro k hk (q | q)
    · exact owns_ne a1.own hr1.obj (by decide) (by rw [hk, q])
    · exact hv1 k hk q
  · refine Src.of_owns (owns_kept (owns_base ho) b3 ?_)
    rintro k hk (q | q)
    · exact owns_ne ho hr1.obj (by decide) (by rw [hk, q])
    · have := hub k hk
      have := own_lt h.ref.own k q
      omega
  · exact keep_new (keep_new h.keep h.hb h.hv a3) h.hb2 h.hv2 b3

end Go.Proofs.Ytfhgbggcpoingaa
