/-
  Words that were written, read again: no program is named here.
-/
import Derived.Test.YtapcohpagipkpaaWriteG
import Derived.Test.YtapcohpagipkpaaRead5
namespace Go.Proofs.Ytapcohpagipkpaa
open Go.RowKit Go.Shelf

/-- The bits of a symbol's word, the highest first. -/
def wordBits (xs : List Nat) (s : Nat) : List (Fin 2) := low (valF (bitOf (wordN xs s)) (numOf xs s)) (numOf xs s)
theorem wordBits_length (xs : List Nat) (s : Nat) : (wordBits xs s).length = numOf xs s := low_length _ _
/-- The bits of many words. -/
def laidW (xs S : List Nat) : List (Fin 2) := S.flatMap (wordBits xs)
theorem laidW_snoc (xs S : List Nat) (s : Nat) : laidW xs (S ++ [s]) = laidW xs S ++ wordBits xs s := by simp [laidW]
theorem laidW_take (xs S : List Nat) (k : Nat) (hk : k < S.length) : laidW xs (S.take (k + 1)) = laidW xs (S.take k) ++ wordBits xs (S[k]?.getD 0) := by
  rw [List.take_add_one, List.getElem?_eq_getElem hk]
  exact laidW_snoc _ _ _
theorem laidW_split (xs S : List Nat) (k : Nat) : laidW xs S = laidW xs (S.take k) ++ laidW xs (S.drop k) := by
  unfold laidW
  rw [← List.flatMap_append, List.take_append_drop]
theorem laidW_le {xs : List Nat} (h : isCode xs = true) (S : List Nat) : (laidW xs S).length ≤ 15 * S.length := by
  induction S with
  | nil => simp [laidW]
  | cons s S ih =>
    have := num15 h s
    simp only [laidW, List.flatMap_cons, List.length_append, List.length_cons] at ih ⊢
    rw [wordBits_length]
    omega
theorem bitL_low (x m k : Nat) (h : k < m) : bitL (low x m) k = bitOf x k := by
  unfold bitL low upto
  rw [List.getElem?_map, List.getElem?_range h]
  rfl
theorem pack_room (L : List (Fin 2)) : L.length ≤ 8 * (pack L).length ∧ 8 * (pack L).length < L.length + 8 := by
  rw [pack_length]; omega
theorem many_count {xs : List Nat} {l : Nat} (hl : l ≠ 0) : many xs l = (symsOf xs l).length := by
  have := part_length xs l
  rw [if_neg hl] at this
  exact this.symm
theorem wordN_lt {xs : List Nat} (h : isCode xs = true) (s : Nat) (hs : s < xs.length) (hn : numOf xs s ≠ 0) :
    nextF (many xs) (numOf xs s) ≤ wordN xs s ∧ wordN xs s < nextF (many xs) (numOf xs s) + many xs (numOf xs s) ∧ wordN xs s < 2 ^ numOf xs s := by
  have h15 := num15 h s
  have hr := rank_lt xs s hs
  rw [← many_count hn] at hr
  have hc : partsTo (many xs) 16 = 32768 := by
    unfold isCode at h
    exact (of_decide_eq_true h).2.2
  have := next_le (many xs) hc (numOf xs s) h15
  unfold wordN
  rw [if_neg hn]
  omega

/-- Behind the bits A the word of s lies: what is read there is s. -/
theorem word_back {xs : List Nat} (h : isCode xs = true) (s : Nat) (hs : s < xs.length) (hn : numOf xs s ≠ 0) (A M L : List (Fin 2)) (hL : L = A ++ (wordBits xs s ++ M)) (l : Nat)
    (hW : IsWord (many xs) (fun i => bitAt (pack L) (A.length + i)) l) :
    l = numOf xs s ∧ A.length + l ≤ 8 * (pack L).length ∧ ∀ sym, (symsOf xs l)[valF (fun i => bitAt (pack L) (A.length + i)) l - nextF (many xs) l]? = some sym → sym = s := by
  have h15 := num15 h s
  obtain ⟨h1, h2, h3⟩ := wordN_lt h s hs hn
  have hb : ∀ i, bitAt (pack L) (A.length + i) < 2 := fun i => by rw [bitAt_pack]; exact bitL_lt _ _
  have hbit : ∀ i, i < numOf xs s → bitAt (pack L) (A.length + i) = bitOf (wordN xs s) (0 + numOf xs s - 1 - i) := fun i hi => by
    rw [bitAt_pack, hL, bitL_behind, bitL_app _ _ _ (by rw [wordBits_length]; exact hi)]
    unfold wordBits
    rw [bitL_low _ _ _ hi, bitOf_valF _ (fun i => bitOf_lt _ _) _ _ hi, Nat.zero_add]
  have hv : valF (fun i => bitAt (pack L) (A.length + i)) (numOf xs s) = wordN xs s := by
    rw [valF_congr _ _ _ hbit, valF_bits, Nat.pow_zero, Nat.div_one, Nat.mod_eq_of_lt h3]
  have hw := word_is (many xs) _ hb (numOf xs s) (wordN xs s) (by omega) h15 hv h1 h2
  have e := hW.one hw
  subst e
  refine ⟨rfl, ?_, fun sym hsym => ?_⟩
  · have := (pack_room L).1
    have e2 : L.length = A.length + (numOf xs s + M.length) := by rw [hL, List.length_append, List.length_append, wordBits_length]
    omega
  · rw [hv] at hsym
    have e3 : wordN xs s - nextF (many xs) (numOf xs s) = rank xs s := by unfold wordN; rw [if_neg hn]; omega
    rw [e3, symsOf_rank xs s hs] at hsym
    exact (Option.some.inj hsym).symm

/-- 's = ((s % n) + n) % n'. -/
def around (n : Nat) (s : Int) : Nat := ((s.tmod n + n).tmod n).toNat
theorem around_lt (n : Nat) (s : Int) (hn : 0 < n) (h : n ≤ 1024) : ((around n s : Nat) : Int) = (s.tmod n + n).tmod n ∧ around n s < n ∧ -1024 ≤ s.tmod n ∧ s.tmod n ≤ 1024 := by
  have h1 : -(n : Int) < s.tmod n := by
    have h := Int.natAbs_tmod s n
    have h' := Nat.mod_lt s.natAbs (show 0 < (n : Int).natAbs by simpa using hn)
    rw [← h] at h'
    simp only [Int.natAbs_natCast] at h'
    omega
  have h2 : s.tmod n < n := Int.tmod_lt_of_pos _ (by omega)
  have h3 : 0 ≤ s.tmod n + n := by omega
  have h4 : (s.tmod n + n).tmod n < n := Int.tmod_lt_of_pos _ (by omega)
  have h5 : 0 ≤ (s.tmod n + n).tmod n := Int.tmod_nonneg _ h3
  unfold around
  omega

end Go.Proofs.Ytapcohpagipkpaa
