/-
  What was put, as bits, and what is read of it again from the end on.
-/
import Derived.Test.YtdkjciilhlhagaaPair
import Derived.Test.YtdkjciilhlhagaaMark
namespace Go.Proofs.Ytdkjciilhlhagaa
open Go.RowKit Go.Shelf
set_option linter.unusedVariables false

/-- The bits of the first k. -/
def laid (ps : List PutD) : Nat → List (Fin 2)
  | 0 => []
  | k + 1 => putL (laid ps k) (ps[k]?.getD putD0).x (ps[k]?.getD putD0).n
theorem putL_grows (L : List (Fin 2)) (x : Nat) (n : Int) : ∃ M, putL L x n = L ++ M := by
  unfold putL
  split
  · exact ⟨_, rfl⟩
  · exact ⟨[], (List.append_nil _).symm⟩
theorem putL_put (L : List (Fin 2)) (x m : Nat) (hm : m ≤ 56) : putL L x (m : Int) = L ++ low x m := by
  have h : (0 : Int) ≤ (m : Int) ∧ (m : Int) ≤ 56 := ⟨by omega, by omega⟩
  simp only [putL, if_pos h, Int.toNat_natCast]
theorem putL_arg (L : List (Fin 2)) (x : Nat) (n : Int) (hn : ¬ (0 ≤ n ∧ n ≤ 56)) : putL L x n = L := by
  unfold putL
  rw [if_neg hn]
theorem laid_le (ps : List PutD) (k : Nat) : (laid ps k).length ≤ 56 * k := by
  induction k with
  | zero => simp [laid]
  | succ k ih => have := putL_le (laid ps k) (ps[k]?.getD putD0).x (ps[k]?.getD putD0).n; simp only [laid]; omega
theorem laid_grows (ps : List PutD) (k n : Nat) (h : k ≤ n) : ∃ M, laid ps n = laid ps k ++ M := by
  induction n with
  | zero => obtain rfl : k = 0 := by omega
            exact ⟨[], rfl⟩
  | succ n ih =>
    by_cases e : k = n + 1
    · subst e; exact ⟨[], (List.append_nil _).symm⟩
    · obtain ⟨M, hM⟩ := ih (by omega)
      obtain ⟨M2, hM2⟩ := putL_grows (laid ps n) (ps[n]?.getD putD0).x (ps[n]?.getD putD0).n
      exact ⟨M ++ M2, by rw [← List.append_assoc, ← hM]; exact hM2⟩
theorem bitL_low (x m k : Nat) (h : k < m) : bitL (low x m) k = bitOf x k := by
  unfold bitL low upto
  rw [List.getElem?_map, List.getElem?_range h]
  rfl
theorem numF_bitOf (x m : Nat) : numF (fun k => bitOf x k) m = x % 2 ^ m := by
  induction m with
  | zero => simp [numF, Nat.mod_one]
  | succ m ih =>
    simp only [numF]
    rw [ih, Nat.mod_pow_succ, bitOf, Nat.mul_comm]
/-- What was put is read as it was put. -/
theorem num_back (A M : List (Fin 2)) (x m : Nat) (L : List (Fin 2)) (h : L = A ++ low x m ++ M) : numAt (pack L) A.length m = x % 2 ^ m := by
  rw [numAt_numF, ← numF_bitOf]
  refine numF_congr _ _ _ (fun i hi => ?_)
  rw [bitAt_pack, h, List.append_assoc, bitL_behind, bitL_app _ _ _ (by rw [low_length]; exact hi), bitL_low x m i hi]

/-- The last byte of bits with the mark behind them: the mark is its highest bit. -/
theorem last_byte (L : List (Fin 2)) : 2 ^ (L.length % 8) ≤ byteOf (L ++ [1]) (L.length / 8) ∧ byteOf (L ++ [1]) (L.length / 8) < 2 ^ (L.length % 8 + 1) := by
  have h2 : byteOf (L ++ [1]) (L.length / 8) = numF (fun i => bitL (L ++ [1]) (8 * (L.length / 8) + i)) (L.length % 8 + 1) :=
    numF_ext _ _ _ (by omega) (fun i h1 h2 => bitL_far _ _ (by simp; omega))
  have hlt := numF_lt (fun i => bitL (L ++ [1]) (8 * (L.length / 8) + i)) (fun _ => bitL_lt _ _) (L.length % 8 + 1)
  rw [← h2] at hlt
  refine ⟨?_, hlt⟩
  rw [h2]
  simp only [numF]
  rw [show 8 * (L.length / 8) + L.length % 8 = L.length from by omega, bitL_new L 1]
  have : ((1 : Fin 2).val) * 2 ^ (L.length % 8) = 2 ^ (L.length % 8) := by simp
  omega
theorem mark_last (L : List (Fin 2)) : (pack (L ++ [1]))[(pack (L ++ [1])).length - 1]?.getD 0 = byteOf (L ++ [1]) (L.length / 8) := by
  have hl : (pack (L ++ [1])).length = L.length / 8 + 1 := by rw [pack_length]; simp; omega
  rw [hl, Nat.add_sub_cancel]
  exact pack_at (L ++ [1]) _ (by simp; omega)
theorem mark_ne (L : List (Fin 2)) : (pack (L ++ [1]))[(pack (L ++ [1])).length - 1]?.getD 0 ≠ 0 := by
  rw [mark_last]
  have := (last_byte L).1
  have := Nat.two_pow_pos (L.length % 8)
  omega
/-- The tail is what was put. -/
theorem tailLen_mark (L : List (Fin 2)) : tailLen (pack (L ++ [1])) = L.length := by
  have hl : (pack (L ++ [1])).length = L.length / 8 + 1 := by rw [pack_length]; simp; omega
  have hb := last_byte L
  have hne := mark_ne L
  unfold tailLen
  rw [mark_last] at hne ⊢
  rw [hl, Nat.add_sub_cancel]
  unfold lenB
  rw [if_neg hne]
  have h1 := (Nat.log2_lt hne (k := L.length % 8 + 1)).2 hb.2
  have h2 := (Nat.le_log2 hne (k := L.length % 8)).2 hb.1
  omega

/-- 'x & (1 << m - 1)'. -/
theorem and_mask (x m : Nat) (hx : x < 18446744073709551616) (hm : m ≤ 56) : Go.bits .and .u64 (x : Int) (2 ^ m - 1) = ((x % 2 ^ m : Nat) : Int) := by
  have h1 : 2 ^ m ≤ 2 ^ 56 := Nat.pow_le_pow_right (by omega) hm
  have h0 : 0 < 2 ^ m := Nat.two_pow_pos m
  have e : ((2 : Int) ^ m - 1) = ((2 ^ m - 1 : Nat) : Int) := by
    rw [Int.natCast_sub h0]; simp
  rw [e, u64_and_nat x (2 ^ m - 1) hx (by omega), Nat.and_two_pow_sub_one_eq_mod]
/-- 'x & (1 << uint(m) - 1)', as the walk writes it. -/
theorem mask_form (x m : Nat) (hx : x < 18446744073709551616) (hm : m ≤ 56) :
    bits .and .u64 (x : Int) (IntKind.u64.wrap (IntKind.u64.wrap (2 ^ min (IntKind.u64.wrap (m : Int)).toNat 64) - 1)) = ((x % 2 ^ m : Nat) : Int) := by
  have h0 : 0 < 2 ^ m := Nat.two_pow_pos m
  have h1 : 2 ^ m ≤ 2 ^ 56 := Nat.pow_le_pow_right (by omega) hm
  have e1 : IntKind.u64.wrap (m : Int) = (m : Int) := by rw [IntKind.wrap_u64]; omega
  have e2 : min m 64 = m := by omega
  have e3 : ((2 : Int) ^ m) = ((2 ^ m : Nat) : Int) := by simp
  have e4 : IntKind.u64.wrap ((2 : Int) ^ m) = (2 : Int) ^ m := by
    rw [e3]; generalize 2 ^ m = z at h0 h1; rw [IntKind.wrap_u64]; omega
  have e5 : IntKind.u64.wrap ((2 : Int) ^ m - 1) = (2 : Int) ^ m - 1 := by
    rw [e3]; generalize 2 ^ m = z at h0 h1; rw [IntKind.wrap_u64]; omega
  rw [e1, Int.toNat_natCast, e2, e4, e5]
  exact and_mask x m hx hm

/-- New over a row of one's own that ends with a mark. -/
theorem new_own (v : Value) (bs : List Nat) (hlen : bs.length ≤ 140737488355326) (hbs : ∀ j : Nat, bs[j]?.getD 0 < 256) (h0 : bs[bs.length - 1]?.getD 0 ≠ 0) (w : World) (hown : w.ownsRow 0 5 1 v bs.length (u8s bs)) :
    Calls Try.prog 7 #[v] w fun e w' => ∃ rb g, e = .returned (.tuple #[.pointer (some ⟨rb, 0, none⟩), .int .i64 0]) ∧ w.heap.size ≤ rb ∧ w.heap.size ≤ g ∧ IsR w' rb g bs (tailLen bs) 0 ∧ Keep noBlock w w' := by
  have hpos : 0 < bs.length := by
    cases bs with
    | nil => simp at h0
    | cons x l => simp
  rcases hown.2 with ⟨rfl, e0⟩ | ⟨gb, cap, cur, rfl, _⟩
  · omega
  · obtain ⟨k, hk⟩ : ∃ k, bs.length = k + 1 := ⟨bs.length - 1, by omega⟩
    rw [hk]
    rw [show bs.length - 1 = k from by omega] at h0
    refine new_mark gb 0 cap k _ bs hk (by omega) hbs w rfl h0 (fun j hj => ?_)
    have := hown.cells (g := gb) rfl j _ (u8s_at bs j hj)
    rw [add0] at this
    rwa [Nat.zero_add]

/-- A writer that holds L, in memory that is new since w. -/
structure Mine (w W : World) (u : Value) (L : List (Fin 2)) : Prop where
  isW : IsW W w.heap.size u L
  keep : Keep noBlock w W
  ub : ∀ k, u.ownBlock = some k → w.heap.size ≤ k
/-- A reader with u bits left, in memory that is new since w. -/
structure MineR (w W : World) (rb g : Nat) (bs : List Nat) (u : Nat) : Prop where
  isR : IsR W rb g bs u 0
  keep : Keep noBlock w W
theorem MineR.drewN {w W : World} {rb g : Nat} {bs : List Nat} {u : Nat} (h : MineR w W rb g bs u) (n : Nat) : MineR w (W.drewN n) rb g bs u := ⟨h.isR.drewN n, h.keep.trans' (keep_drewN _ _)⟩
theorem Mine.put {w W : World} {u : Value} {L : List (Fin 2)} (h : Mine w W u L) (o : Obj) (x : Nat) (n : Int) (hx : x < 18446744073709551616) (hL : L.length < 1000000000000) :
    Calls Try.prog 13 #[.pointer (some ⟨w.heap.size, 0, none⟩), .int .u64 (x : Int), .int .i64 n] (W.alloc o) fun e W1 => e = .returned (.int .i64 (putCode n)) ∧ ∃ u', Mine w W1 u' (putL L x n) := by
  have hs := h.keep.size
  refine (put_all w.heap.size u L x n hx hL _ (h.isW.keep ((Keep.refl noBlock W).alloc o) (fun h => h) (fun _ _ h => h))).mono ?_
  rintro e W1 ⟨rfl, u1, hW1, hM, hK1⟩
  refine ⟨rfl, u1, hW1, (h.keep.alloc o).trans hK1 ?_, ?_⟩
  · rintro i hi (e | e)
    · omega
    · have := h.ub i e; omega
  · intro k hk
    rcases hM with e | ⟨j, e, hj⟩
    · exact h.ub k (by rw [← e]; exact hk)
    · rw [e] at hk; cases hk; rw [World.size_alloc] at hj; omega
/-- Close, and New of what it gives. -/
theorem Mine.close {w W : World} {u : Value} {L : List (Fin 2)} (h : Mine w W u L) (hL : L.length < 1000000000000) :
    Calls Try.prog 15 #[.pointer (some ⟨w.heap.size, 0, none⟩)] W fun e W1 => ∃ v, e = .returned v ∧ Hid (Calls Try.prog 7 #[v] W1 fun e W2 => ∃ rb g, e = .returned (.tuple #[.pointer (some ⟨rb, 0, none⟩), .int .i64 0]) ∧ w.heap.size ≤ rb ∧ MineR w W2 rb g (pack (L ++ [1])) L.length) := by
  have hs := h.keep.size
  refine (close_any w.heap.size u L hL W h.isW).mono ?_
  rintro e W1 ⟨v, rfl, hown, hW1, hM, hK1⟩
  have hK : Keep noBlock w W1 := h.keep.trans hK1 (by
    rintro i hi (e | e)
    · omega
    · have := h.ub i e; omega)
  have hpl : (pack (L ++ [1])).length ≤ 140737488355326 := by rw [pack_length]; simp; omega
  refine ⟨v, rfl, ?_⟩
  refine (new_own v _ hpl (pack_lt _) (mark_ne L) W1 hown).mono ?_
  rintro e W2 ⟨rb, g, rfl, hrb, hg, hR, hK2⟩
  rw [tailLen_mark] at hR
  have := hK.size
  exact ⟨rb, g, rfl, by omega, hR, hK.trans' hK2⟩

end Go.Proofs.Ytdkjciilhlhagaa
