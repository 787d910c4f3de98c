/-
  What was put into a tail, and what is read of it again from the end on.
-/
import Derived.Test.YtoffnhbopjaocaaTlWrite
import Derived.Test.YtoffnhbopjaocaaRdC
namespace Go.Proofs.Ytoffnhbopjaocaa.Tl
open Go.RowKit Go.Shelf
set_option linter.unusedVariables false

/-- What was put is read as it was put. -/
theorem num_back (A M : List (Fin 2)) (x m : Nat) (L : List (Fin 2)) (h : L = A ++ low x m ++ M) : numAt (pack L) A.length m = x % 2 ^ m := by
  rw [numAt_numF, ← numF_bitOf]
  refine numF_congr _ _ _ (fun i hi => ?_)
  rw [bitAt_pack, h, List.append_assoc, bitL_behind, bitL_app _ _ _ (by rw [low_length]; exact hi), bitL_low x m i hi]

/-- The last byte of bits with the mark behind them: the mark is its highest bit. -/
theorem last_byte (L : List (Fin 2)) : 2 ^ (L.length % 8) ≤ byteOf (L ++ [1]) (L.length / 8) ∧ byteOf (L ++ [1]) (L.length / 8) < 2 ^ (L.length % 8 + 1) := by
  have h2 : byteOf (L ++ [1]) (L.length / 8) = numF (fun i => bitL (L ++ [1]) (8 * (L.length / 8) + i)) (L.length % 8 + 1) :=
    numF_ext _ _ _ (by omega) (fun i h1 h2 => bitL_far _ _ (by simp; omega))
  have hlt := numF_lt (fun i => bitL (L ++ [1]) (8 * (L.length / 8) + i)) (fun _ => bitL_lt _ _) (L.length % 8 + 1)
  rw [← h2] at hlt
  refine ⟨?_, hlt⟩
  rw [h2]
  simp only [numF]
  rw [show 8 * (L.length / 8) + L.length % 8 = L.length from by omega, bitL_new L 1]
  have : ((1 : Fin 2).val) * 2 ^ (L.length % 8) = 2 ^ (L.length % 8) := by simp
  omega
theorem mark_last (L : List (Fin 2)) : (pack (L ++ [1]))[(pack (L ++ [1])).length - 1]?.getD 0 = byteOf (L ++ [1]) (L.length / 8) := by
  have hl : (pack (L ++ [1])).length = L.length / 8 + 1 := by rw [pack_length]; simp; omega
  rw [hl, Nat.add_sub_cancel]
  exact pack_at (L ++ [1]) _ (by simp; omega)
theorem mark_ne (L : List (Fin 2)) : (pack (L ++ [1]))[(pack (L ++ [1])).length - 1]?.getD 0 ≠ 0 := by
  rw [mark_last]
  have := (last_byte L).1
  have := Nat.two_pow_pos (L.length % 8)
  omega
/-- The tail is what was put. -/
theorem tailLen_mark (L : List (Fin 2)) : tailLen (pack (L ++ [1])) = L.length := by
  have hl : (pack (L ++ [1])).length = L.length / 8 + 1 := by rw [pack_length]; simp; omega
  have hb := last_byte L
  have hne := mark_ne L
  unfold tailLen
  rw [mark_last] at hne ⊢
  rw [hl, Nat.add_sub_cancel]
  unfold lenB
  rw [if_neg hne]
  have h1 := (Nat.log2_lt hne (k := L.length % 8 + 1)).2 hb.2
  have h2 := (Nat.le_log2 hne (k := L.length % 8)).2 hb.1
  omega

/-- New over a row of one's own that ends with a mark. -/
theorem new_own (v : Value) (bs : List Nat) (hlen : bs.length ≤ 140737488355326) (hbs : ∀ j : Nat, bs[j]?.getD 0 < 256) (h0 : bs[bs.length - 1]?.getD 0 ≠ 0) (w : World) (hown : w.ownsRow 0 5 1 v bs.length (u8s bs)) :
    Calls Try.prog 20 #[v] w fun e w' => ∃ rb g, e = .returned (.tuple #[.pointer (some ⟨rb, 0, none⟩), .int .i64 0]) ∧ w.heap.size ≤ rb ∧ w.heap.size ≤ g ∧ IsR w' rb g bs (tailLen bs) 0 ∧ Keep noBlock w w' := by
  have hpos : 0 < bs.length := by
    cases bs with
    | nil => simp at h0
    | cons x l => simp
  rcases hown.2 with ⟨rfl, e0⟩ | ⟨gb, cap, cur, rfl, _⟩
  · omega
  · obtain ⟨k, hk⟩ : ∃ k, bs.length = k + 1 := ⟨bs.length - 1, by omega⟩
    rw [hk]
    rw [show bs.length - 1 = k from by omega] at h0
    refine new_mark gb 0 cap k _ bs hk (by omega) hbs w rfl h0 (fun j hj => ?_)
    have := hown.cells (g := gb) rfl j _ (u8s_at bs j hj)
    rw [add0] at this
    rwa [Nat.zero_add]

/-- A writer of one's own, made since w, that was given the bits L. -/
structure MineT (w W : World) (wb : Nat) (L : List (Fin 2)) : Prop where
  is : ∃ v, IsW W wb v L ∧ ∀ k, v.ownBlock = some k → w.heap.size ≤ k
  new : w.heap.size ≤ wb
  keep : Keep noBlock w W
theorem MineT.keeps {w W W' : World} {wb : Nat} {L : List (Fin 2)} (h : MineT w W wb L) (hk : Keep noBlock W W') : MineT w W' wb L := by
  obtain ⟨v, hv, hn⟩ := h.is
  exact ⟨⟨v, hv.keep hk (fun h => h) (fun _ _ h => h), hn⟩, h.new, h.keep.trans hk (fun _ _ h => h)⟩
theorem mineT_new (w : World) (W : World) (hk : Keep noBlock w W) : MineT w (W.alloc (.cells #[.slice none 0 0, .int .u8 0, .int .i64 0] 45)) W.heap.size [] :=
  ⟨⟨.slice none 0 0, isW_new W, fun k e => by cases e⟩, hk.size, hk.alloc _⟩
theorem MineT.put {w W : World} {wb : Nat} {L : List (Fin 2)} (h : MineT w W wb L) (x m : Nat) (hx : x < 18446744073709551616) (hm : m ≤ 56) (hL : L.length < 1000000000000) :
    Calls Try.prog 19 #[.pointer (some ⟨wb, 0, none⟩), .int .u64 (x : Int), .int .i64 (m : Int)] W fun e W' => e = .returned (.int .i64 0) ∧ MineT w W' wb (L ++ low x m) := by
  obtain ⟨v, hv, hn⟩ := h.is
  refine (put_any wb v L x m hx hm hL W hv).mono ?_
  rintro e W' ⟨rfl, v', h1, h2, h3⟩
  refine ⟨rfl, ⟨v', h1, fun k e => ?_⟩, h.new, h.keep.trans h3 ?_⟩
  · rcases h2 with h2 | ⟨j, h2, hj⟩
    · rw [h2] at e; exact hn k e
    · rw [h2] at e; cases e; have := h.keep.size; omega
  · rintro i hi (e | e)
    · have := h.new; omega
    · have := hn i e; omega
/-- Close of a writer: the tail's bytes. -/
theorem MineT.close {w W : World} {wb : Nat} {L : List (Fin 2)} (h : MineT w W wb L) (hL : L.length < 1000000000000) :
    Calls Try.prog 21 #[.pointer (some ⟨wb, 0, none⟩)] W fun e W' => ∃ v', e = .returned v' ∧ W'.ownsRow 0 5 1 v' (pack (L ++ [1])).length (u8s (pack (L ++ [1]))) ∧ Keep noBlock w W' := by
  obtain ⟨v, hv, hn⟩ := h.is
  refine (close_any wb v L hL W hv).mono ?_
  rintro e W' ⟨v', rfl, h1, _, _, h3⟩
  refine ⟨v', rfl, h1, h.keep.trans h3 ?_⟩
  rintro i hi (e | e)
  · have := h.new; omega
  · have := hn i e; omega
/-- New of what Close gave: the reader stands behind all bits that were put. -/
theorem new_closed (v : Value) (L : List (Fin 2)) (hL : L.length < 1000000000000) (w : World) (hown : w.ownsRow 0 5 1 v (pack (L ++ [1])).length (u8s (pack (L ++ [1])))) :
    Calls Try.prog 20 #[v] w fun e w' => ∃ rb g, e = .returned (.tuple #[.pointer (some ⟨rb, 0, none⟩), .int .i64 0]) ∧ w.heap.size ≤ rb ∧ w.heap.size ≤ g ∧ IsR w' rb g (pack (L ++ [1])) L.length 0 ∧ Keep noBlock w w' := by
  have hpl : (pack (L ++ [1])).length ≤ 140737488355326 := by rw [pack_length]; simp; omega
  have := new_own v _ hpl (pack_lt _) (mark_ne L) w hown
  rw [tailLen_mark] at this
  exact this
/-- Bits(m) of a reader that has so many. -/
theorem bits_there (rb g : Nat) (bs : List Nat) (p m u x : Nat) (hm : m ≤ 56) (hu : u = p + m) (hx : numAt bs p m = x) (w : World) (h : IsR w rb g bs u 0) :
    Calls Try.prog 22 #[.pointer (some ⟨rb, 0, none⟩), .int .i64 (m : Int)] w fun e w' => e = .returned (.int .u64 (x : Int)) ∧ IsR w' rb g bs p 0 ∧ Keep (fun k => k = rb) w w' := by
  have := bits_read rb g bs p m 0 u m 0 0 (m : Int) w h hu (by omega) (.inl rfl) (by omega) (by omega)
  rw [Nat.pow_zero, Nat.mul_one, hx] at this
  exact this

end Go.Proofs.Ytoffnhbopjaocaa.Tl
