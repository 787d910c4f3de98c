/-
  math/bits.Len8, slices.Clone at bytes, and tail.New; the calls on no reader.
-/
import Derived.Test.YtoffnhbopjaocaaTlRead
import Derived.Deep.AppendLies
import Derived.WalkLawsBesides
namespace Go.Proofs.Ytoffnhbopjaocaa.Tl
open Go.RowKit Go.Shelf
set_option linter.unusedVariables false
/-- How many bits a byte has, up to its highest that is set. -/
def lenB (c : Nat) : Nat := if c = 0 then 0 else Nat.log2 c + 1

set_option maxRecDepth 100000 in
set_option maxHeartbeats 1000000 in
/-- Len8. -/
theorem len8_any (c : Nat) (hc : c < 256) (w : World) : Calls Try.prog 52 #[.int .u8 (c : Int)] w fun e w' => e = .returned (.int .i64 ((lenB c : Nat) : Int)) ∧ w' = w := by
  go_enter Try.func52, Try.ntmps52
  go_wp2
  go_ret
  rename_i hI
  refine ⟨congrArg (fun x => Ending.returned (Value.int .i64 x)) ?_, rfl⟩
  clear w
  revert hI hc
  revert c
  decide +kernel

theorem lenB_pos (c : Nat) (h : c ≠ 0) : 0 < lenB c := by unfold lenB; rw [if_neg h]; omega
theorem lenB_le (c : Nat) (h : c < 256) : lenB c ≤ 8 := by
  unfold lenB
  split
  · omega
  · rename_i h0
    have := (Nat.log2_lt h0 (k := 8)).2 (by omega)
    omega

/-- How many bits the tail of bs has: those below the mark. -/
def tailLen (bs : List Nat) : Nat := 8 * (bs.length - 1) + (lenB (bs[bs.length - 1]?.getD 0) - 1)
theorem tailLen_le (bs : List Nat) (hbs : ∀ j : Nat, bs[j]?.getD 0 < 256) : tailLen bs ≤ 8 * bs.length := by
  have := lenB_le _ (hbs (bs.length - 1))
  unfold tailLen
  by_cases h : bs = []
  · subst h; decide
  · have := List.length_pos_iff.2 h; omega

set_option maxHeartbeats 400000 in
/-- New of no bytes. -/
theorem new_none (sa : Option Addr) (cap : Nat) (w : World) : Calls Try.prog 20 #[.slice sa 0 cap] w fun e w' => e = .returned (.tuple #[.pointer none, .int .i64 11]) ∧ w' = w := by
  go_enter Try.func20, Try.ntmps20
  go_wp2
  go_ret2
  exact ⟨rfl, rfl⟩

set_option maxHeartbeats 400000 in
/-- New of bytes whose last is 0. -/
theorem new_zero (gb off cap k : Nat) (w : World) (hk : k < 140737488355328) (hc : w.cell? ⟨gb, off + k, none⟩ = some (.int .u8 0)) : Calls Try.prog 20 #[.slice (some ⟨gb, off, none⟩) (k + 1) cap] w fun e w' => e = .returned (.tuple #[.pointer none, .int .i64 11]) ∧ w' = w := by
  go_enter Try.func20, Try.ntmps20
  go_wp2
  go_ret2
  exact ⟨rfl, rfl⟩

set_option maxHeartbeats 1000000 in
/-- New of bytes with a mark: a reader behind the tail's last bit. -/
theorem new_mark (gb off cap k c : Nat) (bs : List Nat) (hlen : bs.length = k + 1) (hk : k < 140737488355327) (hbs : ∀ j : Nat, bs[j]?.getD 0 < 256) (w : World) (hck : bs[k]?.getD 0 = c) (hc0 : c ≠ 0)
    (hcs : ∀ j, j < bs.length → w.cell? ⟨gb, off + j, none⟩ = some (.int .u8 ((bs[j]?.getD 0 : Nat) : Int))) :
    Calls Try.prog 20 #[.slice (some ⟨gb, off, none⟩) (k + 1) cap] w fun e w' => ∃ rb g, e = .returned (.tuple #[.pointer (some ⟨rb, 0, none⟩), .int .i64 0]) ∧ w.heap.size ≤ rb ∧ w.heap.size ≤ g ∧ IsR w' rb g bs (tailLen bs) 0 ∧ Keep noBlock w w' := by
  have hc : w.cell? ⟨gb, off + k, none⟩ = some (.int .u8 (c : Int)) := by rw [hcs k (by omega), hck]
  have hc256 : c < 256 := by rw [← hck]; exact hbs k
  have hsrc : Src w (.slice (some ⟨gb, off, none⟩) (k + 1) cap) bs := by
    refine .inr ⟨⟨gb, off, none⟩, cap, by rw [hlen], (World.block_lt_of_cell? w ⟨gb, off + k, none⟩ hc :), fun j u hu => ?_⟩
    have hj : j < (u8s bs).length := (List.getElem?_eq_some_iff.1 hu).1
    rw [u8s_length] at hj
    rw [u8s_at bs j hj] at hu
    rw [← hu, show (⟨gb, off, none⟩ : Addr).add j = ⟨gb, off + j, none⟩ from by unfold Addr.add; split <;> simp_all]
    exact hcs j hj
  have hT : tailLen bs = 8 * k + lenB c - 1 := by
    have := lenB_pos c hc0
    unfold tailLen
    rw [hlen, Nat.add_sub_cancel, hck]; omega
  have hTl := tailLen_le bs hbs
  have HT := (show Hid _ from hT)
  have HTL := (show Hid _ from hTl)
  have HL := (show Hid _ from hlen)
  have HC := (show Hid _ from hcs)
  have HCK := (show Hid _ from hck)
  have hl8 := lenB_le c hc256
  have hl0 := lenB_pos c hc0
  have H8 : Hid (∀ w : World, Calls Try.prog 52 #[.int .u8 (c : Int)] w fun e w' => e = .returned (.int .i64 ((lenB c : Nat) : Int)) ∧ w' = w) := fun w => len8_any c hc256 w
  generalize tailLen bs = T at HT HTL ⊢
  generalize lenB c = y at hl8 hl0 HT H8
  have hkd : decide ((k : Int) < 0) = false := decide_eq_false (by omega)
  have hce : ((c : Int) == 0) = false := by simp; omega
  clear hT hTl hlen hcs hck
  go_enter Try.func20, Try.ntmps20
  go_wp2_with (first | (go_at_call 52; refine (H8.out _).mono ?_; rintro e w' ⟨rfl, rfl⟩) | (go_at_call 53; refine (clone_any _ bs (by have := HL.out; omega) _ hsrc).mono ?_; rintro e w1 ⟨v', rfl, hown, hK, hn⟩; obtain ⟨sa, cap1, rfl⟩ := owns_form hown))
  go_ret2
  have hTe : ((T : Nat) : Int) = (k : Int) * 8 + y - 1 := by have := HT.out; omega
  have hTl := HTL.out
  have hlen := HL.out
  rw [← hTe]
  have hk2 : Keep noBlock w' (w1.alloc (.cells #[.slice sa bs.length cap1, .int .i64 (T : Int), .int .i64 0] 97)) := hK.alloc _
  have hsz := hK.size
  have hob := World.alloc_heap_new w1 (.cells #[.slice sa bs.length cap1, .int .i64 (T : Int), .int .i64 0] 97)
  rcases (hown.alloc (.cells #[.slice sa bs.length cap1, .int .i64 (T : Int), .int .i64 0] 97)).2 with ⟨e1, h0⟩ | ⟨g, cap', cur, e1, hb, hg, hr⟩
  · omega
  · simp only [Value.slice.injEq] at e1
    obtain ⟨rfl, _, rfl⟩ := e1
    refine ⟨w1.heap.size, g, rfl, hsz, hb, ⟨obj_lt hg, ⟨_, cap1, .inl rfl, hob⟩, fun j hj => ?_, by omega, hbs, hTl, by decide⟩, hk2⟩
    have := (hown.alloc (.cells #[.slice (some ⟨g, 0, none⟩) bs.length cap1, .int .i64 (T : Int), .int .i64 0] 97)).cells (g := g) rfl j _ (u8s_at bs j hj)
    rwa [add0] at this

/-- What New answers: an error, or a reader at the tail's end. -/
theorem new_any (sa : Option Addr) (cap gb off : Nat) (bs : List Nat) (hlen : bs.length ≤ 140737488355327) (hbs : ∀ j : Nat, bs[j]?.getD 0 < 256) (w : World) (hsa : sa = some ⟨gb, off, none⟩ ∨ bs = [])
    (hcs : ∀ j, j < bs.length → w.cell? ⟨gb, off + j, none⟩ = some (.int .u8 ((bs[j]?.getD 0 : Nat) : Int))) :
    (bs[bs.length - 1]?.getD 0 = 0 ∧ Calls Try.prog 20 #[.slice sa bs.length cap] w fun e w' => e = .returned (.tuple #[.pointer none, .int .i64 11]) ∧ w' = w) ∨
    (bs[bs.length - 1]?.getD 0 ≠ 0 ∧ Calls Try.prog 20 #[.slice sa bs.length cap] w fun e w' => ∃ rb g, e = .returned (.tuple #[.pointer (some ⟨rb, 0, none⟩), .int .i64 0]) ∧ w.heap.size ≤ rb ∧ w.heap.size ≤ g ∧ IsR w' rb g bs (tailLen bs) 0 ∧ Keep noBlock w w') := by
  by_cases hnil : bs = []
  · subst hnil
    exact .inl ⟨rfl, new_none sa cap w⟩
  · obtain rfl : sa = some ⟨gb, off, none⟩ := hsa.elim id (fun e => absurd e hnil)
    obtain ⟨k, hk⟩ : ∃ k, bs.length = k + 1 := ⟨bs.length - 1, by have := List.length_pos_iff.2 hnil; omega⟩
    rw [show bs.length - 1 = k from by omega]
    by_cases h0 : bs[k]?.getD 0 = 0
    · refine .inl ⟨h0, ?_⟩
      have := hcs k (by omega)
      rw [h0] at this
      rw [hk]
      exact new_zero gb off cap k w (by omega) this
    · refine .inr ⟨h0, ?_⟩
      rw [hk]
      exact new_mark gb off cap k _ bs hk (by omega) hbs w rfl h0 hcs

set_option maxHeartbeats 400000 in
theorem left_nil (w : World) : Calls Try.prog 23 #[.pointer none] w fun e w' => e = .returned (.int .i64 0) ∧ w' = w := by
  go_enter Try.func23, Try.ntmps23
  go_wp2
  go_ret
  exact ⟨rfl, rfl⟩
set_option maxHeartbeats 400000 in
theorem close_nil (w : World) : Calls Try.prog 21 #[.pointer none] w fun e w' => e = .returned (.slice none 0 0) ∧ w' = w := by
  go_enter Try.func21, Try.ntmps21
  go_wp2
  go_ret
  exact ⟨rfl, rfl⟩
set_option maxHeartbeats 400000 in
theorem bits_nil (n : Int) (w : World) : Calls Try.prog 22 #[.pointer none, .int .i64 n] w fun e w' => e = .returned (.int .u64 0) ∧ w' = w := by
  refine (callsIn_wide (n := 4)).1 ?_
  refine callsIn_of_wp_marks Try.func22 rfl trivial ?_ rfl
  simp only [Try.ntmps22, List.size_toArray, List.length_cons, List.length_nil, Nat.reduceAdd, Nat.reduceSub, Array.replicate_succ, Array.replicate_zero, List.push_toArray, List.append_toArray, List.nil_append, List.cons_append]
  gi_wp2
  exact ⟨_, results_tmp rfl _ _ _, rfl, rfl⟩
set_option maxHeartbeats 400000 in
/-- Put of no writer. -/
theorem put_nil (x n : Int) (w : World) :
    Calls Try.prog 19 #[.pointer none, .int .u64 x, .int .i64 n] w fun e w' => e = .returned (.int .i64 1) ∧ Keep noBlock w w' := by
  refine (callsIn_wide (n := 4)).1 ?_
  refine callsIn_of_wp_marks Try.func19 rfl trivial ?_ rfl
  simp only [Try.ntmps19, List.size_toArray, List.length_cons, List.length_nil, Nat.reduceAdd, Nat.reduceSub, Array.replicate_succ, Array.replicate_zero, List.push_toArray, List.append_toArray, List.nil_append, List.cons_append]
  gi_wp2
  exact ⟨_, results_tmp rfl _ _ _, rfl, (Keep.refl _ w).alloc _⟩

end Go.Proofs.Ytoffnhbopjaocaa.Tl
