/-
  The document's own reader: what each of its calls does.
-/
import Derived.Test.YtapcohpagipkpaaWrite
namespace Go.Proofs.Ytapcohpagipkpaa
open Go.RowKit Go.Shelf

/-- Block qb is the document's reader at bit p of the bytes bs, which lie in block gb from off on. -/
structure IsQ (W : World) (qb gb off : Nat) (bs : List Nat) (p : Nat) : Prop where
  obj : ∃ sa cap, (sa = some (⟨gb, off, none⟩ : Addr) ∨ bs = []) ∧ W.heap[qb]? = some (.cells #[.slice sa bs.length cap, .int .i64 (p : Int)] 42 (0, 0))
  cells : ∀ j, j < bs.length → W.cell? ⟨gb, off + j, none⟩ = some (.int .u8 ((bs[j]?.getD 0 : Nat) : Int))
  fits : bs.length < 140737488355328
  bytes : ∀ j : Nat, bs[j]?.getD 0 < 256
  in_ : p ≤ 8 * bs.length
theorem IsQ.drewN {W : World} {qb gb off : Nat} {bs : List Nat} {p : Nat} (h : IsQ W qb gb off bs p) (n : Nat) : IsQ (W.drewN n) qb gb off bs p := ⟨h.obj, h.cells, h.fits, h.bytes, h.in_⟩
theorem IsQ.lt {W : World} {qb gb off : Nat} {bs : List Nat} {p : Nat} (h : IsQ W qb gb off bs p) (hb : bs ≠ []) : gb < W.heap.size :=
  World.block_lt_of_cell? W ⟨gb, off + 0, none⟩ (h.cells 0 (List.length_pos_iff.2 hb))
theorem IsQ.ne {W : World} {qb gb off : Nat} {bs : List Nat} {p : Nat} (h : IsQ W qb gb off bs p) (hb : bs ≠ []) (hoff : off = 0 ∨ gb ≠ qb) : gb ≠ qb := by
  rcases hoff with rfl | h'
  · rintro rfl
    obtain ⟨sa, cap, _, ho⟩ := h.obj
    have h0 := h.cells 0 (List.length_pos_iff.2 hb)
    rw [cell_of ho] at h0
    simp at h0
  · exact h'
theorem IsQ.keep {W W' : World} {S : Nat → Prop} {qb gb off : Nat} {bs : List Nat} {p : Nat} (h : IsQ W qb gb off bs p) (hk : Keep S W W') (h1 : ¬ S qb) (h2 : bs ≠ [] → ¬ S gb) : IsQ W' qb gb off bs p := by
  obtain ⟨sa, cap, hsa, ho⟩ := h.obj
  refine ⟨⟨sa, cap, hsa, hk.obj ho h1⟩, fun j hj => ?_, h.fits, h.bytes, h.in_⟩
  have hne : bs ≠ [] := by rintro rfl; simp at hj
  exact (World.cell?_of_block (hk.block gb (h.lt hne) (h2 hne))).trans (h.cells j hj)

set_option maxHeartbeats 400000 in
theorem leftQ_any (qb gb off : Nat) (bs : List Nat) (p : Nat) (w : World) (h : IsQ w qb gb off bs p) :
    Calls Try.prog 19 #[.pointer (some ⟨qb, 0, none⟩)] w fun e w' => e = .returned (.int .i64 ((bs.length : Int) * 8 - p)) ∧ ∃ n, w' = w.drewN n := by
  obtain ⟨sa, cap, hsa, ho⟩ := h.obj
  have hc0 : w.cell? ⟨qb, 0, none⟩ = some (.slice sa bs.length cap) := cell_of ho 0
  have hc1 : w.cell? ⟨qb, 1, none⟩ = some (.int .i64 (p : Int)) := cell_of ho 1
  have hf := h.fits
  have hi := h.in_
  clear h ho hsa
  rw [show (bs.length : Int) * 8 - (p : Int) = 8 * (bs.length : Int) - (p : Int) from by omega]
  go_enter Try.func19, Try.ntmps19
  go_wp2
  go_quiet (fail)
  go_wp2
  go_ret
  exact ⟨rfl, _, rfl⟩

theorem wrap_div (c q : Nat) (hc : c < 18446744073709551616) : IntKind.u64.wrap ((c : Int) / 2 ^ q) = (c : Int) / 2 ^ q := by
  have e : ((c : Int) / 2 ^ q) = ((c / 2 ^ q : Nat) : Int) := by simp
  have h : c / 2 ^ q ≤ c := Nat.div_le_self _ _
  rw [e]
  generalize c / 2 ^ q = z at h ⊢
  rw [IntKind.wrap_u64]; omega

theorem isQ_set {w : World} {qb gb off : Nat} {bs : List Nat} {p : Nat} (h : IsQ w qb gb off bs p) (hne : bs ≠ [] → gb ≠ qb) (p' : Nat) (hp : p' ≤ 8 * bs.length) (x : Int) (hx : x = (p' : Int)) : IsQ (w.setCell ⟨qb, 1, none⟩ (.int .i64 x)) qb gb off bs p' := by
  subst hx
  obtain ⟨sa, cap, hsa, ho⟩ := h.obj
  refine ⟨⟨sa, cap, hsa, (set_obj ho 1 _).trans (by simp)⟩, fun j hj => ?_, h.fits, h.bytes, hp⟩
  have hb : bs ≠ [] := by rintro rfl; simp at hj
  exact (World.cell?_of_block (Below.heap_setCell _ _ _ _ (hne hb))).trans (h.cells j hj)

set_option maxHeartbeats 400000 in
theorem bitQ_any (qb gb off : Nat) (bs : List Nat) (p i : Nat) (w : World) (h : IsQ w qb gb off bs p) (hi : i < 8 * bs.length) :
    Calls Try.prog 69 #[.pointer (some ⟨qb, 0, none⟩), .int .i64 (i : Int)] w fun e w' => e = .returned (.int .u64 ((bitAt bs i : Nat) : Int)) ∧ w' = w := by
  obtain ⟨sa, cap, hsa, ho⟩ := h.obj
  have hidx : i / 8 < bs.length := by omega
  obtain rfl : sa = some ⟨gb, off, none⟩ := by
    rcases hsa with h | h
    · exact h
    · rw [h] at hidx; simp at hidx
  have hc0 : w.cell? ⟨qb, 0, none⟩ = some (.slice (some ⟨gb, off, none⟩) bs.length cap) := cell_of ho 0
  have hcg := h.cells (i / 8) hidx
  have hc256 := h.bytes (i / 8)
  have hf := h.fits
  have hba : bitAt bs i = bitOf (bs[i / 8]?.getD 0) (i % 8) := rfl
  rw [hba]
  generalize bs[i / 8]?.getD 0 = c at hcg hc256 ⊢
  have hq8 : i % 8 < 8 := by omega
  have hI : (i : Int).tmod 8 = ((i % 8 : Nat) : Int) := by rw [Int.tmod_eq_emod_of_nonneg (by omega)]; omega
  have hD : (i : Int).tdiv 8 = ((i / 8 : Nat) : Int) := by rw [Int.tdiv_eq_ediv_of_nonneg (by omega)]; omega
  have hI' : (i : Int) % 8 = ((i % 8 : Nat) : Int) := by omega
  have hD' : (i : Int) / 8 = ((i / 8 : Nat) : Int) := by omega
  generalize i % 8 = q at hq8 hI hI' ⊢
  generalize i / 8 = d at hcg hD hD' hidx
  have hb1 := and_bit_u64 c q (by omega)
  have hwr := wrap_div c q (by omega)
  clear h ho hba hsa
  go_enter Try.func69, Try.ntmps69
  go_wp2
  go_ret
  exact ⟨rfl, rfl⟩
theorem bitQ_i (qb gb off : Nat) (bs : List Nat) (p i : Nat) (ii : Int) (e : ii = (i : Int)) (w : World) (h : IsQ w qb gb off bs p) (hi : i < 8 * bs.length) :
    Calls Try.prog 69 #[.pointer (some ⟨qb, 0, none⟩), .int .i64 ii] w fun e w' => e = .returned (.int .u64 ((bitAt bs i : Nat) : Int)) ∧ w' = w := by
  subst e; exact bitQ_any qb gb off bs p i w h hi

theorem or_numAt (bs : List Nat) (p k : Nat) (hk : k < 64) : bits .or .u64 (numAt bs p k : Nat) (IntKind.u64.wrap ((bitAt bs (p + k) : Nat) * 2 ^ k)) = ((numAt bs p (k + 1) : Nat) : Int) := by
  have h := or_snoc bs p (upto fin64 k) (fin64 k)
  rw [← upto_succ, orOf_upto bs p k (by omega), orOf_upto bs p (k + 1) (by omega), show (fin64 k).val = k from Nat.mod_eq_of_lt hk] at h
  exact h

set_option maxHeartbeats 400000 in
theorem bitsQ_arg (qb : Nat) (n : Int) (hn : ¬ (0 ≤ n ∧ n ≤ 56)) (w : World) :
    Calls Try.prog 53 #[.pointer (some ⟨qb, 0, none⟩), .int .i64 n] w fun e w' => e = .returned (.tuple #[.int .u64 0, .int .i64 2]) ∧ w' = w := by
  by_cases h1 : n < 0
  · go_enter Try.func53, Try.ntmps53
    go_wp2
    go_ret2
    exact ⟨rfl, rfl⟩
  · have h2 : 56 < n := by omega
    go_enter Try.func53, Try.ntmps53
    go_wp2
    go_ret2
    exact ⟨rfl, rfl⟩

set_option maxHeartbeats 400000 in
theorem bitsQ_few (qb gb off : Nat) (bs : List Nat) (p m : Nat) (hm : m ≤ 56) (w : World) (h : IsQ w qb gb off bs p) (hp : 8 * bs.length < p + m) :
    Calls Try.prog 53 #[.pointer (some ⟨qb, 0, none⟩), .int .i64 (m : Int)] w fun e w' => e = .returned (.tuple #[.int .u64 0, .int .i64 10]) ∧ ∃ n, w' = w.drewN n := by
  have h1 : ¬ (m : Int) < 0 := by omega
  have h2 : ¬ 56 < (m : Int) := by omega
  have hlt : (bs.length : Int) * 8 - (p : Int) < (m : Int) := by omega
  go_enter Try.func53, Try.ntmps53
  go_wp2_with (go_at_call 19; refine (leftQ_any qb gb off bs p _ h).mono ?_; rintro e w' ⟨rfl, nq, rfl⟩)
  go_ret2
  exact ⟨rfl, _, rfl⟩

set_option maxHeartbeats 1000000 in
theorem bitsQ_take (qb gb off : Nat) (bs : List Nat) (p m : Nat) (hm : m ≤ 56) (w : World) (h : IsQ w qb gb off bs p) (hoff : bs ≠ [] → gb ≠ qb) (hp : p + m ≤ 8 * bs.length) :
    Calls Try.prog 53 #[.pointer (some ⟨qb, 0, none⟩), .int .i64 (m : Int)] w fun e w' => e = .returned (.tuple #[.int .u64 (numAt bs p m : Nat), .int .i64 0]) ∧ IsQ w' qb gb off bs (p + m) ∧ Keep (fun k => k = qb) w w' := by
  have h1 : ¬ (m : Int) < 0 := by omega
  have h2 : ¬ 56 < (m : Int) := by omega
  have hlt : ¬ (bs.length : Int) * 8 - (p : Int) < (m : Int) := by omega
  obtain ⟨sa, cap, hsa, ho⟩ := h.obj
  have hc1 : w.cell? ⟨qb, 1, none⟩ = some (.int .i64 (p : Int)) := cell_of ho 1
  have hf1 := frozen_of ho 1
  have hfit := h.fits
  go_enter Try.func53, Try.ntmps53
  go_wp2_with (go_at_call 19; refine (leftQ_any qb gb off bs p _ h).mono ?_; rintro e w' ⟨rfl, nq, rfl⟩)
  go_loop [6, 7] (fun x i => ∃ k : Nat, k ≤ m ∧ i = .int .i64 k ∧ x = .int .u64 ((numAt bs p k : Nat) : Int)) (fun _ i => m - (intOf i).toNat)
  case atStart => exact ⟨0, Nat.zero_le _, rfl, rfl⟩
  case round =>
    obtain ⟨k, hk, rfl, rfl⟩ := hrel
    by_cases hkm : k < m
    · have hor := or_numAt bs p k (by omega)
      have hQ := h.drewN nq
      go_wp2_with (go_at_call 69; refine (bitQ_i qb gb off bs p (p + k) _ (by simp) _ hQ (by omega)).mono ?_; rintro e w' ⟨rfl, rfl⟩)
      go_round
      case rel => exact ⟨k + 1, by omega, by go_num, rfl⟩
      case measure => simp [intOf]; omega
    · obtain rfl : k = m := by omega
      go_wp2
      go_ret2
      exact ⟨rfl, isQ_set (h.drewN nq) hoff _ hp _ (by simp), Keep.setCell (S := fun k => k = qb) (p := ⟨qb, 1, none⟩) ((keep_drewN w nq).mono (fun _ _ h => h.elim)) (fun _ => rfl) _⟩

/-- The document's Bits(n), whatever n is. -/
theorem bitsQ_any (qb gb off : Nat) (bs : List Nat) (p : Nat) (n : Int) (w : World) (h : IsQ w qb gb off bs p) (hoff : bs ≠ [] → gb ≠ qb) :
    Calls Try.prog 53 #[.pointer (some ⟨qb, 0, none⟩), .int .i64 n] w fun e w' => e = .returned (.tuple #[.int .u64 ((bitsAns bs p n).1 : Nat), .int .i64 (bitsAns bs p n).2.1]) ∧ IsQ w' qb gb off bs (bitsAns bs p n).2.2 ∧ Keep (fun k => k = qb) w w' := by
  unfold bitsAns
  by_cases hn : 0 ≤ n ∧ n ≤ 56
  · rw [if_pos hn]
    obtain ⟨m, rfl⟩ := Int.eq_ofNat_of_zero_le hn.1
    rw [Int.toNat_natCast]
    by_cases hp : (bs.length : Int) * 8 - p < (m : Int)
    · rw [if_pos hp]
      refine (bitsQ_few qb gb off bs p m (by omega) w h (by omega)).mono ?_
      rintro e w' ⟨rfl, nq, rfl⟩
      exact ⟨rfl, h.drewN _, (keep_drewN w nq).mono (fun _ _ h => h.elim)⟩
    · rw [if_neg hp]
      exact bitsQ_take qb gb off bs p m (by omega) w h hoff (by omega)
  · rw [if_neg hn]
    refine (bitsQ_arg qb n hn w).mono ?_
    rintro e w' ⟨rfl, rfl⟩
    exact ⟨rfl, h, Keep.refl _ _⟩

end Go.Proofs.Ytapcohpagipkpaa
