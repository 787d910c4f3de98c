/-
  readCount of any bits.
  The document's own reader: what each of its calls does.
  The document's parts, width and Right.
  The document's value of any bits.
  readCounts of any bits.
  Counts that were read make a table; rows of int16 of one's own.
  The document's Read of a table's description, of any bytes.
-/
import Derived.Test.YtcoahkmiebeeeaaDoorReadP10
namespace Go.Proofs.YtcoahkmiebeeeaaDoor
open Go.RowKit Go.Shelf
set_option linter.unusedVariables false

/-- The value that is read at bit p while R is left, and the next bit. -/
def valR (bs : List Nat) (p R : Nat) : Option (Nat × Nat) :=
  if 8 * bs.length < p + (valM R - 1) then none
  else if numAt bs p (valM R - 1) < valT R then some (numAt bs p (valM R - 1), p + (valM R - 1))
  else if 8 * bs.length < p + (valM R - 1) + 1 then none
  else if numAt bs (p + (valM R - 1)) 1 = 1 then some (numAt bs p (valM R - 1) + 2 ^ (valM R - 1) - valT R, p + (valM R - 1) + 1)
  else some (numAt bs p (valM R - 1), p + (valM R - 1) + 1)
theorem valR_le {bs : List Nat} {p R v p' : Nat} (hR1 : 1 ≤ R) (h : valR bs p R = some (v, p')) : v ≤ R + 1 := by
  have h1 := numAt_lt bs p (valM R - 1)
  obtain ⟨h2, h3, h4⟩ := val_half R hR1
  have h5 := valT_eq R
  unfold valR at h
  split at h
  · cases h
  split at h
  · cases h; omega
  split at h
  · cases h
  split at h
  · cases h; omega
  · cases h; omega
theorem valR_far {bs : List Nat} {p R v p' : Nat} (h : valR bs p R = some (v, p')) : p' ≤ 8 * bs.length ∧ p ≤ p' := by
  unfold valR at h
  split at h
  · cases h
  split at h
  · cases h; omega
  split at h
  · cases h
  split at h
  · cases h; omega
  · cases h; omega
/-- What readCount answers. -/
def CntPost (T : Option (Nat × Nat)) (rb g : Nat) (bs : List Nat) (w : World) (e : Ending) (w' : World) : Prop :=
  Keep (fun k => k = rb) w w' ∧ match T with
    | none => e = .returned (.tuple #[.int .i16 0, .int .i64 10])
    | some (v, p') => e = .returned (.tuple #[.int .i16 ((v : Int) - 1), .int .i64 0]) ∧ IsR w' rb g bs p'
theorem cnt_none {T : Option (Nat × Nat)} {rb g : Nat} {bs : List Nat} {w w' : World} (h : T = none) (hk : Keep (fun k => k = rb) w w') : CntPost T rb g bs w (.returned (.tuple #[.int .i16 0, .int .i64 10])) w' := by subst h; exact ⟨hk, rfl⟩
theorem cnt_some {T : Option (Nat × Nat)} {v p' : Nat} {rb g : Nat} {bs : List Nat} {w w' : World} (h : T = some (v, p')) (hk : Keep (fun k => k = rb) w w') (hi : IsR w' rb g bs p') : CntPost T rb g bs w (.returned (.tuple #[.int .i16 ((v : Int) - 1), .int .i64 0])) w' := by subst h; exact ⟨hk, rfl, hi⟩

theorem bits_few_i (rb g : Nat) (bs : List Nat) (p m : Nat) (mi : Int) (hmi : mi = (m : Int)) (hm : m ≤ 56) (w : World) (h : IsR w rb g bs p) (hp : 8 * bs.length < p + m) :
    Calls Tryd.prog 58 #[.pointer (some ⟨rb, 0, none⟩), .int .i64 mi] w fun e w' => e = .returned (.tuple #[.int .u64 0, .int .i64 10]) ∧ ∃ n, w' = w.drewN n := by
  subst hmi; exact bits_few rb g bs p m hm w h hp

set_option maxHeartbeats 2000000 in
theorem readCount_all (rb g : Nat) (bs : List Nat) (p R : Nat) (w : World) (h : IsR w rb g bs p) (hR1 : 1 ≤ R) (hR : R ≤ 4096) :
    Calls Tryd.prog 75 #[.pointer (some ⟨rb, 0, none⟩), .int .i64 (R : Int)] w fun e w' => CntPost (valR bs p R) rb g bs w e w' := by
  have HV := (show Hid (∀ w : World, _) from fun w => valueBits_any R hR w)
  have hm2 := valM_ge R hR1
  have hm13 := valM_le R hR
  have hT := valT_eq R
  have hH := val_half R hR1
  obtain ⟨k, hm⟩ : ∃ k, valM R = k + 1 := ⟨valM R - 1, by omega⟩
  have hm1 : valM R - 1 = k := by omega
  obtain ⟨T, hdef⟩ : ∃ T, T = valR bs p R := ⟨_, rfl⟩
  rw [← hdef]
  unfold valR at hdef
  rw [hm1] at hH hdef
  have hx := numAt_lt bs p k
  generalize valM R = m at *
  generalize valT R = t at *
  have hp : (2 : Nat) ^ m ≤ 2 ^ 13 := Nat.pow_le_pow_right (by omega) hm13
  have hk : (m : Int) - 1 = (k : Int) := by omega
  have hk12 : (k : Int) ≤ 12 := by omega
  have hpk : (2 : Int) ^ k = ((2 ^ k : Nat) : Int) := by simp
  obtain ⟨P, hP⟩ : ∃ P : Nat, P = 2 ^ k := ⟨_, rfl⟩
  rw [← hP] at hpk hH hx hdef
  have hPb : P ≤ 4096 := by omega
  have hPI : (P : Int) ≤ 4096 := by omega
  have htP : (t : Int) ≤ (P : Int) := by omega
  have HK := (show Hid (m = k + 1 ∧ k ≤ 12 ∧ P = 2 ^ k ∧ IsR w rb g bs p) from ⟨hm, by omega, hP, h⟩)
  have kq : ∀ q, Keep (fun k => k = rb) w (w.drewN q) := fun q => (keep_drewN w q).mono (fun _ _ h => h.elim)
  have HQ := (show Hid (∀ q, Keep (fun k => k = rb) w (w.drewN q)) from kq)
  have k2 : ∀ (W : World) q, Keep (fun k => k = rb) W (W.drewN q) := fun W q => (keep_drewN W q).mono (fun _ _ h => h.elim)
  have HQ2 := (show Hid (∀ (W : World) q, Keep (fun k => k = rb) W (W.drewN q)) from k2)
  by_cases c1 : 8 * bs.length < p + k
  · rw [if_pos c1] at hdef
    have HD := (show Hid (T = none ∧ 8 * bs.length < p + k) from ⟨hdef, c1⟩)
    clear hP hm h hT hH hp hm2 hm13 hm1 kq hdef hx k2 c1
    go_enter Tryd.func75, Tryd.ntmps75
    go_wp2_with (first | (go_at_call 82; refine (HV.out _).mono ?_; rintro e w' ⟨rfl, q, rfl⟩) | (go_at_call 58; refine (bits_few_i rb g bs p k _ rfl (by have := HK.out; omega) _ (HK.out.2.2.2.drewN _) HD.out.2).mono ?_; rintro e w' ⟨rfl, q2, rfl⟩))
    go_ret2
    exact cnt_none HD.out.1 (HQ.out _)
  · rw [if_neg c1] at hdef
    obtain ⟨x, hxe⟩ : ∃ x, numAt bs p k = x := ⟨_, rfl⟩
    rw [hxe] at hdef hx
    have hxI : (x : Int) < (P : Int) := by omega
    by_cases c2 : x < t
    · rw [if_pos c2] at hdef
      have g1 : ¬ (t : Int) ≤ (x : Int) := by omega
      have HD := (show Hid (T = some (x, p + k) ∧ p + k ≤ 8 * bs.length ∧ numAt bs p k = x) from ⟨hdef, by omega, hxe⟩)
      clear hP hm h hT hH hp hm2 hm13 hm1 kq hdef hx k2 c1 c2 hxe
      go_enter Tryd.func75, Tryd.ntmps75
      go_wp2_with (first | (go_at_call 82; refine (HV.out _).mono ?_; rintro e w' ⟨rfl, q, rfl⟩) | (go_at_call 58; refine (bits_take_i rb g bs p k x _ rfl (by have := HK.out; omega) _ (HK.out.2.2.2.drewN _) HD.out.2.1 HD.out.2.2).mono ?_; rintro e w' ⟨rfl, hI2, hK2⟩))
      go_ret2
      exact cnt_some HD.out.1 ((HQ.out q).trans hK2 (fun _ _ h => h)) hI2
    · rw [if_neg c2] at hdef
      have g1 : (t : Int) ≤ (x : Int) := by omega
      by_cases c3 : 8 * bs.length < p + k + 1
      · rw [if_pos c3] at hdef
        have HD := (show Hid (T = none ∧ p + k ≤ 8 * bs.length ∧ numAt bs p k = x ∧ 8 * bs.length < p + k + 1) from ⟨hdef, by omega, hxe, c3⟩)
        clear hP hm h hT hH hp hm2 hm13 hm1 kq hdef hx k2 c1 c2 hxe c3
        go_enter Tryd.func75, Tryd.ntmps75
        go_wp2_with (go_at_call 82; refine (HV.out _).mono ?_; rintro e w' ⟨rfl, q, rfl⟩)
        refine (bits_take_i rb g bs p k x _ rfl (by have := HK.out; omega) _ (HK.out.2.2.2.drewN _) HD.out.2.1 HD.out.2.2.1).mono ?_
        rintro e w1 ⟨rfl, hI1, hK1⟩
        go_wp2_with fail
        refine (bits_few_i rb g bs (p + k) 1 _ rfl (by omega) _ hI1 HD.out.2.2.2).mono ?_
        rintro e w2 ⟨rfl, q2, rfl⟩
        go_wp2_with fail
        go_ret2
        exact cnt_none HD.out.1 (((HQ.out q).trans hK1 (fun _ _ h => h)).trans (HQ2.out _ q2) (fun _ _ h => h))
      · rw [if_neg c3] at hdef
        have hb2 := numAt_lt bs (p + k) 1
        by_cases c4 : numAt bs (p + k) 1 = 1
        · rw [if_pos c4] at hdef
          obtain ⟨v, hv⟩ : ∃ v, v = x + P - t := ⟨_, rfl⟩
          rw [← hv] at hdef
          have g2 : (x : Int) + ((P : Int) - (t : Int)) = (v : Int) := by omega
          have g3 : (v : Int) ≤ 8192 := by omega
          have HD := (show Hid (T = some (v, p + k + 1) ∧ p + k ≤ 8 * bs.length ∧ numAt bs p k = x ∧ p + k + 1 ≤ 8 * bs.length ∧ numAt bs (p + k) 1 = 1) from ⟨hdef, by omega, hxe, by omega, c4⟩)
          clear hP hm h hT hH hp hm2 hm13 hm1 kq hdef hx k2 c1 c2 hxe c3 c4 hb2 hv
          go_enter Tryd.func75, Tryd.ntmps75
          go_wp2_with (go_at_call 82; refine (HV.out _).mono ?_; rintro e w' ⟨rfl, q, rfl⟩)
          refine (bits_take_i rb g bs p k x _ rfl (by have := HK.out; omega) _ (HK.out.2.2.2.drewN _) HD.out.2.1 HD.out.2.2.1).mono ?_
          rintro e w1 ⟨rfl, hI1, hK1⟩
          go_wp2_with fail
          refine (bits_take_i rb g bs (p + k) 1 1 _ rfl (by omega) _ hI1 HD.out.2.2.2.1 HD.out.2.2.2.2).mono ?_
          rintro e w2 ⟨rfl, hI2, hK2⟩
          go_wp2_with fail
          go_ret2
          exact cnt_some HD.out.1 (((HQ.out q).trans hK1 (fun _ _ h => h)).trans hK2 (fun _ _ h => h)) hI2
        · rw [if_neg c4] at hdef
          have c5 : numAt bs (p + k) 1 = 0 := by omega
          have HD := (show Hid (T = some (x, p + k + 1) ∧ p + k ≤ 8 * bs.length ∧ numAt bs p k = x ∧ p + k + 1 ≤ 8 * bs.length ∧ numAt bs (p + k) 1 = 0) from ⟨hdef, by omega, hxe, by omega, c5⟩)
          clear hP hm h hT hH hp hm2 hm13 hm1 kq hdef hx k2 c1 c2 hxe c3 c4 hb2 c5
          go_enter Tryd.func75, Tryd.ntmps75
          go_wp2_with (go_at_call 82; refine (HV.out _).mono ?_; rintro e w' ⟨rfl, q, rfl⟩)
          refine (bits_take_i rb g bs p k x _ rfl (by have := HK.out; omega) _ (HK.out.2.2.2.drewN _) HD.out.2.1 HD.out.2.2.1).mono ?_
          rintro e w1 ⟨rfl, hI1, hK1⟩
          go_wp2_with fail
          refine (bits_take_i rb g bs (p + k) 1 0 _ rfl (by omega) _ hI1 HD.out.2.2.2.1 HD.out.2.2.2.2).mono ?_
          rintro e w2 ⟨rfl, hI2, hK2⟩
          go_wp2_with fail
          go_ret2
          exact cnt_some HD.out.1 (((HQ.out q).trans hK1 (fun _ _ h => h)).trans hK2 (fun _ _ h => h)) hI2

end Go.Proofs.YtcoahkmiebeeeaaDoor

namespace Go.Proofs.YtcoahkmiebeeeaaDoor
open Go.RowKit Go.Shelf

/-- Block qb is the document's reader at bit p of the bytes bs, which lie in block gb from off on. -/
structure IsQ (W : World) (qb gb off : Nat) (bs : List Nat) (p : Nat) : Prop where
  obj : ∃ sa cap, (sa = some (⟨gb, off, none⟩ : Addr) ∨ bs = []) ∧ W.heap[qb]? = some (.cells #[.slice sa bs.length cap, .int .i64 (p : Int)] 102 (0, 0))
  cells : ∀ j, j < bs.length → W.cell? ⟨gb, off + j, none⟩ = some (.int .u8 ((bs[j]?.getD 0 : Nat) : Int))
  fits : bs.length < 140737488355328
  bytes : ∀ j : Nat, bs[j]?.getD 0 < 256
  in_ : p ≤ 8 * bs.length
theorem IsQ.drewN {W : World} {qb gb off : Nat} {bs : List Nat} {p : Nat} (h : IsQ W qb gb off bs p) (n : Nat) : IsQ (W.drewN n) qb gb off bs p := ⟨h.obj, h.cells, h.fits, h.bytes, h.in_⟩
theorem IsQ.lt {W : World} {qb gb off : Nat} {bs : List Nat} {p : Nat} (h : IsQ W qb gb off bs p) (hb : bs ≠ []) : gb < W.heap.size :=
  World.block_lt_of_cell? W ⟨gb, off + 0, none⟩ (h.cells 0 (List.length_pos_iff.2 hb))
theorem IsQ.ne {W : World} {qb gb off : Nat} {bs : List Nat} {p : Nat} (h : IsQ W qb gb off bs p) (hb : bs ≠ []) (hoff : off = 0 ∨ gb ≠ qb) : gb ≠ qb := by
  rcases hoff with rfl | h'
  · rintro rfl
    obtain ⟨sa, cap, _, ho⟩ := h.obj
    have h0 := h.cells 0 (List.length_pos_iff.2 hb)
    rw [cell_of ho] at h0
    simp at h0
  · exact h'
theorem IsQ.keep {W W' : World} {S : Nat → Prop} {qb gb off : Nat} {bs : List Nat} {p : Nat} (h : IsQ W qb gb off bs p) (hk : Keep S W W') (h1 : ¬ S qb) (h2 : bs ≠ [] → ¬ S gb) : IsQ W' qb gb off bs p := by
  obtain ⟨sa, cap, hsa, ho⟩ := h.obj
  refine ⟨⟨sa, cap, hsa, hk.obj ho h1⟩, fun j hj => ?_, h.fits, h.bytes, h.in_⟩
  have hne : bs ≠ [] := by rintro rfl; simp at hj
  exact (World.cell?_of_block (hk.block gb (h.lt hne) (h2 hne))).trans (h.cells j hj)

set_option maxHeartbeats 400000 in
theorem leftQ_any (qb gb off : Nat) (bs : List Nat) (p : Nat) (w : World) (h : IsQ w qb gb off bs p) :
    Calls Tryd.prog 68 #[.pointer (some ⟨qb, 0, none⟩)] w fun e w' => e = .returned (.int .i64 ((bs.length : Int) * 8 - p)) ∧ ∃ n, w' = w.drewN n := by
  obtain ⟨sa, cap, hsa, ho⟩ := h.obj
  have hc0 : w.cell? ⟨qb, 0, none⟩ = some (.slice sa bs.length cap) := cell_of ho 0
  have hc1 : w.cell? ⟨qb, 1, none⟩ = some (.int .i64 (p : Int)) := cell_of ho 1
  have hf := h.fits
  have hi := h.in_
  clear h ho hsa
  rw [show (bs.length : Int) * 8 - (p : Int) = 8 * (bs.length : Int) - (p : Int) from by omega]
  go_enter Tryd.func68, Tryd.ntmps68
  go_wp2
  go_quiet (fail)
  go_wp2
  go_ret
  exact ⟨rfl, _, rfl⟩

theorem wrap_div (c q : Nat) (hc : c < 18446744073709551616) : IntKind.u64.wrap ((c : Int) / 2 ^ q) = (c : Int) / 2 ^ q := by
  have e : ((c : Int) / 2 ^ q) = ((c / 2 ^ q : Nat) : Int) := by simp
  have h : c / 2 ^ q ≤ c := Nat.div_le_self _ _
  rw [e]
  generalize c / 2 ^ q = z at h ⊢
  rw [IntKind.wrap_u64]; omega

theorem isQ_set {w : World} {qb gb off : Nat} {bs : List Nat} {p : Nat} (h : IsQ w qb gb off bs p) (hne : bs ≠ [] → gb ≠ qb) (p' : Nat) (hp : p' ≤ 8 * bs.length) (x : Int) (hx : x = (p' : Int)) : IsQ (w.setCell ⟨qb, 1, none⟩ (.int .i64 x)) qb gb off bs p' := by
  subst hx
  obtain ⟨sa, cap, hsa, ho⟩ := h.obj
  refine ⟨⟨sa, cap, hsa, (set_obj ho 1 _).trans (by simp)⟩, fun j hj => ?_, h.fits, h.bytes, hp⟩
  have hb : bs ≠ [] := by rintro rfl; simp at hj
  exact (World.cell?_of_block (Below.heap_setCell _ _ _ _ (hne hb))).trans (h.cells j hj)

set_option maxHeartbeats 400000 in
theorem bitQ_any (qb gb off : Nat) (bs : List Nat) (p i : Nat) (w : World) (h : IsQ w qb gb off bs p) (hi : i < 8 * bs.length) :
    Calls Tryd.prog 69 #[.pointer (some ⟨qb, 0, none⟩), .int .i64 (i : Int)] w fun e w' => e = .returned (.int .u64 ((bitAt bs i : Nat) : Int)) ∧ w' = w := by
  obtain ⟨sa, cap, hsa, ho⟩ := h.obj
  have hidx : i / 8 < bs.length := by omega
  obtain rfl : sa = some ⟨gb, off, none⟩ := by
    rcases hsa with h | h
    · exact h
    · rw [h] at hidx; simp at hidx
  have hc0 : w.cell? ⟨qb, 0, none⟩ = some (.slice (some ⟨gb, off, none⟩) bs.length cap) := cell_of ho 0
  have hcg := h.cells (i / 8) hidx
  have hc256 := h.bytes (i / 8)
  have hf := h.fits
  have hba : bitAt bs i = bitOf (bs[i / 8]?.getD 0) (i % 8) := rfl
  rw [hba]
  generalize bs[i / 8]?.getD 0 = c at hcg hc256 ⊢
  have hq8 : i % 8 < 8 := by omega
  have hI : (i : Int).tmod 8 = ((i % 8 : Nat) : Int) := by rw [Int.tmod_eq_emod_of_nonneg (by omega)]; omega
  have hD : (i : Int).tdiv 8 = ((i / 8 : Nat) : Int) := by rw [Int.tdiv_eq_ediv_of_nonneg (by omega)]; omega
  have hI' : (i : Int) % 8 = ((i % 8 : Nat) : Int) := by omega
  have hD' : (i : Int) / 8 = ((i / 8 : Nat) : Int) := by omega
  generalize i % 8 = q at hq8 hI hI' ⊢
  generalize i / 8 = d at hcg hD hD' hidx
  have hb1 := and_bit_u64 c q (by omega)
  have hwr := wrap_div c q (by omega)
  clear h ho hba hsa
  go_enter Tryd.func69, Tryd.ntmps69
  go_wp2
  go_ret
  exact ⟨rfl, rfl⟩
theorem bitQ_i (qb gb off : Nat) (bs : List Nat) (p i : Nat) (ii : Int) (e : ii = (i : Int)) (w : World) (h : IsQ w qb gb off bs p) (hi : i < 8 * bs.length) :
    Calls Tryd.prog 69 #[.pointer (some ⟨qb, 0, none⟩), .int .i64 ii] w fun e w' => e = .returned (.int .u64 ((bitAt bs i : Nat) : Int)) ∧ w' = w := by
  subst e; exact bitQ_any qb gb off bs p i w h hi

theorem or_numAt (bs : List Nat) (p k : Nat) (hk : k < 64) : bits .or .u64 (numAt bs p k : Nat) (IntKind.u64.wrap ((bitAt bs (p + k) : Nat) * 2 ^ k)) = ((numAt bs p (k + 1) : Nat) : Int) := by
  have h := or_snoc bs p (upto fin64 k) (fin64 k)
  rw [← upto_succ, orOf_upto bs p k (by omega), orOf_upto bs p (k + 1) (by omega), show (fin64 k).val = k from Nat.mod_eq_of_lt hk] at h
  exact h

set_option maxHeartbeats 400000 in
theorem bitsQ_arg (qb : Nat) (n : Int) (hn : ¬ (0 ≤ n ∧ n ≤ 56)) (w : World) :
    Calls Tryd.prog 48 #[.pointer (some ⟨qb, 0, none⟩), .int .i64 n] w fun e w' => e = .returned (.tuple #[.int .u64 0, .int .i64 2]) ∧ w' = w := by
  by_cases h1 : n < 0
  · go_enter Tryd.func48, Tryd.ntmps48
    go_wp2
    go_ret2
    exact ⟨rfl, rfl⟩
  · have h2 : 56 < n := by omega
    go_enter Tryd.func48, Tryd.ntmps48
    go_wp2
    go_ret2
    exact ⟨rfl, rfl⟩

set_option maxHeartbeats 400000 in
theorem bitsQ_few (qb gb off : Nat) (bs : List Nat) (p m : Nat) (hm : m ≤ 56) (w : World) (h : IsQ w qb gb off bs p) (hp : 8 * bs.length < p + m) :
    Calls Tryd.prog 48 #[.pointer (some ⟨qb, 0, none⟩), .int .i64 (m : Int)] w fun e w' => e = .returned (.tuple #[.int .u64 0, .int .i64 10]) ∧ ∃ n, w' = w.drewN n := by
  have h1 : ¬ (m : Int) < 0 := by omega
  have h2 : ¬ 56 < (m : Int) := by omega
  have hlt : (bs.length : Int) * 8 - (p : Int) < (m : Int) := by omega
  go_enter Tryd.func48, Tryd.ntmps48
  go_wp2_with (go_at_call 68; refine (leftQ_any qb gb off bs p _ h).mono ?_; rintro e w' ⟨rfl, nq, rfl⟩)
  go_ret2
  exact ⟨rfl, _, rfl⟩

set_option maxHeartbeats 1000000 in
theorem bitsQ_take (qb gb off : Nat) (bs : List Nat) (p m : Nat) (hm : m ≤ 56) (w : World) (h : IsQ w qb gb off bs p) (hoff : bs ≠ [] → gb ≠ qb) (hp : p + m ≤ 8 * bs.length) :
    Calls Tryd.prog 48 #[.pointer (some ⟨qb, 0, none⟩), .int .i64 (m : Int)] w fun e w' => e = .returned (.tuple #[.int .u64 (numAt bs p m : Nat), .int .i64 0]) ∧ IsQ w' qb gb off bs (p + m) ∧ Keep (fun k => k = qb) w w' := by
  have h1 : ¬ (m : Int) < 0 := by omega
  have h2 : ¬ 56 < (m : Int) := by omega
  have hlt : ¬ (bs.length : Int) * 8 - (p : Int) < (m : Int) := by omega
  obtain ⟨sa, cap, hsa, ho⟩ := h.obj
  have hc1 : w.cell? ⟨qb, 1, none⟩ = some (.int .i64 (p : Int)) := cell_of ho 1
  have hf1 := frozen_of ho 1
  have hfit := h.fits
  go_enter Tryd.func48, Tryd.ntmps48
  go_wp2_with (go_at_call 68; refine (leftQ_any qb gb off bs p _ h).mono ?_; rintro e w' ⟨rfl, nq, rfl⟩)
  go_loop [6, 7] (fun x i => ∃ k : Nat, k ≤ m ∧ i = .int .i64 k ∧ x = .int .u64 ((numAt bs p k : Nat) : Int)) (fun _ i => m - (intOf i).toNat)
  case atStart => exact ⟨0, Nat.zero_le _, rfl, rfl⟩
  case round =>
    obtain ⟨k, hk, rfl, rfl⟩ := hrel
    by_cases hkm : k < m
    · have hor := or_numAt bs p k (by omega)
      have hQ := h.drewN nq
      go_wp2_with (go_at_call 69; refine (bitQ_i qb gb off bs p (p + k) _ (by simp) _ hQ (by omega)).mono ?_; rintro e w' ⟨rfl, rfl⟩)
      go_round
      case rel => exact ⟨k + 1, by omega, by go_num, rfl⟩
      case measure => simp [intOf]; omega
    · obtain rfl : k = m := by omega
      go_wp2
      go_ret2
      exact ⟨rfl, isQ_set (h.drewN nq) hoff _ hp _ (by simp), Keep.setCell (S := fun k => k = qb) (p := ⟨qb, 1, none⟩) ((keep_drewN w nq).mono (fun _ _ h => h.elim)) (fun _ => rfl) _⟩

/-- The document's Bits(n), whatever n is. -/
theorem bitsQ_any (qb gb off : Nat) (bs : List Nat) (p : Nat) (n : Int) (w : World) (h : IsQ w qb gb off bs p) (hoff : bs ≠ [] → gb ≠ qb) :
    Calls Tryd.prog 48 #[.pointer (some ⟨qb, 0, none⟩), .int .i64 n] w fun e w' => e = .returned (.tuple #[.int .u64 ((bitsAns bs p n).1 : Nat), .int .i64 (bitsAns bs p n).2.1]) ∧ IsQ w' qb gb off bs (bitsAns bs p n).2.2 ∧ Keep (fun k => k = qb) w w' := by
  unfold bitsAns
  by_cases hn : 0 ≤ n ∧ n ≤ 56
  · rw [if_pos hn]
    obtain ⟨m, rfl⟩ := Int.eq_ofNat_of_zero_le hn.1
    rw [Int.toNat_natCast]
    by_cases hp : (bs.length : Int) * 8 - p < (m : Int)
    · rw [if_pos hp]
      refine (bitsQ_few qb gb off bs p m (by omega) w h (by omega)).mono ?_
      rintro e w' ⟨rfl, nq, rfl⟩
      exact ⟨rfl, h.drewN _, (keep_drewN w nq).mono (fun _ _ h => h.elim)⟩
    · rw [if_neg hp]
      exact bitsQ_take qb gb off bs p m (by omega) w h hoff (by omega)
  · rw [if_neg hn]
    refine (bitsQ_arg qb n hn w).mono ?_
    rintro e w' ⟨rfl, rfl⟩
    exact ⟨rfl, h, Keep.refl _ _⟩

end Go.Proofs.YtcoahkmiebeeeaaDoor

namespace Go.Proofs.YtcoahkmiebeeeaaDoor
open Go.RowKit Go.Shelf

set_option maxHeartbeats 400000 in
theorem parts_any (c : Int) (h1 : -32768 ≤ c) (h2 : c ≤ 32767) (w : World) : Calls Tryd.prog 50 #[.int .i16 c] w fun e w' => e = .returned (.int .i64 (shareN c)) ∧ w' = w := by
  unfold shareN
  by_cases h : c = -1
  · subst h
    go_enter Tryd.func50, Tryd.ntmps50
    go_wp2
    go_ret
    exact ⟨rfl, rfl⟩
  · rw [if_neg h]
    have hb : (c == -1) = false := by simpa using h
    go_enter Tryd.func50, Tryd.ntmps50
    go_wp2
    go_ret
    exact ⟨rfl, rfl⟩

set_option maxHeartbeats 1000000 in
theorem width_any (n : Nat) (hn : n < 4611686018427387904) (w : World) : Calls Tryd.prog 52 #[.int .i64 (n : Int)] w fun e w' => e = .returned (.int .i64 ((lenN n : Nat) : Int)) ∧ w' = w := by
  have hlen : lenN n ≤ 62 := lenN_le n 62 (by omega)
  go_enter Tryd.func52, Tryd.ntmps52
  go_wp2
  go_loop [0, 3] (fun x i => ∃ y k : Nat, x = .int .i64 (y : Int) ∧ i = .int .i64 (k : Int) ∧ k + lenN y = lenN n ∧ y ≤ n) (fun x _ => (intOf x).toNat)
  case atStart => exact ⟨n, 0, rfl, rfl, by omega, Nat.le_refl _⟩
  case round =>
    obtain ⟨y, k, rfl, rfl, hk, hy⟩ := hrel
    have HK := (show Hid (k + lenN y = lenN n) from hk)
    by_cases h0 : 0 < y
    · have hs := lenN_half y (by omega)
      have HS := (show Hid _ from hs)
      have hkb : (k : Int) < 62 := by omega
      have h0I : 0 < (y : Int) := by omega
      obtain ⟨z, hz⟩ : ∃ z, z = y / 2 := ⟨_, rfl⟩
      have hdiv : (y : Int) / 2 = (z : Int) := by omega
      have HZ := (show Hid (z = y / 2) from hz)
      clear hk hs hz
      go_wp2
      go_round
      case rel => exact ⟨z, k + 1, rfl, by go_num, by have h1 := HK.out; have h2 := HS.out; rw [← HZ.out] at h2; omega, by have := HZ.out; omega⟩
      case measure => have := HZ.out; simp [intOf]; omega
    · obtain rfl : y = 0 := by omega
      rw [show ((0 : Nat) : Int) = (0 : Int) from rfl]
      have HE := (show Hid (k = lenN n) from by have := HK.out; simp [lenN_zero] at this; exact this)
      clear hk
      go_wp2
      go_ret
      exact ⟨by rw [← HE.out]; rfl, rfl⟩
theorem width_i (x : Nat) (xi : Int) (hi : xi = (x : Int)) (hx : x < 65536) (w : World) : Calls Tryd.prog 52 #[.int .i64 xi] w fun e w' => e = .returned (.int .i64 ((lenN x : Nat) : Int)) ∧ w' = w := by
  subst hi; exact width_any x (by omega) w

set_option maxRecDepth 100000 in
set_option maxHeartbeats 2000000 in
theorem right_any (a : Option Addr) (cap gb off : Nat) (xs : List Int) (log : Int) (w : World) (h : RowI w .i16 a cap gb off xs) (hx : I16 xs) :
    Calls Tryd.prog 51 #[.slice a xs.length cap, .int .i64 log] w fun e w' => e = .returned (.bool (okT xs log)) ∧ w' = w := by
  by_cases hl : 5 ≤ log ∧ log ≤ 12
  · obtain ⟨hl5, hl12⟩ := hl
    have hl : 5 ≤ log ∧ log ≤ 12 := ⟨hl5, hl12⟩
    have hlb : ¬ log < 5 := by omega
    have hlc : ¬ 12 < log := by omega
    have HLL := (show Hid (5 ≤ log ∧ log ≤ 12) from hl)
    clear hl
    by_cases h0 : xs.length = 0
    · have hz : ((xs.length : Int) == 0) = true := by simp [h0]
      have hr : okT xs log = false := decide_eq_false (fun h => h.2.2.1 h0)
      rw [hr]
      clear h
      generalize xs.length = n at *
      go_enter Tryd.func51, Tryd.ntmps51
      go_wp2
      go_ret
      exact ⟨rfl, rfl⟩
    · have hz : ((xs.length : Int) == 0) = false := by rw [beq_eq_false_iff_ne]; omega
      by_cases h256 : xs.length ≤ 256
      · have hg : ¬ (256 : Int) < (xs.length : Int) := by omega
        obtain ⟨k, hk⟩ : ∃ k, xs.length = k + 1 := ⟨xs.length - 1, by omega⟩
        have hk1 : (xs.length : Int) - 1 = (k : Int) := by omega
        obtain rfl := h.here (i := k) (by omega)
        have hc := h.cells k (by omega)
        obtain ⟨y, hy⟩ : ∃ y, xs[k]?.getD 0 = y := ⟨_, rfl⟩
        rw [hy] at hc
        by_cases hy0 : y = 0
        · have hr : okT xs log = false := decide_eq_false (fun h => h.2.2.2.2.1 (by rw [hk, Nat.add_sub_cancel, hy]; exact hy0))
          rw [hr]
          subst hy0
          have HK := (show Hid _ from hk)
          have hki : (k : Int) < (xs.length : Int) := by omega
          clear h hk
          generalize xs.length = n at *
          go_enter Tryd.func51, Tryd.ntmps51
          go_wp2
          go_ret
          exact ⟨rfl, rfl⟩
        · have hyb : (y == 0) = false := by simpa using hy0
          obtain ⟨l, rfl, hl1, hl2, hp1, hp2, hpe⟩ := pow_log log HLL.out.1 HLL.out.2
          have HR := (show Hid (RowI w .i16 (some ⟨gb, off, none⟩) cap gb off xs) from h)
          have HY := (show Hid (xs[k]?.getD 0 = y ∧ xs.length = k + 1 ∧ y ≠ 0) from ⟨hy, hk, hy0⟩)
          have hki : (k : Int) < (xs.length : Int) := by omega
          have HX := (show Hid (I16 xs) from hx)
          have HN := (show Hid (∃ n, n = xs.length) from ⟨_, rfl⟩)
          obtain ⟨n, hn⟩ := HN.out
          rw [← hn] at h256 hz hg hk1 hki ⊢
          have HN := (show Hid (n = xs.length) from hn)
          clear h hk hy hn hy0 hx hpe
          go_enter Tryd.func51, Tryd.ntmps51
          go_wp2
          go_loop [5, 6] (fun s i => ∃ j : Nat, j ≤ n ∧ i = .int .i64 j ∧ s = .int .i64 (sumS xs j) ∧ Hid (∀ i : Nat, i < j → -1 ≤ xs[i]?.getD 0)) (fun _ i => n - (intOf i).toNat)
          case atStart => exact ⟨0, Nat.zero_le _, rfl, rfl, fun i hi => by omega⟩
          case round =>
            clear hc hk1 hki
            obtain ⟨j, hj, rfl, rfl, HA⟩ := hrel
            have hs := sumS_le xs HX.out j
            by_cases hlt : j < n
            · have hcj := HR.out.cells j (by have := HN.out; omega)
              have hb := HX.out j
              have HS := (show Hid (sumS xs (j + 1) = sumS xs j + shareN (xs[j]?.getD 0)) from rfl)
              have hAs : -1 ≤ xs[j]?.getD 0 → ∀ i : Nat, i < j + 1 → -1 ≤ xs[i]?.getD 0 := fun h i hi => by
                by_cases e : i = j
                · subst e; exact h
                · exact HA.out i (by omega)
              have HAS := (show Hid _ from hAs)
              have HOK := (show Hid (okT xs (l : Int) = true → -1 ≤ xs[j]?.getD 0) from fun h => (of_decide_eq_true h).2.2.2.2.2.1 j (by have := HN.out; omega))
              clear hAs
              generalize xs[j]?.getD 0 = x at *
              have hbs := shareN_le x hb.1 hb.2
              have HSH := (show Hid (∀ w : World, _) from fun w => parts_any x hb.1 hb.2 w)
              obtain ⟨b1, b2⟩ := hb
              obtain ⟨b3, b4⟩ := hbs
              obtain ⟨b5, b6⟩ := hs
              have b7 : (j : Int) ≤ 256 := by omega
              generalize shareN x = sx at *
              generalize sumS xs j = sj at *
              by_cases hx1 : x < -1
              · go_wp2
                go_ret
                refine ⟨?_, rfl⟩
                have : okT xs (l : Int) = false := by
                  cases hb : okT xs (l : Int) with
                  | false => rfl
                  | true => have := HOK.out hb; omega
                rw [this]
                rfl
              · go_wp2_with (go_at_call 50; refine (HSH.out _).mono ?_; rintro e w' ⟨rfl, rfl⟩)
                go_round
                case rel => exact ⟨j + 1, by omega, by go_num, by rw [HS.out], HAS.out (by omega)⟩
                case measure => simp [intOf]; omega
            · obtain rfl : j = n := by omega
              have HB := (show Hid (okT xs (l : Int) = (sumS xs j == 2 ^ l)) from by
                have hn := HN.out
                obtain ⟨hy1, hy2, hy3⟩ := HY.out
                rw [Bool.eq_iff_iff]
                unfold okT
                rw [decide_eq_true_iff, beq_iff_eq]
                constructor
                · intro h; have := h.2.2.2.2.2.2; rw [← hn] at this; simpa using this
                · intro h
                  refine ⟨by omega, by omega, by omega, by omega, ?_, ?_, ?_⟩
                  · rw [hy2, Nat.add_sub_cancel, hy1]; exact hy3
                  · rw [← hn]; exact HA.out
                  · rw [← hn]; simpa using h)
              clear HR HX HY HN HA
              obtain ⟨b5, b6⟩ := hs
              generalize sumS xs j = sj at *
              go_wp2
              go_ret
              exact ⟨by rw [HB.out]; rfl, rfl⟩
      · have hg : (256 : Int) < (xs.length : Int) := by omega
        have hr : okT xs log = false := decide_eq_false (fun h => h256 h.2.2.2.1)
        rw [hr]
        clear h
        generalize xs.length = n at *
        go_enter Tryd.func51, Tryd.ntmps51
        go_wp2
        go_ret
        exact ⟨rfl, rfl⟩
  · have hr : okT xs log = false := decide_eq_false (fun h => hl ⟨h.1, h.2.1⟩)
    rw [hr]
    clear h
    by_cases hl5 : log < 5
    · go_enter Tryd.func51, Tryd.ntmps51
      go_wp2
      go_ret
      exact ⟨rfl, rfl⟩
    · have hl12 : 12 < log := by omega
      go_enter Tryd.func51, Tryd.ntmps51
      go_wp2
      go_ret
      exact ⟨rfl, rfl⟩

end Go.Proofs.YtcoahkmiebeeeaaDoor

namespace Go.Proofs.YtcoahkmiebeeeaaDoor
open Go.RowKit Go.Shelf
set_option linter.unusedVariables false
/-- What value answers. -/
def ValPost (T : Option (Nat × Nat)) (qb gb off : Nat) (bs : List Nat) (w : World) (e : Ending) (w' : World) : Prop :=
  Keep (fun k => k = qb) w w' ∧ match T with
    | none => e = .returned (.tuple #[.int .i64 0, .int .i64 10])
    | some (v, p') => e = .returned (.tuple #[.int .i64 (v : Int), .int .i64 0]) ∧ IsQ w' qb gb off bs p'
theorem vlq_none {T : Option (Nat × Nat)} {qb gb off : Nat} {bs : List Nat} {w w' : World} (h : T = none) (hk : Keep (fun k => k = qb) w w') : ValPost T qb gb off bs w (.returned (.tuple #[.int .i64 0, .int .i64 10])) w' := by subst h; exact ⟨hk, rfl⟩
theorem vlq_some {T : Option (Nat × Nat)} {v p' : Nat} {qb gb off : Nat} {bs : List Nat} {w w' : World} (h : T = some (v, p')) (hk : Keep (fun k => k = qb) w w') (hi : IsQ w' qb gb off bs p') : ValPost T qb gb off bs w (.returned (.tuple #[.int .i64 (v : Int), .int .i64 0])) w' := by subst h; exact ⟨hk, rfl, hi⟩


theorem bitsQ_few_i (qb gb off : Nat) (bs : List Nat) (p m : Nat) (mi : Int) (hmi : mi = (m : Int)) (hm : m ≤ 56) (w : World) (h : IsQ w qb gb off bs p) (hp : 8 * bs.length < p + m) :
    Calls Tryd.prog 48 #[.pointer (some ⟨qb, 0, none⟩), .int .i64 mi] w fun e w' => e = .returned (.tuple #[.int .u64 0, .int .i64 10]) ∧ ∃ n, w' = w.drewN n := by
  subst hmi; exact bitsQ_few qb gb off bs p m hm w h hp
theorem bitsQ_take_i (qb gb off : Nat) (bs : List Nat) (p m x : Nat) (mi : Int) (hmi : mi = (m : Int)) (hm : m ≤ 56) (w : World) (h : IsQ w qb gb off bs p) (hoff : bs ≠ [] → gb ≠ qb) (hp : p + m ≤ 8 * bs.length) (hx : numAt bs p m = x) :
    Calls Tryd.prog 48 #[.pointer (some ⟨qb, 0, none⟩), .int .i64 mi] w fun e w' => e = .returned (.tuple #[.int .u64 (x : Int), .int .i64 0]) ∧ IsQ w' qb gb off bs (p + m) ∧ Keep (fun k => k = qb) w w' := by
  subst hmi hx; exact bitsQ_take qb gb off bs p m hm w h hoff hp

set_option maxHeartbeats 2000000 in
theorem value_all (qb gb off : Nat) (bs : List Nat) (p R : Nat) (w : World) (h : IsQ w qb gb off bs p) (hoff : bs ≠ [] → gb ≠ qb) (hR1 : 1 ≤ R) (hR : R ≤ 4096) (ri : Int) (hri : ri = ((R + 1 : Nat) : Int)) :
    Calls Tryd.prog 49 #[.pointer (some ⟨qb, 0, none⟩), .int .i64 ri] w fun e w' => ValPost (valR bs p R) qb gb off bs w e w' := by
  subst hri
  have HV := (show Hid (∀ w : World, Calls Tryd.prog 52 #[.int .i64 ((R + 1 : Nat) : Int)] w fun e w' => e = .returned (.int .i64 ((valM R : Nat) : Int)) ∧ w' = w) from fun w => width_any (R + 1) (by omega) w)
  have hm2 := valM_ge R hR1
  have hm13 := valM_le R hR
  have hT := valT_eq R
  have hH := val_half R hR1
  obtain ⟨k, hm⟩ : ∃ k, valM R = k + 1 := ⟨valM R - 1, by omega⟩
  have hm1 : valM R - 1 = k := by omega
  obtain ⟨T, hdef⟩ : ∃ T, T = valR bs p R := ⟨_, rfl⟩
  rw [← hdef]
  unfold valR at hdef
  rw [hm1] at hH hdef
  have hx := numAt_lt bs p k
  generalize valM R = m at *
  generalize valT R = t at *
  have hp : (2 : Nat) ^ m ≤ 2 ^ 13 := Nat.pow_le_pow_right (by omega) hm13
  have hk : (m : Int) - 1 = (k : Int) := by omega
  have hpm : (2 : Int) ^ m = ((2 ^ m : Nat) : Int) := by simp
  obtain ⟨PM, hPM⟩ : ∃ PM : Nat, PM = 2 ^ m := ⟨_, rfl⟩
  rw [← hPM] at hpm hT hH hp
  have hPMI : (PM : Int) ≤ 8192 := by omega
  have htI : (PM : Int) - 1 - ((R : Int) + 1) = (t : Int) := by omega
  have hRI : (R : Int) ≤ 4096 := by omega
  have hk12 : (k : Int) ≤ 12 := by omega
  have hpk : (2 : Int) ^ k = ((2 ^ k : Nat) : Int) := by simp
  obtain ⟨P, hP⟩ : ∃ P : Nat, P = 2 ^ k := ⟨_, rfl⟩
  rw [← hP] at hpk hH hx hdef
  have hPb : P ≤ 4096 := by omega
  have hPI : (P : Int) ≤ 4096 := by omega
  have htP : (t : Int) ≤ (P : Int) := by omega
  have HK := (show Hid (m = k + 1 ∧ k ≤ 12 ∧ P = 2 ^ k ∧ IsQ w qb gb off bs p ∧ (bs ≠ [] → gb ≠ qb)) from ⟨hm, by omega, hP, h, hoff⟩)
  have kq : ∀ q, Keep (fun k => k = qb) w (w.drewN q) := fun q => (keep_drewN w q).mono (fun _ _ h => h.elim)
  have HQ := (show Hid (∀ q, Keep (fun k => k = qb) w (w.drewN q)) from kq)
  have k2 : ∀ (W : World) q, Keep (fun k => k = qb) W (W.drewN q) := fun W q => (keep_drewN W q).mono (fun _ _ h => h.elim)
  have HQ2 := (show Hid (∀ (W : World) q, Keep (fun k => k = qb) W (W.drewN q)) from k2)
  by_cases c1 : 8 * bs.length < p + k
  · rw [if_pos c1] at hdef
    have HD := (show Hid (T = none ∧ 8 * bs.length < p + k) from ⟨hdef, c1⟩)
    clear hP hPM hm h hoff hT hH hp hm2 hm13 hm1 kq hdef hx k2 c1
    go_enter Tryd.func49, Tryd.ntmps49
    go_wp2_with (first | (go_at_call 52; refine (HV.out _).mono ?_; rintro e w' ⟨rfl, rfl⟩) | (go_at_call 48; refine (bitsQ_few_i qb gb off bs p k _ rfl (by have := HK.out; omega) _ HK.out.2.2.2.1 HD.out.2).mono ?_; rintro e w' ⟨rfl, q2, rfl⟩))
    go_ret2
    exact vlq_none HD.out.1 (HQ.out _)
  · rw [if_neg c1] at hdef
    obtain ⟨x, hxe⟩ : ∃ x, numAt bs p k = x := ⟨_, rfl⟩
    rw [hxe] at hdef hx
    have hxI : (x : Int) < (P : Int) := by omega
    by_cases c2 : x < t
    · rw [if_pos c2] at hdef
      have g1 : ¬ (t : Int) ≤ (x : Int) := by omega
      have HD := (show Hid (T = some (x, p + k) ∧ p + k ≤ 8 * bs.length ∧ numAt bs p k = x) from ⟨hdef, by omega, hxe⟩)
      clear hP hPM hm h hoff hT hH hp hm2 hm13 hm1 kq hdef hx k2 c1 c2 hxe
      go_enter Tryd.func49, Tryd.ntmps49
      go_wp2_with (first | (go_at_call 52; refine (HV.out _).mono ?_; rintro e w' ⟨rfl, rfl⟩) | (go_at_call 48; refine (bitsQ_take_i qb gb off bs p k x _ rfl (by have := HK.out; omega) _ HK.out.2.2.2.1 HK.out.2.2.2.2 HD.out.2.1 HD.out.2.2).mono ?_; rintro e w' ⟨rfl, hI2, hK2⟩))
      go_ret2
      exact vlq_some HD.out.1 hK2 hI2
    · rw [if_neg c2] at hdef
      have g1 : (t : Int) ≤ (x : Int) := by omega
      by_cases c3 : 8 * bs.length < p + k + 1
      · rw [if_pos c3] at hdef
        have HD := (show Hid (T = none ∧ p + k ≤ 8 * bs.length ∧ numAt bs p k = x ∧ 8 * bs.length < p + k + 1) from ⟨hdef, by omega, hxe, c3⟩)
        clear hP hPM hm h hoff hT hH hp hm2 hm13 hm1 kq hdef hx k2 c1 c2 hxe c3
        go_enter Tryd.func49, Tryd.ntmps49
        go_wp2_with (go_at_call 52; refine (HV.out _).mono ?_; rintro e w' ⟨rfl, rfl⟩)
        refine (bitsQ_take_i qb gb off bs p k x _ rfl (by have := HK.out; omega) _ HK.out.2.2.2.1 HK.out.2.2.2.2 HD.out.2.1 HD.out.2.2.1).mono ?_
        rintro e w1 ⟨rfl, hI1, hK1⟩
        go_wp2_with fail
        refine (bitsQ_few_i qb gb off bs (p + k) 1 _ rfl (by omega) _ hI1 HD.out.2.2.2).mono ?_
        rintro e w2 ⟨rfl, q2, rfl⟩
        go_wp2_with fail
        go_ret2
        exact vlq_none HD.out.1 (hK1.trans (HQ2.out _ q2) (fun _ _ h => h))
      · rw [if_neg c3] at hdef
        have hb2 := numAt_lt bs (p + k) 1
        by_cases c4 : numAt bs (p + k) 1 = 1
        · rw [if_pos c4] at hdef
          obtain ⟨v, hv⟩ : ∃ v, v = x + P - t := ⟨_, rfl⟩
          rw [← hv] at hdef
          have g2 : (x : Int) + (P : Int) - (t : Int) = (v : Int) := by omega
          have g3 : (v : Int) ≤ 8192 := by omega
          have HD := (show Hid (T = some (v, p + k + 1) ∧ p + k ≤ 8 * bs.length ∧ numAt bs p k = x ∧ p + k + 1 ≤ 8 * bs.length ∧ numAt bs (p + k) 1 = 1) from ⟨hdef, by omega, hxe, by omega, c4⟩)
          clear hP hPM hm h hoff hT hH hp hm2 hm13 hm1 kq hdef hx k2 c1 c2 hxe c3 c4 hb2 hv
          go_enter Tryd.func49, Tryd.ntmps49
          go_wp2_with (go_at_call 52; refine (HV.out _).mono ?_; rintro e w' ⟨rfl, rfl⟩)
          refine (bitsQ_take_i qb gb off bs p k x _ rfl (by have := HK.out; omega) _ HK.out.2.2.2.1 HK.out.2.2.2.2 HD.out.2.1 HD.out.2.2.1).mono ?_
          rintro e w1 ⟨rfl, hI1, hK1⟩
          go_wp2_with fail
          refine (bitsQ_take_i qb gb off bs (p + k) 1 1 _ rfl (by omega) _ hI1 HK.out.2.2.2.2 HD.out.2.2.2.1 HD.out.2.2.2.2).mono ?_
          rintro e w2 ⟨rfl, hI2, hK2⟩
          go_wp2_with fail
          go_ret2
          exact vlq_some HD.out.1 (hK1.trans hK2 (fun _ _ h => h)) hI2
        · rw [if_neg c4] at hdef
          have c5 : numAt bs (p + k) 1 = 0 := by omega
          have HD := (show Hid (T = some (x, p + k + 1) ∧ p + k ≤ 8 * bs.length ∧ numAt bs p k = x ∧ p + k + 1 ≤ 8 * bs.length ∧ numAt bs (p + k) 1 = 0) from ⟨hdef, by omega, hxe, by omega, c5⟩)
          clear hP hPM hm h hoff hT hH hp hm2 hm13 hm1 kq hdef hx k2 c1 c2 hxe c3 c4 hb2 c5
          go_enter Tryd.func49, Tryd.ntmps49
          go_wp2_with (go_at_call 52; refine (HV.out _).mono ?_; rintro e w' ⟨rfl, rfl⟩)
          refine (bitsQ_take_i qb gb off bs p k x _ rfl (by have := HK.out; omega) _ HK.out.2.2.2.1 HK.out.2.2.2.2 HD.out.2.1 HD.out.2.2.1).mono ?_
          rintro e w1 ⟨rfl, hI1, hK1⟩
          go_wp2_with fail
          refine (bitsQ_take_i qb gb off bs (p + k) 1 0 _ rfl (by omega) _ hI1 HK.out.2.2.2.2 HD.out.2.2.2.1 HD.out.2.2.2.2).mono ?_
          rintro e w2 ⟨rfl, hI2, hK2⟩
          go_wp2_with fail
          go_ret2
          exact vlq_some HD.out.1 (hK1.trans hK2 (fun _ _ h => h)) hI2

end Go.Proofs.YtcoahkmiebeeeaaDoor

namespace Go.Proofs.YtcoahkmiebeeeaaDoor
open Go.RowKit Go.Shelf
set_option linter.unusedVariables false

/-- Counts are read, in at most so many steps: R is left, bit p comes next, acc are read, and a number of zeros comes next if more. -/
def cntF (bs : List Nat) (ms : Nat) : Nat → Nat → Nat → List Int → Bool → Option (Option (List Int × Nat))
  | 0, _, _, _, _ => none
  | f + 1, R, p, acc, more =>
    if R = 0 then some (some (acc, p)) else if ms < acc.length then some none
    else if more = true then (if 8 * bs.length < p + 2 then some none else cntF bs ms f R (p + 2) (acc ++ List.replicate (numAt bs p 2) 0) (decide (numAt bs p 2 = 3)))
    else match valR bs p R with
      | none => some none
      | some vp => cntF bs ms f (R - (shareN ((vp.1 : Int) - 1)).toNat) vp.2 (acc ++ [(vp.1 : Int) - 1]) (decide ((vp.1 : Int) - 1 = 0))
/-- The same, in some number of steps. -/
def Cnt (bs : List Nat) (ms R p : Nat) (acc : List Int) (more : Bool) (T : Option (List Int × Nat)) : Prop := ∃ f, cntF bs ms f R p acc more = some T
theorem Cnt.done {bs : List Nat} {ms : Nat} (p : Nat) (acc : List Int) (more : Bool) : Cnt bs ms 0 p acc more (some (acc, p)) := ⟨1, rfl⟩
theorem Cnt.full {bs : List Nat} {ms : Nat} (R p : Nat) (acc : List Int) (more : Bool) (hR : 1 ≤ R) (h : ms < acc.length) : Cnt bs ms R p acc more none := ⟨1, by unfold cntF; rw [if_neg (by omega), if_pos h]⟩
theorem Cnt.zshort {bs : List Nat} {ms : Nat} (R p : Nat) (acc : List Int) (hR : 1 ≤ R) (h : 8 * bs.length < p + 2) : Cnt bs ms R p acc true none := ⟨1, by
  unfold cntF
  rw [if_neg (by omega)]
  by_cases hf : ms < acc.length
  · rw [if_pos hf]
  · rw [if_neg hf, if_pos rfl, if_pos h]⟩
theorem Cnt.zeros {bs : List Nat} {ms : Nat} (R p : Nat) (acc : List Int) (T : Option (List Int × Nat)) (hR : 1 ≤ R) (h : acc.length ≤ ms) (hp : p + 2 ≤ 8 * bs.length) (hT : Cnt bs ms R (p + 2) (acc ++ List.replicate (numAt bs p 2) 0) (decide (numAt bs p 2 = 3)) T) : Cnt bs ms R p acc true T := by
  obtain ⟨f, hf⟩ := hT
  refine ⟨f + 1, ?_⟩
  unfold cntF
  rw [if_neg (by omega), if_neg (by omega), if_pos rfl, if_neg (by omega)]
  exact hf
theorem Cnt.cshort {bs : List Nat} {ms : Nat} (R p : Nat) (acc : List Int) (hR : 1 ≤ R) (h : acc.length ≤ ms) (hv : valR bs p R = none) : Cnt bs ms R p acc false none := ⟨1, by
  unfold cntF
  rw [if_neg (by omega), if_neg (by omega), if_neg (by decide), hv]⟩
theorem Cnt.count {bs : List Nat} {ms : Nat} (R p : Nat) (acc : List Int) (v p' : Nat) (T : Option (List Int × Nat)) (hR : 1 ≤ R) (h : acc.length ≤ ms) (hv : valR bs p R = some (v, p')) (hT : Cnt bs ms (R - (shareN ((v : Int) - 1)).toNat) p' (acc ++ [(v : Int) - 1]) (decide ((v : Int) - 1 = 0)) T) : Cnt bs ms R p acc false T := by
  obtain ⟨f, hf⟩ := hT
  refine ⟨f + 1, ?_⟩
  unfold cntF
  rw [if_neg (by omega), if_neg (by omega), if_neg (by decide), hv]
  exact hf
/-- What holds of each way through. -/
theorem cntF_cases {bs : List Nat} {ms f R p : Nat} {acc : List Int} {more : Bool} {T : Option (List Int × Nat)} (h : cntF bs ms (f + 1) R p acc more = some T) :
    (R = 0 ∧ T = some (acc, p)) ∨ T = none ∨ (1 ≤ R ∧ acc.length ≤ ms ∧ more = true ∧ p + 2 ≤ 8 * bs.length ∧ cntF bs ms f R (p + 2) (acc ++ List.replicate (numAt bs p 2) 0) (decide (numAt bs p 2 = 3)) = some T) ∨
    (∃ v p', 1 ≤ R ∧ acc.length ≤ ms ∧ more = false ∧ valR bs p R = some (v, p') ∧ cntF bs ms f (R - (shareN ((v : Int) - 1)).toNat) p' (acc ++ [(v : Int) - 1]) (decide ((v : Int) - 1 = 0)) = some T) := by
  unfold cntF at h
  by_cases c1 : R = 0
  · rw [if_pos c1] at h; cases h; exact .inl ⟨c1, rfl⟩
  rw [if_neg c1] at h
  by_cases c2 : ms < acc.length
  · rw [if_pos c2] at h; cases h; exact .inr (.inl rfl)
  rw [if_neg c2] at h
  by_cases c3 : more = true
  · rw [if_pos c3] at h
    by_cases c4 : 8 * bs.length < p + 2
    · rw [if_pos c4] at h; cases h; exact .inr (.inl rfl)
    · rw [if_neg c4] at h; exact .inr (.inr (.inl ⟨by omega, by omega, c3, by omega, h⟩))
  · rw [if_neg c3] at h
    cases hv : valR bs p R with
    | none => rw [hv] at h; cases h; exact .inr (.inl rfl)
    | some vp => rw [hv] at h; exact .inr (.inr (.inr ⟨vp.1, vp.2, by omega, by omega, by simpa using c3, rfl, h⟩))
theorem cntF_more {bs : List Nat} {ms : Nat} (d : Nat) : ∀ (f R p : Nat) (acc : List Int) (more : Bool) (T : Option (List Int × Nat)), cntF bs ms f R p acc more = some T → cntF bs ms (f + d) R p acc more = some T := by
  intro f
  induction f with
  | zero => intro R p acc more T h; cases h
  | succ f ih =>
    intro R p acc more T h
    rw [show f + 1 + d = (f + d) + 1 from by omega]
    unfold cntF at h ⊢
    by_cases c1 : R = 0
    · rw [if_pos c1] at h ⊢; exact h
    rw [if_neg c1] at h ⊢
    by_cases c2 : ms < acc.length
    · rw [if_pos c2] at h ⊢; exact h
    rw [if_neg c2] at h ⊢
    by_cases c3 : more = true
    · rw [if_pos c3] at h ⊢
      by_cases c4 : 8 * bs.length < p + 2
      · rw [if_pos c4] at h ⊢; exact h
      · rw [if_neg c4] at h ⊢; exact ih _ _ _ _ _ h
    · rw [if_neg c3] at h ⊢
      cases hv : valR bs p R with
      | none => rw [hv] at h; exact h
      | some vp => rw [hv] at h; exact ih _ _ _ _ _ h
theorem Cnt.det {bs : List Nat} {ms R p : Nat} {acc : List Int} {more : Bool} {T T' : Option (List Int × Nat)} (h : Cnt bs ms R p acc more T) (h' : Cnt bs ms R p acc more T') : T = T' := by
  obtain ⟨f, hf⟩ := h
  obtain ⟨f', hf'⟩ := h'
  have h1 := cntF_more f' f R p acc more T hf
  have h2 := cntF_more f f' R p acc more T' hf'
  rw [Nat.add_comm f' f, h1] at h2
  exact Option.some.inj h2

/-- What readCounts answers. -/
def CtsPost (T : Option (List Int × Nat)) (rb g : Nat) (bs : List Nat) (w : World) (e : Ending) (w' : World) : Prop :=
  Keep (fun k => k = rb) w w' ∧ match T with
    | none => ∃ E : Int, E ≠ 0 ∧ e = .returned (.tuple #[.slice none 0 0, .int .i64 E])
    | some (xs, p') => ∃ gc cap', e = .returned (.tuple #[.slice (some ⟨gc, 0, none⟩) xs.length cap', .int .i64 0]) ∧ w.heap.size ≤ gc ∧ RowI w' .i16 (some ⟨gc, 0, none⟩) cap' gc 0 xs ∧ IsR w' rb g bs p'
theorem cts_none {rb g : Nat} {bs : List Nat} {w w' : World} {E : Int} (hE : E ≠ 0) (hk : Keep (fun k => k = rb) w w') : CtsPost none rb g bs w (.returned (.tuple #[.slice none 0 0, .int .i64 E])) w' := ⟨hk, E, hE, rfl⟩

/-- What readCounts has. -/
structure Ct (w : World) (rb g ab : Nat) (bs : List Nat) (ms R0 p0 R q : Nat) (acc : List Int) (more : Bool) (W : World) : Prop where
  arr : IsA W ab 144 .i16 256 (fun j => acc[j]?.getD 0)
  at_ : IsR W rb g bs q
  keep : Keep (fun k => k = rb) w W
  to : ∀ T, Cnt bs ms R q acc more T → Cnt bs ms R0 p0 [] false T
  left : R ≤ 4096
  len : acc.length ≤ ms + 3
  end_ : R = 0 → acc.length ≤ ms + 1

set_option maxRecDepth 100000 in
set_option maxHeartbeats 4000000 in
theorem readCounts_all (rb g : Nat) (bs : List Nat) (p ms R0 : Nat) (w : World) (h : IsR w rb g bs p) (hrb : rb < w.heap.size) (hms2 : ms ≤ 255) (hR0 : R0 ≤ 4096) :
    Calls Tryd.prog 59 #[.pointer (some ⟨rb, 0, none⟩), .int .i64 (R0 : Int), .int .i64 (ms : Int)] w fun e w' => ∃ T, Cnt bs ms R0 p [] false T ∧ CtsPost T rb g bs w e w' := by
  have hA : IsA (w.alloc (.cells Tryd.zeroCells144 144)) w.heap.size 144 .i16 256 (fun _ => 0) := by rw [zero112]; exact isA_zeros w 144 .i16 256
  have hI1 := h.keep ((Keep.refl noBlock w).alloc (.cells Tryd.zeroCells144 144)) (fun h => h) (fun _ h => h)
  have HA := (show Hid (Ct w rb g w.heap.size bs ms R0 p R0 p [] false (w.alloc (.cells Tryd.zeroCells144 144))) from
    ⟨hA.congr (fun _ _ => by simp), hI1, (Keep.refl _ w).alloc _, fun _ h => h, hR0, by simp, fun _ => by simp⟩)
  have HH := (show Hid (g < w.heap.size) from h.lt)
  have hmsI : (ms : Int) ≤ 255 := by omega
  clear hA hI1 h hR0
  go_enter Tryd.func59, Tryd.ntmps59
  go_wp2_with fail
  refine wp_scope_straight ?_
  go_wp2_with fail
  refine wp_label ?_
  go_wp2_with fail
  generalize w.alloc (.cells Tryd.zeroCells144 144) = W1 at HA ⊢
  obtain ⟨ab, hab⟩ : ∃ ab, ab = w.heap.size := ⟨_, rfl⟩
  rw [← hab] at HA hrb ⊢
  have HAB := (show Hid (ab = w.heap.size) from hab)
  clear hab
  go_loopw [1, 9, 10, 11] (fun v1 v9 v10 v11 wr => ∃ (R q : Nat) (acc : List Int) (more : Bool), v1 = .int .i64 (R : Int) ∧ v9 = .int .i64 (acc.length : Int) ∧ v10 = .int .i64 0 ∧ v11 = .bool more ∧
    Hid (Ct w rb g ab bs ms R0 p R q acc more wr)) (fun _ v9 _ v11 _ => 2 * (ms + 4 - (intOf v9).toNat) + boolN v11)
  case atStart => exact ⟨R0, p, [], false, rfl, rfl, rfl, rfl, HA.out⟩
  case round =>
    clear HA
    obtain ⟨R, q, acc, more, rfl, rfl, rfl, rfl, HC⟩ := hrel
    obtain ⟨i, hi⟩ : ∃ i, i = acc.length := ⟨_, rfl⟩
    rw [← hi]
    have hlen := HC.out.len
    have hle := HC.out.left
    have hiI : (i : Int) ≤ 258 := by omega
    have hRI : (R : Int) ≤ 4096 := by omega
    have HI := (show Hid (i = acc.length) from hi)
    by_cases hR : R = 0
    · subst hR
      rw [show ((0 : Nat) : Int) = (0 : Int) from rfl]
      have hend := HC.out.end_ rfl
      have hib : (i : Int) ≤ 256 := by omega
      clear hi hlen hle hend
      go_wp2_with fail
      refine (clone65_any ab i 256 acc HI.out (by have := HI.out; omega) wr HC.out.arr.lt (fun j hj => HC.out.arr.cell j (by have := HI.out; omega))).mono ?_
      rintro e w3 ⟨gc, cap', rfl, hgc, hRow, hK3⟩
      go_wp2_with fail
      simp only [Exit.noGoto]
      go_ret2
      have hk := HC.out.keep
      refine ⟨some (acc, q), HC.out.to _ (.done q acc more), hk.trans hK3 (fun _ _ h => h.elim), gc, cap', rfl, by have := hk.size; omega, hRow, HC.out.at_.keep hK3 (fun h => h) (fun _ h => h)⟩
    · have hRp : 0 < (R : Int) := by omega
      by_cases hfu : ms < i
      · have hfI : (ms : Int) < (i : Int) := by omega
        have HD := (show Hid (Cnt bs ms R0 p [] false none ∧ Keep (fun k => k = rb) w wr) from ⟨HC.out.to _ (.full R q acc more (by omega) (by omega)), HC.out.keep⟩)
        clear hi hlen hle HC
        go_wp2_with fail
        simp only [Exit.noGoto]
        go_ret2
        exact ⟨none, HD.out.1, cts_none (by decide) HD.out.2⟩
      · have hfI : ¬ (ms : Int) < (i : Int) := by omega
        cases more with
        | true =>
          by_cases hsh : 8 * bs.length < q + 2
          · have HB := (show Hid (Calls Tryd.prog 58 #[.pointer (some ⟨rb, 0, none⟩), .int .i64 2] wr _) from bits_few_i rb g bs q 2 2 rfl (by omega) wr HC.out.at_ hsh)
            have HD := (show Hid (Cnt bs ms R0 p [] false none ∧ ∀ n, Keep (fun k => k = rb) w (wr.drewN n)) from ⟨HC.out.to _ (.zshort R q acc (by omega) hsh), fun n => HC.out.keep.trans (keep_drewN wr n) (fun _ _ h => h.elim)⟩)
            clear hi hlen hle HC hsh
            go_wp2_with fail
            refine HB.out.mono ?_
            rintro e w1 ⟨rfl, q1, rfl⟩
            go_wp2_with fail
            simp only [Exit.noGoto]
            go_ret2
            exact ⟨none, HD.out.1, cts_none (by decide) (HD.out.2 _)⟩
          · obtain ⟨z, hz⟩ : ∃ z, numAt bs q 2 = z := ⟨_, rfl⟩
            have hz4 := numAt_lt bs q 2
            rw [hz] at hz4
            have HB := (show Hid (Calls Tryd.prog 58 #[.pointer (some ⟨rb, 0, none⟩), .int .i64 2] wr _) from bits_take_i rb g bs q 2 z 2 rfl (by omega) wr HC.out.at_ (by omega) hz)
            have hzI : (z : Int) ≤ 3 := by omega
            have hiz : (i : Int) + (z : Int) = (((acc ++ List.replicate z 0).length : Nat) : Int) := by simp; omega
            obtain ⟨i3, hi3⟩ : ∃ i3, i3 = (acc ++ List.replicate z (0 : Int)).length := ⟨_, rfl⟩
            rw [← hi3] at hiz
            have hi3b : (i3 : Int) ≤ 258 := by omega
            have HD := (show Hid (i3 = (acc ++ List.replicate z (0 : Int)).length ∧ i3 = i + z ∧ i ≤ ms ∧ z ≤ 3 ∧ ∀ w1, IsR w1 rb g bs (q + 2) → Keep (fun k => k = rb) wr w1 → Ct w rb g ab bs ms R0 p R (q + 2) (acc ++ List.replicate z 0) (decide (z = 3)) w1) from ⟨hi3, by omega, by omega, by omega, fun w1 hI1 hK1 => by
              obtain ⟨h1, h2, h3, h4, h5, h6, h7⟩ := HC.out
              refine ⟨(h1.keep hK1 (by omega)).congr (fun j _ => ?_), hI1, h3.trans hK1 (fun _ _ h => h), fun T hT => h4 T (.zeros R q acc T (by omega) (by omega) (by omega) (by rw [hz]; exact hT)), h5, by rw [← hi3]; omega, fun e => absurd e hR⟩
              rw [List.getElem?_append]
              split
              · rfl
              · rw [List.getElem?_replicate]
                rename_i hj
                rw [List.getElem?_eq_none (by omega)]
                split <;> rfl⟩)
            clear hi hlen hle HC hsh hz hz4 hi3
            go_wp2_with fail
            refine HB.out.mono ?_
            rintro e w1 ⟨rfl, hI1, hK1⟩
            have HD1 := (show Hid (Ct w rb g ab bs ms R0 p R (q + 2) (acc ++ List.replicate z 0) (decide (z = 3)) w1) from HD.out.2.2.2.2 w1 hI1 hK1)
            clear hI1 hK1 HB
            by_cases hz3 : z = 3
            · subst hz3
              rw [show ((3 : Nat) : Int) = (3 : Int) from rfl] at hiz ⊢
              go_wp2_with fail
              go_roundw
              case rel => exact ⟨R, q + 2, acc ++ List.replicate 3 0, true, rfl, by rw [← HD.out.1], rfl, rfl, HD1.out⟩
              case measure => have := HD.out; have := HI.out; simp [intOf, boolN]; omega
            · have hk3 : ((z : Int) == 3) = false := by rw [beq_eq_false_iff_ne]; omega
              have hdz : decide (z = 3) = false := decide_eq_false hz3
              rw [hdz] at HD1
              go_wp2_with fail
              go_roundw
              case rel => exact ⟨R, q + 2, acc ++ List.replicate z 0, false, rfl, by rw [← HD.out.1], rfl, rfl, HD1.out⟩
              case measure => have := HD.out; have := HI.out; simp [intOf, boolN]; omega
        | false =>
          have HB := (show Hid (Calls Tryd.prog 75 _ wr _) from readCount_all rb g bs q R wr HC.out.at_ (by omega) hle)
          have hib : (i : Int) < 256 := by omega
          cases hvr : valR bs q R with
          | none =>
            rw [hvr] at HB
            have HD := (show Hid (Cnt bs ms R0 p [] false none ∧ Keep (fun k => k = rb) w wr ∧ IsA wr ab 144 .i16 256 (fun j => acc[j]?.getD 0)) from ⟨HC.out.to _ (.cshort R q acc (by omega) (by omega) hvr), HC.out.keep, HC.out.arr⟩)
            clear hi hlen hle HC
            go_wp2_with fail
            refine HB.out.mono ?_
            rintro e w1 ⟨hK1, he1⟩
            obtain rfl : e = .returned (.tuple #[.int .i16 0, .int .i64 10]) := he1
            have hA1 := HD.out.2.2.keep hK1 (by omega)
            have fz := hA1.frozen i
            have cz := hA1.cell i (by omega)
            have HK1 := (show Hid (Keep (fun k => k = rb) w w1) from HD.out.2.1.trans hK1 (fun _ _ h => h))
            clear hK1 hA1
            go_wp2_with fail
            simp only [Exit.noGoto]
            go_ret2
            exact ⟨none, HD.out.1, cts_none (by decide) (Keep.setCell HK1.out (fun h => by have := HAB.out; dsimp only at h; omega) _)⟩
          | some vp =>
            obtain ⟨v, p'⟩ := vp
            rw [hvr] at HB
            have hv := valR_le (by omega) hvr
            obtain ⟨c, hc⟩ : ∃ c : Int, c = (v : Int) - 1 := ⟨_, rfl⟩
            have hcb : -1 ≤ c := by omega
            have hcb2 : c ≤ 4096 := by omega
            have hs0 := shareN_pos c hcb
            have hsh : shareN c ≤ (R : Int) := by unfold shareN; split <;> omega
            obtain ⟨R2, hR2e⟩ : ∃ R2, R2 = R - (shareN c).toNat := ⟨_, rfl⟩
            have hsub : (R : Int) - shareN c = (R2 : Int) := by omega
            have hR2b : (R2 : Int) ≤ 4096 := by omega
            have HSH := (show Hid (∀ w : World, _) from fun w => share_any c (by omega) (by omega) w)
            have HD := (show Hid (∀ w1, IsR w1 rb g bs p' → Keep (fun k => k = rb) wr w1 → Ct w rb g ab bs ms R0 p R2 p' (acc ++ [c]) (decide (c = 0)) (w1.setCell ⟨ab, i, none⟩ (.int .i16 c)) ∧ IsA w1 ab 144 .i16 256 (fun j => acc[j]?.getD 0)) from fun w1 hI1 hK1 => by
              obtain ⟨h1, h2, h3, h4, h5, h6, h7⟩ := HC.out
              have kk : Keep (fun k => k = ab) w1 (w1.setCell ⟨ab, i, none⟩ (.int .i16 c)) := Keep.setCell (S := fun k => k = ab) (p := ⟨ab, i, none⟩) (Keep.refl _ w1) (fun _ => rfl) _
              have hab := HAB.out
              have hgl := HH.out
              have hA1 := h1.keep hK1 (by omega)
              refine ⟨⟨(hA1.set i c).congr (fun j _ => ?_), hI1.keep kk (by omega) (fun _ => by omega), (h3.trans hK1 (fun _ _ h => h)).trans kk (fun j hj e => by omega), fun T hT => h4 T (.count R q acc v p' T (by omega) (by omega) hvr (by rw [← hc, ← hR2e]; exact hT)), by omega, by simp; omega, fun _ => by simp; omega⟩, hA1⟩
              rw [List.getElem?_append]
              by_cases e : j = i
              · rw [if_pos e, if_neg (by omega), e, hi, Nat.sub_self]; rfl
              · rw [if_neg e]
                by_cases hj : j < acc.length
                · rw [if_pos hj]
                · rw [if_neg hj, List.getElem?_eq_none (show acc.length ≤ j by omega), List.getElem?_eq_none (by simp; omega)])
            have HL := (show Hid ((acc ++ [c]).length = i + 1 ∧ i ≤ ms) from ⟨by simp; omega, by omega⟩)
            have hcv : (v : Int) - 1 = c := hc.symm
            have HCV := (show Hid ((v : Int) - 1 = c) from hcv)
            clear hi hlen hle HC hvr hv hc hcv hsh hR2e
            generalize shareN c = sc at *
            go_wp2_with fail
            refine HB.out.mono ?_
            rintro e w1 ⟨hK1, he1⟩
            obtain ⟨rfl, hI1⟩ : e = .returned (.tuple #[.int .i16 ((v : Int) - 1), .int .i64 0]) ∧ IsR w1 rb g bs p' := he1
            rw [HCV.out]
            obtain ⟨hCt, hA1⟩ := HD.out w1 hI1 hK1
            have fz := hA1.frozen i
            have cz := hA1.cell i (by omega)
            have HE := (show Hid (Ct w rb g ab bs ms R0 p R2 p' (acc ++ [c]) (decide (c = 0)) (w1.setCell ⟨ab, i, none⟩ (.int .i16 c))) from hCt)
            clear hCt hA1 hI1 hK1 HD HB
            by_cases hc0 : c = 0
            · have hd : decide (c = 0) = true := decide_eq_true hc0
              rw [hd] at HE
              subst hc0
              go_wp2_with (go_at_call 76; refine (HSH.out _).mono ?_; rintro e w'' ⟨rfl, rfl⟩)
              go_roundw
              case rel => exact ⟨R2, p', acc ++ [0], true, rfl, by rw [HL.out.1]; go_num, rfl, rfl, HE.out⟩
              case measure => have := HL.out; simp [intOf, boolN]; omega
            · have hd : decide (c = 0) = false := decide_eq_false hc0
              rw [hd] at HE
              have hcb0 : (c == 0) = false := by simpa using hc0
              go_wp2_with (go_at_call 76; refine (HSH.out _).mono ?_; rintro e w'' ⟨rfl, rfl⟩)
              go_roundw
              case rel => exact ⟨R2, p', acc ++ [c], false, rfl, by rw [HL.out.1]; go_num, rfl, rfl, HE.out⟩
              case measure => have := HL.out; simp [intOf, boolN]; omega

end Go.Proofs.YtcoahkmiebeeeaaDoor

namespace Go.Proofs.YtcoahkmiebeeeaaDoor
open Go.RowKit Go.Shelf
set_option linter.unusedVariables false

theorem owns_kept16 {w w' : World} {S : Nat → Prop} {v : Value} {n : Nat} {xs : List Value} (h : w.ownsRow 0 107 1 v n xs) (hk : Keep S w w') (hS : ∀ g, v.ownBlock = some g → ¬ S g) : w'.ownsRow 0 107 1 v n xs := by
  refine ⟨h.1, ?_⟩
  rcases h.2 with ⟨e, h0⟩ | ⟨g, cap, cur, rfl, hb, hg, hr⟩
  · exact .inl ⟨e, h0⟩
  · exact .inr ⟨g, cap, cur, rfl, hb, hk.obj hg (hS g rfl), hr⟩
theorem ownBlock_lt16 {W : World} {v : Value} {n : Nat} {xs : List Value} (h : W.ownsRow 0 107 1 v n xs) {k : Nat} (e : v.ownBlock = some k) : k < W.heap.size := by
  rcases h.2 with ⟨e0, h0⟩ | ⟨g, cap, cur, rfl, hb, hg, hr⟩
  · rw [e0] at e; cases e
  · obtain rfl : g = k := by simpa [Value.ownBlock] using e
    exact obj_lt hg
theorem own_push16 {W : World} {v : Value} {xs : List Int} (h : W.ownsRow 0 107 1 v xs.length (i16s xs)) (x : Int) (hl : xs.length ≤ 1000000) :
    ∃ v' W', (Builtin.append_ #[66, 66] 66 #[v, .slice (some ⟨W.heap.size, 0, none⟩) 1 1]).run Tryd.prog (W.alloc (.cells #[.int .i16 x] 107)) = .ok v' W' ∧ W'.ownsRow 0 107 1 v' (xs ++ [x]).length (i16s (xs ++ [x])) ∧ Keep (fun k => v.ownBlock = some k) W W' ∧ (v'.ownBlock = v.ownBlock ∨ ∃ k, v'.ownBlock = some k ∧ W.heap.size ≤ k) := by
  have hka : Keep noBlock W (W.alloc (.cells #[.int .i16 x] 107)) := (Keep.refl _ W).alloc _
  obtain ⟨i0, hi, hz0, hz1, hz2⟩ := info_parts info42
  have happ : i16s (xs ++ [x]) = i16s xs ++ i16s [x] := by simp [i16s]
  obtain ⟨v', w', hr, h2, h3, h4, h5⟩ := run_append_own_at (P := Tryd.prog) (W.alloc (.cells #[.int .i16 x] 107)) 0 66 66 107 i0 (.int .i16 0) 1 2 Tryd.underlying66 hi hz0 hz1 hz2 rfl (by decide) v xs.length (i16s xs) (owns_kept16 h hka (fun _ _ h => h)) ⟨W.heap.size, 0, none⟩ 1 1 (i16s [x]) (by simp [i16s]) (fun j u hu => by
    have hj : j < 1 := by have := (List.getElem?_eq_some_iff.1 hu).1; rwa [i16s_length] at this
    obtain rfl : j = 0 := by omega
    rw [← hu, add0]
    exact cell_of (World.alloc_heap_new W _) 0) (i16s_one [x]) (by unfold maxLen; omega) (by omega) (Nat.zero_le _)
  refine ⟨v', w', hr, by rw [List.length_append, happ]; exact h2, (hka.mono (fun _ _ h => h.elim)).trans ((Keep.refl _ _).grown h3 (fun k e _ => e)) (fun _ _ h => h), ?_⟩
  rcases h5 with e | e
  · exact .inl e
  · exact .inr ⟨_, e, by rw [World.size_alloc]; omega⟩
theorem rowI_of_owns {W : World} {sa : Option Addr} {sn sc : Nat} {xs : List Int} (h : W.ownsRow 0 107 1 (.slice sa sn sc) xs.length (i16s xs)) : ∃ gb, RowI W .i16 sa sc gb 0 xs ∧ sn = xs.length ∧ (sa = none ∧ xs = [] ∨ (Value.slice sa sn sc).ownBlock = some gb) := by
  rcases h.2 with ⟨e, h0⟩ | ⟨g, cap, cur, e, hb, hg, h1, h2, h3, h4⟩
  · have hx : xs = [] := List.length_eq_zero_iff.1 h0
    subst hx
    cases e
    exact ⟨0, ⟨.inr rfl, fun _ => rfl, fun j hj => by simp at hj, Nat.le_refl _⟩, rfl, .inl ⟨rfl, rfl⟩⟩
  · cases e
    refine ⟨g, ⟨.inl rfl, (fun e => by cases e), fun j hj => ?_, h1⟩, rfl, .inr rfl⟩
    have := h.cells (g := g) rfl j _ (i16s_at xs j hj)
    rw [add0] at this
    rw [Nat.zero_add]; exact this

theorem sumS_app (xs ys : List Int) : ∀ n, n ≤ xs.length → sumS (xs ++ ys) n = sumS xs n := by
  intro n
  induction n with
  | zero => intro _; rfl
  | succ n ih =>
    intro h
    simp only [sumS]
    rw [ih (by omega), List.getElem?_append, if_pos (by omega)]
/-- Counts that take s states. -/
def Gd (xs : List Int) (s : Int) : Prop := (∀ i : Nat, i < xs.length → -1 ≤ xs[i]?.getD 0 ∧ xs[i]?.getD 0 ≤ 4096) ∧ sumS xs xs.length = s
theorem Gd.push {xs : List Int} {s : Int} (h : Gd xs s) (c : Int) (hc : -1 ≤ c) (hc2 : c ≤ 4096) : Gd (xs ++ [c]) (s + shareN c) := by
  refine ⟨fun i hi => ?_, ?_⟩
  · rw [List.getElem?_append]
    split
    · rename_i hj; exact h.1 i hj
    · rename_i hj
      rw [List.length_append] at hi
      have : i - xs.length = 0 := by simp at hi; omega
      rw [this]; exact ⟨hc, hc2⟩
  · rw [List.length_append]
    show sumS (xs ++ [c]) xs.length + shareN ((xs ++ [c])[xs.length]?.getD 0) = _
    rw [sumS_app _ _ _ (Nat.le_refl _), h.2, List.getElem?_append, if_neg (by omega), Nat.sub_self]
    rfl
theorem Gd.zeros {xs : List Int} {s : Int} (h : Gd xs s) : ∀ z : Nat, Gd (xs ++ List.replicate z 0) s := by
  intro z
  induction z with
  | zero => simpa using h
  | succ z ih =>
    have := ih.push 0 (by omega) (by omega)
    rw [List.append_assoc, ← List.replicate_succ'] at this
    rw [show s + shareN 0 = s from by rw [(shareN_zero 0).2 rfl]; omega] at this
    exact this
theorem cntF_good {bs : List Nat} {ms S : Nat} (hS : S ≤ 4096) (hms : ms ≤ 255) : ∀ (f R p : Nat) (acc : List Int) (more : Bool) (T : Option (List Int × Nat)), cntF bs ms f R p acc more = some T → Gd acc ((S : Int) - (R : Int)) → R ≤ S → (R = 0 → acc.length ≤ ms + 1 ∧ acc ≠ [] ∧ acc[acc.length - 1]?.getD 0 ≠ 0) → p ≤ 8 * bs.length →
    ∀ xs p', T = some (xs, p') → Gd xs (S : Int) ∧ xs.length ≤ ms + 1 ∧ xs ≠ [] ∧ xs[xs.length - 1]?.getD 0 ≠ 0 ∧ p' ≤ 8 * bs.length ∧ p ≤ p' := by
  intro f
  induction f with
  | zero => intro R p acc more T h; cases h
  | succ f ih =>
    intro R p acc more T h h1 h2 h3 h4 xs p' e
    rcases cntF_cases h with ⟨h5, h6⟩ | h5 | ⟨hR, hl, hm, hp, h5⟩ | ⟨v, p1, hR, hl, hm, hv, h5⟩
    · rw [h6] at e
      cases e
      obtain ⟨a, b, c⟩ := h3 h5
      exact ⟨by rw [h5] at h1; simpa using h1, a, b, c, h4, Nat.le_refl _⟩
    · rw [h5] at e; cases e
    · obtain ⟨a, b, c, d, e1, e2⟩ := ih _ _ _ _ _ h5 (h1.zeros _) h2 (fun e => by omega) (by omega) xs p' e
      exact ⟨a, b, c, d, e1, by omega⟩
    · have hv1 := valR_le hR hv
      have hv2 := valR_far hv
      obtain ⟨c, hc⟩ : ∃ c : Int, c = (v : Int) - 1 := ⟨_, rfl⟩
      rw [← hc] at h5
      have hs0 := shareN_pos c (by omega)
      have hsh : shareN c ≤ (R : Int) := by unfold shareN; split <;> omega
      have hp := h1.push c (by omega) (by omega)
      obtain ⟨a, b, c1, d, e1, e2⟩ := ih _ _ _ _ _ h5 (by rw [show (S : Int) - ((R - (shareN c).toNat : Nat) : Int) = (S : Int) - R + shareN c from by omega]; exact hp) (by omega) (fun e0 => by
        have hne : c ≠ 0 := fun e => by rw [(shareN_zero c).2 e] at e0; simp at e0; omega
        refine ⟨by simp; omega, by simp, ?_⟩
        rw [List.length_append, List.getElem?_append, if_neg (by simp)]
        simpa using hne) hv2.1 xs p' e
      exact ⟨a, b, c1, d, e1, by omega⟩
theorem Cnt.ok {bs : List Nat} {ms l p p' : Nat} {xs : List Int} (h : Cnt bs ms (2 ^ l) p [] false (some (xs, p'))) (hl5 : 5 ≤ l) (hl : l ≤ 12) (hms : ms ≤ 255) (hp : p ≤ 8 * bs.length) : okT xs (l : Int) = true ∧ I16 xs ∧ xs.length ≤ ms + 1 ∧ xs ≠ [] ∧ p' ≤ 8 * bs.length ∧ p ≤ p' := by
  have hS : 2 ^ l ≤ 4096 := Nat.pow_le_pow_right (n := 2) (j := 12) (by omega) hl
  have h0 := Nat.two_pow_pos l
  obtain ⟨f, hf⟩ := h
  obtain ⟨a, b, c, d, e1, e2⟩ := cntF_good (S := 2 ^ l) hS hms f _ _ _ _ _ hf ⟨fun i hi => by simp at hi, by simp [sumS]⟩ (Nat.le_refl _) (fun e => by omega) hp xs p' rfl
  refine ⟨?_, fun i => ?_, b, c, e1, e2⟩
  · unfold okT
    rw [decide_eq_true_iff]
    refine ⟨by omega, by omega, fun e => c (List.length_eq_zero_iff.1 e), by omega, d, fun i hi => (a.1 i hi).1, ?_⟩
    rw [a.2]; simp
  · by_cases hi : i < xs.length
    · have := a.1 i hi; omega
    · rw [List.getElem?_eq_none (by omega)]; simp

end Go.Proofs.YtcoahkmiebeeeaaDoor

namespace Go.Proofs.YtcoahkmiebeeeaaDoor
open Go.RowKit Go.Shelf
set_option linter.unusedVariables false

/-- What a description of counts tells: counts, log, bytes used. -/
def RdRel (bs : List Nat) (ml ms : Nat) (T : Option (List Int × Nat × Nat)) : Prop :=
  if 8 * bs.length < 4 then T = none else if ml < numAt bs 0 4 + 5 then T = none
  else ∃ T1, Cnt bs ms (2 ^ (numAt bs 0 4 + 5)) 4 [] false T1 ∧ T = T1.map (fun x => (x.1, numAt bs 0 4 + 5, (x.2 + 7) / 8))
theorem RdRel.det {bs : List Nat} {ml ms : Nat} {T T' : Option (List Int × Nat × Nat)} (h : RdRel bs ml ms T) (h' : RdRel bs ml ms T') : T = T' := by
  unfold RdRel at h h'
  split at h
  · rename_i c
    rw [if_pos c] at h'; rw [h, h']
  rename_i c
  rw [if_neg c] at h'
  split at h
  · rename_i c
    rw [if_pos c] at h'; rw [h, h']
  rename_i c
  rw [if_neg c] at h'
  obtain ⟨a, ha, rfl⟩ := h
  obtain ⟨b, hb, rfl⟩ := h'
  rw [ha.det hb]
theorem RdRel.ok {bs : List Nat} {ml ms : Nat} {xs : List Int} {l u : Nat} (h : RdRel bs ml ms (some (xs, l, u))) (hml : ml ≤ 12) (hms : ms ≤ 255) : okT xs (l : Int) = true ∧ I16 xs ∧ xs.length ≤ ms + 1 ∧ xs ≠ [] ∧ u ≤ bs.length ∧ l ≤ ml ∧ 5 ≤ l ∧ 1 ≤ u := by
  unfold RdRel at h
  split at h
  · cases h
  split at h
  · cases h
  obtain ⟨T1, h1, h2⟩ := h
  cases T1 with
  | none => cases h2
  | some x =>
    obtain ⟨ys, p⟩ := x
    simp only [Option.map_some, Option.some.injEq, Prod.mk.injEq] at h2
    obtain ⟨rfl, rfl, rfl⟩ := h2
    obtain ⟨a, b, c, d, e, f⟩ := h1.ok (by omega) (by omega) hms (by omega)
    exact ⟨a, b, c, d, by omega, by omega, by omega, by omega⟩
/-- What Read answers. -/
def RdPost (T : Option (List Int × Nat × Nat)) (w : World) (e : Ending) (w' : World) : Prop :=
  Keep noBlock w w' ∧ match T with
    | none => ∃ E : Int, E ≠ 0 ∧ e = .returned (.tuple #[.slice none 0 0, .int .i64 0, .int .i64 0, .int .i64 E])
    | some (xs, l, u) => ∃ sa sc gb, e = .returned (.tuple #[.slice sa xs.length sc, .int .i64 (l : Int), .int .i64 (u : Int), .int .i64 0]) ∧ RowI w' .i16 sa sc gb 0 xs ∧ w.heap.size ≤ gb
theorem rd_none {w w' : World} {E : Int} (hE : E ≠ 0) (hk : Keep noBlock w w') : RdPost none w (.returned (.tuple #[.slice none 0 0, .int .i64 0, .int .i64 0, .int .i64 E])) w' := ⟨hk, E, hE, rfl⟩

/-- What the document's Read has. -/
structure Cq (w : World) (qb gb off : Nat) (bs : List Nat) (ms q : Nat) (acc : List Int) (sa : Option Addr) (sn sc : Nat) (W : World) : Prop where
  at_ : IsQ W qb gb off bs q
  owns : W.ownsRow 0 107 1 (.slice sa sn sc) acc.length (i16s acc)
  num : sn = acc.length
  new : ∀ k, (Value.slice sa sn sc).ownBlock = some k → w.heap.size ≤ k ∧ k ≠ qb
  keep : Keep noBlock w W
  len : acc.length ≤ ms + 4
  qb_lt : qb < W.heap.size
/-- What is read from here on is what is read from the start. -/
def To (bs : List Nat) (ms R0 R q : Nat) (acc : List Int) (more : Bool) : Prop := R ≤ 4096 ∧ ∀ T, Cnt bs ms R q acc more T → Cnt bs ms R0 4 [] false T

theorem Cq.push {w : World} {qb gb off : Nat} {bs : List Nat} {ms q q' : Nat} {acc : List Int} {sa : Option Addr} {sn sc : Nat} {W : World} (h : Cq w qb gb off bs ms q acc sa sn sc W) (hq : w.heap.size ≤ qb) (hgb : bs ≠ [] → gb < w.heap.size) (x : Int) (hl : acc.length ≤ ms + 3) (hms : ms ≤ 255)
    (W2 : World) (hW2 : IsQ W2 qb gb off bs q') (hK2 : Keep (fun k => k = qb) W W2) :
    ∃ sa' sc' W', (Builtin.append_ #[66, 66] 66 #[.slice sa sn sc, .slice (some ⟨W2.heap.size, 0, none⟩) 1 1]).run Tryd.prog (W2.alloc (.cells #[.int .i16 x] 107)) = .ok (.slice sa' (sn + 1) sc') W' ∧ Cq w qb gb off bs ms q' (acc ++ [x]) sa' (sn + 1) sc' W' := by
  have hn := h.new
  obtain ⟨v', W', hr, ho, hk, hm⟩ := own_push16 (owns_kept16 h.owns hK2 (fun k e => (h.new k e).2)) x (by omega)
  obtain ⟨sa', sc', e⟩ := owns_form ho
  have hlen : (acc ++ [x]).length = sn + 1 := by have := h.num; simp; omega
  rw [hlen] at e
  subst e
  have hz1 := h.keep.size
  have hz2 := hK2.size
  have hz3 := hk.size
  have hql := h.qb_lt
  refine ⟨sa', sc', W', hr, hW2.keep hk (fun e => (hn _ e).2 rfl) (fun hne e => by have := (hn _ e).1; have := hgb hne; omega), ho, hlen.symm, fun k e => ?_, (h.keep.trans hK2 (fun j hj e => by omega)).trans hk (fun j hj e => by have := (hn j e).1; omega), by simp; omega, by omega⟩
  rcases hm with e2 | ⟨j, e2, hj⟩
  · rw [e2] at e; exact hn k e
  · rw [e2] at e; cases e; omega

set_option maxRecDepth 100000 in
set_option maxHeartbeats 800000 in
theorem readQ_all (a : Option Addr) (cap gb off : Nat) (bs : List Nat) (ml ms : Nat) (w : World) (hB : Bytes w a cap gb off bs) (hbl : bs.length ≤ 1000000) (hml5 : 5 ≤ ml) (hml : ml ≤ 12) (hms : ms ≤ 255) :
    Calls Tryd.prog 29 #[.slice a bs.length cap, .int .i64 (ml : Int), .int .i64 (ms : Int)] w fun e w' => ∃ T, RdRel bs ml ms T ∧ RdPost T w e w' := by
  obtain ⟨qb, hqb⟩ : ∃ qb, qb = w.heap.size := ⟨_, rfl⟩
  have hkA : Keep noBlock w (w.alloc (.cells #[.slice a bs.length cap, .int .i64 0] 102)) := (Keep.refl _ w).alloc _
  have hBA := hB.keep hkA (fun _ h => h)
  have hgbw : bs ≠ [] → gb < w.heap.size := fun h => hB.block h
  have hQ : IsQ (w.alloc (.cells #[.slice a bs.length cap, .int .i64 0] 102)) qb gb off bs 0 := by
    rw [hqb]
    exact ⟨⟨a, cap, hB.at_, World.alloc_heap_new w _⟩, hBA.cells, by omega, hB.lt, by omega⟩
  have hmlI : (ml : Int) ≤ 12 := by omega
  have hmlI5 : (5 : Int) ≤ (ml : Int) := by omega
  have hmsI : (ms : Int) ≤ 255 := by omega
  have HW := (show Hid (qb = w.heap.size ∧ (bs ≠ [] → gb < w.heap.size) ∧ bs.length ≤ 1000000) from ⟨hqb, hgbw, hbl⟩)
  have HQ0 := (show Hid (IsQ (w.alloc (.cells #[.slice a bs.length cap, .int .i64 0] 102)) qb gb off bs 0 ∧ Keep noBlock w (w.alloc (.cells #[.slice a bs.length cap, .int .i64 0] 102))) from ⟨hQ, hkA⟩)
  have hgne : bs ≠ [] → gb ≠ qb := fun h => by have := hgbw h; omega
  have HNE := (show Hid (bs ≠ [] → gb ≠ qb) from hgne)
  have HRel := (show Hid (∀ T, RdRel bs ml ms T ↔ (if 8 * bs.length < 4 then T = none else if ml < numAt bs 0 4 + 5 then T = none else ∃ T1, Cnt bs ms (2 ^ (numAt bs 0 4 + 5)) 4 [] false T1 ∧ T = T1.map (fun x => (x.1, numAt bs 0 4 + 5, (x.2 + 7) / 8)))) from fun T => Iff.rfl)
  obtain ⟨n, hn⟩ : ∃ n, n = bs.length := ⟨_, rfl⟩
  rw [← hn] at HQ0 ⊢
  have HN := (show Hid (n = bs.length) from hn)
  have hnI : (n : Int) ≤ 1000000 := by omega
  clear hB hkA hBA hgbw hQ hgne hn hbl
  go_enter Tryd.func29, Tryd.ntmps29
  by_cases h4 : 8 * bs.length < 4
  · have HB := (show Hid (Calls Tryd.prog 48 #[.pointer (some ⟨qb, 0, none⟩), .int .i64 4] (w.alloc (.cells #[.slice a n cap, .int .i64 0] 102)) _) from bitsQ_few_i qb gb off bs 0 4 4 rfl (by omega) _ HQ0.out.1 (by omega))
    have HD := (show Hid (RdRel bs ml ms none ∧ ∀ q, Keep noBlock w ((w.alloc (.cells #[.slice a n cap, .int .i64 0] 102)).drewN q)) from ⟨(HRel.out _).2 (by rw [if_pos h4]), fun q => HQ0.out.2.trans (keep_drewN _ q) (fun _ _ h => h.elim)⟩)
    clear HQ0 h4
    go_wp2_with (fail)
    rw [← hqb]
    refine HB.out.mono ?_
    rintro e w1 ⟨rfl, q1, rfl⟩
    go_wp2_with fail
    exact bodyPost_ret (v := .tuple #[.slice none 0 0, .int .i64 0, .int .i64 0, .int .i64 10]) (by simp [results, Tryd.results29, go_sem]) rfl ⟨none, HD.out.1, rd_none (by decide) (HD.out.2 _)⟩
  obtain ⟨x, hx⟩ : ∃ x, numAt bs 0 4 = x := ⟨_, rfl⟩
  have hx16 := numAt_lt bs 0 4
  rw [hx] at hx16
  have HB := (show Hid (Calls Tryd.prog 48 #[.pointer (some ⟨qb, 0, none⟩), .int .i64 4] (w.alloc (.cells #[.slice a n cap, .int .i64 0] 102)) _) from bitsQ_take_i qb gb off bs 0 4 x 4 rfl (by omega) _ HQ0.out.1 HNE.out (by omega) hx)
  have hxI : (x : Int) < 16 := by omega
  obtain ⟨l, hl⟩ : ∃ l, l = x + 5 := ⟨_, rfl⟩
  have hlI : (x : Int) + 5 = (l : Int) := by omega
  have hl20 : (l : Int) ≤ 20 := by omega
  have HRel2 := (show Hid (∀ T, RdRel bs ml ms T ↔ (if ml < l then T = none else ∃ T1, Cnt bs ms (2 ^ l) 4 [] false T1 ∧ T = T1.map (fun x => (x.1, l, (x.2 + 7) / 8)))) from fun T => by
    rw [HRel.out T, if_neg h4, hx, ← hl])
  clear hx hx16 hl h4 HRel
  go_wp2_with fail
  rw [← hqb]
  clear hqb
  refine HB.out.mono ?_
  rintro e w1 ⟨rfl, hI1, hK1⟩
  clear HB
  have hK01 : Keep noBlock w w1 := HQ0.out.2.trans hK1 (fun j hj e => by have := HW.out.1; omega)
  have HI1 := (show Hid (IsQ w1 qb gb off bs 4 ∧ Keep noBlock w w1 ∧ qb < w1.heap.size) from ⟨by simpa using hI1, hK01, by
    obtain ⟨_, _, _, ho⟩ := hI1.obj
    exact obj_lt ho⟩)
  clear hI1 hK1 hK01 HQ0
  by_cases hlm : ml < l
  · have hlmI : (ml : Int) < (l : Int) := by omega
    have HD := (show Hid (RdRel bs ml ms none) from (HRel2.out _).2 (by rw [if_pos hlm]))
    go_wp2_with fail
    exact bodyPost_ret (v := .tuple #[.slice none 0 0, .int .i64 0, .int .i64 0, .int .i64 11]) (by simp [results, Tryd.results29, go_sem]) rfl ⟨none, HD.out, rd_none (by decide) HI1.out.2.1⟩
  have hlmI : ¬ (ml : Int) < (l : Int) := by omega
  have HRel3 := (show Hid (∀ T1, Cnt bs ms (2 ^ l) 4 [] false T1 → RdRel bs ml ms (T1.map (fun x => (x.1, l, (x.2 + 7) / 8)))) from fun T1 h => (HRel2.out _).2 (by rw [if_neg hlm]; exact ⟨T1, h, rfl⟩))
  have hlb : (l : Int) ≤ 12 := by omega
  have hpl : (2 : Int) ^ l = ((2 ^ l : Nat) : Int) := by simp
  have hS : 2 ^ l ≤ 4096 := Nat.pow_le_pow_right (n := 2) (j := 12) (by omega) (by omega)
  obtain ⟨R0, hR0⟩ : ∃ R0, R0 = 2 ^ l := ⟨_, rfl⟩
  rw [← hR0] at hpl hS HRel3
  have hR0I : (R0 : Int) ≤ 4096 := by omega
  have HC0 := (show Hid (Cq w qb gb off bs ms 4 [] none 0 0 w1 ∧ To bs ms R0 R0 4 [] false) from ⟨⟨HI1.out.1, World.ownsRow_nil _ _ _ _, rfl, (fun k e => by cases e), HI1.out.2.1, by simp, HI1.out.2.2⟩, by omega, fun _ h => h⟩)
  have hdec : ∀ (i : Decidable (ml < l)), @decide (ml < l) i = false := fun i => @decide_eq_false _ i hlm
  clear HI1 HRel2 hR0 hlm
  go_wp2_with fail
  try rw [hdec _]
  clear hdec
  go_loopw [6, 7, 12] (fun v6 v7 v12 wr => ∃ (R q : Nat) (acc : List Int) (sa : Option Addr) (sn sc : Nat), v6 = .slice sa sn sc ∧ v7 = .int .i64 (l : Int) ∧ v12 = .int .i64 (R : Int) ∧ Hid (Cq w qb gb off bs ms q acc sa sn sc wr ∧ To bs ms R0 R q acc false)) (fun v6 _ _ _ => ms + 5 - sliceLen v6)
  case atStart => exact ⟨R0, 4, [], none, 0, 0, rfl, rfl, rfl, HC0.out⟩
  case round =>
    clear HC0 hpl hS hR0I hlI hxI hl20 hlb hnI hmlI hmlI5 hlmI
    obtain ⟨R, q, acc, sa, sn, sc, rfl, rfl, rfl, HC⟩ := hrel
    have hRI : (R : Int) ≤ 4096 := by have := HC.out.2.1; omega
    have hsn := HC.out.1.num
    have hsl := HC.out.1.len
    have hsnI : (sn : Int) ≤ 300 := by omega
    by_cases hR : R = 0
    · subst hR
      rw [show ((0 : Nat) : Int) = (0 : Int) from rfl]
      obtain ⟨sa0, cap0, -, ho⟩ := HC.out.1.at_.obj
      have hc1 : wr.cell? ⟨qb, 1, none⟩ = some (.int .i64 (q : Int)) := cell_of ho 1
      have hqI : (q : Int) ≤ 8000000 := by have := HC.out.1.at_.in_; have := HW.out; omega
      obtain ⟨u, hu⟩ : ∃ u, u = (q + 7) / 8 := ⟨_, rfl⟩
      have huI : ((q : Int) + 7) / 8 = (u : Int) := by omega
      have huT : ((q : Int) + 7).tdiv 8 = (u : Int) := by rw [Int.tdiv_eq_ediv_of_nonneg (by omega)]; exact huI
      have hwq : IntKind.i64.wrap ((IntKind.i64.wrap ((q : Int) + 7)).tdiv 8) = (u : Int) := by rw [show IntKind.i64.wrap ((q : Int) + 7) = (q : Int) + 7 from by rw [IntKind.wrap_i64]; omega, huT, IntKind.wrap_i64]; omega
      have HWQ := (show Hid _ from hwq)
      clear hwq
      have HD := (show Hid (RdRel bs ml ms (some (acc, l, u)) ∧ sn = acc.length) from ⟨by rw [hu]; exact HRel3.out _ (HC.out.2.2 _ (.done q acc false)), hsn⟩)
      clear ho hsn hsl hu
      go_wp2_with fail
      go_region_held3 (fun W => W.cell? ⟨qb, 1, none⟩ = some (.int .i64 (q : Int))) (exact hc1) (fail)
      go_wp2_with fail
      obtain ⟨gb2, hRow, -, hgb2⟩ := rowI_of_owns HC.out.1.owns
      rw [HD.out.2]
      refine bodyPost_ret (v := .tuple #[.slice sa acc.length sc, .int .i64 (l : Int), .int .i64 (u : Int), .int .i64 0]) (by simp [results, Tryd.results29, go_sem]; try exact HWQ.out) rfl ⟨_, HD.out.1, HC.out.1.keep.trans (keep_drewN _ _) (fun _ _ h => h), sa, sc, gb2, rfl, hRow.keep (keep_drewN _ _) (fun _ h => h), ?_⟩
      rcases hgb2 with ⟨-, h0⟩ | h0
      · exact absurd h0 (by
          have := (RdRel.ok HD.out.1 hml hms).2.2.2.1
          exact this)
      · exact (HC.out.1.new _ h0).1
    have hRp : 0 < (R : Int) := by omega
    have hql := HC.out.1.qb_lt
    by_cases hfu : ms < sn
    · have hfI : (ms : Int) < (sn : Int) := by omega
      have HD := (show Hid (RdRel bs ml ms none) from HRel3.out _ (HC.out.2.2 _ (.full R q acc false (by omega) (by omega))))
      clear hsn hsl
      go_wp2_with fail
      exact bodyPost_ret (v := .tuple #[.slice none 0 0, .int .i64 0, .int .i64 0, .int .i64 11]) (by simp [results, Tryd.results29, go_sem]) rfl ⟨none, HD.out, rd_none (by decide) HC.out.1.keep⟩
    have hfI : ¬ (ms : Int) < (sn : Int) := by omega
    have HB := (show Hid (Calls Tryd.prog 49 #[.pointer (some ⟨qb, 0, none⟩), .int .i64 ((R : Int) + 1)] wr _) from value_all qb gb off bs q R wr HC.out.1.at_ HNE.out (by omega) HC.out.2.1 _ (by omega))
    cases hvr : valR bs q R with
    | none =>
      rw [hvr] at HB
      have HD := (show Hid (RdRel bs ml ms none) from HRel3.out _ (HC.out.2.2 _ (.cshort R q acc (by omega) (by omega) hvr)))
      clear hsn hsl
      go_wp2_with fail
      refine HB.out.mono ?_
      rintro e w2 ⟨hK2, he⟩
      obtain rfl : e = .returned (.tuple #[.int .i64 0, .int .i64 10]) := he
      go_wp2_with fail
      exact bodyPost_ret (v := .tuple #[.slice none 0 0, .int .i64 0, .int .i64 0, .int .i64 10]) (by simp [results, Tryd.results29, go_sem]) rfl ⟨none, HD.out, rd_none (by decide) (HC.out.1.keep.trans hK2 (fun j hj e => by have := HW.out.1; omega))⟩
    | some vp =>
      obtain ⟨v, p'⟩ := vp
      rw [hvr] at HB
      have hv := valR_le (by omega) hvr
      obtain ⟨c, hc⟩ : ∃ c : Int, c = (v : Int) - 1 := ⟨_, rfl⟩
      have hcI : (v : Int) - 1 = c := hc.symm
      have hcb : -1 ≤ c := by omega
      have hcb2 : c ≤ 4096 := by omega
      have hs0 := shareN_pos c hcb
      have hsh : shareN c ≤ (R : Int) := by unfold shareN; split <;> omega
      obtain ⟨R2, hR2e⟩ : ∃ R2, R2 = R - (shareN c).toNat := ⟨_, rfl⟩
      have hsub : (R : Int) - shareN c = (R2 : Int) := by omega
      have hR2b : (R2 : Int) ≤ 4096 := by omega
      have HSH := (show Hid (∀ w : World, _) from fun w => parts_any c (by omega) (by omega) w)
      have HT2 := (show Hid (∀ T, Cnt bs ms R2 p' (acc ++ [c]) (decide (c = 0)) T → Cnt bs ms R0 4 [] false T) from fun T hT => HC.out.2.2 T (.count R q acc v p' T (by omega) (by omega) hvr (by rw [← hc, ← hR2e]; exact hT)))
      have HZ := (show Hid (sn = acc.length ∧ acc.length ≤ ms ∧ R2 ≤ 4096 ∧ (c = 0 → R2 = R) ∧ 1 ≤ R) from ⟨hsn, by omega, by omega, fun e => by rw [hR2e, (shareN_zero c).2 e]; simp, by omega⟩)
      clear hsn hsl hvr hv hc hsh hR2e
      generalize shareN c = shc at *
      go_wp2_with fail
      refine HB.out.mono ?_
      rintro e w2 ⟨hK2, he⟩
      obtain ⟨rfl, hI2⟩ : e = .returned (.tuple #[.int .i64 (v : Int), .int .i64 0]) ∧ IsQ w2 qb gb off bs p' := he
      clear HB
      obtain ⟨sa', sc', W', hrun, hcq⟩ := HC.out.1.push (by have := HW.out.1; omega) HW.out.2.1 c (by have := HZ.out; omega) hms w2 hI2 hK2
      have HQ2 := (show Hid (Cq w qb gb off bs ms p' (acc ++ [c]) sa' (sn + 1) sc' W' ∧ To bs ms R0 R2 p' (acc ++ [c]) (decide (c = 0))) from ⟨hcq, HZ.out.2.2.1, HT2.out⟩)
      clear hcq hI2 hK2 HC HT2
      by_cases hc0 : c = 0
      · have hd : decide (c = 0) = true := decide_eq_true hc0
        rw [hd] at HQ2
        subst hc0
        have HR2 := (show Hid (1 ≤ R2 ∧ sn = acc.length ∧ acc.length ≤ ms) from ⟨by have h := HZ.out; have h1 := h.2.2.2.1 rfl; have h2 := h.2.2.2.2; omega, HZ.out.1, HZ.out.2.1⟩)
        clear HZ
        go_wp2_with (first | (go_at_call 50; refine (HSH.out _).mono ?_; rintro e w'' ⟨rfl, rfl⟩) | (at_builtin; refine wpList_append_run _ rfl _ _ 66 rfl _ _ _ _ rfl rfl hrun ?_))
        clear hrun HSH
        go_loopw [6, 7] (fun v6 v7 wz => ∃ (q : Nat) (ac : List Int) (sa : Option Addr) (sm sc : Nat), v6 = .slice sa sm sc ∧ v7 = .int .i64 (l : Int) ∧ Hid (Cq w qb gb off bs ms q ac sa sm sc wz ∧ To bs ms R0 R2 q ac true ∧ sm ≤ ms + 1 ∧ sn + 1 ≤ sm)) (fun v6 _ _ => ms + 5 - sliceLen v6)
        case atStart => exact ⟨p', acc ++ [0], sa', sn + 1, sc', rfl, rfl, HQ2.out.1, HQ2.out.2, by have := HR2.out; omega, Nat.le_refl _⟩
        case round =>
          clear HQ2
          obtain ⟨q2, ac, sa2, sm, sc2, rfl, rfl, HE⟩ := hrel
          have hsmI : (sm : Int) ≤ 256 := by have := HE.out.2.2.1; omega
          by_cases hsh : 8 * bs.length < q2 + 2
          · have HB := (show Hid (Calls Tryd.prog 48 #[.pointer (some ⟨qb, 0, none⟩), .int .i64 2] wr _) from bitsQ_few_i qb gb off bs q2 2 2 rfl (by omega) _ HE.out.1.at_ hsh)
            have HD := (show Hid (RdRel bs ml ms none) from HRel3.out _ (HE.out.2.1.2 _ (.zshort R2 q2 ac HR2.out.1 hsh)))
            go_wp2_with fail
            refine HB.out.mono ?_
            rintro e w3 ⟨rfl, q3, rfl⟩
            go_wp2_with fail
            exact bodyPost_ret (v := .tuple #[.slice none 0 0, .int .i64 0, .int .i64 0, .int .i64 10]) (by simp [results, Tryd.results29, go_sem]) rfl ⟨none, HD.out, rd_none (by decide) (HE.out.1.keep.trans (keep_drewN _ q3) (fun _ _ h => h.elim))⟩
          · obtain ⟨z, hz⟩ : ∃ z, numAt bs q2 2 = z := ⟨_, rfl⟩
            have hz4 := numAt_lt bs q2 2
            rw [hz] at hz4
            have HB := (show Hid (Calls Tryd.prog 48 #[.pointer (some ⟨qb, 0, none⟩), .int .i64 2] wr _) from bitsQ_take_i qb gb off bs q2 2 z 2 rfl (by omega) _ HE.out.1.at_ HNE.out (by omega) hz)
            have hzI : (z : Int) ≤ 3 := by omega
            have HT3 := (show Hid (z ≤ 3 ∧ (ac.length ≤ ms → To bs ms R0 R2 (q2 + 2) (ac ++ List.replicate z 0) (decide (z = 3))) ∧ (ms < ac.length → Cnt bs ms R0 4 [] false none)) from ⟨by omega, fun h => ⟨HE.out.2.1.1, fun T hT => HE.out.2.1.2 T (.zeros R2 q2 ac T HR2.out.1 h (by omega) (by rw [hz]; exact hT))⟩, fun h => HE.out.2.1.2 _ (.full R2 q2 ac true HR2.out.1 h)⟩)
            clear hz hz4 hsh
            go_wp2_with fail
            refine HB.out.mono ?_
            rintro e w3 ⟨rfl, hI3, hK3⟩
            clear HB
            have HF := (show Hid (Cq w qb gb off bs ms (q2 + 2) ac sa2 sm sc2 w3 ∧ sm = ac.length ∧ sm ≤ ms + 1 ∧ sn + 1 ≤ sm) from by
              obtain ⟨c1, c2, c3, c4, c5, c6, c7⟩ := HE.out.1
              exact ⟨⟨hI3, owns_kept16 c2 hK3 (fun k e => (c4 k e).2), c3, c4, c5.trans hK3 (fun j hj e => by have := HW.out.1; omega), c6, Nat.lt_of_lt_of_le c7 hK3.size⟩, c3, HE.out.2.2.1, HE.out.2.2.2⟩)
            clear hI3 hK3 HE
            go_wp2_with fail
            go_loopw [6, 18] (fun v6 v18 wz => ∃ (i : Nat) (sa : Option Addr) (sk sc : Nat), v6 = .slice sa sk sc ∧ v18 = .int .i64 (i : Int) ∧ i ≤ z ∧ Hid (Cq w qb gb off bs ms (q2 + 2) (ac ++ List.replicate i 0) sa sk sc wz ∧ sk = sm + i)) (fun _ v18 _ => z - (intOf v18).toNat)
            case atStart => exact ⟨0, sa2, sm, sc2, rfl, rfl, Nat.zero_le _, by simpa using HF.out.1, by omega⟩
            case round =>
              obtain ⟨i, sa3, sk, sc3, rfl, rfl, hi, HG⟩ := hrel
              have hskI : (sk : Int) ≤ 300 := by have := HG.out.2; have := HF.out.2.2.1; have := HT3.out.1; omega
              by_cases hiz : i < z
              · have hizI : (i : Int) < (z : Int) := by omega
                obtain ⟨sa4, sc4, W4, hrun4, hcq4⟩ := HG.out.1.push (by have := HW.out.1; omega) HW.out.2.1 0 (by have := HG.out; have := HF.out; have := HT3.out.1; simp; omega) hms wr HG.out.1.at_ (Keep.refl _ _)
                rw [List.append_assoc, ← List.replicate_succ'] at hcq4
                have HG4 := (show Hid (Cq w qb gb off bs ms (q2 + 2) (ac ++ List.replicate (i + 1) 0) sa4 (sk + 1) sc4 W4 ∧ sk + 1 = sm + (i + 1)) from ⟨hcq4, by have := HG.out.2; omega⟩)
                clear hcq4 HG
                go_wp2_with (at_builtin; refine wpList_append_run _ rfl _ _ 66 rfl _ _ _ _ rfl rfl hrun4 ?_)
                go_roundw
                case rel => exact ⟨i + 1, sa4, sk + 1, sc4, rfl, by go_num, by omega, HG4.out⟩
                case measure => simp [intOf]; omega
              · obtain rfl : i = z := by omega
                have hizI : ¬ (i : Int) < (i : Int) := by omega
                by_cases hful : ms < sk
                · have hfulI : (ms : Int) < (sk : Int) := by omega
                  have HD := (show Hid (RdRel bs ml ms none) from HRel3.out none (by
                    by_cases h1 : ms < ac.length
                    · exact HT3.out.2.2 h1
                    · refine (HT3.out.2.1 (by omega)).2 _ (.full R2 (q2 + 2) _ _ HR2.out.1 ?_)
                      have := HG.out.2; have := HF.out.2.1; simp; omega))
                  go_wp2_with fail
                  exact bodyPost_ret (v := .tuple #[.slice none 0 0, .int .i64 0, .int .i64 0, .int .i64 11]) (by simp [results, Tryd.results29, go_sem]) rfl ⟨none, HD.out, rd_none (by decide) HG.out.1.keep⟩
                · have hfulI : ¬ (ms : Int) < (sk : Int) := by omega
                  have hal : ac.length ≤ ms := by have := HG.out.2; have := HF.out.2.1; omega
                  have HT4 := (show Hid _ from HT3.out.2.1 hal)
                  by_cases h3 : i < 3
                  · have h3I : (i : Int) < 3 := by omega
                    have hd3 : decide (i = 3) = false := decide_eq_false (by omega)
                    rw [hd3] at HT4
                    go_wp2_with fail
                    go_roundw
                    case rel => exact ⟨R2, q2 + 2, _, sa3, sk, sc3, rfl, rfl, rfl, HG.out.1, HT4.out⟩
                    case measure => have := HG.out.2; have := HF.out; have := HR2.out; simp only [sliceLen]; omega
                  · have h3I : ¬ (i : Int) < 3 := by omega
                    obtain rfl : i = 3 := by have := HT3.out.1; omega
                    go_wp2_with fail
                    go_roundw
                    case rel => exact ⟨q2 + 2, _, sa3, sk, sc3, rfl, rfl, HG.out.1, HT4.out, by omega, by have := HG.out.2; have := HF.out.2.2.2; omega⟩
                    case measure => have := HG.out.2; have := HF.out; have := HR2.out; simp only [sliceLen]; omega
      · have hcb0 : (c == 0) = false := by simpa using hc0
        have hd : decide (c = 0) = false := decide_eq_false hc0
        rw [hd] at HQ2
        go_wp2_with (first | (go_at_call 50; refine (HSH.out _).mono ?_; rintro e w'' ⟨rfl, rfl⟩) | (at_builtin; refine wpList_append_run _ rfl _ _ 66 rfl _ _ _ _ rfl rfl hrun ?_))
        go_roundw
        case rel => exact ⟨R2, p', acc ++ [c], sa', sn + 1, sc', rfl, rfl, rfl, HQ2.out⟩
        case measure => have := HZ.out; simp only [sliceLen]; omega

end Go.Proofs.YtcoahkmiebeeeaaDoor
