/-
  The document's words and Codes.
-/
import Derived.Test.YtapcohpagipkpaaRight
import Derived.Test.YtapcohpagipkpaaLaidW
import Derived.Test.YtapcohpagipkpaaCodes
namespace Go.Proofs.Ytapcohpagipkpaa
open Go.RowKit Go.Shelf

/-- How many of the first s lengths are l. -/
def cntTo (xs : List Nat) (l s : Nat) : Nat := ((List.range s).filter (fun t => numOf xs t == l)).length
theorem cntTo_succ (xs : List Nat) (l s : Nat) : cntTo xs l (s + 1) = cntTo xs l s + (if numOf xs s = l then 1 else 0) := by
  unfold cntTo
  rw [List.range_succ, List.filter_append, List.length_append]
  by_cases h : numOf xs s = l
  · simp [h]
  · simp [h]
theorem cntTo_all (xs : List Nat) (l : Nat) (hl : l ≠ 0) : cntTo xs l xs.length = many xs l := (many_count hl).symm
theorem rank_cnt (xs : List Nat) (s : Nat) : rank xs s = cntTo xs (numOf xs s) s := rfl
theorem cntTo_mono (xs : List Nat) (l s : Nat) (hs : s ≤ xs.length) : cntTo xs l s ≤ cntTo xs l xs.length := by
  obtain ⟨d, hd⟩ : ∃ d, xs.length = s + d := ⟨xs.length - s, by omega⟩
  rw [hd]
  clear hd hs
  induction d with
  | zero => exact Nat.le_refl _
  | succ d ih => rw [← Nat.add_assoc, cntTo_succ]; omega
theorem next_succ (c : Nat → Nat) (l : Nat) (hl : 1 ≤ l) : nextF c l = 2 * (nextF c (l - 1) + c (l - 1)) := by
  obtain ⟨k, rfl⟩ : ∃ k, l = k + 1 := ⟨l - 1, by omega⟩
  rfl
theorem code_parts {xs : List Nat} (h : isCode xs = true) : partsTo (many xs) 16 = 32768 := (of_decide_eq_true h).2.2

/-- What words has laid when the lengths below l, and of l the first s, are over. -/
def outW (xs : List Nat) (l s t : Nat) : Nat := if numOf xs t ≠ 0 ∧ (numOf xs t < l ∨ (numOf xs t = l ∧ t < s)) then wordN xs t % 65536 else 0
structure WS (w W : World) (cb : Nat) (xs : List Nat) (l s : Nat) : Prop where
  row : ∃ cs, W.heap[cb]? = some (.cells cs 51 (0, 0)) ∧ ∀ t, t < xs.length → cs[t]? = some (.int .u16 ((outW xs l s t : Nat) : Int))
  keep : Keep noBlock w W
  ge : w.heap.size ≤ cb
theorem WS.skip {w W : World} {cb : Nat} {xs : List Nat} {l s : Nat} (h : WS w W cb xs l s) (hs : numOf xs s ≠ l) : WS w W cb xs l (s + 1) := by
  obtain ⟨cs, ho, hc⟩ := h.row
  refine ⟨⟨cs, ho, fun t ht => ?_⟩, h.keep, h.ge⟩
  rw [hc t ht]
  congr 3
  unfold outW
  have : (numOf xs t ≠ 0 ∧ (numOf xs t < l ∨ numOf xs t = l ∧ t < s)) ↔ (numOf xs t ≠ 0 ∧ (numOf xs t < l ∨ numOf xs t = l ∧ t < s + 1)) := by
    by_cases e : t = s
    · subst e; omega
    · omega
  simp only [this]
theorem WS.store {w W : World} {cb : Nat} {xs : List Nat} {l s : Nat} (h : WS w W cb xs l s) (hs : numOf xs s = l) (h0 : l ≠ 0) (v : Nat) (hv : v = wordN xs s % 65536) : WS w (W.setCell ⟨cb, s, none⟩ (.int .u16 (v : Int))) cb xs l (s + 1) := by
  obtain ⟨cs, ho, hc⟩ := h.row
  refine ⟨⟨_, set_obj ho s _, fun t ht => ?_⟩, h.keep.setCell (fun hh => absurd hh (by have := h.ge; show ¬ cb < _; omega)) _, h.ge⟩
  have hsz := (Array.getElem?_eq_some_iff.1 (hc t ht)).1
  rw [Array.getElem?_setIfInBounds]
  by_cases e : s = t
  · subst e
    rw [if_pos rfl, if_pos hsz, hv]
    congr 3
    unfold outW
    rw [if_pos ⟨by omega, .inr ⟨hs, by omega⟩⟩]
  · rw [if_neg e, hc t ht]
    congr 3
    unfold outW
    have : (numOf xs t ≠ 0 ∧ (numOf xs t < l ∨ numOf xs t = l ∧ t < s)) ↔ (numOf xs t ≠ 0 ∧ (numOf xs t < l ∨ numOf xs t = l ∧ t < s + 1)) := by omega
    simp only [this]
theorem WS.next {w W : World} {cb : Nat} {xs : List Nat} {l : Nat} (h : WS w W cb xs l xs.length) : WS w W cb xs (l + 1) 0 := by
  obtain ⟨cs, ho, hc⟩ := h.row
  refine ⟨⟨cs, ho, fun t ht => ?_⟩, h.keep, h.ge⟩
  rw [hc t ht]
  congr 3
  unfold outW
  have : (numOf xs t ≠ 0 ∧ (numOf xs t < l ∨ numOf xs t = l ∧ t < xs.length)) ↔ (numOf xs t ≠ 0 ∧ (numOf xs t < l + 1 ∨ numOf xs t = l + 1 ∧ t < 0)) := by omega
  simp only [this]

set_option maxRecDepth 100000 in
set_option maxHeartbeats 4000000 in
theorem words_any (a : Option Addr) (cap gb off : Nat) (xs : List Nat) (w : World) (hR : Row w .u8 a cap gb off xs) (hl : xs.length ≤ 1024) (hgood : isCode xs = true) :
    Calls Try.prog 29 #[.slice a xs.length cap] w fun e w' => ∃ cb, e = .returned (.slice (some ⟨cb, 0, none⟩) xs.length xs.length) ∧ w.heap.size ≤ cb ∧ cb < w'.heap.size ∧ Row w' .u16 (some ⟨cb, 0, none⟩) xs.length cb 0 ((List.range xs.length).map (fun s => wordN xs s % 65536)) ∧ Keep noBlock w w' := by
  have hmk : ∀ W : World, (Instr.makeSlice 24 (.int .i64 (xs.length : Int)) (.int .i64 (xs.length : Int))).run Try.prog W = .ok (.slice (some ⟨W.heap.size, 0, none⟩) xs.length xs.length) (W.alloc (.cells (madeCells #[.int .u16 0] xs.length) 51)) := fun W =>
    run_make_row' 24 51 (.int .u16 0) 2 Try.underlying24 info51 rfl .i64 .i64 xs.length (by omega) (by omega) W
  have hnew := World.alloc_heap_new w (.cells (madeCells #[.int .u16 0] xs.length) 51)
  have hws : WS w (w.alloc (.cells (madeCells #[.int .u16 0] xs.length) 51)) w.heap.size xs 1 0 := by
    refine ⟨⟨_, hnew, fun t ht => ?_⟩, (Keep.refl _ w).alloc _, Nat.le_refl _⟩
    have e : outW xs 1 0 t = 0 := by unfold outW; rw [if_neg (by omega)]
    rw [e]
    simp [madeCells, ht, Nat.mod_one]
  have HR := (show Hid (Row w .u8 a cap gb off xs) from hR)
  have HG := (show Hid (isCode xs = true) from hgood)
  clear hR hgood hnew
  go_enter Try.func29, Try.ntmps29
  go_wp2_with fail
  have H0 := (show Hid _ from hws)
  clear hws hmk
  generalize w.alloc (.cells (madeCells #[.int .u16 0] xs.length) 51) = W0 at H0 ⊢
  generalize w.heap.size = cb at H0 ⊢
  have hb : ∀ l, l ≤ 15 → nextF (many xs) l + many xs l ≤ 32768 := fun l h => by
    have h1 := next_le (many xs) (code_parts HG.out) l h
    have h2 : 2 ^ l ≤ 2 ^ 15 := Nat.pow_le_pow_right (by omega) h
    omega
  have HB := (show Hid (∀ l, l ≤ 15 → nextF (many xs) l + many xs l ≤ 32768) from hb)
  have HN0 := (show Hid (nextF (many xs) 0 + many xs 0 = 0) from rfl)
  clear hb
  go_loopw [4, 5] (fun vn vl wr => ∃ (l n : Nat), vl = .int .i64 (l : Int) ∧ vn = .int .i64 (n : Int) ∧ 1 ≤ l ∧ l ≤ 16 ∧ Hid (WS w wr cb xs l 0 ∧ n = nextF (many xs) (l - 1) + many xs (l - 1))) (fun _ vl _ => 16 - (intOf vl).toNat)
  case atStart => exact ⟨1, 0, rfl, rfl, Nat.le_refl _, by omega, H0.out, HN0.out.symm⟩
  case round =>
    clear H0 HN0
    obtain ⟨l, n, rfl, rfl, hl1, hl2, HW⟩ := hrel
    by_cases hlt : l ≤ 15
    · have hltI : (l : Int) ≤ 15 := by omega
      obtain ⟨m, hm⟩ : ∃ m, m = n * 2 := ⟨_, rfl⟩
      have hmI : (n : Int) * 2 = (m : Int) := by omega
      have hmn : m = nextF (many xs) l := by rw [hm, HW.out.2, next_succ _ l hl1]; omega
      have hmb : m + many xs l ≤ 32768 := by rw [hmn]; exact HB.out l hlt
      have hnb : n ≤ 32768 := by omega
      obtain ⟨c, hc⟩ : ∃ c, c = many xs l := ⟨_, rfl⟩
      have hcl : cntTo xs l xs.length = c := by rw [hc]; exact cntTo_all xs l (by omega)
      have HM := (show Hid (m = nextF (many xs) l ∧ m + cntTo xs l xs.length ≤ 32768 ∧ c = many xs l ∧ cntTo xs l xs.length = c) from ⟨hmn, by rw [hcl, hc]; exact hmb, hc, hcl⟩)
      have H1 := (show Hid (WS w wr cb xs l 0) from HW.out.1)
      clear hm hmn hmb hc hcl HW
      go_wp2_with fail
      go_loopw [4, 6] (fun vn vs wr => ∃ (s k : Nat), vs = .int .i64 (s : Int) ∧ vn = .int .i64 (k : Int) ∧ s ≤ xs.length ∧ Hid (WS w wr cb xs l s ∧ k = m + cntTo xs l s)) (fun _ vs _ => xs.length - (intOf vs).toNat)
      case atStart => exact ⟨0, m, rfl, by go_num, Nat.zero_le _, H1.out, rfl⟩
      case round =>
        clear H1
        obtain ⟨s, k, rfl, rfl, hs, HS⟩ := hrel
        by_cases hlts : s < xs.length
        · have hRw := HR.out.keep HS.out.1.keep (fun _ h => h)
          obtain rfl : a = some ⟨gb, off, none⟩ := hRw.at_.resolve_right (by rintro rfl; simp at hlts)
          have c1 : wr.cell? ⟨gb, off + s, none⟩ = some (.int .u8 ((numOf xs s : Nat) : Int)) := hRw.cells s hlts
          have h15 := num15 HG.out s
          have hcs := cntTo_succ xs l s
          have hcm := cntTo_mono xs l s (by omega)
          have hkb : k ≤ 32768 := by have := HM.out.2.1; have := HS.out.2; omega
          clear hRw
          by_cases hx : numOf xs s = l
          · rw [if_pos hx] at hcs
            have hw : k % 65536 = wordN xs s % 65536 := by
              unfold wordN
              rw [if_neg (by omega), hx, rank_cnt, hx, ← HM.out.1, ← HS.out.2]
            have hst := HS.out.1.store hx (by omega) (k % 65536) hw
            obtain ⟨cs, ho, hcc⟩ := HS.out.1.row
            have c2 : wr.cell? ⟨cb, s, none⟩ = some (.int .u16 ((outW xs l s s : Nat) : Int)) := by rw [cell_of ho, hcc s hlts]
            have f2 := frozen_of ho s
            have hkm : ((k % 65536 : Nat) : Int) = (k : Int) := by omega
            rw [hkm] at hst
            have HN := (show Hid (WS w _ cb xs l (s + 1) ∧ k + 1 = m + cntTo xs l (s + 1)) from ⟨hst, by rw [hcs, HS.out.2]; omega⟩)
            rw [hx] at c1
            clear hst hcc ho hw hcs hcm HS hkm
            generalize outW xs l s s = z at c2
            go_wp2
            go_roundw
            case rel => exact ⟨s + 1, k + 1, by go_num, by go_num, by omega, HN.out⟩
            case measure => simp [intOf]; omega
          · rw [if_neg hx] at hcs
            have hst := HS.out.1.skip hx
            have HN := (show Hid (WS w wr cb xs l (s + 1) ∧ k = m + cntTo xs l (s + 1)) from ⟨hst, by rw [hcs, HS.out.2]; omega⟩)
            have hxI : ¬ ((numOf xs s : Nat) : Int) = (l : Int) := by omega
            have hxB : (((numOf xs s : Nat) : Int) == (l : Int)) = false := by simpa using hxI
            clear hst hcs hcm HS
            generalize numOf xs s = x at c1 hxI hxB hx h15
            go_wp2
            go_roundw
            case rel => exact ⟨s + 1, k, by go_num, rfl, by omega, HN.out⟩
            case measure => simp [intOf]; omega
        · obtain rfl : s = xs.length := by omega
          have hnx := HS.out.1.next
          have HN := (show Hid (WS w wr cb xs (l + 1) 0 ∧ k = nextF (many xs) (l + 1 - 1) + many xs (l + 1 - 1)) from ⟨hnx, by rw [HS.out.2, HM.out.2.2.2, HM.out.1, HM.out.2.2.1, Nat.add_sub_cancel]⟩)
          clear hnx HS
          go_wp2
          go_roundw
          case rel => exact ⟨l + 1, k, by go_num, rfl, by omega, by omega, HN.out⟩
          case measure => simp [intOf]; omega
    · obtain rfl : l = 16 := by omega
      rw [show ((16 : Nat) : Int) = (16 : Int) from rfl]
      go_wp2
      go_ret
      obtain ⟨cs, ho, hc⟩ := HW.out.1.row
      refine ⟨cb, rfl, HW.out.1.ge, obj_lt ho, ⟨.inl rfl, fun j hj => ?_, by simp⟩, HW.out.1.keep⟩
      have hj' : j < xs.length := by simpa using hj
      rw [Nat.zero_add, cell_of ho, hc j hj']
      have h15 := num15 HG.out j
      congr 3
      simp [hj']
      unfold outW
      by_cases h0 : numOf xs j = 0
      · rw [if_neg (by omega)]
        unfold wordN
        rw [if_pos h0]
      · rw [if_pos ⟨h0, .inl (by omega)⟩]

set_option maxRecDepth 100000 in
set_option maxHeartbeats 1000000 in
theorem codesQ_far (a : Option Addr) (cap n : Nat) (w : World) (hl : 1024 < n) :
    Calls Try.prog 9 #[.slice a n cap] w fun e w' => e = .returned (.tuple #[.slice none 0 0, .int .i64 50]) ∧ Keep noBlock w w' := by
  go_enter Try.func9, Try.ntmps9
  go_wp2_with fail
  refine (right_far a cap n w hl).mono ?_
  rintro e w1 ⟨rfl, hk⟩
  go_wp2
  go_ret2
  exact ⟨rfl, hk⟩
set_option maxRecDepth 100000 in
set_option maxHeartbeats 1000000 in
theorem codesQ_bad (a : Option Addr) (cap gb off : Nat) (xs : List Nat) (w : World) (hR : Row w .u8 a cap gb off xs) (h8 : ∀ i, numOf xs i < 256) (hl : xs.length ≤ 1024) (hbad : isCode xs = false) :
    Calls Try.prog 9 #[.slice a xs.length cap] w fun e w' => e = .returned (.tuple #[.slice none 0 0, .int .i64 50]) ∧ Keep noBlock w w' := by
  have h := right_any a cap gb off xs w hR h8 hl
  rw [hbad] at h
  go_enter Try.func9, Try.ntmps9
  go_wp2_with fail
  refine h.mono ?_
  rintro e w1 ⟨rfl, hk⟩
  clear h
  go_wp2
  go_ret2
  exact ⟨rfl, hk⟩
set_option maxRecDepth 100000 in
set_option maxHeartbeats 1000000 in
theorem codesQ_good (a : Option Addr) (cap gb off : Nat) (xs : List Nat) (w : World) (hR : Row w .u8 a cap gb off xs) (h8 : ∀ i, numOf xs i < 256) (hl : xs.length ≤ 1024) (hgood : isCode xs = true) :
    Calls Try.prog 9 #[.slice a xs.length cap] w fun e w' => ∃ cb, e = .returned (.tuple #[.slice (some ⟨cb, 0, none⟩) xs.length xs.length, .int .i64 0]) ∧ w.heap.size ≤ cb ∧ cb < w'.heap.size ∧ Row w' .u16 (some ⟨cb, 0, none⟩) xs.length cb 0 ((List.range xs.length).map (fun s => wordN xs s % 65536)) ∧ Keep noBlock w w' := by
  have h := right_any a cap gb off xs w hR h8 hl
  rw [hgood] at h
  go_enter Try.func9, Try.ntmps9
  go_wp2_with fail
  refine h.mono ?_
  rintro e w1 ⟨rfl, hk⟩
  clear h
  go_wp2_with fail
  refine (words_any a cap gb off xs w1 (hR.keep hk (fun _ h => h)) hl hgood).mono ?_
  rintro e w2 ⟨cb, rfl, h1, h2, h3, h4⟩
  have H := (show Hid (w.heap.size ≤ cb ∧ cb < w2.heap.size ∧ Row w2 .u16 (some ⟨cb, 0, none⟩) xs.length cb 0 ((List.range xs.length).map (fun s => wordN xs s % 65536)) ∧ Keep noBlock w w2) from ⟨by have := hk.size; omega, h2, h3, hk.trans' h4⟩)
  clear h1 h2 h3 h4 hk
  go_wp2
  go_ret2
  exact ⟨cb, rfl, H.out⟩

end Go.Proofs.Ytapcohpagipkpaa
