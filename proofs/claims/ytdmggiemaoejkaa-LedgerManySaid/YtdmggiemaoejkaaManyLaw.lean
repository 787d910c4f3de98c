/-
  LedgerMany, the walk.
-/
import Derived.Test.YtdmggiemaoejkaaPlaysLaw
import Derived.Deep.OwnRows
namespace Go.Proofs.Ytdmggiemaoejkaa
open Go.RowKit Go.Shelf
set_option linter.unusedVariables false

/-- Numbers as values. -/
def ints (g : List Nat) : Array Value := (g.map (fun (x : Nat) => Value.int .i64 (x : Int))).toArray
theorem ints_made (M : Nat) : madeCells #[.int .i64 0] M = ints (List.replicate M 0) := by
  refine Array.ext (by simp [size_madeCells, ints]) fun i h1 h2 => ?_
  simp [madeCells, ints, Nat.mod_one]
theorem ints_at (g : List Nat) (j : Nat) (h : j < g.length) : (ints g)[j]? = some (.int .i64 ((g[j]?.getD 0 : Nat) : Int)) := by
  simp [ints, List.getElem?_eq_getElem h]
theorem ints_set (g : List Nat) (j x : Nat) : (ints g).setIfInBounds j (.int .i64 (x : Int)) = ints (g.set j x) := by
  simp [ints, List.map_set]
theorem sum_set (g : List Nat) (j x : Nat) (h : j < g.length) : (g.set j x).sum + g[j]?.getD 0 = g.sum + x := by
  induction g generalizing j with
  | nil => simp at h
  | cons a g ih =>
    cases j with
    | zero => simp; omega
    | succ j =>
      have := ih j (by simpa using h)
      simp only [List.set_cons_succ, List.sum_cons, List.getElem?_cons_succ]
      omega
theorem at_le (g : List Nat) (j : Nat) (h : j < g.length) : g[j]?.getD 0 ≤ g.sum := by
  have := sum_set g j 0 h
  omega
theorem sum_take (g : List Nat) (j : Nat) (h : j < g.length) : (g.take (j + 1)).sum = (g.take j).sum + g[j]?.getD 0 := by
  rw [List.take_add_one, List.sum_append, List.getElem?_eq_getElem h]
  simp only [Option.toList_some, List.sum_cons, List.sum_nil, Option.getD_some, Nat.add_zero]
theorem take_le (g : List Nat) (j : Nat) : (g.take j).sum ≤ g.sum := by
  have := congrArg List.sum (List.take_append_drop j g)
  rw [List.sum_append] at this
  omega

/-- How many there are. -/
theorem many_of (y : Int) : ∃ M : Nat, wrap64 (1 + (wrap64 (y.tmod 8 + 8)).tmod 8) = (M : Int) ∧ 1 ≤ M ∧ M ≤ 8 := by
  have h1 : -8 < y.tmod 8 ∧ y.tmod 8 < 8 := by
    by_cases hy : 0 ≤ y
    · rw [Int.tmod_eq_emod_of_nonneg hy]; omega
    · have e : y = -(-y) := by omega
      rw [e, Int.neg_tmod, Int.tmod_eq_emod_of_nonneg (by omega)]; omega
  have h2 : wrap64 (y.tmod 8 + 8) = y.tmod 8 + 8 := by unfold wrap64; omega
  rw [h2, Int.tmod_eq_emod_of_nonneg (by omega)]
  have h3 : wrap64 (1 + (y.tmod 8 + 8) % 8) = 1 + (y.tmod 8 + 8) % 8 := by unfold wrap64; omega
  rw [h3]
  exact ⟨(1 + (y.tmod 8 + 8) % 8).toNat, by omega, by omega, by omega⟩

/-- The ledger and the row of shares, in new blocks. -/
structure Many (w W : World) (lb gb B now most : Nat) (g : List Nat) : Prop where
  isL : IsL W lb B now most
  row : W.heap[gb]? = some (.cells (ints g) 3 (0, 0))
  keep : Keep noBlock w W
  lo : w.heap.size ≤ lb
  ne : lb < gb
theorem Many.charge {w W : World} {lb gb B now most : Nat} {g : List Nat} (h : Many w W lb gb B now most g) {n r : Int} {now' most' : Nat} (ha : chargeAns B now most n = (r, now', most')) :
    Hid (Calls Try.prog 12 #[.pointer (some ⟨lb, 0, none⟩), .int .i64 n] W fun e W1 => e = .returned (.int .i64 r) ∧ Many w W1 lb gb B now' most' g) := by
  have h1 := h.lo
  have h2 := h.ne
  refine (charge_i lb B now most n r now' most' ha W h.isL).mono ?_
  rintro e W1 ⟨rfl, hL, hK⟩
  exact ⟨rfl, ⟨hL, hK.obj h.row (by omega), h.keep.trans hK (fun i hi e => by omega), h1, h2⟩⟩
theorem Many.release {w W : World} {lb gb B now most : Nat} {g : List Nat} (h : Many w W lb gb B now most g) {n r : Int} {now' most' : Nat} (ha : releaseAns now most n = (r, now', most')) :
    Hid (Calls Try.prog 10 #[.pointer (some ⟨lb, 0, none⟩), .int .i64 n] W fun e W1 => e = .returned (.int .i64 r) ∧ Many w W1 lb gb B now' most' g) := by
  have h1 := h.lo
  have h2 := h.ne
  refine (release_i lb B now most n r now' most' ha W h.isL).mono ?_
  rintro e W1 ⟨rfl, hL, hK⟩
  exact ⟨rfl, ⟨hL, hK.obj h.row (by omega), h.keep.trans hK (fun i hi e => by omega), h1, h2⟩⟩
theorem Many.cell {w W : World} {lb gb B now most : Nat} {g : List Nat} (h : Many w W lb gb B now most g) (j : Nat) (hj : j < g.length) : W.cell? ⟨gb, j, none⟩ = some (.int .i64 ((g[j]?.getD 0 : Nat) : Int)) := by
  rw [cell_of h.row j, ints_at g j hj]
theorem Many.store {w W : World} {lb gb B now most : Nat} {g : List Nat} (h : Many w W lb gb B now most g) (j x : Nat) : Many w (W.setCell ⟨gb, j, none⟩ (.int .i64 (x : Int))) lb gb B now most (g.set j x) := by
  have h1 := h.lo
  have h2 := h.ne
  have hK : Keep (fun k => k = gb) W (W.setCell ⟨gb, j, none⟩ (.int .i64 (x : Int))) := (Keep.refl (fun k => k = gb) W).setCell (p := ⟨gb, j, none⟩) (fun _ => rfl) _
  exact ⟨h.isL.keep hK (by omega), (set_obj h.row j _).trans (by rw [ints_set]), h.keep.trans hK (fun i hi e => by omega), h1, h2⟩
/-- .. all that is held are the shares. -/
structure Shares (w W : World) (lb gb B M now most : Nat) (g : List Nat) : Prop where
  all : Many w W lb gb B now most g
  len : g.length = M
  sum : g.sum = now

set_option maxHeartbeats 1000000 in
theorem many_long (x y : Int) (a : Option Addr) (len cap : Nat) (w : World) (h : 200 < len) :
    Calls Try.prog 6 #[.int .i64 x, .int .i64 y, .slice a len cap] w fun e w' => e = .returned (.bool true) ∧ Keep noBlock w w' := by
  have hd : (200 : Int) < len := by omega
  go_enter Try.func6, Try.ntmps6
  go_wp2_with fail
  refine (wakes_any _).mono ?_
  rintro e w1 ⟨rfl, hk⟩
  go_wp2_with fail
  go_ret
  exact ⟨rfl, hk⟩

section
attribute [local go_sem] maxSem_eq minSem_eq
set_option maxHeartbeats 4000000 in
theorem many_short (x y : Int) (a : Option Addr) (len cap b off : Nat) (ps : List ActD) (w : World) (h200 : ¬ 200 < len)
    (ha : a = some ⟨b, off, none⟩ ∨ len = 0)
    (hcs : ∀ j, j < len → w.cell? ⟨b, off + j * 2, none⟩ = some (.int .i64 (ps[j]?.getD actD0).n) ∧ w.cell? ⟨b, off + j * 2 + 1, none⟩ = some (.bool (ps[j]?.getD actD0).back)) :
    Calls Try.prog 6 #[.int .i64 x, .int .i64 y, .slice a len cap] w fun e w' => e = .returned (.bool true) ∧ Keep noBlock w w' := by
  have hd : ¬ (200 : Int) < len := by omega
  have HA := (show Hid _ from ha)
  have HC := (show Hid _ from hcs)
  clear ha hcs
  obtain ⟨X, hX⟩ : ∃ X : Int, X = min x 16777216 := ⟨_, rfl⟩
  obtain ⟨B, hB⟩ : ∃ B : Nat, B = budget x := ⟨_, rfl⟩
  have hB2 : (B : Int) = max 0 X := by rw [hB, hX]; unfold budget; omega
  have hmin := minSem_run #[3, 3] 3 x 16777216 X hX
  have hmaxB := maxSem_run #[3, 3] 3 0 X B hB2
  have HB := (show Hid _ from hB)
  clear hX hB hB2
  obtain ⟨M, hM, hM1, hM8⟩ := many_of y
  have hmk := run_make_row' (P := Try.prog) 38 3 (.int .i64 0) 8 Try.underlying38 (by kernel_rfl) rfl .i64 .i64 M (by omega) (by omega)
  rw [ints_made] at hmk
  go_enter Try.func6, Try.ntmps6
  go_wp2_with fail
  refine (new_any x w).mono ?_
  rintro e w1 ⟨rfl, hL, hK1⟩
  have hT0 : Shares w (w1.alloc (.cells (ints (List.replicate M 0)) 3)) w.heap.size w1.heap.size B M 0 0 (List.replicate M 0) :=
    ⟨⟨(by rw [HB.out]; exact hL.keep ((Keep.refl noBlock w1).alloc _) (fun h => h)), alloc_new _ _, hK1.alloc _, Nat.le_refl _, obj_lt hL.obj⟩, by simp, by simp⟩
  clear hL hK1 HB
  go_wp2_with fail
  generalize w1.alloc (.cells (ints (List.replicate M 0)) 3) = W0 at hT0 ⊢
  generalize w1.heap.size = gb at hT0 ⊢
  clear hM hmk
  go_loopw [9] (fun iv wr => ∃ (i now most : Nat) (g : List Nat), i ≤ len ∧ iv = .int .i64 i ∧ Shares w wr w.heap.size gb B M now most g) (fun iv _ => len - (intOf iv).toNat)
  case atStart => exact ⟨0, 0, 0, _, Nat.zero_le _, rfl, hT0⟩
  case round =>
    clear hT0
    obtain ⟨i, now, most, g, hi, rfl, hS0⟩ := hrel
    by_cases hlt : i < len
    · obtain ⟨c0, c1⟩ := HC.out i hlt
      obtain rfl : a = some ⟨b, off, none⟩ := HA.out.elim id (fun e => by omega)
      generalize ps[i]?.getD actD0 = pd at c0 c1
      obtain ⟨n, back⟩ := pd
      dsimp only at c0 c1
      have HC0 := (show Hid _ from c0)
      have HC1 := (show Hid _ from c1)
      have hbw : b < w.heap.size := World.block_lt_of_cell? w _ c0
      have hgb : w.heap.size < gb := by have := hS0.all.lo; have := hS0.all.ne; omega
      have hbg : ¬ b = gb := by omega
      clear c0 c1
      obtain ⟨n', hand⟩ : ∃ n', bits .and .i64 n 65535 = n' := ⟨_, rfl⟩
      go_wp2_with fail
      go_loopw [10] (fun kv wk => ∃ (k now most : Nat) (g : List Nat), k ≤ M ∧ kv = .int .i64 k ∧ Shares w wk w.heap.size gb B M now most g) (fun kv _ => M - (intOf kv).toNat)
      case atStart => exact ⟨0, now, most, g, Nat.zero_le _, rfl, hS0⟩
      case round =>
        clear hS0
        obtain ⟨k, now, most, g, hk, rfl, hS⟩ := hrel
        by_cases hkM : k < M
        · have d0 := cell_kept hS.all.keep HC0.out
          have hkg : k < g.length := by rw [hS.len]; exact hkM
          by_cases hok : 0 ≤ n' ∧ now + n' ≤ B
          · obtain ⟨m, rfl⟩ : ∃ m : Nat, n' = (m : Int) := ⟨n'.toNat, by omega⟩
            have hm : now + m ≤ B := by omega
            obtain ⟨d, hd0⟩ : ∃ d : Nat, d = now + m := ⟨_, rfl⟩
            obtain ⟨t, ht0⟩ : ∃ t : Nat, t = max d most := ⟨_, rfl⟩
            have HR := hS.all.charge (n := (m : Int)) (r := 0) (now' := d) (most' := t) (by unfold chargeAns; rw [if_neg (by omega), Int.toNat_natCast, if_neg (by omega), ht0, hd0])
            go_wp2_with fail
            refine HR.out.mono ?_
            rintro e w3 ⟨rfl, hM3⟩
            clear HR
            have hc3 := hM3.cell k hkg
            have hfz3 := frozen_of hM3.row k
            have dB := cell_kept hM3.keep HC1.out
            have hlen := hS.len
            have hle := at_le g k hkg
            have hsum4 := sum_set g k (g[k]?.getD 0 + m) hkg
            rw [hS.sum] at hle hsum4
            have hat4 : (g.set k (g[k]?.getD 0 + m))[k]?.getD 0 = g[k]?.getD 0 + m := by simp [hkg]
            generalize g[k]?.getD 0 = q at hc3 hle hsum4 hat4
            obtain ⟨y', hy'⟩ : ∃ y' : Nat, y' = q + m := ⟨_, rfl⟩
            rw [← hy'] at hsum4 hat4
            have hadd : (q : Int) + (m : Int) = (y' : Int) := by omega
            have hsum4 : (g.set k y').sum = d := by omega
            have hBtop := hM3.isL.top
            have hM4 := hM3.store k y'
            have hk64 : (k : Int) < M := by omega
            clear d0 hS hM3 hd0 ht0 hy'
            have hY : y' ≤ d := by rw [← hsum4]; have := at_le (g.set k y') k (by simpa using hkg); rw [show (g.set k y')[k]?.getD 0 = y' from hat4] at this; exact this
            cases back with
            | false =>
              go_wp2_with fail
              go_roundw
              case rel => exact ⟨k + 1, d, t, g.set k y', by omega, by go_num, hM4, by simpa using hlen, hsum4⟩
              case measure => simp [intOf]; omega
            | true =>
              have HR2 := hM4.release (n := (y' : Int)) (r := 0) (now' := d - y') (most' := t) (by unfold releaseAns; rw [if_neg (by omega), Int.toNat_natCast, if_neg (by omega)])
              have hsum5 : ((g.set k y').set k 0).sum = d - y' := by
                have := sum_set (g.set k y') k 0 (by simpa using hkg)
                rw [hat4, hsum4] at this
                omega
              go_wp2_with fail
              refine HR2.out.mono ?_
              rintro e w5 ⟨rfl, hM5⟩
              have hfz5 := frozen_of hM5.row k
              have hc5 := hM5.cell k (by simpa using hkg)
              go_wp2_with fail
              go_roundw
              case rel => exact ⟨k + 1, d - y', t, (g.set k y').set k 0, by omega, by go_num, hM5.store k 0, by simpa using hlen, hsum5⟩
              case measure => simp [intOf]; omega
          · have HR : ∃ r : Int, Hid (r ≠ 0) ∧ Hid (Calls Try.prog 12 #[.pointer (some ⟨w.heap.size, 0, none⟩), .int .i64 n'] wr fun e W1 => e = .returned (.int .i64 r) ∧ Many w W1 w.heap.size gb B now most g) := by
              by_cases h0 : n' < 0
              · exact ⟨2, by intro h; exact absurd h (by decide), hS.all.charge (by unfold chargeAns; rw [if_pos h0])⟩
              · exact ⟨40, by intro h; exact absurd h (by decide), hS.all.charge (by unfold chargeAns; rw [if_neg h0, if_pos (by omega)])⟩
            obtain ⟨r, hr, HR⟩ := HR
            have hr0 : (r == 0) = false := by simpa using hr.out
            clear hr
            go_wp2_with fail
            refine HR.out.mono ?_
            rintro e w3 ⟨rfl, hM4⟩
            clear HR
            have hc3 := hM4.cell k hkg
            have dB := cell_kept hM4.keep HC1.out
            have hlen := hS.len
            have hsum4 : g.sum = now := hS.sum
            obtain ⟨q, hat4⟩ : ∃ q : Nat, g[k]?.getD 0 = q := ⟨_, rfl⟩
            rw [hat4] at hc3
            have hBtop := hM4.isL.top
            have hk64 : (k : Int) < M := by omega
            clear d0 hS
            have hY : q ≤ now := by rw [← hsum4]; have := at_le g k (by simpa using hkg); rw [show (g)[k]?.getD 0 = q from hat4] at this; exact this
            cases back with
            | false =>
              go_wp2_with fail
              go_roundw
              case rel => exact ⟨k + 1, now, most, g, by omega, by go_num, hM4, by simpa using hlen, hsum4⟩
              case measure => simp [intOf]; omega
            | true =>
              have HR2 := hM4.release (n := (q : Int)) (r := 0) (now' := now - q) (most' := most) (by unfold releaseAns; rw [if_neg (by omega), Int.toNat_natCast, if_neg (by omega)])
              have hsum5 : ((g).set k 0).sum = now - q := by
                have := sum_set (g) k 0 (by simpa using hkg)
                rw [hat4, hsum4] at this
                omega
              go_wp2_with fail
              refine HR2.out.mono ?_
              rintro e w5 ⟨rfl, hM5⟩
              have hfz5 := frozen_of hM5.row k
              have hc5 := hM5.cell k (by simpa using hkg)
              go_wp2_with fail
              go_roundw
              case rel => exact ⟨k + 1, now - q, most, (g).set k 0, by omega, by go_num, hM5.store k 0, by simpa using hlen, hsum5⟩
              case measure => simp [intOf]; omega
        · obtain rfl : k = M := by omega
          go_wp2_with fail
          go_roundw
          case rel => exact ⟨i + 1, now, most, g, by omega, by go_num, hS⟩
          case measure => simp [intOf]; omega
    · obtain rfl : i = len := by omega
      go_wp2_with fail
      go_loopw [12, 13] (fun sv kv wk => ∃ k : Nat, k ≤ M ∧ sv = .int .i64 ((g.take k).sum : Nat) ∧ kv = .int .i64 k ∧ wk = wr) (fun _ kv _ => M - (intOf kv).toNat)
      case atStart => exact ⟨0, Nat.zero_le _, rfl, rfl, rfl⟩
      case round =>
        obtain ⟨k, hk, rfl, rfl, rfl⟩ := hrel
        have hle := hS0.all.isL.le
        have hin := hS0.all.isL.in_
        have htop := hS0.all.isL.top
        by_cases hkM : k < M
        · have hkg : k < g.length := by rw [hS0.len]; exact hkM
          have hc := hS0.all.cell k hkg
          have h1 := sum_take g k hkg
          have h2 := take_le g (k + 1)
          rw [hS0.sum] at h2
          generalize g[k]?.getD 0 = q at hc h1
          obtain ⟨s1, hs1⟩ : ∃ s1, s1 = (g.take (k + 1)).sum := ⟨_, rfl⟩
          rw [← hs1] at h1 h2
          generalize (g.take k).sum = s0 at h1 ⊢
          have hadd : (s0 : Int) + (q : Int) = (s1 : Int) := by omega
          have HS := (show Hid _ from hs1)
          have hk64 : (k : Int) < M := by omega
          clear hs1 h1
          go_wp2_with fail
          go_roundw
          case rel => exact ⟨k + 1, by omega, by rw [← HS.out], by go_num, trivial⟩
          case measure => simp [intOf]; omega
        · obtain rfl : k = M := by omega
          have e1 : (g.take k).sum = now := by rw [← hS0.len, List.take_length]; exact hS0.sum
          rw [e1]
          clear e1
          have b1 : decide ((now : Int) ≤ most) = true := decide_eq_true (by omega)
          have b2 : decide ((most : Int) ≤ B) = true := decide_eq_true (by omega)
          go_wp2_with fail
          refine (held_any w.heap.size B now most _ hS0.all.isL).mono ?_
          rintro e w5 ⟨rfl, rfl⟩
          go_wp2_with fail
          refine (wakes_any _).mono ?_
          rintro e w6 ⟨rfl, hk6⟩
          go_wp2_with fail
          go_ret
          exact ⟨rfl, hS0.all.keep.trans' hk6⟩
end

end Go.Proofs.Ytdmggiemaoejkaa
