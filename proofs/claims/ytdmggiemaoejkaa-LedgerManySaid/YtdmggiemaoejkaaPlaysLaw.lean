/-
  LedgerPlays, the walk: the program's ledger and the document's go side by side.
-/
import Derived.Test.YtdmggiemaoejkaaRef
namespace Go.Proofs.Ytdmggiemaoejkaa
open Go.RowKit Go.Shelf
set_option linter.unusedVariables false

/-- An act that came in. -/
structure ActD where
  n : Int
  back : Bool
def actD0 : ActD := ⟨0, false⟩

/-- Both ledgers, in new blocks. -/
structure Two (w W : World) (lb qb B now most : Nat) : Prop where
  isL : IsL W lb B now most
  isQ : IsQ W qb B now most
  keep : Keep noBlock w W
  lo : w.heap.size ≤ lb
  ne : lb < qb

theorem Two.charge {w W : World} {lb qb B now most : Nat} (h : Two w W lb qb B now most) {n r : Int} (hn : n ≤ 9223372036854775807) {now' most' : Nat} (ha : chargeAns B now most n = (r, now', most')) :
    Hid (Calls Try.prog 12 #[.pointer (some ⟨lb, 0, none⟩), .int .i64 n] W fun e W1 => e = .returned (.int .i64 r) ∧ Keep noBlock w W1 ∧
      Hid (Calls Try.prog 13 #[.pointer (some ⟨qb, 0, none⟩), .int .i64 n] W1 fun e W2 => e = .returned (.int .i64 r) ∧ Two w W2 lb qb B now' most')) := by
  have h1 := h.lo
  have h2 := h.ne
  refine (charge_i lb B now most n r now' most' ha W h.isL).mono ?_
  rintro e W1 ⟨rfl, hL, hK⟩
  refine ⟨rfl, h.keep.trans hK (fun i hi e => by omega), ?_⟩
  refine (chargeQ_i qb B now most n r hn now' most' ha W1 (h.isQ.keep hK (by omega))).mono ?_
  rintro e W2 ⟨rfl, hQ, hK2⟩
  exact ⟨rfl, ⟨hL.keep hK2 (by omega), hQ, (h.keep.trans hK (fun i hi e => by omega)).trans hK2 (fun i hi e => by omega), h1, h2⟩⟩
theorem Two.release {w W : World} {lb qb B now most : Nat} (h : Two w W lb qb B now most) {n r : Int} {now' most' : Nat} (ha : releaseAns now most n = (r, now', most')) :
    Hid (Calls Try.prog 10 #[.pointer (some ⟨lb, 0, none⟩), .int .i64 n] W fun e W1 => e = .returned (.int .i64 r) ∧ Keep noBlock w W1 ∧
      Hid (Calls Try.prog 11 #[.pointer (some ⟨qb, 0, none⟩), .int .i64 n] W1 fun e W2 => e = .returned (.int .i64 r) ∧ Two w W2 lb qb B now' most')) := by
  have h1 := h.lo
  have h2 := h.ne
  refine (release_i lb B now most n r now' most' ha W h.isL).mono ?_
  rintro e W1 ⟨rfl, hL, hK⟩
  refine ⟨rfl, h.keep.trans hK (fun i hi e => by omega), ?_⟩
  refine (releaseQ_i qb B now most n r now' most' ha W1 (h.isQ.keep hK (by omega))).mono ?_
  rintro e W2 ⟨rfl, hQ, hK2⟩
  exact ⟨rfl, ⟨hL.keep hK2 (by omega), hQ, (h.keep.trans hK (fun i hi e => by omega)).trans hK2 (fun i hi e => by omega), h1, h2⟩⟩

theorem cell_kept {w W : World} (h : Keep noBlock w W) {b o : Nat} {v : Value} (hc : w.cell? ⟨b, o, none⟩ = some v) : W.cell? ⟨b, o, none⟩ = some v :=
  (World.cell?_of_block (a := ⟨b, o, none⟩) (h.block b (World.block_lt_of_cell? w _ hc) (fun h => h))).trans hc

set_option maxHeartbeats 1000000 in
theorem plays_long (x : Int) (a : Option Addr) (len cap : Nat) (w : World) (h : 300 < len) :
    Calls Try.prog 3 #[.int .i64 x, .slice a len cap] w fun e w' => e = .returned (.bool true) ∧ Keep noBlock w w' := by
  have hd : (300 : Int) < len := by omega
  go_enter Try.func3, Try.ntmps3
  go_wp2_with fail
  refine (wakes_any _).mono ?_
  rintro e w1 ⟨rfl, hk⟩
  go_wp2_with fail
  go_ret
  exact ⟨rfl, hk⟩

set_option maxHeartbeats 4000000 in
theorem plays_short (x : Int) (a : Option Addr) (len cap b off : Nat) (ps : List ActD) (w : World) (h300 : ¬ 300 < len)
    (ha : a = some ⟨b, off, none⟩ ∨ len = 0) (hps : ∀ j : Nat, (ps[j]?.getD actD0).n ≤ 9223372036854775807)
    (hcs : ∀ j, j < len → w.cell? ⟨b, off + j * 2, none⟩ = some (.int .i64 (ps[j]?.getD actD0).n) ∧ w.cell? ⟨b, off + j * 2 + 1, none⟩ = some (.bool (ps[j]?.getD actD0).back)) :
    Calls Try.prog 3 #[.int .i64 x, .slice a len cap] w fun e w' => e = .returned (.bool true) ∧ Keep noBlock w w' := by
  have hd : ¬ (300 : Int) < len := by omega
  have HA := (show Hid _ from ha)
  have HC := (show Hid _ from hcs)
  have HP := (show Hid _ from hps)
  clear ha hcs hps
  go_enter Try.func3, Try.ntmps3
  go_wp2_with fail
  refine (new_any x w).mono ?_
  rintro e w1 ⟨rfl, hL, hK1⟩
  go_wp2_with fail
  refine (newQ_any x w1).mono ?_
  rintro e w2 ⟨rfl, hQ, hK2⟩
  obtain ⟨qb, hqb⟩ : ∃ qb, qb = w1.heap.size := ⟨_, rfl⟩
  rw [← hqb] at hQ ⊢
  have hT0 : Two w w2 w.heap.size qb (budget x) 0 0 := ⟨hL.keep hK2 (fun h => h), hQ, hK1.trans' hK2, Nat.le_refl _, by rw [hqb]; exact obj_lt hL.obj⟩
  clear hL hQ hK1 hK2 hqb
  generalize budget x = B at hT0
  go_wp2_with fail
  go_loopw [7] (fun i wr => ∃ (k now most : Nat), k ≤ len ∧ i = .int .i64 k ∧ Two w wr w.heap.size qb B now most) (fun i _ => len - (intOf i).toNat)
  case atStart => exact ⟨0, 0, 0, Nat.zero_le _, rfl, hT0⟩
  case round =>
    obtain ⟨k, now, most, hk, rfl, hT⟩ := hrel
    by_cases hlt : k < len
    · obtain ⟨c0, c1⟩ := HC.out k hlt
      have d0 := cell_kept hT.keep c0
      have d1 := cell_kept hT.keep c1
      have hx := HP.out k
      obtain rfl : a = some ⟨b, off, none⟩ := HA.out.elim id (fun e => by omega)
      generalize ps[k]?.getD actD0 = pd at c0 c1 d0 d1 hx
      obtain ⟨n, back⟩ := pd
      dsimp only at c0 c1 d0 d1 hx
      have HC0 := (show Hid _ from c0)
      clear c0 c1
      cases back with
      | true =>
        obtain ⟨r, now', most', ha⟩ : ∃ r now' most', releaseAns now most n = (r, now', most') := ⟨_, _, _, rfl⟩
        have HR := hT.release ha
        clear ha hT
        go_wp2_with fail
        refine HR.out.mono ?_
        rintro e w3 ⟨rfl, hK3, HQ⟩
        have d3 := cell_kept hK3 HC0.out
        clear d0 d1 HR
        go_wp2_with fail
        refine HQ.out.mono ?_
        rintro e w4 ⟨rfl, hT4⟩
        clear d3 hK3 HQ
        have q1 : w4.cell? ⟨qb, 1, none⟩ = some (.int .i64 (now' : Int)) := cell_of hT4.isQ.obj 1
        have q2 : w4.cell? ⟨qb, 2, none⟩ = some (.int .i64 (most' : Int)) := cell_of hT4.isQ.obj 2
        go_wp2_with fail
        refine (held_any w.heap.size B now' most' _ hT4.isL).mono ?_
        rintro e w5 ⟨rfl, rfl⟩
        go_wp2_with fail
        go_roundw
        case rel => exact ⟨k + 1, now', most', by omega, by go_num, hT4⟩
        case measure => simp [intOf]; omega
      | false =>
        obtain ⟨r, now', most', ha⟩ : ∃ r now' most', chargeAns B now most n = (r, now', most') := ⟨_, _, _, rfl⟩
        have HR := hT.charge hx ha
        clear ha hT
        go_wp2_with fail
        refine HR.out.mono ?_
        rintro e w3 ⟨rfl, hK3, HQ⟩
        have d3 := cell_kept hK3 HC0.out
        clear d0 d1 HR
        go_wp2_with fail
        refine HQ.out.mono ?_
        rintro e w4 ⟨rfl, hT4⟩
        clear d3 hK3 HQ
        have q1 : w4.cell? ⟨qb, 1, none⟩ = some (.int .i64 (now' : Int)) := cell_of hT4.isQ.obj 1
        have q2 : w4.cell? ⟨qb, 2, none⟩ = some (.int .i64 (most' : Int)) := cell_of hT4.isQ.obj 2
        go_wp2_with fail
        refine (held_any w.heap.size B now' most' _ hT4.isL).mono ?_
        rintro e w5 ⟨rfl, rfl⟩
        go_wp2_with fail
        go_roundw
        case rel => exact ⟨k + 1, now', most', by omega, by go_num, hT4⟩
        case measure => simp [intOf]; omega
    · obtain rfl : k = len := by omega
      have hKw := hT.keep
      clear hT
      go_wp2_with fail
      refine (wakes_any _).mono ?_
      rintro e w3 ⟨rfl, hk3⟩
      go_wp2_with fail
      go_ret
      exact ⟨rfl, hKw.trans' hk3⟩

end Go.Proofs.Ytdmggiemaoejkaa
