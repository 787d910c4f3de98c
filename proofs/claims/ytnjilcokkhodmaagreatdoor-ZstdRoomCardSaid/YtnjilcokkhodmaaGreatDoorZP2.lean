/-
  How many bits a number has, and in how many a count is told: math/bits.Len, isLog, share, valueBits.
  Rows of numbers, cut; which counts make a table: makeTable, and the document's Right.
  A description of counts, as bits.
  Which symbol each state has, as plain numbers; each symbol has as many states as its count says.
  A table's cells as plain numbers; from each symbol every state is come to.
  Great arrays as they are made, and rows of cells.
  A range over places(states, below): the states in the order in which symbols take them.
  The statement 'for k, state := range places(..)': its body is asked for the places alone, in their order.
-/
import Derived.Laws.CopyRow
import Derived.Deep.OwnRows
import Derived.Test.YtnjilcokkhodmaaGreatDoorZP1
namespace Go.Proofs.YtnjilcokkhodmaaGreatDoor
open Go.RowKit Go.Shelf

def lenN (x : Nat) : Nat := if x = 0 then 0 else Nat.log2 x + 1
theorem lenN_pos (x : Nat) (h : x ≠ 0) : 2 ^ (lenN x - 1) ≤ x ∧ x < 2 ^ lenN x ∧ 0 < lenN x := by
 unfold lenN
 rw [if_neg h]
 refine ⟨?_, ?_, by omega⟩
 ·rw [Nat.add_sub_cancel]; exact Nat.log2_self_le h
 ·exact (Nat.log2_lt h).1 (Nat.lt_succ_self _)
theorem lenN_le (x k : Nat) (h : x < 2 ^ k) : lenN x ≤ k := by
 unfold lenN
 split
 ·omega
 ·rename_i h0
  have := (Nat.log2_lt h0 (k := k)).2 h
  omega
theorem lenN_eq (x k : Nat) (h1 : 2 ^ k ≤ x) (h2 : x < 2 ^ (k + 1)) : lenN x = k + 1 := by
 have h0 : x ≠ 0 := by have : 0 < 2 ^ k := Nat.pow_pos (by omega); omega
 unfold lenN
 rw [if_neg h0, (Nat.log2_eq_iff h0).2 ⟨h1, h2⟩]
theorem lenN_shift (x : Nat) (h : 256 ≤ x) : lenN x = 8 + lenN (x / 256) := by
 have h0 : x / 256 ≠ 0 := by omega
 obtain ⟨a, b, c⟩ := lenN_pos (x / 256) h0
 obtain ⟨k, hk⟩ : ∃ k, lenN (x / 256) = k + 1 := ⟨lenN (x / 256) - 1, by omega⟩
 rw [hk] at a b ⊢
 rw [Nat.add_sub_cancel] at a
 rw [lenN_eq x (k + 8) ?_ ?_]
 ·omega
 ·rw [Nat.pow_add]; omega
 ·rw [show k + 8 + 1 = k + 1 + 8 from by omega, Nat.pow_add]; omega

set_option maxRecDepth 100000 in
set_option maxHeartbeats 1000000 in
theorem len64_any (x : Nat) (hx : x < 65536) (w : World) : Calls Tryz.prog 110 #[.int .u64 (x : Int)] w fun e w' => e = .returned (.int .i64 ((lenN x : Nat) : Int)) ∧ w' = w := by
 have g1 : ¬ (4294967296 : Int) ≤ (x : Int) := by omega
 have g2 : ¬ (65536 : Int) ≤ (x : Int) := by omega
 by_cases h : x < 256
 ·have g3 : ¬ (256 : Int) ≤ (x : Int) := by omega
  go_enter Tryz.func110, Tryz.ntmps110
  go_wp2
  go_ret
  refine ⟨congrArg (fun x => Ending.returned (Value.int .i64 x)) ?_, rfl⟩
  clear w g1 g2 hx
  revert g3 h
  revert x
  decide +kernel
 ·have g3 : (256 : Int) ≤ (x : Int) := by omega
  have hs := lenN_shift x (by omega)
  obtain ⟨y, hy⟩ : ∃ y, y = x / 256 := ⟨_, rfl⟩
  have hd : (x : Int) / 2 ^ 8 = (y : Int) := by omega
  have hd' : (x : Int) / 256 = (y : Int) := by omega
  rw [← hy] at hs
  have hy2 : y < 256 := by omega
  have hyI : (y : Int) < 256 := by omega
  generalize lenN x = lx at hs ⊢
  have HS := (show Hid _ from hs)
  have HY := (show Hid _ from hy)
  clear hs hy
  go_enter Tryz.func110, Tryz.ntmps110
  go_wp2
  go_ret
  refine ⟨congrArg (fun x => Ending.returned (Value.int .i64 x)) ?_, rfl⟩
  rw [HS.out]
  clear w g1 g2 g3 hx HS HY hd hd' h x lx
  revert hyI hy2
  revert y
  decide +kernel

set_option maxHeartbeats 400000 in
theorem len_any (x : Nat) (hx : x < 65536) (w : World) : Calls Tryz.prog 92 #[.int .u64 (x : Int)] w fun e w' => e = .returned (.int .i64 ((lenN x : Nat) : Int)) ∧ w' = w := by
 go_enter Tryz.func92, Tryz.ntmps92
 go_wp2_with (go_at_call 110; refine (len64_any x hx _).mono ?_; rintro e w' ⟨rfl, rfl⟩)
 go_ret
 exact ⟨rfl, rfl⟩
theorem len_i (x : Nat) (xi : Int) (hi : xi = (x : Int)) (hx : x < 65536) (w : World) : Calls Tryz.prog 92 #[.int .u64 xi] w fun e w' => e = .returned (.int .i64 ((lenN x : Nat) : Int)) ∧ w' = w := by
 subst hi; exact len_any x hx w

set_option maxHeartbeats 400000 in
theorem isLog_any (n : Int) (w : World) : Calls Tryz.prog 112 #[.int .i64 n] w fun e w' => e = .returned (.bool (decide (5 ≤ n ∧ n ≤ 12))) ∧ w' = w := by
 by_cases h1 : 5 ≤ n
 ·by_cases h2 : n ≤ 12
  ·rw [decide_eq_true ⟨h1, h2⟩]
   go_enter Tryz.func112, Tryz.ntmps112
   go_wp2
   go_ret
   exact ⟨rfl, rfl⟩
  ·rw [decide_eq_false (fun h => h2 h.2)]
   go_enter Tryz.func112, Tryz.ntmps112
   go_wp2
   go_ret
   exact ⟨rfl, rfl⟩
 ·rw [decide_eq_false (fun h => h1 h.1)]
  go_enter Tryz.func112, Tryz.ntmps112
  go_wp2
  go_ret
  exact ⟨rfl, rfl⟩

def shareN (c : Int) : Int := if c = -1 then 1 else c

set_option maxHeartbeats 400000 in
theorem share_any (c : Int) (h1 : -32768 ≤ c) (h2 : c ≤ 32767) (w : World) : Calls Tryz.prog 128 #[.int .i16 c] w fun e w' => e = .returned (.int .i64 (shareN c)) ∧ w' = w := by
 unfold shareN
 by_cases h : c = -1
 ·subst h
  go_enter Tryz.func128, Tryz.ntmps128
  go_wp2
  go_ret
  exact ⟨rfl, rfl⟩
 ·rw [if_neg h]
  have hb : (c == -1) = false := by simpa using h
  go_enter Tryz.func128, Tryz.ntmps128
  go_wp2
  go_ret
  exact ⟨rfl, rfl⟩

def valM (R : Nat) : Nat := lenN (R + 1)
def valT (R : Nat) : Nat := 2 ^ valM R - 1 - (R + 1)
theorem valM_ge (R : Nat) (h : 1 ≤ R) : 2 ≤ valM R := by
 have := lenN_pos (R + 1) (by omega)
 unfold valM
 rcases Nat.lt_or_ge (lenN (R + 1)) 2 with h' | h'
 ·have : 2 ^ lenN (R + 1) ≤ 2 ^ 1 := Nat.pow_le_pow_right (by omega) (by omega)
  omega
 ·exact h'
theorem valM_le (R : Nat) (h : R ≤ 4096) : valM R ≤ 13 := lenN_le _ _ (by omega)
theorem valT_eq (R : Nat) : valT R + (R + 1) + 1 = 2 ^ valM R := by
 have := lenN_pos (R + 1) (by omega)
 unfold valT valM
 omega
theorem val_half (R : Nat) (h : 1 ≤ R) : 2 ^ (valM R - 1) ≤ R + 1 ∧ 2 ^ valM R = 2 * 2 ^ (valM R - 1) ∧ valT R < 2 ^ (valM R - 1) := by
 have h1 := lenN_pos (R + 1) (by omega)
 have h2 := valM_ge R h
 have h3 := valT_eq R
 have e : 2 ^ valM R = 2 * 2 ^ (valM R - 1) := by rw [Nat.mul_comm, ← Nat.pow_succ, show (valM R - 1).succ = valM R from by omega]
 have h4 := h1.1
 unfold valM at *
 exact ⟨h4, e, by omega⟩

set_option maxHeartbeats 1000000 in
theorem valueBits_any (R : Nat) (hR : R ≤ 4096) (w : World) : Calls Tryz.prog 143 #[.int .i64 (R : Int)] w fun e w' => e = .returned (.tuple #[.int .i64 ((valM R : Nat) : Int), .int .u64 ((valT R : Nat) : Int)]) ∧ ∃ q, w' = w.drewN q := by
 have hM := valM_le R hR
 have hT := valT_eq R
 have hl := len_i (R + 1) ((R : Int) + 1) (by omega) (by omega)
 have e1 : (2 : Int) ^ valM R - 1 - ((R : Int) + 1) = ((valT R : Nat) : Int) := by
  have : ((2 ^ valM R : Nat) : Int) = (2 : Int) ^ valM R := by simp
  omega
 have hp : (2 : Nat) ^ valM R ≤ 2 ^ 13 := Nat.pow_le_pow_right (by omega) hM
 have hpI : (2 : Int) ^ valM R ≤ 8192 := by
  have : ((2 ^ valM R : Nat) : Int) = (2 : Int) ^ valM R := by simp
  omega
 have hp0 : (0 : Int) < (2 : Int) ^ valM R := by
  have : ((2 ^ valM R : Nat) : Int) = (2 : Int) ^ valM R := by simp
  have : 0 < 2 ^ valM R := Nat.pow_pos (by omega)
  omega
 unfold valM at *
 have HL := (show Hid (∀ w, _) from hl)
 have hT2 : valT R ≤ 8192 := by omega
 clear hl hT hp
 generalize lenN (R + 1) = m at *
 generalize valT R = t at *
 go_enter Tryz.func143, Tryz.ntmps143
 go_wp2_with (go_at_call 92; refine (HL.out _).mono ?_; rintro e w' ⟨rfl, rfl⟩)
 go_quiet (fail)
 go_wp2
 go_ret2
 exact ⟨rfl, _, rfl⟩

end Go.Proofs.YtnjilcokkhodmaaGreatDoor

namespace Go.Proofs.YtnjilcokkhodmaaGreatDoor
open Go.RowKit Go.Shelf

theorem addO (g o j : Nat) : (⟨g, o, none⟩ : Addr).add j = ⟨g, o + j, none⟩ := by unfold Addr.add; split <;> simp_all

/-- The slice at a reads as the numbers xs of kind k, which lie in block gb from off on. -/
structure RowI (w : World) (k : IntKind) (a : Option Addr) (cap gb off : Nat) (xs : List Int) : Prop where
 at_ : a = some (⟨gb, off, none⟩ : Addr) ∨ xs = []
 nil : a = none → cap = 0
 cells : ∀ j, j < xs.length → w.cell? ⟨gb, off + j, none⟩ = some (.int k (xs[j]?.getD 0))
 le : xs.length ≤ cap
theorem RowI.block {w : World} {k : IntKind} {a : Option Addr} {cap gb off : Nat} {xs : List Int} (h : RowI w k a cap gb off xs) (hb : xs ≠ []) : gb < w.heap.size :=
 World.block_lt_of_cell? w ⟨gb, off + 0, none⟩ (h.cells 0 (List.length_pos_iff.2 hb))
theorem RowI.keep {w w' : World} {S : Nat → Prop} {k : IntKind} {a : Option Addr} {cap gb off : Nat} {xs : List Int} (h : RowI w k a cap gb off xs) (hk : Keep S w w') (hS : xs ≠ [] → ¬ S gb) : RowI w' k a cap gb off xs :=
 ⟨h.at_, h.nil, fun j hj => by
  have hne : xs ≠ [] := by rintro rfl; simp at hj
  exact (World.cell?_of_block (hk.block gb (h.block hne) (hS hne))).trans (h.cells j hj), h.le⟩
theorem RowI.here {w : World} {k : IntKind} {a : Option Addr} {cap gb off : Nat} {xs : List Int} (h : RowI w k a cap gb off xs) {i : Nat} (hi : i < xs.length) : a = some ⟨gb, off, none⟩ := by
 rcases h.at_ with h | h
 ·exact h
 ·rw [h] at hi; simp at hi

def sliceSem (t : TypeId) (x : Value) (lo hi mx : Option Value) : Sem Value := Instr.slice t x lo hi mx
theorem sliceSem_eq (t : TypeId) (x : Value) (lo hi mx : Option Value) : Instr.slice t x lo hi mx = sliceSem t x lo hi mx := rfl

theorem info42 : (Tryz.prog.info? 131).map (fun i => (i.zero, i.size, i.bytes)) = some (some (.int .i16 0), 1, 2) := by kernel_rfl

theorem run_high {t e : TypeId} {z : Value} {b : Nat} (hu : Tryz.prog.underlying t = some (.slice e)) (hinfo : (Tryz.prog.info? e).map (fun i => (i.zero, i.size, i.bytes)) = some (some z, 1, b)) (a : Option Addr) (len cap k : Nat) (h1 : k ≤ cap) (w : World) :
  (sliceSem t (.slice a len cap) none (some (.int .i64 (k : Int))) none).run Tryz.prog w = .ok (.slice a k cap) w := by
 obtain ⟨i0, hi, hz0, hz1, hz2⟩ := info_parts hinfo
 have e : (if cap = 0 then a else a.map (fun x => x.add 0)) = a := by
  split
  ·rfl
  ·cases a <;> simp [Addr.add]
 simp [sliceSem, Instr.slice, run_underlying hu, Instr.sliceBounds, Instr.sliceBound, asIntOf, h1, sizeOf, typeInfo, hi, e]

def I16 (xs : List Int) : Prop := ∀ i : Nat, -32768 ≤ xs[i]?.getD 0 ∧ xs[i]?.getD 0 ≤ 32767
def sumS (xs : List Int) : Nat → Int
 | 0 => 0
 | n + 1 => sumS xs n + shareN (xs[n]?.getD 0)
def okT (xs : List Int) (log : Int) : Bool :=
 decide (5 ≤ log ∧ log ≤ 12 ∧ xs.length ≠ 0 ∧ xs.length ≤ 256 ∧ xs[xs.length - 1]?.getD 0 ≠ 0 ∧ (∀ i : Nat, i < xs.length → -1 ≤ xs[i]?.getD 0) ∧ sumS xs xs.length = 2 ^ log.toNat)
theorem shareN_le (c : Int) (h1 : -32768 ≤ c) (h2 : c ≤ 32767) : -32768 ≤ shareN c ∧ shareN c ≤ 32767 := by unfold shareN; split <;> omega
theorem sumS_le (xs : List Int) (h : I16 xs) (n : Nat) : -32768 * (n : Int) ≤ sumS xs n ∧ sumS xs n ≤ 32767 * (n : Int) := by
  induction n with
  | zero => simp [sumS]
  | succ n ih =>
    have := shareN_le _ (h n).1 (h n).2
    simp only [sumS]
    omega

section
attribute [local go_sem] sliceSem_eq

theorem pow_log (log : Int) (h1 : 5 ≤ log) (h2 : log ≤ 12) : ∃ l : Nat, log = (l : Int) ∧ 5 ≤ l ∧ l ≤ 12 ∧ (2 : Int) ^ l ≤ 4096 ∧ 32 ≤ (2 : Int) ^ l ∧ (2 : Int) ^ l = ((2 ^ l : Nat) : Int) := by
 obtain ⟨l, rfl⟩ := Int.eq_ofNat_of_zero_le (show 0 ≤ log by omega)
 have h3 : l = 5 ∨ l = 6 ∨ l = 7 ∨ l = 8 ∨ l = 9 ∨ l = 10 ∨ l = 11 ∨ l = 12 := by omega
 refine ⟨l, rfl, by omega, by omega, ?_⟩
 rcases h3 with rfl | rfl | rfl | rfl | rfl | rfl | rfl | rfl <;> decide

set_option maxRecDepth 100000 in
set_option maxHeartbeats 2000000 in
theorem makeTable_any (a : Option Addr) (cap gb off : Nat) (xs : List Int) (log : Int) (w : World) (h : RowI w .i16 a cap gb off xs) (hx : I16 xs) :
  Calls Tryz.prog 117 #[.slice a xs.length cap, .int .i64 log] w fun e w' => e = .returned (.bool (okT xs log)) ∧ w' = w := by
 by_cases hl : 5 ≤ log ∧ log ≤ 12
 ·have hd : decide (5 ≤ log ∧ log ≤ 12) = true := decide_eq_true hl
  have HL := (show Hid (∀ w : World, Calls Tryz.prog 112 #[.int .i64 log] w fun e w' => e = .returned (.bool true) ∧ w' = w) from fun w => by have := isLog_any log w; rwa [hd] at this)
  by_cases h0 : xs.length = 0
  ·have hz : ((xs.length : Int) == 0) = true := by simp [h0]
   have hr : okT xs log = false := decide_eq_false (fun h => h.2.2.1 h0)
   rw [hr]
   clear h
   generalize xs.length = n at *
   go_enter Tryz.func117, Tryz.ntmps117
   go_wp2_with (go_at_call 112; refine (HL.out _).mono ?_; rintro e w' ⟨rfl, rfl⟩)
   go_ret
   exact ⟨rfl, rfl⟩
  ·have hz : ((xs.length : Int) == 0) = false := by rw [beq_eq_false_iff_ne]; omega
   by_cases h256 : xs.length ≤ 256
   ·have hg : ¬ (256 : Int) < (xs.length : Int) := by omega
    obtain ⟨k, hk⟩ : ∃ k, xs.length = k + 1 := ⟨xs.length - 1, by omega⟩
    have hk1 : (xs.length : Int) - 1 = (k : Int) := by omega
    obtain rfl := h.here (i := k) (by omega)
    have hc := h.cells k (by omega)
    obtain ⟨y, hy⟩ : ∃ y, xs[k]?.getD 0 = y := ⟨_, rfl⟩
    rw [hy] at hc
    by_cases hy0 : y = 0
    ·have hr : okT xs log = false := decide_eq_false (fun h => h.2.2.2.2.1 (by rw [hk, Nat.add_sub_cancel, hy]; exact hy0))
     rw [hr]
     subst hy0
     have HK := (show Hid _ from hk)
     have hki : (k : Int) < (xs.length : Int) := by omega
     clear h hk
     generalize xs.length = n at *
     go_enter Tryz.func117, Tryz.ntmps117
     go_wp2_with (go_at_call 112; refine (HL.out _).mono ?_; rintro e w' ⟨rfl, rfl⟩)
     go_ret
     exact ⟨rfl, rfl⟩
    ·have hyb : (y == 0) = false := by simpa using hy0
     obtain ⟨l, rfl, hl1, hl2, hp1, hp2, hpe⟩ := pow_log log hl.1 hl.2
     have HR := (show Hid (RowI w .i16 (some ⟨gb, off, none⟩) cap gb off xs) from h)
     have HY := (show Hid (xs[k]?.getD 0 = y ∧ xs.length = k + 1 ∧ y ≠ 0) from ⟨hy, hk, hy0⟩)
     have hki : (k : Int) < (xs.length : Int) := by omega
     have HX := (show Hid (I16 xs) from hx)
     have HN := (show Hid (∃ n, n = xs.length) from ⟨_, rfl⟩)
     obtain ⟨n, hn⟩ := HN.out
     rw [← hn] at h256 hz hg hk1 hki ⊢
     have HN := (show Hid (n = xs.length) from hn)
     clear h hk hy hn hy0 hx hpe
     go_enter Tryz.func117, Tryz.ntmps117
     go_wp2_with (go_at_call 112; refine (HL.out _).mono ?_; rintro e w' ⟨rfl, rfl⟩)
     go_loop [5, 32] (fun s i => ∃ j : Nat, j ≤ n ∧ i = .int .i64 j ∧ s = .int .i64 (sumS xs j) ∧ Hid (∀ i : Nat, i < j → -1 ≤ xs[i]?.getD 0)) (fun _ i => n - (intOf i).toNat)
     case atStart => exact ⟨0, Nat.zero_le _, rfl, rfl, fun i hi => by omega⟩
     case round =>
      clear hc hk1 hki
      obtain ⟨j, hj, rfl, rfl, HA⟩ := hrel
      have hs := sumS_le xs HX.out j
      by_cases hlt : j < n
      ·have hcj := HR.out.cells j (by have := HN.out; omega)
       have hb := HX.out j
       have HS := (show Hid (sumS xs (j + 1) = sumS xs j + shareN (xs[j]?.getD 0)) from rfl)
       have hAs : -1 ≤ xs[j]?.getD 0 → ∀ i : Nat, i < j + 1 → -1 ≤ xs[i]?.getD 0 := fun h i hi => by
        by_cases e : i = j
        ·subst e; exact h
        ·exact HA.out i (by omega)
       have HAS := (show Hid _ from hAs)
       have HOK := (show Hid (okT xs (l : Int) = true → -1 ≤ xs[j]?.getD 0) from fun h => (of_decide_eq_true h).2.2.2.2.2.1 j (by have := HN.out; omega))
       clear hAs
       generalize xs[j]?.getD 0 = x at *
       have hbs := shareN_le x hb.1 hb.2
       have HSH := (show Hid (∀ w : World, _) from fun w => share_any x hb.1 hb.2 w)
       obtain ⟨b1, b2⟩ := hb
       obtain ⟨b3, b4⟩ := hbs
       obtain ⟨b5, b6⟩ := hs
       have b7 : (j : Int) ≤ 256 := by omega
       generalize shareN x = sx at *
       generalize sumS xs j = sj at *
       by_cases hx1 : x < -1
       ·go_wp2
        go_ret
        refine ⟨?_, rfl⟩
        have : okT xs (l : Int) = false := by
         cases hb : okT xs (l : Int) with
         | false => rfl
         | true => have := HOK.out hb; omega
        rw [this]
        rfl
       ·go_wp2_with (go_at_call 128; refine (HSH.out _).mono ?_; rintro e w' ⟨rfl, rfl⟩)
        go_round
        case rel => exact ⟨j + 1, by omega, by go_num, by rw [HS.out], HAS.out (by omega)⟩
        case measure => simp [intOf]; omega
      ·obtain rfl : j = n := by omega
       have HB := (show Hid (okT xs (l : Int) = (sumS xs j == 2 ^ l)) from by
        have hn := HN.out
        obtain ⟨hy1, hy2, hy3⟩ := HY.out
        rw [Bool.eq_iff_iff]
        unfold okT
        rw [decide_eq_true_iff, beq_iff_eq]
        constructor
        ·intro h; have := h.2.2.2.2.2.2; rw [← hn] at this; simpa using this
        ·intro h
         refine ⟨by omega, by omega, by omega, by omega, ?_, ?_, ?_⟩
         ·rw [hy2, Nat.add_sub_cancel, hy1]; exact hy3
         ·rw [← hn]; exact HA.out
         ·rw [← hn]; simpa using h)
       clear HR HX HY HN HA HL
       obtain ⟨b5, b6⟩ := hs
       generalize sumS xs j = sj at *
       go_wp2
       go_ret
       exact ⟨by rw [HB.out]; rfl, rfl⟩
   ·have hg : (256 : Int) < (xs.length : Int) := by omega
    have hr : okT xs log = false := decide_eq_false (fun h => h256 h.2.2.2.1)
    rw [hr]
    clear h
    generalize xs.length = n at *
    go_enter Tryz.func117, Tryz.ntmps117
    go_wp2_with (go_at_call 112; refine (HL.out _).mono ?_; rintro e w' ⟨rfl, rfl⟩)
    go_ret
    exact ⟨rfl, rfl⟩
 ·have hd : decide (5 ≤ log ∧ log ≤ 12) = false := decide_eq_false hl
  have hr : okT xs log = false := decide_eq_false (fun h => hl ⟨h.1, h.2.1⟩)
  have HL := (show Hid (∀ w : World, Calls Tryz.prog 112 #[.int .i64 log] w fun e w' => e = .returned (.bool false) ∧ w' = w) from fun w => by have := isLog_any log w; rwa [hd] at this)
  rw [hr]
  clear h
  go_enter Tryz.func117, Tryz.ntmps117
  go_wp2_with (go_at_call 112; refine (HL.out _).mono ?_; rintro e w' ⟨rfl, rfl⟩)
  go_ret
  exact ⟨rfl, rfl⟩

end

end Go.Proofs.YtnjilcokkhodmaaGreatDoor

namespace Go.Proofs.YtnjilcokkhodmaaGreatDoor

def tot : List Int → Nat
 | [] => 0
 | c :: cs => (shareN c).toNat + tot cs

/-- Counts that may be left. -/
structure Good (cs : List Int) : Prop where
 low : ∀ c ∈ cs, -1 ≤ c
 last : cs ≠ [] → cs[cs.length - 1]?.getD 0 ≠ 0
 le : tot cs ≤ 4096
theorem shareN_pos (c : Int) (h : -1 ≤ c) : 0 ≤ shareN c := by unfold shareN; split <;> omega
theorem shareN_zero (c : Int) : shareN c = 0 ↔ c = 0 := by unfold shareN; split <;> omega
theorem Good.tail {c : Int} {cs : List Int} (h : Good (c :: cs)) : Good cs := by
 refine ⟨fun x hx => h.low x (List.mem_cons_of_mem _ hx), fun hne => ?_, by have := h.le; simp only [tot] at this; omega⟩
 have := h.last (by simp)
 cases cs with
 | nil => exact absurd rfl hne
 | cons d ds => simpa using this
theorem Good.pos {cs : List Int} (h : Good cs) (hne : cs ≠ []) : 0 < tot cs := by
  induction cs with
  | nil => exact absurd rfl hne
  | cons c cs ih =>
    simp only [tot]
    by_cases hn : cs = []
    · subst hn
      have h1 := h.last (by simp)
      have h2 := h.low c (by simp)
      have h3 := shareN_pos c h2
      have h4 := shareN_zero c
      have : c ≠ 0 := by simpa using h1
      simp only [tot]
      have : shareN c ≠ 0 := fun e => this (h4.1 e)
      omega
    · have := ih h.tail hn; omega

theorem tot_snoc (cs : List Int) (c : Int) : tot (cs ++ [c]) = tot cs + (shareN c).toNat := by
 induction cs with
 | nil => simp [tot]
 | cons d ds ih => simp only [List.cons_append, tot]; omega
theorem sumS_tot (xs : List Int) (h : ∀ i : Nat, i < xs.length → -1 ≤ xs[i]?.getD 0) (n : Nat) (hn : n ≤ xs.length) : sumS xs n = ((tot (xs.take n) : Nat) : Int) := by
  induction n with
  | zero => simp [sumS, tot]
  | succ n ih =>
    have h1 := shareN_pos _ (h n (by omega))
    rw [List.take_succ_eq_append_getElem (by omega), tot_snoc]
    simp only [sumS]
    rw [ih (by omega)]
    rw [List.getElem?_eq_getElem (by omega)] at h1 ⊢
    simp only [Option.getD_some] at h1 ⊢
    omega
theorem okT_good {xs : List Int} {l : Nat} (h : okT xs (l : Int) = true) : Good xs ∧ tot xs = 2 ^ l ∧ xs ≠ [] ∧ xs.length ≤ 256 ∧ 5 ≤ l ∧ l ≤ 12 := by
 obtain ⟨h1, h2, h3, h4, h5, h6, h7⟩ := of_decide_eq_true h
 have hs := sumS_tot xs h6 xs.length (Nat.le_refl _)
 rw [List.take_of_length_le (Nat.le_refl _)] at hs
 have ht : tot xs = 2 ^ l := by
  have e : ((2 ^ l : Nat) : Int) = (2 : Int) ^ l := by simp
  rw [hs, Int.toNat_natCast, ← e] at h7
  omega
 have hp : (2 : Nat) ^ l ≤ 2 ^ 12 := Nat.pow_le_pow_right (by omega) (by omega)
 refine ⟨⟨fun c hc => ?_, fun _ => h5, by omega⟩, ht, fun e => h3 (by rw [e]; rfl), h4, by omega, by omega⟩
 obtain ⟨i, hi, e⟩ := List.getElem_of_mem hc
 have := h6 i hi
 rwa [List.getElem?_eq_getElem hi, Option.getD_some, e] at this

end Go.Proofs.YtnjilcokkhodmaaGreatDoor

namespace Go.Proofs.YtnjilcokkhodmaaGreatDoor

def Turn (S H k x : Nat) : Prop := ∃ j, j < S ∧ x = orb S j ∧ orb S j < H ∧ cntP (below S H) j = k
def Mid (S H k x : Nat) : Prop := ∃ i, 1 ≤ i ∧ i ≤ S ∧ x = orb S i ∧ cntP (below S H) i = k + 1
theorem turn_zero (S H : Nat) (hS : 0 < S) (hH : 0 < H) : Turn S H 0 0 := ⟨0, hS, (orb_zero S).symm, by rw [orb_zero]; exact hH, rfl⟩
theorem Turn.place {S H k x : Nat} (h : Turn S H k x) : place S H k = x := by
 obtain ⟨j, h1, rfl, h2, h3⟩ := h
 exact place_eq S H k j h1 h2 h3
theorem Turn.lt {S H k x : Nat} (h : Turn S H k x) : x < H := by obtain ⟨j, _, rfl, h2, _⟩ := h; exact h2
theorem Turn.next {S H k x : Nat} (h : Turn S H k x) : Mid S H k ((x + stepN S) % S) := by
 obtain ⟨j, h1, rfl, h2, h3⟩ := h
 refine ⟨j + 1, by omega, by omega, (orb_succ S j).symm, ?_⟩
 simp [cntP, below, h2, h3]
theorem Mid.lt {S v H k x : Nat} (ho : Odd S v) (h : Mid S H k x) : x < S := by obtain ⟨i, _, _, rfl, _⟩ := h; exact orb_lt ho i
theorem Mid.next {S H k x : Nat} (hH : 0 < H) (h : Mid S H k x) (hx : H ≤ x) : Mid S H k ((x + stepN S) % S) := by
 obtain ⟨i, h1, h2, rfl, h3⟩ := h
 have : i ≠ S := by rintro rfl; rw [orb_all] at hx; omega
 refine ⟨i + 1, by omega, by omega, (orb_succ S i).symm, ?_⟩
 have h4 : ¬ orb S i < H := by omega
 simp [cntP, below, h4, h3]
theorem Mid.end_ {S v H k x : Nat} (ho : Odd S v) (hH : H ≤ S) (h : Mid S H k x) (hx : x < H) : k + 1 = H ∨ Turn S H (k + 1) x := by
 obtain ⟨i, h1, h2, rfl, h3⟩ := h
 by_cases e : i = S
 ·subst e; rw [below_all ho H hH] at h3; omega
 ·exact .inr ⟨i, by omega, rfl, hx, h3⟩
def meas (S v x : Nat) : Nat := if x = 0 then 0 else S - x * v % S
theorem Mid.meas {S v H k x : Nat} (ho : Odd S v) (hH : 0 < H) (h : Mid S H k x) (hx : H ≤ x) : meas S v ((x + stepN S) % S) < meas S v x := by
 obtain ⟨i, h1, h2, rfl, h3⟩ := h
 have hp := ho.pos
 have hi : i ≠ S := by rintro rfl; rw [orb_all] at hx; omega
 rw [← orb_succ]
 unfold Go.Proofs.YtnjilcokkhodmaaGreatDoor.meas
 rw [if_neg (show ¬ orb S i = 0 by omega), orb_inv ho i, Nat.mod_eq_of_lt (show i < S by omega)]
 split
 ·omega
 ·rename_i h0
  have : i + 1 ≠ S := fun e => h0 (by rw [e]; exact orb_all S)
  rw [orb_inv ho (i + 1), Nat.mod_eq_of_lt (show i + 1 < S by omega)]
  omega

def upd (f : Nat → Option Nat) (i s : Nat) : Nat → Option Nat := fun k => if k = i then some s else f k
def isRare (xs : List Int) (s : Nat) : Bool := decide (xs[s]?.getD 0 = -1)
def nr (xs : List Int) (n : Nat) : Nat := cntP (isRare xs) n
def rareF (xs : List Int) (S : Nat) : Nat → Nat → Option Nat
 | 0 => fun _ => none
 | n + 1 => if xs[n]?.getD 0 = -1 then upd (rareF xs S n) (S - nr xs (n + 1)) n else rareF xs S n
def rowL (xs : List Int) : Nat → List Nat
 | 0 => []
 | n + 1 => rowL xs n ++ List.replicate (xs[n]?.getD 0).toNat n
def rowAt (xs : List Int) (k : Nat) : Nat := (rowL xs xs.length)[k]?.getD 0
def putF (xs : List Int) (S H : Nat) : Nat → Nat → Option Nat
 | 0 => rareF xs S xs.length
 | k + 1 => upd (putF xs S H k) (place S H k) (rowAt xs k)
def symO (xs : List Int) (S : Nat) : Nat → Option Nat := putF xs S (S - nr xs xs.length) (S - nr xs xs.length)
def symF (xs : List Int) (S i : Nat) : Nat := (symO xs S i).getD 0

theorem nr_succ (xs : List Int) (n : Nat) : nr xs (n + 1) = nr xs n + (if xs[n]?.getD 0 = -1 then 1 else 0) := by
 unfold nr
 simp only [cntP, isRare]
 congr 1
 by_cases h : xs[n]?.getD 0 = -1 <;> simp [h]
theorem rowL_len (xs : List Int) (h : ∀ i : Nat, i < xs.length → -1 ≤ xs[i]?.getD 0) (n : Nat) (hn : n ≤ xs.length) : (rowL xs n).length + nr xs n = tot (xs.take n) := by
  induction n with
  | zero => simp [rowL, nr, cntP, tot]
  | succ n ih =>
    have h1 := h n (by omega)
    have h2 := ih (by omega)
    rw [nr_succ, List.take_succ_eq_append_getElem (by omega), tot_snoc]
    simp only [rowL]
    rw [List.length_append, List.length_replicate]
    rw [List.getElem?_eq_getElem (by omega), Option.getD_some] at h1 ⊢
    unfold shareN
    split <;> omega
theorem rowL_grow (xs : List Int) (m n : Nat) (h : m ≤ n) : ∃ T, rowL xs n = rowL xs m ++ T := by
  induction n with
  | zero => obtain rfl : m = 0 := by omega
            exact ⟨[], by simp⟩
  | succ n ih =>
    by_cases e : m = n + 1
    · subst e; exact ⟨[], by simp⟩
    · obtain ⟨T, hT⟩ := ih (by omega)
      exact ⟨T ++ List.replicate (xs[n]?.getD 0).toNat n, by simp only [rowL]; rw [hT, List.append_assoc]⟩
theorem rowL_count (xs : List Int) (s n : Nat) : (rowL xs n).count s = if s < n then (xs[s]?.getD 0).toNat else 0 := by
  induction n with
  | zero => simp [rowL]
  | succ n ih =>
    simp only [rowL]
    rw [List.count_append, ih, List.count_replicate]
    by_cases e : n = s
    · subst e; simp
    · have e2 : (n == s) = false := by simpa using e
      have e3 : (s < n + 1) ↔ (s < n) := by omega
      simp [e2, e3]
theorem count_cntP (L : List Nat) (s : Nat) : cntP (fun k => decide (L[k]?.getD 0 = s)) L.length = L.count s := by
  have key : ∀ n, n ≤ L.length → cntP (fun k => decide (L[k]?.getD 0 = s)) n = (L.take n).count s := by
    intro n
    induction n with
    | zero => intro _; simp [cntP]
    | succ n ih =>
      intro hn
      simp only [cntP]
      have hv : L[n]?.getD 0 = L[n] := by rw [List.getElem?_eq_getElem (by omega)]; rfl
      rw [ih (by omega), List.take_succ_eq_append_getElem (by omega), List.count_append]
      by_cases e : L[n] = s
      · simp [e, hv]
      · simp [e, hv]
  have := key L.length (Nat.le_refl _)
  rwa [List.take_of_length_le (Nat.le_refl _)] at this

def cntS (f : Nat → Option Nat) (S s : Nat) : Nat := cntP (fun i => decide (f i = some s)) S
def cntN (f : Nat → Option Nat) (S : Nat) : Nat := cntP (fun i => decide (f i = none)) S
theorem cntS_upd (f : Nat → Option Nat) (S i s t : Nat) (hi : i < S) (hf : f i = none) : cntS (upd f i s) S t = cntS f S t + if t = s then 1 else 0 := by
 unfold cntS
 by_cases e : t = s
 ·subst e
  rw [if_pos rfl]
  exact cntP_add _ _ S i hi (by simp [hf]) (by simp [upd]) (fun k _ hk => by simp [upd, hk])
 ·rw [if_neg e, Nat.add_zero]
  refine cntP_congr _ _ S (fun k _ => ?_)
  by_cases ek : k = i
  ·subst ek; simp [upd, hf, Ne.symm e]
  ·simp [upd, ek]
theorem cntN_upd (f : Nat → Option Nat) (S i s : Nat) (hi : i < S) (hf : f i = none) : cntN (upd f i s) S + 1 = cntN f S := by
 unfold cntN
 exact (cntP_add _ _ S i hi (by simp [upd]) (by simp [hf]) (fun k _ hk => by simp [upd, hk])).symm

theorem rareF_facts (xs : List Int) (S n : Nat) (h : nr xs n ≤ S) :
    (∀ i, i < S - nr xs n → rareF xs S n i = none) ∧ (∀ i s, rareF xs S n i = some s → s < n ∧ xs[s]?.getD 0 = -1) ∧
    (∀ s, cntS (rareF xs S n) S s = if s < n ∧ xs[s]?.getD 0 = -1 then 1 else 0) ∧ cntN (rareF xs S n) S + nr xs n = S := by
  induction n with
  | zero =>
    refine ⟨fun _ _ => rfl, fun i s h => by simp [rareF] at h, fun s => ?_, ?_⟩
    · rw [if_neg (by omega)]; exact cntP_none _ _ (fun i _ => by simp [rareF])
    · have : cntN (rareF xs S 0) S = S := by
        have h1 : ∀ n, cntP (fun i => decide (rareF xs S 0 i = none)) n = n := by
          intro n
          induction n with
          | zero => rfl
          | succ n ih => simp only [cntP]; rw [ih]; simp [rareF]
        exact h1 S
      rw [this]; rfl
  | succ n ih =>
    have hs := nr_succ xs n
    by_cases hr : xs[n]?.getD 0 = -1
    · rw [if_pos hr] at hs
      obtain ⟨a1, a2, a3, a4⟩ := ih (by omega)
      have e : rareF xs S (n + 1) = upd (rareF xs S n) (S - nr xs (n + 1)) n := by simp only [rareF]; rw [if_pos hr]
      rw [e]
      have hn0 := a1 (S - nr xs (n + 1)) (by omega)
      refine ⟨fun i hi => ?_, fun i s h => ?_, fun s => ?_, ?_⟩
      · simp only [upd]; rw [if_neg (by omega)]; exact a1 i (by omega)
      · simp only [upd] at h
        split at h
        · cases h; exact ⟨by omega, hr⟩
        · have := a2 i s h; exact ⟨by omega, this.2⟩
      · rw [cntS_upd _ S _ n s (by omega) hn0, a3 s]
        by_cases e : s = n
        · subst e; rw [if_neg (by omega), if_pos rfl, if_pos ⟨by omega, hr⟩]
        · rw [if_neg e, Nat.add_zero]
          by_cases h2 : s < n ∧ xs[s]?.getD 0 = -1
          · rw [if_pos h2, if_pos ⟨by omega, h2.2⟩]
          · rw [if_neg h2, if_neg (fun h => h2 ⟨by omega, h.2⟩)]
      · have := cntN_upd (rareF xs S n) S (S - nr xs (n + 1)) n (by omega) hn0
        omega
    · rw [if_neg hr] at hs
      obtain ⟨a1, a2, a3, a4⟩ := ih (by omega)
      have e : rareF xs S (n + 1) = rareF xs S n := by simp only [rareF]; rw [if_neg hr]
      rw [e, hs]
      refine ⟨a1, fun i s h => ⟨by have := a2 i s h; omega, (a2 i s h).2⟩, fun s => ?_, a4⟩
      rw [a3 s]
      by_cases h2 : s < n ∧ xs[s]?.getD 0 = -1
      · rw [if_pos h2, if_pos ⟨by omega, h2.2⟩]
      · rw [if_neg h2, if_neg]
        rintro ⟨h3, h4⟩
        by_cases e : s = n
        · subst e; exact hr h4
        · exact h2 ⟨by omega, h4⟩

theorem putF_facts (xs : List Int) (S v : Nat) (ho : Odd S v) (H : Nat) (hH : H + nr xs xs.length = S) (hrow : (rowL xs xs.length).length = H) (k : Nat) (hk : k ≤ H) :
    (∀ i, i < H → (∀ j, j < k → place S H j ≠ i) → putF xs S H k i = none) ∧ (∀ i s, putF xs S H k i = some s → s < xs.length ∧ xs[s]?.getD 0 ≠ 0) ∧
    (∀ s, cntS (putF xs S H k) S s = (if s < xs.length ∧ xs[s]?.getD 0 = -1 then 1 else 0) + cntP (fun j => decide (rowAt xs j = s)) k) ∧ cntN (putF xs S H k) S + nr xs xs.length + k = S := by
  induction k with
  | zero =>
    obtain ⟨a1, a2, a3, a4⟩ := rareF_facts xs S xs.length (by omega)
    refine ⟨fun i hi _ => a1 i (by omega), fun i s h => ⟨(a2 i s h).1, by rw [(a2 i s h).2]; decide⟩, fun s => ?_, by simp only [putF]; omega⟩
    simp only [putF, cntP]
    rw [a3 s]; rfl
  | succ k ih =>
    obtain ⟨a1, a2, a3, a4⟩ := ih (by omega)
    have hpl := place_lt ho H (by omega) k (by omega)
    have hn0 : putF xs S H k (place S H k) = none := a1 _ hpl (fun j hj e => by
      have := place_inj ho H (by omega) j k (by omega) (by omega) e
      omega)
    simp only [putF]
    refine ⟨fun i hi h => ?_, fun i s h => ?_, fun s => ?_, ?_⟩
    · have hne := h k (by omega)
      simp only [upd]
      rw [if_neg (fun e => hne e.symm)]
      exact a1 i hi (fun j hj => h j (by omega))
    · simp only [upd] at h
      split at h
      · have hmem : rowAt xs k ∈ rowL xs xs.length := by
          unfold rowAt
          rw [List.getElem?_eq_getElem (by omega), Option.getD_some]
          exact List.getElem_mem _
        have hc := rowL_count xs (rowAt xs k) xs.length
        have hpos := List.count_pos_iff.2 hmem
        have e : rowAt xs k = s := by simpa using h
        rw [e] at hc hpos
        split at hc
        · exact ⟨by assumption, fun e0 => by rw [e0] at hc; simp at hc; omega⟩
        · omega
      · exact a2 i s h
    · rw [cntS_upd _ S _ _ s (by omega) hn0, a3 s]
      simp only [cntP]
      by_cases e : rowAt xs k = s
      · rw [if_pos (show s = rowAt xs k from e.symm), if_pos (show decide (rowAt xs k = s) = true from decide_eq_true e)]; omega
      · rw [if_neg (show ¬ s = rowAt xs k from fun h => e h.symm), if_neg (show ¬ decide (rowAt xs k = s) = true from by simpa using e)]; omega
    · have := cntN_upd (putF xs S H k) S (place S H k) (rowAt xs k) (by omega) hn0
      omega

/-- A table's counts, as plain numbers. -/
structure Tab (xs : List Int) (S : Nat) : Prop where
 low : ∀ i : Nat, i < xs.length → -1 ≤ xs[i]?.getD 0
 tot : tot xs = S
 len : xs.length ≤ 256
 ne : xs ≠ []
 log : ∃ l, S = 2 ^ l ∧ 5 ≤ l ∧ l ≤ 12
theorem okT_tab {xs : List Int} {l : Nat} (h : okT xs (l : Int) = true) : Tab xs (2 ^ l) := by
 obtain ⟨h1, h2, h3, h4, h5, h6⟩ := okT_good h
 exact ⟨(of_decide_eq_true h).2.2.2.2.2.1, h2, h4, h3, l, rfl, h5, h6⟩
theorem Tab.row {xs : List Int} {S : Nat} (h : Tab xs S) : (rowL xs xs.length).length + nr xs xs.length = S := by
 have := rowL_len xs h.low xs.length (Nat.le_refl _)
 rw [List.take_of_length_le (Nat.le_refl _), h.tot] at this
 exact this
theorem Tab.sym {xs : List Int} {S : Nat} (h : Tab xs S) : (∀ i, i < S → ∃ s, symO xs S i = some s ∧ s < xs.length ∧ xs[s]?.getD 0 ≠ 0) ∧ ∀ s, s < xs.length → (cntS (symO xs S) S s : Int) = shareN (xs[s]?.getD 0) := by
  obtain ⟨l, rfl, h5, h12⟩ := h.log
  obtain ⟨v, ho⟩ := odd_pow l h5 h12
  have hr := h.row
  obtain ⟨a1, a2, a3, a4⟩ := putF_facts xs (2 ^ l) v ho (2 ^ l - nr xs xs.length) (by omega) (by omega) _ (Nat.le_refl _)
  refine ⟨fun i hi => ?_, fun s hs => ?_⟩
  · have h0 : cntN (symO xs (2 ^ l)) (2 ^ l) = 0 := by unfold symO; omega
    cases e : symO xs (2 ^ l) i with
    | none =>
      have := cntP_lt (fun i => decide (symO xs (2 ^ l) i = none)) i (2 ^ l) hi (by simp [e])
      unfold cntN at h0
      omega
    | some s => exact ⟨s, rfl, a2 i s e⟩
  · have hc := a3 s
    have e1 : cntP (fun j => decide (rowAt xs j = s)) (2 ^ l - nr xs xs.length) = (xs[s]?.getD 0).toNat := by
      have := count_cntP (rowL xs xs.length) s
      rw [rowL_count, if_pos hs] at this
      rw [← this, show (rowL xs xs.length).length = 2 ^ l - nr xs xs.length from by omega]
      rfl
    rw [e1] at hc
    have hlow := h.low s hs
    unfold symO
    unfold shareN
    by_cases e : xs[s]?.getD 0 = -1
    · rw [if_pos ⟨hs, e⟩] at hc; rw [if_pos e, hc, e]; rfl
    · rw [if_neg (fun h => e h.2)] at hc; rw [if_neg e, hc]; omega

end Go.Proofs.YtnjilcokkhodmaaGreatDoor

namespace Go.Proofs.YtnjilcokkhodmaaGreatDoor

def blF (xs : List Int) (S i : Nat) : Nat := cntP (fun j => decide (symF xs S j = symF xs S i)) i
def xF (xs : List Int) (S i : Nat) : Nat := (shareN (xs[symF xs S i]?.getD 0)).toNat + blF xs S i
def bitF (l x : Nat) : Nat := l + 1 - lenN x
def baseF (l x : Nat) : Nat := x * 2 ^ bitF l x - 2 ^ l

theorem Tab.symF {xs : List Int} {S : Nat} (h : Tab xs S) (i : Nat) (hi : i < S) : symO xs S i = some (symF xs S i) ∧ symF xs S i < xs.length ∧ xs[symF xs S i]?.getD 0 ≠ 0 := by
 obtain ⟨s, h1, h2, h3⟩ := h.sym.1 i hi
 have e : Go.Proofs.YtnjilcokkhodmaaGreatDoor.symF xs S i = s := by unfold Go.Proofs.YtnjilcokkhodmaaGreatDoor.symF; rw [h1]; rfl
 rw [e]; exact ⟨h1, h2, h3⟩
theorem Tab.cnt {xs : List Int} {S : Nat} (h : Tab xs S) (s : Nat) (hs : s < xs.length) : (cntP (fun j => decide (Go.Proofs.YtnjilcokkhodmaaGreatDoor.symF xs S j = s)) S : Int) = shareN (xs[s]?.getD 0) := by
 rw [← h.sym.2 s hs]
 congr 1
 refine cntP_congr _ _ S (fun i hi => ?_)
 rw [(h.symF i hi).1]
 simp
theorem shareN_one (c : Int) (h1 : -1 ≤ c) (h2 : c ≠ 0) : 1 ≤ shareN c := by unfold shareN; split <;> omega
theorem Tab.share {xs : List Int} {S : Nat} (h : Tab xs S) (s : Nat) (hs : s < xs.length) (h0 : xs[s]?.getD 0 ≠ 0) : ∃ c : Nat, shareN (xs[s]?.getD 0) = (c : Int) ∧ 1 ≤ c ∧ c ≤ S := by
 have h1 := shareN_one _ (h.low s hs) h0
 have h2 := h.cnt s hs
 have h3 := cntP_le (fun j => decide (Go.Proofs.YtnjilcokkhodmaaGreatDoor.symF xs S j = s)) S
 exact ⟨(shareN (xs[s]?.getD 0)).toNat, by omega, by omega, by omega⟩
theorem Tab.x {xs : List Int} {S : Nat} (h : Tab xs S) (i : Nat) (hi : i < S) : ∃ c : Nat, shareN (xs[Go.Proofs.YtnjilcokkhodmaaGreatDoor.symF xs S i]?.getD 0) = (c : Int) ∧ 1 ≤ c ∧ c ≤ S ∧ blF xs S i < c ∧ xF xs S i = c + blF xs S i := by
 obtain ⟨h1, h2, h3⟩ := h.symF i hi
 obtain ⟨c, e, c1, c2⟩ := h.share _ h2 h3
 have h4 := h.cnt _ h2
 have h5 := cntP_lt (fun j => decide (Go.Proofs.YtnjilcokkhodmaaGreatDoor.symF xs S j = Go.Proofs.YtnjilcokkhodmaaGreatDoor.symF xs S i)) i S hi (by simp)
 refine ⟨c, e, c1, c2, ?_, by unfold xF; rw [e]; omega⟩
 unfold blF
 omega
theorem cell_fits (l x : Nat) (h0 : x ≠ 0) (h1 : x < 2 ^ (l + 1)) : bitF l x ≤ l ∧ 2 ^ l ≤ x * 2 ^ bitF l x ∧ x * 2 ^ bitF l x < 2 ^ (l + 1) ∧ 1 ≤ lenN x ∧ lenN x ≤ l + 1 := by
 obtain ⟨a, b, c⟩ := lenN_pos x h0
 have d := lenN_le x (l + 1) h1
 have e : bitF l x + lenN x = l + 1 := by unfold bitF; omega
 have e1 : 2 ^ (bitF l x) * 2 ^ (lenN x) = 2 ^ (l + 1) := by rw [← Nat.pow_add, e]
 have e2 : 2 ^ (bitF l x) * 2 ^ (lenN x - 1) = 2 ^ l := by rw [← Nat.pow_add]; congr 1; omega
 refine ⟨by omega, ?_, ?_, c, d⟩
 ·rw [← e2, Nat.mul_comm]; exact Nat.mul_le_mul_right _ a
 ·rw [← e1, Nat.mul_comm]; exact Nat.mul_lt_mul_of_pos_left b (Nat.pow_pos (by omega))
theorem Tab.cell {xs : List Int} {l : Nat} (h : Tab xs (2 ^ l)) (i : Nat) (hi : i < 2 ^ l) : xF xs (2 ^ l) i ≠ 0 ∧ xF xs (2 ^ l) i < 2 ^ (l + 1) ∧ bitF l (xF xs (2 ^ l) i) ≤ l ∧ baseF l (xF xs (2 ^ l) i) < 2 ^ l ∧ baseF l (xF xs (2 ^ l) i) + 2 ^ bitF l (xF xs (2 ^ l) i) ≤ 2 ^ l ∧ 1 ≤ lenN (xF xs (2 ^ l) i) ∧ lenN (xF xs (2 ^ l) i) ≤ l + 1 ∧ 2 ^ l ≤ xF xs (2 ^ l) i * 2 ^ bitF l (xF xs (2 ^ l) i) := by
 obtain ⟨c, e, c1, c2, c3, c4⟩ := h.x i hi
 have hp : 2 ^ (l + 1) = 2 * 2 ^ l := by rw [Nat.pow_succ]; omega
 have h1 : xF xs (2 ^ l) i ≠ 0 := by omega
 have h2 : xF xs (2 ^ l) i < 2 ^ (l + 1) := by omega
 obtain ⟨d1, d2, d3, d4, d5⟩ := cell_fits l _ h1 h2
 refine ⟨h1, h2, d1, by unfold baseF; omega, ?_, d4, d5, d2⟩
 have ep : 2 ^ (l + 1) = 2 ^ (l + 1 - bitF l (xF xs (2 ^ l) i)) * 2 ^ bitF l (xF xs (2 ^ l) i) := by rw [← Nat.pow_add]; congr 1; omega
 have h3 : xF xs (2 ^ l) i < 2 ^ (l + 1 - bitF l (xF xs (2 ^ l) i)) := by
  have := (lenN_pos _ h1).2.1
  have e2 : l + 1 - bitF l (xF xs (2 ^ l) i) = lenN (xF xs (2 ^ l) i) := by unfold bitF; omega
  rw [e2]; exact this
 have h4 : (xF xs (2 ^ l) i + 1) * 2 ^ bitF l (xF xs (2 ^ l) i) ≤ 2 ^ (l + 1) := by rw [ep]; exact Nat.mul_le_mul_right _ h3
 rw [Nat.succ_mul] at h4
 unfold baseF
 omega

end Go.Proofs.YtnjilcokkhodmaaGreatDoor

namespace Go.Proofs.YtnjilcokkhodmaaGreatDoor
open Go.RowKit Go.Shelf

def zeros71 : Array Value := (List.replicate 4096 [Value.int .u8 0, Value.int .u8 0, Value.int .u16 0]).flatten.toArray
def zeros103 : Array Value := (List.replicate 4096 (Value.int .u8 0)).toArray
def zeros107 : Array Value := (List.replicate 256 (Value.int .i64 0)).toArray
def zeros112 : Array Value := (List.replicate 256 (Value.int .i16 0)).toArray
theorem zero107 : Tryz.zeroCells250 = zeros107 := by kernel_rfl
theorem zero112 : Tryz.zeroCells242 = zeros112 := by kernel_rfl

def isZ (k : IntKind) : Value → Bool
 | .int k' n => decide (k' = k) && n == 0
 | _ => false
theorem isZ_eq {k : IntKind} {v : Value} (h : isZ k v = true) : v = .int k 0 := by
  cases v with
  | int k' n =>
    simp only [isZ, Bool.and_eq_true, decide_eq_true_eq, beq_iff_eq] at h
    rw [h.1, h.2]
  | _ => simp [isZ] at h
def ok1 : Nat → List Value → Bool
 | 0, [] => true
 | n + 1, a :: r => isZ .u8 a && ok1 n r
 | _, _ => false
def ok3 : Nat → List Value → Bool
 | 0, [] => true
 | n + 1, a :: b :: c :: r => isZ .u8 a && (isZ .u8 b && (isZ .u16 c && ok3 n r))
 | _, _ => false
theorem ok1_eq : ∀ (n : Nat) (l : List Value), ok1 n l = true → l = List.replicate n (.int .u8 0)
  | 0, [], _ => rfl
  | 0, _ :: _, h => by simp [ok1] at h
  | n + 1, [], h => by simp [ok1] at h
  | n + 1, a :: r, h => by
    simp only [ok1, Bool.and_eq_true] at h
    rw [isZ_eq h.1, ok1_eq n r h.2, List.replicate_succ]
theorem ok3_eq : ∀ (n : Nat) (l : List Value), ok3 n l = true → l = (List.replicate n [Value.int .u8 0, Value.int .u8 0, Value.int .u16 0]).flatten
  | 0, [], _ => rfl
  | 0, _ :: _, h => by simp [ok3] at h
  | n + 1, [], h => by simp [ok3] at h
  | n + 1, [_], h => by simp [ok3] at h
  | n + 1, [_, _], h => by simp [ok3] at h
  | n + 1, a :: b :: c :: r, h => by
    simp only [ok3, Bool.and_eq_true] at h
    rw [isZ_eq h.1, isZ_eq h.2.1, isZ_eq h.2.2.1, ok3_eq n r h.2.2.2, List.replicate_succ, List.flatten_cons]
    rfl
theorem chk103 : ok1 4096 Tryz.zeroCells246.toList = true := by kernel_rfl
theorem chk71 : ok3 4096 Tryz.zeroCells215.toList = true := by kernel_rfl
theorem zero103 : Tryz.zeroCells246 = zeros103 := by
 apply Array.ext'
 unfold zeros103
 rw [List.toList_toArray]
 exact ok1_eq _ _ chk103
theorem zero71 : Tryz.zeroCells215 = zeros71 := by
 apply Array.ext'
 unfold zeros71
 rw [List.toList_toArray]
 exact ok3_eq _ _ chk71

end Go.Proofs.YtnjilcokkhodmaaGreatDoor

namespace Go.Proofs.YtnjilcokkhodmaaGreatDoor
open Go.RowKit Go.Shelf

attribute [local go_sem] Oper.semAt_some

set_option maxHeartbeats 1000000 in
theorem places_in (F : Fence) (n : Nat) (h61 : F.fn 138) (hro : F.round = none) (s h : Int) (w : World) :
  CallsIn F n Tryz.prog 138 #[.int .i64 s, .int .i64 h] w fun e w' => e = .returned (.func (.func 147) #[] #[.pointer (some ⟨w.heap.size, 0, none⟩), .pointer (some ⟨w.heap.size + 1, 0, none⟩)]) ∧ w' = (w.alloc (.cells #[.int .i64 s] 3)).alloc (.cells #[.int .i64 h] 3) := by
 refine callsIn_of_wp Tryz.func138 rfl h61 ?_ hro
 simp only [Tryz.ntmps138, List.size_toArray, List.length_cons, List.length_nil, Nat.reduceAdd, Nat.reduceSub, Array.replicate_succ, Array.replicate_zero, List.push_toArray, List.append_toArray, List.nil_append, List.cons_append]
 gi_wp2
 go_ret
 exact ⟨rfl, rfl⟩

def PBox (Bs Bh S H : Nat) (W : World) : Prop := W.heap[Bs]? = some (.cells #[.int .i64 (S : Int)] 3 (0, 0)) ∧ W.heap[Bh]? = some (.cells #[.int .i64 (H : Int)] 3 (0, 0))
def placeV (S H k : Nat) : Array Value := #[.int .i64 (k : Int), .int .i64 ((place S H k : Nat) : Int)]

set_option maxRecDepth 100000 in
set_option maxHeartbeats 4000000 in
theorem places1_in (F : Fence) (n : Nat) (h71 : F.fn 147) (hro : F.round = none) (hn : 1 ≤ n) (l Bs Bh S H v : Nat) (ho : Odd S v) (hS : S ≤ 4096) (hH : H ≤ S) (J : Nat → World → Prop) (Jx : World → Prop)
  (hB : ∀ k W, J k W → PBox Bs Bh S H W)
  (hY : ∀ k W, k < H → J k W → YieldAt F (n - 1) Tryz.prog l (placeV S H k) W fun e W' => (e = .returned (.bool true) ∧ J (k + 1) W') ∨ (e = .returned (.bool false) ∧ Jx W')) (W : World) (h0 : J 0 W) :
  CallsIn F n Tryz.prog 147 #[.func (.yield l) #[] #[], .pointer (some ⟨Bs, 0, none⟩), .pointer (some ⟨Bh, 0, none⟩)] W fun e W' => (∃ v, e = .returned v) ∧ (J H W' ∨ Jx W') := by
 obtain ⟨b1, b2⟩ := hB 0 W h0
 have c1 : W.cell? ⟨Bs, 0, none⟩ = some (.int .i64 (S : Int)) := cell_of b1 0
 have c2 : W.cell? ⟨Bh, 0, none⟩ = some (.int .i64 (H : Int)) := cell_of b2 0
 obtain ⟨P, hP⟩ : ∃ P, P = stepN S := ⟨_, rfl⟩
 have hPI : (S : Int) / 2 + (S : Int) / 8 + 3 = (P : Int) := by rw [hP]; unfold stepN; omega
 have hPb : (P : Int) ≤ 4096 := by rw [hP]; unfold stepN; omega
 have HP := (show Hid (P = stepN S) from hP)
 have HY := (show Hid (∀ k W, k < H → J k W → _) from hY)
 have HB := (show Hid (∀ k W, J k W → PBox Bs Bh S H W) from hB)
 have hSI : (S : Int) ≤ 4096 := by omega
 have hHI : (H : Int) ≤ (S : Int) := by omega
 have hSp : 0 < (S : Int) := by have := ho.pos; omega
 have HO := (show Hid (Odd S v) from ho)
 clear hY hB b1 b2 hP ho
 refine callsIn_of_wp Tryz.func147 rfl h71 ?_ hro
 simp only [Tryz.ntmps147, List.size_toArray, List.length_cons, List.length_nil, Nat.reduceAdd, Nat.reduceSub, Array.replicate_succ, Array.replicate_zero, List.push_toArray, List.append_toArray, List.nil_append, List.cons_append]
 gi_wp2
 clear c1 c2
 gi_loopw [5, 14] (fun vs vi wr => ∃ (k x : Nat), vi = .int .i64 (k : Int) ∧ vs = .int .i64 (x : Int) ∧ k ≤ H ∧ Hid (k < H → Turn S H k x) ∧ J k wr) (fun _ vi _ => H - (intOf vi).toNat)
 case atStart => exact ⟨0, 0, rfl, rfl, Nat.zero_le _, fun h => turn_zero S H (by omega) h, h0⟩
 case round =>
  clear h0 hPI
  obtain ⟨k, x, rfl, rfl, hk, HT, hJ⟩ := hrel
  by_cases hlt : k < H
  ·have hT := HT.out hlt
   obtain ⟨fn, tmps, assign, body, hy, hR⟩ := HY.out k wr hlt hJ
   unfold placeV at hy
   rw [hT.place] at hy
   have hxS : x < H := hT.lt
   have hltI : (k : Int) < (H : Int) := by omega
   clear hJ
   gi_wp2
   refine hR.mono ?_
   rintro e W3 (⟨rfl, hJ3⟩ | ⟨rfl, hJx3⟩)
   ·obtain ⟨b1, b2⟩ := HB.out _ _ hJ3
    have c1 : W3.cell? ⟨Bs, 0, none⟩ = some (.int .i64 (S : Int)) := cell_of b1 0
    have c2 : W3.cell? ⟨Bh, 0, none⟩ = some (.int .i64 (H : Int)) := cell_of b2 0
    obtain ⟨y, hy2⟩ : ∃ y, y = (x + P) % S := ⟨_, rfl⟩
    have hyI : ((x : Int) + (P : Int)) % (S : Int) = (y : Int) := by rw [hy2]; simp
    have HYI := (show Hid (((x : Int) + (P : Int)) % (S : Int) = (y : Int)) from hyI)
    have HM := (show Hid (Mid S H k y) from by rw [hy2, HP.out]; exact hT.next)
    have hSne : (S : Int) ≠ 0 := by omega
    have hSnb : ((S : Int) == 0) = false := by simpa using hSne
    have HJ3 := (show Hid (J (k + 1) W3) from hJ3)
    clear hT hy2 hJ3 b1 b2 hR hy hyI
    gi_wp2_with fail
    gi_loop [5] (fun vs => ∃ z : Nat, vs = .int .i64 (z : Int) ∧ Hid (Mid S H k z)) (fun vs => meas S v (intOf vs).toNat)
    case atStart => exact ⟨y, by rw [HYI.out], HM⟩
    case round =>
     clear HM
     obtain ⟨z, rfl, HM⟩ := hrel
     have hzS : (z : Int) < (S : Int) := by have := HM.out.lt HO.out; omega
     by_cases hz : H ≤ z
     ·have hzI : (H : Int) ≤ (z : Int) := by omega
      obtain ⟨y2, hy2⟩ : ∃ y, y = (z + P) % S := ⟨_, rfl⟩
      have hyI : ((z : Int) + (P : Int)) % (S : Int) = (y2 : Int) := by rw [hy2]; simp
      have HYI := (show Hid (((z : Int) + (P : Int)) % (S : Int) = (y2 : Int)) from hyI)
      have HM2 := (show Hid (Mid S H k y2 ∧ meas S v y2 < meas S v z) from by rw [hy2, HP.out]; exact ⟨HM.out.next (by omega) hz, HM.out.meas HO.out (by omega) hz⟩)
      clear hy2 hyI
      gi_wp2_with fail
      go_round
      case rel => exact ⟨y2, by rw [HYI.out], HM2.out.1⟩
      case measure => have h := HYI.out; simp only [intOf]; simp; rw [h]; simpa using HM2.out.2
     ·have hzI : ¬ (H : Int) ≤ (z : Int) := by omega
      gi_wp2_with fail
      go_roundw
      case rel => exact ⟨k + 1, z, by go_num, rfl, by omega, fun h => (HM.out.end_ HO.out hH (by omega)).resolve_left (by omega), HJ3.out⟩
      case measure => simp [intOf]; omega
   ·gi_wp2
    refine bodyPost_ret (results_none rfl _ _ _) rfl ?_
    exact ⟨⟨_, rfl⟩, .inr hJx3⟩
  ·obtain rfl : k = H := by omega
   gi_wp2
   go_end0
   exact ⟨⟨_, rfl⟩, .inl hJ⟩

end Go.Proofs.YtnjilcokkhodmaaGreatDoor

namespace Go.Proofs.YtnjilcokkhodmaaGreatDoor
open Go.RowKit Go.Shelf

def goesOn (B : Nat) (J : World → Prop) (X : Code → World → Prop) (W : World) : Exit → Act → World → Prop
 | .normal, _, V => KeepsFrom B W V ∧ J V
 | .ret, _, V => KeepsFrom B W V ∧ X .ret V
 | .exit i, _, V => KeepsFrom B W V ∧ X (.exit i) V
 | _, _, _ => False

theorem range_places {n : Nat} {g : Operand} {ps : Array Tmp} {assign body : Code} {Q : Exit → Act → World → Prop} {a : Act} {w : World} (hn : 3 ≤ n) (Bs Bh S H v : Nat) (ho : Odd S v) (hS : S ≤ 4096) (hH : H ≤ S)
    (hg : a.eval g = .func (.func 147) #[] #[.pointer (some ⟨Bs, 0, none⟩), .pointer (some ⟨Bh, 0, none⟩)]) (hps : ps.size = 2)
    (I : Nat → World → Prop) (X : Code → World → Prop) (A : Nat → Act → World → Prop) (hI : OwnFrom w.heap.size I) (hX : OwnFrom w.heap.size X) (hA : ∀ k a', OwnFrom w.heap.size (fun (_ : Unit) V => A k a' V)) (h0 : I 0 w) (hIB : ∀ k V, I k V → PBox Bs Bh S H V)
    (hassign : ∀ k V (K : Act → World → Prop), k < H → I k V → (∀ a' V', KeepsFrom w.heap.size V V' → I k V' → A k a' V' → K a' V') →
      assign.wpIn (Fence.wide.inRound (w.heap.size + 1)) (n - 1 - 1) Tryz.prog (Exit.then K (fun _ _ _ => False)) { tmps := (ps.zip (placeV S H k)).foldl (fun t (p, v) => t.setIfInBounds p v) a.tmps, defers := [] } V)
    (hbody : ∀ k a' V, k < H → I k V → A k a' V → body.wpIn (Fence.wide.inRound (w.heap.size + 1)) (n - 1 - 1) Tryz.prog (goesOn w.heap.size (I (k + 1)) X V) a' V)
    (hdone : ∀ V, I H V → V.heap[w.heap.size]? = some (.deferred (some [])) → Q .normal { a with defers := { target := .collected w.heap.size, args := #[] } :: a.defers } V)
    (hstop : ∀ j V, X j V → V.heap[w.heap.size]? = some (.deferred (some [])) → j.wpIn Fence.wide n Tryz.prog Q { a with defers := { target := .collected w.heap.size, args := #[] } :: a.defers } V) :
    (Code.rangeFunc g ps assign body).wpIn Fence.wide n Tryz.prog Q a w := by
  refine wpIn_rangeFunc fun fn hfn => ?_
  -- the loop's record
  obtain ⟨mk, hmk⟩ : ∃ mk : LoopState → Option Code → Obj, mk = fun st pe => .loop { state := st, pending := pe, fn, tmps := a.tmps, params := ps, assign, body, defers := w.heap.size } := ⟨_, rfl⟩
  have mkc : ∀ st pe, (mk st pe).isCells = false := fun st pe => by rw [hmk]; rfl
  obtain ⟨V1, hV1⟩ : ∃ V1, V1 = (w.alloc (.deferred (some []))).alloc (mk .ready none) := ⟨_, rfl⟩
  have hsz : (w.alloc (.deferred (some []))).heap.size = w.heap.size + 1 := World.size_alloc _ _
  have hrec : V1.heap[w.heap.size + 1]? = some (mk .ready none) := by rw [hV1, ← hsz]; exact World.alloc_heap_new _ _
  have hdef : V1.heap[w.heap.size]? = some (.deferred (some [])) := by rw [hV1]; exact alloc_far (World.alloc_heap_new w _) _
  have hI1 : I 0 V1 := by rw [hV1]; exact hI.alloc _ (hI.alloc _ h0)
  refine ⟨w.heap.size + 1, [{ target := .collected w.heap.size, args := #[] }], V1, { target := .fn (.func 147) #[.pointer (some ⟨Bs, 0, none⟩), .pointer (some ⟨Bh, 0, none⟩)], args := #[.func (.yield (w.heap.size + 1)) #[] #[]] }, V1, 147,
    #[.func (.yield (w.heap.size + 1)) #[] #[], .pointer (some ⟨Bs, 0, none⟩), .pointer (some ⟨Bh, 0, none⟩)], V1, ?_, ?_, fun _ _ => trivial, ?_, fun _ => by omega, ?_⟩
  · rw [hV1, hmk]; exact run_enterLoop_outer _ _ _ _ _
  · simp only [resolve, hg]
    simp [go_sem]
  · simp [invoke, go_sem]
  · refine (places1_in Fence.wide (n - 1) trivial rfl (by omega) (w.heap.size + 1) Bs Bh S H v ho hS hH
      (fun k V => I k V ∧ V.heap[w.heap.size + 1]? = some (mk .ready none) ∧ V.heap[w.heap.size]? = some (.deferred (some [])))
      (fun V => ∃ j, X j V ∧ V.heap[w.heap.size + 1]? = some (mk .done (some j)) ∧ V.heap[w.heap.size]? = some (.deferred (some [])))
      (fun k V h => hIB k V h.1) ?_ V1 ⟨hI1, hrec, hdef⟩).mono ?_
    · rintro k V hk ⟨hi, hl, hd⟩
      have hy := run_yield (P := Tryz.prog) (args := placeV S H k) (by rw [hmk] at hl; exact hl) (by simp [hps, placeV])
      refine ⟨fn, _, assign, body, hy, roundIn_of_wpIn hfn (hassign k V _ hk hi fun a' V2 hkf hi2 hax => ?_)⟩
      have hl2 := hkf.same _ _ (Nat.le_succ _) hl (mkc _ _)
      have hd2 := hkf.same _ _ (Nat.le_refl _) hd rfl
      have hlt : w.heap.size + 1 < V2.heap.size := obj_lt hl2
      have hbr := run_beginRound (P := Tryz.prog) (by rw [hmk] at hl2; exact hl2) rfl
      refine ⟨_, hbr, ?_⟩
      obtain ⟨V3, hV3⟩ : ∃ V3, V3 = V2.putObj (w.heap.size + 1) (mk .busy none) := ⟨_, rfl⟩
      have hl3 : V3.heap[w.heap.size + 1]? = some (mk .busy none) := by rw [hV3]; exact World.putObj_heap_same hlt
      have hd3 : V3.heap[w.heap.size]? = some (.deferred (some [])) := by rw [hV3]; exact (World.putObj_heap_other (by omega)).trans hd2
      have hi3 : I k V3 := by rw [hV3]; exact hI.putObj _ hi2 (Nat.le_succ _) hl2 (mkc _ _)
      have hx3 : A k a' V3 := by rw [hV3]; exact (hA k a').putObj (s := ()) _ hax (Nat.le_succ _) hl2 (mkc _ _)
      have hb := hbody k a' V3 hk hi3 hx3
      rw [hV3, hmk] at hb
      refine wpIn_mono hb ?_
      -- however the round ends, the record is turned
      have fin : ∀ (j : Option Code) (V4 : World), KeepsFrom w.heap.size V3 V4 → (Instr.endRound (w.heap.size + 1) j).run Tryz.prog V4 = .ok (.bool j.isNone) (V4.putObj (w.heap.size + 1) (mk (if j.isNone then .ready else .done) j)) ∧
          V4.heap[w.heap.size + 1]? = some (mk .busy none) ∧ (V4.putObj (w.heap.size + 1) (mk (if j.isNone then .ready else .done) j)).heap[w.heap.size + 1]? = some (mk (if j.isNone then .ready else .done) j) ∧
          (V4.putObj (w.heap.size + 1) (mk (if j.isNone then .ready else .done) j)).heap[w.heap.size]? = some (.deferred (some [])) := by
        intro j V4 h4
        have hl4 := h4.same _ _ (Nat.le_succ _) hl3 (mkc _ _)
        have hr := run_endRound (P := Tryz.prog) j (by rw [hmk] at hl4; exact hl4)
        refine ⟨?_, hl4, World.putObj_heap_same (obj_lt hl4), (World.putObj_heap_other (by omega)).trans (h4.same _ _ (Nat.le_refl _) hd3 rfl)⟩
        rw [hmk]; exact hr
      intro e a4 V4 hp
      have hp' : goesOn w.heap.size (I (k + 1)) X V3 e a4 V4 := by rw [hV3, hmk]; exact hp
      clear hp hb
      cases e with
      | normal =>
        obtain ⟨r1, r2, r3, r4⟩ := fin none V4 hp'.1
        exact ⟨_, _, r1, .inl ⟨rfl, hI.putObj _ hp'.2 (Nat.le_succ _) r2 (mkc _ _), r3, r4⟩⟩
      | ret =>
        obtain ⟨r1, r2, r3, r4⟩ := fin (some .ret) V4 hp'.1
        exact ⟨_, _, r1, .inr ⟨rfl, .ret, hX.putObj _ hp'.2 (Nat.le_succ _) r2 (mkc _ _), r3, r4⟩⟩
      | exit i =>
        obtain ⟨r1, r2, r3, r4⟩ := fin (some (.exit i)) V4 hp'.1
        exact ⟨_, _, r1, .inr ⟨rfl, .exit i, hX.putObj _ hp'.2 (Nat.le_succ _) r2 (mkc _ _), r3, r4⟩⟩
      | goto t => exact hp'.elim
      | panic ch => exact hp'.elim
      | outgrown => exact hp'.elim
    · rintro e V ⟨⟨v, rfl⟩, (⟨hi, hl, hd⟩ | ⟨j, hj, hl, hd⟩)⟩
      · have hr := run_endLoop (P := Tryz.prog) (by rw [hmk] at hl; exact hl) (by simp)
        exact ⟨none, _, hr, hdone _ (hI.putObj _ hi (Nat.le_succ _) hl (mkc _ _)) ((World.putObj_heap_other (by omega)).trans hd)⟩
      · have hr := run_endLoop (P := Tryz.prog) (by rw [hmk] at hl; exact hl) (by simp)
        exact ⟨some j, _, hr, hstop j _ (hX.putObj _ hj (Nat.le_succ _) hl (mkc _ _)) ((World.putObj_heap_other (by omega)).trans hd)⟩

end Go.Proofs.YtnjilcokkhodmaaGreatDoor
