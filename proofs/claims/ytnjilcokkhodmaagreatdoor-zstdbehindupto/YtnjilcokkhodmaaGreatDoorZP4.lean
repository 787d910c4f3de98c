/-
  Rows of numbers, cut; which counts make a table: makeTable, and the document's Right.
  A description of counts, as bits.
  Which symbol each state has, as plain numbers; each symbol has as many states as its count says.
  A table's cells as plain numbers; from each symbol every state is come to.
  Great arrays as they are made, and rows of cells.
  A range over places(states, below): the states in the order in which symbols take them.
  The statement 'for k, state := range places(..)': its body is asked for the places alone, in their order.
  A region that draws its order, inside the body of a range over a function: walked as outside of it.
  Arrays of numbers and of cells, as blocks.
  setSymbols: each state is given its symbol.
  The two iterators of package tail, and the calls that make them.
  Write of counts: their description, or ErrCounts.
  Read of a description: one count.
  The statement 'for .. := range g': its body is asked for what the function hands over alone, told by a relation.
  How much shorter words get with one state more, as plain numbers; sums over symbols.
  Weights that make a code, and the words of their bytes: no program is named here.
  setNext: each state is given its Bits and its Base.
  mostGain and leastLoss.
  Read of a description: all counts.
  Read of a description, as Write gives it, whatever stands behind.
  readCount of any bits.
  The statement 'for .. := range g', where the function has a block of its own, which no round touches.
-/
import Derived.Laws.CopyRow
import Derived.Deep.OwnRows
import Derived.Deep.RegionHeld3
import Derived.Sort.QuietIn
import Derived.RangeFuncNested
import Derived.RangeFuncBound
import Derived.RangeFuncCalls
import Derived.RangeFuncLeaves
import Derived.Shelf.Abstract
import Derived.Shelf.RegionOpen
import Derived.WalkKit
import Derived.OwnWalkIn
import Derived.TacticsInMore
import Derived.LoopNIn
import Derived.LoopIn
import Derived.WalkSmall
import Derived.Test.YtnjilcokkhodmaaGreatDoorProg
import Derived.Test.YtnjilcokkhodmaaGreatDoorZP2
import Derived.Test.YtnjilcokkhodmaaGreatDoorZP3
namespace Go.Proofs.YtnjilcokkhodmaaGreatDoor
open Go.RowKit Go.Shelf

theorem addO (g o j : Nat) : (⟨g, o, none⟩ : Addr).add j = ⟨g, o + j, none⟩ := by unfold Addr.add; split <;> simp_all

/-- The slice at a reads as the numbers xs of kind k, which lie in block gb from off on. -/
structure RowI (w : World) (k : IntKind) (a : Option Addr) (cap gb off : Nat) (xs : List Int) : Prop where
 at_ : a = some (⟨gb, off, none⟩ : Addr) ∨ xs = []
 nil : a = none → cap = 0
 cells : ∀ j, j < xs.length → w.cell? ⟨gb, off + j, none⟩ = some (.int k (xs[j]?.getD 0))
 le : xs.length ≤ cap
theorem RowI.block {w : World} {k : IntKind} {a : Option Addr} {cap gb off : Nat} {xs : List Int} (h : RowI w k a cap gb off xs) (hb : xs ≠ []) : gb < w.heap.size :=
 World.block_lt_of_cell? w ⟨gb, off + 0, none⟩ (h.cells 0 (List.length_pos_iff.2 hb))
theorem RowI.keep {w w' : World} {S : Nat → Prop} {k : IntKind} {a : Option Addr} {cap gb off : Nat} {xs : List Int} (h : RowI w k a cap gb off xs) (hk : Keep S w w') (hS : xs ≠ [] → ¬ S gb) : RowI w' k a cap gb off xs :=
 ⟨h.at_, h.nil, fun j hj => by
  have hne : xs ≠ [] := by rintro rfl; simp at hj
  exact (World.cell?_of_block (hk.block gb (h.block hne) (hS hne))).trans (h.cells j hj), h.le⟩
theorem RowI.here {w : World} {k : IntKind} {a : Option Addr} {cap gb off : Nat} {xs : List Int} (h : RowI w k a cap gb off xs) {i : Nat} (hi : i < xs.length) : a = some ⟨gb, off, none⟩ := by
 rcases h.at_ with h | h
 ·exact h
 ·rw [h] at hi; simp at hi

def sliceSem (t : TypeId) (x : Value) (lo hi mx : Option Value) : Sem Value := Instr.slice t x lo hi mx
theorem sliceSem_eq (t : TypeId) (x : Value) (lo hi mx : Option Value) : Instr.slice t x lo hi mx = sliceSem t x lo hi mx := rfl

theorem info42 : (Tryz.prog.info? 131).map (fun i => (i.zero, i.size, i.bytes)) = some (some (.int .i16 0), 1, 2) := by kernel_rfl

theorem run_high {t e : TypeId} {z : Value} {b : Nat} (hu : Tryz.prog.underlying t = some (.slice e)) (hinfo : (Tryz.prog.info? e).map (fun i => (i.zero, i.size, i.bytes)) = some (some z, 1, b)) (a : Option Addr) (len cap k : Nat) (h1 : k ≤ cap) (w : World) :
  (sliceSem t (.slice a len cap) none (some (.int .i64 (k : Int))) none).run Tryz.prog w = .ok (.slice a k cap) w := by
 obtain ⟨i0, hi, hz0, hz1, hz2⟩ := info_parts hinfo
 have e : (if cap = 0 then a else a.map (fun x => x.add 0)) = a := by
  split
  ·rfl
  ·cases a <;> simp [Addr.add]
 simp [sliceSem, Instr.slice, run_underlying hu, Instr.sliceBounds, Instr.sliceBound, asIntOf, h1, sizeOf, typeInfo, hi, e]

def I16 (xs : List Int) : Prop := ∀ i : Nat, -32768 ≤ xs[i]?.getD 0 ∧ xs[i]?.getD 0 ≤ 32767
def sumS (xs : List Int) : Nat → Int
 | 0 => 0
 | n + 1 => sumS xs n + shareN (xs[n]?.getD 0)
def okT (xs : List Int) (log : Int) : Bool :=
 decide (5 ≤ log ∧ log ≤ 12 ∧ xs.length ≠ 0 ∧ xs.length ≤ 256 ∧ xs[xs.length - 1]?.getD 0 ≠ 0 ∧ (∀ i : Nat, i < xs.length → -1 ≤ xs[i]?.getD 0) ∧ sumS xs xs.length = 2 ^ log.toNat)
theorem shareN_le (c : Int) (h1 : -32768 ≤ c) (h2 : c ≤ 32767) : -32768 ≤ shareN c ∧ shareN c ≤ 32767 := by unfold shareN; split <;> omega
theorem sumS_le (xs : List Int) (h : I16 xs) (n : Nat) : -32768 * (n : Int) ≤ sumS xs n ∧ sumS xs n ≤ 32767 * (n : Int) := by
  induction n with
  | zero => simp [sumS]
  | succ n ih =>
    have := shareN_le _ (h n).1 (h n).2
    simp only [sumS]
    omega

section
attribute [local go_sem] sliceSem_eq

theorem pow_log (log : Int) (h1 : 5 ≤ log) (h2 : log ≤ 12) : ∃ l : Nat, log = (l : Int) ∧ 5 ≤ l ∧ l ≤ 12 ∧ (2 : Int) ^ l ≤ 4096 ∧ 32 ≤ (2 : Int) ^ l ∧ (2 : Int) ^ l = ((2 ^ l : Nat) : Int) := by
 obtain ⟨l, rfl⟩ := Int.eq_ofNat_of_zero_le (show 0 ≤ log by omega)
 have h3 : l = 5 ∨ l = 6 ∨ l = 7 ∨ l = 8 ∨ l = 9 ∨ l = 10 ∨ l = 11 ∨ l = 12 := by omega
 refine ⟨l, rfl, by omega, by omega, ?_⟩
 rcases h3 with rfl | rfl | rfl | rfl | rfl | rfl | rfl | rfl <;> decide

set_option maxRecDepth 100000 in
set_option maxHeartbeats 2000000 in
theorem makeTable_any (a : Option Addr) (cap gb off : Nat) (xs : List Int) (log : Int) (w : World) (h : RowI w .i16 a cap gb off xs) (hx : I16 xs) :
  Calls Tryz.prog 117 #[.slice a xs.length cap, .int .i64 log] w fun e w' => e = .returned (.bool (okT xs log)) ∧ w' = w := by
 by_cases hl : 5 ≤ log ∧ log ≤ 12
 ·have hd : decide (5 ≤ log ∧ log ≤ 12) = true := decide_eq_true hl
  have HL := (show Hid (∀ w : World, Calls Tryz.prog 112 #[.int .i64 log] w fun e w' => e = .returned (.bool true) ∧ w' = w) from fun w => by have := isLog_any log w; rwa [hd] at this)
  by_cases h0 : xs.length = 0
  ·have hz : ((xs.length : Int) == 0) = true := by simp [h0]
   have hr : okT xs log = false := decide_eq_false (fun h => h.2.2.1 h0)
   rw [hr]
   clear h
   generalize xs.length = n at *
   go_enter Tryz.func117, Tryz.ntmps117
   go_wp2_with (go_at_call 112; refine (HL.out _).mono ?_; rintro e w' ⟨rfl, rfl⟩)
   go_ret
   exact ⟨rfl, rfl⟩
  ·have hz : ((xs.length : Int) == 0) = false := by rw [beq_eq_false_iff_ne]; omega
   by_cases h256 : xs.length ≤ 256
   ·have hg : ¬ (256 : Int) < (xs.length : Int) := by omega
    obtain ⟨k, hk⟩ : ∃ k, xs.length = k + 1 := ⟨xs.length - 1, by omega⟩
    have hk1 : (xs.length : Int) - 1 = (k : Int) := by omega
    obtain rfl := h.here (i := k) (by omega)
    have hc := h.cells k (by omega)
    obtain ⟨y, hy⟩ : ∃ y, xs[k]?.getD 0 = y := ⟨_, rfl⟩
    rw [hy] at hc
    by_cases hy0 : y = 0
    ·have hr : okT xs log = false := decide_eq_false (fun h => h.2.2.2.2.1 (by rw [hk, Nat.add_sub_cancel, hy]; exact hy0))
     rw [hr]
     subst hy0
     have HK := (show Hid _ from hk)
     have hki : (k : Int) < (xs.length : Int) := by omega
     clear h hk
     generalize xs.length = n at *
     go_enter Tryz.func117, Tryz.ntmps117
     go_wp2_with (go_at_call 112; refine (HL.out _).mono ?_; rintro e w' ⟨rfl, rfl⟩)
     go_ret
     exact ⟨rfl, rfl⟩
    ·have hyb : (y == 0) = false := by simpa using hy0
     obtain ⟨l, rfl, hl1, hl2, hp1, hp2, hpe⟩ := pow_log log hl.1 hl.2
     have HR := (show Hid (RowI w .i16 (some ⟨gb, off, none⟩) cap gb off xs) from h)
     have HY := (show Hid (xs[k]?.getD 0 = y ∧ xs.length = k + 1 ∧ y ≠ 0) from ⟨hy, hk, hy0⟩)
     have hki : (k : Int) < (xs.length : Int) := by omega
     have HX := (show Hid (I16 xs) from hx)
     have HN := (show Hid (∃ n, n = xs.length) from ⟨_, rfl⟩)
     obtain ⟨n, hn⟩ := HN.out
     rw [← hn] at h256 hz hg hk1 hki ⊢
     have HN := (show Hid (n = xs.length) from hn)
     clear h hk hy hn hy0 hx hpe
     go_enter Tryz.func117, Tryz.ntmps117
     go_wp2_with (go_at_call 112; refine (HL.out _).mono ?_; rintro e w' ⟨rfl, rfl⟩)
     go_loop [5, 32] (fun s i => ∃ j : Nat, j ≤ n ∧ i = .int .i64 j ∧ s = .int .i64 (sumS xs j) ∧ Hid (∀ i : Nat, i < j → -1 ≤ xs[i]?.getD 0)) (fun _ i => n - (intOf i).toNat)
     case atStart => exact ⟨0, Nat.zero_le _, rfl, rfl, fun i hi => by omega⟩
     case round =>
      clear hc hk1 hki
      obtain ⟨j, hj, rfl, rfl, HA⟩ := hrel
      have hs := sumS_le xs HX.out j
      by_cases hlt : j < n
      ·have hcj := HR.out.cells j (by have := HN.out; omega)
       have hb := HX.out j
       have HS := (show Hid (sumS xs (j + 1) = sumS xs j + shareN (xs[j]?.getD 0)) from rfl)
       have hAs : -1 ≤ xs[j]?.getD 0 → ∀ i : Nat, i < j + 1 → -1 ≤ xs[i]?.getD 0 := fun h i hi => by
        by_cases e : i = j
        ·subst e; exact h
        ·exact HA.out i (by omega)
       have HAS := (show Hid _ from hAs)
       have HOK := (show Hid (okT xs (l : Int) = true → -1 ≤ xs[j]?.getD 0) from fun h => (of_decide_eq_true h).2.2.2.2.2.1 j (by have := HN.out; omega))
       clear hAs
       generalize xs[j]?.getD 0 = x at *
       have hbs := shareN_le x hb.1 hb.2
       have HSH := (show Hid (∀ w : World, _) from fun w => share_any x hb.1 hb.2 w)
       obtain ⟨b1, b2⟩ := hb
       obtain ⟨b3, b4⟩ := hbs
       obtain ⟨b5, b6⟩ := hs
       have b7 : (j : Int) ≤ 256 := by omega
       generalize shareN x = sx at *
       generalize sumS xs j = sj at *
       by_cases hx1 : x < -1
       ·go_wp2
        go_ret
        refine ⟨?_, rfl⟩
        have : okT xs (l : Int) = false := by
         cases hb : okT xs (l : Int) with
         | false => rfl
         | true => have := HOK.out hb; omega
        rw [this]
        rfl
       ·go_wp2_with (go_at_call 128; refine (HSH.out _).mono ?_; rintro e w' ⟨rfl, rfl⟩)
        go_round
        case rel => exact ⟨j + 1, by omega, by go_num, by rw [HS.out], HAS.out (by omega)⟩
        case measure => simp [intOf]; omega
      ·obtain rfl : j = n := by omega
       have HB := (show Hid (okT xs (l : Int) = (sumS xs j == 2 ^ l)) from by
        have hn := HN.out
        obtain ⟨hy1, hy2, hy3⟩ := HY.out
        rw [Bool.eq_iff_iff]
        unfold okT
        rw [decide_eq_true_iff, beq_iff_eq]
        constructor
        ·intro h; have := h.2.2.2.2.2.2; rw [← hn] at this; simpa using this
        ·intro h
         refine ⟨by omega, by omega, by omega, by omega, ?_, ?_, ?_⟩
         ·rw [hy2, Nat.add_sub_cancel, hy1]; exact hy3
         ·rw [← hn]; exact HA.out
         ·rw [← hn]; simpa using h)
       clear HR HX HY HN HA HL
       obtain ⟨b5, b6⟩ := hs
       generalize sumS xs j = sj at *
       go_wp2
       go_ret
       exact ⟨by rw [HB.out]; rfl, rfl⟩
   ·have hg : (256 : Int) < (xs.length : Int) := by omega
    have hr : okT xs log = false := decide_eq_false (fun h => h256 h.2.2.2.1)
    rw [hr]
    clear h
    generalize xs.length = n at *
    go_enter Tryz.func117, Tryz.ntmps117
    go_wp2_with (go_at_call 112; refine (HL.out _).mono ?_; rintro e w' ⟨rfl, rfl⟩)
    go_ret
    exact ⟨rfl, rfl⟩
 ·have hd : decide (5 ≤ log ∧ log ≤ 12) = false := decide_eq_false hl
  have hr : okT xs log = false := decide_eq_false (fun h => hl ⟨h.1, h.2.1⟩)
  have HL := (show Hid (∀ w : World, Calls Tryz.prog 112 #[.int .i64 log] w fun e w' => e = .returned (.bool false) ∧ w' = w) from fun w => by have := isLog_any log w; rwa [hd] at this)
  rw [hr]
  clear h
  go_enter Tryz.func117, Tryz.ntmps117
  go_wp2_with (go_at_call 112; refine (HL.out _).mono ?_; rintro e w' ⟨rfl, rfl⟩)
  go_ret
  exact ⟨rfl, rfl⟩

end

end Go.Proofs.YtnjilcokkhodmaaGreatDoor

namespace Go.Proofs.YtnjilcokkhodmaaGreatDoor

def tot : List Int → Nat
 | [] => 0
 | c :: cs => (shareN c).toNat + tot cs

/-- Counts that may be left. -/
structure Good (cs : List Int) : Prop where
 low : ∀ c ∈ cs, -1 ≤ c
 last : cs ≠ [] → cs[cs.length - 1]?.getD 0 ≠ 0
 le : tot cs ≤ 4096
theorem shareN_pos (c : Int) (h : -1 ≤ c) : 0 ≤ shareN c := by unfold shareN; split <;> omega
theorem shareN_zero (c : Int) : shareN c = 0 ↔ c = 0 := by unfold shareN; split <;> omega
theorem Good.tail {c : Int} {cs : List Int} (h : Good (c :: cs)) : Good cs := by
 refine ⟨fun x hx => h.low x (List.mem_cons_of_mem _ hx), fun hne => ?_, by have := h.le; simp only [tot] at this; omega⟩
 have := h.last (by simp)
 cases cs with
 | nil => exact absurd rfl hne
 | cons d ds => simpa using this
theorem Good.pos {cs : List Int} (h : Good cs) (hne : cs ≠ []) : 0 < tot cs := by
  induction cs with
  | nil => exact absurd rfl hne
  | cons c cs ih =>
    simp only [tot]
    by_cases hn : cs = []
    · subst hn
      have h1 := h.last (by simp)
      have h2 := h.low c (by simp)
      have h3 := shareN_pos c h2
      have h4 := shareN_zero c
      have : c ≠ 0 := by simpa using h1
      simp only [tot]
      have : shareN c ≠ 0 := fun e => this (h4.1 e)
      omega
    · have := ih h.tail hn; omega

theorem tot_snoc (cs : List Int) (c : Int) : tot (cs ++ [c]) = tot cs + (shareN c).toNat := by
 induction cs with
 | nil => simp [tot]
 | cons d ds ih => simp only [List.cons_append, tot]; omega
theorem sumS_tot (xs : List Int) (h : ∀ i : Nat, i < xs.length → -1 ≤ xs[i]?.getD 0) (n : Nat) (hn : n ≤ xs.length) : sumS xs n = ((tot (xs.take n) : Nat) : Int) := by
  induction n with
  | zero => simp [sumS, tot]
  | succ n ih =>
    have h1 := shareN_pos _ (h n (by omega))
    rw [List.take_succ_eq_append_getElem (by omega), tot_snoc]
    simp only [sumS]
    rw [ih (by omega)]
    rw [List.getElem?_eq_getElem (by omega)] at h1 ⊢
    simp only [Option.getD_some] at h1 ⊢
    omega
theorem okT_good {xs : List Int} {l : Nat} (h : okT xs (l : Int) = true) : Good xs ∧ tot xs = 2 ^ l ∧ xs ≠ [] ∧ xs.length ≤ 256 ∧ 5 ≤ l ∧ l ≤ 12 := by
 obtain ⟨h1, h2, h3, h4, h5, h6, h7⟩ := of_decide_eq_true h
 have hs := sumS_tot xs h6 xs.length (Nat.le_refl _)
 rw [List.take_of_length_le (Nat.le_refl _)] at hs
 have ht : tot xs = 2 ^ l := by
  have e : ((2 ^ l : Nat) : Int) = (2 : Int) ^ l := by simp
  rw [hs, Int.toNat_natCast, ← e] at h7
  omega
 have hp : (2 : Nat) ^ l ≤ 2 ^ 12 := Nat.pow_le_pow_right (by omega) (by omega)
 refine ⟨⟨fun c hc => ?_, fun _ => h5, by omega⟩, ht, fun e => h3 (by rw [e]; rfl), h4, by omega, by omega⟩
 obtain ⟨i, hi, e⟩ := List.getElem_of_mem hc
 have := h6 i hi
 rwa [List.getElem?_eq_getElem hi, Option.getD_some, e] at this

end Go.Proofs.YtnjilcokkhodmaaGreatDoor

namespace Go.Proofs.YtnjilcokkhodmaaGreatDoor

def Turn (S H k x : Nat) : Prop := ∃ j, j < S ∧ x = orb S j ∧ orb S j < H ∧ cntP (below S H) j = k
def Mid (S H k x : Nat) : Prop := ∃ i, 1 ≤ i ∧ i ≤ S ∧ x = orb S i ∧ cntP (below S H) i = k + 1
theorem turn_zero (S H : Nat) (hS : 0 < S) (hH : 0 < H) : Turn S H 0 0 := ⟨0, hS, (orb_zero S).symm, by rw [orb_zero]; exact hH, rfl⟩
theorem Turn.place {S H k x : Nat} (h : Turn S H k x) : place S H k = x := by
 obtain ⟨j, h1, rfl, h2, h3⟩ := h
 exact place_eq S H k j h1 h2 h3
theorem Turn.lt {S H k x : Nat} (h : Turn S H k x) : x < H := by obtain ⟨j, _, rfl, h2, _⟩ := h; exact h2
theorem Turn.next {S H k x : Nat} (h : Turn S H k x) : Mid S H k ((x + stepN S) % S) := by
 obtain ⟨j, h1, rfl, h2, h3⟩ := h
 refine ⟨j + 1, by omega, by omega, (orb_succ S j).symm, ?_⟩
 simp [cntP, below, h2, h3]
theorem Mid.lt {S v H k x : Nat} (ho : Odd S v) (h : Mid S H k x) : x < S := by obtain ⟨i, _, _, rfl, _⟩ := h; exact orb_lt ho i
theorem Mid.next {S H k x : Nat} (hH : 0 < H) (h : Mid S H k x) (hx : H ≤ x) : Mid S H k ((x + stepN S) % S) := by
 obtain ⟨i, h1, h2, rfl, h3⟩ := h
 have : i ≠ S := by rintro rfl; rw [orb_all] at hx; omega
 refine ⟨i + 1, by omega, by omega, (orb_succ S i).symm, ?_⟩
 have h4 : ¬ orb S i < H := by omega
 simp [cntP, below, h4, h3]
theorem Mid.end_ {S v H k x : Nat} (ho : Odd S v) (hH : H ≤ S) (h : Mid S H k x) (hx : x < H) : k + 1 = H ∨ Turn S H (k + 1) x := by
 obtain ⟨i, h1, h2, rfl, h3⟩ := h
 by_cases e : i = S
 ·subst e; rw [below_all ho H hH] at h3; omega
 ·exact .inr ⟨i, by omega, rfl, hx, h3⟩
def meas (S v x : Nat) : Nat := if x = 0 then 0 else S - x * v % S
theorem Mid.meas {S v H k x : Nat} (ho : Odd S v) (hH : 0 < H) (h : Mid S H k x) (hx : H ≤ x) : meas S v ((x + stepN S) % S) < meas S v x := by
 obtain ⟨i, h1, h2, rfl, h3⟩ := h
 have hp := ho.pos
 have hi : i ≠ S := by rintro rfl; rw [orb_all] at hx; omega
 rw [← orb_succ]
 unfold Go.Proofs.YtnjilcokkhodmaaGreatDoor.meas
 rw [if_neg (show ¬ orb S i = 0 by omega), orb_inv ho i, Nat.mod_eq_of_lt (show i < S by omega)]
 split
 ·omega
 ·rename_i h0
  have : i + 1 ≠ S := fun e => h0 (by rw [e]; exact orb_all S)
  rw [orb_inv ho (i + 1), Nat.mod_eq_of_lt (show i + 1 < S by omega)]
  omega

def upd (f : Nat → Option Nat) (i s : Nat) : Nat → Option Nat := fun k => if k = i then some s else f k
def isRare (xs : List Int) (s : Nat) : Bool := decide (xs[s]?.getD 0 = -1)
def nr (xs : List Int) (n : Nat) : Nat := cntP (isRare xs) n
def rareF (xs : List Int) (S : Nat) : Nat → Nat → Option Nat
 | 0 => fun _ => none
 | n + 1 => if xs[n]?.getD 0 = -1 then upd (rareF xs S n) (S - nr xs (n + 1)) n else rareF xs S n
def rowL (xs : List Int) : Nat → List Nat
 | 0 => []
 | n + 1 => rowL xs n ++ List.replicate (xs[n]?.getD 0).toNat n
def rowAt (xs : List Int) (k : Nat) : Nat := (rowL xs xs.length)[k]?.getD 0
def putF (xs : List Int) (S H : Nat) : Nat → Nat → Option Nat
 | 0 => rareF xs S xs.length
 | k + 1 => upd (putF xs S H k) (place S H k) (rowAt xs k)
def symO (xs : List Int) (S : Nat) : Nat → Option Nat := putF xs S (S - nr xs xs.length) (S - nr xs xs.length)
def symF (xs : List Int) (S i : Nat) : Nat := (symO xs S i).getD 0

theorem nr_succ (xs : List Int) (n : Nat) : nr xs (n + 1) = nr xs n + (if xs[n]?.getD 0 = -1 then 1 else 0) := by
 unfold nr
 simp only [cntP, isRare]
 congr 1
 by_cases h : xs[n]?.getD 0 = -1 <;> simp [h]
theorem rowL_len (xs : List Int) (h : ∀ i : Nat, i < xs.length → -1 ≤ xs[i]?.getD 0) (n : Nat) (hn : n ≤ xs.length) : (rowL xs n).length + nr xs n = tot (xs.take n) := by
  induction n with
  | zero => simp [rowL, nr, cntP, tot]
  | succ n ih =>
    have h1 := h n (by omega)
    have h2 := ih (by omega)
    rw [nr_succ, List.take_succ_eq_append_getElem (by omega), tot_snoc]
    simp only [rowL]
    rw [List.length_append, List.length_replicate]
    rw [List.getElem?_eq_getElem (by omega), Option.getD_some] at h1 ⊢
    unfold shareN
    split <;> omega
theorem rowL_grow (xs : List Int) (m n : Nat) (h : m ≤ n) : ∃ T, rowL xs n = rowL xs m ++ T := by
  induction n with
  | zero => obtain rfl : m = 0 := by omega
            exact ⟨[], by simp⟩
  | succ n ih =>
    by_cases e : m = n + 1
    · subst e; exact ⟨[], by simp⟩
    · obtain ⟨T, hT⟩ := ih (by omega)
      exact ⟨T ++ List.replicate (xs[n]?.getD 0).toNat n, by simp only [rowL]; rw [hT, List.append_assoc]⟩
theorem rowL_count (xs : List Int) (s n : Nat) : (rowL xs n).count s = if s < n then (xs[s]?.getD 0).toNat else 0 := by
  induction n with
  | zero => simp [rowL]
  | succ n ih =>
    simp only [rowL]
    rw [List.count_append, ih, List.count_replicate]
    by_cases e : n = s
    · subst e; simp
    · have e2 : (n == s) = false := by simpa using e
      have e3 : (s < n + 1) ↔ (s < n) := by omega
      simp [e2, e3]
theorem count_cntP (L : List Nat) (s : Nat) : cntP (fun k => decide (L[k]?.getD 0 = s)) L.length = L.count s := by
  have key : ∀ n, n ≤ L.length → cntP (fun k => decide (L[k]?.getD 0 = s)) n = (L.take n).count s := by
    intro n
    induction n with
    | zero => intro _; simp [cntP]
    | succ n ih =>
      intro hn
      simp only [cntP]
      have hv : L[n]?.getD 0 = L[n] := by rw [List.getElem?_eq_getElem (by omega)]; rfl
      rw [ih (by omega), List.take_succ_eq_append_getElem (by omega), List.count_append]
      by_cases e : L[n] = s
      · simp [e, hv]
      · simp [e, hv]
  have := key L.length (Nat.le_refl _)
  rwa [List.take_of_length_le (Nat.le_refl _)] at this

def cntS (f : Nat → Option Nat) (S s : Nat) : Nat := cntP (fun i => decide (f i = some s)) S
def cntN (f : Nat → Option Nat) (S : Nat) : Nat := cntP (fun i => decide (f i = none)) S
theorem cntS_upd (f : Nat → Option Nat) (S i s t : Nat) (hi : i < S) (hf : f i = none) : cntS (upd f i s) S t = cntS f S t + if t = s then 1 else 0 := by
 unfold cntS
 by_cases e : t = s
 ·subst e
  rw [if_pos rfl]
  exact cntP_add _ _ S i hi (by simp [hf]) (by simp [upd]) (fun k _ hk => by simp [upd, hk])
 ·rw [if_neg e, Nat.add_zero]
  refine cntP_congr _ _ S (fun k _ => ?_)
  by_cases ek : k = i
  ·subst ek; simp [upd, hf, Ne.symm e]
  ·simp [upd, ek]
theorem cntN_upd (f : Nat → Option Nat) (S i s : Nat) (hi : i < S) (hf : f i = none) : cntN (upd f i s) S + 1 = cntN f S := by
 unfold cntN
 exact (cntP_add _ _ S i hi (by simp [upd]) (by simp [hf]) (fun k _ hk => by simp [upd, hk])).symm

theorem rareF_facts (xs : List Int) (S n : Nat) (h : nr xs n ≤ S) :
    (∀ i, i < S - nr xs n → rareF xs S n i = none) ∧ (∀ i s, rareF xs S n i = some s → s < n ∧ xs[s]?.getD 0 = -1) ∧
    (∀ s, cntS (rareF xs S n) S s = if s < n ∧ xs[s]?.getD 0 = -1 then 1 else 0) ∧ cntN (rareF xs S n) S + nr xs n = S := by
  induction n with
  | zero =>
    refine ⟨fun _ _ => rfl, fun i s h => by simp [rareF] at h, fun s => ?_, ?_⟩
    · rw [if_neg (by omega)]; exact cntP_none _ _ (fun i _ => by simp [rareF])
    · have : cntN (rareF xs S 0) S = S := by
        have h1 : ∀ n, cntP (fun i => decide (rareF xs S 0 i = none)) n = n := by
          intro n
          induction n with
          | zero => rfl
          | succ n ih => simp only [cntP]; rw [ih]; simp [rareF]
        exact h1 S
      rw [this]; rfl
  | succ n ih =>
    have hs := nr_succ xs n
    by_cases hr : xs[n]?.getD 0 = -1
    · rw [if_pos hr] at hs
      obtain ⟨a1, a2, a3, a4⟩ := ih (by omega)
      have e : rareF xs S (n + 1) = upd (rareF xs S n) (S - nr xs (n + 1)) n := by simp only [rareF]; rw [if_pos hr]
      rw [e]
      have hn0 := a1 (S - nr xs (n + 1)) (by omega)
      refine ⟨fun i hi => ?_, fun i s h => ?_, fun s => ?_, ?_⟩
      · simp only [upd]; rw [if_neg (by omega)]; exact a1 i (by omega)
      · simp only [upd] at h
        split at h
        · cases h; exact ⟨by omega, hr⟩
        · have := a2 i s h; exact ⟨by omega, this.2⟩
      · rw [cntS_upd _ S _ n s (by omega) hn0, a3 s]
        by_cases e : s = n
        · subst e; rw [if_neg (by omega), if_pos rfl, if_pos ⟨by omega, hr⟩]
        · rw [if_neg e, Nat.add_zero]
          by_cases h2 : s < n ∧ xs[s]?.getD 0 = -1
          · rw [if_pos h2, if_pos ⟨by omega, h2.2⟩]
          · rw [if_neg h2, if_neg (fun h => h2 ⟨by omega, h.2⟩)]
      · have := cntN_upd (rareF xs S n) S (S - nr xs (n + 1)) n (by omega) hn0
        omega
    · rw [if_neg hr] at hs
      obtain ⟨a1, a2, a3, a4⟩ := ih (by omega)
      have e : rareF xs S (n + 1) = rareF xs S n := by simp only [rareF]; rw [if_neg hr]
      rw [e, hs]
      refine ⟨a1, fun i s h => ⟨by have := a2 i s h; omega, (a2 i s h).2⟩, fun s => ?_, a4⟩
      rw [a3 s]
      by_cases h2 : s < n ∧ xs[s]?.getD 0 = -1
      · rw [if_pos h2, if_pos ⟨by omega, h2.2⟩]
      · rw [if_neg h2, if_neg]
        rintro ⟨h3, h4⟩
        by_cases e : s = n
        · subst e; exact hr h4
        · exact h2 ⟨by omega, h4⟩

theorem putF_facts (xs : List Int) (S v : Nat) (ho : Odd S v) (H : Nat) (hH : H + nr xs xs.length = S) (hrow : (rowL xs xs.length).length = H) (k : Nat) (hk : k ≤ H) :
    (∀ i, i < H → (∀ j, j < k → place S H j ≠ i) → putF xs S H k i = none) ∧ (∀ i s, putF xs S H k i = some s → s < xs.length ∧ xs[s]?.getD 0 ≠ 0) ∧
    (∀ s, cntS (putF xs S H k) S s = (if s < xs.length ∧ xs[s]?.getD 0 = -1 then 1 else 0) + cntP (fun j => decide (rowAt xs j = s)) k) ∧ cntN (putF xs S H k) S + nr xs xs.length + k = S := by
  induction k with
  | zero =>
    obtain ⟨a1, a2, a3, a4⟩ := rareF_facts xs S xs.length (by omega)
    refine ⟨fun i hi _ => a1 i (by omega), fun i s h => ⟨(a2 i s h).1, by rw [(a2 i s h).2]; decide⟩, fun s => ?_, by simp only [putF]; omega⟩
    simp only [putF, cntP]
    rw [a3 s]; rfl
  | succ k ih =>
    obtain ⟨a1, a2, a3, a4⟩ := ih (by omega)
    have hpl := place_lt ho H (by omega) k (by omega)
    have hn0 : putF xs S H k (place S H k) = none := a1 _ hpl (fun j hj e => by
      have := place_inj ho H (by omega) j k (by omega) (by omega) e
      omega)
    simp only [putF]
    refine ⟨fun i hi h => ?_, fun i s h => ?_, fun s => ?_, ?_⟩
    · have hne := h k (by omega)
      simp only [upd]
      rw [if_neg (fun e => hne e.symm)]
      exact a1 i hi (fun j hj => h j (by omega))
    · simp only [upd] at h
      split at h
      · have hmem : rowAt xs k ∈ rowL xs xs.length := by
          unfold rowAt
          rw [List.getElem?_eq_getElem (by omega), Option.getD_some]
          exact List.getElem_mem _
        have hc := rowL_count xs (rowAt xs k) xs.length
        have hpos := List.count_pos_iff.2 hmem
        have e : rowAt xs k = s := by simpa using h
        rw [e] at hc hpos
        split at hc
        · exact ⟨by assumption, fun e0 => by rw [e0] at hc; simp at hc; omega⟩
        · omega
      · exact a2 i s h
    · rw [cntS_upd _ S _ _ s (by omega) hn0, a3 s]
      simp only [cntP]
      by_cases e : rowAt xs k = s
      · rw [if_pos (show s = rowAt xs k from e.symm), if_pos (show decide (rowAt xs k = s) = true from decide_eq_true e)]; omega
      · rw [if_neg (show ¬ s = rowAt xs k from fun h => e h.symm), if_neg (show ¬ decide (rowAt xs k = s) = true from by simpa using e)]; omega
    · have := cntN_upd (putF xs S H k) S (place S H k) (rowAt xs k) (by omega) hn0
      omega

/-- A table's counts, as plain numbers. -/
structure Tab (xs : List Int) (S : Nat) : Prop where
 low : ∀ i : Nat, i < xs.length → -1 ≤ xs[i]?.getD 0
 tot : tot xs = S
 len : xs.length ≤ 256
 ne : xs ≠ []
 log : ∃ l, S = 2 ^ l ∧ 5 ≤ l ∧ l ≤ 12
theorem okT_tab {xs : List Int} {l : Nat} (h : okT xs (l : Int) = true) : Tab xs (2 ^ l) := by
 obtain ⟨h1, h2, h3, h4, h5, h6⟩ := okT_good h
 exact ⟨(of_decide_eq_true h).2.2.2.2.2.1, h2, h4, h3, l, rfl, h5, h6⟩
theorem Tab.row {xs : List Int} {S : Nat} (h : Tab xs S) : (rowL xs xs.length).length + nr xs xs.length = S := by
 have := rowL_len xs h.low xs.length (Nat.le_refl _)
 rw [List.take_of_length_le (Nat.le_refl _), h.tot] at this
 exact this
theorem Tab.sym {xs : List Int} {S : Nat} (h : Tab xs S) : (∀ i, i < S → ∃ s, symO xs S i = some s ∧ s < xs.length ∧ xs[s]?.getD 0 ≠ 0) ∧ ∀ s, s < xs.length → (cntS (symO xs S) S s : Int) = shareN (xs[s]?.getD 0) := by
  obtain ⟨l, rfl, h5, h12⟩ := h.log
  obtain ⟨v, ho⟩ := odd_pow l h5 h12
  have hr := h.row
  obtain ⟨a1, a2, a3, a4⟩ := putF_facts xs (2 ^ l) v ho (2 ^ l - nr xs xs.length) (by omega) (by omega) _ (Nat.le_refl _)
  refine ⟨fun i hi => ?_, fun s hs => ?_⟩
  · have h0 : cntN (symO xs (2 ^ l)) (2 ^ l) = 0 := by unfold symO; omega
    cases e : symO xs (2 ^ l) i with
    | none =>
      have := cntP_lt (fun i => decide (symO xs (2 ^ l) i = none)) i (2 ^ l) hi (by simp [e])
      unfold cntN at h0
      omega
    | some s => exact ⟨s, rfl, a2 i s e⟩
  · have hc := a3 s
    have e1 : cntP (fun j => decide (rowAt xs j = s)) (2 ^ l - nr xs xs.length) = (xs[s]?.getD 0).toNat := by
      have := count_cntP (rowL xs xs.length) s
      rw [rowL_count, if_pos hs] at this
      rw [← this, show (rowL xs xs.length).length = 2 ^ l - nr xs xs.length from by omega]
      rfl
    rw [e1] at hc
    have hlow := h.low s hs
    unfold symO
    unfold shareN
    by_cases e : xs[s]?.getD 0 = -1
    · rw [if_pos ⟨hs, e⟩] at hc; rw [if_pos e, hc, e]; rfl
    · rw [if_neg (fun h => e h.2)] at hc; rw [if_neg e, hc]; omega

end Go.Proofs.YtnjilcokkhodmaaGreatDoor

namespace Go.Proofs.YtnjilcokkhodmaaGreatDoor

def blF (xs : List Int) (S i : Nat) : Nat := cntP (fun j => decide (symF xs S j = symF xs S i)) i
def xF (xs : List Int) (S i : Nat) : Nat := (shareN (xs[symF xs S i]?.getD 0)).toNat + blF xs S i
def bitF (l x : Nat) : Nat := l + 1 - lenN x
def baseF (l x : Nat) : Nat := x * 2 ^ bitF l x - 2 ^ l

theorem Tab.symF {xs : List Int} {S : Nat} (h : Tab xs S) (i : Nat) (hi : i < S) : symO xs S i = some (symF xs S i) ∧ symF xs S i < xs.length ∧ xs[symF xs S i]?.getD 0 ≠ 0 := by
 obtain ⟨s, h1, h2, h3⟩ := h.sym.1 i hi
 have e : Go.Proofs.YtnjilcokkhodmaaGreatDoor.symF xs S i = s := by unfold Go.Proofs.YtnjilcokkhodmaaGreatDoor.symF; rw [h1]; rfl
 rw [e]; exact ⟨h1, h2, h3⟩
theorem Tab.cnt {xs : List Int} {S : Nat} (h : Tab xs S) (s : Nat) (hs : s < xs.length) : (cntP (fun j => decide (Go.Proofs.YtnjilcokkhodmaaGreatDoor.symF xs S j = s)) S : Int) = shareN (xs[s]?.getD 0) := by
 rw [← h.sym.2 s hs]
 congr 1
 refine cntP_congr _ _ S (fun i hi => ?_)
 rw [(h.symF i hi).1]
 simp
theorem shareN_one (c : Int) (h1 : -1 ≤ c) (h2 : c ≠ 0) : 1 ≤ shareN c := by unfold shareN; split <;> omega
theorem Tab.share {xs : List Int} {S : Nat} (h : Tab xs S) (s : Nat) (hs : s < xs.length) (h0 : xs[s]?.getD 0 ≠ 0) : ∃ c : Nat, shareN (xs[s]?.getD 0) = (c : Int) ∧ 1 ≤ c ∧ c ≤ S := by
 have h1 := shareN_one _ (h.low s hs) h0
 have h2 := h.cnt s hs
 have h3 := cntP_le (fun j => decide (Go.Proofs.YtnjilcokkhodmaaGreatDoor.symF xs S j = s)) S
 exact ⟨(shareN (xs[s]?.getD 0)).toNat, by omega, by omega, by omega⟩
theorem Tab.x {xs : List Int} {S : Nat} (h : Tab xs S) (i : Nat) (hi : i < S) : ∃ c : Nat, shareN (xs[Go.Proofs.YtnjilcokkhodmaaGreatDoor.symF xs S i]?.getD 0) = (c : Int) ∧ 1 ≤ c ∧ c ≤ S ∧ blF xs S i < c ∧ xF xs S i = c + blF xs S i := by
 obtain ⟨h1, h2, h3⟩ := h.symF i hi
 obtain ⟨c, e, c1, c2⟩ := h.share _ h2 h3
 have h4 := h.cnt _ h2
 have h5 := cntP_lt (fun j => decide (Go.Proofs.YtnjilcokkhodmaaGreatDoor.symF xs S j = Go.Proofs.YtnjilcokkhodmaaGreatDoor.symF xs S i)) i S hi (by simp)
 refine ⟨c, e, c1, c2, ?_, by unfold xF; rw [e]; omega⟩
 unfold blF
 omega
theorem cell_fits (l x : Nat) (h0 : x ≠ 0) (h1 : x < 2 ^ (l + 1)) : bitF l x ≤ l ∧ 2 ^ l ≤ x * 2 ^ bitF l x ∧ x * 2 ^ bitF l x < 2 ^ (l + 1) ∧ 1 ≤ lenN x ∧ lenN x ≤ l + 1 := by
 obtain ⟨a, b, c⟩ := lenN_pos x h0
 have d := lenN_le x (l + 1) h1
 have e : bitF l x + lenN x = l + 1 := by unfold bitF; omega
 have e1 : 2 ^ (bitF l x) * 2 ^ (lenN x) = 2 ^ (l + 1) := by rw [← Nat.pow_add, e]
 have e2 : 2 ^ (bitF l x) * 2 ^ (lenN x - 1) = 2 ^ l := by rw [← Nat.pow_add]; congr 1; omega
 refine ⟨by omega, ?_, ?_, c, d⟩
 ·rw [← e2, Nat.mul_comm]; exact Nat.mul_le_mul_right _ a
 ·rw [← e1, Nat.mul_comm]; exact Nat.mul_lt_mul_of_pos_left b (Nat.pow_pos (by omega))
theorem Tab.cell {xs : List Int} {l : Nat} (h : Tab xs (2 ^ l)) (i : Nat) (hi : i < 2 ^ l) : xF xs (2 ^ l) i ≠ 0 ∧ xF xs (2 ^ l) i < 2 ^ (l + 1) ∧ bitF l (xF xs (2 ^ l) i) ≤ l ∧ baseF l (xF xs (2 ^ l) i) < 2 ^ l ∧ baseF l (xF xs (2 ^ l) i) + 2 ^ bitF l (xF xs (2 ^ l) i) ≤ 2 ^ l ∧ 1 ≤ lenN (xF xs (2 ^ l) i) ∧ lenN (xF xs (2 ^ l) i) ≤ l + 1 ∧ 2 ^ l ≤ xF xs (2 ^ l) i * 2 ^ bitF l (xF xs (2 ^ l) i) := by
 obtain ⟨c, e, c1, c2, c3, c4⟩ := h.x i hi
 have hp : 2 ^ (l + 1) = 2 * 2 ^ l := by rw [Nat.pow_succ]; omega
 have h1 : xF xs (2 ^ l) i ≠ 0 := by omega
 have h2 : xF xs (2 ^ l) i < 2 ^ (l + 1) := by omega
 obtain ⟨d1, d2, d3, d4, d5⟩ := cell_fits l _ h1 h2
 refine ⟨h1, h2, d1, by unfold baseF; omega, ?_, d4, d5, d2⟩
 have ep : 2 ^ (l + 1) = 2 ^ (l + 1 - bitF l (xF xs (2 ^ l) i)) * 2 ^ bitF l (xF xs (2 ^ l) i) := by rw [← Nat.pow_add]; congr 1; omega
 have h3 : xF xs (2 ^ l) i < 2 ^ (l + 1 - bitF l (xF xs (2 ^ l) i)) := by
  have := (lenN_pos _ h1).2.1
  have e2 : l + 1 - bitF l (xF xs (2 ^ l) i) = lenN (xF xs (2 ^ l) i) := by unfold bitF; omega
  rw [e2]; exact this
 have h4 : (xF xs (2 ^ l) i + 1) * 2 ^ bitF l (xF xs (2 ^ l) i) ≤ 2 ^ (l + 1) := by rw [ep]; exact Nat.mul_le_mul_right _ h3
 rw [Nat.succ_mul] at h4
 unfold baseF
 omega

end Go.Proofs.YtnjilcokkhodmaaGreatDoor

namespace Go.Proofs.YtnjilcokkhodmaaGreatDoor
open Go.RowKit Go.Shelf

def zeros71 : Array Value := (List.replicate 4096 [Value.int .u8 0, Value.int .u8 0, Value.int .u16 0]).flatten.toArray
def zeros103 : Array Value := (List.replicate 4096 (Value.int .u8 0)).toArray
def zeros107 : Array Value := (List.replicate 256 (Value.int .i64 0)).toArray
def zeros112 : Array Value := (List.replicate 256 (Value.int .i16 0)).toArray
theorem zero107 : Tryz.zeroCells250 = zeros107 := by kernel_rfl
theorem zero112 : Tryz.zeroCells242 = zeros112 := by kernel_rfl

def isZ (k : IntKind) : Value → Bool
 | .int k' n => decide (k' = k) && n == 0
 | _ => false
theorem isZ_eq {k : IntKind} {v : Value} (h : isZ k v = true) : v = .int k 0 := by
  cases v with
  | int k' n =>
    simp only [isZ, Bool.and_eq_true, decide_eq_true_eq, beq_iff_eq] at h
    rw [h.1, h.2]
  | _ => simp [isZ] at h
def ok1 : Nat → List Value → Bool
 | 0, [] => true
 | n + 1, a :: r => isZ .u8 a && ok1 n r
 | _, _ => false
def ok3 : Nat → List Value → Bool
 | 0, [] => true
 | n + 1, a :: b :: c :: r => isZ .u8 a && (isZ .u8 b && (isZ .u16 c && ok3 n r))
 | _, _ => false
theorem ok1_eq : ∀ (n : Nat) (l : List Value), ok1 n l = true → l = List.replicate n (.int .u8 0)
  | 0, [], _ => rfl
  | 0, _ :: _, h => by simp [ok1] at h
  | n + 1, [], h => by simp [ok1] at h
  | n + 1, a :: r, h => by
    simp only [ok1, Bool.and_eq_true] at h
    rw [isZ_eq h.1, ok1_eq n r h.2, List.replicate_succ]
theorem ok3_eq : ∀ (n : Nat) (l : List Value), ok3 n l = true → l = (List.replicate n [Value.int .u8 0, Value.int .u8 0, Value.int .u16 0]).flatten
  | 0, [], _ => rfl
  | 0, _ :: _, h => by simp [ok3] at h
  | n + 1, [], h => by simp [ok3] at h
  | n + 1, [_], h => by simp [ok3] at h
  | n + 1, [_, _], h => by simp [ok3] at h
  | n + 1, a :: b :: c :: r, h => by
    simp only [ok3, Bool.and_eq_true] at h
    rw [isZ_eq h.1, isZ_eq h.2.1, isZ_eq h.2.2.1, ok3_eq n r h.2.2.2, List.replicate_succ, List.flatten_cons]
    rfl
theorem chk103 : ok1 4096 Tryz.zeroCells246.toList = true := by kernel_rfl
theorem chk71 : ok3 4096 Tryz.zeroCells215.toList = true := by kernel_rfl
theorem zero103 : Tryz.zeroCells246 = zeros103 := by
 apply Array.ext'
 unfold zeros103
 rw [List.toList_toArray]
 exact ok1_eq _ _ chk103
theorem zero71 : Tryz.zeroCells215 = zeros71 := by
 apply Array.ext'
 unfold zeros71
 rw [List.toList_toArray]
 exact ok3_eq _ _ chk71

end Go.Proofs.YtnjilcokkhodmaaGreatDoor

namespace Go.Proofs.YtnjilcokkhodmaaGreatDoor
open Go.RowKit Go.Shelf

attribute [local go_sem] Oper.semAt_some

set_option maxHeartbeats 1000000 in
theorem places_in (F : Fence) (n : Nat) (h61 : F.fn 138) (hro : F.round = none) (s h : Int) (w : World) :
  CallsIn F n Tryz.prog 138 #[.int .i64 s, .int .i64 h] w fun e w' => e = .returned (.func (.func 147) #[] #[.pointer (some ⟨w.heap.size, 0, none⟩), .pointer (some ⟨w.heap.size + 1, 0, none⟩)]) ∧ w' = (w.alloc (.cells #[.int .i64 s] 3)).alloc (.cells #[.int .i64 h] 3) := by
 refine callsIn_of_wp Tryz.func138 rfl h61 ?_ hro
 simp only [Tryz.ntmps138, List.size_toArray, List.length_cons, List.length_nil, Nat.reduceAdd, Nat.reduceSub, Array.replicate_succ, Array.replicate_zero, List.push_toArray, List.append_toArray, List.nil_append, List.cons_append]
 gi_wp2
 go_ret
 exact ⟨rfl, rfl⟩

def PBox (Bs Bh S H : Nat) (W : World) : Prop := W.heap[Bs]? = some (.cells #[.int .i64 (S : Int)] 3 (0, 0)) ∧ W.heap[Bh]? = some (.cells #[.int .i64 (H : Int)] 3 (0, 0))
def placeV (S H k : Nat) : Array Value := #[.int .i64 (k : Int), .int .i64 ((place S H k : Nat) : Int)]

set_option maxRecDepth 100000 in
set_option maxHeartbeats 4000000 in
theorem places1_in (F : Fence) (n : Nat) (h71 : F.fn 147) (hro : F.round = none) (hn : 1 ≤ n) (l Bs Bh S H v : Nat) (ho : Odd S v) (hS : S ≤ 4096) (hH : H ≤ S) (J : Nat → World → Prop) (Jx : World → Prop)
  (hB : ∀ k W, J k W → PBox Bs Bh S H W)
  (hY : ∀ k W, k < H → J k W → YieldAt F (n - 1) Tryz.prog l (placeV S H k) W fun e W' => (e = .returned (.bool true) ∧ J (k + 1) W') ∨ (e = .returned (.bool false) ∧ Jx W')) (W : World) (h0 : J 0 W) :
  CallsIn F n Tryz.prog 147 #[.func (.yield l) #[] #[], .pointer (some ⟨Bs, 0, none⟩), .pointer (some ⟨Bh, 0, none⟩)] W fun e W' => (∃ v, e = .returned v) ∧ (J H W' ∨ Jx W') := by
 obtain ⟨b1, b2⟩ := hB 0 W h0
 have c1 : W.cell? ⟨Bs, 0, none⟩ = some (.int .i64 (S : Int)) := cell_of b1 0
 have c2 : W.cell? ⟨Bh, 0, none⟩ = some (.int .i64 (H : Int)) := cell_of b2 0
 obtain ⟨P, hP⟩ : ∃ P, P = stepN S := ⟨_, rfl⟩
 have hPI : (S : Int) / 2 + (S : Int) / 8 + 3 = (P : Int) := by rw [hP]; unfold stepN; omega
 have hPb : (P : Int) ≤ 4096 := by rw [hP]; unfold stepN; omega
 have HP := (show Hid (P = stepN S) from hP)
 have HY := (show Hid (∀ k W, k < H → J k W → _) from hY)
 have HB := (show Hid (∀ k W, J k W → PBox Bs Bh S H W) from hB)
 have hSI : (S : Int) ≤ 4096 := by omega
 have hHI : (H : Int) ≤ (S : Int) := by omega
 have hSp : 0 < (S : Int) := by have := ho.pos; omega
 have HO := (show Hid (Odd S v) from ho)
 clear hY hB b1 b2 hP ho
 refine callsIn_of_wp Tryz.func147 rfl h71 ?_ hro
 simp only [Tryz.ntmps147, List.size_toArray, List.length_cons, List.length_nil, Nat.reduceAdd, Nat.reduceSub, Array.replicate_succ, Array.replicate_zero, List.push_toArray, List.append_toArray, List.nil_append, List.cons_append]
 gi_wp2
 clear c1 c2
 gi_loopw [5, 14] (fun vs vi wr => ∃ (k x : Nat), vi = .int .i64 (k : Int) ∧ vs = .int .i64 (x : Int) ∧ k ≤ H ∧ Hid (k < H → Turn S H k x) ∧ J k wr) (fun _ vi _ => H - (intOf vi).toNat)
 case atStart => exact ⟨0, 0, rfl, rfl, Nat.zero_le _, fun h => turn_zero S H (by omega) h, h0⟩
 case round =>
  clear h0 hPI
  obtain ⟨k, x, rfl, rfl, hk, HT, hJ⟩ := hrel
  by_cases hlt : k < H
  ·have hT := HT.out hlt
   obtain ⟨fn, tmps, assign, body, hy, hR⟩ := HY.out k wr hlt hJ
   unfold placeV at hy
   rw [hT.place] at hy
   have hxS : x < H := hT.lt
   have hltI : (k : Int) < (H : Int) := by omega
   clear hJ
   gi_wp2
   refine hR.mono ?_
   rintro e W3 (⟨rfl, hJ3⟩ | ⟨rfl, hJx3⟩)
   ·obtain ⟨b1, b2⟩ := HB.out _ _ hJ3
    have c1 : W3.cell? ⟨Bs, 0, none⟩ = some (.int .i64 (S : Int)) := cell_of b1 0
    have c2 : W3.cell? ⟨Bh, 0, none⟩ = some (.int .i64 (H : Int)) := cell_of b2 0
    obtain ⟨y, hy2⟩ : ∃ y, y = (x + P) % S := ⟨_, rfl⟩
    have hyI : ((x : Int) + (P : Int)) % (S : Int) = (y : Int) := by rw [hy2]; simp
    have HYI := (show Hid (((x : Int) + (P : Int)) % (S : Int) = (y : Int)) from hyI)
    have HM := (show Hid (Mid S H k y) from by rw [hy2, HP.out]; exact hT.next)
    have hSne : (S : Int) ≠ 0 := by omega
    have hSnb : ((S : Int) == 0) = false := by simpa using hSne
    have HJ3 := (show Hid (J (k + 1) W3) from hJ3)
    clear hT hy2 hJ3 b1 b2 hR hy hyI
    gi_wp2_with fail
    gi_loop [5] (fun vs => ∃ z : Nat, vs = .int .i64 (z : Int) ∧ Hid (Mid S H k z)) (fun vs => meas S v (intOf vs).toNat)
    case atStart => exact ⟨y, by rw [HYI.out], HM⟩
    case round =>
     clear HM
     obtain ⟨z, rfl, HM⟩ := hrel
     have hzS : (z : Int) < (S : Int) := by have := HM.out.lt HO.out; omega
     by_cases hz : H ≤ z
     ·have hzI : (H : Int) ≤ (z : Int) := by omega
      obtain ⟨y2, hy2⟩ : ∃ y, y = (z + P) % S := ⟨_, rfl⟩
      have hyI : ((z : Int) + (P : Int)) % (S : Int) = (y2 : Int) := by rw [hy2]; simp
      have HYI := (show Hid (((z : Int) + (P : Int)) % (S : Int) = (y2 : Int)) from hyI)
      have HM2 := (show Hid (Mid S H k y2 ∧ meas S v y2 < meas S v z) from by rw [hy2, HP.out]; exact ⟨HM.out.next (by omega) hz, HM.out.meas HO.out (by omega) hz⟩)
      clear hy2 hyI
      gi_wp2_with fail
      go_round
      case rel => exact ⟨y2, by rw [HYI.out], HM2.out.1⟩
      case measure => have h := HYI.out; simp only [intOf]; simp; rw [h]; simpa using HM2.out.2
     ·have hzI : ¬ (H : Int) ≤ (z : Int) := by omega
      gi_wp2_with fail
      go_roundw
      case rel => exact ⟨k + 1, z, by go_num, rfl, by omega, fun h => (HM.out.end_ HO.out hH (by omega)).resolve_left (by omega), HJ3.out⟩
      case measure => simp [intOf]; omega
   ·gi_wp2
    refine bodyPost_ret (results_none rfl _ _ _) rfl ?_
    exact ⟨⟨_, rfl⟩, .inr hJx3⟩
  ·obtain rfl : k = H := by omega
   gi_wp2
   go_end0
   exact ⟨⟨_, rfl⟩, .inl hJ⟩

end Go.Proofs.YtnjilcokkhodmaaGreatDoor

namespace Go.Proofs.YtnjilcokkhodmaaGreatDoor
open Go.RowKit Go.Shelf

def goesOn (B : Nat) (J : World → Prop) (X : Code → World → Prop) (W : World) : Exit → Act → World → Prop
 | .normal, _, V => KeepsFrom B W V ∧ J V
 | .ret, _, V => KeepsFrom B W V ∧ X .ret V
 | .exit i, _, V => KeepsFrom B W V ∧ X (.exit i) V
 | _, _, _ => False

theorem range_places {n : Nat} {g : Operand} {ps : Array Tmp} {assign body : Code} {Q : Exit → Act → World → Prop} {a : Act} {w : World} (hn : 3 ≤ n) (Bs Bh S H v : Nat) (ho : Odd S v) (hS : S ≤ 4096) (hH : H ≤ S)
    (hg : a.eval g = .func (.func 147) #[] #[.pointer (some ⟨Bs, 0, none⟩), .pointer (some ⟨Bh, 0, none⟩)]) (hps : ps.size = 2)
    (I : Nat → World → Prop) (X : Code → World → Prop) (A : Nat → Act → World → Prop) (hI : OwnFrom w.heap.size I) (hX : OwnFrom w.heap.size X) (hA : ∀ k a', OwnFrom w.heap.size (fun (_ : Unit) V => A k a' V)) (h0 : I 0 w) (hIB : ∀ k V, I k V → PBox Bs Bh S H V)
    (hassign : ∀ k V (K : Act → World → Prop), k < H → I k V → (∀ a' V', KeepsFrom w.heap.size V V' → I k V' → A k a' V' → K a' V') →
      assign.wpIn (Fence.wide.inRound (w.heap.size + 1)) (n - 1 - 1) Tryz.prog (Exit.then K (fun _ _ _ => False)) { tmps := (ps.zip (placeV S H k)).foldl (fun t (p, v) => t.setIfInBounds p v) a.tmps, defers := [] } V)
    (hbody : ∀ k a' V, k < H → I k V → A k a' V → body.wpIn (Fence.wide.inRound (w.heap.size + 1)) (n - 1 - 1) Tryz.prog (goesOn w.heap.size (I (k + 1)) X V) a' V)
    (hdone : ∀ V, I H V → V.heap[w.heap.size]? = some (.deferred (some [])) → Q .normal { a with defers := { target := .collected w.heap.size, args := #[] } :: a.defers } V)
    (hstop : ∀ j V, X j V → V.heap[w.heap.size]? = some (.deferred (some [])) → j.wpIn Fence.wide n Tryz.prog Q { a with defers := { target := .collected w.heap.size, args := #[] } :: a.defers } V) :
    (Code.rangeFunc g ps assign body).wpIn Fence.wide n Tryz.prog Q a w := by
  refine wpIn_rangeFunc fun fn hfn => ?_
  -- the loop's record
  obtain ⟨mk, hmk⟩ : ∃ mk : LoopState → Option Code → Obj, mk = fun st pe => .loop { state := st, pending := pe, fn, tmps := a.tmps, params := ps, assign, body, defers := w.heap.size } := ⟨_, rfl⟩
  have mkc : ∀ st pe, (mk st pe).isCells = false := fun st pe => by rw [hmk]; rfl
  obtain ⟨V1, hV1⟩ : ∃ V1, V1 = (w.alloc (.deferred (some []))).alloc (mk .ready none) := ⟨_, rfl⟩
  have hsz : (w.alloc (.deferred (some []))).heap.size = w.heap.size + 1 := World.size_alloc _ _
  have hrec : V1.heap[w.heap.size + 1]? = some (mk .ready none) := by rw [hV1, ← hsz]; exact World.alloc_heap_new _ _
  have hdef : V1.heap[w.heap.size]? = some (.deferred (some [])) := by rw [hV1]; exact alloc_far (World.alloc_heap_new w _) _
  have hI1 : I 0 V1 := by rw [hV1]; exact hI.alloc _ (hI.alloc _ h0)
  refine ⟨w.heap.size + 1, [{ target := .collected w.heap.size, args := #[] }], V1, { target := .fn (.func 147) #[.pointer (some ⟨Bs, 0, none⟩), .pointer (some ⟨Bh, 0, none⟩)], args := #[.func (.yield (w.heap.size + 1)) #[] #[]] }, V1, 147,
    #[.func (.yield (w.heap.size + 1)) #[] #[], .pointer (some ⟨Bs, 0, none⟩), .pointer (some ⟨Bh, 0, none⟩)], V1, ?_, ?_, fun _ _ => trivial, ?_, fun _ => by omega, ?_⟩
  · rw [hV1, hmk]; exact run_enterLoop_outer _ _ _ _ _
  · simp only [resolve, hg]
    simp [go_sem]
  · simp [invoke, go_sem]
  · refine (places1_in Fence.wide (n - 1) trivial rfl (by omega) (w.heap.size + 1) Bs Bh S H v ho hS hH
      (fun k V => I k V ∧ V.heap[w.heap.size + 1]? = some (mk .ready none) ∧ V.heap[w.heap.size]? = some (.deferred (some [])))
      (fun V => ∃ j, X j V ∧ V.heap[w.heap.size + 1]? = some (mk .done (some j)) ∧ V.heap[w.heap.size]? = some (.deferred (some [])))
      (fun k V h => hIB k V h.1) ?_ V1 ⟨hI1, hrec, hdef⟩).mono ?_
    · rintro k V hk ⟨hi, hl, hd⟩
      have hy := run_yield (P := Tryz.prog) (args := placeV S H k) (by rw [hmk] at hl; exact hl) (by simp [hps, placeV])
      refine ⟨fn, _, assign, body, hy, roundIn_of_wpIn hfn (hassign k V _ hk hi fun a' V2 hkf hi2 hax => ?_)⟩
      have hl2 := hkf.same _ _ (Nat.le_succ _) hl (mkc _ _)
      have hd2 := hkf.same _ _ (Nat.le_refl _) hd rfl
      have hlt : w.heap.size + 1 < V2.heap.size := obj_lt hl2
      have hbr := run_beginRound (P := Tryz.prog) (by rw [hmk] at hl2; exact hl2) rfl
      refine ⟨_, hbr, ?_⟩
      obtain ⟨V3, hV3⟩ : ∃ V3, V3 = V2.putObj (w.heap.size + 1) (mk .busy none) := ⟨_, rfl⟩
      have hl3 : V3.heap[w.heap.size + 1]? = some (mk .busy none) := by rw [hV3]; exact World.putObj_heap_same hlt
      have hd3 : V3.heap[w.heap.size]? = some (.deferred (some [])) := by rw [hV3]; exact (World.putObj_heap_other (by omega)).trans hd2
      have hi3 : I k V3 := by rw [hV3]; exact hI.putObj _ hi2 (Nat.le_succ _) hl2 (mkc _ _)
      have hx3 : A k a' V3 := by rw [hV3]; exact (hA k a').putObj (s := ()) _ hax (Nat.le_succ _) hl2 (mkc _ _)
      have hb := hbody k a' V3 hk hi3 hx3
      rw [hV3, hmk] at hb
      refine wpIn_mono hb ?_
      -- however the round ends, the record is turned
      have fin : ∀ (j : Option Code) (V4 : World), KeepsFrom w.heap.size V3 V4 → (Instr.endRound (w.heap.size + 1) j).run Tryz.prog V4 = .ok (.bool j.isNone) (V4.putObj (w.heap.size + 1) (mk (if j.isNone then .ready else .done) j)) ∧
          V4.heap[w.heap.size + 1]? = some (mk .busy none) ∧ (V4.putObj (w.heap.size + 1) (mk (if j.isNone then .ready else .done) j)).heap[w.heap.size + 1]? = some (mk (if j.isNone then .ready else .done) j) ∧
          (V4.putObj (w.heap.size + 1) (mk (if j.isNone then .ready else .done) j)).heap[w.heap.size]? = some (.deferred (some [])) := by
        intro j V4 h4
        have hl4 := h4.same _ _ (Nat.le_succ _) hl3 (mkc _ _)
        have hr := run_endRound (P := Tryz.prog) j (by rw [hmk] at hl4; exact hl4)
        refine ⟨?_, hl4, World.putObj_heap_same (obj_lt hl4), (World.putObj_heap_other (by omega)).trans (h4.same _ _ (Nat.le_refl _) hd3 rfl)⟩
        rw [hmk]; exact hr
      intro e a4 V4 hp
      have hp' : goesOn w.heap.size (I (k + 1)) X V3 e a4 V4 := by rw [hV3, hmk]; exact hp
      clear hp hb
      cases e with
      | normal =>
        obtain ⟨r1, r2, r3, r4⟩ := fin none V4 hp'.1
        exact ⟨_, _, r1, .inl ⟨rfl, hI.putObj _ hp'.2 (Nat.le_succ _) r2 (mkc _ _), r3, r4⟩⟩
      | ret =>
        obtain ⟨r1, r2, r3, r4⟩ := fin (some .ret) V4 hp'.1
        exact ⟨_, _, r1, .inr ⟨rfl, .ret, hX.putObj _ hp'.2 (Nat.le_succ _) r2 (mkc _ _), r3, r4⟩⟩
      | exit i =>
        obtain ⟨r1, r2, r3, r4⟩ := fin (some (.exit i)) V4 hp'.1
        exact ⟨_, _, r1, .inr ⟨rfl, .exit i, hX.putObj _ hp'.2 (Nat.le_succ _) r2 (mkc _ _), r3, r4⟩⟩
      | goto t => exact hp'.elim
      | panic ch => exact hp'.elim
      | outgrown => exact hp'.elim
    · rintro e V ⟨⟨v, rfl⟩, (⟨hi, hl, hd⟩ | ⟨j, hj, hl, hd⟩)⟩
      · have hr := run_endLoop (P := Tryz.prog) (by rw [hmk] at hl; exact hl) (by simp)
        exact ⟨none, _, hr, hdone _ (hI.putObj _ hi (Nat.le_succ _) hl (mkc _ _)) ((World.putObj_heap_other (by omega)).trans hd)⟩
      · have hr := run_endLoop (P := Tryz.prog) (by rw [hmk] at hl; exact hl) (by simp)
        exact ⟨some j, _, hr, hstop j _ (hX.putObj _ hj (Nat.le_succ _) hl (mkc _ _)) ((World.putObj_heap_other (by omega)).trans hd)⟩

end Go.Proofs.YtnjilcokkhodmaaGreatDoor

namespace Go.Proofs.YtnjilcokkhodmaaGreatDoor
open Go.RowKit Go.Shelf

theorem rows_wide {n : Nat} {P : Program} {row : String} {args : Array Value} {w : World} {R : Value → World → Prop} (h : Rows P row args w R) : RowsIn Fence.wide n P row args w R :=
 fun c cs _ => let ⟨v, w', r, s⟩ := h c cs; ⟨v, w', r, stepsIn_wide.2 s⟩
theorem upon_round {l n : Nat} {P : Program} {o : Oper} {a : Act} {next : Act → World → Prop} {Q : Exit → Act → World → Prop} {r : Result Next} (h : o.upon P a next Q r) : o.uponIn (Fence.wide.inRound l) n P a next Q r := by
  cases r with
  | ok nx w' =>
    cases nx with
    | value v => exact h
    | skip => exact h
    | defer d => exact h
    | enter f args => exact ⟨(fun e => by cases e), CallsIn.inRound l (callsIn_wide.2 h)⟩
    | row row args => exact ⟨(fun e => by cases e), rows_wide h⟩
    | _ => exact h.elim
  | halt x w' => cases x <;> first | exact h | exact h.elim

def noDefer (ops : Array Oper) : Bool := ops.all (fun o => match o.op with | .defer _ => false | _ => true)
theorem noDefer_at {ops : Array Oper} (h : noDefer ops = true) {i : Nat} {o : Oper} (ho : ops[i]? = some o) : ∀ c, o.op ≠ .defer c := by
 intro c e
 obtain ⟨hi, rfl⟩ := Array.getElem?_eq_some_iff.1 ho
 have := Array.all_eq_true.1 h i hi
 rw [e] at this
 cases this

theorem any_round {l n : Nat} {P : Program} {md : Region.Mode} {ops : Array Oper} {Q : Exit → Act → World → Prop} {S : World → Prop} (hd : noDefer ops = true) (hq : ¬ LetsOut Q) :
    ∀ (fuel : Nat) (listed : Array Bool) (a : Act) (w : World), wpAnyH P md ops Q S fuel listed a w → wpAnyIn (Fence.wide.inRound l) n P md ops Q fuel listed a w
  | 0, _, _, _, h => h
  | fuel + 1, listed, a, w, h => ⟨h.1, fun i hi => by
      have h1 := h.2 i hi
      unfold wpOp at h1
      unfold wpOpIn
      cases ho : ops[i]? with
      | none =>
        rw [ho] at h1
        exact any_round hd hq fuel _ _ _ h1.2
      | some o =>
        rw [ho] at h1
        dsimp only at h1 ⊢
        by_cases hw : Region.wanted o (yielded ops a.tmps) = true
        · rw [if_pos hw] at h1 ⊢
          refine ⟨fun _ _ => trivial, ?_⟩
          rw [Oper.semAt_eq _ _ _ (fun c => noDefer_at hd ho c)]
          refine upon_round ?_
          have h2 := h1.resolve_right (fun h => hq h.2)
          exact Oper.wp_mono (fun a' w' h3 => any_round hd hq fuel _ a' w' h3.2) h2
        · rw [if_neg hw] at h1 ⊢
          exact ⟨fun _ _ => trivial, any_round hd hq fuel _ _ _ h1.2⟩⟩

def onward (Q : Exit → Act → World → Prop) : Exit → Act → World → Prop
 | .normal, a, w => Q .normal a w
 | _, _, _ => False
theorem region_round {l n id : Nat} {P : Program} {ops : Array Oper} {Q : Exit → Act → World → Prop} {a : Act} {w : World} (S : World → Prop) (hd : noDefer ops = true) (hm : P.follows .mixedOrders = true) (hS : S w.drew)
  (h : S w.drew → wpAnyH P .any ops (onward Q) S ops.size (Array.replicate ops.size false) a w.drew) : (Code.region id ops true).wpIn (Fence.wide.inRound l) n P Q a w :=
 wpIn_mono (wpIn_region_any hm (any_round hd (fun ⟨_, _, h⟩ => h) _ _ _ _ (h hS))) (fun e a w h => by cases e <;> first | exact h | exact h.elim)

end Go.Proofs.YtnjilcokkhodmaaGreatDoor

namespace Go.Proofs.YtnjilcokkhodmaaGreatDoor
open Go.RowKit Go.Shelf

/-- Block b is an array of n numbers of kind k. -/
structure IsA (w : World) (b t : Nat) (k : IntKind) (n : Nat) (f : Nat → Int) : Prop where
 obj : ∃ cs, w.heap[b]? = some (.cells cs t (0, 0)) ∧ cs.size = n ∧ ∀ i, i < n → cs[i]? = some (.int k (f i))
theorem IsA.cell {w : World} {b t : Nat} {k : IntKind} {n : Nat} {f : Nat → Int} (h : IsA w b t k n f) (i : Nat) (hi : i < n) : w.cell? ⟨b, i, none⟩ = some (.int k (f i)) := by
 obtain ⟨cs, h1, _, h3⟩ := h.obj
 rw [cell_of h1, h3 i hi]
theorem IsA.frozen {w : World} {b t : Nat} {k : IntKind} {n : Nat} {f : Nat → Int} (h : IsA w b t k n f) (i : Nat) : w.frozen? ⟨b, i, none⟩ = false := by
 obtain ⟨cs, h1, _⟩ := h.obj
 exact frozen_of h1 i
theorem IsA.lt {w : World} {b t : Nat} {k : IntKind} {n : Nat} {f : Nat → Int} (h : IsA w b t k n f) : b < w.heap.size := by
 obtain ⟨cs, h1, _⟩ := h.obj
 exact obj_lt h1
theorem IsA.keep {w w' : World} {S : Nat → Prop} {b t : Nat} {k : IntKind} {n : Nat} {f : Nat → Int} (h : IsA w b t k n f) (hk : Keep S w w') (hS : ¬ S b) : IsA w' b t k n f := by
 obtain ⟨cs, h1, h2⟩ := h.obj
 exact ⟨cs, hk.obj h1 hS, h2⟩
theorem IsA.set {w : World} {b t : Nat} {k : IntKind} {n : Nat} {f : Nat → Int} (h : IsA w b t k n f) (i : Nat) (x : Int) : IsA (w.setCell ⟨b, i, none⟩ (.int k x)) b t k n (fun j => if j = i then x else f j) := by
 obtain ⟨cs, h1, h2, h3⟩ := h.obj
 refine ⟨_, set_obj h1 i _, by rw [Array.size_setIfInBounds, h2], fun j hj => ?_⟩
 rw [Array.getElem?_setIfInBounds]
 by_cases e : i = j
 ·subst e; rw [if_pos rfl, if_pos (by omega), if_pos rfl]
 ·rw [if_neg e, if_neg (fun h => e h.symm), h3 j hj]
theorem IsA.congr {w : World} {b t : Nat} {k : IntKind} {n : Nat} {f g : Nat → Int} (h : IsA w b t k n f) (he : ∀ i, i < n → f i = g i) : IsA w b t k n g := by
 obtain ⟨cs, h1, h2, h3⟩ := h.obj
 exact ⟨cs, h1, h2, fun i hi => by rw [h3 i hi, he i hi]⟩
theorem isA_zeros (w : World) (t : Nat) (k : IntKind) (n : Nat) : IsA (w.alloc (.cells (List.replicate n (Value.int k 0)).toArray t)) w.heap.size t k n (fun _ => 0) := by
 refine ⟨_, World.alloc_heap_new w _, by simp, fun i hi => ?_⟩
 rw [List.getElem?_toArray, List.getElem?_replicate, if_pos hi]

/-- Block b is an array of N cells: symbols, bits, bases. -/
structure IsT (w : World) (b t N : Nat) (sy bi ba : Nat → Nat) : Prop where
 obj : ∃ cs, w.heap[b]? = some (.cells cs t (0, 0)) ∧ cs.size = 3 * N ∧ ∀ i, i < N → cs[i * 3]? = some (.int .u8 ((sy i : Nat) : Int)) ∧ cs[i * 3 + 1]? = some (.int .u8 ((bi i : Nat) : Int)) ∧ cs[i * 3 + 2]? = some (.int .u16 ((ba i : Nat) : Int))
theorem IsT.cells {w : World} {b t N : Nat} {sy bi ba : Nat → Nat} (h : IsT w b t N sy bi ba) (i : Nat) (hi : i < N) :
  w.cell? ⟨b, i * 3, none⟩ = some (.int .u8 ((sy i : Nat) : Int)) ∧ w.cell? ⟨b, i * 3 + 1, none⟩ = some (.int .u8 ((bi i : Nat) : Int)) ∧ w.cell? ⟨b, i * 3 + 2, none⟩ = some (.int .u16 ((ba i : Nat) : Int)) := by
 obtain ⟨cs, h1, _, h3⟩ := h.obj
 rw [cell_of h1, cell_of h1, cell_of h1]
 exact h3 i hi
theorem IsT.frozen {w : World} {b t N : Nat} {sy bi ba : Nat → Nat} (h : IsT w b t N sy bi ba) (i : Nat) : w.frozen? ⟨b, i, none⟩ = false := by
 obtain ⟨cs, h1, _⟩ := h.obj
 exact frozen_of h1 i
theorem IsT.lt {w : World} {b t N : Nat} {sy bi ba : Nat → Nat} (h : IsT w b t N sy bi ba) : b < w.heap.size := by
 obtain ⟨cs, h1, _⟩ := h.obj
 exact obj_lt h1
theorem IsT.keep {w w' : World} {S : Nat → Prop} {b t N : Nat} {sy bi ba : Nat → Nat} (h : IsT w b t N sy bi ba) (hk : Keep S w w') (hS : ¬ S b) : IsT w' b t N sy bi ba := by
 obtain ⟨cs, h1, h2⟩ := h.obj
 exact ⟨cs, hk.obj h1 hS, h2⟩
theorem IsT.congr {w : World} {b t N : Nat} {sy bi ba sy' bi' ba' : Nat → Nat} (h : IsT w b t N sy bi ba) (h1 : ∀ i, i < N → sy i = sy' i) (h2 : ∀ i, i < N → bi i = bi' i) (h3 : ∀ i, i < N → ba i = ba' i) : IsT w b t N sy' bi' ba' := by
 obtain ⟨cs, a1, a2, a3⟩ := h.obj
 refine ⟨cs, a1, a2, fun i hi => ?_⟩
 rw [← h1 i hi, ← h2 i hi, ← h3 i hi]
 exact a3 i hi
theorem IsT.setSym {w : World} {b t N : Nat} {sy bi ba : Nat → Nat} (h : IsT w b t N sy bi ba) (i x : Nat) : IsT (w.setCell ⟨b, i * 3, none⟩ (.int .u8 (x : Int))) b t N (fun j => if j = i then x else sy j) bi ba := by
 obtain ⟨cs, h1, h2, h3⟩ := h.obj
 refine ⟨_, set_obj h1 _ _, by rw [Array.size_setIfInBounds, h2], fun j hj => ?_⟩
 rw [Array.getElem?_setIfInBounds, Array.getElem?_setIfInBounds, Array.getElem?_setIfInBounds, if_neg (show ¬ i * 3 = j * 3 + 1 by omega), if_neg (show ¬ i * 3 = j * 3 + 2 by omega)]
 by_cases e : i = j
 ·subst e
  rw [if_pos rfl, if_pos (by omega), if_pos rfl]
  exact ⟨rfl, (h3 i hj).2⟩
 ·rw [if_neg (by omega), if_neg (fun h => e h.symm)]
  exact h3 j hj
theorem IsT.setBit {w : World} {b t N : Nat} {sy bi ba : Nat → Nat} (h : IsT w b t N sy bi ba) (i x : Nat) : IsT (w.setCell ⟨b, i * 3 + 1, none⟩ (.int .u8 (x : Int))) b t N sy (fun j => if j = i then x else bi j) ba := by
 obtain ⟨cs, h1, h2, h3⟩ := h.obj
 refine ⟨_, set_obj h1 _ _, by rw [Array.size_setIfInBounds, h2], fun j hj => ?_⟩
 rw [Array.getElem?_setIfInBounds, Array.getElem?_setIfInBounds, Array.getElem?_setIfInBounds, if_neg (show ¬ i * 3 + 1 = j * 3 by omega), if_neg (show ¬ i * 3 + 1 = j * 3 + 2 by omega)]
 by_cases e : i = j
 ·subst e
  rw [if_pos rfl, if_pos (by omega), if_pos rfl]
  exact ⟨(h3 i hj).1, rfl, (h3 i hj).2.2⟩
 ·rw [if_neg (by omega), if_neg (fun h => e h.symm)]
  exact h3 j hj
theorem IsT.setBase {w : World} {b t N : Nat} {sy bi ba : Nat → Nat} (h : IsT w b t N sy bi ba) (i x : Nat) : IsT (w.setCell ⟨b, i * 3 + 2, none⟩ (.int .u16 (x : Int))) b t N sy bi (fun j => if j = i then x else ba j) := by
 obtain ⟨cs, h1, h2, h3⟩ := h.obj
 refine ⟨_, set_obj h1 _ _, by rw [Array.size_setIfInBounds, h2], fun j hj => ?_⟩
 rw [Array.getElem?_setIfInBounds, Array.getElem?_setIfInBounds, Array.getElem?_setIfInBounds, if_neg (show ¬ i * 3 + 2 = j * 3 by omega), if_neg (show ¬ i * 3 + 2 = j * 3 + 1 by omega)]
 by_cases e : i = j
 ·subst e
  rw [if_pos rfl, if_pos (by omega), if_pos rfl]
  exact ⟨(h3 i hj).1, (h3 i hj).2.1, rfl⟩
 ·rw [if_neg (by omega), if_neg (fun h => e h.symm)]
  exact h3 j hj
theorem flat3 (n : Nat) (a b c : Value) : ((List.replicate n [a, b, c]).flatten).length = 3 * n ∧ ∀ i, i < n → ((List.replicate n [a, b, c]).flatten)[i * 3]? = some a ∧ ((List.replicate n [a, b, c]).flatten)[i * 3 + 1]? = some b ∧ ((List.replicate n [a, b, c]).flatten)[i * 3 + 2]? = some c := by
  induction n with
  | zero => exact ⟨rfl, fun i hi => by omega⟩
  | succ n ih =>
    rw [List.replicate_succ, List.flatten_cons]
    refine ⟨by rw [List.length_append, ih.1]; simp; omega, fun i hi => ?_⟩
    cases i with
    | zero => exact ⟨rfl, rfl, rfl⟩
    | succ i =>
      obtain ⟨a1, a2, a3⟩ := ih.2 i (by omega)
      refine ⟨?_, ?_, ?_⟩
      · rw [List.getElem?_append_right (by simp; omega)]; simpa [Nat.succ_mul] using a1
      · rw [List.getElem?_append_right (by simp; omega)]
        have e : (i + 1) * 3 + 1 - [a, b, c].length = i * 3 + 1 := by simp; omega
        rw [e]; exact a2
      · rw [List.getElem?_append_right (by simp; omega)]
        have e : (i + 1) * 3 + 2 - [a, b, c].length = i * 3 + 2 := by simp; omega
        rw [e]; exact a3
theorem isT_zeros (w : World) (t n : Nat) : IsT (w.alloc (.cells ((List.replicate n [Value.int .u8 0, Value.int .u8 0, Value.int .u16 0]).flatten).toArray t)) w.heap.size t n (fun _ => 0) (fun _ => 0) (fun _ => 0) := by
 obtain ⟨h1, h2⟩ := flat3 n (Value.int .u8 0) (Value.int .u8 0) (Value.int .u16 0)
 refine ⟨_, World.alloc_heap_new w _, by rw [List.size_toArray]; exact h1, fun i hi => ?_⟩
 simp only [List.getElem?_toArray]
 exact h2 i hi

end Go.Proofs.YtnjilcokkhodmaaGreatDoor

namespace Go.Proofs.YtnjilcokkhodmaaGreatDoor
open Go.RowKit Go.Shelf

def maxSem (ats : Array TypeId) (ty : TypeId) (args : Array Value) : Sem Value := Builtin.max_ ats ty args
theorem maxSem_eq (ats : Array TypeId) (ty : TypeId) (args : Array Value) : Builtin.max_ ats ty args = maxSem ats ty args := rfl
theorem maxSem_run (k : IntKind) (ats : Array TypeId) (ty : TypeId) (a b c : Int) (h : c = max a b) (w : World) : (maxSem ats ty #[.int k a, .int k b]).run Tryz.prog w = .ok (.int k c) w := by
 have e : (maxSem ats ty #[.int k a, .int k b]) = pure (.int k (if b > a then b else a)) := rfl
 rw [e, h, show max a b = (if b > a then b else a) from by split <;> omega]
 rfl
def minSem (ats : Array TypeId) (ty : TypeId) (args : Array Value) : Sem Value := Builtin.min_ ats ty args
theorem minSem_eq (ats : Array TypeId) (ty : TypeId) (args : Array Value) : Builtin.min_ ats ty args = minSem ats ty args := rfl
theorem minSem_run (k : IntKind) (ats : Array TypeId) (ty : TypeId) (a b c : Int) (h : c = min a b) (w : World) : (minSem ats ty #[.int k a, .int k b]).run Tryz.prog w = .ok (.int k c) w := by
 have e : (minSem ats ty #[.int k a, .int k b]) = pure (.int k (if b < a then b else a)) := rfl
 rw [e, h, show min a b = (if b < a then b else a) from by split <;> omega]
 rfl

/-- Where setSymbols stands: the states' symbols f, the row r, the box of the slice. -/
structure SS (w W : World) (S cb bx : Nat) (f : Nat → Option Nat) (r : Nat → Int) : Prop where
 tab : IsT W cb 215 4096 (fun j => (f j).getD 0) (fun _ => 0) (fun _ => 0)
 row : IsA W (bx + 1) 246 .u8 4096 r
 box : W.heap[bx]? = some (.cells #[.slice (some ⟨cb, 0, none⟩) S 4096] 36 (0, 0))
 keep : Keep (fun k => k = cb) w W
theorem SS.keeps {w W W' : World} {S cb bx : Nat} {f : Nat → Option Nat} {r : Nat → Int} (h : SS w W S cb bx f r) (hk : Keep noBlock W W') : SS w W' S cb bx f r :=
 ⟨h.tab.keep hk (fun h => h), h.row.keep hk (fun h => h), hk.obj h.box (fun h => h), h.keep.trans hk (fun _ _ h => h.elim)⟩
theorem SS.setSym {w W : World} {S cb bx : Nat} {f : Nat → Option Nat} {r : Nat → Int} (h : SS w W S cb bx f r) (hcb : cb < bx) (i s : Nat) : SS w (W.setCell ⟨cb, i * 3, none⟩ (.int .u8 (s : Int))) S cb bx (upd f i s) r := by
 have hk : Keep (fun k => k = cb) W (W.setCell ⟨cb, i * 3, none⟩ (.int .u8 (s : Int))) := Keep.setCell (S := fun k => k = cb) (p := ⟨cb, i * 3, none⟩) (Keep.refl _ W) (fun _ => rfl) _
 refine ⟨(h.tab.setSym i s).congr (fun j _ => ?_) (fun _ _ => rfl) (fun _ _ => rfl), h.row.keep hk (by omega), hk.obj h.box (by omega), h.keep.trans hk (fun _ _ h => h)⟩
 simp only [upd]; split <;> rfl
theorem SS.setRow {w W : World} {S cb bx : Nat} {f : Nat → Option Nat} {r : Nat → Int} (h : SS w W S cb bx f r) (hcb : cb < bx) (hw : w.heap.size ≤ bx) (i : Nat) (s : Int) : SS w (W.setCell ⟨bx + 1, i, none⟩ (.int .u8 s)) S cb bx f (fun j => if j = i then s else r j) := by
 have hk : Keep (fun k => k = bx + 1) W (W.setCell ⟨bx + 1, i, none⟩ (.int .u8 s)) := Keep.setCell (S := fun k => k = bx + 1) (p := ⟨bx + 1, i, none⟩) (Keep.refl _ W) (fun _ => rfl) _
 exact ⟨h.tab.keep hk (by omega), h.row.set i s, hk.obj h.box (by omega), h.keep.trans hk (fun i hi e => by omega)⟩

theorem own_obj {B : Nat} {X Y : World} {row : Option Nat} {b : Nat} {o : Obj} (hg : X.grownBy Y row) (hr : ∀ r, row = some r → B ≤ r ∧ ∃ o, X.heap[r]? = some o ∧ o.isCells = false) (h : X.heap[b]? = some o) (hc : o.isCells = true) : Y.heap[b]? = some o := by
 refine (hg.block b (obj_lt h) (fun e => ?_)).trans h
 obtain ⟨_, o', h1, h2⟩ := hr b e.symm
 rw [h] at h1
 cases h1
 rw [hc] at h2
 cases h2
theorem PBox.own {B Bs Bh S H : Nat} {X Y : World} {row : Option Nat} (h : PBox Bs Bh S H X) (hg : X.grownBy Y row) (hr : ∀ r, row = some r → B ≤ r ∧ ∃ o, X.heap[r]? = some o ∧ o.isCells = false) : PBox Bs Bh S H Y :=
 ⟨own_obj hg hr h.1 rfl, own_obj hg hr h.2 rfl⟩
theorem SS.own {B : Nat} {w X Y : World} {S cb bx : Nat} {f : Nat → Option Nat} {r : Nat → Int} {row : Option Nat} (h : SS w X S cb bx f r) (hB : w.heap.size ≤ B) (hg : X.grownBy Y row) (hr : ∀ r, row = some r → B ≤ r ∧ ∃ o, X.heap[r]? = some o ∧ o.isCells = false) : SS w Y S cb bx f r := by
 obtain ⟨cs, h1, h2⟩ := h.tab.obj
 obtain ⟨ds, d1, d2⟩ := h.row.obj
 exact ⟨⟨cs, own_obj hg hr h1 rfl, h2⟩, ⟨ds, own_obj hg hr d1 rfl, d2⟩, own_obj hg hr h.box rfl, h.keep.grown hg (fun k e hk => by have := (hr k e).1; omega)⟩

section
attribute [local go_sem] Oper.semAt_some
attribute [local go_sem] maxSem_eq
set_option maxRecDepth 100000 in
set_option maxHeartbeats 4000000 in
theorem setSymbols_any (cb S : Nat) (xs : List Int) (a : Option Addr) (cap gb off : Nat) (w : World) (hT : IsT w cb 215 4096 (fun _ => 0) (fun _ => 0) (fun _ => 0)) (hR : RowI w .i16 a cap gb off xs) (hgb : xs ≠ [] → gb ≠ cb) (hTab : Tab xs S) :
  Calls Tryz.prog 118 #[.slice (some ⟨cb, 0, none⟩) S 4096, .slice a xs.length cap] w fun e w' => e = .returned (.tuple #[]) ∧ IsT w' cb 215 4096 (symF xs S) (fun _ => 0) (fun _ => 0) ∧ Keep (fun k => k = cb) w w' := by
 have hcb := hT.lt
 obtain ⟨l, hS, hl5, hl12⟩ := hTab.log
 have hSb : S ≤ 4096 := by rw [hS]; exact Nat.pow_le_pow_right (n := 2) (j := 12) (by omega) hl12
 obtain ⟨v, ho⟩ := odd_pow l hl5 hl12
 rw [← hS] at ho
 have HH := (show Hid (RowI w .i16 a cap gb off xs ∧ (xs ≠ [] → gb ≠ cb) ∧ Tab xs S ∧ Odd S v ∧ S ≤ 4096) from ⟨hR, hgb, hTab, ho, hSb⟩)
 have hlen := hTab.len
 have hmx : Tryz.prog.follows .mixedOrders = true := by kernel_rfl
 have hc1 : ((w.alloc (.cells #[.slice (some ⟨cb, 0, none⟩) S 4096] 36)).alloc (.cells Tryz.zeroCells246 246)).cell? ⟨w.heap.size, 0, none⟩ = some (.slice (some ⟨cb, 0, none⟩) S 4096) := by
  have e := alloc_far (World.alloc_heap_new w (.cells #[.slice (some ⟨cb, 0, none⟩) S 4096] 36)) (.cells Tryz.zeroCells246 246)
  exact cell_of e 0
 have hss : SS w ((w.alloc (.cells #[.slice (some ⟨cb, 0, none⟩) S 4096] 36)).alloc (.cells Tryz.zeroCells246 246)) S cb w.heap.size (rareF xs S 0) (fun _ => 0) := by
  have hk : Keep noBlock w ((w.alloc (.cells #[.slice (some ⟨cb, 0, none⟩) S 4096] 36)).alloc (.cells Tryz.zeroCells246 246)) := ((Keep.refl _ w).alloc _).alloc _
  refine ⟨hT.keep hk (fun h => h), ?_, alloc_far (World.alloc_heap_new w _) _, hk.mono (fun _ _ h => h.elim)⟩
  have := isA_zeros (w.alloc (.cells #[.slice (some ⟨cb, 0, none⟩) S 4096] 36)) 246 .u8 4096
  rw [World.size_alloc] at this
  rw [zero103]
  exact this
 have HSS := (show Hid (SS w _ S cb w.heap.size (rareF xs S 0) (fun _ => 0)) from hss)
 obtain ⟨n, hn⟩ : ∃ n, n = xs.length := ⟨_, rfl⟩
 rw [← hn] at hlen ⊢
 have HN := (show Hid (n = xs.length) from hn)
 clear hT hR hgb hTab hn hss ho hS
 refine (callsIn_wide (n := 4)).1 ?_
 refine callsIn_of_wp_marks Tryz.func118 rfl trivial ?_ rfl
 simp only [Tryz.ntmps118, List.size_toArray, List.length_cons, List.length_nil, Nat.reduceAdd, Nat.reduceSub, Array.replicate_succ, Array.replicate_zero, List.push_toArray, List.append_toArray, List.nil_append, List.cons_append]
 gi_wp2_with fail
 generalize (w.alloc (.cells #[.slice (some ⟨cb, 0, none⟩) S 4096] 36)).alloc (.cells Tryz.zeroCells246 246) = W1 at hc1 HSS ⊢

 gi_quiet (fail)
 have HS2 := (show Hid (SS w (W1.drewN nq) S cb w.heap.size (rareF xs S 0) (fun _ => 0)) from HSS.out.keeps (keep_drewN W1 nq))
 clear hc1 HSS
 generalize W1.drewN nq = W2 at HS2 ⊢
 obtain ⟨bx, hbx⟩ : ∃ bx, bx = w.heap.size := ⟨_, rfl⟩
 rw [← hbx] at HS2 hcb ⊢
 have HBX := (show Hid (bx = w.heap.size) from hbx)
 clear hbx
 gi_wp2_with fail
 gi_loopw [5, 6, 15] (fun v5 v6 v15 wr => ∃ (i m h : Nat) (r : Nat → Int), v15 = .int .i64 (i : Int) ∧ v5 = .int .i64 (m : Int) ∧ v6 = .int .i64 (h : Int) ∧ i ≤ n ∧
  Hid (m = (rowL xs i).length ∧ h + nr xs i = S ∧ (∀ j, j < m → r j = (((rowL xs i)[j]?.getD 0 : Nat) : Int)) ∧ SS w wr S cb bx (rareF xs S i) r)) (fun _ _ v15 _ => n - (intOf v15).toNat)
 case atStart => exact ⟨0, 0, S, fun _ => 0, rfl, rfl, rfl, Nat.zero_le _, rfl, rfl, fun j hj => by omega, HS2.out⟩
 case round =>
  clear HS2
  obtain ⟨i, m, h, r, rfl, rfl, rfl, hi, HC⟩ := hrel
  by_cases hlt : i < n
  ·obtain ⟨hm, hh, hr, hss⟩ := HC.out
   obtain ⟨hR, hgb, hTab, ho, -⟩ := HH.out
   have hix : i < xs.length := by have := HN.out; omega
   have hR2 := hR.keep hss.keep hgb
   obtain rfl := hR2.here hix
   have c0 := hR2.cells i hix
   have hlow := hTab.low i hix
   have hrow := hTab.row
   have hrl := rowL_grow xs (i + 1) xs.length (by omega)
   have hnr := cntP_mono (isRare xs) (i + 1) xs.length (by omega)
   have hns := nr_succ xs i
   have hrs : rowL xs (i + 1) = rowL xs i ++ List.replicate (xs[i]?.getD 0).toNat i := rfl
   have hfs : rareF xs S (i + 1) = if xs[i]?.getD 0 = -1 then upd (rareF xs S i) (S - nr xs (i + 1)) i else rareF xs S i := rfl
   have hrlen : (rowL xs (i + 1)).length + nr xs (i + 1) ≤ S := by
    obtain ⟨T, hT⟩ := hrl
    rw [hT, List.length_append] at hrow
    unfold nr at hrow ⊢
    omega
   obtain ⟨c, hc⟩ : ∃ c, c = xs[i]?.getD 0 := ⟨_, rfl⟩
   rw [← hc] at c0 hlow hns hrs hfs
   have hrsl : (rowL xs (i + 1)).length = m + c.toNat := by rw [hrs, List.length_append, List.length_replicate, hm]
   have hcb2 : c ≤ 4096 := by omega
   have hltI : (i : Int) < (n : Int) := by omega
   have hi256 : (i : Int) < 256 := by omega
   have hnI : (n : Int) ≤ 256 := by omega
   have hmx2 : ∀ W, _ := fun W => maxSem_run .i16 #[131, 131] 131 c 0 ((c.toNat : Nat) : Int) (by omega) W
   obtain ⟨cn, hcn⟩ : ∃ cn, cn = c.toNat := ⟨_, rfl⟩
   rw [← hcn] at hmx2 hrs hrsl
   have hmb : m + cn ≤ 4096 := by omega
   have HR := (show Hid (rowL xs (i + 1) = rowL xs i ++ List.replicate cn i ∧ m = (rowL xs i).length ∧ (∀ j, j < m → r j = (((rowL xs i)[j]?.getD 0 : Nat) : Int)) ∧ cn = c.toNat) from ⟨hrs, hm, hr, hcn⟩)
   by_cases hc1 : c = -1
   ·rw [if_pos hc1] at hns hfs
    obtain ⟨h2, hh2⟩ : ∃ h2, h = h2 + 1 := ⟨h - 1, by omega⟩
    have hhI : (h : Int) - 1 = (h2 : Int) := by omega
    have hh2S : (h2 : Int) < (S : Int) := by omega
    have hfr := hss.tab.frozen (h2 * 3)
    have cx : wr.cell? ⟨bx, 0, none⟩ = some (.slice (some ⟨cb, 0, none⟩) S 4096) := cell_of hss.box 0
    have hce := (hss.tab.cells h2 (by omega)).1
    have hss2 := hss.setSym hcb h2 i
    rw [show S - nr xs (i + 1) = h2 from by omega] at hfs
    rw [← hfs] at hss2
    have HSS := (show Hid (SS w (wr.setCell ⟨cb, h2 * 3, none⟩ (.int .u8 (i : Int))) S cb bx (rareF xs S (i + 1)) r ∧ h2 + nr xs (i + 1) = S) from ⟨hss2, by omega⟩)
    subst hc1
    clear hm hh hr hss hR hgb hTab ho hR2 hlow hrow hrl hnr hns hrs hfs hrlen hrsl hss2 HC hc hcn
    gi_wp2_with fail
    generalize wr.setCell ⟨cb, h2 * 3, none⟩ (.int .u8 (i : Int)) = W3 at HSS ⊢
    gi_loopw [5, 32] (fun v5 v32 wr => ∃ (q p : Nat) (r2 : Nat → Int), v32 = .int .i16 (q : Int) ∧ v5 = .int .i64 (p : Int) ∧ q ≤ cn ∧ Hid (p = m + q ∧ (∀ j, j < m → r2 j = r j) ∧ (∀ j, m ≤ j → j < m + q → r2 j = (i : Int)) ∧ SS w wr S cb bx (rareF xs S (i + 1)) r2)) (fun _ v32 _ => cn - (intOf v32).toNat)
    case atStart => exact ⟨0, m, r, rfl, rfl, Nat.zero_le _, rfl, fun _ _ => rfl, fun j h1 h2 => by omega, HSS.out.1⟩
    case round =>
     have HS3 := (show Hid (h2 + nr xs (i + 1) = S) from HSS.out.2)
     clear HSS
     obtain ⟨q, p, r2, rfl, rfl, hq, HC2⟩ := hrel
     obtain ⟨hp, hr1, hr2, hss⟩ := HC2.out
     have hp4 : p ≤ 4096 := by omega
     by_cases hql : q < cn
     ·have hqI : (q : Int) < (cn : Int) := by omega
      have hq2 : (q : Int) < 4096 := by omega
      have hpI : (p : Int) < 4096 := by omega
      have cp := hss.row.cell p (by omega)
      have fp := hss.row.frozen p
      have hss2 := hss.setRow hcb (by have := HBX.out; omega) p (i : Int)
      have HS4 := (show Hid (SS w (wr.setCell ⟨bx + 1, p, none⟩ (.int .u8 (i : Int))) S cb bx (rareF xs S (i + 1)) (fun j => if j = p then (i : Int) else r2 j)) from hss2)
      clear hp hr1 hr2 hss hss2
      gi_wp2_with fail
      go_roundw
      case rel =>
       obtain ⟨hp, hr1, hr2, -⟩ := HC2.out
       refine ⟨q + 1, p + 1, _, by go_num, by go_num, by omega, by omega, fun j hj => ?_, fun j h1 h2 => ?_, HS4.out⟩
       ·rw [if_neg (by omega)]; exact hr1 j hj
       ·split
        ·rfl
        ·exact hr2 j h1 (by omega)
      case measure => simp [intOf]; omega
     ·obtain rfl : q = cn := by omega
      have hqI : ¬ (q : Int) < (q : Int) := by omega
      clear hp hr1 hr2 hss
      gi_wp2_with fail
      go_roundw
      case rel =>
       obtain ⟨hp, hr1, hr2, hss⟩ := HC2.out
       obtain ⟨e1, e2, e3, -⟩ := HR.out
       refine ⟨i + 1, p, h2, r2, by go_num, rfl, rfl, by omega, by rw [e1, List.length_append, List.length_replicate, hp, e2], HS3.out, fun j hj => ?_, hss⟩
       rw [e1]
       by_cases hjm : j < m
       ·rw [List.getElem?_append_left (by omega), hr1 j hjm]; exact e3 j hjm
       ·rw [List.getElem?_append_right (by omega), List.getElem?_replicate, if_pos (by omega), hr2 j (by omega) (by omega)]; rfl
      case measure => simp [intOf]; omega
   ·rw [if_neg hc1] at hns hfs
    rw [← hfs] at hss
    obtain ⟨h2, hh2⟩ : ∃ h2, h2 = h := ⟨_, rfl⟩
    have hcb1 : (c == -1) = false := by simpa using hc1
    have HSS := (show Hid (SS w wr S cb bx (rareF xs S (i + 1)) r ∧ h2 + nr xs (i + 1) = S) from ⟨hss, by omega⟩)
    subst hh2
    clear hm hh hr hss hR hgb hTab ho hR2 hlow hrow hrl hnr hns hrs hfs hrlen hrsl HC hc hcn
    gi_wp2_with fail
    gi_loopw [5, 32] (fun v5 v32 wr => ∃ (q p : Nat) (r2 : Nat → Int), v32 = .int .i16 (q : Int) ∧ v5 = .int .i64 (p : Int) ∧ q ≤ cn ∧ Hid (p = m + q ∧ (∀ j, j < m → r2 j = r j) ∧ (∀ j, m ≤ j → j < m + q → r2 j = (i : Int)) ∧ SS w wr S cb bx (rareF xs S (i + 1)) r2)) (fun _ v32 _ => cn - (intOf v32).toNat)
    case atStart => exact ⟨0, m, r, rfl, rfl, Nat.zero_le _, rfl, fun _ _ => rfl, fun j h1 h2 => by omega, HSS.out.1⟩
    case round =>
     have HS3 := (show Hid (h2 + nr xs (i + 1) = S) from HSS.out.2)
     clear HSS
     obtain ⟨q, p, r2, rfl, rfl, hq, HC2⟩ := hrel
     obtain ⟨hp, hr1, hr2, hss⟩ := HC2.out
     have hp4 : p ≤ 4096 := by omega
     by_cases hql : q < cn
     ·have hqI : (q : Int) < (cn : Int) := by omega
      have hq2 : (q : Int) < 4096 := by omega
      have hpI : (p : Int) < 4096 := by omega
      have cp := hss.row.cell p (by omega)
      have fp := hss.row.frozen p
      have hss2 := hss.setRow hcb (by have := HBX.out; omega) p (i : Int)
      have HS4 := (show Hid (SS w (wr.setCell ⟨bx + 1, p, none⟩ (.int .u8 (i : Int))) S cb bx (rareF xs S (i + 1)) (fun j => if j = p then (i : Int) else r2 j)) from hss2)
      clear hp hr1 hr2 hss hss2
      gi_wp2_with fail
      go_roundw
      case rel =>
       obtain ⟨hp, hr1, hr2, -⟩ := HC2.out
       refine ⟨q + 1, p + 1, _, by go_num, by go_num, by omega, by omega, fun j hj => ?_, fun j h1 h2 => ?_, HS4.out⟩
       ·rw [if_neg (by omega)]; exact hr1 j hj
       ·split
        ·rfl
        ·exact hr2 j h1 (by omega)
      case measure => simp [intOf]; omega
     ·obtain rfl : q = cn := by omega
      have hqI : ¬ (q : Int) < (q : Int) := by omega
      clear hp hr1 hr2 hss
      gi_wp2_with fail
      go_roundw
      case rel =>
       obtain ⟨hp, hr1, hr2, hss⟩ := HC2.out
       obtain ⟨e1, e2, e3, -⟩ := HR.out
       refine ⟨i + 1, p, h2, r2, by go_num, rfl, rfl, by omega, by rw [e1, List.length_append, List.length_replicate, hp, e2], HS3.out, fun j hj => ?_, hss⟩
       rw [e1]
       by_cases hjm : j < m
       ·rw [List.getElem?_append_left (by omega), hr1 j hjm]; exact e3 j hjm
       ·rw [List.getElem?_append_right (by omega), List.getElem?_replicate, if_pos (by omega), hr2 j (by omega) (by omega)]; rfl
      case measure => simp [intOf]; omega
  ·obtain rfl : i = n := by omega
   obtain ⟨hm, hh, hr, hss⟩ := HC.out
   obtain ⟨hR, hgb, hTab, ho, -⟩ := HH.out
   have hnx := HN.out
   have cx : wr.cell? ⟨bx, 0, none⟩ = some (.slice (some ⟨cb, 0, none⟩) S 4096) := cell_of hss.box 0
   have hrow := hTab.row
   have hltI : ¬ (i : Int) < (i : Int) := by omega
   have HF := (show Hid (m = h ∧ SS w wr S cb bx (putF xs S h 0) r ∧ (∀ j, j < h → r j = ((rowAt xs j : Nat) : Int)) ∧ h = S - nr xs xs.length ∧ bx + 1 < wr.heap.size) from by
    have e : m = h := by rw [hnx] at hm hh; omega
    refine ⟨e, ?_, fun j hj => ?_, by rw [hnx] at hh; omega, hss.row.lt⟩
    ·show SS w wr S cb bx (rareF xs S xs.length) r
     rw [← hnx]; exact hss
    ·rw [hr j (by omega), hnx]; rfl)
   have hhS : h ≤ S := by omega
   clear hm hh hr hss hR hgb hTab hnx hrow HC HN
   gi_wp2_with fail
   refine ⟨trivial, (places_in Fence.wide 3 trivial rfl _ _ _).mono ?_⟩
   rintro e w4 ⟨rfl, rfl⟩
   obtain ⟨pb, hpb⟩ : ∃ pb, pb = wr.heap.size := ⟨_, rfl⟩
   have e1 := World.alloc_heap_new wr (.cells #[.int .i64 (S : Int)] 3)
   have e2 := World.alloc_heap_new (wr.alloc (.cells #[.int .i64 (S : Int)] 3)) (.cells #[.int .i64 (h : Int)] 3)
   have e3 := alloc_far e1 (.cells #[.int .i64 (h : Int)] 3)
   have hz4 : ((wr.alloc (.cells #[.int .i64 (S : Int)] 3)).alloc (.cells #[.int .i64 (h : Int)] 3)).heap.size = pb + 2 := by rw [World.size_alloc, World.size_alloc, hpb]
   rw [World.size_alloc] at e2
   have hk4 : Keep noBlock wr ((wr.alloc (.cells #[.int .i64 (S : Int)] 3)).alloc (.cells #[.int .i64 (h : Int)] 3)) := ((Keep.refl _ wr).alloc _).alloc _
   have hss4 := HF.out.2.1.keeps hk4
   have f5 : bx + 1 < wr.heap.size := HF.out.2.2.2.2
   have HF2 := (show Hid ((∀ j, j < h → r j = ((rowAt xs j : Nat) : Int)) ∧ h = S - nr xs xs.length) from ⟨HF.out.2.2.1, HF.out.2.2.2.1⟩)
   rw [← hpb] at e2 e3 f5 ⊢
   have HS4 := (show Hid (SS w _ S cb bx (putF xs S h 0) r ∧ PBox pb (pb + 1) S h _ ∧ _) from ⟨hss4, ⟨e3, e2⟩, hz4⟩)
   generalize (wr.alloc (.cells #[.int .i64 (S : Int)] 3)).alloc (.cells #[.int .i64 (h : Int)] 3) = W4 at HS4 ⊢
   clear e1 e2 e3 hz4 hk4 hss4 hpb HF cx
   gi_wp2
   have hz4 := HS4.out.2.2
   refine range_places (by omega) pb (pb + 1) S h v ho hSb hhS rfl rfl (fun k V => SS w V S cb bx (putF xs S h k) r ∧ PBox pb (pb + 1) S h V) (fun _ _ => False)
    (fun k a' _ => a' = { tmps := #[.slice (some ⟨cb, 0, none⟩) S 4096, .slice a i cap, .pointer (some ⟨bx, 0, none⟩), undef, .pointer (some ⟨bx + 1, 0, none⟩), .int .i64 (m : Int), .int .i64 (h : Int), u7, u8, .int .i64 (k : Int), .int .i64 ((place S h k : Nat) : Int), .slice (some ⟨cb, 0, none⟩) S 4096, .int .i64 (S : Int), .slice a i cap, .int .i64 (i : Int), .int .i64 (i : Int), .bool false, u17, u18, u19, u20, u21, u22, u23, u24, u25, u26, u27, u28, u29, u30, u31, u32, u33, u34, u35, u36, u37, u38, u39, u40, u41, .slice (some ⟨cb, 0, none⟩) S 4096, .int .i64 (S : Int), .int .i64 (h : Int), .func (.func 147) #[] #[.pointer (some ⟨pb, 0, none⟩), .pointer (some ⟨pb + 1, 0, none⟩)], .int .i64 (k : Int), .int .i64 ((place S h k : Nat) : Int), undef, undef, undef, undef, undef, undef, undef], defers := [] })
    (fun k V V' row hs hg hr => ⟨hs.1.own (by have := HBX.out; omega) hg hr, PBox.own hs.2 hg hr⟩) (fun _ _ _ _ h _ _ => h) (fun _ _ _ _ _ _ h _ _ => h)
    ⟨HS4.out.1, HS4.out.2.1⟩ (fun k V h => h.2) ?assign ?body ?done (fun _ _ h _ => h.elim)
   case assign =>
    intro k V K hk hi hK
    unfold placeV
    gi_wp2
    exact hK _ _ ⟨Nat.le_refl _, fun k' o _ ho _ => ho⟩ hi rfl
   case body =>
    rintro k a' V hk ⟨hss, hpbx⟩ rfl
    have hpl := place_lt ho h hhS k hk
    have cx : V.cell? ⟨bx, 0, none⟩ = some (.slice (some ⟨cb, 0, none⟩) S 4096) := cell_of hss.box 0
    have cr := hss.row.cell k (by omega)
    rw [HF2.out.1 k hk] at cr
    obtain ⟨x, hx⟩ : ∃ x, x = place S h k := ⟨_, rfl⟩
    obtain ⟨y, hy⟩ : ∃ y, y = rowAt xs k := ⟨_, rfl⟩
    rw [← hy] at cr
    rw [← hx] at hpl ⊢
    have fx := hss.tab.frozen (x * 3)
    have ct := (hss.tab.cells x (by omega)).1
    have hxI : (x : Int) < (S : Int) := by omega
    have hkI : (k : Int) < 4096 := by omega
    have hss2 := hss.setSym hcb x y
    have e : putF xs S h (k + 1) = upd (putF xs S h k) x y := by rw [hx, hy]; rfl
    rw [← e] at hss2
    have HG := (show Hid (SS w (V.setCell ⟨cb, x * 3, none⟩ (.int .u8 (y : Int))) S cb bx (putF xs S h (k + 1)) r ∧ PBox pb (pb + 1) S h V ∧ SS w V S cb bx (putF xs S h k) r) from ⟨hss2, hpbx, hss⟩)
    have fx2 : V.drew.frozen? ⟨cb, x * 3, none⟩ = false := fx
    have ct2 : V.drew.cell? ⟨cb, x * 3, none⟩ = _ := ct
    clear hss hpbx hss2 e hx hy HS4
    gi_wp2
    refine region_round (fun w' => w'.cell? ⟨bx, 0, none⟩ = some (.slice (some ⟨cb, 0, none⟩) S 4096) ∧ w'.cell? ⟨bx + 1, k, none⟩ = some (.int .u8 (y : Int))) (by kernel_rfl) hmx ⟨cx, cr⟩ (fun hS => ?_)
    refine wpAnyH_take (i := 0) (v := ?_) rfl (by kernel_rfl) (by kernel_rfl) (by kernel_rfl) (fun _ _ _ h => h) (Or.inl ⟨by rfl, ?_⟩) (by assumption) ?_
    rotate_left 1
    ·intro w hSw; (try dsimp only at hSw); (go_simp <;> with_reducible rfl)
    simp only [Act.put, List.getElem_toArray, List.getElem_cons_zero, List.setIfInBounds_toArray, List.set_cons_zero, List.set_cons_succ]
    refine wpAnyH_take (i := 1) (v := ?_) rfl (by kernel_rfl) (by kernel_rfl) (by kernel_rfl) (fun _ _ _ h => h) (Or.inl ⟨by rfl, ?_⟩) (by assumption) ?_
    rotate_left 1
    ·intro w hSw; (try dsimp only at hSw); (go_simp <;> with_reducible rfl)
    simp only [Act.put, List.getElem_toArray, List.getElem_cons_zero, List.getElem_cons_succ, List.setIfInBounds_toArray, List.set_cons_zero, List.set_cons_succ]
    refine wpAnyH_take (i := 2) (v := ?_) rfl (by kernel_rfl) (by kernel_rfl) (by kernel_rfl) (fun _ _ _ h => h) (Or.inl ⟨by rfl, ?_⟩) (by assumption) ?_
    rotate_left 1
    ·intro w hSw; (try dsimp only at hSw); (go_simp <;> with_reducible rfl)
    simp only [Act.put, List.getElem_toArray, List.getElem_cons_zero, List.getElem_cons_succ, List.setIfInBounds_toArray, List.set_cons_zero, List.set_cons_succ]
    refine wpAnyH_take (i := 3) (v := ?_) rfl (by kernel_rfl) (by kernel_rfl) (by kernel_rfl) (fun _ _ _ h => h) (Or.inl ⟨by rfl, ?_⟩) (by assumption) ?_
    rotate_left 1
    ·intro w hSw; (try dsimp only at hSw); (go_simp <;> with_reducible rfl)
    simp only [Act.put, List.getElem_toArray, List.getElem_cons_zero, List.getElem_cons_succ, List.setIfInBounds_toArray, List.set_cons_zero, List.set_cons_succ]
    refine wpAnyH_take (i := 4) (v := ?_) rfl (by kernel_rfl) (by kernel_rfl) (by kernel_rfl) (fun _ _ _ h => h) (Or.inl ⟨by rfl, ?_⟩) (by assumption) ?_
    rotate_left 1
    ·intro w hSw; (try dsimp only at hSw); (go_simp <;> with_reducible rfl)
    simp only [Act.put, List.getElem_toArray, List.getElem_cons_zero, List.getElem_cons_succ, List.setIfInBounds_toArray, List.set_cons_zero, List.set_cons_succ]
    refine wpAnyH_take (i := 5) (v := ?_) rfl (by kernel_rfl) (by kernel_rfl) (by kernel_rfl) (fun _ _ _ h => h) (Or.inl ⟨by rfl, ?_⟩) (by assumption) ?_
    rotate_left 1
    ·intro w hSw; (try dsimp only at hSw); (go_simp <;> with_reducible rfl)
    simp only [Act.put, List.getElem_toArray, List.getElem_cons_zero, List.getElem_cons_succ, List.setIfInBounds_toArray, List.set_cons_zero, List.set_cons_succ]
    refine wpAnyH_take (i := 6) (v := ?_) rfl (by kernel_rfl) (by kernel_rfl) (by kernel_rfl) (fun _ _ _ h => h) (Or.inl ⟨by rfl, ?_⟩) (by assumption) ?_
    rotate_left 1
    ·intro w hSw; (try dsimp only at hSw); (go_simp <;> with_reducible rfl)
    simp only [Act.put, List.getElem_toArray, List.getElem_cons_zero, List.getElem_cons_succ, List.setIfInBounds_toArray, List.set_cons_zero, List.set_cons_succ]
    refine wpAnyH_ready (rs := [7]) (by kernel_rfl) (by simp) ?_
    refine AllReadyH.cons rfl (fun K hK => ?_) AllReadyH.nil
    rw [if_pos (by rfl)]
    simp only [List.getElem_toArray, List.getElem_cons_zero, List.getElem_cons_succ]
    go_simp
    have hs3 := HG.out.2.2
    have hss4 : SS w (V.drew.setCell ⟨cb, x * 3, none⟩ (.int .u8 (y : Int))) S cb bx (putF xs S h (k + 1)) r := HG.out.1.keeps ⟨rfl, rfl, rfl, Nat.le_refl _, fun _ _ _ => rfl⟩
    refine hK.out _ _ ⟨cell_of hss4.box 0, (hss4.row.cell k (by omega)).trans (by rw [← cr, hs3.row.cell k (by omega)])⟩ (fun hS => ?_)
    refine wpAnyH_done (by kernel_rfl) ?_ _
    simp only [onward]
    have hss5 : SS w (V.setCell ⟨cb, x * 3, none⟩ (.int .u8 (y : Int))).drew S cb bx (putF xs S h (k + 1)) r := HG.out.1.keeps ⟨rfl, rfl, rfl, Nat.le_refl _, fun _ _ _ => rfl⟩
    have hkv : Keep (fun j => j = cb) V (V.setCell ⟨cb, x * 3, none⟩ (.int .u8 (y : Int))).drew := (Keep.setCell (S := fun j => j = cb) (p := ⟨cb, x * 3, none⟩) (Keep.refl _ V) (fun _ => rfl) _).drew
    have hb := HG.out.2.1
    refine ⟨⟨hkv.size, fun j o _ hjo hc => hkv.obj hjo ?_⟩, hss5, hkv.obj hb.1 (by omega), hkv.obj hb.2 (by omega)⟩
    rintro rfl
    obtain ⟨cs, hcs, _⟩ := hs3.tab.obj
    rw [hcs] at hjo; cases hjo; cases hc
   case done =>
    rintro V ⟨hss, hpbx⟩ hK
    gi_wp2
    refine ⟨by simp, .inl ⟨_, _, rfl, run_takeDeferred hK, ?_⟩⟩
    have hk : Keep (fun k => k = W4.heap.size) V (V.putObj W4.heap.size (.deferred none)) := (Keep.refl _ V).putObj _ _ (fun _ => rfl)
    refine ⟨_, results_none rfl _ _ _, rfl, ?_, ?_⟩
    ·have := hss.tab.keep hk (by omega)
     unfold symF symO
     rw [← HF2.out.2]
     exact this
    ·exact hss.keep.trans hk (fun j hj e => by have := HBX.out; omega)
end

end Go.Proofs.YtnjilcokkhodmaaGreatDoor

namespace Go.Proofs.YtnjilcokkhodmaaGreatDoor.Tl
open Go.RowKit Go.Shelf

attribute [local go_sem] Oper.semAt_some

set_option maxHeartbeats 1000000 in
theorem backwards_in (F : Fence) (n : Nat) (h20 : F.fn 91) (hro : F.round = none) (sa : Option Addr) (len cap : Nat) (fr to : Int) (w : World) :
  CallsIn F n Tryz.prog 91 #[.slice sa len cap, .int .i64 fr, .int .i64 to] w fun e w' => e = .returned (.func (.func 108) #[] #[.pointer (some ⟨w.heap.size + 1, 0, none⟩), .pointer (some ⟨w.heap.size + 2, 0, none⟩), .pointer (some ⟨w.heap.size, 0, none⟩)]) ∧
   w' = ((w.alloc (.cells #[.slice sa len cap] 22)).alloc (.cells #[.int .i64 fr] 3)).alloc (.cells #[.int .i64 to] 3) := by
 refine callsIn_of_wp Tryz.func91 rfl h20 ?_ hro
 simp only [Tryz.ntmps91, List.size_toArray, List.length_cons, List.length_nil, Nat.reduceAdd, Nat.reduceSub, Array.replicate_succ, Array.replicate_zero, List.push_toArray, List.append_toArray, List.nil_append, List.cons_append]
 gi_wp2
 go_ret
 exact ⟨rfl, rfl⟩

theorem wrap_div (c q : Nat) (hc : c < 18446744073709551616) : IntKind.u64.wrap ((c : Int) / 2 ^ q) = (c : Int) / 2 ^ q := by
 have e : ((c : Int) / 2 ^ q) = ((c / 2 ^ q : Nat) : Int) := by simp
 have h : c / 2 ^ q ≤ c := Nat.div_le_self _ _
 rw [e]
 generalize c / 2 ^ q = z at h ⊢
 rw [IntKind.wrap_u64]; omega

def bitBack (bs : List Nat) (fr j : Nat) : Fin 2 := ⟨bitAt bs (fr - 1 - j), bitAt_lt _ _⟩

set_option maxRecDepth 100000 in
set_option maxHeartbeats 1000000 in
theorem back1_in (F : Fence) (n : Nat) (h23 : F.fn 108) (hro : F.round = none) (hn : 1 ≤ n) (l Bs Bf Bt g cap : Nat) (sa : Option Addr) (bs : List Nat) (hsa : sa = some ⟨g, 0, none⟩ ∨ bs = []) (hlen : bs.length < 140737488355328) (hbs : ∀ j : Nat, bs[j]?.getD 0 < 256) (p m : Nat) (hp : p + m ≤ 8 * bs.length) (hm : m ≤ 56) (J Jx : List (Fin 2) → World → Prop)
  (hY : ∀ pre (b : Fin 2) W, J pre W → pre.length < m → YieldAt F (n - 1) Tryz.prog l #[.int .u64 (b.val : Int)] W fun e W' =>
   (e = .returned (.bool true) ∧ J (pre ++ [b]) W' ∧ Stay (fun k => k = Bs ∨ k = Bf ∨ k = Bt ∨ k = g) W W') ∨ (e = .returned (.bool false) ∧ Jx (pre ++ [b]) W'))
  (W : World) (hBs : W.heap[Bs]? = some (.cells #[.slice sa bs.length cap] 22 (0, 0))) (hBf : W.heap[Bf]? = some (.cells #[.int .i64 ((p + m : Nat) : Int)] 3 (0, 0))) (hBt : W.heap[Bt]? = some (.cells #[.int .i64 (p : Int)] 3 (0, 0)))
  (hg : ∀ j, j < bs.length → W.cell? ⟨g, j, none⟩ = some (.int .u8 (bs[j]?.getD 0 : Nat))) (h0 : J [] W) :
  CallsIn F n Tryz.prog 108 #[.func (.yield l) #[] #[], .pointer (some ⟨Bf, 0, none⟩), .pointer (some ⟨Bt, 0, none⟩), .pointer (some ⟨Bs, 0, none⟩)] W fun e W' => (∃ v, e = .returned v) ∧
   ((∃ ys, ys = upto (bitBack bs (p + m)) m ∧ J ys W') ∨ (∃ pre, True ∧ Jx pre W')) := by
 have hBf0 : W.cell? ⟨Bf, 0, none⟩ = some (.int .i64 ((p : Int) + (m : Int))) := by
  have := cell_of hBf 0
  simpa using this
 refine callsIn_of_wp Tryz.func108 rfl h23 ?_ hro
 simp only [Tryz.ntmps108, List.size_toArray, List.length_cons, List.length_nil, Nat.reduceAdd, Nat.reduceSub, Array.replicate_succ, Array.replicate_zero, List.push_toArray, List.append_toArray, List.nil_append, List.cons_append]
 gi_wp2
 gi_loopw [5] (fun i wr => ∃ k : Nat, k ≤ m ∧ i = .int .i64 ((p : Int) + m - 1 - k) ∧ J (upto (bitBack bs (p + m)) k) wr ∧ Stay (fun k => k = Bs ∨ k = Bf ∨ k = Bt ∨ k = g) W wr)
  (fun i _ => (intOf i + 1 - p).toNat)
 case atStart => exact ⟨0, Nat.zero_le _, by simp, h0, fun _ _ => rfl⟩
 case round =>
  obtain ⟨k, hk, rfl, hJs, hnx⟩ := hrel
  have hBs1 : wr.heap[Bs]? = _ := (hnx Bs (.inl rfl)).trans hBs
  have hBt1 : wr.heap[Bt]? = _ := (hnx Bt (.inr (.inr (.inl rfl)))).trans hBt
  have hcs : wr.cell? ⟨Bs, 0, none⟩ = some (.slice sa bs.length cap) := cell_of hBs1 0
  have hct : wr.cell? ⟨Bt, 0, none⟩ = some (.int .i64 (p : Int)) := cell_of hBt1 0
  by_cases hlt : k < m
  ·obtain ⟨fn, tmps, assign, body, hy, hR⟩ := hY _ (bitBack bs (p + m) k) wr hJs (by rw [upto_length]; exact hlt)
   obtain ⟨i, hi⟩ : ∃ i, p + m - 1 - k = i := ⟨_, rfl⟩
   have hii : (p : Int) + m - 1 - k = (i : Int) := by omega
   have hbb : ((bitBack bs (p + m) k).val : Nat) = bitAt bs i := by rw [← hi]; rfl
   rw [hbb] at hy
   have hidx : i / 8 < bs.length := by omega
   obtain rfl : sa = some ⟨g, 0, none⟩ := by
    rcases hsa with h | h
    ·exact h
    ·rw [h] at hidx; simp at hidx
   have hcg : wr.cell? ⟨g, i / 8, none⟩ = some (.int .u8 (bs[i / 8]?.getD 0 : Nat)) := (World.cell?_of_block (hnx g (.inr (.inr (.inr rfl))))).trans (hg _ hidx)
   obtain ⟨c, hc⟩ : ∃ c, bs[i / 8]?.getD 0 = c := ⟨_, rfl⟩
   obtain ⟨q, hq⟩ : ∃ q, i % 8 = q := ⟨_, rfl⟩
   have hc256 : c < 256 := by rw [← hc]; exact hbs _
   have hq8 : q < 8 := by omega
   have hba : bitAt bs i = bitOf c q := by unfold bitAt; rw [hc, hq]
   rw [hc] at hcg
   rw [hba] at hy
   have h7 : bits .and .i64 (i : Int) 7 = (q : Int) := by
    have := and_seven_i64 i (by omega)
    rw [hq] at this; exact this
   have hdI : (i : Int) / 8 = ((i / 8 : Nat) : Int) := by omega
   have hb1 := and_bit_u64 c q (by omega)
   have hwr := wrap_div c q (by omega)
   have hb3 := bitOf_lt c q
   have hpi : (p : Int) ≤ (i : Int) := by omega
   have HI := (show Hid _ from hii)
   rw [hii]
   have hil : i < 1125899906842624 := by omega
   generalize i / 8 = d at hcg hidx hdI
   clear hba hc hq hsa hbb hi hii
   gi_wp2
   refine hR.mono ?_
   rintro e W3 (⟨rfl, hJ3, hk3⟩ | ⟨rfl, hJx3⟩)
   ·gi_wp2
    go_roundw
    case rel => exact ⟨k + 1, by omega, by have := HI.out; simp; omega, by rw [upto_succ]; exact hJ3, hnx.trans hk3⟩
    case measure => simp [intOf]; omega
   ·gi_wp2
    refine bodyPost_ret (results_none rfl _ _ _) rfl ?_
    exact ⟨⟨_, rfl⟩, .inr ⟨_, trivial, hJx3⟩⟩
  ·obtain rfl : k = m := by omega
   have hend : (p : Int) + k - 1 - k = (p : Int) - 1 := by omega
   rw [hend]
   gi_wp2
   go_end0
   exact ⟨⟨_, rfl⟩, .inl ⟨_, rfl, hJs⟩⟩

end Go.Proofs.YtnjilcokkhodmaaGreatDoor.Tl

namespace Go.Proofs.YtnjilcokkhodmaaGreatDoor
open Go.RowKit Go.Shelf

def sliceLen : Value → Nat
 | .slice _ n _ => n
 | _ => 0

section
attribute [local go_sem] sliceSem_eq
end

end Go.Proofs.YtnjilcokkhodmaaGreatDoor

namespace Go.Proofs.YtnjilcokkhodmaaGreatDoor
open Go.RowKit Go.Shelf

theorem bits_take_i (rb g : Nat) (bs : List Nat) (p m x : Nat) (mi : Int) (hmi : mi = (m : Int)) (hm : m ≤ 56) (w : World) (h : IsR w rb g bs p) (hp : p + m ≤ 8 * bs.length) (hx : numAt bs p m = x) :
  Calls Tryz.prog 114 #[.pointer (some ⟨rb, 0, none⟩), .int .i64 mi] w fun e w' => e = .returned (.tuple #[.int .u64 (x : Int), .int .i64 0]) ∧ IsR w' rb g bs (p + m) ∧ Keep (fun k => k = rb) w w' := by
 subst hmi hx; exact bits_take rb g bs p m hm w h hp

end Go.Proofs.YtnjilcokkhodmaaGreatDoor

namespace Go.Proofs.YtnjilcokkhodmaaGreatDoor
open Go.RowKit Go.Shelf
set_option linter.unusedVariables false

/-- Whatever is cells, or lies below B, lies as it lay. -/
structure KeepN (B : Nat) (X Y : World) : Prop where
 os : Y.os = X.os
 tape : Y.tape = X.tape
 output : Y.output = X.output
 size : X.heap.size ≤ Y.heap.size
 block : ∀ k o, X.heap[k]? = some o → (k < B ∨ o.isCells = true) → Y.heap[k]? = some o
theorem KeepN.obj {B : Nat} {X Y : World} (h : KeepN B X Y) {b : Nat} {cs : Array Value} {t : TypeId} {fz : Nat × Nat} (hb : X.heap[b]? = some (.cells cs t fz)) : Y.heap[b]? = some (.cells cs t fz) := h.block b _ hb (.inr rfl)
theorem Keep.toN {X Y : World} (h : Keep noBlock X Y) (B : Nat) : KeepN B X Y := ⟨h.os, h.tape, h.output, h.size, fun k o hk _ => h.obj hk (fun h => h)⟩
theorem Keep.transN {w X Y : World} {S : Nat → Prop} {B : Nat} (h : Keep S w X) (k : KeepN B X Y) (hB : w.heap.size ≤ B) : Keep S w Y :=
 ⟨k.os.trans h.os, k.tape.trans h.tape, k.output.trans h.output, Nat.le_trans h.size k.size, fun i hi hs => by
  have e := h.block i hi hs
  rw [Array.getElem?_eq_getElem hi] at e ⊢
  exact k.block i _ e (.inl (by omega))⟩
theorem keepN_putObj {B l : Nat} {X : World} {o : Obj} (o' : Obj) (hB : B ≤ l) (hl : X.heap[l]? = some o) (hc : o.isCells = false) : KeepN B X (X.putObj l o') := by
 have hg := grownBy_putObj' X l o'
 refine ⟨hg.os, hg.tape, hg.output, hg.size, fun k o2 hk ho => (hg.block k (obj_lt hk) (fun e => ?_)).trans hk⟩
 cases e
 rw [hl] at hk; cases hk
 rcases ho with h | h
 ·omega
 ·rw [hc] at h; cases h

theorem range_iter {ι : Type} {n gf : Nat} {lb : Array Value} {g : Operand} {ps : Array Tmp} {assign body : Code} {Q : Exit → Act → World → Prop} {a : Act} {w : World} (hn : 3 ≤ n)
    (hg : a.eval g = .func (.func gf) #[] lb) (eg : ∀ args w, (callFunc gf args).run Tryz.prog w = .ok (.enter gf args) w)
    (R : ι → Array Value → ι → World → Prop) (E : ι → Prop) (i0 : ι) (I : ι → World → Prop)
    (hit : ∀ (l : Nat) (J : ι → World → Prop) (Jx : World → Prop) (W : World), KeepN w.heap.size w W → (∀ i V, J i V → I i V) → (∀ i X Y, J i X → Keep noBlock X Y → J i Y) →
      (∀ i vs i' V, R i vs i' V → J i V → YieldAt Fence.wide (n - 1 - 1) Tryz.prog l vs V fun e V' => (e = .returned (.bool true) ∧ J i' V') ∨ (e = .returned (.bool false) ∧ Jx V')) → J i0 W →
      CallsIn Fence.wide (n - 1) Tryz.prog gf (#[.func (.yield l) #[] #[]] ++ lb) W fun e W' => (∃ v, e = .returned v) ∧ ((∃ i, E i ∧ J i W') ∨ Jx W'))
    (hps : ∀ i vs i' V, R i vs i' V → vs.size = ps.size)
    (X : Code → World → Prop) (A : ι → Array Value → ι → Act → World → Prop)
    (hI : ∀ i U V, I i U → KeepN w.heap.size U V → I i V) (hX : ∀ c U V, X c U → KeepN w.heap.size U V → X c V) (hA : ∀ i vs i' a' U V, A i vs i' a' U → KeepN w.heap.size U V → A i vs i' a' V) (h0 : I i0 w)
    (hassign : ∀ i vs i' V (K : Act → World → Prop), R i vs i' V → I i V → (∀ a' V', KeepsFrom w.heap.size V V' → I i V' → A i vs i' a' V' → K a' V') →
      assign.wpIn (Fence.wide.inRound (w.heap.size + 1)) (n - 1 - 1) Tryz.prog (Exit.then K (fun _ _ _ => False)) { tmps := (ps.zip vs).foldl (fun t (p, v) => t.setIfInBounds p v) a.tmps, defers := [] } V)
    (hbody : ∀ i vs i' a' V, I i V → A i vs i' a' V → body.wpIn (Fence.wide.inRound (w.heap.size + 1)) (n - 1 - 1) Tryz.prog (goesOn w.heap.size (I i') X V) a' V)
    (hdone : ∀ i V, E i → I i V → V.heap[w.heap.size]? = some (.deferred (some [])) → Q .normal { a with defers := { target := .collected w.heap.size, args := #[] } :: a.defers } V)
    (hstop : ∀ j V, X j V → V.heap[w.heap.size]? = some (.deferred (some [])) → j.wpIn Fence.wide n Tryz.prog Q { a with defers := { target := .collected w.heap.size, args := #[] } :: a.defers } V) :
    (Code.rangeFunc g ps assign body).wpIn Fence.wide n Tryz.prog Q a w := by
  refine wpIn_rangeFunc fun fn hfn => ?_
  -- the loop's record
  obtain ⟨mk, hmk⟩ : ∃ mk : LoopState → Option Code → Obj, mk = fun st pe => .loop { state := st, pending := pe, fn, tmps := a.tmps, params := ps, assign, body, defers := w.heap.size } := ⟨_, rfl⟩
  have mkc : ∀ st pe, (mk st pe).isCells = false := fun st pe => by rw [hmk]; rfl
  obtain ⟨V1, hV1⟩ : ∃ V1, V1 = (w.alloc (.deferred (some []))).alloc (mk .ready none) := ⟨_, rfl⟩
  have hsz : (w.alloc (.deferred (some []))).heap.size = w.heap.size + 1 := World.size_alloc _ _
  have hrec : V1.heap[w.heap.size + 1]? = some (mk .ready none) := by rw [hV1, ← hsz]; exact World.alloc_heap_new _ _
  have hdef : V1.heap[w.heap.size]? = some (.deferred (some [])) := by rw [hV1]; exact alloc_far (World.alloc_heap_new w _) _
  have hK1 : KeepN w.heap.size w V1 := by rw [hV1]; exact (((Keep.refl noBlock w).alloc _).alloc _).toN _
  have hI1 : I i0 V1 := hI _ _ _ h0 hK1
  refine ⟨w.heap.size + 1, [{ target := .collected w.heap.size, args := #[] }], V1, { target := .fn (.func gf) lb, args := #[.func (.yield (w.heap.size + 1)) #[] #[]] }, V1, gf,
    #[.func (.yield (w.heap.size + 1)) #[] #[]] ++ lb, V1, ?_, ?_, fun _ _ => trivial, ?_, fun _ => by omega, ?_⟩
  · rw [hV1, hmk]; exact run_enterLoop_outer _ _ _ _ _
  · simp only [resolve, hg]
    simp [go_sem]
  · simp [invoke, go_sem, eg]
  · refine (hit (w.heap.size + 1)
      (fun i V => I i V ∧ V.heap[w.heap.size + 1]? = some (mk .ready none) ∧ V.heap[w.heap.size]? = some (.deferred (some [])))
      (fun V => ∃ j, X j V ∧ V.heap[w.heap.size + 1]? = some (mk .done (some j)) ∧ V.heap[w.heap.size]? = some (.deferred (some [])))
      V1 hK1 (fun i V h => h.1) (fun i U V h hk => ⟨hI _ _ _ h.1 (hk.toN _), hk.obj h.2.1 (fun h => h), hk.obj h.2.2 (fun h => h)⟩) ?_ ⟨hI1, hrec, hdef⟩).mono ?_
    · rintro i vs i' V hR ⟨hi, hl, hd⟩
      have hy := run_yield (P := Tryz.prog) (args := vs) (by rw [hmk] at hl; exact hl) (by simp [hps i vs i' V hR])
      refine ⟨fn, _, assign, body, hy, roundIn_of_wpIn hfn (hassign i vs i' V _ hR hi fun a' V2 hkf hi2 hax => ?_)⟩
      have hl2 := hkf.same _ _ (Nat.le_succ _) hl (mkc _ _)
      have hd2 := hkf.same _ _ (Nat.le_refl _) hd rfl
      have hlt : w.heap.size + 1 < V2.heap.size := obj_lt hl2
      have hbr := run_beginRound (P := Tryz.prog) (by rw [hmk] at hl2; exact hl2) rfl
      refine ⟨_, hbr, ?_⟩
      obtain ⟨V3, hV3⟩ : ∃ V3, V3 = V2.putObj (w.heap.size + 1) (mk .busy none) := ⟨_, rfl⟩
      have hl3 : V3.heap[w.heap.size + 1]? = some (mk .busy none) := by rw [hV3]; exact World.putObj_heap_same hlt
      have hd3 : V3.heap[w.heap.size]? = some (.deferred (some [])) := by rw [hV3]; exact (World.putObj_heap_other (by omega)).trans hd2
      have hk3 : KeepN w.heap.size V2 V3 := by rw [hV3]; exact keepN_putObj _ (Nat.le_succ _) hl2 (mkc _ _)
      have hi3 : I i V3 := hI _ _ _ hi2 hk3
      have hx3 : A i vs i' a' V3 := hA _ _ _ _ _ _ hax hk3
      have hb := hbody i vs i' a' V3 hi3 hx3
      rw [hV3, hmk] at hb
      refine wpIn_mono hb ?_
      -- however the round ends, the record is turned
      have fin : ∀ (j : Option Code) (V4 : World), KeepsFrom w.heap.size V3 V4 → (Instr.endRound (w.heap.size + 1) j).run Tryz.prog V4 = .ok (.bool j.isNone) (V4.putObj (w.heap.size + 1) (mk (if j.isNone then .ready else .done) j)) ∧
          V4.heap[w.heap.size + 1]? = some (mk .busy none) ∧ (V4.putObj (w.heap.size + 1) (mk (if j.isNone then .ready else .done) j)).heap[w.heap.size + 1]? = some (mk (if j.isNone then .ready else .done) j) ∧
          (V4.putObj (w.heap.size + 1) (mk (if j.isNone then .ready else .done) j)).heap[w.heap.size]? = some (.deferred (some [])) := by
        intro j V4 h4
        have hl4 := h4.same _ _ (Nat.le_succ _) hl3 (mkc _ _)
        have hr := run_endRound (P := Tryz.prog) j (by rw [hmk] at hl4; exact hl4)
        refine ⟨?_, hl4, World.putObj_heap_same (obj_lt hl4), (World.putObj_heap_other (by omega)).trans (h4.same _ _ (Nat.le_refl _) hd3 rfl)⟩
        rw [hmk]; exact hr
      intro e a4 V4 hp
      have hp' : goesOn w.heap.size (I i') X V3 e a4 V4 := by rw [hV3, hmk]; exact hp
      clear hp hb
      cases e with
      | normal =>
        obtain ⟨r1, r2, r3, r4⟩ := fin none V4 hp'.1
        exact ⟨_, _, r1, .inl ⟨rfl, hI _ _ _ hp'.2 (keepN_putObj _ (Nat.le_succ _) r2 (mkc _ _)), r3, r4⟩⟩
      | ret =>
        obtain ⟨r1, r2, r3, r4⟩ := fin (some .ret) V4 hp'.1
        exact ⟨_, _, r1, .inr ⟨rfl, .ret, hX _ _ _ hp'.2 (keepN_putObj _ (Nat.le_succ _) r2 (mkc _ _)), r3, r4⟩⟩
      | exit i =>
        obtain ⟨r1, r2, r3, r4⟩ := fin (some (.exit i)) V4 hp'.1
        exact ⟨_, _, r1, .inr ⟨rfl, .exit i, hX _ _ _ hp'.2 (keepN_putObj _ (Nat.le_succ _) r2 (mkc _ _)), r3, r4⟩⟩
      | goto t => exact hp'.elim
      | panic ch => exact hp'.elim
      | outgrown => exact hp'.elim
    · rintro e V ⟨⟨v, rfl⟩, (⟨i, hE, hi, hl, hd⟩ | ⟨j, hj, hl, hd⟩)⟩
      · have hr := run_endLoop (P := Tryz.prog) (by rw [hmk] at hl; exact hl) (by simp)
        exact ⟨none, _, hr, hdone i _ hE (hI _ _ _ hi (keepN_putObj _ (Nat.le_succ _) hl (mkc _ _))) ((World.putObj_heap_other (by omega)).trans hd)⟩
      · have hr := run_endLoop (P := Tryz.prog) (by rw [hmk] at hl; exact hl) (by simp)
        exact ⟨some j, _, hr, hstop j _ (hX _ _ _ hj (keepN_putObj _ (Nat.le_succ _) hl (mkc _ _))) ((World.putObj_heap_other (by omega)).trans hd)⟩

end Go.Proofs.YtnjilcokkhodmaaGreatDoor

namespace Go.Proofs.YtnjilcokkhodmaaGreatDoor
open Go.RowKit Go.Shelf

def sumN (g : Nat → Nat) : Nat → Nat
 | 0 => 0
 | n + 1 => sumN g n + g n
theorem sumN_congr (g h : Nat → Nat) (n : Nat) (e : ∀ i, i < n → g i = h i) : sumN g n = sumN h n := by
 induction n with
 | zero => rfl
 | succ n ih => simp only [sumN]; rw [ih (fun i hi => e i (by omega)), e n (by omega)]
theorem sumN_ge (g : Nat → Nat) (n i : Nat) (hi : i < n) : g i ≤ sumN g n := by
  induction n with
  | zero => omega
  | succ n ih =>
    simp only [sumN]
    by_cases e : i = n
    · subst e; omega
    · have := ih (by omega); omega
theorem sumN_two (g : Nat → Nat) (n i j : Nat) (hi : i < n) (hj : j < n) (hne : i ≠ j) : g i + g j ≤ sumN g n := by
  induction n with
  | zero => omega
  | succ n ih =>
    simp only [sumN]
    by_cases e : i = n
    · have := sumN_ge g n j (by omega); subst e; omega
    · by_cases e2 : j = n
      · have := sumN_ge g n i (by omega); subst e2; omega
      · have := ih (by omega) (by omega); omega
theorem sumN_le (g : Nat → Nat) (n B : Nat) (h : ∀ i, i < n → g i ≤ B) : sumN g n ≤ n * B := by
  induction n with
  | zero => simp [sumN]
  | succ n ih =>
    simp only [sumN]
    have h1 := ih (fun i hi => h i (by omega))
    have h2 := h n (by omega)
    rw [Nat.succ_mul]; omega
theorem sumN_mono (g h : Nat → Nat) (n : Nat) (e : ∀ i, i < n → g i ≤ h i) : sumN g n ≤ sumN h n := by
 induction n with
 | zero => simp [sumN]
 | succ n ih => simp only [sumN]; have := ih (fun i hi => e i (by omega)); have := e n (by omega); omega

end Go.Proofs.YtnjilcokkhodmaaGreatDoor

namespace Go.Proofs.YtnjilcokkhodmaaGreatDoor
open Go

theorem sumN_add (g h : Nat → Nat) (n : Nat) : sumN (fun i => g i + h i) n = sumN g n + sumN h n := by
 induction n with
 | zero => rfl
 | succ n ih => simp only [sumN]; omega
theorem sumN_pos (g : Nat → Nat) (n : Nat) (h : 0 < sumN g n) : ∃ i, i < n ∧ 0 < g i := by
  induction n with
  | zero => simp [sumN] at h
  | succ n ih =>
    simp only [sumN] at h
    by_cases h0 : 0 < g n
    · exact ⟨n, by omega, h0⟩
    · obtain ⟨i, h1, h2⟩ := ih (by omega)
      exact ⟨i, by omega, h2⟩

def wt (ws : List Nat) (i : Nat) : Nat := ws[i]?.getD 0
def shN (x : Nat) : Nat := if x = 0 then 0 else 2 ^ (x - 1)
theorem shN_le (x : Nat) (h : x ≤ 11) : shN x ≤ 1024 := by
 unfold shN
 split
 ·omega
 ·exact Nat.pow_le_pow_right (n := 2) (j := 10) (by omega) (by omega)
theorem shN_pos (x : Nat) (h : x ≠ 0) : shN x = 2 ^ (x - 1) := if_neg h
theorem shN_succ (c : Nat) : shN (c + 1) = 2 ^ c := rfl
def sumW (ws : List Nat) (i : Nat) : Nat := sumN (fun j => shN (wt ws j)) i
def onesW (ws : List Nat) (i : Nat) : Nat := sumN (fun j => if wt ws j = 1 then 1 else 0) i
theorem onesW_le (ws : List Nat) (i : Nat) : onesW ws i ≤ i := by
 have := sumN_le (fun j => if wt ws j = 1 then 1 else 0) i 1 (fun j _ => by split <;> omega)
 unfold onesW; omega
theorem sumW_le (ws : List Nat) (i : Nat) (h : ∀ j, j < i → wt ws j ≤ 11) : sumW ws i ≤ i * 1024 := sumN_le _ _ _ (fun j hj => shN_le _ (h j hj))

/-- The weights make a code of 2^m. -/
structure IsCode (ws : List Nat) (m : Nat) : Prop where
 len2 : 2 ≤ ws.length
 len : ws.length ≤ 256
 last : wt ws (ws.length - 1) ≠ 0
 le : ∀ i, i < ws.length → wt ws i ≤ 11
 sum : sumW ws ws.length = 2 ^ m
 m11 : m ≤ 11
 ones : 2 ≤ onesW ws ws.length
def codeB (ws : List Nat) : Bool := decide (2 ≤ ws.length ∧ ws.length ≤ 256 ∧ wt ws (ws.length - 1) ≠ 0 ∧ (∀ i, i < ws.length → wt ws i ≤ 11) ∧ sumW ws ws.length = 2 ^ (lenN (sumW ws ws.length) - 1) ∧ lenN (sumW ws ws.length) - 1 ≤ 11 ∧ 2 ≤ onesW ws ws.length)
def codeM (ws : List Nat) : Nat := if codeB ws then lenN (sumW ws ws.length) - 1 else 0
theorem codeB_is {ws : List Nat} (h : codeB ws = true) : IsCode ws (lenN (sumW ws ws.length) - 1) := by
 obtain ⟨h1, h2, h3, h4, h5, h6, h7⟩ := of_decide_eq_true h
 exact ⟨h1, h2, h3, h4, h5, h6, h7⟩
theorem lenN_pow (m : Nat) : lenN (2 ^ m) = m + 1 := lenN_eq _ _ (Nat.le_refl _) (Nat.pow_lt_pow_right (by omega) (by omega))
theorem IsCode.codeB {ws : List Nat} {m : Nat} (h : IsCode ws m) : codeB ws = true ∧ lenN (sumW ws ws.length) - 1 = m := by
 have e : lenN (sumW ws ws.length) - 1 = m := by rw [h.sum, lenN_pow]; omega
 refine ⟨decide_eq_true ⟨h.len2, h.len, h.last, h.le, ?_, ?_, h.ones⟩, e⟩
 ·rw [e]; exact h.sum
 ·rw [e]; exact h.m11
theorem IsCode.codeM {ws : List Nat} {m : Nat} (h : IsCode ws m) : codeM ws = m := by
 unfold YtnjilcokkhodmaaGreatDoor.codeM; rw [if_pos h.codeB.1]; exact h.codeB.2
theorem ones_le_sum (ws : List Nat) (n : Nat) : onesW ws n ≤ sumW ws n := sumN_mono _ _ _ (fun i _ => by
 split
 ·rename_i e; rw [e]; exact Nat.le_refl _
 ·omega)
theorem IsCode.m1 {ws : List Nat} {m : Nat} (h : IsCode ws m) : 1 ≤ m := by
 have h1 := ones_le_sum ws ws.length
 have h2 := h.sum
 have h3 := h.ones
 rcases m with _ | m
 ·simp at h2; omega
 ·omega
theorem IsCode.wt_le {ws : List Nat} {m : Nat} (h : IsCode ws m) (i : Nat) (hi : i < ws.length) : wt ws i ≤ m := by
 have hm := h.m1
 by_cases hw : wt ws i ≤ m
 ·exact hw
 ·exfalso
  obtain ⟨k, hk, hk1⟩ := sumN_pos _ _ (show 0 < onesW ws ws.length by have := h.ones; omega)
  have hk2 : wt ws k = 1 := by
   by_cases e : wt ws k = 1
   ·exact e
   ·rw [if_neg e] at hk1; omega
  have hne : i ≠ k := by rintro rfl; omega
  have := sumN_two (fun j => shN (wt ws j)) ws.length i k hi hk hne
  rw [hk2] at this
  have hs : sumN (fun j => shN (wt ws j)) ws.length = 2 ^ m := h.sum
  rw [hs, shN_pos _ (show wt ws i ≠ 0 by omega)] at this
  have h2 : 2 ^ m ≤ 2 ^ (wt ws i - 1) := Nat.pow_le_pow_right (by omega) (by omega)
  have : shN 1 = 1 := rfl
  omega

def symsW (ws : List Nat) (c : Nat) : Nat → List Nat
 | 0 => []
 | i + 1 => if wt ws i = c + 1 then symsW ws c i ++ [i] else symsW ws c i
def ordC (ws : List Nat) : Nat → List Nat
 | 0 => []
 | c + 1 => ordC ws c ++ symsW ws c ws.length
def ordTo (ws : List Nat) (c i : Nat) : List Nat := ordC ws c ++ symsW ws c i
theorem ordTo_zero (ws : List Nat) (c : Nat) : ordTo ws c 0 = ordC ws c := List.append_nil _
theorem ordTo_all (ws : List Nat) (c : Nat) : ordTo ws c ws.length = ordC ws (c + 1) := rfl
theorem ordTo_here (ws : List Nat) (c i : Nat) (h : wt ws i = c + 1) : ordTo ws c (i + 1) = ordTo ws c i ++ [i] := by
 simp only [ordTo, symsW]; rw [if_pos h, List.append_assoc]
theorem ordTo_not (ws : List Nat) (c i : Nat) (h : wt ws i ≠ c + 1) : ordTo ws c (i + 1) = ordTo ws c i := by
 simp only [ordTo, symsW]; rw [if_neg h]
theorem symsW_grow (ws : List Nat) (c i n : Nat) (h : i ≤ n) : ∃ r, symsW ws c n = symsW ws c i ++ r := by
  induction n with
  | zero => obtain rfl : i = 0 := by omega
            exact ⟨[], rfl⟩
  | succ n ih =>
    by_cases e : i = n + 1
    · subst e; exact ⟨[], (List.append_nil _).symm⟩
    · obtain ⟨r, hr⟩ := ih (by omega)
      simp only [symsW]
      split
      · exact ⟨r ++ [n], by rw [hr, List.append_assoc]⟩
      · exact ⟨r, hr⟩
theorem ordC_grow (ws : List Nat) (c d : Nat) (h : c ≤ d) : ∃ r, ordC ws d = ordC ws c ++ r := by
  induction d with
  | zero => obtain rfl : c = 0 := by omega
            exact ⟨[], rfl⟩
  | succ d ih =>
    by_cases e : c = d + 1
    · subst e; exact ⟨[], (List.append_nil _).symm⟩
    · obtain ⟨r, hr⟩ := ih (by omega)
      exact ⟨r ++ symsW ws d ws.length, by rw [ordC, hr, List.append_assoc]⟩
theorem ordTo_grow (ws : List Nat) (c i m : Nat) (hi : i ≤ ws.length) (hc : c < m) : ∃ r, ordC ws m = ordTo ws c i ++ r := by
 obtain ⟨r1, h1⟩ := symsW_grow ws c i ws.length hi
 obtain ⟨r2, h2⟩ := ordC_grow ws (c + 1) m (by omega)
 exact ⟨r1 ++ r2, by rw [h2, ordC, h1, ordTo, List.append_assoc, List.append_assoc, List.append_assoc]⟩

def cellsL (ws : List Nat) : List Nat → List Nat
 | [] => []
 | s :: l => List.replicate (shN (wt ws s)) s ++ cellsL ws l
theorem cellsL_app (ws : List Nat) (a b : List Nat) : cellsL ws (a ++ b) = cellsL ws a ++ cellsL ws b := by
 induction a with
 | nil => rfl
 | cons s a ih => rw [List.cons_append, cellsL, cellsL, ih, List.append_assoc]
theorem cellsL_one (ws : List Nat) (s : Nat) : cellsL ws [s] = List.replicate (shN (wt ws s)) s := by simp [cellsL]
def nextL (ws : List Nat) (l : List Nat) : Nat := (cellsL ws l).length
theorem nextL_app (ws : List Nat) (a b : List Nat) : nextL ws (a ++ b) = nextL ws a + nextL ws b := by unfold nextL; rw [cellsL_app, List.length_append]
theorem nextL_one (ws : List Nat) (s : Nat) : nextL ws [s] = shN (wt ws s) := by unfold nextL; rw [cellsL_one, List.length_replicate]
theorem nextL_syms (ws : List Nat) (c i : Nat) : nextL ws (symsW ws c i) = sumN (fun j => if wt ws j = c + 1 then shN (wt ws j) else 0) i ∧ ∃ k, nextL ws (symsW ws c i) = k * 2 ^ c := by
  induction i with
  | zero => exact ⟨rfl, 0, by rw [Nat.zero_mul]; rfl⟩
  | succ i ih =>
    obtain ⟨h1, k, h2⟩ := ih
    simp only [symsW, sumN]
    split
    · rename_i e
      rw [nextL_app, nextL_one]
      refine ⟨by rw [h1], k + 1, ?_⟩
      rw [h2, e, shN_succ, Nat.add_mul, Nat.one_mul]
    · exact ⟨by rw [h1]; rfl, k, h2⟩
theorem nextL_ordC (ws : List Nat) (c : Nat) : nextL ws (ordC ws c) = sumN (fun j => if 1 ≤ wt ws j ∧ wt ws j ≤ c then shN (wt ws j) else 0) ws.length := by
  induction c with
  | zero =>
    show 0 = _
    rw [sumN_congr _ (fun _ => 0) _ (fun i _ => if_neg (by omega))]
    have := sumN_le (fun _ => 0) ws.length 0 (fun _ _ => Nat.le_refl _)
    omega
  | succ c ih =>
    rw [ordC, nextL_app, ih, (nextL_syms ws c ws.length).1, ← sumN_add]
    refine sumN_congr _ _ _ (fun i _ => ?_)
    by_cases h1 : 1 ≤ wt ws i ∧ wt ws i ≤ c
    · rw [if_pos h1, if_neg (by omega), if_pos (by omega)]; rfl
    · rw [if_neg h1]
      by_cases h2 : wt ws i = c + 1
      · rw [if_pos h2, if_pos (by omega), Nat.zero_add]
      · rw [if_neg h2, if_neg (by omega)]
theorem IsCode.all {ws : List Nat} {m : Nat} (h : IsCode ws m) : nextL ws (ordC ws m) = 2 ^ m := by
 rw [nextL_ordC, ← h.sum]
 refine sumN_congr _ _ _ (fun i hi => ?_)
 have := h.wt_le i hi
 by_cases h1 : 1 ≤ wt ws i
 ·rw [if_pos ⟨h1, this⟩]
 ·rw [if_neg (by omega), show wt ws i = 0 from by omega]; rfl
def startW (ws : List Nat) (s : Nat) : Nat := nextL ws (ordTo ws (wt ws s - 1) s)
def wordX (ws : List Nat) (s : Nat) : Nat := startW ws s / 2 ^ (wt ws s - 1)
theorem IsCode.start_le {ws : List Nat} {m : Nat} (h : IsCode ws m) (s : Nat) (hs : s < ws.length) (h1 : 1 ≤ wt ws s) : startW ws s + 2 ^ (wt ws s - 1) ≤ 2 ^ m := by
 have hm := h.wt_le s hs
 obtain ⟨r, hr⟩ := ordTo_grow ws (wt ws s - 1) (s + 1) m (by omega) (by omega)
 have hall := h.all
 rw [hr, nextL_app, ordTo_here ws _ s (by omega), nextL_app, nextL_one, shN_pos _ (by omega)] at hall
 unfold startW
 omega
def symX (ws : List Nat) (m x : Nat) : Nat := (cellsL ws (ordC ws m))[x]?.getD 0
theorem sym_in (ws : List Nat) (c i x : Nat) (hi : i ≤ ws.length) (hx : x < nextL ws (ordTo ws c i))
    (h0 : x < nextL ws (ordC ws c) → ∃ s, (cellsL ws (ordC ws c))[x]? = some s ∧ s < ws.length ∧ 1 ≤ wt ws s ∧ startW ws s ≤ x ∧ x < startW ws s + 2 ^ (wt ws s - 1)) :
    ∃ s, (cellsL ws (ordTo ws c i))[x]? = some s ∧ s < ws.length ∧ 1 ≤ wt ws s ∧ startW ws s ≤ x ∧ x < startW ws s + 2 ^ (wt ws s - 1) := by
  induction i with
  | zero =>
    rw [ordTo_zero] at hx ⊢
    exact h0 hx
  | succ i ih =>
    by_cases e : wt ws i = c + 1
    · have he := ordTo_here ws c i e
      rw [he] at hx ⊢
      by_cases hlt : x < nextL ws (ordTo ws c i)
      · obtain ⟨s, h1, h2⟩ := ih (by omega) hlt
        exact ⟨s, by rw [cellsL_app, List.getElem?_append_left hlt]; exact h1, h2⟩
      · rw [nextL_app, nextL_one] at hx
        have hst : startW ws i = nextL ws (ordTo ws c i) := by unfold startW; rw [e, Nat.add_sub_cancel]
        rw [shN_pos _ (by omega)] at hx
        refine ⟨i, ?_, by omega, by omega, by omega, by omega⟩
        rw [cellsL_app, List.getElem?_append_right (by unfold nextL at hlt; omega), cellsL_one, List.getElem?_replicate, if_pos]
        rw [shN_pos _ (by omega)]
        unfold nextL at hlt hx
        omega
    · rw [ordTo_not ws c i e] at hx ⊢
      exact ih (by omega) hx
theorem sym_to (ws : List Nat) (c i x : Nat) (hi : i ≤ ws.length) (hx : x < nextL ws (ordTo ws c i)) :
    ∃ s, (cellsL ws (ordTo ws c i))[x]? = some s ∧ s < ws.length ∧ 1 ≤ wt ws s ∧ startW ws s ≤ x ∧ x < startW ws s + 2 ^ (wt ws s - 1) := by
  induction c generalizing i x with
  | zero => exact sym_in ws 0 i x hi hx (fun h => by simp [ordC, nextL, cellsL] at h)
  | succ c ih =>
    refine sym_in ws (c + 1) i x hi hx (fun h => ?_)
    rw [← ordTo_all] at h ⊢
    exact ih ws.length x (Nat.le_refl _) h
theorem IsCode.sym {ws : List Nat} {m : Nat} (h : IsCode ws m) (x : Nat) (hx : x < 2 ^ m) :
  symX ws m x < ws.length ∧ 1 ≤ wt ws (symX ws m x) ∧ startW ws (symX ws m x) ≤ x ∧ x < startW ws (symX ws m x) + 2 ^ (wt ws (symX ws m x) - 1) := by
 have hm := h.m1
 obtain ⟨k, rfl⟩ : ∃ k, m = k + 1 := ⟨m - 1, by omega⟩
 obtain ⟨s, h1, h2⟩ := sym_to ws k ws.length x (Nat.le_refl _) (by rw [ordTo_all, h.all]; exact hx)
 rw [ordTo_all] at h1
 have e : symX ws (k + 1) x = s := by unfold symX; rw [h1]; rfl
 rw [e]
 exact h2

end Go.Proofs.YtnjilcokkhodmaaGreatDoor

namespace Go.Proofs.YtnjilcokkhodmaaGreatDoor
open Go.RowKit Go.Shelf

def nthF (xs : List Int) (S i s : Nat) : Int := (if s < xs.length then shareN (xs[s]?.getD 0) else 0) + ((cntP (fun j => decide (symF xs S j = s)) i : Nat) : Int)
theorem nthF_at {xs : List Int} {S : Nat} (h : Tab xs S) (i : Nat) (hi : i < S) : nthF xs S i (symF xs S i) = ((xF xs S i : Nat) : Int) := by
 obtain ⟨c, e, c1, c2, c3, c4⟩ := h.x i hi
 obtain ⟨-, h2, -⟩ := h.symF i hi
 unfold nthF
 rw [if_pos h2, e, c4]
 unfold blF
 omega
theorem nthF_succ (xs : List Int) (S i s : Nat) : nthF xs S (i + 1) s = if s = symF xs S i then nthF xs S i s + 1 else nthF xs S i s := by
 unfold nthF
 simp only [cntP]
 by_cases e : symF xs S i = s
 ·subst e; simp; omega
 ·rw [if_neg (show ¬ s = symF xs S i from fun h => e h.symm)]; simp [e]

set_option maxRecDepth 100000 in
set_option maxHeartbeats 4000000 in
theorem setNext_any (cb l : Nat) (xs : List Int) (a : Option Addr) (cap gb off : Nat) (w : World) (hT : IsT w cb 215 4096 (symF xs (2 ^ l)) (fun _ => 0) (fun _ => 0)) (hR : RowI w .i16 a cap gb off xs) (hx : I16 xs) (hgb : xs ≠ [] → gb ≠ cb) (hTab : Tab xs (2 ^ l)) (hl12 : l ≤ 12) :
  Calls Tryz.prog 119 #[.slice (some ⟨cb, 0, none⟩) (2 ^ l) 4096, .slice a xs.length cap, .int .i64 (l : Int)] w fun e w' => e = .returned (.tuple #[]) ∧
   IsT w' cb 215 4096 (symF xs (2 ^ l)) (fun i => if i < 2 ^ l then bitF l (xF xs (2 ^ l) i) else 0) (fun i => if i < 2 ^ l then baseF l (xF xs (2 ^ l) i) else 0) ∧ Keep (fun k => k = cb) w w' := by
 have hcb := hT.lt
 have hSb : 2 ^ l ≤ 4096 := Nat.pow_le_pow_right (n := 2) (j := 12) (by omega) hl12
 have hlen := hTab.len
 have HH := (show Hid (RowI w .i16 a cap gb off xs ∧ (xs ≠ [] → gb ≠ cb) ∧ Tab xs (2 ^ l) ∧ I16 xs) from ⟨hR, hgb, hTab, hx⟩)
 have hA : IsA (w.alloc (.cells Tryz.zeroCells250 250)) w.heap.size 250 .i64 256 (fun _ => 0) := by rw [zero107]; exact isA_zeros w 250 .i64 256
 have HA := (show Hid (IsA (w.alloc (.cells Tryz.zeroCells250 250)) w.heap.size 250 .i64 256 (fun _ => 0) ∧ Keep (fun k => k = cb) w (w.alloc (.cells Tryz.zeroCells250 250)) ∧ IsT (w.alloc (.cells Tryz.zeroCells250 250)) cb 215 4096 (symF xs (2 ^ l)) (fun _ => 0) (fun _ => 0)) from
  ⟨hA, (Keep.refl _ w).alloc _, hT.keep ((Keep.refl noBlock w).alloc _) (fun h => h)⟩)
 obtain ⟨n, hn⟩ : ∃ n, n = xs.length := ⟨_, rfl⟩
 rw [← hn] at hlen ⊢
 have HN := (show Hid (n = xs.length) from hn)
 obtain ⟨S, hS⟩ : ∃ S, S = 2 ^ l := ⟨_, rfl⟩
 rw [← hS] at hSb HH HA ⊢
 have HS := (show Hid (S = 2 ^ l) from hS)
 clear hT hR hgb hTab hn hS hA hx
 go_enter Tryz.func119, Tryz.ntmps119
 go_wp2_with fail
 generalize w.alloc (.cells Tryz.zeroCells250 250) = W1 at HA ⊢
 obtain ⟨nb, hnb⟩ : ∃ nb, nb = w.heap.size := ⟨_, rfl⟩
 rw [← hnb] at HA hcb ⊢
 have HNB := (show Hid (nb = w.heap.size) from hnb)
 clear hnb
 go_loopw [14] (fun v14 wr => ∃ i : Nat, v14 = .int .i64 (i : Int) ∧ i ≤ n ∧ Hid (IsA wr nb 250 .i64 256 (fun s => if s < i then shareN (xs[s]?.getD 0) else 0) ∧ Keep (fun k => k = cb) w wr ∧ IsT wr cb 215 4096 (symF xs S) (fun _ => 0) (fun _ => 0))) (fun v14 _ => n - (intOf v14).toNat)
 case atStart => exact ⟨0, rfl, Nat.zero_le _, HA.out.1.congr (fun i _ => by simp), HA.out.2⟩
 case round =>
  clear HA
  obtain ⟨i, rfl, hi, HC⟩ := hrel
  by_cases hlt : i < n
  ·obtain ⟨h1, h2, h3⟩ := HC.out
   obtain ⟨hR, hgb, hTab, hx⟩ := HH.out
   have hix : i < xs.length := by have := HN.out; omega
   have hR2 := hR.keep h2 hgb
   obtain rfl := hR2.here hix
   have c0 := hR2.cells i hix
   have HSH := (show Hid (∀ w : World, _) from fun w => share_any (xs[i]?.getD 0) (hx i).1 (hx i).2 w)
   have fz := h1.frozen i
   have ci := h1.cell i (by omega)
   have hst := h1.set i (shareN (xs[i]?.getD 0))
   have hltI : (i : Int) < (n : Int) := by omega
   have hi256 : (i : Int) < 256 := by omega
   have hkk : Keep (fun k => k = nb) wr (wr.setCell ⟨nb, i, none⟩ (.int .i64 (shareN (xs[i]?.getD 0)))) := Keep.setCell (S := fun k => k = nb) (p := ⟨nb, i, none⟩) (Keep.refl _ wr) (fun _ => rfl) _
   have HG := (show Hid (IsA (wr.setCell ⟨nb, i, none⟩ (.int .i64 (shareN (xs[i]?.getD 0)))) nb 250 .i64 256 (fun s => if s < i + 1 then shareN (xs[s]?.getD 0) else 0) ∧ Keep (fun k => k = cb) w (wr.setCell ⟨nb, i, none⟩ (.int .i64 (shareN (xs[i]?.getD 0)))) ∧ IsT (wr.setCell ⟨nb, i, none⟩ (.int .i64 (shareN (xs[i]?.getD 0)))) cb 215 4096 (symF xs S) (fun _ => 0) (fun _ => 0)) from by
    refine ⟨hst.congr (fun j _ => ?_), h2.trans hkk (fun j hj e => by have := HNB.out; omega), h3.keep hkk (by omega)⟩
    by_cases e : j = i
    ·subst e; rw [if_pos rfl, if_pos (by omega)]
    ·rw [if_neg e]
     by_cases hj : j < i
     ·rw [if_pos hj, if_pos (by omega)]
     ·rw [if_neg hj, if_neg (by omega)])
   generalize hsc : shareN (xs[i]?.getD 0) = sc at *
   generalize xs[i]?.getD 0 = c at *
   clear h1 h2 h3 hR hgb hTab hx hR2 hst hkk HC hsc
   go_wp2_with (go_at_call 128; refine (HSH.out _).mono ?_; rintro e w'' ⟨rfl, rfl⟩)
   go_roundw
   case rel => exact ⟨i + 1, by go_num, by omega, HG⟩
   case measure => simp [intOf]; omega
  ·obtain rfl : i = n := by omega
   have HD := (show Hid (IsA wr nb 250 .i64 256 (nthF xs S 0) ∧ Keep (fun k => k = cb) w wr ∧ IsT wr cb 215 4096 (symF xs S) (fun i => if i < 0 then bitF l (xF xs S i) else 0) (fun i => if i < 0 then baseF l (xF xs S i) else 0)) from by
    obtain ⟨h1, h2, h3⟩ := HC.out
    refine ⟨h1.congr (fun j _ => ?_), h2, h3.congr (fun _ _ => rfl) (fun _ _ => by simp) (fun _ _ => by simp)⟩
    unfold nthF
    rw [← HN.out]; simp [cntP])
   have hltI : ¬ (i : Int) < (i : Int) := by omega
   clear HC HN
   go_wp2_with fail
   go_loopw [26] (fun v26 wr => ∃ i : Nat, v26 = .int .i64 (i : Int) ∧ i ≤ S ∧ Hid (IsA wr nb 250 .i64 256 (nthF xs S i) ∧ Keep (fun k => k = cb) w wr ∧ IsT wr cb 215 4096 (symF xs S) (fun j => if j < i then bitF l (xF xs S j) else 0) (fun j => if j < i then baseF l (xF xs S j) else 0))) (fun v26 _ => S - (intOf v26).toNat)
   case atStart => exact ⟨0, rfl, Nat.zero_le _, HD⟩
   case round =>
    clear HD
    obtain ⟨i, rfl, hi, HC⟩ := hrel
    by_cases hlt : i < S
    ·obtain ⟨h1, h2, h3⟩ := HC.out
     obtain ⟨hR, hgb, hTab, hx⟩ := HH.out
     obtain ⟨ct, cb1, cb2⟩ := h3.cells i (by omega)
     have f1 := h3.frozen (i * 3 + 1)
     have f2 := h3.frozen (i * 3 + 2)
     have hsl := (hTab.symF i hlt).2.1
     have hsl256 : symF xs S i < 256 := by have := hTab.len; omega
     have cn := h1.cell (symF xs S i) hsl256
     have fn := h1.frozen (symF xs S i)
     rw [nthF_at hTab i hlt] at cn
     have hcl : xF xs S i ≠ 0 ∧ xF xs S i < 2 ^ (l + 1) ∧ bitF l (xF xs S i) ≤ l ∧ baseF l (xF xs S i) < S ∧ 1 ≤ lenN (xF xs S i) ∧ lenN (xF xs S i) ≤ l + 1 ∧ S ≤ xF xs S i * 2 ^ bitF l (xF xs S i) ∧ xF xs S i * 2 ^ bitF l (xF xs S i) < 2 ^ (l + 1) := by
      have hT2 := hTab
      have hl2 := hlt
      rw [HS.out] at hT2 hl2 ⊢
      obtain ⟨a1, a2, a3, a4, a5, a6, a7, a8⟩ := hT2.cell i hl2
      exact ⟨a1, a2, a3, a4, a6, a7, a8, (cell_fits l _ a1 a2).2.2.1⟩
     have hp13 : 2 ^ (l + 1) ≤ 8192 := Nat.pow_le_pow_right (n := 2) (j := 13) (by omega) (by omega)
     obtain ⟨s, hs⟩ : ∃ s, s = symF xs S i := ⟨_, rfl⟩
     obtain ⟨x, hxe⟩ : ∃ x, x = xF xs S i := ⟨_, rfl⟩
     rw [← hxe] at hcl cn
     rw [← hs] at ct cn fn hsl256
     obtain ⟨k1, k2, k3, k4, k5, k6, k7, k8⟩ := hcl
     obtain ⟨b, hb⟩ : ∃ b, b = bitF l x := ⟨_, rfl⟩
     obtain ⟨z, hz⟩ : ∃ z, z = baseF l x := ⟨_, rfl⟩
     obtain ⟨y, hy⟩ : ∃ y, y = x * 2 ^ bitF l x := ⟨_, rfl⟩
     rw [← hy] at k7 k8
     rw [← hb] at k3
     rw [← hz] at k4
     have hbI : (l : Int) + 1 - ((lenN x : Nat) : Int) = (b : Int) := by rw [hb]; unfold bitF; omega
     have hyI : (x : Int) * 2 ^ b = (y : Int) := by rw [hy, hb]; simp
     have hzI : (y : Int) - (S : Int) = (z : Int) := by rw [hz, hy]; unfold baseF; rw [hy, HS.out] at k7; rw [HS.out]; omega
     have HLen := (show Hid (∀ w : World, _) from fun w => len_any x (by omega) w)
     have hLb : ((lenN x : Nat) : Int) ≤ 13 := by omega
     have hL0 : (0 : Int) ≤ ((lenN x : Nat) : Int) := by omega
     have hxb : (x : Int) < 8192 := by omega
     have hyb : (y : Int) < 8192 := by omega
     have hzb : (z : Int) < 4096 := by omega
     have hbb : (b : Int) ≤ 12 := by omega
     have hsI : (s : Int) < 256 := by omega
     have hltI2 : (i : Int) < (S : Int) := by omega
     have hSI : (S : Int) ≤ 4096 := by omega
     have hlI : (l : Int) ≤ 12 := by omega
     have hst := h1.set s ((x : Int) + 1)
     have hkk : Keep (fun k => k = nb) wr (wr.setCell ⟨nb, s, none⟩ (.int .i64 ((x : Int) + 1))) := Keep.setCell (S := fun k => k = nb) (p := ⟨nb, s, none⟩) (Keep.refl _ wr) (fun _ => rfl) _
     have hT2 := h3.keep hkk (by omega)
     have hA2 : IsA (wr.setCell ⟨nb, s, none⟩ (.int .i64 ((x : Int) + 1))) nb 250 .i64 256 (nthF xs S (i + 1)) := hst.congr (fun j _ => by
      rw [nthF_succ, ← hs]
      split
      ·rename_i e; rw [e, hs, nthF_at hTab i hlt, hxe]
      ·rfl)
     have HG := (show Hid (IsA (wr.setCell ⟨nb, s, none⟩ (.int .i64 ((x : Int) + 1))) nb 250 .i64 256 (nthF xs S (i + 1)) ∧ Keep (fun k => k = cb) w (wr.setCell ⟨nb, s, none⟩ (.int .i64 ((x : Int) + 1))) ∧ IsT (wr.setCell ⟨nb, s, none⟩ (.int .i64 ((x : Int) + 1))) cb 215 4096 (symF xs S) (fun j => if j < i then bitF l (xF xs S j) else 0) (fun j => if j < i then baseF l (xF xs S j) else 0)) from
      ⟨hA2, h2.trans hkk (fun j hj e => by have := HNB.out; omega), hT2⟩)
     have HX := (show Hid (b = bitF l (xF xs S i) ∧ z = baseF l (xF xs S i)) from ⟨by rw [hb, hxe], by rw [hz, hxe]⟩)
     obtain ⟨cta, cb1a, cb2a⟩ := hT2.cells i (by omega)
     have f1a := hT2.frozen (i * 3 + 1)
     have f2a := hT2.frozen (i * 3 + 2)
     generalize lenN x = L at *
     clear h1 h2 h3 hR hgb hTab hx HC hst hkk hT2 hA2 hs hxe hb hz hy k1 k2 k3 k4 k5 k6 k7 k8 hp13 hsl cb1 cb2 f1 f2 hsl256
     go_wp2_with fail
     generalize wr.setCell ⟨nb, s, none⟩ (.int .i64 ((x : Int) + 1)) = W2 at HG cta cb1a cb2a f1a f2a ⊢
     refine (HLen.out _).mono ?_
     rintro e w'' ⟨rfl, rfl⟩
     go_wp2_with fail
     go_roundw
     case rel =>
      obtain ⟨g1, g2, g3⟩ := HG.out
      obtain ⟨e1, e2⟩ := HX.out
      have t1 := (g3.setBit i b).setBase i z
      have kk : Keep (fun k => k = cb) w'' ((w''.setCell ⟨cb, i * 3 + 1, none⟩ (.int .u8 (b : Int))).setCell ⟨cb, i * 3 + 2, none⟩ (.int .u16 (z : Int))) :=
       Keep.setCell (S := fun k => k = cb) (p := ⟨cb, i * 3 + 2, none⟩) (Keep.setCell (S := fun k => k = cb) (p := ⟨cb, i * 3 + 1, none⟩) (Keep.refl _ w'') (fun _ => rfl) _) (fun _ => rfl) _
      refine ⟨i + 1, by go_num, by omega, g1.keep kk (by omega), g2.trans kk (fun _ _ h => h), t1.congr (fun _ _ => rfl) (fun j _ => ?_) (fun j _ => ?_)⟩
      ·by_cases e : j = i
       ·subst e; rw [if_pos rfl, if_pos (by omega), e1]
       ·rw [if_neg e]
        by_cases hj : j < i
        ·rw [if_pos hj, if_pos (by omega)]
        ·rw [if_neg hj, if_neg (by omega)]
      ·by_cases e : j = i
       ·subst e; rw [if_pos rfl, if_pos (by omega), e2]
       ·rw [if_neg e]
        by_cases hj : j < i
        ·rw [if_pos hj, if_pos (by omega)]
        ·rw [if_neg hj, if_neg (by omega)]
     case measure => simp [intOf]; omega
    ·obtain rfl : i = S := by omega
     have hltI2 : ¬ (i : Int) < (i : Int) := by omega
     go_wp2_with fail
     go_end0
     obtain ⟨h1, h2, h3⟩ := HC.out
     exact ⟨rfl, h3, h2⟩

end Go.Proofs.YtnjilcokkhodmaaGreatDoor

namespace Go.Proofs.YtnjilcokkhodmaaGreatDoor
open Go.RowKit Go.Shelf

def U32 (fs : List Int) : Prop := ∀ i : Nat, 0 ≤ fs[i]?.getD 0 ∧ fs[i]?.getD 0 ≤ 4294967295
def fr (fs : List Int) (i : Nat) : Nat := (fs[i]?.getD 0).toNat
theorem RowI.fr {w : World} {a : Option Addr} {cap gb off : Nat} {fs : List Int} (h : RowI w .u32 a cap gb off fs) (hu : U32 fs) (i : Nat) (hi : i < fs.length) : w.cell? ⟨gb, off + i, none⟩ = some (.int .u32 ((fr fs i : Nat) : Int)) := by
 rw [h.cells i hi]
 have := hu i
 unfold Go.Proofs.YtnjilcokkhodmaaGreatDoor.fr
 congr 2
 omega

end Go.Proofs.YtnjilcokkhodmaaGreatDoor

namespace Go.Proofs.YtnjilcokkhodmaaGreatDoor
open Go.RowKit Go.Shelf

def i16s (xs : List Int) : List Value := xs.map (fun x => Value.int .i16 x)
theorem i16s_length (xs : List Int) : (i16s xs).length = xs.length := by simp [i16s]
theorem i16s_one (xs : List Int) : ∀ u ∈ i16s xs, u.oneCell' = true := by
 intro u hu
 simp only [i16s, List.mem_map] at hu
 obtain ⟨b, _, rfl⟩ := hu
 rfl
theorem i16s_at (xs : List Int) (j : Nat) (hj : j < xs.length) : (i16s xs)[j]? = some (.int .i16 (xs[j]?.getD 0)) := by simp [i16s, hj]

set_option maxHeartbeats 1000000 in
theorem clone65_any (ab n cap : Nat) (xs : List Int) (hn : n = xs.length) (hl : xs.length ≤ 4096) (w : World) (hlt : ab < w.heap.size) (h : ∀ j, j < xs.length → w.cell? ⟨ab, j, none⟩ = some (.int .i16 (xs[j]?.getD 0))) :
  Calls Tryz.prog 137 #[.slice (some ⟨ab, 0, none⟩) n cap] w fun e w' => ∃ g cap', e = .returned (.slice (some ⟨g, 0, none⟩) xs.length cap') ∧ w.heap.size ≤ g ∧ RowI w' .i16 (some ⟨g, 0, none⟩) cap' g 0 xs ∧ Keep noBlock w w' := by
 subst hn
 obtain ⟨i0, hi, hz0, hz1, hz2⟩ := info_parts info42
 have hmax : xs.length ≤ maxLen := by unfold maxLen; omega
 have hby : xs.length * 2 ≤ 140737488355328 := by omega
 have heq := fun (w : World) (a : Option Addr) (n c n' c' : Nat) => Lib.run_eql_slice_nil (P := Tryz.prog) w 104 131 a n c n' c' Tryz.underlying104
 have hown := World.ownsRow_made (e := 131) (size := 1) (base := w.heap.size) w #[] 0 (Nat.le_refl _) (Nat.zero_le _) rfl
 have hc' : ∀ j u, (i16s xs)[j]? = some u → (w.alloc (.cells #[] 131)).cell? ((⟨ab, 0, none⟩ : Addr).add j) = some u := fun j u hu => by
  have hj : j < xs.length := by rw [← i16s_length]; exact (List.getElem?_eq_some_iff.1 hu).1
  rw [add0]
  refine (World.cell?_of_block (Below.heap_alloc _ _ _ hlt)).trans ((h j hj).trans ?_)
  rw [← i16s_at xs j hj, hu]
 have HL := (show Hid ((i16s xs).length = xs.length * 1) from by rw [i16s_length]; exact (Nat.mul_one _).symm)
 clear h
 go_enter Tryz.func137, Tryz.ntmps137
 go_wp2_with (at_builtin; refine wpList_append_own _ rfl _ _ 104 rfl w.heap.size 131 i0 (.int .i16 0) 1 2 Tryz.underlying104 hi hz0 hz1 hz2 rfl (by decide) (.slice (some ⟨w.heap.size, 0, none⟩) 0 0) 0 [] rfl hown ⟨ab, 0, none⟩ xs.length cap (i16s xs) rfl HL.out hc' (i16s_one xs) (by omega) (by omega) (by simp) ?_; intro v' w1 hown' hgrow hnil)
 go_ret
 have hk : Keep noBlock w w1 := ((Keep.refl _ w).alloc _).grown hgrow (fun k e hk => by
  have e' : w.heap.size = k := by simpa [Value.ownBlock] using e
  omega)
 rw [List.nil_append, Nat.zero_add] at hown'
 rcases hown'.2 with ⟨e1, h0⟩ | ⟨g, cap', cur, e1, hb, hg, hr1, hr2, hr3, hr4⟩
 ·have := hnil.1 e1
  cases this.1
 ·subst e1
  refine ⟨g, cap', rfl, hb, ⟨.inl rfl, (fun e => by cases e), fun j hj => ?_, hr1⟩, hk⟩
  have q1 := hown'.cells (g := g) rfl _ _ (i16s_at xs j hj)
  rw [add0] at q1
  rw [Nat.zero_add]; exact q1

def boolN : Value → Nat
 | .bool true => 1
 | _ => 0

end Go.Proofs.YtnjilcokkhodmaaGreatDoor

namespace Go.Proofs.YtnjilcokkhodmaaGreatDoor
open Go.RowKit Go.Shelf

theorem left_i (rb g : Nat) (bs : List Nat) (p y : Nat) (hy : bs.length * 8 = p + y) (w : World) (h : IsR w rb g bs p) :
  Calls Tryz.prog 116 #[.pointer (some ⟨rb, 0, none⟩)] w fun e w' => e = .returned (.int .i64 (y : Int)) ∧ ∃ n, w' = w.drewN n := by
 have := left_any rb g bs p w h
 rw [show (bs.length : Int) * 8 - (p : Int) = (y : Int) from by omega] at this
 exact this

section
attribute [local go_sem] sliceSem_eq minSem_eq
end

end Go.Proofs.YtnjilcokkhodmaaGreatDoor

namespace Go.Proofs.YtnjilcokkhodmaaGreatDoor
open Go.RowKit Go.Shelf
set_option linter.unusedVariables false

def valR (bs : List Nat) (p R : Nat) : Option (Nat × Nat) :=
 if 8 * bs.length < p + (valM R - 1) then none
 else if numAt bs p (valM R - 1) < valT R then some (numAt bs p (valM R - 1), p + (valM R - 1))
 else if 8 * bs.length < p + (valM R - 1) + 1 then none
 else if numAt bs (p + (valM R - 1)) 1 = 1 then some (numAt bs p (valM R - 1) + 2 ^ (valM R - 1) - valT R, p + (valM R - 1) + 1)
 else some (numAt bs p (valM R - 1), p + (valM R - 1) + 1)
theorem valR_le {bs : List Nat} {p R v p' : Nat} (hR1 : 1 ≤ R) (h : valR bs p R = some (v, p')) : v ≤ R + 1 := by
 have h1 := numAt_lt bs p (valM R - 1)
 obtain ⟨h2, h3, h4⟩ := val_half R hR1
 have h5 := valT_eq R
 unfold valR at h
 split at h
 ·cases h
 split at h
 ·cases h; omega
 split at h
 ·cases h
 split at h
 ·cases h; omega
 ·cases h; omega
theorem valR_far {bs : List Nat} {p R v p' : Nat} (h : valR bs p R = some (v, p')) : p' ≤ 8 * bs.length ∧ p ≤ p' := by
 unfold valR at h
 split at h
 ·cases h
 split at h
 ·cases h; omega
 split at h
 ·cases h
 split at h
 ·cases h; omega
 ·cases h; omega
def CntPost (T : Option (Nat × Nat)) (rb g : Nat) (bs : List Nat) (w : World) (e : Ending) (w' : World) : Prop :=
 Keep (fun k => k = rb) w w' ∧ match T with
  | none => e = .returned (.tuple #[.int .i16 0, .int .i64 10])
  | some (v, p') => e = .returned (.tuple #[.int .i16 ((v : Int) - 1), .int .i64 0]) ∧ IsR w' rb g bs p'
theorem cnt_none {T : Option (Nat × Nat)} {rb g : Nat} {bs : List Nat} {w w' : World} (h : T = none) (hk : Keep (fun k => k = rb) w w') : CntPost T rb g bs w (.returned (.tuple #[.int .i16 0, .int .i64 10])) w' := by subst h; exact ⟨hk, rfl⟩
theorem cnt_some {T : Option (Nat × Nat)} {v p' : Nat} {rb g : Nat} {bs : List Nat} {w w' : World} (h : T = some (v, p')) (hk : Keep (fun k => k = rb) w w') (hi : IsR w' rb g bs p') : CntPost T rb g bs w (.returned (.tuple #[.int .i16 ((v : Int) - 1), .int .i64 0])) w' := by subst h; exact ⟨hk, rfl, hi⟩

theorem bits_few_i (rb g : Nat) (bs : List Nat) (p m : Nat) (mi : Int) (hmi : mi = (m : Int)) (hm : m ≤ 56) (w : World) (h : IsR w rb g bs p) (hp : 8 * bs.length < p + m) :
  Calls Tryz.prog 114 #[.pointer (some ⟨rb, 0, none⟩), .int .i64 mi] w fun e w' => e = .returned (.tuple #[.int .u64 0, .int .i64 10]) ∧ ∃ n, w' = w.drewN n := by
 subst hmi; exact bits_few rb g bs p m hm w h hp

set_option maxHeartbeats 2000000 in
theorem readCount_all (rb g : Nat) (bs : List Nat) (p R : Nat) (w : World) (h : IsR w rb g bs p) (hR1 : 1 ≤ R) (hR : R ≤ 4096) :
  Calls Tryz.prog 136 #[.pointer (some ⟨rb, 0, none⟩), .int .i64 (R : Int)] w fun e w' => CntPost (valR bs p R) rb g bs w e w' := by
 have HV := (show Hid (∀ w : World, _) from fun w => valueBits_any R hR w)
 have hm2 := valM_ge R hR1
 have hm13 := valM_le R hR
 have hT := valT_eq R
 have hH := val_half R hR1
 obtain ⟨k, hm⟩ : ∃ k, valM R = k + 1 := ⟨valM R - 1, by omega⟩
 have hm1 : valM R - 1 = k := by omega
 obtain ⟨T, hdef⟩ : ∃ T, T = valR bs p R := ⟨_, rfl⟩
 rw [← hdef]
 unfold valR at hdef
 rw [hm1] at hH hdef
 have hx := numAt_lt bs p k
 generalize valM R = m at *
 generalize valT R = t at *
 have hp : (2 : Nat) ^ m ≤ 2 ^ 13 := Nat.pow_le_pow_right (by omega) hm13
 have hk : (m : Int) - 1 = (k : Int) := by omega
 have hk12 : (k : Int) ≤ 12 := by omega
 have hpk : (2 : Int) ^ k = ((2 ^ k : Nat) : Int) := by simp
 obtain ⟨P, hP⟩ : ∃ P : Nat, P = 2 ^ k := ⟨_, rfl⟩
 rw [← hP] at hpk hH hx hdef
 have hPb : P ≤ 4096 := by omega
 have hPI : (P : Int) ≤ 4096 := by omega
 have htP : (t : Int) ≤ (P : Int) := by omega
 have HK := (show Hid (m = k + 1 ∧ k ≤ 12 ∧ P = 2 ^ k ∧ IsR w rb g bs p) from ⟨hm, by omega, hP, h⟩)
 have kq : ∀ q, Keep (fun k => k = rb) w (w.drewN q) := fun q => (keep_drewN w q).mono (fun _ _ h => h.elim)
 have HQ := (show Hid (∀ q, Keep (fun k => k = rb) w (w.drewN q)) from kq)
 have k2 : ∀ (W : World) q, Keep (fun k => k = rb) W (W.drewN q) := fun W q => (keep_drewN W q).mono (fun _ _ h => h.elim)
 have HQ2 := (show Hid (∀ (W : World) q, Keep (fun k => k = rb) W (W.drewN q)) from k2)
 by_cases c1 : 8 * bs.length < p + k
 ·rw [if_pos c1] at hdef
  have HD := (show Hid (T = none ∧ 8 * bs.length < p + k) from ⟨hdef, c1⟩)
  clear hP hm h hT hH hp hm2 hm13 hm1 kq hdef hx k2 c1
  go_enter Tryz.func136, Tryz.ntmps136
  go_wp2_with (first | (go_at_call 143; refine (HV.out _).mono ?_; rintro e w' ⟨rfl, q, rfl⟩) | (go_at_call 114; refine (bits_few_i rb g bs p k _ rfl (by have := HK.out; omega) _ (HK.out.2.2.2.drewN _) HD.out.2).mono ?_; rintro e w' ⟨rfl, q2, rfl⟩))
  go_ret2
  exact cnt_none HD.out.1 (HQ.out _)
 ·rw [if_neg c1] at hdef
  obtain ⟨x, hxe⟩ : ∃ x, numAt bs p k = x := ⟨_, rfl⟩
  rw [hxe] at hdef hx
  have hxI : (x : Int) < (P : Int) := by omega
  by_cases c2 : x < t
  ·rw [if_pos c2] at hdef
   have g1 : ¬ (t : Int) ≤ (x : Int) := by omega
   have HD := (show Hid (T = some (x, p + k) ∧ p + k ≤ 8 * bs.length ∧ numAt bs p k = x) from ⟨hdef, by omega, hxe⟩)
   clear hP hm h hT hH hp hm2 hm13 hm1 kq hdef hx k2 c1 c2 hxe
   go_enter Tryz.func136, Tryz.ntmps136
   go_wp2_with (first | (go_at_call 143; refine (HV.out _).mono ?_; rintro e w' ⟨rfl, q, rfl⟩) | (go_at_call 114; refine (bits_take_i rb g bs p k x _ rfl (by have := HK.out; omega) _ (HK.out.2.2.2.drewN _) HD.out.2.1 HD.out.2.2).mono ?_; rintro e w' ⟨rfl, hI2, hK2⟩))
   go_ret2
   exact cnt_some HD.out.1 ((HQ.out q).trans hK2 (fun _ _ h => h)) hI2
  ·rw [if_neg c2] at hdef
   have g1 : (t : Int) ≤ (x : Int) := by omega
   by_cases c3 : 8 * bs.length < p + k + 1
   ·rw [if_pos c3] at hdef
    have HD := (show Hid (T = none ∧ p + k ≤ 8 * bs.length ∧ numAt bs p k = x ∧ 8 * bs.length < p + k + 1) from ⟨hdef, by omega, hxe, c3⟩)
    clear hP hm h hT hH hp hm2 hm13 hm1 kq hdef hx k2 c1 c2 hxe c3
    go_enter Tryz.func136, Tryz.ntmps136
    go_wp2_with (go_at_call 143; refine (HV.out _).mono ?_; rintro e w' ⟨rfl, q, rfl⟩)
    refine (bits_take_i rb g bs p k x _ rfl (by have := HK.out; omega) _ (HK.out.2.2.2.drewN _) HD.out.2.1 HD.out.2.2.1).mono ?_
    rintro e w1 ⟨rfl, hI1, hK1⟩
    go_wp2_with fail
    refine (bits_few_i rb g bs (p + k) 1 _ rfl (by omega) _ hI1 HD.out.2.2.2).mono ?_
    rintro e w2 ⟨rfl, q2, rfl⟩
    go_wp2_with fail
    go_ret2
    exact cnt_none HD.out.1 (((HQ.out q).trans hK1 (fun _ _ h => h)).trans (HQ2.out _ q2) (fun _ _ h => h))
   ·rw [if_neg c3] at hdef
    have hb2 := numAt_lt bs (p + k) 1
    by_cases c4 : numAt bs (p + k) 1 = 1
    ·rw [if_pos c4] at hdef
     obtain ⟨v, hv⟩ : ∃ v, v = x + P - t := ⟨_, rfl⟩
     rw [← hv] at hdef
     have g2 : (x : Int) + ((P : Int) - (t : Int)) = (v : Int) := by omega
     have g3 : (v : Int) ≤ 8192 := by omega
     have HD := (show Hid (T = some (v, p + k + 1) ∧ p + k ≤ 8 * bs.length ∧ numAt bs p k = x ∧ p + k + 1 ≤ 8 * bs.length ∧ numAt bs (p + k) 1 = 1) from ⟨hdef, by omega, hxe, by omega, c4⟩)
     clear hP hm h hT hH hp hm2 hm13 hm1 kq hdef hx k2 c1 c2 hxe c3 c4 hb2 hv
     go_enter Tryz.func136, Tryz.ntmps136
     go_wp2_with (go_at_call 143; refine (HV.out _).mono ?_; rintro e w' ⟨rfl, q, rfl⟩)
     refine (bits_take_i rb g bs p k x _ rfl (by have := HK.out; omega) _ (HK.out.2.2.2.drewN _) HD.out.2.1 HD.out.2.2.1).mono ?_
     rintro e w1 ⟨rfl, hI1, hK1⟩
     go_wp2_with fail
     refine (bits_take_i rb g bs (p + k) 1 1 _ rfl (by omega) _ hI1 HD.out.2.2.2.1 HD.out.2.2.2.2).mono ?_
     rintro e w2 ⟨rfl, hI2, hK2⟩
     go_wp2_with fail
     go_ret2
     exact cnt_some HD.out.1 (((HQ.out q).trans hK1 (fun _ _ h => h)).trans hK2 (fun _ _ h => h)) hI2
    ·rw [if_neg c4] at hdef
     have c5 : numAt bs (p + k) 1 = 0 := by omega
     have HD := (show Hid (T = some (x, p + k + 1) ∧ p + k ≤ 8 * bs.length ∧ numAt bs p k = x ∧ p + k + 1 ≤ 8 * bs.length ∧ numAt bs (p + k) 1 = 0) from ⟨hdef, by omega, hxe, by omega, c5⟩)
     clear hP hm h hT hH hp hm2 hm13 hm1 kq hdef hx k2 c1 c2 hxe c3 c4 hb2 c5
     go_enter Tryz.func136, Tryz.ntmps136
     go_wp2_with (go_at_call 143; refine (HV.out _).mono ?_; rintro e w' ⟨rfl, q, rfl⟩)
     refine (bits_take_i rb g bs p k x _ rfl (by have := HK.out; omega) _ (HK.out.2.2.2.drewN _) HD.out.2.1 HD.out.2.2.1).mono ?_
     rintro e w1 ⟨rfl, hI1, hK1⟩
     go_wp2_with fail
     refine (bits_take_i rb g bs (p + k) 1 0 _ rfl (by omega) _ hI1 HD.out.2.2.2.1 HD.out.2.2.2.2).mono ?_
     rintro e w2 ⟨rfl, hI2, hK2⟩
     go_wp2_with fail
     go_ret2
     exact cnt_some HD.out.1 (((HQ.out q).trans hK1 (fun _ _ h => h)).trans hK2 (fun _ _ h => h)) hI2

end Go.Proofs.YtnjilcokkhodmaaGreatDoor

namespace Go.Proofs.YtnjilcokkhodmaaGreatDoor
open Go.RowKit Go.Shelf
set_option linter.unusedVariables false

theorem yield_any {m : Nat} (m' : Nat) {P : Program} {l : Nat} {args : Array Value} {W : World} {R : Ending → World → Prop} (h : YieldAt Fence.wide m P l args W R) : YieldAt Fence.wide m' P l args W R := by
 obtain ⟨fn, tmps, assign, body, hy, hR⟩ := h
 exact ⟨fn, tmps, assign, body, hy, hR.1, fun c cs _ => hR.2 c cs (fun d h => by cases h)⟩

theorem range_iterC {ι : Type} {n gf C : Nat} {Pr : World → World → Prop} {lb : Array Value} {g : Operand} {ps : Array Tmp} {assign body : Code} {Q : Exit → Act → World → Prop} {a : Act} {w : World} (hn : 3 ≤ n) (hC : w.heap.size + 1 < C) (hPt : ∀ U V X, Pr U V → Pr V X → Pr U X) (hPp : ∀ V o o', V.heap[w.heap.size + 1]? = some o → o.isCells = false → Pr V (V.putObj (w.heap.size + 1) o'))
    (hg : a.eval g = .func (.func gf) #[] lb) (eg : ∀ args w, (callFunc gf args).run Tryz.prog w = .ok (.enter gf args) w)
    (R : ι → Array Value → ι → World → Prop) (E : ι → Prop) (i0 : ι) (I : ι → World → Prop)
    (hit : ∀ (l : Nat) (J : ι → World → Prop) (Jx : World → Prop) (W : World), W.heap.size = w.heap.size + 2 → KeepN w.heap.size w W → (∀ i V, J i V → I i V) → (∀ i X Y, J i X → Keep (fun k => k = C) X Y → J i Y) → (∀ X Y, Jx X → Keep noBlock X Y → Jx Y) →
      (∀ i vs i' V, R i vs i' V → J i V → ∀ m, YieldAt Fence.wide m Tryz.prog l vs V fun e V' => (e = .returned (.bool true) ∧ J i' V' ∧ Pr V V') ∨ (e = .returned (.bool false) ∧ Jx V' ∧ Pr V V')) → J i0 W →
      CallsIn Fence.wide (n - 1) Tryz.prog gf (#[.func (.yield l) #[] #[]] ++ lb) W fun e W' => (∃ v, e = .returned v) ∧ ((∃ i, E i ∧ J i W') ∨ Jx W'))
    (hps : ∀ i vs i' V, R i vs i' V → vs.size = ps.size)
    (X : Code → World → Prop) (A : ι → Array Value → ι → Act → World → Prop)
    (hI : ∀ i U V, I i U → KeepN w.heap.size U V → I i V) (hIc : ∀ i U V, I i U → Keep (fun k => k = C) U V → I i V) (hX : ∀ c U V, X c U → KeepN w.heap.size U V → X c V) (hA : ∀ i vs i' a' U V, A i vs i' a' U → KeepN w.heap.size U V → A i vs i' a' V) (h0 : I i0 w)
    (hassign : ∀ i vs i' V (K : Act → World → Prop), R i vs i' V → I i V → (∀ a' V', KeepsFrom w.heap.size V V' → Pr V V' → I i V' → A i vs i' a' V' → K a' V') →
      assign.wpIn (Fence.wide.inRound (w.heap.size + 1)) (n - 1 - 1) Tryz.prog (Exit.then K (fun _ _ _ => False)) { tmps := (ps.zip vs).foldl (fun t (p, v) => t.setIfInBounds p v) a.tmps, defers := [] } V)
    (hbody : ∀ i vs i' a' V, I i V → A i vs i' a' V → body.wpIn (Fence.wide.inRound (w.heap.size + 1)) (n - 1 - 1) Tryz.prog (goesOn w.heap.size (fun V' => I i' V' ∧ Pr V V') (fun c V' => X c V' ∧ Pr V V') V) a' V)
    (hdone : ∀ i V, E i → I i V → V.heap[w.heap.size]? = some (.deferred (some [])) → Q .normal { a with defers := { target := .collected w.heap.size, args := #[] } :: a.defers } V)
    (hstop : ∀ j V, X j V → V.heap[w.heap.size]? = some (.deferred (some [])) → j.wpIn Fence.wide n Tryz.prog Q { a with defers := { target := .collected w.heap.size, args := #[] } :: a.defers } V) :
    (Code.rangeFunc g ps assign body).wpIn Fence.wide n Tryz.prog Q a w := by
  refine wpIn_rangeFunc fun fn hfn => ?_
  -- the loop's record
  obtain ⟨mk, hmk⟩ : ∃ mk : LoopState → Option Code → Obj, mk = fun st pe => .loop { state := st, pending := pe, fn, tmps := a.tmps, params := ps, assign, body, defers := w.heap.size } := ⟨_, rfl⟩
  have mkc : ∀ st pe, (mk st pe).isCells = false := fun st pe => by rw [hmk]; rfl
  obtain ⟨V1, hV1⟩ : ∃ V1, V1 = (w.alloc (.deferred (some []))).alloc (mk .ready none) := ⟨_, rfl⟩
  have hsz : (w.alloc (.deferred (some []))).heap.size = w.heap.size + 1 := World.size_alloc _ _
  have hrec : V1.heap[w.heap.size + 1]? = some (mk .ready none) := by rw [hV1, ← hsz]; exact World.alloc_heap_new _ _
  have hdef : V1.heap[w.heap.size]? = some (.deferred (some [])) := by rw [hV1]; exact alloc_far (World.alloc_heap_new w _) _
  have hK1 : KeepN w.heap.size w V1 := by rw [hV1]; exact (((Keep.refl noBlock w).alloc _).alloc _).toN _
  have hsz1 : V1.heap.size = w.heap.size + 2 := by rw [hV1, World.size_alloc, hsz]
  have hI1 : I i0 V1 := hI _ _ _ h0 hK1
  refine ⟨w.heap.size + 1, [{ target := .collected w.heap.size, args := #[] }], V1, { target := .fn (.func gf) lb, args := #[.func (.yield (w.heap.size + 1)) #[] #[]] }, V1, gf,
    #[.func (.yield (w.heap.size + 1)) #[] #[]] ++ lb, V1, ?_, ?_, fun _ _ => trivial, ?_, fun _ => by omega, ?_⟩
  · rw [hV1, hmk]; exact run_enterLoop_outer _ _ _ _ _
  · simp only [resolve, hg]
    simp [go_sem]
  · simp [invoke, go_sem, eg]
  · refine (hit (w.heap.size + 1)
      (fun i V => I i V ∧ V.heap[w.heap.size + 1]? = some (mk .ready none) ∧ V.heap[w.heap.size]? = some (.deferred (some [])))
      (fun V => ∃ j, X j V ∧ V.heap[w.heap.size + 1]? = some (mk .done (some j)) ∧ V.heap[w.heap.size]? = some (.deferred (some [])))
      V1 hsz1 hK1 (fun i V h => h.1) (fun i U V h hk => ⟨hIc _ _ _ h.1 hk, hk.obj h.2.1 (fun h => by omega), hk.obj h.2.2 (fun h => by omega)⟩) (fun U V ⟨j, h⟩ hk => ⟨j, hX _ _ _ h.1 (hk.toN _), hk.obj h.2.1 (fun h => h), hk.obj h.2.2 (fun h => h)⟩) ?_ ⟨hI1, hrec, hdef⟩).mono ?_
    · rintro i vs i' V hR ⟨hi, hl, hd⟩ m
      refine yield_any (m := n - 1 - 1) m ?_
      have hy := run_yield (P := Tryz.prog) (args := vs) (by rw [hmk] at hl; exact hl) (by simp [hps i vs i' V hR])
      refine ⟨fn, _, assign, body, hy, roundIn_of_wpIn hfn (hassign i vs i' V _ hR hi fun a' V2 hkf hsc hi2 hax => ?_)⟩
      have hl2 := hkf.same _ _ (Nat.le_succ _) hl (mkc _ _)
      have hd2 := hkf.same _ _ (Nat.le_refl _) hd rfl
      have hlt : w.heap.size + 1 < V2.heap.size := obj_lt hl2
      have hbr := run_beginRound (P := Tryz.prog) (by rw [hmk] at hl2; exact hl2) rfl
      refine ⟨_, hbr, ?_⟩
      obtain ⟨V3, hV3⟩ : ∃ V3, V3 = V2.putObj (w.heap.size + 1) (mk .busy none) := ⟨_, rfl⟩
      have hl3 : V3.heap[w.heap.size + 1]? = some (mk .busy none) := by rw [hV3]; exact World.putObj_heap_same hlt
      have hd3 : V3.heap[w.heap.size]? = some (.deferred (some [])) := by rw [hV3]; exact (World.putObj_heap_other (by omega)).trans hd2
      have hk3 : KeepN w.heap.size V2 V3 := by rw [hV3]; exact keepN_putObj _ (Nat.le_succ _) hl2 (mkc _ _)
      have hi3 : I i V3 := hI _ _ _ hi2 hk3
      have hx3 : A i vs i' a' V3 := hA _ _ _ _ _ _ hax hk3
      have hb := hbody i vs i' a' V3 hi3 hx3
      rw [hV3, hmk] at hb
      refine wpIn_mono hb ?_
      -- however the round ends, the record is turned
      have fin : ∀ (j : Option Code) (V4 : World), KeepsFrom w.heap.size V3 V4 → (Instr.endRound (w.heap.size + 1) j).run Tryz.prog V4 = .ok (.bool j.isNone) (V4.putObj (w.heap.size + 1) (mk (if j.isNone then .ready else .done) j)) ∧
          V4.heap[w.heap.size + 1]? = some (mk .busy none) ∧ (V4.putObj (w.heap.size + 1) (mk (if j.isNone then .ready else .done) j)).heap[w.heap.size + 1]? = some (mk (if j.isNone then .ready else .done) j) ∧
          (V4.putObj (w.heap.size + 1) (mk (if j.isNone then .ready else .done) j)).heap[w.heap.size]? = some (.deferred (some [])) := by
        intro j V4 h4
        have hl4 := h4.same _ _ (Nat.le_succ _) hl3 (mkc _ _)
        have hr := run_endRound (P := Tryz.prog) j (by rw [hmk] at hl4; exact hl4)
        refine ⟨?_, hl4, World.putObj_heap_same (obj_lt hl4), (World.putObj_heap_other (by omega)).trans (h4.same _ _ (Nat.le_refl _) hd3 rfl)⟩
        rw [hmk]; exact hr
      intro e a4 V4 hp
      have hsc3 : Pr V V3 := by rw [hV3]; exact hPt _ _ _ hsc (hPp _ _ _ hl2 (mkc _ _))
      have hp' : goesOn w.heap.size (fun V' => I i' V' ∧ Pr V3 V') (fun c V' => X c V' ∧ Pr V3 V') V3 e a4 V4 := by rw [hV3, hmk]; exact hp
      clear hp hb
      cases e with
      | normal =>
        obtain ⟨r1, r2, r3, r4⟩ := fin none V4 hp'.1
        exact ⟨_, _, r1, .inl ⟨rfl, ⟨hI _ _ _ hp'.2.1 (keepN_putObj _ (Nat.le_succ _) r2 (mkc _ _)), r3, r4⟩, hPt _ _ _ hsc3 (hPt _ _ _ hp'.2.2 (hPp _ _ _ r2 (mkc _ _)))⟩⟩
      | ret =>
        obtain ⟨r1, r2, r3, r4⟩ := fin (some .ret) V4 hp'.1
        exact ⟨_, _, r1, .inr ⟨rfl, ⟨.ret, hX _ _ _ hp'.2.1 (keepN_putObj _ (Nat.le_succ _) r2 (mkc _ _)), r3, r4⟩, hPt _ _ _ hsc3 (hPt _ _ _ hp'.2.2 (hPp _ _ _ r2 (mkc _ _)))⟩⟩
      | exit i =>
        obtain ⟨r1, r2, r3, r4⟩ := fin (some (.exit i)) V4 hp'.1
        exact ⟨_, _, r1, .inr ⟨rfl, ⟨.exit i, hX _ _ _ hp'.2.1 (keepN_putObj _ (Nat.le_succ _) r2 (mkc _ _)), r3, r4⟩, hPt _ _ _ hsc3 (hPt _ _ _ hp'.2.2 (hPp _ _ _ r2 (mkc _ _)))⟩⟩
      | goto t => exact hp'.elim
      | panic ch => exact hp'.elim
      | outgrown => exact hp'.elim
    · rintro e V ⟨⟨v, rfl⟩, (⟨i, hE, hi, hl, hd⟩ | ⟨j, hj, hl, hd⟩)⟩
      · have hr := run_endLoop (P := Tryz.prog) (by rw [hmk] at hl; exact hl) (by simp)
        exact ⟨none, _, hr, hdone i _ hE (hI _ _ _ hi (keepN_putObj _ (Nat.le_succ _) hl (mkc _ _))) ((World.putObj_heap_other (by omega)).trans hd)⟩
      · have hr := run_endLoop (P := Tryz.prog) (by rw [hmk] at hl; exact hl) (by simp)
        exact ⟨some j, _, hr, hstop j _ (hX _ _ _ hj (keepN_putObj _ (Nat.le_succ _) hl (mkc _ _))) ((World.putObj_heap_other (by omega)).trans hd)⟩

end Go.Proofs.YtnjilcokkhodmaaGreatDoor
