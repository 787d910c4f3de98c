/-
  words: the words of a code, one behind the other.
  The array of words, and the bits that are packed.
  The array of cells in which words are found.
  cellsOf.
  The mark and the bits ahead of it, as numbers: no program is named here.
  A tail read from its end on, as a row of bits without an end.
  readWords.
-/
import Derived.Laws.Rows
import Derived.Laws.Tables
import Derived.Deep.WholeRow
import Derived.Deep.RegionHeld3
import Derived.Deep.QuietTactic
import Derived.Test.YtnjilcokkhodmaaGreatDoorZP4
import Derived.Test.YtnjilcokkhodmaaGreatDoorZP5
namespace Go.Proofs.YtnjilcokkhodmaaGreatDoor
open Go.RowKit Go.Shelf
set_option linter.unusedVariables false

attribute [local go_sem] Oper.semAt_some

set_option maxHeartbeats 1000000 in
theorem words_in (F : Fence) (n : Nat) (h22 : F.fn 133) (hro : F.round = none) (a : Option Addr) (len cap : Nat) (m : Int) (w : World) :
  CallsIn F n Tryz.prog 133 #[.slice a len cap, .int .i64 m] w fun e w' => e = .returned (.func (.func 145) #[] #[.pointer (some ⟨w.heap.size + 1, 0, none⟩), .pointer (some ⟨w.heap.size, 0, none⟩)]) ∧ w' = (w.alloc (.cells #[.slice a len cap] 22)).alloc (.cells #[.int .i64 m] 3) := by
 refine callsIn_of_wp Tryz.func133 rfl h22 ?_ hro
 simp only [Tryz.ntmps133, List.size_toArray, List.length_cons, List.length_nil, Nat.reduceAdd, Nat.reduceSub, Array.replicate_succ, Array.replicate_zero, List.push_toArray, List.append_toArray, List.nil_append, List.cons_append]
 gi_wp2
 go_ret
 exact ⟨rfl, rfl⟩

/-- The boxes of a range over words, and the weights. -/
structure WBox (Bs Bm : Nat) (a : Option Addr) (cap gb off : Nat) (ws : List Nat) (m : Nat) (W : World) : Prop where
 bs : W.heap[Bs]? = some (.cells #[.slice a ws.length cap] 22 (0, 0))
 bm : W.heap[Bm]? = some (.cells #[.int .i64 (m : Int)] 3 (0, 0))
 row : Bytes W a cap gb off ws
def wordV (ws : List Nat) (m s : Nat) : Array Value := #[.int .u8 (s : Int), .agg #[.int .u64 ((wordX ws s : Nat) : Int), .int .i64 ((m + 1 - wt ws s : Nat) : Int)]]
def wordR (ws : List Nat) (m : Nat) (pre : List Nat) (vs : Array Value) (pre' : List Nat) (_ : World) : Prop := ∃ s, s < ws.length ∧ 1 ≤ wt ws s ∧ wt ws s ≤ m ∧ pre = ordTo ws (wt ws s - 1) s ∧ pre' = pre ++ [s] ∧ vs = wordV ws m s

set_option maxRecDepth 100000 in
set_option maxHeartbeats 4000000 in
theorem words1_in (n : Nat) (hn : 1 ≤ n) (l Bs Bm : Nat) (a : Option Addr) (cap gb off : Nat) (ws : List Nat) (m : Nat) (hc : IsCode ws m) (J : List Nat → World → Prop) (Jx : World → Prop)
    (hB : ∀ p W, J p W → WBox Bs Bm a cap gb off ws m W) (hD : ∀ p X Y, J p X → Keep noBlock X Y → J p Y)
    (hY : ∀ p vs p' V, wordR ws m p vs p' V → J p V → YieldAt Fence.wide (n - 1) Tryz.prog l vs V fun e W' => (e = .returned (.bool true) ∧ J p' W') ∨ (e = .returned (.bool false) ∧ Jx W')) (W : World) (h0 : J [] W) :
    CallsIn Fence.wide n Tryz.prog 145 #[.func (.yield l) #[] #[], .pointer (some ⟨Bm, 0, none⟩), .pointer (some ⟨Bs, 0, none⟩)] W fun e W' => (∃ v, e = .returned v) ∧ (J (ordC ws m) W' ∨ Jx W') := by
  have hb0 := hB _ _ h0
  have c1 : W.cell? ⟨Bm, 0, none⟩ = some (.int .i64 (m : Int)) := cell_of hb0.bm 0
  have hlen := hc.len
  have hm11 := hc.m11
  have HC := (show Hid (IsCode ws m) from hc)
  have HB := (show Hid (∀ p W, J p W → WBox Bs Bm a cap gb off ws m W) from hB)
  have HY := (show Hid (∀ p vs p' V, wordR ws m p vs p' V → J p V → _) from hY)
  have HD := (show Hid (∀ p X Y, J p X → Keep noBlock X Y → J p Y) from hD)
  obtain ⟨N, hN⟩ : ∃ N, N = ws.length := ⟨_, rfl⟩
  have HN := (show Hid (N = ws.length) from hN)
  rw [← hN] at hlen
  have hNI : (N : Int) ≤ 256 := by omega
  have hmI : (m : Int) ≤ 11 := by omega
  clear hB hY hb0 hc hN hD
  refine callsIn_of_wp Tryz.func145 rfl trivial ?_ rfl
  simp only [Tryz.ntmps145, List.size_toArray, List.length_cons, List.length_nil, Nat.reduceAdd, Nat.reduceSub, Array.replicate_succ, Array.replicate_zero, List.push_toArray, List.append_toArray, List.nil_append, List.cons_append]
  gi_wp2
  clear c1
  gi_loopw [4, 9] (fun v4 v9 wr => ∃ (c x : Nat), v9 = .int .i64 (c : Int) ∧ v4 = .int .i64 (x : Int) ∧ c ≤ m ∧ Hid (x = nextL ws (ordC ws c)) ∧ J (ordC ws c) wr) (fun _ v9 _ => m - (intOf v9).toNat)
  case atStart => exact ⟨0, 0, rfl, rfl, Nat.zero_le _, rfl, h0⟩
  case round =>
    clear h0
    obtain ⟨c, x, rfl, rfl, hcm, HX, hJ⟩ := hrel
    by_cases hlt : c < m
    · have hltI : (c : Int) < (m : Int) := by omega
      have hbx := HB.out _ _ hJ
      have c2 : wr.cell? ⟨Bs, 0, none⟩ = some (.slice a ws.length cap) := cell_of hbx.bs 0
      rw [← HN.out] at c2
      clear hbx
      gi_wp2_with fail
      clear c2
      gi_loopw [4, 14] (fun v4 v14 wr => ∃ (i x : Nat), v14 = .int .i64 (i : Int) ∧ v4 = .int .i64 (x : Int) ∧ i ≤ N ∧ Hid (x = nextL ws (ordTo ws c i)) ∧ J (ordTo ws c i) wr) (fun _ v14 _ => N - (intOf v14).toNat)
      case atStart => exact ⟨0, x, rfl, rfl, Nat.zero_le _, by rw [ordTo_zero]; exact HX.out, by rw [ordTo_zero]; exact hJ⟩
      case round =>
        clear hJ HX
        obtain ⟨i, x, rfl, rfl, hi, HX, hJ⟩ := hrel
        by_cases hil : i < N
        · have hix : i < ws.length := by have := HN.out; omega
          have hbx := HB.out _ _ hJ
          obtain rfl := hbx.row.here hix
          have c3 := hbx.row.cells i hix
          have hy11 := HC.out.le i hix
          have hilI : (i : Int) < (N : Int) := by omega
          have HW := (show Hid (wt ws i = ws[i]?.getD 0) from rfl)
          obtain ⟨y, hy⟩ : ∃ y, y = ws[i]?.getD 0 := ⟨_, rfl⟩
          rw [← hy] at c3 HW
          rw [HW.out] at hy11
          have hyI : (y : Int) ≤ 11 := by omega
          have c1 : wr.cell? ⟨Bm, 0, none⟩ = some (.int .i64 (m : Int)) := cell_of hbx.bm 0
          clear hbx hy
          by_cases hyc : y = c + 1
          · have hwi : wt ws i = c + 1 := by rw [HW.out]; exact hyc
            have hst : startW ws i = x := by unfold startW; rw [hwi, Nat.add_sub_cancel]; exact HX.out.symm
            obtain ⟨X, hX⟩ : ∃ X, X = wordX ws i := ⟨_, rfl⟩
            have hXx : X = x / 2 ^ c := by rw [hX]; unfold wordX; rw [hst, hwi, Nat.add_sub_cancel]
            have hXI : (x : Int) / 2 ^ c = (X : Int) := by rw [hXx]; simp
            have hxl : x + 2 ^ c ≤ 2 ^ m := by have := HC.out.start_le i hix (by omega); rw [hst, hwi, Nat.add_sub_cancel] at this; exact this
            have hp11 : 2 ^ m ≤ 2048 := Nat.pow_le_pow_right (n := 2) (j := 11) (by omega) hm11
            have hXl : X ≤ x := by rw [hXx]; exact Nat.div_le_self _ _
            have hx2 : x ≤ 2048 := Nat.le_trans (Nat.le_trans (Nat.le_add_right _ _) hxl) hp11
            obtain ⟨L, hL⟩ : ∃ L, L = m + 1 - wt ws i := ⟨_, rfl⟩
            have hLI : (m : Int) - (c : Int) = (L : Int) := by clear hxl hp11 hXI hXx; omega
            have hy2 := HY.out _ _ _ wr.drew ⟨i, hix, by omega, by omega, by rw [hwi, Nat.add_sub_cancel], rfl, rfl⟩ (HD.out _ _ _ hJ (Keep.refl _ wr).drew)
            unfold wordV at hy2
            rw [← hX, ← hL] at hy2
            rw [← ordTo_here ws c i hwi] at hy2
            obtain ⟨sh, hsh⟩ : ∃ sh, sh = shN y := ⟨_, rfl⟩
            have HSH := (show Hid (∀ w : World, Calls Tryz.prog 120 #[.int .u8 (y : Int)] w fun e w' => e = .returned (.int .i64 (sh : Int)) ∧ w' = w) from fun w => by rw [hsh]; exact shareW_any y hy11 w)
            have hshl : sh ≤ 1024 := by rw [hsh]; exact shN_le y hy11
            have hn2 : x + sh = nextL ws (ordTo ws c (i + 1)) := by rw [ordTo_here ws c i hwi, nextL_app, nextL_one, HW.out, hsh, HX.out]
            have HN2 := (show Hid _ from hn2)
            have hmx : Tryz.prog.follows .mixedOrders = true := by kernel_rfl
            have hiI : (i : Int) < 256 := by clear hxl hp11 hXI hXx; omega
            have hx2I : (x : Int) ≤ 2048 := by clear hxl hp11 hXI hXx; omega
            have hX2I : (X : Int) ≤ 2048 := by clear hxl hp11 hXI hXx; omega
            have hshI : (sh : Int) ≤ 1024 := by clear hxl hp11 hXI hXx; omega
            have hyc2 : (c : Int) + 1 = (y : Int) := by clear hxl hp11 hXI hXx; omega
            have hne : ((y : Int) != (y : Int)) = false := by simp
            have hw1 : IntKind.u8.wrap (i : Int) = (i : Int) := by clear hxl hp11 hXI hXx; rw [IntKind.wrap_u8]; omega
            have hw2 : IntKind.u64.wrap (X : Int) = (X : Int) := by clear hxl hp11 hXI hXx; rw [IntKind.wrap_u64]; omega
            have hw3 : IntKind.i64.wrap (L : Int) = (L : Int) := by clear hxl hp11 hXI hXx; rw [IntKind.wrap_i64]; omega
            clear hxl hp11 hXx hst hX hL hsh hXl hwi hyc hJ hn2
            obtain ⟨fn, tmps, assign, body, hy, hR⟩ := hy2
            have HR := (show Hid (RoundIn Fence.wide (n - 1) Tryz.prog l fn tmps assign body wr.drew fun e W' => ∃ b : Bool, e = .returned (.bool b) ∧ Hid ((b = true ∧ J (ordTo ws c (i + 1)) W') ∨ (b = false ∧ Jx W'))) from hR.mono (by
              rintro e W' (⟨rfl, h⟩ | ⟨rfl, h⟩)
              · exact ⟨true, rfl, .inl ⟨rfl, h⟩⟩
              · exact ⟨false, rfl, .inr ⟨rfl, h⟩⟩))
            clear hR
            gi_wp2_with fail
            refine wpIn_calm ?_
            gi_region_with_o (refine HR.out.mono ?_; rintro e W3 ⟨b, rfl, HJ3⟩)
            all_goals
              simp only [calm]
              cases b with
              | true =>
                have hJ3 : J (ordTo ws c (i + 1)) W3 := by
                  rcases HJ3.out with ⟨_, h⟩ | ⟨h, _⟩
                  · exact h
                  · cases h
                gi_wp2_with (refine ⟨trivial, ?_⟩; gi_at_call 120; refine (callsIn_wide.2 (HSH.out _)).mono ?_; rintro e w' ⟨rfl, rfl⟩)
                go_roundw
                case rel => exact ⟨i + 1, x + sh, by go_num, by go_num, by omega, HN2.out, hJ3⟩
                case measure => simp [intOf]; omega
              | false =>
                have hJ3 : Jx W3 := by
                  rcases HJ3.out with ⟨h, _⟩ | ⟨_, h⟩
                  · cases h
                  · exact h
                gi_wp2
                refine bodyPost_ret (results_none rfl _ _ _) rfl ?_
                exact ⟨⟨_, rfl⟩, .inr hJ3⟩
          · have hne : ((y : Int) != (c : Int) + 1) = true := by simp; omega
            have HJ := (show Hid (J (ordTo ws c (i + 1)) wr ∧ x = nextL ws (ordTo ws c (i + 1))) from by rw [ordTo_not ws c i (by rw [HW.out]; exact hyc)]; exact ⟨hJ, HX.out⟩)
            clear hJ hyc
            gi_wp2_with fail
            go_roundw
            case rel => exact ⟨i + 1, x, by go_num, rfl, by omega, HJ.out.2, HJ.out.1⟩
            case measure => simp [intOf]; omega
        · obtain rfl : i = N := by omega
          have hilI : ¬ (i : Int) < (i : Int) := by omega
          have HJ := (show Hid (J (ordC ws (c + 1)) wr ∧ x = nextL ws (ordC ws (c + 1))) from by rw [← ordTo_all, ← HN.out]; exact ⟨hJ, HX.out⟩)
          clear hJ
          gi_wp2_with fail
          go_roundw
          case rel => exact ⟨c + 1, x, by go_num, rfl, by omega, HJ.out.2, HJ.out.1⟩
          case measure => simp [intOf]; omega
    · obtain rfl : c = m := by omega
      have hltI : ¬ (c : Int) < (c : Int) := by omega
      gi_wp2
      go_end0
      exact ⟨⟨_, rfl⟩, .inl hJ⟩

end Go.Proofs.YtnjilcokkhodmaaGreatDoor

namespace Go.Proofs.YtnjilcokkhodmaaGreatDoor
open Go.RowKit Go.Shelf
set_option linter.unusedVariables false

theorem flat2 (n : Nat) (a b : Value) : ((List.replicate n [a, b]).flatten).length = 2 * n ∧ ∀ i, i < n → ((List.replicate n [a, b]).flatten)[i * 2]? = some a ∧ ((List.replicate n [a, b]).flatten)[i * 2 + 1]? = some b := by
  induction n with
  | zero => exact ⟨rfl, fun i hi => by omega⟩
  | succ n ih =>
    rw [List.replicate_succ, List.flatten_cons]
    refine ⟨by rw [List.length_append, ih.1]; simp; omega, fun i hi => ?_⟩
    cases i with
    | zero => exact ⟨rfl, rfl⟩
    | succ i =>
      obtain ⟨a1, a2⟩ := ih.2 i (by omega)
      refine ⟨?_, ?_⟩
      · rw [List.getElem?_append_right (by simp; omega)]; simpa [Nat.succ_mul] using a1
      · rw [List.getElem?_append_right (by simp; omega)]
        have e : (i + 1) * 2 + 1 - [a, b].length = i * 2 + 1 := by simp; omega
        rw [e]; exact a2

end Go.Proofs.YtnjilcokkhodmaaGreatDoor

namespace Go.Proofs.YtnjilcokkhodmaaGreatDoor
open Go.RowKit Go.Shelf
set_option linter.unusedVariables false

def ok2 : Nat → List Value → Bool
 | 0, [] => true
 | n + 1, a :: b :: r => isZ .u8 a && (isZ .u8 b && ok2 n r)
 | _, _ => false
theorem ok2_eq : ∀ (n : Nat) (l : List Value), ok2 n l = true → l = (List.replicate n [Value.int .u8 0, Value.int .u8 0]).flatten
  | 0, [], _ => rfl
  | 0, _ :: _, h => by simp [ok2] at h
  | n + 1, [], h => by simp [ok2] at h
  | n + 1, [_], h => by simp [ok2] at h
  | n + 1, a :: b :: r, h => by
    simp only [ok2, Bool.and_eq_true] at h
    rw [isZ_eq h.1, isZ_eq h.2.1, ok2_eq n r h.2.2, List.replicate_succ, List.flatten_cons]
    rfl
theorem chk105 : ok2 2048 Tryz.zeroCells207.toList = true := by kernel_rfl
theorem zero105 : Tryz.zeroCells207 = ((List.replicate 2048 [Value.int .u8 0, Value.int .u8 0]).flatten).toArray := by
 apply Array.ext'
 rw [List.toList_toArray]
 exact ok2_eq _ _ chk105

/-- Block b is the array of cells: symbols and lengths. -/
structure CelA (w : World) (b : Nat) (S N : Nat → Nat) : Prop where
 obj : ∃ cs, w.heap[b]? = some (.cells cs 207 (0, 0)) ∧ cs.size = 4096 ∧ ∀ i, i < 2048 → cs[i * 2]? = some (.int .u8 ((S i : Nat) : Int)) ∧ cs[i * 2 + 1]? = some (.int .u8 ((N i : Nat) : Int))
theorem CelA.cells {w : World} {b : Nat} {S N : Nat → Nat} (h : CelA w b S N) (i : Nat) (hi : i < 2048) :
  w.cell? ⟨b, i * 2, none⟩ = some (.int .u8 ((S i : Nat) : Int)) ∧ w.cell? ⟨b, i * 2 + 1, none⟩ = some (.int .u8 ((N i : Nat) : Int)) := by
 obtain ⟨cs, h1, _, h3⟩ := h.obj
 rw [cell_of h1, cell_of h1]
 exact h3 i hi
theorem CelA.frozen {w : World} {b : Nat} {S N : Nat → Nat} (h : CelA w b S N) (i : Nat) : w.frozen? ⟨b, i, none⟩ = false := by
 obtain ⟨cs, h1, _⟩ := h.obj
 exact frozen_of h1 i
theorem CelA.keep {w w' : World} {T : Nat → Prop} {b : Nat} {S N : Nat → Nat} (h : CelA w b S N) (hk : Keep T w w') (hS : ¬ T b) : CelA w' b S N := by
 obtain ⟨cs, h1, h2⟩ := h.obj
 exact ⟨cs, hk.obj h1 hS, h2⟩
theorem CelA.keepN {w w' : World} {B : Nat} {b : Nat} {S N : Nat → Nat} (h : CelA w b S N) (hk : KeepN B w w') : CelA w' b S N := by
 obtain ⟨cs, h1, h2⟩ := h.obj
 exact ⟨cs, hk.obj h1, h2⟩
theorem CelA.congr {w : World} {b : Nat} {S N S' N' : Nat → Nat} (h : CelA w b S N) (h1 : ∀ i, i < 2048 → S i = S' i) (h2 : ∀ i, i < 2048 → N i = N' i) : CelA w b S' N' := by
 obtain ⟨cs, a1, a2, a3⟩ := h.obj
 refine ⟨cs, a1, a2, fun i hi => ?_⟩
 rw [← h1 i hi, ← h2 i hi]
 exact a3 i hi
theorem CelA.set {w : World} {b : Nat} {S N : Nat → Nat} (h : CelA w b S N) (i x n : Nat) : CelA ((w.setCell ⟨b, i * 2, none⟩ (.int .u8 (x : Int))).setCell ⟨b, i * 2 + 1, none⟩ (.int .u8 (n : Int))) b (fun j => if j = i then x else S j) (fun j => if j = i then n else N j) := by
 obtain ⟨cs, h1, h2, h3⟩ := h.obj
 refine ⟨_, set_obj (set_obj h1 _ _) _ _, by rw [Array.size_setIfInBounds, Array.size_setIfInBounds, h2], fun j hj => ?_⟩
 rw [Array.getElem?_setIfInBounds, Array.getElem?_setIfInBounds, Array.getElem?_setIfInBounds, Array.getElem?_setIfInBounds, Array.size_setIfInBounds, if_neg (show ¬ i * 2 + 1 = j * 2 by omega), if_neg (show ¬ i * 2 = j * 2 + 1 by omega)]
 by_cases e : i = j
 ·subst e
  simp only [if_true]
  rw [if_pos (by omega), if_pos (by omega)]
  exact ⟨rfl, rfl⟩
 ·have e1 : ¬ i * 2 = j * 2 := by omega
  have e2 : ¬ i * 2 + 1 = j * 2 + 1 := by omega
  have e3 : ¬ j = i := fun h => e h.symm
  simp only [if_neg e1, if_neg e2, if_neg e3]
  exact h3 j hj
theorem celA_zeros (w : World) : CelA (w.alloc (.cells Tryz.zeroCells207 207)) w.heap.size (fun _ => 0) (fun _ => 0) := by
 obtain ⟨h1, h2⟩ := flat2 2048 (Value.int .u8 0) (Value.int .u8 0)
 rw [zero105]
 refine ⟨_, World.alloc_heap_new w _, by rw [List.size_toArray]; exact h1, fun i hi => ?_⟩
 simp only [List.getElem?_toArray]
 exact h2 i hi
theorem info105 : (Tryz.prog.info? 207).map (·.size) = some 4096 := by kernel_rfl
theorem cells_one {cs : Array Value} {S N : Nat → Nat} (h1 : cs.size = 4096) (h2 : ∀ i, i < 2048 → cs[i * 2]? = some (.int .u8 ((S i : Nat) : Int)) ∧ cs[i * 2 + 1]? = some (.int .u8 ((N i : Nat) : Int))) : cs.all (·.oneCell') = true := by
 rw [Array.all_eq_true]
 intro i hi
 obtain ⟨a1, a2⟩ := h2 (i / 2) (by omega)
 by_cases e : i % 2 = 0
 ·rw [show i / 2 * 2 = i from by omega, Array.getElem?_eq_getElem hi] at a1
  rw [Option.some.inj a1]; rfl
 ·rw [show i / 2 * 2 + 1 = i from by omega, Array.getElem?_eq_getElem hi] at a2
  rw [Option.some.inj a2]; rfl

def tS (l : List Nat) (x : Nat) : Nat := l[x]?.getD 0
def tN (ws : List Nat) (m : Nat) (l : List Nat) (x : Nat) : Nat := if x < l.length then m + 1 - wt ws (l[x]?.getD 0) else 0
theorem tS_snoc (l : List Nat) (s x : Nat) : (if x = l.length then s else tS l x) = tS (l ++ [s]) x := by
 unfold tS
 by_cases h : x = l.length
 ·subst h; simp
 ·rw [if_neg h]
  by_cases h2 : x < l.length
  ·rw [List.getElem?_append_left h2]
  ·rw [List.getElem?_eq_none (by omega), List.getElem?_eq_none (by simp; omega)]
theorem tN_snoc (ws : List Nat) (m : Nat) (l : List Nat) (s x : Nat) : (if x = l.length then m + 1 - wt ws s else tN ws m l x) = tN ws m (l ++ [s]) x := by
 unfold tN
 by_cases h : x = l.length
 ·subst h; simp
 ·rw [if_neg h]
  by_cases h2 : x < l.length
  ·rw [if_pos h2, if_pos (by simp; omega), List.getElem?_append_left h2]
  ·rw [if_neg h2, if_neg (by simp; omega)]
theorem rep_snoc (j s : Nat) (l : List Nat) : l ++ List.replicate (j + 1) s = (l ++ List.replicate j s) ++ [s] := by
 rw [List.replicate_succ', List.append_assoc]

end Go.Proofs.YtnjilcokkhodmaaGreatDoor

namespace Go.Proofs.YtnjilcokkhodmaaGreatDoor
open Go.RowKit Go.Shelf
set_option linter.unusedVariables false

attribute [local go_sem] Oper.semAt_some

/-- What cellsOf has: b is its first block; l: the numbers that were given out. -/
structure CeI (w : World) (b : Nat) (a : Option Addr) (cap k m : Nat) (ws l : List Nat) (V : World) : Prop where
 bx : V.heap[b]? = some (.cells #[.int .i64 (m : Int)] 3 (0, 0))
 tab : CelA V (b + 1) (tS l) (tN ws m l)
 next : V.heap[b + 1 + 1]? = some (.cells #[.int .i64 ((l.length : Nat) : Int)] 3 (0, 0))
 bs : V.heap[b + 1 + 1 + 1]? = some (.cells #[.slice a k cap] 22 (0, 0))
 bm : V.heap[b + 1 + 1 + 1 + 1]? = some (.cells #[.int .i64 (m : Int)] 3 (0, 0))
 keep : Keep noBlock w V
theorem CeI.keepN {w : World} {b : Nat} {a : Option Addr} {cap k m : Nat} {ws l : List Nat} {U V : World} {B : Nat} (h : CeI w b a cap k m ws l U) (hk : KeepN B U V) (hB : w.heap.size ≤ B) : CeI w b a cap k m ws l V :=
 ⟨hk.obj h.bx, h.tab.keepN hk, hk.obj h.next, hk.obj h.bs, hk.obj h.bm, h.keep.transN hk hB⟩
theorem CeI.keeps {w : World} {b : Nat} {a : Option Addr} {cap k m : Nat} {ws l : List Nat} {U V : World} (h : CeI w b a cap k m ws l U) (hk : Keep noBlock U V) : CeI w b a cap k m ws l V :=
 ⟨hk.obj h.bx (fun h => h), h.tab.keep hk (fun h => h), hk.obj h.next (fun h => h), hk.obj h.bs (fun h => h), hk.obj h.bm (fun h => h), h.keep.trans' hk⟩
theorem CeI.push {w : World} {b : Nat} {a : Option Addr} {cap k m : Nat} {ws l : List Nat} {V : World} (h : CeI w b a cap k m ws l V) (hb : w.heap.size ≤ b) (s : Nat) :
  CeI w b a cap k m ws (l ++ [s]) (((V.setCell ⟨b + 1, l.length * 2, none⟩ (.int .u8 (s : Int))).setCell ⟨b + 1, l.length * 2 + 1, none⟩ (.int .u8 ((m + 1 - wt ws s : Nat) : Int))).setCell ⟨b + 1 + 1, 0, none⟩ (.int .i64 (((l.length + 1 : Nat)) : Int))) := by
 have hk1 : Keep (fun j => j = b + 1) V ((V.setCell ⟨b + 1, l.length * 2, none⟩ (.int .u8 (s : Int))).setCell ⟨b + 1, l.length * 2 + 1, none⟩ (.int .u8 ((m + 1 - wt ws s : Nat) : Int))) :=
  ((Keep.refl (fun j => j = b + 1) V).setCell (p := ⟨b + 1, l.length * 2, none⟩) (fun _ => rfl) _).setCell (p := ⟨b + 1, l.length * 2 + 1, none⟩) (fun _ => rfl) _
 have ht := (h.tab.set l.length s (m + 1 - wt ws s)).congr (fun i _ => tS_snoc l s i) (fun i _ => tN_snoc ws m l s i)
 have hk2 := (Keep.refl (fun j => j = b + 1 + 1) ((V.setCell ⟨b + 1, l.length * 2, none⟩ (.int .u8 (s : Int))).setCell ⟨b + 1, l.length * 2 + 1, none⟩ (.int .u8 ((m + 1 - wt ws s : Nat) : Int)))).setCell (p := ⟨b + 1 + 1, 0, none⟩) (fun _ => rfl) (.int .i64 (((l.length + 1 : Nat)) : Int))
 refine ⟨hk2.obj (hk1.obj h.bx (by omega)) (by omega), ht.keep hk2 (by omega), (set_obj (hk1.obj h.next (by omega)) 0 _).trans (by simp), hk2.obj (hk1.obj h.bs (by omega)) (by omega), hk2.obj (hk1.obj h.bm (by omega)) (by omega), (h.keep.trans hk1 (fun i hi e => by omega)).trans hk2 (fun i hi e => by omega)⟩

set_option maxRecDepth 100000 in
set_option maxHeartbeats 4000000 in
theorem cellsOf_any (a : Option Addr) (cap gb off : Nat) (ws : List Nat) (m : Nat) (w : World) (hB : Bytes w a cap gb off ws) (hc : IsCode ws m) :
  Calls Tryz.prog 111 #[.slice a ws.length cap, .int .i64 (m : Int)] w fun e w' => ∃ cs, e = .returned (.agg cs) ∧ cs.size = 4096 ∧ (∀ i, i < 2048 → cs[i * 2]? = some (.int .u8 ((tS (cellsL ws (ordC ws m)) i : Nat) : Int)) ∧ cs[i * 2 + 1]? = some (.int .u8 ((tN ws m (cellsL ws (ordC ws m)) i : Nat) : Int))) ∧ Keep noBlock w w' := by
 have HH := (show Hid (Bytes w a cap gb off ws ∧ IsCode ws m) from ⟨hB, hc⟩)
 obtain ⟨k, hk⟩ : ∃ k, k = ws.length := ⟨_, rfl⟩
 have HK := (show Hid (k = ws.length) from hk)
 rw [← hk]
 have hm11 := hc.m11
 obtain ⟨b, hb⟩ : ∃ b, b = w.heap.size := ⟨_, rfl⟩
 have c1 : (((w.alloc (.cells #[.int .i64 (m : Int)] 3)).alloc (.cells Tryz.zeroCells207 207)).alloc (.cells #[.int .i64 0] 3)).cell? ⟨b, 0, none⟩ = some (.int .i64 (m : Int)) := by
  rw [hb]
  exact cell_of (alloc_far (alloc_far (World.alloc_heap_new w (.cells #[.int .i64 (m : Int)] 3)) _) _) 0
 rw [hb] at c1
 clear hB hc hk
 refine (callsIn_wide (n := 6)).1 ?_
 refine callsIn_of_wp_marks Tryz.func111 rfl trivial ?_ rfl
 simp only [Tryz.ntmps111, List.size_toArray, List.length_cons, List.length_nil, Nat.reduceAdd, Nat.reduceSub, Array.replicate_succ, Array.replicate_zero, List.push_toArray, List.append_toArray, List.nil_append, List.cons_append]
 gi_wp2_with (refine ⟨trivial, ?_⟩; gi_at_call 133; refine (words_in Fence.wide _ trivial rfl _ _ _ _ _).mono ?_; rintro e w' ⟨rfl, rfl⟩)
 have hI0 : CeI w b a cap k m ws [] (((((w.alloc (.cells #[.int .i64 (m : Int)] 3)).alloc (.cells Tryz.zeroCells207 207)).alloc (.cells #[.int .i64 0] 3)).alloc (.cells #[.slice a k cap] 22)).alloc (.cells #[.int .i64 (m : Int)] 3)) := by
  have o1 := World.alloc_heap_new w (.cells #[.int .i64 (m : Int)] 3)
  have o2 := celA_zeros (w.alloc (.cells #[.int .i64 (m : Int)] 3))
  have o3 := World.alloc_heap_new ((w.alloc (.cells #[.int .i64 (m : Int)] 3)).alloc (.cells Tryz.zeroCells207 207)) (.cells #[.int .i64 0] 3)
  have o4 := World.alloc_heap_new (((w.alloc (.cells #[.int .i64 (m : Int)] 3)).alloc (.cells Tryz.zeroCells207 207)).alloc (.cells #[.int .i64 0] 3)) (.cells #[.slice a k cap] 22)
  have o5 := World.alloc_heap_new ((((w.alloc (.cells #[.int .i64 (m : Int)] 3)).alloc (.cells Tryz.zeroCells207 207)).alloc (.cells #[.int .i64 0] 3)).alloc (.cells #[.slice a k cap] 22)) (.cells #[.int .i64 (m : Int)] 3)
  simp only [World.size_alloc] at o1 o2 o3 o4 o5
  rw [← hb] at o1 o2 o3 o4 o5
  exact ⟨alloc_far (alloc_far (alloc_far (alloc_far o1 _) _) _) _, ((o2.congr (fun i _ => rfl) (fun i _ => rfl)).keep ((((Keep.refl noBlock _).alloc _).alloc _).alloc _) (fun h => h)), alloc_far (alloc_far o3 _) _, alloc_far o4 _, o5, (((((Keep.refl _ w).alloc _).alloc _).alloc _).alloc _).alloc _⟩
 have hsz : (((((w.alloc (.cells #[.int .i64 (m : Int)] 3)).alloc (.cells Tryz.zeroCells207 207)).alloc (.cells #[.int .i64 0] 3)).alloc (.cells #[.slice a k cap] 22)).alloc (.cells #[.int .i64 (m : Int)] 3)).heap.size = b + 5 := by simp only [World.size_alloc]; rw [hb]
 clear c1
 generalize (((((w.alloc (.cells #[.int .i64 (m : Int)] 3)).alloc (.cells Tryz.zeroCells207 207)).alloc (.cells #[.int .i64 0] 3)).alloc (.cells #[.slice a k cap] 22)).alloc (.cells #[.int .i64 (m : Int)] 3)) = W0 at hI0 hsz ⊢
 rw [← hb]
 have HBW := (show Hid (b = w.heap.size) from hb)
 clear hb
 refine range_iter (gf := 145) (by omega) rfl (enters_of Tryz.func145 (by kernel_rfl) rfl) (wordR ws m) (fun p => p = ordC ws m) [] (fun p V => CeI w b a cap k m ws (cellsL ws p) V ∧ b + 5 ≤ V.heap.size)
  (fun l J Jx W _ hJI hD hY h0 => ?iter) (fun i vs i' V h => ?ps) (fun _ _ => False)
  (fun p vs p' a' V => ∃ s rb, s < ws.length ∧ 1 ≤ wt ws s ∧ p = ordTo ws (wt ws s - 1) s ∧ p' = p ++ [s] ∧ b + 5 ≤ rb ∧ V.heap[rb]? = some (.cells #[.int .u64 ((wordX ws s : Nat) : Int), .int .i64 ((m + 1 - wt ws s : Nat) : Int)] 239 (0, 0)) ∧
   a' = { tmps := #[.slice a k cap, .int .i64 (m : Int), undef, .pointer (some ⟨b, 0, none⟩), .pointer (some ⟨b + 1, 0, none⟩), .pointer (some ⟨b + 1 + 1, 0, none⟩), .int .u8 (s : Int), .pointer (some ⟨rb, 0, none⟩), .slice a k cap, .int .i64 (m : Int),
    .func (.func 145) #[] #[.pointer (some ⟨b + 1 + 1 + 1 + 1, 0, none⟩), .pointer (some ⟨b + 1 + 1 + 1, 0, none⟩)], .int .u8 (s : Int), .agg #[.int .u64 ((wordX ws s : Nat) : Int), .int .i64 ((m + 1 - wt ws s : Nat) : Int)],
    undef, undef, undef, undef, undef, undef, undef, undef, undef, undef, undef, undef, undef, undef, undef, undef, undef, undef], defers := [] })
  (fun p U V h hk => ⟨h.1.keepN hk (by have := HBW.out; omega), Nat.le_trans h.2 hk.size⟩) (fun _ _ _ h _ => h.elim) (fun p vs p' a' U V h hk => ?keepA) ⟨hI0, by omega⟩ ?assign ?body ?done (fun _ _ h _ => h.elim)
 case iter =>
  refine (words1_in 5 (by omega) l (b + 1 + 1 + 1) (b + 1 + 1 + 1 + 1) a cap gb off ws m HH.out.2 J Jx (fun p V hp => ?_) hD hY W h0).mono ?_
  ·have := (hJI p V hp).1
   rw [HK.out] at this
   exact ⟨this.bs, this.bm, HH.out.1.keep this.keep (fun _ h => h)⟩
  ·rintro e W' ⟨h1, h2⟩
   exact ⟨h1, h2.imp (fun h => ⟨_, rfl, h⟩) (fun h => h)⟩
 case ps =>
  obtain ⟨s, _, _, _, _, _, rfl⟩ := h
  rfl
 case keepA =>
  obtain ⟨s, rb, h1, h2, h3, h4, h5, h6, h7⟩ := h
  exact ⟨s, rb, h1, h2, h3, h4, h5, hk.obj h6, h7⟩
 case assign =>
  rintro p vs p' V K ⟨s, h1, h2, h3, h4, h5, rfl⟩ hi hK
  unfold wordV
  gi_wp2
  exact hK _ _ ⟨by simp, fun k' o _ ho _ => alloc_far ho _⟩ ⟨hi.1.keeps ((Keep.refl _ V).alloc _), by rw [World.size_alloc]; omega⟩ ⟨s, V.heap.size, h1, h2, h4, h5, hi.2, World.alloc_heap_new V _, rfl⟩
 case body =>
  rintro p vs p' a' V ⟨hi, hsz2⟩ ⟨s, rb, h1, h2, hp, rfl, hrb, hob, rfl⟩
  have hwm := HH.out.2.wt_le s h1
  have hs256 : s < 256 := by have := HH.out.2.len; omega
  have hstart : startW ws s = (cellsL ws p).length := by unfold startW; rw [← hp]; rfl
  have hle := HH.out.2.start_le s h1 h2
  rw [hstart] at hle
  have hp11 : 2 ^ m ≤ 2048 := Nat.pow_le_pow_right (n := 2) (j := 11) (by omega) hm11
  have hcl : cellsL ws (p ++ [s]) = cellsL ws p ++ List.replicate (2 ^ (wt ws s - 1)) s := by rw [cellsL_app, cellsL_one, shN_pos _ (by omega)]
  obtain ⟨c, hc⟩ : ∃ c, c = wt ws s - 1 := ⟨_, rfl⟩
  obtain ⟨N, hN⟩ : ∃ N, N = m + 1 - wt ws s := ⟨_, rfl⟩
  obtain ⟨Q, hQ⟩ : ∃ Q, Q = 2 ^ (wt ws s - 1) := ⟨_, rfl⟩
  rw [← hQ] at hle hcl
  have hmN : (m : Int) - (N : Int) = (c : Int) := by omega
  have hQ2 : (cellsL ws p).length + Q ≤ 2048 := Nat.le_trans hle hp11
  have hQI : wrap64 ((2 : Int) ^ c) = (Q : Int) := by
   have e : (2 : Int) ^ c = (Q : Int) := by rw [hQ, hc]; simp
   rw [e]
   clear e hQ hle hp11
   unfold wrap64; omega
  have HQ := (show Hid (wrap64 ((2 : Int) ^ c) = (Q : Int)) from hQI)
  have r1 := cell_of hob 1
  have c0 := cell_of hi.bx 0
  simp only [List.getElem?_toArray, List.getElem?_cons_zero, List.getElem?_cons_succ] at r1 c0
  rw [← hN] at r1 ⊢
  have HN := (show Hid (N = m + 1 - wt ws s ∧ cellsL ws (p ++ [s]) = cellsL ws p ++ List.replicate Q s ∧ N ≤ 12) from ⟨hN, hcl, by clear hQI hQ hle hp11; omega⟩)
  have hcI : (c : Int) ≤ 10 := by clear hQI hQ hle hp11; omega
  have hNI : (N : Int) ≤ 12 := by clear hQI hQ hle hp11; omega
  have hQ2I : (Q : Int) ≤ 2048 := by clear hQI hQ hle hp11; omega
  have HO := (show Hid (V.heap[rb]? = some (.cells #[.int .u64 ((wordX ws s : Nat) : Int), .int .i64 (N : Int)] 239 (0, 0))) from by rw [hN]; exact hob)
  obtain ⟨P, hP⟩ : ∃ P, P = cellsL ws p := ⟨_, rfl⟩
  rw [← hP] at hi HN hQ2
  clear hle hp11 hcl hQ hstart hp hc hob hN hP hQ2I
  gi_wp2
  clear r1 c0
  gi_loopw [18] (fun v18 wr => ∃ j : Nat, v18 = .int .i64 (j : Int) ∧ j ≤ Q ∧ Hid (CeI w b a cap k m ws (P ++ List.replicate j s) wr ∧ wr.heap[rb]? = some (.cells #[.int .u64 ((wordX ws s : Nat) : Int), .int .i64 (N : Int)] 239 (0, 0)) ∧ KeepsFrom W0.heap.size V wr)) (fun v18 _ => Q - (intOf v18).toNat)
  case atStart => exact ⟨0, rfl, Nat.zero_le _, by simpa using hi, HO.out, KeepsFrom.refl _ _⟩
  case round =>
   clear hi HO
   obtain ⟨j, rfl, hj, HC⟩ := hrel
   by_cases hlt : j < Q
   ·have hltI : (j : Int) < (Q : Int) := by omega
    obtain ⟨hi, ho, hkf⟩ := HC.out
    have hpush := hi.push (by have := HBW.out; omega) s
    rw [← rep_snoc, ← HN.out.1] at hpush
    have hlen : (P ++ List.replicate j s).length = P.length + j := by simp
    obtain ⟨L, hL⟩ : ∃ L, L = (P ++ List.replicate j s).length := ⟨_, rfl⟩
    rw [← hL] at hpush hlen
    have hL2 : L < 2048 := by omega
    have c2 := cell_of hi.next 0
    have f2 := frozen_of hi.next 0
    have r1 := cell_of ho 1
    obtain ⟨t1, t2⟩ := hi.tab.cells L hL2
    have ft1 := hi.tab.frozen (L * 2)
    have ft2 := hi.tab.frozen (L * 2 + 1)
    simp only [List.getElem?_toArray, List.getElem?_cons_zero, List.getElem?_cons_succ] at c2 r1
    rw [← hL] at c2
    have hLI : (L : Int) < 2048 := by omega
    have hsI : (s : Int) < 256 := by omega
    have hks : ∀ x y z : Value, Keep (fun i => i = b + 1 ∨ i = b + 1 + 1) wr (((wr.setCell ⟨b + 1, L * 2, none⟩ x).setCell ⟨b + 1, L * 2 + 1, none⟩ y).setCell ⟨b + 1 + 1, 0, none⟩ z) := fun x y z =>
     (((Keep.refl (fun i => i = b + 1 ∨ i = b + 1 + 1) wr).setCell (p := ⟨b + 1, L * 2, none⟩) (fun _ => .inl rfl) _).setCell (p := ⟨b + 1, L * 2 + 1, none⟩) (fun _ => .inl rfl) _).setCell (p := ⟨b + 1 + 1, 0, none⟩) (fun _ => .inr rfl) _
    have HP := (show Hid (CeI w b a cap k m ws (P ++ List.replicate (j + 1) s) (((wr.setCell ⟨b + 1, L * 2, none⟩ (.int .u8 (s : Int))).setCell ⟨b + 1, L * 2 + 1, none⟩ (.int .u8 (N : Int))).setCell ⟨b + 1 + 1, 0, none⟩ (.int .i64 ((L + 1 : Nat) : Int))) ∧ (((wr.setCell ⟨b + 1, L * 2, none⟩ (.int .u8 (s : Int))).setCell ⟨b + 1, L * 2 + 1, none⟩ (.int .u8 (N : Int))).setCell ⟨b + 1 + 1, 0, none⟩ (.int .i64 ((L + 1 : Nat) : Int))).heap[rb]? = some (.cells #[.int .u64 ((wordX ws s : Nat) : Int), .int .i64 (N : Int)] 239 (0, 0)) ∧
      KeepsFrom W0.heap.size V (((wr.setCell ⟨b + 1, L * 2, none⟩ (.int .u8 (s : Int))).setCell ⟨b + 1, L * 2 + 1, none⟩ (.int .u8 (N : Int))).setCell ⟨b + 1 + 1, 0, none⟩ (.int .i64 ((L + 1 : Nat) : Int)))) from
     ⟨hpush, (hks _ _ _).obj ho (by omega), hkf.trans ((((KeepsOthers.setCell _ _ _).from _).trans ((KeepsOthers.setCell _ _ _).from _)).trans ((KeepsOthers.setCell _ _ _).from _))⟩)
    have hk2 : Keep (fun i => i = b + 1) wr ((wr.setCell ⟨b + 1, L * 2, none⟩ (.int .u8 (s : Int))).setCell ⟨b + 1, L * 2 + 1, none⟩ (.int .u8 (N : Int))) :=
     ((Keep.refl (fun i => i = b + 1) wr).setCell (p := ⟨b + 1, L * 2, none⟩) (fun _ => rfl) _).setCell (p := ⟨b + 1, L * 2 + 1, none⟩) (fun _ => rfl) _
    have o3 := hk2.obj hi.next (by omega)
    have c3 := cell_of o3 0
    have f3 := frozen_of o3 0
    simp only [List.getElem?_toArray, List.getElem?_cons_zero] at c3
    rw [← hL] at c3
    clear hpush hi ho hkf hks hL hlen HC hk2 o3
    gi_wp2
    go_roundw
    case rel => exact ⟨j + 1, by go_num, by omega, HP.out⟩
    case measure => simp [intOf]; omega
   ·obtain rfl : j = Q := by omega
    have hltI : ¬ (j : Int) < (j : Int) := by omega
    gi_wp2
    obtain ⟨hi, ho, hkf⟩ := HC.out
    exact ⟨hsz ▸ hkf, by rw [HN.out.2.1]; exact hi, Nat.le_trans hsz2 hkf.size⟩
 case done =>
  rintro p V rfl ⟨hi, hsz2⟩ hD
  obtain ⟨cs, o1, o2, o3⟩ := hi.tab.obj
  have h1 := cells_one o2 o3
  have hs := setRow_self V (b + 1) cs 207 (0, 0) o1
  have hi105 : (Tryz.prog.info? 207).map (·.size) = some cs.size := by rw [o2]; exact info105
  have HI := (show Hid (V.heap[b + 1]? = some (.cells cs 207 (0, 0)) ∧ cs.size = 4096 ∧ (∀ i, i < 2048 → cs[i * 2]? = some (.int .u8 ((tS (cellsL ws (ordC ws m)) i : Nat) : Int)) ∧ cs[i * 2 + 1]? = some (.int .u8 ((tN ws m (cellsL ws (ordC ws m)) i : Nat) : Int))) ∧ Keep noBlock w V ∧ V.heap[W0.heap.size]? = some (.deferred (some []))) from ⟨o1, o2, o3, hi.keep, hD⟩)
  have HO := (show Hid _ from o1)
  have H1 := (show Hid _ from h1)
  have HS := (show Hid _ from hs)
  have HJ := (show Hid _ from hi105)
  clear hi o1 o2 o3 h1 hD hI0 hs hi105
  rename_i hKq
  refine hKq _ _ (wpIn_wide.2 ?_)
  go_wp2_with (first | (refine wpList_load_row rfl 207 (.tmp 4) rfl (b + 1) rfl 207 cs (0, 0) _ HO.out Tryz.underlying207 rfl HJ.out ?_) | (refine wpList_store_row rfl 207 (.tmp 4) (.tmp 30) rfl (b + 1) cs rfl rfl 207 cs HO.out HJ.out rfl H1.out ?_; rw [HS.out]))
  obtain ⟨o1, o2, o3, hk, hD⟩ := HI.out
  refine ⟨by simp, .inl ⟨_, _, rfl, run_takeDeferred hD, ?_⟩⟩
  have hkp : Keep (fun j => j = W0.heap.size) V (V.putObj W0.heap.size (.deferred none)) := (Keep.refl (fun j => j = W0.heap.size) V).putObj _ _ (fun _ => rfl)
  exact ⟨_, results_cell_row rfl _ _ (b + 1) 207 cs (0, 0) _ rfl (hkp.obj o1 (by omega)) Tryz.underlying207 rfl (by rw [o2]; exact info105), cs, rfl, o2, o3, hk.trans hkp (fun i hi e => by have := HBW.out; omega)⟩

end Go.Proofs.YtnjilcokkhodmaaGreatDoor

namespace Go.Proofs.YtnjilcokkhodmaaGreatDoor.Tl
open Go

def qv (bs : List Nat) (p t : Nat) : Nat → Nat
 | 0 => 0
 | k + 1 => 2 * qv bs p t k + (if k < t then bitAt bs (p + t - 1 - k) else 0)
theorem qv_low (bs : List Nat) (p t k : Nat) (hk : k ≤ t) : qv bs p t k = numAt bs (p + t - k) k := by
  induction k with
  | zero => rfl
  | succ k ih =>
    rw [qv, ih (by omega), if_pos (by omega), numAt_front, show p + t - (k + 1) + 1 = p + t - k from by omega, show p + t - 1 - k = p + t - (k + 1) from by omega]
    omega
theorem qv_high (bs : List Nat) (p t j : Nat) : qv bs p t (t + j) = numAt bs p t * 2 ^ j := by
  induction j with
  | zero => rw [Nat.add_zero, qv_low bs p t t (Nat.le_refl _), Nat.add_sub_cancel]; simp
  | succ j ih =>
    rw [show t + (j + 1) = (t + j) + 1 from by omega, qv, ih, if_neg (by omega), Nat.pow_succ, Nat.add_zero, Nat.mul_comm 2, Nat.mul_assoc]

end Go.Proofs.YtnjilcokkhodmaaGreatDoor.Tl

namespace Go.Proofs.YtnjilcokkhodmaaGreatDoor
open Go.RowKit Go.Shelf
set_option linter.unusedVariables false

def bitS (bs : List Nat) (i : Nat) : Nat := if i < Tl.tailLen bs then bitAt bs (Tl.tailLen bs - 1 - i) else 0
theorem bitS_lt (bs : List Nat) (i : Nat) : bitS bs i < 2 := by
 unfold bitS
 split
 ·exact bitAt_lt _ _
 ·omega
def strm (bs : List Nat) (q : Nat) : Nat → Nat
 | 0 => 0
 | n + 1 => 2 * strm bs q n + bitS bs (q + n)
theorem strm_lt (bs : List Nat) (q n : Nat) : strm bs q n < 2 ^ n := by
  induction n with
  | zero => simp [strm]
  | succ n ih =>
    have := bitS_lt bs (q + n)
    rw [strm, Nat.pow_succ]
    omega
theorem strm_add (bs : List Nat) (q n l : Nat) : strm bs q (n + l) = strm bs q n * 2 ^ l + strm bs (q + n) l := by
  induction l with
  | zero => simp [strm]
  | succ l ih =>
    rw [show n + (l + 1) = (n + l) + 1 from by omega, strm, ih, strm, Nat.pow_succ, show q + n + l = q + (n + l) from by omega, ← Nat.mul_assoc]
    generalize strm bs q n * 2 ^ l = z
    omega
theorem strm_shift (bs : List Nat) (q m l : Nat) : (strm bs q m * 2 ^ l + strm bs (q + m) l) % 2 ^ m = strm bs (q + l) m := by
 rw [← strm_add, show m + l = l + m from by omega, strm_add, Nat.mul_comm, Nat.mul_add_mod, Nat.mod_eq_of_lt (strm_lt _ _ _)]
theorem strm_qv (bs : List Nat) (q p t m : Nat) (hp : p + t = Tl.tailLen bs - q) (ht : t = m ∨ p = 0) (k : Nat) (hk : k ≤ m) : strm bs q k = Tl.qv bs p t k := by
  induction k with
  | zero => rfl
  | succ k ih =>
    rw [strm, Tl.qv, ih (by omega)]
    congr 1
    unfold bitS
    by_cases h : k < t
    · rw [if_pos h, if_pos (by omega), show Tl.tailLen bs - 1 - (q + k) = p + t - 1 - k from by omega]
    · rw [if_neg h, if_neg (by omega)]

/-- The reader has read q bits. -/
structure At (W : World) (rb g : Nat) (bs : List Nat) (q : Nat) : Prop where
 is : Tl.IsR W rb g bs (Tl.tailLen bs - q) (q - Tl.tailLen bs)
 le : q < 1000000000000
theorem At.keep {W W' : World} {S : Nat → Prop} {rb g : Nat} {bs : List Nat} {q : Nat} (h : At W rb g bs q) (hk : Keep S W W') (h1 : ¬ S rb) (h2 : ¬ S g) : At W' rb g bs q := ⟨h.is.keep hk h1 (fun _ => h2), h.le⟩
theorem At.drewN {W : World} {rb g : Nat} {bs : List Nat} {q : Nat} (h : At W rb g bs q) (n : Nat) : At (W.drewN n) rb g bs q := ⟨h.is.drewN n, h.le⟩
theorem At.bits {W : World} {rb g : Nat} {bs : List Nat} {q : Nat} (h : At W rb g bs q) (m : Nat) (hm : m ≤ 56) (hq : q + m < 1000000000000) :
  Calls Tryz.prog 68 #[.pointer (some ⟨rb, 0, none⟩), .int .i64 (m : Int)] W fun e W' => e = .returned (.int .u64 ((strm bs q m : Nat) : Int)) ∧ At W' rb g bs (q + m) ∧ Keep (fun k => k = rb) W W' := by
 obtain ⟨t, ht⟩ : ∃ t, t = min m (Tl.tailLen bs - q) := ⟨_, rfl⟩
 have := Tl.bits_read rb g bs (Tl.tailLen bs - q - t) t (m - t) (Tl.tailLen bs - q) m (q - Tl.tailLen bs) (q + m - Tl.tailLen bs) (m : Int) W h.is (by omega) (by omega) (by omega) (by omega) (by omega)
 refine this.mono ?_
 rintro e W' ⟨rfl, h1, h2⟩
 refine ⟨?_, ⟨by rw [show Tl.tailLen bs - (q + m) = Tl.tailLen bs - q - t from by omega]; exact h1, hq⟩, h2⟩
 rw [strm_qv bs q (Tl.tailLen bs - q - t) t m (by omega) (by omega) m (Nat.le_refl _)]
 have := Tl.qv_high bs (Tl.tailLen bs - q - t) t (m - t)
 rw [show t + (m - t) = m from by omega] at this
 rw [this]
theorem At.left {W : World} {rb g : Nat} {bs : List Nat} {q : Nat} (h : At W rb g bs q) :
  Calls Tryz.prog 72 #[.pointer (some ⟨rb, 0, none⟩)] W fun e W' => e = .returned (.int .i64 (((Tl.tailLen bs : Nat) : Int) - (q : Int))) ∧ ∃ n, W' = W.drewN n := by
 refine (Tl.left_any rb g bs _ _ W h.is).mono ?_
 rintro e W' ⟨rfl, h2⟩
 refine ⟨?_, h2⟩
 rw [show (((Tl.tailLen bs - q : Nat) : Int) - ((q - Tl.tailLen bs : Nat) : Int)) = ((Tl.tailLen bs : Nat) : Int) - (q : Int) from by omega]

theorem and_mask (x m : Nat) (hx : x < 18446744073709551616) (hm : m ≤ 56) : Go.bits .and .u64 (x : Int) ((2 ^ m - 1 : Nat) : Int) = ((x % 2 ^ m : Nat) : Int) := by
 have h1 : 2 ^ m ≤ 2 ^ 56 := Nat.pow_le_pow_right (by omega) hm
 rw [u64_and_nat x (2 ^ m - 1) hx (by omega), Nat.and_two_pow_sub_one_eq_mod]
theorem or_join (x y l : Nat) (hx : x < 4096) (hl : l ≤ 12) (hy : y < 2 ^ l) : Go.bits .or .u64 ((x * 2 ^ l : Nat) : Int) (y : Int) = ((x * 2 ^ l + y : Nat) : Int) := by
 have h1 : 2 ^ l ≤ 2 ^ 12 := Nat.pow_le_pow_right (by omega) hl
 have h2 : x * 2 ^ l ≤ 4096 * 2 ^ 12 := Nat.mul_le_mul (by omega) h1
 rw [u64_or_nat (x * 2 ^ l) y (by omega) (by omega)]
 congr 1
 rw [Nat.mul_comm, ← Nat.two_pow_add_eq_or_of_lt hy]

end Go.Proofs.YtnjilcokkhodmaaGreatDoor

namespace Go.Proofs.YtnjilcokkhodmaaGreatDoor
open Go.RowKit Go.Shelf
set_option linter.unusedVariables false

def posU (ws : List Nat) (m : Nat) (bs : List Nat) : Nat → Nat
 | 0 => 0
 | k + 1 => posU ws m bs k + (m + 1 - wt ws (symX ws m (strm bs (posU ws m bs k) m)))
def symU (ws : List Nat) (m : Nat) (bs : List Nat) (k : Nat) : Nat := symX ws m (strm bs (posU ws m bs k) m)
theorem posU_succ (ws : List Nat) (m : Nat) (bs : List Nat) (k : Nat) : posU ws m bs (k + 1) = posU ws m bs k + (m + 1 - wt ws (symU ws m bs k)) := rfl
theorem posU_le (ws : List Nat) (m : Nat) (bs : List Nat) (k : Nat) : posU ws m bs k ≤ k * (m + 1) := by
 induction k with
 | zero => simp [posU]
 | succ k ih => rw [posU_succ, Nat.succ_mul]; omega
theorem IsCode.cell {ws : List Nat} {m : Nat} (h : IsCode ws m) (x : Nat) (hx : x < 2 ^ m) : tS (cellsL ws (ordC ws m)) x = symX ws m x ∧ tN ws m (cellsL ws (ordC ws m)) x = m + 1 - wt ws (symX ws m x) := by
 refine ⟨rfl, ?_⟩
 have : (cellsL ws (ordC ws m)).length = 2 ^ m := h.all
 unfold tN
 rw [if_pos (by omega)]
 rfl
def RowK (W : World) (tb n : Nat) (f : Nat → Nat) (k : Nat) : Prop := ∃ cs, W.heap[tb]? = some (.cells cs 5 (0, 0)) ∧ cs.size = n ∧ (∀ j, j < n → ∃ x : Nat, cs[j]? = some (.int .u8 (x : Int))) ∧ ∀ j, j < k → cs[j]? = some (.int .u8 ((f j : Nat) : Int))
theorem RowK.keep {W W' : World} {S : Nat → Prop} {tb n k : Nat} {f : Nat → Nat} (h : RowK W tb n f k) (hk : Keep S W W') (hS : ¬ S tb) : RowK W' tb n f k := by
 obtain ⟨cs, h1, h2⟩ := h
 exact ⟨cs, hk.obj h1 hS, h2⟩
theorem RowK.step {W : World} {tb n k : Nat} {f : Nat → Nat} (h : RowK W tb n f k) (hk : k < n) : RowK (W.setCell ⟨tb, k, none⟩ (.int .u8 ((f k : Nat) : Int))) tb n f (k + 1) := by
 obtain ⟨cs, h1, h2, h3, h4⟩ := h
 refine ⟨_, set_obj h1 _ _, by rw [Array.size_setIfInBounds, h2], fun j hj => ?_, fun j hj => ?_⟩
 ·rw [Array.getElem?_setIfInBounds]
  by_cases e : k = j
  ·subst e; rw [if_pos rfl, if_pos (by omega)]; exact ⟨_, rfl⟩
  ·rw [if_neg e]; exact h3 j hj
 ·rw [Array.getElem?_setIfInBounds]
  by_cases e : k = j
  ·subst e; rw [if_pos rfl, if_pos (by omega)]
  ·rw [if_neg e]; exact h4 j (by omega)
theorem RowK.cell {W : World} {tb n k : Nat} {f : Nat → Nat} (h : RowK W tb n f k) (j : Nat) (hj : j < n) : ∃ x : Nat, W.cell? ⟨tb, j, none⟩ = some (.int .u8 (x : Int)) := by
 obtain ⟨cs, h1, h2, h3, h4⟩ := h
 obtain ⟨x, hx⟩ := h3 j hj
 exact ⟨x, by rw [cell_of h1, hx]⟩
theorem RowK.frozen {W : World} {tb n k : Nat} {f : Nat → Nat} (h : RowK W tb n f k) (j : Nat) : W.frozen? ⟨tb, j, none⟩ = false := by
 obtain ⟨cs, h1, _⟩ := h
 exact frozen_of h1 j
theorem rowK_new (w : World) (n : Nat) (f : Nat → Nat) : RowK (w.alloc (.cells (u8s (List.replicate n 0)).toArray 5)) w.heap.size n f 0 :=
 ⟨_, World.alloc_heap_new w _, by simp [u8s], fun j hj => ⟨0, by simp [u8s, hj]⟩, fun j hj => by omega⟩
theorem RowK.owns {W : World} {tb n : Nat} {f : Nat → Nat} (h : RowK W tb n f n) (hn : n ≤ 1099511627776) : W.ownsRow 0 5 1 (.slice (some ⟨tb, 0, none⟩) n n) n (u8s ((List.range n).map f)) := by
 obtain ⟨cs, h1, h2, h3, h4⟩ := h
 have hl : ((List.range n).map f).length = n := by simp
 have e : cs.toList.take n = u8s ((List.range n).map f) := by
  refine List.ext_getElem? fun j => ?_
  rw [List.getElem?_take]
  by_cases hj : j < n
  ·rw [if_pos hj, Array.getElem?_toList, h4 j hj, u8s_at _ j (by omega)]
   simp [hj]
  ·rw [if_neg hj, List.getElem?_eq_none (by rw [u8s_length, hl]; omega)]
 have := owns_mk (M := (List.range n).map f) h1 (by rw [hl]; exact Nat.le_refl n) (show n ≤ maxLen by unfold maxLen; omega) h2 (by rw [hl]; exact e)
 rw [hl] at this
 exact this

theorem ahead_next (x y N m : Nat) (hx : x < 2 ^ m) (hm : m ≤ 11) (hN : N ≤ 11) (hy : y < 2 ^ N) :
  bits .and .u64 (bits .or .u64 (IntKind.u64.wrap ((x : Int) * 2 ^ N)) (y : Int)) (IntKind.u64.wrap (IntKind.u64.wrap (2 ^ m) - 1)) = (((x * 2 ^ N + y) % 2 ^ m : Nat) : Int) := by
 have hm2 : 2 ^ m ≤ 2 ^ 11 := Nat.pow_le_pow_right (by omega) hm
 have hN2 : 2 ^ N ≤ 2 ^ 11 := Nat.pow_le_pow_right (by omega) hN
 have hm0 := Nat.two_pow_pos m
 have hx2 : x < 4096 := by omega
 have hxN : x * 2 ^ N ≤ 4096 * 2 ^ 11 := Nat.mul_le_mul (by omega) hN2
 have e1 : IntKind.u64.wrap ((x : Int) * 2 ^ N) = ((x * 2 ^ N : Nat) : Int) := by
  have e : (x : Int) * 2 ^ N = ((x * 2 ^ N : Nat) : Int) := by simp
  rw [e]
  generalize x * 2 ^ N = z at hxN
  clear hx hy hm2 hN2 hm0
  rw [IntKind.wrap_u64]; omega
 have e2 : IntKind.u64.wrap (IntKind.u64.wrap (2 ^ m) - 1) = ((2 ^ m - 1 : Nat) : Int) := by
  have e : (2 : Int) ^ m = ((2 ^ m : Nat) : Int) := by simp
  rw [e]
  clear hx e
  generalize 2 ^ m = z at hm2 hm0
  rw [IntKind.wrap_u64, IntKind.wrap_u64]; omega
 rw [e1, e2, or_join x y N hx2 (by omega) hy]
 refine and_mask _ m ?_ (by omega)
 have : y < 2048 := Nat.lt_of_lt_of_le hy hN2
 omega

set_option maxRecDepth 100000 in
set_option maxHeartbeats 4000000 in
theorem readWords_any (rb g : Nat) (bs : List Nat) (a : Option Addr) (cap gb off : Nat) (ws : List Nat) (m n : Nat) (w : World) (hR : At w rb g bs 0) (hB : Bytes w a cap gb off ws) (hc : IsCode ws m) (hn : n ≤ 131072) (hgb : gb ≠ rb) :
  Calls Tryz.prog 96 #[.pointer (some ⟨rb, 0, none⟩), .slice a ws.length cap, .int .i64 (m : Int), .int .i64 (n : Int)] w fun e w' => ∃ v, e = .returned v ∧ w'.ownsRow 0 5 1 v n (u8s ((List.range n).map (symU ws m bs))) ∧ At w' rb g bs (posU ws m bs n + m) ∧ Keep (fun k => k = rb) w w' ∧ ∀ k, v.ownBlock = some k → w.heap.size ≤ k := by
 have HC := (show Hid (Calls Tryz.prog 111 _ w _) from cellsOf_any a cap gb off ws m w hB hc)
 have HH := (show Hid (At w rb g bs 0 ∧ IsCode ws m) from ⟨hR, hc⟩)
 have hm11 := hc.m11
 obtain ⟨k, hk⟩ : ∃ k, k = ws.length := ⟨_, rfl⟩
 rw [← hk] at HC ⊢
 have hmk : ∀ W : World, _ := fun W => run_make_u8 n n (Nat.le_refl _) (by omega) W
 have hnI : (n : Int) ≤ 131072 := by omega
 clear hR hB hc hk
 go_enter Tryz.func96, Tryz.ntmps96
 go_wp2_with fail
 refine HC.out.mono ?_
 rintro e w1 ⟨cs, rfl, h2, h3, hK1⟩
 have h4 := cells_one h2 h3
 have hz : Tryz.zeroCells207.size = cs.size := by rw [h2, zero105, List.size_toArray]; exact (flat2 2048 _ _).1
 have hi105 : (Tryz.prog.info? 207).map (·.size) = some cs.size := by rw [h2]; exact info105
 have hR1 : At w1 rb g bs 0 := HH.out.1.keep hK1 (fun h => h) (fun h => h)
 have HS := (show Hid (Tryz.zeroCells207.size = cs.size ∧ (Tryz.prog.info? 207).map (·.size) = some cs.size ∧ cs.all (·.oneCell') = true) from ⟨hz, hi105, h4⟩)
 have HT := (show Hid (cs.size = 4096 ∧ (∀ i, i < 2048 → cs[i * 2]? = some (.int .u8 ((tS (cellsL ws (ordC ws m)) i : Nat) : Int)) ∧ cs[i * 2 + 1]? = some (.int .u8 ((tN ws m (cellsL ws (ordC ws m)) i : Nat) : Int)))) from ⟨h2, h3⟩)
 have HK1 := (show Hid (Keep noBlock w w1) from hK1)
 clear hz hi105 h2 h3 h4 hK1 HC
 go_wp2_with (refine wpList_store_row rfl 207 (.tmp 9) (.tmp 16) rfl w1.heap.size cs rfl rfl 207 Tryz.zeroCells207 (World.alloc_heap_new w1 _) HS.out.2.1 HS.out.1 HS.out.2.2 ?_; rw [World.setRow_alloc_new])
 obtain ⟨cb, hcb⟩ : ∃ cb, cb = w1.heap.size := ⟨_, rfl⟩
 have hkA : Keep noBlock w1 ((w1.alloc (.cells cs 207)).alloc (.cells (u8s (List.replicate n 0)).toArray 5)) := ((Keep.refl _ w1).alloc _).alloc _
 have hCel : CelA ((w1.alloc (.cells cs 207)).alloc (.cells (u8s (List.replicate n 0)).toArray 5)) cb (tS (cellsL ws (ordC ws m))) (tN ws m (cellsL ws (ordC ws m))) := by
  rw [hcb]
  exact ⟨cs, alloc_far (World.alloc_heap_new w1 _) _, HT.out⟩
 have hRow : RowK ((w1.alloc (.cells cs 207)).alloc (.cells (u8s (List.replicate n 0)).toArray 5)) (cb + 1) n (symU ws m bs) 0 := by
  have := rowK_new (w1.alloc (.cells cs 207)) n (symU ws m bs)
  rw [World.size_alloc, ← hcb] at this
  exact this
 have hszA : ((w1.alloc (.cells cs 207)).alloc (.cells (u8s (List.replicate n 0)).toArray 5)).heap.size = cb + 2 := by simp only [World.size_alloc]; rw [hcb]
 have hrbw : rb < w.heap.size ∧ g < w.heap.size := by
  obtain ⟨sa, cp, _, ho⟩ := HH.out.1.is.obj
  exact ⟨obj_lt ho, HH.out.1.is.lt⟩
 have hcbw : w.heap.size ≤ cb := by rw [hcb]; exact HK1.out.size
 refine ((hR1.keep hkA (fun h => h) (fun h => h)).bits m (by omega) (by omega)).mono ?_
 rintro e w2 ⟨rfl, hR2, hK2⟩
 rw [← hcb]
 have HF := (show Hid (CelA w2 cb (tS (cellsL ws (ordC ws m))) (tN ws m (cellsL ws (ordC ws m))) ∧ RowK w2 (cb + 1) n (symU ws m bs) 0 ∧ At w2 rb g bs (posU ws m bs 0 + m) ∧ Keep (fun k => k = rb) w w2) from
  ⟨hCel.keep hK2 (by omega), hRow.keep hK2 (by omega), hR2, ((HK1.out.trans' hkA).mono (fun _ _ h => h.elim)).trans hK2 (fun _ _ h => h)⟩)
 have HZ := (show Hid (rb < w.heap.size ∧ g < w.heap.size ∧ w.heap.size ≤ cb) from ⟨hrbw.1, hrbw.2, hcbw⟩)
 have HP0 := (show Hid (strm bs 0 m = strm bs (posU ws m bs 0) m) from rfl)
 clear hkA hCel hRow hszA hR1 hR2 hK2 hcb HS HT HK1 hrbw hcbw
 go_wp2_with fail
 go_loopw [11, 24] (fun v11 v24 wr => ∃ (i x : Nat), v24 = .int .i64 (i : Int) ∧ v11 = .int .u64 (x : Int) ∧ i ≤ n ∧ Hid (x = strm bs (posU ws m bs i) m ∧ CelA wr cb (tS (cellsL ws (ordC ws m))) (tN ws m (cellsL ws (ordC ws m))) ∧ RowK wr (cb + 1) n (symU ws m bs) i ∧ At wr rb g bs (posU ws m bs i + m) ∧ Keep (fun k => k = rb) w wr)) (fun _ v24 _ => n - (intOf v24).toNat)
 case atStart => exact ⟨0, strm bs 0 m, rfl, rfl, Nat.zero_le _, HP0.out, HF.out⟩
 case round =>
  clear HF HP0
  obtain ⟨i, x, rfl, rfl, hi, HC⟩ := hrel
  by_cases hlt : i < n
  ·have hltI : (i : Int) < (n : Int) := by omega
   obtain ⟨hx, hCel, hRow, hAt, hKw⟩ := HC.out
   have hx2m : x < 2 ^ m := by rw [hx]; exact strm_lt _ _ _
   have hp11 : 2 ^ m ≤ 2048 := Nat.pow_le_pow_right (n := 2) (j := 11) (by omega) hm11
   have hx2 : x < 2048 := Nat.lt_of_lt_of_le hx2m hp11
   obtain ⟨e1, e2⟩ := HH.out.2.cell x hx2m
   obtain ⟨c1, c2⟩ := hCel.cells x hx2
   rw [e1] at c1
   rw [e2] at c2
   have hsy : symU ws m bs i = symX ws m x := by rw [hx]; rfl
   obtain ⟨hs1, hs2, -, -⟩ := HH.out.2.sym x hx2m
   have hs256 : symX ws m x < 256 := by have := HH.out.2.len; omega
   have hwm := HH.out.2.wt_le _ hs1
   obtain ⟨N, hN⟩ : ∃ N, N = m + 1 - wt ws (symX ws m x) := ⟨_, rfl⟩
   have hN12 : 1 ≤ N ∧ N ≤ m := by clear hx2m hp11; omega
   have hps : posU ws m bs (i + 1) = posU ws m bs i + N := by rw [posU_succ, hsy, hN]
   have hpl := posU_le ws m bs i
   have hpl2 : i * (m + 1) ≤ 131072 * 12 := Nat.mul_le_mul (by omega) (by omega)
   have hst := hRow.step hlt
   rw [hsy] at hst
   rw [← hN] at c2
   obtain ⟨sy, hsyy⟩ : ∃ sy, sy = symX ws m x := ⟨_, rfl⟩
   rw [← hsyy] at c1 hst hs256
   obtain ⟨nb, hnb⟩ : ∃ nb, nb = wr.heap.size := ⟨_, rfl⟩
   have hcbn : cb + 1 < nb := by obtain ⟨cs0, h0, _⟩ := hRow; rw [hnb]; exact obj_lt h0
   have hz := HZ.out
   have hkn : Keep noBlock wr (wr.alloc (.cells #[.int .u8 (sy : Int), .int .u8 (N : Int)] 206)) := (Keep.refl _ wr).alloc _
   have hRow2 := hRow.keep hkn (fun h => h)
   obtain ⟨x0, c5⟩ := hRow2.cell i hlt
   have f5 := hRow2.frozen i
   have hst2 := hRow2.step hlt
   rw [hsy, ← hsyy] at hst2
   have on := World.alloc_heap_new wr (.cells #[.int .u8 (sy : Int), .int .u8 (N : Int)] 206)
   rw [← hnb] at on
   have hks : Keep (fun k => k = cb + 1) (wr.alloc (.cells #[.int .u8 (sy : Int), .int .u8 (N : Int)] 206)) ((wr.alloc (.cells #[.int .u8 (sy : Int), .int .u8 (N : Int)] 206)).setCell ⟨cb + 1, i, none⟩ (.int .u8 (sy : Int))) := (Keep.refl (fun k => k = cb + 1) _).setCell (p := ⟨cb + 1, i, none⟩) (fun _ => rfl) _
   have HW4 := (show Hid (∀ W4, W4 = ((wr.alloc (.cells #[.int .u8 (sy : Int), .int .u8 (N : Int)] 206)).setCell ⟨cb + 1, i, none⟩ (.int .u8 (sy : Int))) → W4.heap[nb]? = some (.cells #[.int .u8 (sy : Int), .int .u8 (N : Int)] 206 (0, 0)) ∧ CelA W4 cb (tS (cellsL ws (ordC ws m))) (tN ws m (cellsL ws (ordC ws m))) ∧ RowK W4 (cb + 1) n (symU ws m bs) (i + 1) ∧ At W4 rb g bs (posU ws m bs i + m) ∧ Keep (fun k => k = rb) w W4) from by
    rintro W4 rfl
    exact ⟨hks.obj on (by omega), (hCel.keep hkn (fun h => h)).keep hks (by omega), hst2, (hAt.keep hkn (fun h => h) (fun h => h)).keep hks (by omega) (by omega), ((hKw.trans hkn (fun _ _ h => h.elim)).trans hks (fun i hi e => by omega))⟩)
   have HX := (show Hid (x = strm bs (posU ws m bs i) m ∧ posU ws m bs (i + 1) = posU ws m bs i + N ∧ posU ws m bs i ≤ 1572864 ∧ x < 2 ^ m) from ⟨hx, hps, Nat.le_trans hpl (Nat.le_trans hpl2 (by decide)), hx2m⟩)
   have hxI : (x : Int) < 2048 := by clear hx2m hp11; omega
   have hNI : (N : Int) ≤ 11 := by clear hx2m hp11; omega
   have hsI : (sy : Int) < 256 := by clear hx2m hp11; omega
   clear hx hCel hRow hAt hKw hx2m hp11 e1 e2 hsy hs1 hs2 hwm hN hps hpl hpl2 hst hsyy hkn hRow2 hst2 hks HC on hz
   have HNB := (show Hid _ from hnb)
   clear hnb
   go_wp2_with fail
   generalize hW4 : (wr.alloc (.cells #[.int .u8 (sy : Int), .int .u8 (N : Int)] 206)).setCell ⟨cb + 1, i, none⟩ (.int .u8 (sy : Int)) = W4
   rw [← HNB.out]
   clear HNB
   obtain ⟨q1, q2, q3, q4, q5⟩ := HW4.out W4 hW4.symm
   have d2 := cell_of q1 1
   simp only [List.getElem?_toArray, List.getElem?_cons_zero, List.getElem?_cons_succ] at d2
   have HB := (show Hid (∀ q, Calls Tryz.prog 68 #[.pointer (some ⟨rb, 0, none⟩), .int .i64 (N : Int)] (W4.drewN q) _) from fun q => (q4.drewN q).bits N (by omega) (by have := HX.out; omega))
   have HQ := (show Hid (W4.heap[nb]? = some (.cells #[.int .u8 (sy : Int), .int .u8 (N : Int)] 206 (0, 0)) ∧ CelA W4 cb (tS (cellsL ws (ordC ws m))) (tN ws m (cellsL ws (ordC ws m))) ∧ RowK W4 (cb + 1) n (symU ws m bs) (i + 1) ∧ Keep (fun k => k = rb) w W4 ∧ rb < cb ∧ rb < nb) from ⟨q1, q2, q3, q5, by have := HZ.out; omega, by have := HZ.out; omega⟩)
   have HW := (show Hid (IntKind.i64.wrap (N : Int) = (N : Int)) from (by rw [IntKind.wrap_i64]; omega : IntKind.i64.wrap (N : Int) = (N : Int)))
   clear HW4 hW4 q1 q2 q3 q4 q5 c1 c2 c5 f5
   go_region_held3 (fun W => W.cell? ⟨nb, 1, none⟩ = some (.int .u8 (N : Int))) (first | exact d2 | exact d3) ((first
    | (go_at_call 68; rw [HW.out]; refine (HB.out 1).mono ?_; rintro e w3 ⟨rfl, hR3, hK3⟩; have HD3 := (show Hid (At w3 rb g bs (posU ws m bs i + m + N) ∧ Keep (fun k => k = rb) (W4.drewN 1) w3) from ⟨hR3, hK3⟩); clear hR3 hK3; have d3 : w3.cell? ⟨nb, 1, none⟩ = some (.int .u8 (N : Int)) := by have := cell_of (HD3.out.2.obj HQ.out.1 (by have := HQ.out; omega)) 1; simpa using this)))
   have hyl := strm_lt bs (posU ws m bs i + m) N
   have hnx := ahead_next x _ N m HX.out.2.2.2 hm11 (by omega) hyl
   have hsh := strm_shift bs (posU ws m bs i) m N
   rw [← HX.out.1] at hsh
   rw [hsh, ← HX.out.2.1] at hnx
   rw [hnx]
   clear hnx hsh hyl
   go_wp2_with fail
   go_roundw
   case rel =>
    obtain ⟨q1, q2, q3, q5, q6, q7⟩ := HQ.out
    obtain ⟨hA3, hK3⟩ := HD3.out
    have hK3' : Keep (fun k => k = rb) W4 w3 := ((keep_drewN W4 1).mono (fun _ _ h => h.elim)).trans hK3 (fun _ _ h => h)
    exact ⟨i + 1, _, by go_num, rfl, by omega, rfl, q2.keep hK3' (by omega), q3.keep hK3' (by omega), by rw [HX.out.2.1, show posU ws m bs i + N + m = posU ws m bs i + m + N from by omega]; exact hA3, q5.trans hK3' (fun _ _ h => h)⟩
   case measure => simp [intOf]; omega
  ·obtain rfl : i = n := by omega
   have hltI : ¬ (i : Int) < (i : Int) := by omega
   go_wp2_with fail
   go_ret
   obtain ⟨hx, hCel, hRow, hAt, hKw⟩ := HC.out
   exact ⟨_, rfl, hRow.owns (by omega), hAt, hKw, fun j hj => by
    obtain rfl : cb + 1 = j := by simpa [Value.ownBlock] using hj
    have := HZ.out; omega⟩

end Go.Proofs.YtnjilcokkhodmaaGreatDoor
